/-
  The walks over the document's reading of numbers.
-/
import Derived.Test.YtlebbkbbmgmmjaaRefW2
import Derived.Deep.RegionHeld3
namespace Go.Proofs.Ytlebbkbbmgmmjaa
open Go.RowKit

def okB (bs : List UInt8) (k : Nat) : Bool := decide (valOf (bs.take k) ≤ 1000000000) && (encN (valOf (bs.take k)) == bs.take k)
theorem okB_iff (bs : List UInt8) (k : Nat) : okB bs k = true ↔ okAt bs k := by simp [okB, okAt]
theorem okB_no {bs : List UInt8} {k : Nat} (h : okB bs k = false) : ¬ okAt bs k := fun e => by rw [(okB_iff bs k).2 e] at h; cases h

/-- What NumberAt answers. -/
def natV : Option (Nat × Nat) → Value
  | none => .tuple #[.int .i64 0, .int .i64 0]
  | some (n, k) => .tuple #[.int .i64 n, .int .i64 k]

set_option maxRecDepth 100000 in
set_option maxHeartbeats 400000 in
theorem NumberAt_any (v : Value) (bs : List UInt8) (w : World) (hrd : Rd w v (bc bs)) :
    Calls Try.prog 56 #[v] w fun e w' => e = .returned (natV (numAt bs)) ∧ Below w.heap.size w w' := by
  obtain ⟨ao, cap, hv, hc1, hc2, hcell⟩ := hrd.open
  rw [bc_length] at hc1 hv hcell
  subst hv
  unfold maxLen at hc2
  go_enter Try.func56, Try.ntmps56
  go_wp2_with fail
  go_loopw [4] (fun i wr => ∃ k : Nat, 1 ≤ k ∧ k ≤ 6 ∧ i = .int .i64 k ∧ (∀ k', 1 ≤ k' → k' < k → k' ≤ bs.length → ¬ okAt bs k') ∧ Below w.heap.size w wr) (fun i _ => 6 - (intOf i).toNat)
  case atStart => exact ⟨1, by omega, by omega, rfl, fun k' h1 h2 => by omega, Below.refl _ _⟩
  case round =>
    obtain ⟨k, hk1, hk6, rfl, hno, hbel⟩ := hrel
    have HN := hide hno
    clear hno
    by_cases hlt : k ≤ 5 ∧ k ≤ bs.length
    · obtain ⟨hl1, hl2⟩ := hlt
      go_wp2_with fail
      go_loop [5, 6] (fun n i => ∃ j : Nat, j ≤ k ∧ i = .int .i64 ((j : Int) - 1) ∧ n = .int .i64 (valOf ((bs.take k).drop j))) (fun _ i => (intOf i + 1).toNat)
      case atStart => exact ⟨k, Nat.le_refl _, rfl, by rw [List.drop_eq_nil_of_le (by simp; omega)]; rfl⟩
      case round =>
        obtain ⟨j, hj, rfl, rfl⟩ := hrel
        by_cases hj0 : j = 0
        · subst hj0
          rw [List.drop_zero]
          have hvb := valOf_bound (l := bs.take k) (by simp; omega)
          have hok : okB bs k = (decide (valOf (bs.take k) ≤ 1000000000) && (encN (valOf (bs.take k)) == bs.take k)) := rfl
          have hsome := @okAt_some bs k
          generalize valOf (bs.take k) = N at *
          have HS := hide hsome
          have HO := hide hok
          have hrr := hrd.below hbel
          have hV := hrr.upto (hi := k) hl2
          rw [bc_take] at hV
          have hsl := run_slice_upto (P := Try.prog) Try.underlying23 (by kernel_rfl) Try.info5 ao bs.length cap k k rfl (by omega)
          generalize sliced ao 0 k cap 1 = V at hV hsl
          clear hsome hok hcell hrr
          have hN : (N : Int) < 34359738368 := by omega
          go_wp2_with fail
          go_cut [41] (fun s wc => s = .bool (okB bs k) ∧ Below w.heap.size w wc)
          case first =>
            by_cases h9 : (N : Int) ≤ 1000000000
            · have hd : decide ((N : Int) ≤ 1000000000) = true := by simpa using h9
              go_region_held3 (fun _ => True) (trivial) (first | (go_at_call 17; refine (Number_any N _ (by omega)).mono ?_; rintro e w2 ⟨v2, rfl, hr2, hb2, hn2⟩; have hV2 := Rd.below (v := V) (by exact hV) hb2) | (go_at_call 35; refine (Same_any _ _ (encN N) (bs.take k) _ ?_ ?_).mono ?_; exact hr2; exact hV2; rintro e w3 ⟨rfl, rfl⟩))
              go_wp2_with fail
              go_meet
              case rel => exact ⟨by rw [HO.out, show decide (N ≤ 1000000000) = true by simp; omega, Bool.true_and], (hbel.drew).trans (Below.mono hb2 hbel.size)⟩
            · have hd : decide ((N : Int) ≤ 1000000000) = false := by simpa using h9
              go_quiet (fail)
              go_wp2_with fail
              go_meet
              case rel => exact ⟨by rw [HO.out, show decide (N ≤ 1000000000) = false by simp; omega, Bool.false_and], below_drewN hbel _⟩
          case rest =>
            obtain ⟨rfl, hbel2⟩ := hcut
            cases hb : okB bs k with
            | true =>
              have e1 := HS.out ((okB_iff bs k).1 hb) hl2
              have HE := hide e1
              clear e1 hb
              go_wp2_with fail
              go_ret2
              exact ⟨by rw [HE.out]; rfl, hbel2⟩
            | false =>
              have HE := hide (okB_no hb)
              clear hb
              go_wp2_with fail
              go_roundw
              case rel =>
                refine ⟨k + 1, by omega, by omega, by go_num, fun k' h1 h2 h3 => ?_, hbel2⟩
                by_cases e : k' = k
                · subst e; exact HE.out
                · exact HN.out k' h1 (by omega) h3
              case measure => simp [intOf]; omega
        · obtain ⟨i, rfl⟩ : ∃ i, j = i + 1 := ⟨j - 1, by omega⟩
          rw [show ((i + 1 : Nat) : Int) - 1 = (i : Int) by omega]
          have hi : i < bs.length := by omega
          obtain ⟨b, off, rfl, hb, hcl⟩ := hcell i hi
          have hik : i < (bs.take k).length := by simp; omega
          have hvd := valOf_drop (bs.take k) i hik
          have hvb := valOf_bound (l := (bs.take k).drop (i + 1)) (by simp; omega)
          have hx : (bs.take k)[i] = bs[i] := List.getElem_take
          rw [hx] at hvd
          have hck : wr.cell? ⟨b, off + i, none⟩ = some (.int .u8 (bs[i].toNat : Int)) := by
            rw [hbel.cell (by exact hb)]
            exact hcl i _ (by simp [bc, hi])
          have hxl := bs[i].toNat_lt
          generalize bs[i].toNat = x at *
          generalize valOf ((bs.take k).drop (i + 1)) = N at *
          have HV := hide hvd
          clear hvd hx hcl hcell
          have hN : (N : Int) < 34359738368 := by omega
          go_wp2_with fail
          go_round
          case rel => exact ⟨i, by omega, rfl, by rw [HV.out]; go_num⟩
          case measure => simp [intOf]
    · go_wp2_with fail
      all_goals
        go_ret2
        exact ⟨by rw [numAt_none (fun k' h1 h2 h3 => HN.out k' h1 (by omega) h3)]; rfl, hbel⟩

/-- What ReadNumbers answers, from what is left on: the numbers, and how many are ahead of what is none. -/
def refNums : Nat → List UInt8 → List Int → List Int × Int
  | 0, _, _ => ([], 0)
  | f + 1, bs, acc =>
    if bs = [] then (acc, -1)
    else match numAt bs with
      | none => ([], (acc.length : Int))
      | some (n, k) => refNums f (bs.drop k) (acc ++ [(n : Int)])

theorem refNums_end {f : Nat} {acc : List Int} : refNums (f + 1) [] acc = (acc, -1) := by
  rw [refNums, if_pos rfl]

theorem refNums_bad {f : Nat} {bs : List UInt8} {acc : List Int} (h : bs ≠ []) (hn : numAt bs = none) : refNums (f + 1) bs acc = ([], (acc.length : Int)) := by
  rw [refNums, if_neg h, hn]

theorem refNums_step {f : Nat} {bs : List UInt8} {acc : List Int} {n k : Nat} (h : bs ≠ []) (hn : numAt bs = some (n, k)) : refNums (f + 1) bs acc = refNums f (bs.drop k) (acc ++ [(n : Int)]) := by
  rw [refNums, if_neg h, hn]

set_option maxRecDepth 100000 in
set_option maxHeartbeats 400000 in
theorem ReadNumbers_any (v : Value) (bs : List UInt8) (w : World) (hrd : Rd w v (bc bs)) (hbl : bs.length ≤ 100000) :
    Calls Try.prog 18 #[v] w fun e w' => ∃ v', e = .returned (.tuple #[v', .int .i64 (refNums (bs.length + 1) bs []).2]) ∧ Rd w' v' (ic (refNums (bs.length + 1) bs []).1) ∧ Below w.heap.size w w' ∧ New w.heap.size v' := by
  go_enter Try.func18, Try.ntmps18
  go_wp2_with fail
  go_loopw [0, 4] (fun b o wr => ∃ (ds : List UInt8) (f : Nat) (acc : List Int), refNums (f + 1) ds acc = refNums (bs.length + 1) bs [] ∧ ds.length ≤ f ∧ acc.length + ds.length ≤ bs.length ∧ Rd w b (bc ds) ∧ wr.ownsRow w.heap.size 3 1 o acc.length (ic acc) ∧ Below w.heap.size w wr)
    (fun b _ _ => lenV b)
  case atStart => exact ⟨bs, bs.length, [], rfl, Nat.le_refl _, by simp, hrd, World.ownsRow_nil _ _ _ _, Below.refl _ _⟩
  case round =>
    obtain ⟨ds, f, acc, hgo, hf, hacc, hr, hown, hbel⟩ := hrel
    have HG := hide hgo
    clear hgo
    obtain ⟨ao, cap, hv, hc1, hc2, _⟩ := hr.open
    rw [bc_length] at hc1 hv
    subst hv
    unfold maxLen at hc2
    have hsz := hbel.size
    by_cases hkl : ds.length = 0
    · obtain rfl : ds = [] := List.eq_nil_of_length_eq_zero hkl
      have HE := hide (@refNums_end f acc)
      go_wp2_with fail
      go_ret2
      exact ⟨_, by rw [← HG.out, HE.out]; rfl, by rw [← HG.out, HE.out]; exact Rd.ofOwns hown, hbel, New.owns hown⟩
    · have hne : ds ≠ [] := by intro h; rw [h] at hkl; exact hkl rfl
      have HN := hide hne
      clear hne
      have hpos : (0 : Int) < (ds.length : Int) := by omega
      go_wp2_with fail
      refine (NumberAt_any _ ds wr (hr.below hbel)).mono ?_
      rintro e w1 ⟨rfl, hb1⟩
      have hbel1 := hbel.trans (hb1.mono hsz)
      have hown1 := owns_below hown hb1
      have hsz1 := hbel1.size
      cases hn : numAt ds with
      | none =>
        have HE := hide (@refNums_bad f ds acc HN.out hn)
        clear hn
        obtain ⟨ao2, cap2, hv2⟩ := owns_shape hown1
        subst hv2
        simp only [natV]
        go_wp2_with fail
        go_ret2
        exact ⟨_, by rw [← HG.out, HE.out]; rfl, by rw [← HG.out, HE.out]; exact Rd.nil _, hbel1, New.nil _⟩
      | some p =>
        obtain ⟨n, j⟩ := p
        have HE := hide (@refNums_step f ds acc n j HN.out hn)
        have hj := numAt_len hn
        clear hn
        simp only [natV]
        have hjb : ((j : Int) == 0) = false := beq_eq_false_iff_ne.2 (by omega)
        have hsl := run_slice_from (P := Try.prog) Try.underlying23 (by kernel_rfl) Try.info5 ao ds.length cap j j rfl hj.2.1
        have hV := hr.from (lo := j) hj.2.1
        rw [bc_drop] at hV
        have hlv : lenV (sliced ao j ds.length cap 1) = ds.length - j := rfl
        generalize sliced ao j ds.length cap 1 = V at hV hsl hlv
        have HLV := hide hlv
        clear hlv
        go_wp2_with (at_builtin; go_must (refine wpList_append_one hown1 Try.underlying22 Try.info3 rfl rfl rfl rfl rfl rfl (by omega) (by decide) hsz1 ?_); intro v3 w3 ho3 hb3 hg3; clear hg3)
        rw [ic_snoc] at ho3
        go_roundw
        case rel =>
          obtain ⟨f', rfl⟩ : ∃ f', f = f' + 1 := ⟨f - 1, by omega⟩
          refine ⟨ds.drop j, f', acc ++ [(n : Int)], ?_, by rw [List.length_drop]; omega, by rw [List.length_drop]; simp; omega, hV, by simpa using ho3, hbel1.trans hb3⟩
          rw [← HG.out, HE.out]
        case measure => rw [HLV.out]; simp only [lenV]; omega

end Go.Proofs.Ytlebbkbbmgmmjaa
