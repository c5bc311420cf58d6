/-
  The walks over the document's reading of numbers.
-/
import Derived.Test.YtlebbkbbmgmmjabRefW2
import Derived.Deep.RegionHeld3
namespace Go.Proofs.Ytlebbkbbmgmmjab
open Go.RowKit

def okB (bs : List UInt8) (k : Nat) : Bool := decide (valOf (bs.take k) ≤ 1000000000) && (encN (valOf (bs.take k)) == bs.take k)
theorem okB_iff (bs : List UInt8) (k : Nat) : okB bs k = true ↔ okAt bs k := by simp [okB, okAt]
theorem okB_no {bs : List UInt8} {k : Nat} (h : okB bs k = false) : ¬ okAt bs k := fun e => by rw [(okB_iff bs k).2 e] at h; cases h

/-- What NumberAt answers. -/
def natV : Option (Nat × Nat) → Value
  | none => .tuple #[.int .i64 0, .int .i64 0]
  | some (n, k) => .tuple #[.int .i64 n, .int .i64 k]

set_option maxRecDepth 100000 in
set_option maxHeartbeats 400000 in
theorem NumberAt_any (v : Value) (bs : List UInt8) (w : World) (hrd : Rd w v (bc bs)) :
    Calls Try.prog 84 #[v] w fun e w' => e = .returned (natV (numAt bs)) ∧ Below w.heap.size w w' := by
  obtain ⟨ao, cap, hv, hc1, hc2, hcell⟩ := hrd.open
  rw [bc_length] at hc1 hv hcell
  subst hv
  unfold maxLen at hc2
  go_enter Try.func84, Try.ntmps84
  go_wp2_with fail
  go_loopw [4] (fun i wr => ∃ k : Nat, 1 ≤ k ∧ k ≤ 6 ∧ i = .int .i64 k ∧ (∀ k', 1 ≤ k' → k' < k → k' ≤ bs.length → ¬ okAt bs k') ∧ Below w.heap.size w wr) (fun i _ => 6 - (intOf i).toNat)
  case atStart => exact ⟨1, by omega, by omega, rfl, fun k' h1 h2 => by omega, Below.refl _ _⟩
  case round =>
    obtain ⟨k, hk1, hk6, rfl, hno, hbel⟩ := hrel
    have HN := hide hno
    clear hno
    by_cases hlt : k ≤ 5 ∧ k ≤ bs.length
    · obtain ⟨hl1, hl2⟩ := hlt
      go_wp2_with fail
      go_loop [5, 6] (fun n i => ∃ j : Nat, j ≤ k ∧ i = .int .i64 ((j : Int) - 1) ∧ n = .int .i64 (valOf ((bs.take k).drop j))) (fun _ i => (intOf i + 1).toNat)
      case atStart => exact ⟨k, Nat.le_refl _, rfl, by rw [List.drop_eq_nil_of_le (by simp; omega)]; rfl⟩
      case round =>
        obtain ⟨j, hj, rfl, rfl⟩ := hrel
        by_cases hj0 : j = 0
        · subst hj0
          rw [List.drop_zero]
          have hvb := valOf_bound (l := bs.take k) (by simp; omega)
          have hok : okB bs k = (decide (valOf (bs.take k) ≤ 1000000000) && (encN (valOf (bs.take k)) == bs.take k)) := rfl
          have hsome := @okAt_some bs k
          generalize valOf (bs.take k) = N at *
          have HS := hide hsome
          have HO := hide hok
          have hrr := hrd.below hbel
          have hV := hrr.upto (hi := k) hl2
          rw [bc_take] at hV
          have hsl := run_slice_upto (P := Try.prog) Try.underlying25 (by kernel_rfl) Try.info5 ao bs.length cap k k rfl (by omega)
          generalize sliced ao 0 k cap 1 = V at hV hsl
          clear hsome hok hcell hrr
          have hN : (N : Int) < 34359738368 := by omega
          go_wp2_with fail
          go_cut [41] (fun s wc => s = .bool (okB bs k) ∧ Below w.heap.size w wc)
          case first =>
            by_cases h9 : (N : Int) ≤ 1000000000
            · have hd : decide ((N : Int) ≤ 1000000000) = true := by simpa using h9
              go_region_held3 (fun _ => True) (trivial) (first | (go_at_call 68; refine (Number_any N _ (by omega)).mono ?_; rintro e w2 ⟨v2, rfl, hr2, hb2, hn2⟩; have hV2 := Rd.below (v := V) (by exact hV) hb2) | (go_at_call 14; refine (Same_any _ _ (encN N) (bs.take k) _ ?_ ?_).mono ?_; exact hr2; exact hV2; rintro e w3 ⟨rfl, rfl⟩))
              go_wp2_with fail
              go_meet
              case rel => exact ⟨by rw [HO.out, show decide (N ≤ 1000000000) = true by simp; omega, Bool.true_and], (hbel.drew).trans (Below.mono hb2 hbel.size)⟩
            · have hd : decide ((N : Int) ≤ 1000000000) = false := by simpa using h9
              go_quiet (fail)
              go_wp2_with fail
              go_meet
              case rel => exact ⟨by rw [HO.out, show decide (N ≤ 1000000000) = false by simp; omega, Bool.false_and], below_drewN hbel _⟩
          case rest =>
            obtain ⟨rfl, hbel2⟩ := hcut
            cases hb : okB bs k with
            | true =>
              have e1 := HS.out ((okB_iff bs k).1 hb) hl2
              have HE := hide e1
              clear e1 hb
              go_wp2_with fail
              go_ret2
              exact ⟨by rw [HE.out]; rfl, hbel2⟩
            | false =>
              have HE := hide (okB_no hb)
              clear hb
              go_wp2_with fail
              go_roundw
              case rel =>
                refine ⟨k + 1, by omega, by omega, by go_num, fun k' h1 h2 h3 => ?_, hbel2⟩
                by_cases e : k' = k
                · subst e; exact HE.out
                · exact HN.out k' h1 (by omega) h3
              case measure => simp [intOf]; omega
        · obtain ⟨i, rfl⟩ : ∃ i, j = i + 1 := ⟨j - 1, by omega⟩
          rw [show ((i + 1 : Nat) : Int) - 1 = (i : Int) by omega]
          have hi : i < bs.length := by omega
          obtain ⟨b, off, rfl, hb, hcl⟩ := hcell i hi
          have hik : i < (bs.take k).length := by simp; omega
          have hvd := valOf_drop (bs.take k) i hik
          have hvb := valOf_bound (l := (bs.take k).drop (i + 1)) (by simp; omega)
          have hx : (bs.take k)[i] = bs[i] := List.getElem_take
          rw [hx] at hvd
          have hck : wr.cell? ⟨b, off + i, none⟩ = some (.int .u8 (bs[i].toNat : Int)) := by
            rw [hbel.cell (by exact hb)]
            exact hcl i _ (by simp [bc, hi])
          have hxl := bs[i].toNat_lt
          generalize bs[i].toNat = x at *
          generalize valOf ((bs.take k).drop (i + 1)) = N at *
          have HV := hide hvd
          clear hvd hx hcl hcell
          have hN : (N : Int) < 34359738368 := by omega
          go_wp2_with fail
          go_round
          case rel => exact ⟨i, by omega, rfl, by rw [HV.out]; go_num⟩
          case measure => simp [intOf]
    · go_wp2_with fail
      all_goals
        go_ret2
        exact ⟨by rw [numAt_none (fun k' h1 h2 h3 => HN.out k' h1 (by omega) h3)]; rfl, hbel⟩

/-- What ReadNumbers answers, from what is left on: the numbers, and how many are ahead of what is none. -/
def refNums : Nat → List UInt8 → List Int → List Int × Int
  | 0, _, _ => ([], 0)
  | f + 1, bs, acc =>
    if bs = [] then (acc, -1)
    else match numAt bs with
      | none => ([], (acc.length : Int))
      | some (n, k) => refNums f (bs.drop k) (acc ++ [(n : Int)])

theorem refNums_end {f : Nat} {acc : List Int} : refNums (f + 1) [] acc = (acc, -1) := by
  rw [refNums, if_pos rfl]

theorem refNums_bad {f : Nat} {bs : List UInt8} {acc : List Int} (h : bs ≠ []) (hn : numAt bs = none) : refNums (f + 1) bs acc = ([], (acc.length : Int)) := by
  rw [refNums, if_neg h, hn]

theorem refNums_step {f : Nat} {bs : List UInt8} {acc : List Int} {n k : Nat} (h : bs ≠ []) (hn : numAt bs = some (n, k)) : refNums (f + 1) bs acc = refNums f (bs.drop k) (acc ++ [(n : Int)]) := by
  rw [refNums, if_neg h, hn]


end Go.Proofs.Ytlebbkbbmgmmjab
