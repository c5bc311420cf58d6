/-
  Texts joined: RefMath, RefW1, RefW2, RefW3, LawBack, LawNums1, LawNums.
-/
import Derived.Test.YtlebbkbbmgmmjadMWalNotes4
import Derived.Deep.RegionHeld3
import Derived.Deep.DeepCutAuto
import Derived.Deep.CutBlock
/-
  The document's way to read a number: by trying; plain mathematics.
-/
namespace Go.Proofs.Ytlebbkbbmgmmjad

/-- What bytes of seven bits each come to, the lowest first. -/
def valOf : List UInt8 → Nat
  | [] => 0
  | x :: r => x.toNat % 128 + 128 * valOf r

theorem valOf_lt : ∀ (l : List UInt8), valOf l < 128 ^ l.length
  | [] => by simp [valOf]
  | x :: r => by
    have := valOf_lt r
    simp only [valOf, List.length_cons, Nat.pow_succ]
    omega

theorem valOf_enc : ∀ (g n : Nat), n < 128 ^ (g + 1) → valOf (enc g n) = n
  | 0, n, h => by
    have h : n < 128 := by simpa using h
    rw [enc_small 0 n h]
    simp only [valOf]
    rw [u8_ofNat_toNat n (by omega)]
    omega
  | g + 1, n, h => by
    by_cases h1 : n < 128
    · rw [enc_small _ n h1]
      simp only [valOf]
      rw [u8_ofNat_toNat n (by omega)]
      omega
    · rw [enc_big g n (by omega)]
      simp only [valOf]
      rw [u8_ofNat_toNat _ (by omega), valOf_enc g (n / 128) (by rw [Nat.pow_succ] at h; omega)]
      omega

/-- Are the first k bytes a written number? -/
def okAt (bs : List UInt8) (k : Nat) : Prop := valOf (bs.take k) ≤ 1000000000 ∧ encN (valOf (bs.take k)) = bs.take k
theorem okAt_some {bs : List UInt8} {k : Nat} (h : okAt bs k) (hk : k ≤ bs.length) : numAt bs = some (valOf (bs.take k), k) := by
  have h1 := numAt_enc (valOf (bs.take k)) (bs.drop k) h.1
  have hl := congrArg List.length h.2
  rw [List.length_take, Nat.min_eq_left hk] at hl
  rw [hl, h.2, List.take_append_drop] at h1
  exact h1

theorem okAt_of {bs : List UInt8} {n k : Nat} (h : numAt bs = some (n, k)) : okAt bs k ∧ 1 ≤ k ∧ k ≤ 5 ∧ k ≤ bs.length := by
  have hb := numAt_back h
  have hl := numAt_len h
  have hv : valOf (encN n) = n := valOf_enc 9 n (by omega)
  have h5 : (encN n).length ≤ 5 := enc_len_pow 9 4 n (by omega)
  rw [← hb, List.length_take] at h5
  refine ⟨⟨?_, ?_⟩, by omega, by omega, hl.2.1⟩
  · rw [hb, hv]; exact hl.2.2
  · rw [hb, hv]

theorem numAt_none {bs : List UInt8} (h : ∀ k, 1 ≤ k → k ≤ 5 → k ≤ bs.length → ¬ okAt bs k) : numAt bs = none := by
  cases hn : numAt bs with
  | none => rfl
  | some p =>
    obtain ⟨n, k⟩ := p
    obtain ⟨h1, h2, h3, h4⟩ := okAt_of hn
    exact absurd h1 (h k h2 h3 h4)

theorem valOf_drop (l : List UInt8) (j : Nat) (h : j < l.length) : valOf (l.drop j) = valOf (l.drop (j + 1)) * 128 + l[j].toNat % 128 := by
  rw [drop_cons l j h, valOf]
  omega

theorem valOf_bound {l : List UInt8} (h : l.length ≤ 5) : valOf l < 34359738368 := by
  have h1 := valOf_lt l
  have h2 : 128 ^ l.length ≤ 128 ^ 5 := Nat.pow_le_pow_right (by decide) h
  have h3 : (128 : Nat) ^ 5 = 34359738368 := by decide
  omega

end Go.Proofs.Ytlebbkbbmgmmjad

/-
  The walks over the document's small comparisons.
-/
namespace Go.Proofs.Ytlebbkbbmgmmjad
open Go.RowKit

set_option maxRecDepth 100000 in
set_option maxHeartbeats 400000 in
theorem Same_any (u v : Value) (xs ys : List UInt8) (w : World) (h1 : Rd w u (bc xs)) (h2 : Rd w v (bc ys)) :
    Calls Try.prog 25 #[u, v] w fun e w' => e = .returned (.bool (xs == ys)) ∧ w' = w := by
  have c1 := run_string_of_rd (P := Try.prog) Try.underlying42 Try.underlying5 Try.underlying9 h1
  have c2 := run_string_of_rd (P := Try.prog) Try.underlying42 Try.underlying5 Try.underlying9 h2
  go_enter Try.func25, Try.ntmps25
  go_wp2_with fail
  go_ret
  exact ⟨rfl, rfl⟩

theorem take_ext {α : Type} {xs ys : List α} {k : Nat} (h : xs.take k = ys.take k) (hx : k < xs.length) (hy : k < ys.length) (e : xs[k] = ys[k]) : xs.take (k + 1) = ys.take (k + 1) := by
  rw [List.take_succ_eq_append_getElem hx, List.take_succ_eq_append_getElem hy, h, e]

theorem beq_of_take {α : Type} [BEq α] [LawfulBEq α] {xs ys : List α} {k : Nat} (h : xs.take k = ys.take k) (hx : xs.length ≤ k) (hy : ys.length ≤ k) : (xs == ys) = true := by
  rw [List.take_of_length_le hx, List.take_of_length_le hy] at h
  exact beq_iff_eq.2 h

theorem beq_no_len {α : Type} [BEq α] [LawfulBEq α] {xs ys : List α} (h : xs.length ≠ ys.length) : (xs == ys) = false :=
  beq_eq_false_iff_ne.2 (fun e => h (by rw [e]))

theorem beq_no_at {α : Type} [BEq α] [LawfulBEq α] {xs ys : List α} {k : Nat} (hx : k < xs.length) (hy : k < ys.length) (h : xs[k] ≠ ys[k]) : (xs == ys) = false :=
  beq_eq_false_iff_ne.2 (fun e => h (by subst e; rfl))



end Go.Proofs.Ytlebbkbbmgmmjad

/-
  The walks over the document's numbers.
-/
namespace Go.Proofs.Ytlebbkbbmgmmjad
open Go.RowKit


set_option maxRecDepth 100000 in
set_option maxHeartbeats 400000 in
theorem ownBytes_any (v : Value) (zs : List UInt8) (w : World) (h : Rd w v (bc zs)) (hl : zs.length ≤ 1000000000) :
    Calls Try.prog 21 #[v] w fun e w' => ∃ v', e = .returned v' ∧ Rd w' v' (bc zs) ∧ Below w.heap.size w w' ∧ New w.heap.size v' := by
  go_enter Try.func21, Try.ntmps21
  go_wp2_with (at_builtin; go_must (refine wpList_append_rd (World.ownsRow_nil w w.heap.size 5 1) h Try.underlying42 Try.info5 rfl rfl rfl rfl rfl (bc_one _) (by rw [bc_length]; omega) (by decide) (Nat.le_refl _) ?_); intro v1 w1 ho1 hb1 hg1; clear hg1)
  go_ret
  exact ⟨v1, rfl, Rd.ofOwns ho1, hb1, New.owns ho1⟩

set_option maxRecDepth 100000 in
set_option maxHeartbeats 400000 in
theorem F_any (c a : Int) (w : World) : Calls Try.prog 38 #[.int .i64 c, .int .i64 a] w fun e w' => e = .returned (flt c a) ∧ w' = w.alloc (.cells #[.int .i64 c, .int .i64 a] 28) := by
  go_enter Try.func38, Try.ntmps38
  go_wp2_with fail
  exact bodyPost_ret (v := flt c a) (by simp [results, Try.results38, go_sem, flt]) rfl ⟨rfl, rfl⟩

set_option maxRecDepth 100000 in
set_option maxHeartbeats 400000 in
theorem Number_go (f : Nat) : ∀ (n : Nat) (w : World), n < 128 ^ (f + 1) → (n : Int) ≤ 9223372036854775807 → f ≤ 9 →
    Calls Try.prog 73 #[.int .i64 n] w fun e w' => ∃ v', e = .returned v' ∧ w'.ownsRow w.heap.size 5 1 v' (enc f n).length (bc (enc f n)) ∧ Below w.heap.size w w' := by
  induction f with
  | zero =>
    intro n w hn hn2 _
    have hn1 : (n : Int) < 128 := by simp at hn; omega
    clear hn
    go_enter Try.func73, Try.ntmps73
    go_wp2_with fail
    go_ret
    have ho := World.ownsRow_lit (base := w.heap.size) (size := 1) (e := 5) w #[.int .u8 n] 1 (Nat.le_refl _) (by decide) (by simp)
    refine ⟨_, rfl, ?_, by go_grown⟩
    rw [enc_small _ _ (by omega)]
    simpa [bc, u8_ofNat_toNat n (by omega)] using ho
  | succ f ih =>
    intro n w hn hn2 hf
    have HN := hide hn
    have HI := hide ih
    clear hn ih
    by_cases hs : (n : Int) < 128
    · go_enter Try.func73, Try.ntmps73
      go_wp2_with fail
      go_ret
      have ho := World.ownsRow_lit (base := w.heap.size) (size := 1) (e := 5) w #[.int .u8 n] 1 (Nat.le_refl _) (by decide) (by simp)
      refine ⟨_, rfl, ?_, by go_grown⟩
      rw [enc_small _ _ (by omega)]
      simpa [bc, u8_ofNat_toNat n (by omega)] using ho
    · go_enter Try.func73, Try.ntmps73
      go_wp2_with fail
      rw [show (n : Int) / 128 = ((n / 128 : Nat) : Int) from by omega]
      refine (HI.out (n / 128) _ (by have := HN.out; rw [Nat.pow_succ] at this; omega) (by omega) (by omega)).mono ?_
      rintro e w1 ⟨v1, rfl, ho1, hb1⟩
      have ho := World.ownsRow_lit (base := w.heap.size) (size := 1) (e := 5) w #[.int .u8 ((n : Int) % 128 + 128)] 1 (Nat.le_refl _) (by decide) (by simp)
      have ho2 := owns_below ho hb1
      have hl := enc_length f (n / 128)
      have hsz := hb1.size
      have hbw : Below w.heap.size w w1 := ((Below.refl _ _).alloc (Nat.le_refl _) _).trans (hb1.mono (by simp))
      simp only [World.size_alloc] at hsz
      go_wp2_with (at_builtin; go_must (refine wpList_append_rd ho2 (Rd.ofOwns ho1) Try.underlying42 Try.info5 rfl rfl rfl rfl rfl (bc_one _) (by rw [bc_length]; omega) (by decide) (by omega) ?_); intro v2 w2 ho3 hb3 hg3; clear hg3)
      go_ret
      refine ⟨v2, rfl, ?_, hbw.trans hb3⟩
      rw [enc_big f n (by omega)]
      have e1 : [Value.int .u8 ((n : Int) % 128 + 128)] ++ bc (enc f (n / 128)) = bc (UInt8.ofNat (n % 128 + 128) :: enc f (n / 128)) := by
        simp only [bc, List.map_cons, List.singleton_append, u8_ofNat_toNat (n % 128 + 128) (by omega)]
        congr 2
      rw [← e1, List.length_cons, Nat.add_comm]
      simpa [bc_length] using ho3

theorem Number_any (n : Nat) (w : World) (h : (n : Int) ≤ 9223372036854775807) :
    Calls Try.prog 73 #[.int .i64 n] w fun e w' => ∃ v', e = .returned v' ∧ Rd w' v' (bc (encN n)) ∧ Below w.heap.size w w' ∧ New w.heap.size v' :=
  (Number_go 9 n w (by omega) h (Nat.le_refl _)).mono fun _ _ ⟨v', h1, h2, h3⟩ => ⟨v', h1, Rd.ofOwns h2, h3, New.owns h2⟩

end Go.Proofs.Ytlebbkbbmgmmjad

/-
  The walks over the document's reading of numbers.
-/
namespace Go.Proofs.Ytlebbkbbmgmmjad
open Go.RowKit

def okB (bs : List UInt8) (k : Nat) : Bool := decide (valOf (bs.take k) ≤ 1000000000) && (encN (valOf (bs.take k)) == bs.take k)
theorem okB_iff (bs : List UInt8) (k : Nat) : okB bs k = true ↔ okAt bs k := by simp [okB, okAt]
theorem okB_no {bs : List UInt8} {k : Nat} (h : okB bs k = false) : ¬ okAt bs k := fun e => by rw [(okB_iff bs k).2 e] at h; cases h

/-- What NumberAt answers. -/
def natV : Option (Nat × Nat) → Value
  | none => .tuple #[.int .i64 0, .int .i64 0]
  | some (n, k) => .tuple #[.int .i64 n, .int .i64 k]

set_option maxRecDepth 100000 in
set_option maxHeartbeats 400000 in
theorem NumberAt_any (v : Value) (bs : List UInt8) (w : World) (hrd : Rd w v (bc bs)) :
    Calls Try.prog 71 #[v] w fun e w' => e = .returned (natV (numAt bs)) ∧ Below w.heap.size w w' := by
  obtain ⟨ao, cap, hv, hc1, hc2, hcell⟩ := hrd.open
  rw [bc_length] at hc1 hv hcell
  subst hv
  unfold maxLen at hc2
  go_enter Try.func71, Try.ntmps71
  go_wp2_with fail
  go_loopw [4] (fun i wr => ∃ k : Nat, 1 ≤ k ∧ k ≤ 6 ∧ i = .int .i64 k ∧ (∀ k', 1 ≤ k' → k' < k → k' ≤ bs.length → ¬ okAt bs k') ∧ Below w.heap.size w wr) (fun i _ => 6 - (intOf i).toNat)
  case atStart => exact ⟨1, by omega, by omega, rfl, fun k' h1 h2 => by omega, Below.refl _ _⟩
  case round =>
    obtain ⟨k, hk1, hk6, rfl, hno, hbel⟩ := hrel
    have HN := hide hno
    clear hno
    by_cases hlt : k ≤ 5 ∧ k ≤ bs.length
    · obtain ⟨hl1, hl2⟩ := hlt
      go_wp2_with fail
      go_loop [5, 6] (fun n i => ∃ j : Nat, j ≤ k ∧ i = .int .i64 ((j : Int) - 1) ∧ n = .int .i64 (valOf ((bs.take k).drop j))) (fun _ i => (intOf i + 1).toNat)
      case atStart => exact ⟨k, Nat.le_refl _, rfl, by rw [List.drop_eq_nil_of_le (by simp; omega)]; rfl⟩
      case round =>
        obtain ⟨j, hj, rfl, rfl⟩ := hrel
        by_cases hj0 : j = 0
        · subst hj0
          rw [List.drop_zero]
          have hvb := valOf_bound (l := bs.take k) (by simp; omega)
          have hok : okB bs k = (decide (valOf (bs.take k) ≤ 1000000000) && (encN (valOf (bs.take k)) == bs.take k)) := rfl
          have hsome := @okAt_some bs k
          generalize valOf (bs.take k) = N at *
          have HS := hide hsome
          have HO := hide hok
          have hrr := hrd.below hbel
          have hV := hrr.upto (hi := k) hl2
          rw [bc_take] at hV
          have hsl := run_slice_upto (P := Try.prog) Try.underlying42 (by kernel_rfl) Try.info5 ao bs.length cap k k rfl (by omega)
          generalize sliced ao 0 k cap 1 = V at hV hsl
          clear hsome hok hcell hrr
          have hN : (N : Int) < 34359738368 := by omega
          go_wp2_with fail
          go_cut [41] (fun s wc => s = .bool (okB bs k) ∧ Below w.heap.size w wc)
          case first =>
            by_cases h9 : (N : Int) ≤ 1000000000
            · have hd : decide ((N : Int) ≤ 1000000000) = true := by simpa using h9
              go_region_held3 (fun _ => True) (trivial) (first | (go_at_call 73; refine (Number_any N _ (by omega)).mono ?_; rintro e w2 ⟨v2, rfl, hr2, hb2, hn2⟩; have hV2 := Rd.below (v := V) (by exact hV) hb2) | (go_at_call 25; refine (Same_any _ _ (encN N) (bs.take k) _ ?_ ?_).mono ?_; exact hr2; exact hV2; rintro e w3 ⟨rfl, rfl⟩))
              go_wp2_with fail
              go_meet
              case rel => exact ⟨by rw [HO.out, show decide (N ≤ 1000000000) = true by simp; omega, Bool.true_and], (hbel.drew).trans (Below.mono hb2 hbel.size)⟩
            · have hd : decide ((N : Int) ≤ 1000000000) = false := by simpa using h9
              go_quiet (fail)
              go_wp2_with fail
              go_meet
              case rel => exact ⟨by rw [HO.out, show decide (N ≤ 1000000000) = false by simp; omega, Bool.false_and], below_drewN hbel _⟩
          case rest =>
            obtain ⟨rfl, hbel2⟩ := hcut
            cases hb : okB bs k with
            | true =>
              have e1 := HS.out ((okB_iff bs k).1 hb) hl2
              have HE := hide e1
              clear e1 hb
              go_wp2_with fail
              go_ret2
              exact ⟨by rw [HE.out]; rfl, hbel2⟩
            | false =>
              have HE := hide (okB_no hb)
              clear hb
              go_wp2_with fail
              go_roundw
              case rel =>
                refine ⟨k + 1, by omega, by omega, by go_num, fun k' h1 h2 h3 => ?_, hbel2⟩
                by_cases e : k' = k
                · subst e; exact HE.out
                · exact HN.out k' h1 (by omega) h3
              case measure => simp [intOf]; omega
        · obtain ⟨i, rfl⟩ : ∃ i, j = i + 1 := ⟨j - 1, by omega⟩
          rw [show ((i + 1 : Nat) : Int) - 1 = (i : Int) by omega]
          have hi : i < bs.length := by omega
          obtain ⟨b, off, rfl, hb, hcl⟩ := hcell i hi
          have hik : i < (bs.take k).length := by simp; omega
          have hvd := valOf_drop (bs.take k) i hik
          have hvb := valOf_bound (l := (bs.take k).drop (i + 1)) (by simp; omega)
          have hx : (bs.take k)[i] = bs[i] := List.getElem_take
          rw [hx] at hvd
          have hck : wr.cell? ⟨b, off + i, none⟩ = some (.int .u8 (bs[i].toNat : Int)) := by
            rw [hbel.cell (by exact hb)]
            exact hcl i _ (by simp [bc, hi])
          have hxl := bs[i].toNat_lt
          generalize bs[i].toNat = x at *
          generalize valOf ((bs.take k).drop (i + 1)) = N at *
          have HV := hide hvd
          clear hvd hx hcl hcell
          have hN : (N : Int) < 34359738368 := by omega
          go_wp2_with fail
          go_round
          case rel => exact ⟨i, by omega, rfl, by rw [HV.out]; go_num⟩
          case measure => simp [intOf]
    · go_wp2_with fail
      all_goals
        go_ret2
        exact ⟨by rw [numAt_none (fun k' h1 h2 h3 => HN.out k' h1 (by omega) h3)]; rfl, hbel⟩

/-- What ReadNumbers answers, from what is left on: the numbers, and how many are ahead of what is none. -/
def refNums : Nat → List UInt8 → List Int → List Int × Int
  | 0, _, _ => ([], 0)
  | f + 1, bs, acc =>
    if bs = [] then (acc, -1)
    else match numAt bs with
      | none => ([], (acc.length : Int))
      | some (n, k) => refNums f (bs.drop k) (acc ++ [(n : Int)])

theorem refNums_end {f : Nat} {acc : List Int} : refNums (f + 1) [] acc = (acc, -1) := by
  rw [refNums, if_pos rfl]

theorem refNums_bad {f : Nat} {bs : List UInt8} {acc : List Int} (h : bs ≠ []) (hn : numAt bs = none) : refNums (f + 1) bs acc = ([], (acc.length : Int)) := by
  rw [refNums, if_neg h, hn]

theorem refNums_step {f : Nat} {bs : List UInt8} {acc : List Int} {n k : Nat} (h : bs ≠ []) (hn : numAt bs = some (n, k)) : refNums (f + 1) bs acc = refNums f (bs.drop k) (acc ++ [(n : Int)]) := by
  rw [refNums, if_neg h, hn]


end Go.Proofs.Ytlebbkbbmgmmjad

/-
  The law WireBack: its walk.
-/
namespace Go.Proofs.Ytlebbkbbmgmmjad
open Go.RowKit

theorem Rd.lit (w : World) (cs : Array Value) (e : TypeId) (h : cs.size ≤ 1000) : Rd (w.alloc (.cells cs e)) (.slice (some ⟨w.heap.size, 0, none⟩) cs.size cs.size) cs.toList :=
  Rd.ofOwns (World.ownsRow_lit (base := 0) (size := 1) w cs cs.size (Nat.zero_le _) (by simp [maxLen]; omega) (by simp))


/-- The variable f of the law: a block of its own. -/
def Fv (w : World) (F : Nat) : Prop := ∃ x y, w.heap[F]? = some (.cells #[x, y] 28 (0, 0))
theorem Fv.facts {w : World} {F : Nat} (h : Fv w F) : ∃ x y, w.cell? ⟨F, 0, none⟩ = some x ∧ w.cell? ⟨F, 1, none⟩ = some y ∧ w.frozen? ⟨F, 0, none⟩ = false ∧ w.frozen? ⟨F, 1, none⟩ = false ∧ F < w.heap.size := by
  obtain ⟨x, y, h⟩ := h
  refine ⟨x, y, ?_, ?_, frozen_of_row _ _ _ _ _ h, frozen_of_row _ _ _ _ _ h, (Array.getElem?_eq_some_iff.1 h).1⟩
  · rw [cell_of_row _ _ _ _ _ _ h]; rfl
  · rw [cell_of_row _ _ _ _ _ _ h]; rfl

theorem Fv.below {w w' : World} {F : Nat} (h : Fv w F) (hb : Below w.heap.size w w') : Fv w' F := by
  obtain ⟨x, y, h⟩ := h
  exact ⟨x, y, by rw [hb.block _ (Array.getElem?_eq_some_iff.1 h).1]; exact h⟩

theorem Fv.set {w : World} {F : Nat} (h : Fv w F) (u v : Value) : Fv ((w.setCell ⟨F, 0, none⟩ u).setCell ⟨F, 1, none⟩ v) F := by
  obtain ⟨x, y, h⟩ := h
  refine ⟨u, v, ?_⟩
  rw [heap_setCell_same _ F 1 #[u, y] _ v]
  · rfl
  · rw [heap_setCell_same _ F 0 _ _ u h]
    rfl

theorem Fv.new (w : World) (x y : Value) : Fv (w.alloc (.cells #[x, y] 28)) w.heap.size := ⟨x, y, heap_alloc_new _ _⟩


end Go.Proofs.Ytlebbkbbmgmmjad

/-
  The law WireNums: its parts.
-/
namespace Go.Proofs.Ytlebbkbbmgmmjad
open Go.RowKit

theorem cell_below {w w' : World} {a : Addr} {v : Value} (h : w.cell? a = some v) (hb : Below w.heap.size w w') : w'.cell? a = some v :=
  (hb.cell (World.block_lt_of_cell? w _ h)).trans h

theorem flat_snoc (zs : List Int) (k : Nat) (h : k < zs.length) : flat (zs.take (k + 1)) = flat (zs.take k) ++ encN zs[k].toNat := by
  rw [List.take_succ_eq_append_getElem h]
  simp only [flat, List.flatMap_append, List.flatMap_cons, List.flatMap_nil, List.append_nil]



set_option maxRecDepth 100000 in
set_option maxHeartbeats 400000 in
/-- Where there is a fault the bytes must be none: whatever function is handed. -/
theorem bytesAs_bad (x fv : Value) (c a : Int) (w : World) (hc : c ≠ 0) (hx : Rd w x (bc [])) :
    Calls Try.prog 27 #[x, flt c a, flt c a, fv] w fun e w' => e = .returned (.bool true) ∧ Below w.heap.size w w' := by
  obtain ⟨ao, cap, hv, hc1, hc2, _⟩ := hx.open
  rw [bc_length] at hc1 hv
  subst hv
  have hcb : (c != 0) = true := by simp [hc]
  clear hc
  simp only [flt]
  go_enter Try.func27, Try.ntmps27
  go_wp2_with fail
  go_ret
  exact ⟨rfl, by go_grown⟩

end Go.Proofs.Ytlebbkbbmgmmjad

/-
  The law WireNums: its walk.
-/
namespace Go.Proofs.Ytlebbkbbmgmmjad
open Go.RowKit

/-- The fault alone. -/
def numsFlt : List Int → Nat → Int × Int
  | [], _ => (0, 0)
  | z :: zs, k => if z < 0 ∨ 1000000000 < z then (3, (k : Int)) else numsFlt zs (k + 1)

theorem numsFlt_go : ∀ (zs : List Int) (k : Nat) (acc : List UInt8), (numsGo zs k acc).2 = numsFlt zs k
  | [], _, _ => rfl
  | z :: zs, k, acc => by
    rw [numsGo, numsFlt]
    split
    · rfl
    · exact numsFlt_go zs (k + 1) _

theorem numsR_big {zs : List Int} (h : 1000 < zs.length) : numsR zs = ([], 2, 0) := by rw [numsR, if_pos h]
theorem numsR_small {zs : List Int} (h : ¬ 1000 < zs.length) : (numsR zs).2 = numsFlt zs 0 := by rw [numsR, if_neg h, numsFlt_go]
theorem numsR_ok {zs : List Int} (h : (numsR zs).2.1 = 0) : zs.length ≤ 1000 ∧ (∀ z ∈ zs, okNum z) ∧ numsR zs = (flat zs, 0, 0) := by
  by_cases hb : 1000 < zs.length
  · rw [numsR_big hb] at h; simp at h
  · unfold numsR at h ⊢
    rw [if_neg hb] at h ⊢
    have hok := numsGo_ok zs 0 [] h
    exact ⟨by omega, hok, by rw [numsGo_of zs 0 [] hok]; simp⟩

theorem numsGo_none : ∀ (zs : List Int) (k : Nat) (acc : List UInt8), (numsGo zs k acc).2.1 ≠ 0 → (numsGo zs k acc).1 = []
  | [], _, _, h => by simp [numsGo] at h
  | z :: zs, k, acc, h => by
    rw [numsGo] at h ⊢
    split at h
    · rename_i hb; rw [if_pos hb]
    · rename_i hb; rw [if_neg hb]; exact numsGo_none zs _ _ h

theorem numsR_none {zs : List Int} (h : (numsR zs).2.1 ≠ 0) : (numsR zs).1 = [] := by
  unfold numsR at h ⊢
  split at h
  · rename_i hb; rw [if_pos hb]
  · rename_i hb; rw [if_neg hb]; exact numsGo_none zs _ _ h

theorem rd_ref : ∀ (f : Nat) (bs : List UInt8) (acc : List Int), bs.length ≤ f →
    rdNums (f + 1) bs acc = if 0 ≤ (refNums (f + 1) bs acc).2 then ([], 5, (refNums (f + 1) bs acc).2) else if 1000 < (refNums (f + 1) bs acc).1.length then ([], 2, 0) else ((refNums (f + 1) bs acc).1, 0, 0)
  | f, [], acc, _ => by
    rw [refNums_end]
    by_cases h : 1000 < acc.length
    · rw [rdNums_many h]; simp [h]
    · rw [rdNums_end (by omega)]; simp [h]
  | 0, b :: bs, acc, hf => by simp at hf
  | f + 1, b :: bs, acc, hf => by
    cases hn : numAt (b :: bs) with
    | none =>
      rw [rdNums_bad (by simp) hn, refNums_bad (by simp) hn]
      simp
    | some p =>
      obtain ⟨n, k⟩ := p
      have hl := numAt_len hn
      rw [rdNums_step (by simp) hn, refNums_step (by simp) hn]
      exact rd_ref f _ _ (by rw [List.length_drop]; omega)

theorem readNums_ref {bs : List UInt8} (h : ¬ 60000 < bs.length) :
    readNumsR bs = if 0 ≤ (refNums (bs.length + 1) bs []).2 then ([], 5, (refNums (bs.length + 1) bs []).2) else if 1000 < (refNums (bs.length + 1) bs []).1.length then ([], 2, 0) else ((refNums (bs.length + 1) bs []).1, 0, 0) := by
  rw [readNumsR, if_neg h]
  exact rd_ref _ _ _ (Nat.le_refl _)

theorem readNums_big {bs : List UInt8} (h : 60000 < bs.length) : readNumsR bs = ([], 8, 0) := by rw [readNumsR, if_pos h]

theorem Rd.lt {w : World} {v : Value} {xs : List Value} (h : Rd w v xs) : ∀ a l c, v = .slice (some a) l c → 0 < xs.length → a.block < w.heap.size := by
  intro a l c e hp
  subst e
  exact h.block_lt hp

/-- A block of two numbers. -/
def Fb (w : World) (B : Nat) (c a : Int) : Prop := w.heap[B]? = some (.cells #[.int .i64 c, .int .i64 a] 28 (0, 0))
theorem Fb.facts {w : World} {B : Nat} {c a : Int} (h : Fb w B c a) : w.cell? ⟨B, 0, none⟩ = some (.int .i64 c) ∧ w.cell? ⟨B, 1, none⟩ = some (.int .i64 a) ∧ w.frozen? ⟨B, 0, none⟩ = false ∧ w.frozen? ⟨B, 1, none⟩ = false ∧ B < w.heap.size := by
  refine ⟨?_, ?_, frozen_of_row _ _ _ _ _ h, frozen_of_row _ _ _ _ _ h, (Array.getElem?_eq_some_iff.1 h).1⟩
  · rw [cell_of_row _ _ _ _ _ _ h]; rfl
  · rw [cell_of_row _ _ _ _ _ _ h]; rfl

theorem Fb.below {w w' : World} {B : Nat} {c a : Int} (h : Fb w B c a) (hb : Below w.heap.size w w') : Fb w' B c a := by
  unfold Fb
  rw [hb.block _ h.facts.2.2.2.2]
  exact h

theorem Fb.grown {w w' : World} {B R : Nat} {c a : Int} (h : Fb w B c a) (hg : w.grownBy w' (some R)) (hR : B ≠ R) : Fb w' B c a := by
  unfold Fb
  rw [hg.block _ h.facts.2.2.2.2 (by simpa using hR)]
  exact h

theorem Fb.new (w : World) (c a : Int) : Fb (w.alloc (.cells #[.int .i64 c, .int .i64 a] 28)) w.heap.size c a := heap_alloc_new _ _
theorem Fb.set {w : World} {B : Nat} {c a : Int} (h : Fb w B c a) (c' a' : Int) : Fb ((w.setCell ⟨B, 0, none⟩ (.int .i64 c')).setCell ⟨B, 1, none⟩ (.int .i64 a')) B c' a' := by
  unfold Fb
  rw [heap_setCell_same _ B 1 #[.int .i64 c', .int .i64 a] _ (.int .i64 a')]
  · rfl
  · rw [heap_setCell_same _ B 0 _ _ (.int .i64 c') h]
    rfl

theorem grown_set_alloc (w : World) (o : Obj) (B : Nat) (x y : Value) : w.grownBy (((w.setCell ⟨B, 0, none⟩ x).setCell ⟨B, 1, none⟩ y).alloc o) (some B) :=
  World.grownBy.trans (World.grownBy.trans (grown_set _ B 0 x) (grown_set _ B 1 y)) (World.grownBy_alloc _ o (some B))

theorem Fb.set_alloc {w : World} {B : Nat} {c a : Int} (h : Fb w B c a) (c' a' : Int) (o : Obj) : Fb (((w.setCell ⟨B, 0, none⟩ (.int .i64 c')).setCell ⟨B, 1, none⟩ (.int .i64 a')).alloc o) B c' a' :=
  (h.set c' a').below ((Below.refl _ _).alloc (Nat.le_refl _) o)

theorem numsFlt_end (zs : List Int) (k : Nat) (h : zs.length ≤ k) : numsFlt (zs.drop k) k = (0, 0) := by
  rw [List.drop_eq_nil_of_le h, numsFlt]

theorem numsFlt_bad (zs : List Int) (k : Nat) (h : k < zs.length) (h1 : zs[k] < 0 ∨ 1000000000 < zs[k]) : numsFlt (zs.drop k) k = (3, (k : Int)) := by
  rw [drop_cons zs k h, numsFlt, if_pos h1]

theorem numsFlt_step (zs : List Int) (k : Nat) (h : k < zs.length) (h1 : 0 ≤ zs[k]) (h2 : zs[k] ≤ 1000000000) : numsFlt (zs.drop k) k = numsFlt (zs.drop (k + 1)) (k + 1) := by
  rw [drop_cons zs k h, numsFlt, if_neg (by omega)]


end Go.Proofs.Ytlebbkbbmgmmjad
