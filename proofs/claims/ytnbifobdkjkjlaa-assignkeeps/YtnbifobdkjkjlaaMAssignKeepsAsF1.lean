/-
  Texts joined: AsF1.
-/
import Derived.Test.YtnbifobdkjkjlaaMAssignKeepsAsB1
import Derived.Test.YtnbifobdkjkjlaaMAssignKeepsPartR2
/-
  The document's One, HostIn, PartsOf.
-/
namespace Go.Proofs.Ytnbifobdkjkjlaa
open Go.RowKit
set_option linter.unusedVariables false

theorem hoIn_drop {l : List Ho} {k : Nat} {h : Ho} (hh : l[k]? = some h) (id : Int) (a : Bool) : hoIn (l.drop k) id a k = if h.id = id ∧ (h.al = true ∨ a = false) then (k : Int) else hoIn (l.drop (k + 1)) id a (k + 1) := by
  obtain ⟨hk, rfl⟩ := List.getElem?_eq_some_iff.1 hh
  rw [List.drop_eq_getElem_cons hk]
  rfl

set_option maxRecDepth 100000 in
set_option maxHeartbeats 4000000 in
theorem HostIn_any (b : Bd) (hv sv : Value) (id : Int) (a : Bool) (w : World) (hh : RdG hoE w hv b.hs) (hl : b.hs.length ≤ 1000) :
    Calls Try.prog 17 #[bdV hv sv b, .int .i64 id, .bool a] w fun e w' => e = .returned (.int .i64 (hoIn b.hs id a 0)) ∧ Below w.heap.size w w' := by
  have HH := hide hh
  obtain ⟨ah, ch, rfl, _, _⟩ := hh.shape
  have HB0 := hide (Blk.new w 27 #[.slice ah b.hs.length ch, sv, .int .i64 b.tu, .int .i64 b.nx])
  have HA0 := hide (below_allocG w (.cells #[.slice ah b.hs.length ch, sv, .int .i64 b.tu, .int .i64 b.nx] 27))
  generalize hW : w.alloc (.cells #[.slice ah b.hs.length ch, sv, .int .i64 b.tu, .int .i64 b.nx] 27) = W0 at HB0 HA0
  have HW := hide hW
  clear hh hW
  unfold bdV
  go_enter Try.func17, Try.ntmps17
  go_upto_region 1 with fail
  rw [HW.out]
  clear HW
  go_wp2_with fail
  go_loopw [7] (fun iv wr => ∃ k : Nat, k ≤ b.hs.length ∧ iv = .int .i64 k ∧ hoIn (b.hs.drop k) id a k = hoIn b.hs id a 0 ∧ Below W0.heap.size W0 wr)
    (fun iv _ => b.hs.length - (intOf iv).toNat)
  case atStart => exact ⟨0, by omega, rfl, rfl, Below.refl _ _⟩
  case round =>
    obtain ⟨k, hk, rfl, hgo, hbr⟩ := hrel
    have HGO := hide hgo
    have HBR := hide hbr
    have HAr := hide (HA0.out.trans (hbr.mono HA0.out.size))
    have b0 := (HB0.out.later hbr).cell 0
    have bl := (HB0.out.later hbr).lt
    simp at b0
    clear hgo hbr
    by_cases hlt : k < b.hs.length
    · obtain ⟨x, hx⟩ : ∃ x, b.hs[k]? = some x := ⟨_, List.getElem?_eq_getElem hlt⟩
      rw [hoIn_drop hx] at HGO
      obtain ⟨hb, ho, rfl, hbl, hat⟩ := (HH.out.below HAr.out).here hx
      obtain ⟨c0, c1, c2⟩ := hat.host
      have hk1 : (0 : Int) ≤ (k : Int) := by omega
      have hk2 : (k : Int) < (b.hs.length : Int) := by omega
      obtain ⟨xi, xe, xa⟩ := x
      simp only at c0 c1 c2 HGO
      clear hat hx
      by_cases h1 : xi = id
      case neg =>
        have e1 : (xi == id) = false := beq_eq_false_iff_ne.2 h1
        have HE := hide (HGO.out.symm.trans (if_neg (fun q => h1 q.1)))
        go_wp2_with fail
        go_roundw
        case rel => exact ⟨k + 1, by omega, by go_num, HE.out.symm, HBR.out⟩
        case measure => simp [intOf]; omega
      have e1 : (xi == id) = true := by simp [h1]
      cases xa with
      | true =>
        have HE := hide (HGO.out.symm.trans (if_pos ⟨h1, .inl rfl⟩))
        go_wp2_with fail
        go_ret
        exact ⟨by rw [HE.out]; rfl, HAr.out⟩
      | false =>
        cases a with
        | false =>
          have HE := hide (HGO.out.symm.trans (if_pos ⟨h1, .inr rfl⟩))
          go_wp2_with fail
          go_ret
          exact ⟨by rw [HE.out]; rfl, HAr.out⟩
        | true =>
          have HE := hide (HGO.out.symm.trans (if_neg (by simp)))
          go_wp2_with fail
          go_roundw
          case rel => exact ⟨k + 1, by omega, by go_num, HE.out.symm, HBR.out⟩
          case measure => simp [intOf]; omega
    · obtain rfl : k = b.hs.length := by omega
      rw [List.drop_length] at HGO
      have HE := hide HGO.out.symm
      go_wp2_with fail
      go_ret
      exact ⟨by rw [HE.out]; rfl, HAr.out⟩

set_option maxRecDepth 100000 in
theorem One_any (n : Int) (w : World) : Calls Try.prog 26 #[.int .i64 n] w fun e w' => e = .returned (.bool (oneB n)) ∧ w' = w := by
  have HN := hide (rNum_any n w)
  have HO : Hid (oneB n = (decide (0 < n) && numB n)) := hide rfl
  by_cases h : 0 < n
  · have d1 : decide (0 < n) = true := decide_eq_true h
    clear h
    go_enter Try.func26, Try.ntmps26
    go_wp2_with (go_at_call 27; refine HN.out.mono ?_; rintro e w1 ⟨rfl, hw⟩; rw [hw]; clear hw)
    go_ret
    exact ⟨by rw [HO.out, d1]; rfl, rfl⟩
  · have d1 : decide (0 < n) = false := decide_eq_false h
    clear h
    go_enter Try.func26, Try.ntmps26
    go_wp2_with fail
    go_ret
    exact ⟨by rw [HO.out, d1]; rfl, rfl⟩

set_option maxRecDepth 100000 in
set_option maxHeartbeats 4000000 in
theorem PartsOf_any (b : Bd) (hv sv : Value) (w : World) (hs : RdG slE w sv b.sl) (hl : b.sl.length ≤ 1000) :
    Calls Try.prog 29 #[bdV hv sv b] w fun e w' => ∃ v', e = .returned v' ∧ RdG pE w' v' (parts b.sl) ∧ Below w.heap.size w w' := by
  have HS := hide hs
  have HL := hide hl
  obtain ⟨as_, cs, rfl, _, _⟩ := hs.shape
  have HB0 := hide (Blk.new w 27 #[hv, .slice as_ b.sl.length cs, .int .i64 b.tu, .int .i64 b.nx])
  have HA0 := hide (below_allocG w (.cells #[hv, .slice as_ b.sl.length cs, .int .i64 b.tu, .int .i64 b.nx] 27))
  generalize hW : w.alloc (.cells #[hv, .slice as_ b.sl.length cs, .int .i64 b.tu, .int .i64 b.nx] 27) = W0 at HB0 HA0
  have HW := hide hW
  clear hs hW
  unfold bdV
  go_enter Try.func29, Try.ntmps29
  go_upto_region 1 with fail
  rw [HW.out]
  clear HW
  go_wp2_with fail
  go_loopw [3, 4] (fun xv iv wr => ∃ k : Nat, k ≤ b.sl.length ∧ iv = .int .i64 k ∧ wr.ownsRow W0.heap.size 44 3 xv k (pE.vs (parts (b.sl.take k))) ∧ Below W0.heap.size W0 wr)
    (fun _ iv _ => b.sl.length - (intOf iv).toNat)
  case atStart => exact ⟨0, by omega, rfl, World.ownsRow_nil _ _ _ _, Below.refl _ _⟩
  case round =>
    obtain ⟨k, hk, rfl, hxo, hbr⟩ := hrel
    obtain ⟨xo, xc, rfl⟩ := owns_shapeA hxo
    have HBR := hide hbr
    have HAr := hide (HA0.out.trans (hbr.mono HA0.out.size))
    have b1 := (HB0.out.later hbr).cell 1
    have bl := (HB0.out.later hbr).lt
    simp at b1
    by_cases hlt : k < b.sl.length
    · obtain ⟨x, hx⟩ : ∃ x, b.sl[k]? = some x := ⟨_, List.getElem?_eq_getElem hlt⟩
      have HT := hide (parts_take hx)
      obtain ⟨hb, ho, rfl, hbl, hat⟩ := (HS.out.below HAr.out).here hx
      obtain ⟨c0, c1, c2, c3, c4, c5⟩ := hat.slot
      have hk1 : (0 : Int) ≤ (k : Int) := by omega
      have hk2 : (k : Int) < (b.sl.length : Int) := by omega
      have hll := HL.out
      have HX := hide hxo
      have hss := hbr.size
      clear hat hx hxo hbr
      go_wp2_with (at_builtin; refine wpList_append_oneG (E := pE) (c := x.p) HX.out rfl Try.underlying69 infoPart rfl rfl rfl rfl rfl (by omega) (by decide) hss ?_; intro v4 w4 ho4 hb4 hg4; have HO4 := hide ho4; have HB4 := hide hb4; clear ho4 hb4 hg4)
      clear hss
      go_roundw
      case rel => exact ⟨k + 1, by omega, by go_num, by rw [HT.out]; exact HO4.out, HBR.out.trans HB4.out⟩
      case measure => simp [intOf]; omega
    · obtain rfl : k = b.sl.length := by omega
      rw [List.take_length] at hxo
      have HO := hide hxo
      clear hxo hbr
      go_wp2_with fail
      go_ret
      exact ⟨_, rfl, RdG.ofOwns HO.out, HAr.out⟩

end Go.Proofs.Ytnbifobdkjkjlaa
