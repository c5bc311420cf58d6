/-
  The walks over partsAs and the functions that it is handed.
-/
import Derived.Test.YtahgddbladfemaePartB1
namespace Go.Proofs.Ytahgddbladfemae
open Go.RowKit
set_option linter.unusedVariables false

/-- The law's variables, boxed: five blocks side by side. -/
structure PBx (W : World) (B : Nat) (lv : Value) (at_ : Int) (row : ByteArray) (left right : Int) : Prop where
  b0 : W.cell? ⟨B, 0, none⟩ = some lv
  b1 : W.cell? ⟨B + 1, 0, none⟩ = some (.int .i64 at_)
  b2 : W.cell? ⟨B + 1 + 1, 0, none⟩ = some (.string row)
  b3 : W.cell? ⟨B + 1 + 1 + 1, 0, none⟩ = some (.int .i64 left)
  b4 : W.cell? ⟨B + 1 + 1 + 1 + 1, 0, none⟩ = some (.int .i64 right)

theorem PBx.lt {W : World} {B : Nat} {lv : Value} {at_ : Int} {row : ByteArray} {left right : Int} (h : PBx W B lv at_ row left right) : B + 4 < W.heap.size := World.block_lt_of_cell? W _ h.b4

theorem PBx.below {W W' : World} {B : Nat} {lv : Value} {at_ : Int} {row : ByteArray} {left right : Int} {C : Nat} (h : PBx W B lv at_ row left right) (hb : Below C W W') (hC : B + 4 < C) : PBx W' B lv at_ row left right :=
  ⟨(hb.cell (p := ⟨B, 0, none⟩) (by simp; omega)).trans h.b0, (hb.cell (p := ⟨B + 1, 0, none⟩) (by simp; omega)).trans h.b1, (hb.cell (p := ⟨B + 1 + 1, 0, none⟩) (by simp; omega)).trans h.b2, (hb.cell (p := ⟨B + 1 + 1 + 1, 0, none⟩) (by simp; omega)).trans h.b3, (hb.cell (p := ⟨B + 1 + 1 + 1 + 1, 0, none⟩) (by simp; omega)).trans h.b4⟩

theorem pbx_new (w : World) (t0 t1 t2 : TypeId) (lv : Value) (at_ : Int) (row : ByteArray) (left right : Int) :
    PBx (((((w.alloc (.cells #[lv] t0)).alloc (.cells #[.int .i64 at_] t1)).alloc (.cells #[.string row] t2)).alloc (.cells #[.int .i64 left] t1)).alloc (.cells #[.int .i64 right] t1)) w.heap.size lv at_ row left right := by
  have h0 := (Blk.new w t0 #[lv]).cell 0
  have h1 := (Blk.new (w.alloc (.cells #[lv] t0)) t1 #[.int .i64 at_]).cell 0
  have h2 := (Blk.new ((w.alloc (.cells #[lv] t0)).alloc (.cells #[.int .i64 at_] t1)) t2 #[.string row]).cell 0
  have h3 := (Blk.new (((w.alloc (.cells #[lv] t0)).alloc (.cells #[.int .i64 at_] t1)).alloc (.cells #[.string row] t2)) t1 #[.int .i64 left]).cell 0
  have h4 := (Blk.new ((((w.alloc (.cells #[lv] t0)).alloc (.cells #[.int .i64 at_] t1)).alloc (.cells #[.string row] t2)).alloc (.cells #[.int .i64 left] t1)) t1 #[.int .i64 right]).cell 0
  simp only [World.size_alloc] at h1 h2 h3 h4
  exact ⟨cell_belowG h0 (by go_grown), cell_belowG h1 (by go_grown), cell_belowG h2 (by go_grown), cell_belowG h3 (by go_grown), h4⟩

set_option maxRecDepth 100000 in
set_option maxHeartbeats 2000000 in
theorem does1_any (B : Nat) (lv : Value) (l : List Pt) (k : Nat) (row : ByteArray) (left right : Int) (w : World) (hB : PBx w B lv k row left right) (hv : RdG pE w lv l) (hk : k < l.length) (hl : l.length ≤ 1000) :
    Calls Try.prog 16 #[.pointer (some ⟨B, 0, none⟩), .pointer (some ⟨B + 1, 0, none⟩), .pointer (some ⟨B + 1 + 1, 0, none⟩), .pointer (some ⟨B + 1 + 1 + 1, 0, none⟩), .pointer (some ⟨B + 1 + 1 + 1 + 1, 0, none⟩)] w fun e w' => ∃ v', e = .returned v' ∧ RdG pE w' v' (splitL l k row left right) ∧ Below w.heap.size w w' := by
  obtain ⟨ao, cap, hvv, hc1, hc2⟩ := hv.shape
  subst hvv
  unfold maxLen at hc2
  obtain ⟨p, hp⟩ : ∃ c, l[k]? = some c := ⟨_, List.getElem?_eq_getElem hk⟩
  have hgd : l.getD k zeroPt = p := by rw [List.getD_eq_getElem?_getD, hp]; rfl
  obtain ⟨b, off, rfl, hb, hat⟩ := hv.here hp
  have hk1 : (0 : Int) ≤ (k : Int) := by omega
  have hk2 : (k : Int) < (l.length : Int) := by omega
  have hkeep : ∀ X, Below w.heap.size w X → X.cell? ⟨B, 0, none⟩ = some (.slice (some ⟨b, off, none⟩) l.length cap) ∧ X.cell? ⟨B + 1, 0, none⟩ = some (.int .i64 k) ∧ X.cell? ⟨B + 1 + 1, 0, none⟩ = some (.string row) ∧ X.cell? ⟨B + 1 + 1 + 1, 0, none⟩ = some (.int .i64 left) ∧ X.cell? ⟨B + 1 + 1 + 1 + 1, 0, none⟩ = some (.int .i64 right) ∧ X.cell? ⟨b, off + k * 3, none⟩ = some (.string p.fr) ∧ X.cell? ⟨b, off + k * 3 + 1, none⟩ = some (.string p.to_) := fun X hX => by
    have h := hB.below hX hB.lt
    have q := (hat.below hX).part
    exact ⟨h.b0, h.b1, h.b2, h.b3, h.b4, q.1, q.2.1⟩
  have HKEEP := hide hkeep
  obtain ⟨b0, b1, b2, b3, b4, c0, c1⟩ := hkeep w (Below.refl _ _)
  have HIN := hide (fun W (hW : Below w.heap.size w W) (u : Value) (hu : RdG pE W u [⟨p.fr, row, left⟩, ⟨row, p.to_, right⟩]) => Instead_any (.slice (some ⟨b, off, none⟩) l.length cap) u l _ k 1 W (hv.below hW) hu (by omega) hl (by simp))
  have HSL := hide (show splitL l k row left right = l.take k ++ [⟨p.fr, row, left⟩, ⟨row, p.to_, right⟩] ++ l.drop (k + 1) by rw [splitL, hgd])
  have HO : Hid (RdG pE (w.drew.alloc (.cells #[.string p.fr, .string row, .int .i64 left, .string row, .string p.to_, .int .i64 right] 34)) (.slice (some ⟨w.heap.size, 0, none⟩) 2 2) ([⟨p.fr, row, left⟩, ⟨row, p.to_, right⟩] : List Pt)) := hide (RdG.newL (E := pE) w.drew ([⟨p.fr, row, left⟩, ⟨row, p.to_, right⟩] : List Pt) 34 #[.string p.fr, .string row, .int .i64 left, .string row, .string p.to_, .int .i64 right] rfl (by simp))
  have HBO := hide (show Below w.heap.size w (w.drew.alloc (.cells #[.string p.fr, .string row, .int .i64 left, .string row, .string p.to_, .int .i64 right] 34)) by go_grown)
  clear hkeep hat hp hgd hB hv
  go_enter Try.func16, Try.ntmps16
  go_wp2_with fail
  go_region_held3 (fun X => X.cell? ⟨B, 0, none⟩ = some (.slice (some ⟨b, off, none⟩) l.length cap) ∧ X.cell? ⟨B + 1, 0, none⟩ = some (.int .i64 k) ∧ X.cell? ⟨B + 1 + 1, 0, none⟩ = some (.string row) ∧ X.cell? ⟨B + 1 + 1 + 1, 0, none⟩ = some (.int .i64 left) ∧ X.cell? ⟨B + 1 + 1 + 1 + 1, 0, none⟩ = some (.int .i64 right) ∧ X.cell? ⟨b, off + k * 3, none⟩ = some (.string p.fr) ∧ X.cell? ⟨b, off + k * 3 + 1, none⟩ = some (.string p.to_)) (exact HKEEP.out _ (by go_grown)) (first
    | (go_at_call 17; refine (HIN.out _ HBO.out _ HO.out).mono ?_; rintro e w2 ⟨v2, rfl, hr2, hb2, hn2⟩; have hbw2 := HBO.out.trans (hb2.mono HBO.out.size)))
  all_goals
    go_wp2_with fail
    go_ret
    exact ⟨_, rfl, by rw [HSL.out]; exact hr2, hbw2⟩

set_option maxRecDepth 100000 in
set_option maxHeartbeats 2000000 in
theorem does2_any (B : Nat) (lv : Value) (l : List Pt) (k : Nat) (row : ByteArray) (left right : Int) (w : World) (hB : PBx w B lv k row left right) (hv : RdG pE w lv l) (hk : k + 1 < l.length) (hl : l.length ≤ 1000) :
    Calls Try.prog 18 #[.pointer (some ⟨B, 0, none⟩), .pointer (some ⟨B + 1, 0, none⟩), .pointer (some ⟨B + 1 + 1 + 1, 0, none⟩)] w fun e w' => ∃ v', e = .returned v' ∧ RdG pE w' v' (joinL l k left) ∧ Below w.heap.size w w' := by
  obtain ⟨ao, cap, hvv, hc1, hc2⟩ := hv.shape
  subst hvv
  unfold maxLen at hc2
  obtain ⟨p, hp⟩ : ∃ c, l[k]? = some c := ⟨_, List.getElem?_eq_getElem (by omega)⟩
  obtain ⟨q, hq⟩ : ∃ c, l[k + 1]? = some c := ⟨_, List.getElem?_eq_getElem hk⟩
  have hgd : l.getD k zeroPt = p := by rw [List.getD_eq_getElem?_getD, hp]; rfl
  have hgq : l.getD (k + 1) zeroPt = q := by rw [List.getD_eq_getElem?_getD, hq]; rfl
  obtain ⟨b, off, rfl, hb, hat⟩ := hv.here hp
  obtain ⟨b2', off2, hbe, _, hat2⟩ := hv.here hq
  simp only [Option.some.injEq, Addr.mk.injEq, and_true] at hbe
  obtain ⟨rfl, rfl⟩ := hbe
  have hk1 : (0 : Int) ≤ (k : Int) := by omega
  have hk2 : (k : Int) < (l.length : Int) := by omega
  have hk3 : (0 : Int) ≤ (k : Int) + 1 := by omega
  have hk4 : (k : Int) + 1 < (l.length : Int) := by omega
  have hkw : IntKind.i64.wrap ((k : Int) + 1) = (k : Int) + 1 := by rw [IntKind.wrap_i64]; omega
  have hkeep : ∀ X, Below w.heap.size w X → X.cell? ⟨B, 0, none⟩ = some (.slice (some ⟨b, off, none⟩) l.length cap) ∧ X.cell? ⟨B + 1, 0, none⟩ = some (.int .i64 k) ∧ X.cell? ⟨B + 1 + 1 + 1, 0, none⟩ = some (.int .i64 left) ∧ X.cell? ⟨b, off + k * 3, none⟩ = some (.string p.fr) ∧ X.cell? ⟨b, off + (k + 1) * 3 + 1, none⟩ = some (.string q.to_) := fun X hX => by
    have h := hB.below hX hB.lt
    have q1 := (hat.below hX).part
    have q2 := (hat2.below hX).part
    exact ⟨h.b0, h.b1, h.b3, q1.1, q2.2.1⟩
  have HKEEP := hide hkeep
  obtain ⟨b0, b1, b3, c0, c1⟩ := hkeep w (Below.refl _ _)
  have HIN := hide (fun W (hW : Below w.heap.size w W) (u : Value) (hu : RdG pE W u [⟨p.fr, q.to_, left⟩]) => Instead_any (.slice (some ⟨b, off, none⟩) l.length cap) u l _ k 2 W (hv.below hW) hu (by omega) hl (by simp))
  have HSL := hide (show joinL l k left = l.take k ++ [⟨p.fr, q.to_, left⟩] ++ l.drop (k + 2) by rw [joinL, hgd, hgq])
  have HO : Hid (RdG pE (w.drew.alloc (.cells #[.string p.fr, .string q.to_, .int .i64 left] 34)) (.slice (some ⟨w.heap.size, 0, none⟩) 1 1) ([⟨p.fr, q.to_, left⟩] : List Pt)) := hide (RdG.newL (E := pE) w.drew ([⟨p.fr, q.to_, left⟩] : List Pt) 34 #[.string p.fr, .string q.to_, .int .i64 left] rfl (by simp))
  have HBO := hide (show Below w.heap.size w (w.drew.alloc (.cells #[.string p.fr, .string q.to_, .int .i64 left] 34)) by go_grown)
  clear hkeep hat hat2 hp hq hgd hgq hB hv
  go_enter Try.func18, Try.ntmps18
  go_wp2_with fail
  go_region_held3 (fun X => X.cell? ⟨B, 0, none⟩ = some (.slice (some ⟨b, off, none⟩) l.length cap) ∧ X.cell? ⟨B + 1, 0, none⟩ = some (.int .i64 k) ∧ X.cell? ⟨B + 1 + 1 + 1, 0, none⟩ = some (.int .i64 left) ∧ X.cell? ⟨b, off + k * 3, none⟩ = some (.string p.fr) ∧ X.cell? ⟨b, off + (k + 1) * 3 + 1, none⟩ = some (.string q.to_)) (exact HKEEP.out _ (by go_grown)) (first
    | (go_at_call 17; refine (HIN.out _ HBO.out _ HO.out).mono ?_; rintro e w2 ⟨v2, rfl, hr2, hb2, hn2⟩; have hbw2 := HBO.out.trans (hb2.mono HBO.out.size)))
  all_goals
    go_wp2_with fail
    go_ret
    exact ⟨_, rfl, by rw [HSL.out]; exact hr2, hbw2⟩


set_option maxRecDepth 100000 in
set_option maxHeartbeats 1000000 in
theorem partsAs_fault (x y : Int) (fv : Value) (v : Value) (w : World) (hv : RdG pE w v []) (hx : x ≠ 0) (F : FuncId) (cs : Array Value) :
    Calls Try.prog 15 #[v, .agg #[.int .i64 x, .int .i64 y], .agg #[.int .i64 x, .int .i64 y], .func (.func F) #[] cs] w fun e w' => e = .returned (.bool true) ∧ Below w.heap.size w w' := by
  obtain ⟨ao, cap, hvv, hc1, hc2⟩ := hv.shape
  subst hvv
  have hxb : (x != 0) = true := by simp [hx]
  go_enter Try.func15, Try.ntmps15
  go_wp2_with fail
  go_ret
  exact ⟨by simp, by go_grown⟩

set_option maxRecDepth 100000 in
set_option maxHeartbeats 1000000 in
theorem partsAs_one (v : Value) (LL : List Pt) (cs : Array Value) (w : World) (hv : RdG pE w v LL) (c0 c1 c2 c3 c4 : Value)
    (hC : ∀ W, Below w.heap.size w W → Calls Try.prog 16 #[c0, c1, c2, c3, c4] W fun e w' => ∃ v', e = .returned v' ∧ RdG pE w' v' LL ∧ Below W.heap.size W w') :
    Calls Try.prog 15 #[v, .agg #[.int .i64 0, .int .i64 0], .agg #[.int .i64 0, .int .i64 0], .func (.func 16) #[] #[c0, c1, c2, c3, c4]] w fun e w' => e = .returned (.bool true) ∧ Below w.heap.size w w' := by
  have HV := hide hv
  obtain ⟨ao, cap, hvv, hc1, hc2⟩ := hv.shape
  subst hvv
  have hW : Below w.heap.size w ((w.alloc (.cells #[.int .i64 0, .int .i64 0] 26)).alloc (.cells #[.int .i64 0, .int .i64 0] 26)) := by go_grown
  have HC := hide (hC _ hW)
  have HW := hide hW
  clear hC hW
  go_enter Try.func15, Try.ntmps15
  go_wp2_with fail
  refine HC.out.mono ?_
  rintro e w1 ⟨v1, rfl, hr1, hb1⟩
  have hbw1 : Below w.heap.size w w1 := HW.out.trans (hb1.mono (by simp; omega))
  obtain ⟨ao1, cap1, hvv1, _, _⟩ := hr1.shape
  subst hvv1
  go_wp2_with fail
  refine (SameParts_any _ _ LL _ (HV.out.below hbw1) hr1).mono ?_
  rintro e w2 ⟨rfl, hb2⟩
  go_wp2_with fail
  go_ret
  exact ⟨rfl, hbw1.trans (hb2.mono hbw1.size)⟩

set_option maxRecDepth 100000 in
set_option maxHeartbeats 1000000 in
theorem partsAs_two (v : Value) (LL : List Pt) (cs : Array Value) (w : World) (hv : RdG pE w v LL) (c0 c1 c2 : Value)
    (hC : ∀ W, Below w.heap.size w W → Calls Try.prog 18 #[c0, c1, c2] W fun e w' => ∃ v', e = .returned v' ∧ RdG pE w' v' LL ∧ Below W.heap.size W w') :
    Calls Try.prog 15 #[v, .agg #[.int .i64 0, .int .i64 0], .agg #[.int .i64 0, .int .i64 0], .func (.func 18) #[] #[c0, c1, c2]] w fun e w' => e = .returned (.bool true) ∧ Below w.heap.size w w' := by
  have HV := hide hv
  obtain ⟨ao, cap, hvv, hc1, hc2⟩ := hv.shape
  subst hvv
  have hW : Below w.heap.size w ((w.alloc (.cells #[.int .i64 0, .int .i64 0] 26)).alloc (.cells #[.int .i64 0, .int .i64 0] 26)) := by go_grown
  have HC := hide (hC _ hW)
  have HW := hide hW
  clear hC hW
  go_enter Try.func15, Try.ntmps15
  go_wp2_with fail
  refine HC.out.mono ?_
  rintro e w1 ⟨v1, rfl, hr1, hb1⟩
  have hbw1 : Below w.heap.size w w1 := HW.out.trans (hb1.mono (by simp; omega))
  obtain ⟨ao1, cap1, hvv1, _, _⟩ := hr1.shape
  subst hvv1
  go_wp2_with fail
  refine (SameParts_any _ _ LL _ (HV.out.below hbw1) hr1).mono ?_
  rintro e w2 ⟨rfl, hb2⟩
  go_wp2_with fail
  go_ret
  exact ⟨rfl, hbw1.trans (hb2.mono hbw1.size)⟩

end Go.Proofs.Ytahgddbladfemae
