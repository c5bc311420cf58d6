/-
  The walks over merge.counting and the function that it answers.
-/
import Derived.Test.YtlebbkbbmgmmjadMergeW7
namespace Go.Proofs.Ytlebbkbbmgmmjad
open Go.RowKit

/-- Nothing that was there is another one, but for the blocks H and H + 1. -/
structure Gb2 (w w' : World) (H : Nat) : Prop where
  os : w'.os = w.os
  tape : w'.tape = w.tape
  output : w'.output = w.output
  size : w.heap.size ≤ w'.heap.size
  block : ∀ k, k < w.heap.size → k ≠ H → k ≠ H + 1 → w'.heap[k]? = w.heap[k]?

theorem Gb2.refl (w : World) (H : Nat) : Gb2 w w H := ⟨rfl, rfl, rfl, Nat.le_refl _, fun _ _ _ _ => rfl⟩
theorem Gb2.trans {a b c : World} {H : Nat} (h : Gb2 a b H) (k : Gb2 b c H) : Gb2 a c H :=
  ⟨k.os.trans h.os, k.tape.trans h.tape, k.output.trans h.output, Nat.le_trans h.size k.size, fun j hj h1 h2 => (k.block j (Nat.lt_of_lt_of_le hj h.size) h1 h2).trans (h.block j hj h1 h2)⟩

theorem Gb2.ofBelow {a b : World} {H : Nat} (h : Below a.heap.size a b) : Gb2 a b H := ⟨h.os, h.tape, h.output, h.size, fun k hk _ _ => h.block k hk⟩
theorem Gb2.ofGb {a b : World} {H : Nat} (h : a.grownBy b (some H)) : Gb2 a b H := ⟨h.os, h.tape, h.output, h.size, fun k hk h1 _ => h.block k hk (by simpa using h1)⟩
theorem Gb2.ofGb1 {a b : World} {H : Nat} (h : a.grownBy b (some (H + 1))) : Gb2 a b H := ⟨h.os, h.tape, h.output, h.size, fun k hk _ h1 => h.block k hk (by simpa using h1)⟩
theorem Gb2.past {a w : World} {H : Nat} (h : Gb2 a w H) {p : Addr} (hp : a.heap.size ≤ p.block) (u : Value) : Gb2 a (w.setCell p u) H :=
  ⟨h.os, h.tape, h.output, by rw [World.setCell]; simp [h.size], fun k hk h1 h2 => (heap_setCell_other w p k u (by omega)).trans (h.block k hk h1 h2)⟩
theorem Gb2.set {a w : World} {H : Nat} (h : Gb2 a w H) (j : Nat) (u : Value) : Gb2 a (w.setCell ⟨H + 1, j, none⟩ u) H :=
  ⟨h.os, h.tape, h.output, by rw [World.setCell]; simp [h.size], fun k hk h1 h2 => (heap_setCell_other w _ k u h2).trans (h.block k hk h1 h2)⟩
theorem Gb2.alloc {a w : World} {H : Nat} (h : Gb2 a w H) (o : Obj) : Gb2 a (w.alloc o) H :=
  ⟨h.os, h.tape, h.output, by simp; have := h.size; omega, fun k hk h1 h2 => (heap_alloc_old w o (Nat.lt_of_lt_of_le hk h.size)).trans (h.block k hk h1 h2)⟩

theorem Bk.gb2 {w w' : World} {H B : Nat} {t : TypeId} {xs : Array Value} (h : Bk w B t xs) (hg : Gb2 w w' H) (h1 : B ≠ H) (h2 : B ≠ H + 1) : Bk w' B t xs := by
  unfold Bk
  rw [hg.block _ h.lt h1 h2]
  exact h

theorem owns_gb2 {w w' : World} {base : Nat} {e : TypeId} {size : Nat} {v : Value} {n : Nat} {xs : List Value} {H : Nat} (h : w.ownsRow base e size v n xs) (hg : Gb2 w w' H) (hH : H + 1 < base) : w'.ownsRow base e size v n xs := by
  refine ⟨h.1, ?_⟩
  rcases h.2 with hn | ⟨g, cap, cur, rfl, hb, hh, r⟩
  · exact .inl hn
  · exact .inr ⟨g, cap, cur, rfl, hb, by rw [hg.block g (Array.getElem?_eq_some_iff.1 hh).1 (by omega) (by omega)]; exact hh, r⟩

theorem Gb2.below {w0 w w' : World} {C H : Nat} (h : Below C w0 w) (hg : Gb2 w w' H) (hC : C ≤ w.heap.size) (hH : C ≤ H) : Below C w0 w' :=
  ⟨hg.os.trans h.os, hg.tape.trans h.tape, hg.output.trans h.output, Nat.le_trans h.size hg.size, fun k hk => (hg.block k (by omega) (by omega) (by omega)).trans (h.block k hk)⟩

/-- The state of counting's function: the cells L are to be told. -/
def NxSt (w0 w : World) (H : Nat) (L : List Cl) : Prop :=
  ∃ xs hs told, Bk w H 132 xs ∧ HpAt xs hs ∧ HeapP hs ∧ (∀ s ∈ hs, SOk w0 s) ∧ Bk w (H + 1) 91 (ca told) ∧ Rem told hs L ∧ Below w0.heap.size w0 w ∧ w0.heap.size ≤ H

/-- counting's function. -/
def nxF (H : Nat) : Value := .func (.func 92) #[] #[.pointer (some ⟨H, 0, none⟩), .pointer (some ⟨H + 1, 0, none⟩)]

theorem NxSt.gb {w0 w w' : World} {H C : Nat} {L : List Cl} (h : NxSt w0 w H L) (hb : Below C w w') (hC : H + 1 < C) : NxSt w0 w' H L := by
  obtain ⟨xs, hs, told, h1, h2, h3, h4, h5, h6, h7, h8⟩ := h
  exact ⟨xs, hs, told, h1.below hb (by omega), h2, h3, h4, h5.below hb hC, h6, h7.trans (hb.mono (by omega)), h8⟩

theorem NxSt.lt {w0 w : World} {H : Nat} {L : List Cl} (h : NxSt w0 w H L) : H + 1 < w.heap.size := by
  obtain ⟨xs, hs, told, h1, h2, h3, h4, h5, h6, h7, h8⟩ := h
  exact h5.lt

theorem NxSt.grown {w0 w w' : World} {H k : Nat} {L : List Cl} (h : NxSt w0 w H L) (hg : w.grownBy w' (some k)) (hk : H + 1 < k) : NxSt w0 w' H L := by
  obtain ⟨xs, hs, told, h1, h2, h3, h4, h5, h6, h7, h8⟩ := h
  exact ⟨xs, hs, told, h1.grown hg (by simp; omega), h2, h3, h4, h5.grown hg (by simp; omega), h6, h7.grown hg h7.size (fun j hj => by simp at hj; omega), h8⟩

theorem remW_gb {w w' : World} {H : Nat} (hb : w'.heap[H]? = w.heap[H]?) : remW w' H = remW w H := by
  unfold remW
  rw [hb]

set_option maxRecDepth 100000 in
set_option maxHeartbeats 1000000 in
theorem counting_any (v : Value) (ls : List (List Cl)) (w : World) (hv : RdL w v ls) (hlen : ls.length ≤ 20) (hf : ∀ l ∈ ls, (checkC l).1 = 0) :
    Calls Try.prog 58 #[v] w fun e w' => ∃ H, e = .returned (nxF H) ∧ NxSt w w' H (joinR ls) ∧ w.heap.size ≤ H ∧ Below w.heap.size w w' ∧ w'.heap.size = H + 2 := by
  obtain ⟨ao, cap, hvv, hc1, hc2⟩ := hv.shape
  subst hvv
  have HF := hide hf
  clear hf
  go_enter Try.func58, Try.ntmps58
  go_wp2_with fail
  refine (heapOf_any _ ls _ hv hlen).mono ?_
  rintro e w1 ⟨xs, hs, rfl, hA, hP, hC, hok, hb1⟩
  have hsz := hA.size
  have hi : (Try.prog.info? 132).map (·.size) = some xs.size := by rw [hsz]; exact Try.size132
  have hz : zeroH.size = xs.size := by rw [hsz]; rfl
  have h1 := hA.one
  have HA := hide hA
  have HP := hide hP
  have HC := hide hC
  have HOK := hide hok
  have hB0 := Bk.new w1 132 zeroH
  have HB0 := hide hB0
  have hb1s := hb1.size
  have hbb : Below w.heap.size w ((w1.alloc (.cells xs 132)).alloc (.cells (ca zeroC) 91)) := hb1.trans ((below_alloc' _ _).trans ((below_alloc' _ _).mono (by simp)) |>.mono hb1s)
  have hBH : Bk ((w1.alloc (.cells xs 132)).alloc (.cells (ca zeroC) 91)) w1.heap.size 132 xs := (Bk.new w1 132 xs).below (below_alloc' _ _) (by simp)
  have hBT : Bk ((w1.alloc (.cells xs 132)).alloc (.cells (ca zeroC) 91)) (w1.heap.size + 1) 91 (ca zeroC) := Bk.new2 w1 _ _ _
  have HST := hide (show NxSt w ((w1.alloc (.cells xs 132)).alloc (.cells (ca zeroC) 91)) w1.heap.size (joinR ls) from ⟨xs, hs, zeroC, hBH, hA, hP, hok, hBT, Rem.init hC HF.out, hbb, hb1s⟩)
  have HBB := hide hbb
  clear hA hP hC hok hB0 hbb hBH hBT
  go_wp2_with (refine wpList_store_bk (w := w1.alloc (.cells zeroH 132)) HB0.out hi hz h1 rfl rfl rfl rfl ?_; rw [World.setRow_alloc_new])
  go_ret
  exact ⟨w1.heap.size, rfl, HST.out, hb1s, HBB.out, by simp⟩

end Go.Proofs.Ytlebbkbbmgmmjad
