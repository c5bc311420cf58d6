/-
  The walks over wire.Frames and wire.Open.
-/
import Derived.Test.YtlebbkbbmgmmjabFrameW1
import Derived.Laws.CopyOwn
namespace Go.Proofs.Ytlebbkbbmgmmjab
open Go.RowKit

theorem Rd.lts {w : World} {v : Value} {xs : List Value} (h : Rd w v xs) : ∀ a l c, v = .slice (some a) l c → 0 < xs.length → a.block < w.heap.size := by
  intro a l c e hp
  subst e
  exact h.block_lt hp

/-- A list of bodies: a slice of slices of bytes. -/
def RdB (w : World) (v : Value) (bb : List (List UInt8)) : Prop :=
  ∃ vs : List Value, Rd w v vs ∧ vs.length = bb.length ∧ ∀ (i : Nat) (u : Value) (b : List UInt8), vs[i]? = some u → bb[i]? = some b → Rd w u (bc b)

theorem RdB.below {w w' : World} {v : Value} {bb : List (List UInt8)} (h : RdB w v bb) (hb : Below w.heap.size w w') : RdB w' v bb := by
  obtain ⟨vs, h1, h2, h3⟩ := h
  exact ⟨vs, h1.below hb, h2, fun i u b hu hb' => (h3 i u b hu hb').below hb⟩

theorem RdB.nil (w : World) : RdB w (.slice none 0 0) [] := ⟨[], Rd.nil w, rfl, fun i u b hu => by simp at hu⟩
theorem RdB.drewN {w : World} {v : Value} {bb : List (List UInt8)} (h : RdB w v bb) (n : Nat) : RdB (w.drewN n) v bb := h
theorem RdB.open {w : World} {v : Value} {bb : List (List UInt8)} (h : RdB w v bb) :
    ∃ ao cap, v = .slice ao bb.length cap ∧ bb.length ≤ cap ∧ cap ≤ maxLen ∧ ∀ j (hj : j < bb.length), ∃ b off u, ao = some ⟨b, off, none⟩ ∧ b < w.heap.size ∧ w.cell? ⟨b, off + j, none⟩ = some u ∧ Rd w u (bc bb[j]) := by
  obtain ⟨vs, h1, h2, h3⟩ := h
  obtain ⟨ao, cap, hv, hc1, hc2, hc⟩ := h1.open
  rw [h2] at hv hc1 hc
  refine ⟨ao, cap, hv, hc1, hc2, fun j hj => ?_⟩
  obtain ⟨b, off, e, hb, hcl⟩ := hc j hj
  have hj' : j < vs.length := by omega
  exact ⟨b, off, vs[j], e, hb, hcl j _ (List.getElem?_eq_getElem hj'), h3 j _ _ (List.getElem?_eq_getElem hj') (List.getElem?_eq_getElem hj)⟩

/-- What Frames comes to, from what is left on. -/
def framesGo : List (List UInt8) → List UInt8 → List UInt8 × Int × Int
  | [], acc => (acc, 0, 0)
  | b :: bb, acc => if 60000 < acc.length + b.length + 6 then ([], 9, 0) else framesGo bb (acc ++ framed b)

def framesR (bb : List (List UInt8)) : List UInt8 × Int × Int := if 1000 < bb.length then ([], 2, 0) else framesGo bb []
theorem framesGo_step (zs : List (List UInt8)) (k : Nat) (acc : List UInt8) (h : k < zs.length) (h1 : acc.length + zs[k].length + 6 ≤ 60000) :
    framesGo (zs.drop (k + 1)) (acc ++ framed zs[k]) = framesGo (zs.drop k) acc := by
  rw [drop_cons zs k h, framesGo, if_neg (by omega)]

theorem framesGo_bad (zs : List (List UInt8)) (k : Nat) (acc : List UInt8) (h : k < zs.length) (h1 : 60000 < acc.length + zs[k].length + 6) : framesGo (zs.drop k) acc = ([], 9, 0) := by
  rw [drop_cons zs k h, framesGo, if_pos h1]

theorem framesGo_end (zs : List (List UInt8)) (k : Nat) (acc : List UInt8) (h : zs.length ≤ k) : framesGo (zs.drop k) acc = (acc, 0, 0) := by
  rw [List.drop_eq_nil_of_le h, framesGo]


end Go.Proofs.Ytlebbkbbmgmmjab
