/-
  The walk over wire.Open.
-/
import Derived.Test.YtdiflcodpnjljabFrameW3
namespace Go.Proofs.Ytdiflcodpnjljab
open Go.RowKit

theorem owns_base {w : World} {base base' : Nat} {e : TypeId} {size : Nat} {v : Value} {n : Nat} {xs : List Value} (h : w.ownsRow base' e size v n xs) (hb : base ≤ base') : w.ownsRow base e size v n xs := by
  refine ⟨h.1, ?_⟩
  rcases h.2 with hn | ⟨g, cap, cur, hv, hg, r⟩
  · exact .inl hn
  · exact .inr ⟨g, cap, cur, hv, Nat.le_trans hb hg, r⟩

/-- A list of bodies that lies, with all its bodies, in blocks from B on. -/
def RdBN (w : World) (B : Nat) (v : Value) (bb : List (List UInt8)) : Prop :=
  ∃ vs : List Value, Rd w v vs ∧ New B v ∧ vs.length = bb.length ∧ ∀ (i : Nat) (u : Value) (b : List UInt8), vs[i]? = some u → bb[i]? = some b → Rd w u (bc b) ∧ New B u

theorem RdBN.toB {w : World} {B : Nat} {v : Value} {bb : List (List UInt8)} (h : RdBN w B v bb) : RdB w v bb := by
  obtain ⟨vs, h1, _, h2, h3⟩ := h
  exact ⟨vs, h1, h2, fun i u b hu hb => (h3 i u b hu hb).1⟩

theorem RdBN.nil (w : World) (B : Nat) : RdBN w B (.slice none 0 0) [] := ⟨[], Rd.nil w, New.nil _, rfl, fun i u b hu => by simp at hu⟩
theorem RdBN.set {w : World} {B : Nat} {v : Value} {bb : List (List UInt8)} (h : RdBN w B v bb) {p : Addr} (hp : p.block < B) (x : Value) : RdBN (w.setCell p x) B v bb := by
  obtain ⟨vs, h1, hn, h2, h3⟩ := h
  exact ⟨vs, h1.setNew hn hp x, hn, h2, fun i u b hu hb => ⟨(h3 i u b hu hb).1.setNew (h3 i u b hu hb).2 hp x, (h3 i u b hu hb).2⟩⟩

theorem OwnB.news {w : World} {base : Nat} : ∀ {us : List Value} {bb : List (List UInt8)}, OwnB w base us bb → ∀ (i : Nat) (u : Value), us[i]? = some u → New base u
  | [], [], _, i, u, hu => by simp at hu
  | u0 :: us, b0 :: bb, h, 0, u, hu => by
    simp at hu
    subst hu
    exact New.owns h.1
  | u0 :: us, b0 :: bb, h, i + 1, u, hu => OwnB.news h.2 i u (by simpa using hu)
  | [], _ :: _, h, _, _, _ => by cases h
  | _ :: _, [], h, _, _, _ => by cases h

theorem rdBN_of {w : World} {base B : Nat} {v : Value} {us : List Value} {bb : List (List UInt8)} {e : TypeId} {n : Nat} (h : w.ownsRow base e 1 v n us) (hb : OwnB w base us bb) (hB : B ≤ base) : RdBN w B v bb :=
  ⟨us, Rd.ofOwns h, (New.owns h).mono hB, hb.length, fun i u b hu hb' => ⟨hb.get i u b hu hb', (hb.news i u hu).mono hB⟩⟩


end Go.Proofs.Ytdiflcodpnjljab
