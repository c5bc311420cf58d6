/-
  The walk over cell.runs: lists in order, pieces of the argument.
-/
import Derived.Test.YtlebbkbbmgmmjadCellS2
namespace Go.Proofs.Ytlebbkbbmgmmjad
open Go.RowKit

theorem Try.info30 : (Try.prog.info? 30).map (fun i => (i.zero, i.size, i.bytes)) = some (some (.slice none 0 0), 1, 24) := by kernel_rfl

/-- 'v[lo:hi]' of cells as an operation. -/
theorem run_slice_rdC {P : Program} {t e : TypeId} {z : Value} {bytes : Nat} (ht : P.underlying t = some (.slice e)) (he : P.elem t = e) (hinf : (P.info? e).map (fun i => (i.zero, i.size, i.bytes)) = some (some z, 5, bytes))
    (ao : Option Addr) (n cap lo hi : Nat) (l h : Int) (hl : l = lo) (hh : h = hi) (h1 : lo ≤ hi) (h2 : hi ≤ cap) (W : World) :
    (Instr.slice t (.slice ao n cap) (some (.int .i64 l)) (some (.int .i64 h)) none).run P W = .ok (Go.sliced ao lo hi cap 5) W := by
  obtain ⟨i, hi0, _, hsize, _⟩ := info_parts hinf
  subst hl hh
  rw [run_slice_lh (P := P) W t ao n cap (by rw [he]; exact ht) .i64 .i64 lo hi (by omega) (by omega) (by omega)]
  simp [he, sizeOf, typeInfo, hi0, hsize, Result.andThen]

theorem RdC.sliced {w : World} {ao : Option Addr} {n cap lo hi : Nat} {cs : List Cl} (h : RdC w (.slice ao n cap) cs) (h1 : lo ≤ hi) (h2 : hi ≤ n) : RdC w (Go.sliced ao lo hi cap 5) ((cs.drop lo).take (hi - lo)) := by
  obtain ⟨ao', cap', hv, h3, h4, h5, h6⟩ := h
  simp only [Value.slice.injEq] at hv
  obtain ⟨rfl, rfl, rfl⟩ := hv
  have hl : ((cs.drop lo).take (hi - lo)).length = hi - lo := by simp; omega
  refine ⟨_, cap - lo, by rw [hl]; rfl, by omega, by omega, ?_, ?_⟩
  · intro hn
    split at hn
    · omega
    · rw [Option.map_eq_none_iff] at hn
      have := h5 hn
      omega
  · intro a ha j u hu
    have hj := (List.getElem?_eq_some_iff.1 hu).1
    rw [cc_length, hl] at hj
    rw [← cc_take, ← cc_drop, List.getElem?_take, if_pos (by omega), List.getElem?_drop] at hu
    split at ha
    · omega
    · obtain ⟨a0, e0, rfl⟩ := Option.map_eq_some_iff.1 ha
      have hl2 := (List.getElem?_eq_some_iff.1 hu).1
      have h0 := h6 a0 e0 0 (cc cs)[0] (by simp)
      obtain ⟨b, o, rfl⟩ := add_spot h0
      have := h6 _ e0 (lo * 5 + j) u hu
      simp only [Addr.add_lit] at this ⊢
      rw [Nat.add_assoc]
      exact this

/-- The pieces of a list: each a slice of its own. -/
def RdL (w : World) (v : Value) (ls : List (List Cl)) : Prop := ∃ vs : List Value, Rd w v vs ∧ vs.length = ls.length ∧ (∀ u ∈ vs, u.oneCell' = true) ∧ ∀ (i : Nat) u l, vs[i]? = some u → ls[i]? = some l → RdC w u l

/-- The values of pieces. -/
def Pcs (w : World) (vs : List Value) (ls : List (List Cl)) : Prop := vs.length = ls.length ∧ (∀ u ∈ vs, u.oneCell' = true) ∧ ∀ (i : Nat) u l, vs[i]? = some u → ls[i]? = some l → RdC w u l

theorem Pcs.nil (w : World) : Pcs w [] [] := ⟨rfl, by simp, fun i u l h => by simp at h⟩
theorem Pcs.snoc {w : World} {vs : List Value} {ls : List (List Cl)} (h : Pcs w vs ls) {u : Value} {l : List Cl} (hu : RdC w u l) : Pcs w (vs ++ [u]) (ls ++ [l]) := by
  refine ⟨by simp [h.1], fun x hx => ?_, fun i x y hx hy => ?_⟩
  · rcases List.mem_append.1 hx with hx | hx
    · exact h.2.1 x hx
    · simp at hx
      subst hx
      obtain ⟨_, _, rfl, _⟩ := hu
      rfl
  · by_cases hi : i < vs.length
    · rw [List.getElem?_append_left hi] at hx
      rw [List.getElem?_append_left (by rw [← h.1]; exact hi)] at hy
      exact h.2.2 i x y hx hy
    · have h1 := (List.getElem?_eq_some_iff.1 hx).1
      simp at h1
      have e : i = vs.length := by omega
      subst e
      rw [List.getElem?_append_right (Nat.le_refl _), Nat.sub_self] at hx
      rw [List.getElem?_append_right (by rw [h.1]; exact Nat.le_refl _), h.1, Nat.sub_self] at hy
      simp at hx hy
      subst hx hy
      exact hu

theorem Pcs.below {w w' : World} {vs : List Value} {ls : List (List Cl)} (h : Pcs w vs ls) (hb : Below w.heap.size w w') : Pcs w' vs ls :=
  ⟨h.1, h.2.1, fun i u l hu hl => (h.2.2 i u l hu hl).below hb⟩

/-- The piece from s up to k grows by one. -/
theorem piece_grow {cs : List Cl} {s k : Nat} (h : s ≤ k) {c d : Cl} (hc : cs[k]? = some c) (hd : cs[k + 1]? = some d) (hp : ((cs.drop s).take (k + 1 - s)).Pairwise Lt) (hcd : Lt c d) : ((cs.drop s).take (k + 2 - s)).Pairwise Lt := by
  have e : (cs.drop s).take (k + 2 - s) = (cs.drop s).take (k + 1 - s) ++ [d] := by
    rw [show k + 2 - s = (k + 1 - s) + 1 by omega, List.take_add_one, List.getElem?_drop, show s + (k + 1 - s) = k + 1 by omega, hd]
    rfl
  have e2 : (cs.drop s).take (k + 1 - s) = (cs.drop s).take (k - s) ++ [c] := by
    rw [show k + 1 - s = (k - s) + 1 by omega, List.take_add_one, List.getElem?_drop, show s + (k - s) = k by omega, hc]
    rfl
  rw [e]
  refine List.pairwise_append.2 ⟨hp, by simp, fun x hx y hy => ?_⟩
  simp at hy
  subst hy
  rw [e2] at hx hp
  rcases List.mem_append.1 hx with hx | hx
  · exact Lt_trans ((List.pairwise_append.1 hp).2.2 x hx c (by simp)) hcd
  · simp at hx
    subst hx
    exact hcd

theorem piece_one {cs : List Cl} {k : Nat} : ((cs.drop k).take (k + 1 - k)).Pairwise Lt := by
  rw [show k + 1 - k = 1 by omega]
  cases h : cs.drop k with
  | nil => simp
  | cons x l => simp

theorem piece_join {cs : List Cl} {s k : Nat} (h : s ≤ k) : cs.take s ++ (cs.drop s).take (k - s) = cs.take k := by
  rw [← List.take_add, show s + (k - s) = k by omega]


end Go.Proofs.Ytlebbkbbmgmmjad
