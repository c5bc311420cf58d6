/-
  More on what slices hold. Nothing of a program stands here.
-/
import Derived.Test.YtpojgcjigjenoagBase
import Derived.Deep.DeepCutAuto
import Derived.Deep.RegionWith
namespace Go.Proofs.Ytpojgcjigjenoag
open Go.RowKit

theorem owns_below {w w' : World} {base : Nat} {e : TypeId} {size : Nat} {v : Value} {n : Nat} {xs : List Value} (h : w.ownsRow base e size v n xs) (hb : Below w.heap.size w w') : w'.ownsRow base e size v n xs := by
  refine ⟨h.1, ?_⟩
  rcases h.2 with hn | ⟨g, cap, cur, rfl, hg, hh, r⟩
  · exact .inl hn
  · exact .inr ⟨g, cap, cur, rfl, hg, by rw [hb.block g (Array.getElem?_eq_some_iff.1 hh).1]; exact hh, r⟩

/-- 'v[lo:]' as an operation. -/
theorem run_slice_from {P : Program} {t e : TypeId} {z : Value} {bytes : Nat} (ht : P.underlying t = some (.slice e)) (he : P.elem t = e) (hinf : (P.info? e).map (fun i => (i.zero, i.size, i.bytes)) = some (some z, 1, bytes))
    (ao : Option Addr) (n cap lo : Nat) (l : Int) (hl : l = lo) (h1 : lo ≤ n) (W : World) :
    (Instr.slice t (.slice ao n cap) (some (.int .i64 l)) none none).run P W = .ok (Go.sliced ao lo n cap 1) W := by
  obtain ⟨i, hi0, _, hsize, _⟩ := info_parts hinf
  subst hl
  rw [run_slice_l (P := P) W t ao n cap (by rw [he]; exact ht) .i64 lo (by omega) (by omega)]
  simp [he, sizeOf, typeInfo, hi0, hsize, Result.andThen]

/-- 'v[:hi]' as an operation. -/
theorem run_slice_upto {P : Program} {t e : TypeId} {z : Value} {bytes : Nat} (ht : P.underlying t = some (.slice e)) (he : P.elem t = e) (hinf : (P.info? e).map (fun i => (i.zero, i.size, i.bytes)) = some (some z, 1, bytes))
    (ao : Option Addr) (n cap hi : Nat) (h : Int) (hh : h = hi) (h1 : hi ≤ cap) (W : World) :
    (Instr.slice t (.slice ao n cap) none (some (.int .i64 h)) none).run P W = .ok (Go.sliced ao 0 hi cap 1) W := by
  obtain ⟨i, hi0, _, hsize, _⟩ := info_parts hinf
  subst hh
  rw [run_slice_h (P := P) W t ao n cap (by rw [he]; exact ht) .i64 hi (by omega) (by omega)]
  simp [he, sizeOf, typeInfo, hi0, hsize, Result.andThen]

theorem Rd.from {w : World} {ao : Option Addr} {n cap lo : Nat} {xs : List Value} (h : Rd w (.slice ao n cap) xs) (h1 : lo ≤ n) : Rd w (Go.sliced ao lo n cap 1) (xs.drop lo) := by
  have hn : n = xs.length := by
    obtain ⟨_, _, hv, _⟩ := h
    simp only [Value.slice.injEq] at hv
    exact hv.2.1
  have := h.sliced h1 (Nat.le_refl _)
  rwa [List.take_of_length_le (by rw [List.length_drop, hn]; exact Nat.le_refl _)] at this

theorem Rd.upto {w : World} {ao : Option Addr} {n cap hi : Nat} {xs : List Value} (h : Rd w (.slice ao n cap) xs) (h1 : hi ≤ n) : Rd w (Go.sliced ao 0 hi cap 1) (xs.take hi) := by
  have := h.sliced (Nat.zero_le _) h1
  simpa using this

theorem Rd.len {w : World} {ao : Option Addr} {n cap : Nat} {xs : List Value} (h : Rd w (.slice ao n cap) xs) : n = xs.length ∧ n ≤ cap ∧ cap ≤ maxLen := by
  obtain ⟨ao', cap', hv, h1, h2, _⟩ := h
  simp only [Value.slice.injEq] at hv
  obtain ⟨_, rfl, rfl⟩ := hv
  exact ⟨rfl, h1, h2⟩

theorem bc_drop (bs : List UInt8) (k : Nat) : (bc bs).drop k = bc (bs.drop k) := by simp [bc, List.map_drop]
theorem bc_take (bs : List UInt8) (k : Nat) : (bc bs).take k = bc (bs.take k) := by simp [bc, List.map_take]
theorem sliced_shape (ao : Option Addr) (lo hi cap : Nat) : ∃ a, Go.sliced ao lo hi cap 1 = .slice a (hi - lo) (cap - lo) := ⟨_, rfl⟩

end Go.Proofs.Ytpojgcjigjenoag
