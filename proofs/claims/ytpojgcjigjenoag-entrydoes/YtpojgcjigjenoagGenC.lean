/-
  slices.Grow's append of a make; lists of lists of structures. Nothing of a program stands here.
-/
import Derived.Test.YtpojgcjigjenoagGenB
import Derived.Lib.AppendZerosOnto
namespace Go.Proofs.Ytpojgcjigjenoag
open Go.RowKit

theorem zeroCells_len (z : Array Value) (k : Nat) : (Builtin.zeroCells z k).size = k * z.size := by
  simp [Builtin.zeroCells]

/-- 'append([]T(nil), make([]T, n)...)', of which nothing is kept but the room. -/
theorem run_grow_nil {P : Program} (w : World) {t tn ty e : TypeId} {z : Value} {K bytes : Nat} (ht : P.underlying t = some (.slice e)) (htn : P.underlying tn = some (.int .i64)) (hinf : (P.info? e).map (fun i => (i.zero, i.size, i.bytes)) = some (some z, K, bytes)) (hzs : z.cells.size = K) (hK : 0 < K) (hbytes : bytes ≤ 128) (n : Nat) (h0 : 0 < n) (hn : n ≤ 1000000) :
    ∃ G w1, (Builtin.append_ #[t, tn] ty #[.slice none 0 0, .int .i64 n]).run P w = .ok (.slice (some ⟨w.heap.size, 0, none⟩) n G) w1 ∧ n ≤ G ∧ G ≤ maxLen ∧ w1.ownsRow w.heap.size e K (.slice (some ⟨w.heap.size, 0, none⟩) 0 G) 0 [] ∧ Below w.heap.size w w1 := by
  obtain ⟨i, hi, hz, hsize, hby⟩ := info_parts hinf
  have hb : n * bytes ≤ 1000000 * 128 := Nat.mul_le_mul hn hbytes
  have h := Lib.run_append_nil_zeros (P := P) w t tn ty e i z .i64 .i64 ht htn hi hz n h0 (by omega) (by omega) (by rw [hby]; omega)
  have hGn := grownCap_ge w n 0 e
  have hGm := grownCap_le_maxLen w n 0 e (by unfold maxLen; omega)
  refine ⟨_, _, h, hGn, hGm, ?_, (Below.drew (Below.refl _ _)).alloc (Nat.le_refl _) _⟩
  refine World.ownsRow_made w.drew _ _ (Nat.le_refl _) hGm ?_
  rw [Array.size_append, zeroCells_len, zeroCells_len, hzs, ← Nat.add_mul]
  congr 1
  omega

/-- The slice v reads as lists of structures. -/
def RdLG {α : Type} {K : Nat} (E : En α K) (w : World) (v : Value) (ls : List (List α)) : Prop :=
  ∃ us : List Value, Rd w v us ∧ us.length = ls.length ∧ ∀ (i : Nat) u l, us[i]? = some u → ls[i]? = some l → RdG E w u l

section
variable {α : Type} {K : Nat} {E : En α K}

theorem RdLG.shape {w : World} {v : Value} {ls : List (List α)} (h : RdLG E w v ls) : ∃ ao cap, v = .slice ao ls.length cap ∧ ls.length ≤ cap ∧ cap ≤ maxLen := by
  obtain ⟨us, h1, h2, _⟩ := h
  obtain ⟨ao, cap, h3, h4, h5⟩ := h1.shape
  rw [h2] at h3 h4
  exact ⟨ao, cap, h3, h4, h5⟩

theorem RdLG.below {w w' : World} {v : Value} {ls : List (List α)} (h : RdLG E w v ls) (hb : Below w.heap.size w w') : RdLG E w' v ls := by
  obtain ⟨us, h1, h2, h3⟩ := h
  exact ⟨us, h1.below hb, h2, fun i u l hu hl => (h3 i u l hu hl).below hb⟩

theorem RdLG.here {w : World} {ao : Option Addr} {n cap : Nat} {ls : List (List α)} (h : RdLG E w (.slice ao n cap) ls) {i : Nat} {l : List α} (hi : ls[i]? = some l) :
    ∃ b off u, ao = some ⟨b, off, none⟩ ∧ b < w.heap.size ∧ w.cell? ⟨b, off + i, none⟩ = some u ∧ RdG E w u l := by
  obtain ⟨us, h1, h2, h3⟩ := h
  have hl := (List.getElem?_eq_some_iff.1 hi).1
  obtain ⟨b, off, cap', hv, _, _, hb, hc⟩ := h1.pos (by omega)
  simp only [Value.slice.injEq] at hv
  obtain ⟨rfl, _, _⟩ := hv
  have hu : us[i]? = some (us[i]'(by omega)) := List.getElem?_eq_getElem _
  exact ⟨b, off, _, rfl, hb, hc i _ hu, h3 i _ l hu hi⟩

/-- A block of three slices that was laid for them. -/
theorem RdLG.three (w : World) (e : TypeId) {a b c : Value} {la lb lc : List α} (ha : RdG E w a la) (hb : RdG E w b lb) (hc : RdG E w c lc) :
    RdLG E (w.alloc (.cells #[a, b, c] e)) (.slice (some ⟨w.heap.size, 0, none⟩) 3 3) [la, lb, lc] := by
  refine ⟨[a, b, c], ⟨some ⟨w.heap.size, 0, none⟩, 3, rfl, Nat.le_refl _, by decide, (fun h => by cases h), fun ad had j v hv => ?_⟩, rfl, fun i u l hu hl => ?_⟩
  · cases had
    rw [Addr.add_lit, Nat.zero_add, ← hv]
    have := cell_of_row (w.alloc (.cells #[a, b, c] e)) w.heap.size j _ e (0, 0) (heap_alloc_new w _)
    rw [this]
    simp
  · match i, hu, hl with
    | 0, hu, hl => simp at hu hl; subst hu hl; exact ha.alloc _
    | 1, hu, hl => simp at hu hl; subst hu hl; exact hb.alloc _
    | 2, hu, hl => simp at hu hl; subst hu hl; exact hc.alloc _

end

end Go.Proofs.Ytpojgcjigjenoag
