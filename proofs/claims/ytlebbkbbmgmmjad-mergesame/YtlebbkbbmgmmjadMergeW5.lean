/-
  The walks over merge's heap: take.
-/
import Derived.Test.YtlebbkbbmgmmjadMergeW4
import Derived.Test.YtlebbkbbmgmmjadCellS2
namespace Go.Proofs.Ytlebbkbbmgmmjad
open Go.RowKit

/-- A source without its first cell. -/
def tlV : Value → Value
  | .slice ao n cap => Go.sliced ao 1 n cap 5
  | v => v
def tl (s : Src) : Src := ⟨tlV s.v, s.cs.tail, s.n⟩
/-- What is left behind a source's first cell was taken. -/
def restL (s : Src) (r : List Src) : List Src := if s.cs.tail = [] then r else tl s :: r
/-- The last one goes to the first place. -/
def lastF (r : List Src) : List Src := match r.getLast? with | some z => z :: r.dropLast | none => []

theorem lastF_nil : lastF [] = [] := rfl
theorem lastF_snoc (r : List Src) (z : Src) : lastF (r ++ [z]) = z :: r := by simp [lastF]

theorem SOk.tl {w : World} {s : Src} (h : SOk w s) (ht : s.cs.tail ≠ []) : SOk w (tl s) := by
  obtain ⟨b, off, cap, hv, _, _, hl, _⟩ := h.first
  refine ⟨?_, ht⟩
  have hr := h.1
  rw [hv] at hr
  have := hr.from (lo := 1) (by omega)
  unfold Proofs.Ytlebbkbbmgmmjad.tl tlV
  rw [hv]
  simpa using this

theorem DnH.head {hs : List Src} (h : HeapP hs) {s : Src} {r : List Src} (he : hs = s :: r) (x : Src) : DnH (x :: r) 0 := by
  refine ⟨fun i a b h0 hi ha hb => ?_, fun i a b _ _ h0 => by omega⟩
  obtain ⟨j, rfl⟩ : ∃ j, i = j + 1 := ⟨i - 1, by omega⟩
  obtain ⟨p, hp⟩ : ∃ p, (j + 1 - 1) / 2 = p + 1 := ⟨(j + 1 - 1) / 2 - 1, by omega⟩
  refine h (j + 1) a b h0 ?_ ?_
  · rw [hp] at ha ⊢
    rw [he]
    simpa using ha
  · rw [he]
    simpa using hb

theorem DnH.front {hs : List Src} (h : HeapP hs) {s : Src} {r : List Src} (he : hs = s :: r) : DnH (lastF r) 0 := by
  rcases List.eq_nil_or_concat r with rfl | ⟨r', z, rfl⟩
  · exact ⟨fun i a b _ _ ha => by simp [lastF] at ha, fun i a b _ _ h0 => by omega⟩
  · rw [List.concat_eq_append] at he ⊢
    rw [lastF_snoc]
    have h2 : HeapP (s :: r') := by
      intro i a b h0 ha hb
      have hl := (List.getElem?_eq_some_iff.1 hb).1
      refine h i a b h0 ?_ ?_
      · rw [he, ← List.cons_append, List.getElem?_append_left (by omega)]
        exact ha
      · rw [he, ← List.cons_append, List.getElem?_append_left hl]
        exact hb
    exact DnH.head h2 rfl z

theorem HpAt.head {xs : Array Value} {s : Src} {r : List Src} (h : HpAt xs (s :: r)) (x : Src) (hn : x.n = s.n) (hv : x.v.oneCell' = true) : HpAt (xs.setIfInBounds 0 x.v) (x :: r) := by
  have hs := h.size
  refine ⟨by simp [hs], by simpa using h.len, ?_, fun i t ht => ?_, fun i t ht => ?_, ?_⟩
  · rw [Array.getElem?_setIfInBounds_ne (by omega)]
    simpa using h.n
  · cases i with
    | zero =>
      simp at ht
      subst ht
      simp [hs]
    | succ i =>
      rw [Array.getElem?_setIfInBounds_ne (by omega)]
      exact h.at0 (i + 1) t (by simpa using ht)
  · rw [Array.getElem?_setIfInBounds_ne (by omega)]
    cases i with
    | zero =>
      simp at ht
      subst ht
      rw [hn]
      exact h.at1 0 s rfl
    | succ i => exact h.at1 (i + 1) t (by simpa using ht)
  · have hone : ∀ v ∈ xs, v.oneCell' = true := Array.all_eq_true_iff_forall_mem.1 h.one
    rw [Array.all_eq_true_iff_forall_mem]
    intro v hv'
    rcases Array.mem_or_eq_of_mem_setIfInBounds hv' with h1 | h1
    · exact hone v h1
    · rw [h1]; exact hv

theorem all_set {xs : Array Value} (h : xs.all (·.oneCell') = true) (k : Nat) {v : Value} (hv : v.oneCell' = true) : (xs.setIfInBounds k v).all (·.oneCell') = true := by
  have hone : ∀ v ∈ xs, v.oneCell' = true := Array.all_eq_true_iff_forall_mem.1 h
  rw [Array.all_eq_true_iff_forall_mem]
  intro u hu
  rcases Array.mem_or_eq_of_mem_setIfInBounds hu with h1 | h1
  · exact hone u h1
  · rw [h1]; exact hv

/-- The block behind the last one went to the first place. -/
theorem HpAt.front {xs : Array Value} {s : Src} {r : List Src} (h : HpAt xs (s :: r)) (t zv : Value) (zn : Int) (ht : t.oneCell' = true)
    (hz0 : (xs.setIfInBounds 0 t)[r.length * 2]? = some zv) (hz1 : (xs.setIfInBounds 0 t)[r.length * 2 + 1]? = some (.int .i64 zn)) :
    HpAt ((((xs.setIfInBounds 0 t).setIfInBounds 40 (.int .i64 r.length)).setIfInBounds 0 zv).setIfInBounds 1 (.int .i64 zn)) (lastF r) := by
  have hs := h.size
  have hl := h.len
  simp at hl
  have hzv : zv.oneCell' = true := (Array.all_eq_true_iff_forall_mem.1 (all_set h.one 0 ht)) zv (Array.mem_of_getElem? hz0)
  have hall := all_set (all_set (all_set (all_set h.one 0 ht) 40 (v := .int .i64 r.length) rfl) 0 hzv) 1 (v := .int .i64 zn) rfl
  rcases List.eq_nil_or_concat r with rfl | ⟨r', z, rfl⟩
  · refine ⟨by simp [hs], by simp [lastF], ?_, fun i t ht => by simp [lastF] at ht, fun i t ht => by simp [lastF] at ht, hall⟩
    rw [Array.getElem?_setIfInBounds_ne (by omega), Array.getElem?_setIfInBounds_ne (by omega)]
    simp [hs, lastF]
  · rw [List.concat_eq_append] at *
    simp only [List.length_append, List.length_cons, List.length_nil] at hl hz0 hz1 hall
    rw [Array.getElem?_setIfInBounds_ne (by omega), h.at0 _ z (by simp)] at hz0
    rw [Array.getElem?_setIfInBounds_ne (by omega), h.at1 _ z (by simp)] at hz1
    cases hz0
    simp only [Option.some.injEq, Value.int.injEq, true_and] at hz1
    subst hz1
    rw [lastF_snoc]
    refine ⟨by simp [hs], by simp; omega, ?_, fun i t' ht' => ?_, fun i t' ht' => ?_, by simpa using hall⟩
    · rw [Array.getElem?_setIfInBounds_ne (by omega), Array.getElem?_setIfInBounds_ne (by omega)]
      simp [hs]
    · cases i with
      | zero =>
        simp at ht'
        subst ht'
        rw [Array.getElem?_setIfInBounds_ne (by omega)]
        simp [hs]
      | succ i =>
        have hil := (List.getElem?_eq_some_iff.1 ht').1
        simp at hil
        rw [Array.getElem?_setIfInBounds_ne (by omega), Array.getElem?_setIfInBounds_ne (by omega), Array.getElem?_setIfInBounds_ne (by omega), Array.getElem?_setIfInBounds_ne (by omega)]
        refine h.at0 (i + 1) t' ?_
        rw [← List.cons_append, List.getElem?_append_left (by simp; omega)]
        simpa using ht'
    · cases i with
      | zero =>
        simp at ht'
        subst ht'
        simp [hs]
      | succ i =>
        have hil := (List.getElem?_eq_some_iff.1 ht').1
        simp at hil
        rw [Array.getElem?_setIfInBounds_ne (by omega), Array.getElem?_setIfInBounds_ne (by omega), Array.getElem?_setIfInBounds_ne (by omega), Array.getElem?_setIfInBounds_ne (by omega)]
        refine h.at1 (i + 1) t' ?_
        rw [← List.cons_append, List.getElem?_append_left (by simp; omega)]
        simpa using ht'

theorem lastF_perm (r : List Src) : (lastF r).Perm r := by
  rcases List.eq_nil_or_concat r with rfl | ⟨r', z, rfl⟩
  · exact List.Perm.refl _
  · rw [List.concat_eq_append, lastF_snoc]
    exact (List.perm_append_comm (l₁ := [z]) (l₂ := r'))

end Go.Proofs.Ytlebbkbbmgmmjad
