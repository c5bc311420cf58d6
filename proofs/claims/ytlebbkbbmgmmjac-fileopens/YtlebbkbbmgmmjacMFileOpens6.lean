/-
  Texts joined: SortMath, CellS1, CellS2, CellS3, FileW6, FileW7, FileW8.
-/
import Derived.Test.YtlebbkbbmgmmjacMFileOpens5
import Derived.Deep.RegionHeld3
/-
  Plain maths of sorting: two lists in order made one, of cells in one place at one time the last one.
-/
namespace Go.Proofs.Ytlebbkbbmgmmjac
open Go.RowKit

/-- One Row, Col and Time. -/
def Sm (a b : Cl) : Prop := rc a = rc b ∧ a.time = b.time
theorem Sm.refl (a : Cl) : Sm a a := ⟨rfl, rfl⟩
theorem Sm.symm {a b : Cl} (h : Sm a b) : Sm b a := ⟨h.1.symm, h.2.symm⟩
theorem Sm.trans {a b c : Cl} (h : Sm a b) (k : Sm b c) : Sm a c := ⟨h.1.trans k.1, h.2.trans k.2⟩
theorem Lt_not_Sm {a b : Cl} (h : Lt a b) : ¬ Sm a b := by
  rintro ⟨h1, h2⟩
  rcases h with h | ⟨_, h⟩
  · exact kl_ne h h1
  · omega

theorem Lt_Sm {a b c : Cl} (h : Lt a b) (k : Sm b c) : Lt a c := by
  rcases h with h | ⟨h1, h2⟩
  · exact .inl (k.1 ▸ h)
  · exact .inr ⟨h1.trans k.1, by have := k.2; omega⟩

theorem Sm_Lt {a b c : Cl} (k : Sm a b) (h : Lt b c) : Lt a c := by
  rcases h with h | ⟨h1, h2⟩
  · exact .inl (by rw [k.1]; exact h)
  · exact .inr ⟨k.1.trans h1, by have := k.2; omega⟩

theorem Lt_total {a b : Cl} (h1 : ¬ Lt a b) (h2 : ¬ Lt b a) : Sm a b := by
  have e : rc a = rc b := kl_total (fun h => h1 (.inl h)) (fun h => h2 (.inl h))
  refine ⟨e, ?_⟩
  by_cases h3 : b.time < a.time
  · exact absurd (.inr ⟨e, h3⟩) h1
  · by_cases h4 : a.time < b.time
    · exact absurd (.inr ⟨e.symm, h4⟩) h2
    · omega

theorem ordC_zero {a b : Cl} : ordC a b = 0 ↔ Sm a b := by
  unfold ordC Sm rc
  by_cases h1 : cmpS a.row b.row = 0
  · have e1 := cmpS_zero.1 h1
    by_cases h2 : cmpS a.col b.col = 0
    · have e2 := cmpS_zero.1 h2
      simp only [h1, h2, ne_eq, not_true_eq_false, if_false, e1, e2, cmpI]
      simp
      split <;> (try split) <;> omega
    · have : ¬ a.col.toList = b.col.toList := fun e => h2 (cmpS_zero.2 e)
      simp [h1, h2, this]
  · have : ¬ a.row.toList = b.row.toList := fun e => h1 (cmpS_zero.2 e)
    simp [h1, this]

/-- Two lists made one. -/
def mrg : List Cl → List Cl → List Cl
  | [], b => b
  | x :: a, [] => x :: a
  | x :: a, y :: b => if ordC x y < 0 then x :: mrg a (y :: b) else if ordC x y = 0 then y :: mrg a b else y :: mrg (x :: a) b
  termination_by a b => a.length + b.length

theorem mrg_nil_right (a : List Cl) : mrg a [] = a := by cases a <;> simp [mrg]
theorem mrg_left {x y : Cl} {a b : List Cl} (h : ordC x y < 0) : mrg (x :: a) (y :: b) = x :: mrg a (y :: b) := by rw [mrg, if_pos h]
theorem mrg_both {x y : Cl} {a b : List Cl} (h : ordC x y = 0) : mrg (x :: a) (y :: b) = y :: mrg a b := by rw [mrg, if_neg (by omega), if_pos h]
theorem mrg_right {x y : Cl} {a b : List Cl} (h : 0 < ordC x y) : mrg (x :: a) (y :: b) = y :: mrg (x :: a) b := by rw [mrg, if_neg (by omega), if_neg (by omega)]

theorem mrg_len : ∀ (a b : List Cl), (mrg a b).length ≤ a.length + b.length
  | [], b => by simp [mrg]
  | x :: a, [] => by simp [mrg]
  | x :: a, y :: b => by
    have i1 := mrg_len a (y :: b)
    have i2 := mrg_len a b
    have i3 := mrg_len (x :: a) b
    rw [mrg]
    split
    · simp at i1 ⊢; omega
    · split
      · simp at i2 ⊢; omega
      · simp at i3 ⊢; omega
  termination_by a b => a.length + b.length

theorem mrg_mem : ∀ (a b : List Cl), a.Pairwise Lt → b.Pairwise Lt → ∀ c, c ∈ mrg a b ↔ c ∈ b ∨ (c ∈ a ∧ ∀ d ∈ b, ¬ Sm c d)
  | [], b, _, _, c => by simp [mrg]
  | x :: a, [], _, _, c => by simp [mrg]
  | x :: a, y :: b, ha, hb, c => by
    obtain ⟨ha1, ha2⟩ := List.pairwise_cons.1 ha
    obtain ⟨hb1, hb2⟩ := List.pairwise_cons.1 hb
    rw [mrg]
    split
    · rename_i h
      have hxy := ordC_neg.1 h
      rw [List.mem_cons, mrg_mem a (y :: b) ha2 hb c]
      constructor
      · rintro (rfl | h1 | ⟨h1, h2⟩)
        · refine .inr ⟨by simp, fun d hd => ?_⟩
          rcases List.mem_cons.1 hd with rfl | hd
          · exact Lt_not_Sm hxy
          · exact Lt_not_Sm (Lt_trans hxy (hb1 d hd))
        · exact .inl h1
        · exact .inr ⟨by simp [h1], h2⟩
      · rintro (h1 | ⟨h1, h2⟩)
        · exact .inr (.inl h1)
        · rcases List.mem_cons.1 h1 with rfl | h1
          · exact .inl rfl
          · exact .inr (.inr ⟨h1, h2⟩)
    · rename_i h
      split
      · rename_i h0
        have hxy := ordC_zero.1 h0
        rw [List.mem_cons, mrg_mem a b ha2 hb2 c]
        constructor
        · rintro (rfl | h1 | ⟨h1, h2⟩)
          · exact .inl (by simp)
          · exact .inl (by simp [h1])
          · refine .inr ⟨by simp [h1], fun d hd => ?_⟩
            rcases List.mem_cons.1 hd with rfl | hd
            · exact fun h3 => Lt_not_Sm (Sm_Lt hxy.symm (ha1 c h1)) h3.symm
            · exact h2 d hd
        · rintro (h1 | ⟨h1, h2⟩)
          · rcases List.mem_cons.1 h1 with rfl | h1
            · exact .inl rfl
            · exact .inr (.inl h1)
          · rcases List.mem_cons.1 h1 with rfl | h1
            · exact absurd hxy (h2 y (by simp))
            · exact .inr (.inr ⟨h1, fun d hd => h2 d (by simp [hd])⟩)
      · rename_i h0
        have hyx : Lt y x := by
          by_cases hh : Lt y x
          · exact hh
          · exact absurd (ordC_zero.2 (Lt_total (fun k => h (ordC_neg.2 k)) hh)) h0
        rw [List.mem_cons, mrg_mem (x :: a) b ha hb2 c]
        constructor
        · rintro (rfl | h1 | ⟨h1, h2⟩)
          · exact .inl (by simp)
          · exact .inl (by simp [h1])
          · refine .inr ⟨h1, fun d hd => ?_⟩
            rcases List.mem_cons.1 hd with rfl | hd
            · have hyc : Lt d c := by
                rcases List.mem_cons.1 h1 with rfl | h1
                · exact hyx
                · exact Lt_trans hyx (ha1 c h1)
              exact fun h3 => Lt_not_Sm hyc h3.symm
            · exact h2 d hd
        · rintro (h1 | ⟨h1, h2⟩)
          · rcases List.mem_cons.1 h1 with rfl | h1
            · exact .inl rfl
            · exact .inr (.inl h1)
          · exact .inr (.inr ⟨h1, fun d hd => h2 d (by simp [hd])⟩)
  termination_by a b => a.length + b.length

theorem mrg_pw : ∀ (a b : List Cl), a.Pairwise Lt → b.Pairwise Lt → (mrg a b).Pairwise Lt
  | [], b, _, hb => by simpa [mrg] using hb
  | x :: a, [], ha, _ => by simpa [mrg] using ha
  | x :: a, y :: b, ha, hb => by
    obtain ⟨ha1, ha2⟩ := List.pairwise_cons.1 ha
    obtain ⟨hb1, hb2⟩ := List.pairwise_cons.1 hb
    have i1 := mrg_pw a (y :: b) ha2 hb
    have i2 := mrg_pw a b ha2 hb2
    have i3 := mrg_pw (x :: a) b ha hb2
    rw [mrg]
    split
    · rename_i h
      have hxy := ordC_neg.1 h
      refine List.pairwise_cons.2 ⟨fun c hc => ?_, i1⟩
      rcases (mrg_mem a (y :: b) ha2 hb c).1 hc with h1 | ⟨h1, _⟩
      · rcases List.mem_cons.1 h1 with rfl | h1
        · exact hxy
        · exact Lt_trans hxy (hb1 c h1)
      · exact ha1 c h1
    · rename_i h
      split
      · rename_i h0
        have hxy := ordC_zero.1 h0
        refine List.pairwise_cons.2 ⟨fun c hc => ?_, i2⟩
        rcases (mrg_mem a b ha2 hb2 c).1 hc with h1 | ⟨h1, _⟩
        · exact hb1 c h1
        · exact Sm_Lt hxy.symm (ha1 c h1)
      · rename_i h0
        have hyx : Lt y x := by
          by_cases hh : Lt y x
          · exact hh
          · exact absurd (ordC_zero.2 (Lt_total (fun k => h (ordC_neg.2 k)) hh)) h0
        refine List.pairwise_cons.2 ⟨fun c hc => ?_, i3⟩
        rcases (mrg_mem (x :: a) b ha hb2 c).1 hc with h1 | ⟨h1, _⟩
        · exact hb1 c h1
        · rcases List.mem_cons.1 h1 with rfl | h1
          · exact hyx
          · exact Lt_trans hyx (ha1 c h1)
  termination_by a b => a.length + b.length

/-- c is the last one of its place and time in l. -/
def LastIn : List Cl → Cl → Prop
  | [], _ => False
  | x :: l, c => LastIn l c ∨ (c = x ∧ ∀ d ∈ l, ¬ Sm c d)

theorem LastIn.mem : ∀ {l : List Cl} {c : Cl}, LastIn l c → c ∈ l
  | x :: l, c, h => by
    rcases h with h | ⟨rfl, _⟩
    · exact List.mem_cons_of_mem _ h.mem
    · simp

theorem last_ex : ∀ {l : List Cl} {c : Cl}, c ∈ l → ∃ d, LastIn l d ∧ Sm c d
  | x :: l, c, h => by
    by_cases hx : ∃ d ∈ l, Sm c d
    · obtain ⟨d, hd, hcd⟩ := hx
      obtain ⟨e, he, hde⟩ := last_ex hd
      exact ⟨e, .inl he, hcd.trans hde⟩
    · rcases List.mem_cons.1 h with rfl | h
      · exact ⟨c, .inr ⟨rfl, fun d hd hs => hx ⟨d, hd, hs⟩⟩, Sm.refl _⟩
      · exact absurd ⟨c, h, Sm.refl _⟩ hx

theorem last_append : ∀ {a b : List Cl} {c : Cl}, LastIn (a ++ b) c ↔ LastIn b c ∨ (LastIn a c ∧ ∀ d ∈ b, ¬ Sm c d)
  | [], b, c => by simp [LastIn]
  | x :: a, b, c => by
    simp only [List.cons_append, LastIn, last_append (a := a), List.mem_append]
    constructor
    · rintro ((h | h) | ⟨rfl, h⟩)
      · exact .inl h
      · exact .inr ⟨.inl h.1, h.2⟩
      · exact .inr ⟨.inr ⟨rfl, fun d hd => h d (.inl hd)⟩, fun d hd => h d (.inr hd)⟩
    · rintro (h | ⟨h | ⟨rfl, h⟩, h2⟩)
      · exact .inl (.inl h)
      · exact .inl (.inr ⟨h, h2⟩)
      · exact .inr ⟨rfl, fun d hd => hd.elim (h d) (h2 d)⟩

theorem last_pw : ∀ {l : List Cl}, l.Pairwise Lt → ∀ {c : Cl}, LastIn l c ↔ c ∈ l
  | [], _, c => by simp [LastIn]
  | x :: l, hp, c => by
    obtain ⟨h1, h2⟩ := List.pairwise_cons.1 hp
    simp only [LastIn, last_pw h2, List.mem_cons]
    constructor
    · rintro (h | ⟨h, _⟩)
      · exact .inr h
      · exact .inl h
    · rintro (rfl | h)
      · exact .inr ⟨rfl, fun d hd => Lt_not_Sm (h1 d hd)⟩
      · exact .inl h

/-- out is l in order, of cells in one place at one time the last one. -/
def Srt (l out : List Cl) : Prop := out.Pairwise Lt ∧ (∀ c, c ∈ out ↔ LastIn l c) ∧ out.length ≤ l.length

theorem Srt.uniq {l o p : List Cl} (h : Srt l o) (k : Srt l p) : o = p :=
  pw_ext Lt_irrefl (fun _ _ _ => Lt_trans) h.1 k.1 fun c => (h.2.1 c).trans (k.2.1 c).symm

theorem Srt.nil : Srt [] [] := ⟨.nil, by simp [LastIn], by simp⟩
theorem Srt.pw {l : List Cl} (h : l.Pairwise Lt) : Srt l l := ⟨h, fun _ => (last_pw h).symm, Nat.le_refl _⟩

theorem Srt.join {a b o p : List Cl} (h : Srt a o) (k : Srt b p) : Srt (a ++ b) (mrg o p) := by
  refine ⟨mrg_pw o p h.1 k.1, fun c => ?_, ?_⟩
  · rw [mrg_mem o p h.1 k.1, last_append, k.2.1, h.2.1]
    constructor
    · rintro (h1 | ⟨h1, h2⟩)
      · exact .inl h1
      · refine .inr ⟨h1, fun d hd hs => ?_⟩
        obtain ⟨e, he, hde⟩ := last_ex hd
        exact h2 e ((k.2.1 e).2 he) (hs.trans hde)
    · rintro (h1 | ⟨h1, h2⟩)
      · exact .inl h1
      · exact .inr ⟨h1, fun d hd => h2 d ((k.2.1 d).1 hd).mem⟩
  · have := mrg_len o p
    have := h.2.2
    have := k.2.2
    simp
    omega

end Go.Proofs.Ytlebbkbbmgmmjac

/-
  The walks over what cell.Sort calls: copies, two lists made one.
-/
namespace Go.Proofs.Ytlebbkbbmgmmjac
open Go.RowKit



theorem RdC.from {w : World} {ao : Option Addr} {n cap lo : Nat} {cs : List Cl} (h : RdC w (.slice ao n cap) cs) (h1 : lo ≤ n) : RdC w (Go.sliced ao lo n cap 5) (cs.drop lo) := by
  obtain ⟨ao', cap', hv, h2, h3, h4, h5⟩ := h
  simp only [Value.slice.injEq] at hv
  obtain ⟨rfl, rfl, rfl⟩ := hv
  refine ⟨_, cap - lo, by rw [List.length_drop]; rfl, by rw [List.length_drop]; omega, by omega, ?_, ?_⟩
  · intro hn
    split at hn
    · omega
    · rw [Option.map_eq_none_iff] at hn
      have := h4 hn
      omega
  · intro a ha j u hu
    split at ha
    · rename_i hz
      have hj := (List.getElem?_eq_some_iff.1 hu).1
      rw [cc_length, List.length_drop] at hj
      omega
    · obtain ⟨a0, e0, rfl⟩ := Option.map_eq_some_iff.1 ha
      rw [← cc_drop, List.getElem?_drop] at hu
      have hl := (List.getElem?_eq_some_iff.1 hu).1
      have h0 := h5 a0 e0 0 (cc cs)[0] (by simp)
      obtain ⟨b, o, rfl⟩ := add_spot h0
      have := h5 _ e0 (lo * 5 + j) u hu
      simp only [Addr.add_lit] at this ⊢
      rw [Nat.add_assoc]
      exact this

end Go.Proofs.Ytlebbkbbmgmmjac

/-
  The walk over cell.mergedTwo.
-/
namespace Go.Proofs.Ytlebbkbbmgmmjac
open Go.RowKit

/-- 'v[1:]' of cells as an operation. -/
theorem run_slice_fromC {P : Program} {t e : TypeId} {z : Value} {bytes : Nat} (ht : P.underlying t = some (.slice e)) (he : P.elem t = e) (hinf : (P.info? e).map (fun i => (i.zero, i.size, i.bytes)) = some (some z, 5, bytes))
    (ao : Option Addr) (n cap lo : Nat) (l : Int) (hl : l = lo) (h1 : lo ≤ n) (W : World) :
    (Instr.slice t (.slice ao n cap) (some (.int .i64 l)) none none).run P W = .ok (Go.sliced ao lo n cap 5) W := by
  obtain ⟨i, hi0, _, hsize, _⟩ := info_parts hinf
  subst hl
  rw [run_slice_l (P := P) W t ao n cap (by rw [he]; exact ht) .i64 lo (by omega) (by omega)]
  simp [he, sizeOf, typeInfo, hi0, hsize, Result.andThen]

/-- 'make([]T, 0, c)' of cells. -/
theorem wpList_makeC {P : Program} {w : World} {ops : Array Oper} {rest : List Oper} {o : Oper} {a : Act} {Q : Exit → Act → World → Prop} {l c : Operand} {t e : TypeId} {z : Value} {bytes : Nat} {C : Int} {n : Nat}
    (ht : P.underlying t = some (.slice e)) (hinf : (P.info? e).map (fun i => (i.zero, i.size, i.bytes)) = some (some z, 5, bytes))
    (hg : o.guard = none) (hop : o.op = Op.makeSlice t l c) (hl : a.eval l = .int .i64 0) (hc : a.eval c = .int .i64 C) (hC : C = (n : Int)) (hn : n ≤ 1000000) (hb : bytes ≤ 64)
    (h : ∀ w', w'.ownsRow w.heap.size e 5 (.slice (some ⟨w.heap.size, 0, none⟩) 0 n) 0 (cc []) → Below w.heap.size w w' → w.heap.size < w'.heap.size → wpList P ops Q rest (a.put o.dst (.slice (some ⟨w.heap.size, 0, none⟩) 0 n)) w') : wpList P ops Q (o :: rest) a w := by
  obtain ⟨i, hi, hz, hsize, hby⟩ := info_parts hinf
  refine wpList_make_own w hg l c t hop w.heap.size e i z 5 ht hi hz hsize .i64 .i64 C n hl hc hC (by rw [hby]; exact Nat.le_trans (Nat.mul_le_mul hb hn) (by decide)) (by unfold maxLen; omega) (Nat.le_refl _) ?_
  intro w' h1 h2
  have h3 := (h1.lt w.heap.size rfl).2
  exact h w' h1 ((Below.refl _ _).grown h2 (Nat.le_refl _) (fun k hk => by cases hk)) h3

/-- The tail of a list of cells: its value. -/
theorem tailC {w : World} {ao : Option Addr} {n cap : Nat} {c : Cl} {cs : List Cl} (h : RdC w (.slice ao n cap) (c :: cs)) :
    ∃ vo vc, (∀ W, (Instr.slice 22 (.slice ao n cap) (some (.int .i64 1)) none none).run Try.prog W = .ok (.slice vo cs.length vc) W) ∧ RdC w (.slice vo cs.length vc) cs := by
  have hn : n = cs.length + 1 := by
    obtain ⟨_, _, hv, _⟩ := h
    simp only [Value.slice.injEq] at hv
    simpa using hv.2.1
  have h1 := h.from (lo := 1) (by omega)
  have hs := run_slice_fromC (P := Try.prog) Try.underlying22 (by kernel_rfl) Try.info53 ao n cap 1 1 rfl (by omega)
  simp only [List.drop_succ_cons, List.drop_zero] at h1
  obtain ⟨vo, vc, hv, _, _⟩ := h1.shape
  rw [hv] at h1 hs
  exact ⟨vo, vc, hs, h1⟩

theorem RdC.head {w : World} {ao : Option Addr} {n cap : Nat} {c : Cl} {cs : List Cl} (h : RdC w (.slice ao n cap) (c :: cs)) : ∃ b off, ao = some ⟨b, off, none⟩ ∧ b < w.heap.size ∧ At w b off c := by
  obtain ⟨ao', cap', hv, _, _, hat⟩ := h.at
  simp only [Value.slice.injEq] at hv
  obtain ⟨rfl, _, _⟩ := hv
  obtain ⟨b, off, ha, hb, hc⟩ := hat 0 (by simp)
  have := hc 0 (by simp)
  rw [Nat.zero_mul, Nat.add_zero] at this
  exact ⟨b, off, ha, hb, this⟩

theorem RdC.slen2 {w : World} {ao : Option Addr} {n cap : Nat} {cs : List Cl} (h : RdC w (.slice ao n cap) cs) : n ≤ cap ∧ cap ≤ 9223372036854775807 := by
  obtain ⟨ao', cap', hv, h1, h2, _⟩ := h
  simp only [Value.slice.injEq] at hv
  obtain ⟨_, rfl, rfl⟩ := hv
  exact ⟨h1, by unfold maxLen at h2; omega⟩


end Go.Proofs.Ytlebbkbbmgmmjac

/-
  The walk over cell.runs: lists in order, pieces of the argument.
-/
namespace Go.Proofs.Ytlebbkbbmgmmjac
open Go.RowKit

theorem Try.info22 : (Try.prog.info? 22).map (fun i => (i.zero, i.size, i.bytes)) = some (some (.slice none 0 0), 1, 24) := by kernel_rfl

/-- 'v[lo:hi]' of cells as an operation. -/
theorem run_slice_rdC {P : Program} {t e : TypeId} {z : Value} {bytes : Nat} (ht : P.underlying t = some (.slice e)) (he : P.elem t = e) (hinf : (P.info? e).map (fun i => (i.zero, i.size, i.bytes)) = some (some z, 5, bytes))
    (ao : Option Addr) (n cap lo hi : Nat) (l h : Int) (hl : l = lo) (hh : h = hi) (h1 : lo ≤ hi) (h2 : hi ≤ cap) (W : World) :
    (Instr.slice t (.slice ao n cap) (some (.int .i64 l)) (some (.int .i64 h)) none).run P W = .ok (Go.sliced ao lo hi cap 5) W := by
  obtain ⟨i, hi0, _, hsize, _⟩ := info_parts hinf
  subst hl hh
  rw [run_slice_lh (P := P) W t ao n cap (by rw [he]; exact ht) .i64 .i64 lo hi (by omega) (by omega) (by omega)]
  simp [he, sizeOf, typeInfo, hi0, hsize, Result.andThen]

theorem RdC.sliced {w : World} {ao : Option Addr} {n cap lo hi : Nat} {cs : List Cl} (h : RdC w (.slice ao n cap) cs) (h1 : lo ≤ hi) (h2 : hi ≤ n) : RdC w (Go.sliced ao lo hi cap 5) ((cs.drop lo).take (hi - lo)) := by
  obtain ⟨ao', cap', hv, h3, h4, h5, h6⟩ := h
  simp only [Value.slice.injEq] at hv
  obtain ⟨rfl, rfl, rfl⟩ := hv
  have hl : ((cs.drop lo).take (hi - lo)).length = hi - lo := by simp; omega
  refine ⟨_, cap - lo, by rw [hl]; rfl, by omega, by omega, ?_, ?_⟩
  · intro hn
    split at hn
    · omega
    · rw [Option.map_eq_none_iff] at hn
      have := h5 hn
      omega
  · intro a ha j u hu
    have hj := (List.getElem?_eq_some_iff.1 hu).1
    rw [cc_length, hl] at hj
    rw [← cc_take, ← cc_drop, List.getElem?_take, if_pos (by omega), List.getElem?_drop] at hu
    split at ha
    · omega
    · obtain ⟨a0, e0, rfl⟩ := Option.map_eq_some_iff.1 ha
      have hl2 := (List.getElem?_eq_some_iff.1 hu).1
      have h0 := h6 a0 e0 0 (cc cs)[0] (by simp)
      obtain ⟨b, o, rfl⟩ := add_spot h0
      have := h6 _ e0 (lo * 5 + j) u hu
      simp only [Addr.add_lit] at this ⊢
      rw [Nat.add_assoc]
      exact this

/-- The pieces of a list: each a slice of its own. -/
def RdL (w : World) (v : Value) (ls : List (List Cl)) : Prop := ∃ vs : List Value, Rd w v vs ∧ vs.length = ls.length ∧ (∀ u ∈ vs, u.oneCell' = true) ∧ ∀ (i : Nat) u l, vs[i]? = some u → ls[i]? = some l → RdC w u l

/-- The values of pieces. -/
def Pcs (w : World) (vs : List Value) (ls : List (List Cl)) : Prop := vs.length = ls.length ∧ (∀ u ∈ vs, u.oneCell' = true) ∧ ∀ (i : Nat) u l, vs[i]? = some u → ls[i]? = some l → RdC w u l

theorem Pcs.nil (w : World) : Pcs w [] [] := ⟨rfl, by simp, fun i u l h => by simp at h⟩
theorem Pcs.snoc {w : World} {vs : List Value} {ls : List (List Cl)} (h : Pcs w vs ls) {u : Value} {l : List Cl} (hu : RdC w u l) : Pcs w (vs ++ [u]) (ls ++ [l]) := by
  refine ⟨by simp [h.1], fun x hx => ?_, fun i x y hx hy => ?_⟩
  · rcases List.mem_append.1 hx with hx | hx
    · exact h.2.1 x hx
    · simp at hx
      subst hx
      obtain ⟨_, _, rfl, _⟩ := hu
      rfl
  · by_cases hi : i < vs.length
    · rw [List.getElem?_append_left hi] at hx
      rw [List.getElem?_append_left (by rw [← h.1]; exact hi)] at hy
      exact h.2.2 i x y hx hy
    · have h1 := (List.getElem?_eq_some_iff.1 hx).1
      simp at h1
      have e : i = vs.length := by omega
      subst e
      rw [List.getElem?_append_right (Nat.le_refl _), Nat.sub_self] at hx
      rw [List.getElem?_append_right (by rw [h.1]; exact Nat.le_refl _), h.1, Nat.sub_self] at hy
      simp at hx hy
      subst hx hy
      exact hu

theorem Pcs.below {w w' : World} {vs : List Value} {ls : List (List Cl)} (h : Pcs w vs ls) (hb : Below w.heap.size w w') : Pcs w' vs ls :=
  ⟨h.1, h.2.1, fun i u l hu hl => (h.2.2 i u l hu hl).below hb⟩

/-- The piece from s up to k grows by one. -/
theorem piece_grow {cs : List Cl} {s k : Nat} (h : s ≤ k) {c d : Cl} (hc : cs[k]? = some c) (hd : cs[k + 1]? = some d) (hp : ((cs.drop s).take (k + 1 - s)).Pairwise Lt) (hcd : Lt c d) : ((cs.drop s).take (k + 2 - s)).Pairwise Lt := by
  have e : (cs.drop s).take (k + 2 - s) = (cs.drop s).take (k + 1 - s) ++ [d] := by
    rw [show k + 2 - s = (k + 1 - s) + 1 by omega, List.take_add_one, List.getElem?_drop, show s + (k + 1 - s) = k + 1 by omega, hd]
    rfl
  have e2 : (cs.drop s).take (k + 1 - s) = (cs.drop s).take (k - s) ++ [c] := by
    rw [show k + 1 - s = (k - s) + 1 by omega, List.take_add_one, List.getElem?_drop, show s + (k - s) = k by omega, hc]
    rfl
  rw [e]
  refine List.pairwise_append.2 ⟨hp, by simp, fun x hx y hy => ?_⟩
  simp at hy
  subst hy
  rw [e2] at hx hp
  rcases List.mem_append.1 hx with hx | hx
  · exact Lt_trans ((List.pairwise_append.1 hp).2.2 x hx c (by simp)) hcd
  · simp at hx
    subst hx
    exact hcd

theorem piece_one {cs : List Cl} {k : Nat} : ((cs.drop k).take (k + 1 - k)).Pairwise Lt := by
  rw [show k + 1 - k = 1 by omega]
  cases h : cs.drop k with
  | nil => simp
  | cons x l => simp

theorem piece_join {cs : List Cl} {s k : Nat} (h : s ≤ k) : cs.take s ++ (cs.drop s).take (k - s) = cs.take k := by
  rw [← List.take_add, show s + (k - s) = k by omega]


end Go.Proofs.Ytlebbkbbmgmmjac

/-
  The walk over file.blocksOf.
-/
namespace Go.Proofs.Ytlebbkbbmgmmjac
open Go.RowKit

theorem Off.of_lt {w : World} {r v : Value} {xs : List Value} (h : Rd w v xs) (hr : ∀ k, r.ownBlock = some k → w.heap.size ≤ k) : Off r v := by
  intro a l c hv hl hk
  obtain ⟨ao, cap, hv', _, _, _, h4⟩ := h
  rw [hv] at hv'
  simp only [Value.slice.injEq] at hv'
  obtain ⟨rfl, rfl, rfl⟩ := hv'
  have hc := h4 a rfl 0 xs[0] (by simp)
  have e : (a.add 0).block = a.block := by unfold Addr.add; split <;> rfl
  have := World.block_lt_of_cell? w _ hc
  have := hr _ hk
  omega

/-- A row of one's own that is another than r's, behind what grew r. -/
theorem owns_ext {w w' : World} {base : Nat} {e : TypeId} {u r r' : Value} {n : Nat} {xs : List Value} (h : w.ownsRow base e 1 u n xs) (he : Ext w w' r r') (hs : ∀ k, u.ownBlock = some k → r.ownBlock ≠ some k) : w'.ownsRow base e 1 u n xs := by
  refine ⟨h.1, ?_⟩
  rcases h.2 with hn | ⟨g, cap, cur, rfl, hg, hh, q⟩
  · exact .inl hn
  · refine .inr ⟨g, cap, cur, rfl, hg, ?_, q⟩
    rw [he.block (Array.getElem?_eq_some_iff.1 hh).1 (hs g rfl)]
    exact hh

/-- Rows apart stay apart. -/
theorem sep_ext {w w' : World} {base : Nat} {e : TypeId} {u r r' : Value} {n : Nat} {xs : List Value} (h : w.ownsRow base e 1 u n xs) (he : Ext w w' r r') (hs : ∀ k, u.ownBlock = some k → r.ownBlock ≠ some k) : ∀ k, u.ownBlock = some k → r'.ownBlock ≠ some k :=
  fun k hk => he.apart (h.lt k hk).2 (hs k hk)

theorem off_owns {w : World} {base : Nat} {e : TypeId} {u r : Value} {n : Nat} {xs : List Value} (h : w.ownsRow base e 1 u n xs) (hs : ∀ k, u.ownBlock = some k → r.ownBlock ≠ some k) : Off r u := by
  intro a l c hv hl
  rcases h.2 with ⟨rfl, _⟩ | ⟨g, cap, cur, rfl, _⟩
  · simp at hv
  · simp only [Value.slice.injEq, Option.some.injEq] at hv
    obtain ⟨rfl, _, _⟩ := hv
    exact hs g rfl

/-- Bodies that are apart from a row. -/
theorem Bds.ext {w w' : World} {us : List Value} {bb : List (List UInt8)} {r r' : Value} (h : Bds w us bb) (he : Ext w w' r r') (ho : ∀ u ∈ us, Off r u) : Bds w' us bb :=
  ⟨h.1, fun i u b hu hb => (h.2.1 i u b hu hb).ext he (ho u (List.mem_of_getElem? hu)), h.2.2⟩

theorem Bds.offs {w w' : World} {us : List Value} {bb : List (List UInt8)} {r r' : Value} (h : Bds w us bb) (he : Ext w w' r r') (ho : ∀ u ∈ us, Off r u) : ∀ u ∈ us, Off r' u := fun u hu => by
  obtain ⟨i, hi⟩ := List.getElem?_of_mem hu
  have hl := (List.getElem?_eq_some_iff.1 hi).1
  obtain ⟨y, hy⟩ : ∃ y, bb[i]? = some y := ⟨_, List.getElem?_eq_getElem (by have := h.1; omega)⟩
  exact Off.ext (h.2.1 i u y hi hy) he (ho u hu)

theorem ext_other {w : World} {base base' : Nat} {e e' : TypeId} {u r : Value} {n m : Nat} {xs ys : List Value} (hee : e ≠ e') (hu : w.ownsRow base e 1 u n xs) (hr : w.ownsRow base' e' 1 r m ys) : ∀ k, u.ownBlock = some k → r.ownBlock ≠ some k := by
  intro k h1 h2
  rcases hu.2 with ⟨rfl, _⟩ | ⟨g, cap, cur, rfl, _, hgu, _⟩
  · simp [Value.ownBlock] at h1
  · rcases hr.2 with ⟨rfl, _⟩ | ⟨g', cap', cur', rfl, _, hgv, _⟩
    · simp [Value.ownBlock] at h2
    · simp only [Value.ownBlock, Option.some.injEq] at h1 h2
      subst h1 h2
      rw [hgu] at hgv
      simp only [Option.some.injEq, Obj.cells.injEq] at hgv
      exact hee hgv.2.1

theorem indexB_snoc (gs : List (List Cl)) (g : List Cl) : indexB (gs ++ [g]) = indexB gs ++ (txB (headRow g) ++ encN (flatC g).length) := by simp [indexB, ixB]

theorem write_one {c : Cl} (h : codeC c = 0) : writeCR [c] = (cellB c, (0, 0)) := by
  have hck : (checkC [c]).1 = 0 := by
    simp [checkC, faultR, firstG, codeAt, h]
  rw [writeCR_eq hck]
  have := cellB_len h
  have e : flatC [c] = cellB c := by simp [flatC]
  rw [e, if_neg (by omega)]

end Go.Proofs.Ytlebbkbbmgmmjac

/-
  The walk over file.blocksOf.
-/
namespace Go.Proofs.Ytlebbkbbmgmmjac
open Go.RowKit

theorem headRow_snoc {cur : List Cl} {c : Cl} {cs : List Cl} {f : Nat} {d : Cl} (h : cs.take (f + cur.length) = cs.take f ++ cur) (hc : cs[f + cur.length]? = some c) (hd : cs[f]? = some d) : headRow (cur ++ [c]) = d.row := by
  cases cur with
  | nil =>
    simp only [List.length_nil, Nat.add_zero] at hc
    rw [hc] at hd
    simp only [Option.some.injEq] at hd
    rw [hd]
    rfl
  | cons x l =>
    have h1 : (cs.take (f + (x :: l).length))[f]? = some d := by rw [List.getElem?_take, if_pos (by simp)]; exact hd
    have hf : (cs.take f).length = f := by rw [List.length_take]; have := (List.getElem?_eq_some_iff.1 hd).1; omega
    rw [h, List.getElem?_append_right (by omega), hf, Nat.sub_self] at h1
    simp only [List.getElem?_cons_zero, Option.some.injEq] at h1
    rw [h1]
    rfl

theorem txB_lenF (s : ByteArray) : (txB s).length ≤ 10 + s.data.toList.length := by
  unfold txB
  rw [List.length_append]
  have := encN_length s.data.toList.length
  omega

set_option maxRecDepth 100000 in
set_option maxHeartbeats 4000000 in
theorem blocksOf_any (v : Value) (cs : List Cl) (size : Nat) (w : World) (hv : RdC w v cs) (hl : cs.length ≤ 500) (hz : ∀ c ∈ cs, codeC c = 0) (hsz : size ≤ 4000) :
    Calls Try.prog 47 #[v, .int .i64 size] w fun e w' => ∃ vb vi us, e = .returned (.tuple #[vb, vi]) ∧ w'.ownsRow w.heap.size 24 1 vb (chunks size cs).length us ∧ Bds w' us ((chunks size cs).map flatC) ∧ Rd w' vi (bc (indexB (chunks size cs))) ∧ (∀ u ∈ us, Off vb u) ∧ Off vb vi ∧ Below w.heap.size w w' := by
  obtain ⟨ao, cap, hvv, hc1, hc2⟩ := hv.shape
  subst hvv
  unfold maxLen at hc2
  have HZ := hide hz
  clear hz
  go_enter Try.func47, Try.ntmps47
  go_wp2_with fail
  go_loopw [6, 7, 8, 9, 15] (fun vb vi vc fi i wr => ∃ (f : Nat) (gs : List (List Cl)) (cur : List Cl) (us : List Value), f + cur.length ≤ cs.length ∧ i = .int .i64 (f + cur.length : Nat) ∧ fi = .int .i64 f ∧ gs ++ chunkGo size cur (cs.drop (f + cur.length)) = chunks size cs ∧ cs.take (f + cur.length) = cs.take f ++ cur ∧ (f + cur.length = cs.length → cur = []) ∧ gs.length ≤ f ∧ (indexB gs).length ≤ 100 * f ∧ (flatC cur).length ≤ 330 * cur.length
      ∧ wr.ownsRow w.heap.size 24 1 vb gs.length us ∧ wr.ownsRow w.heap.size 5 1 vi (indexB gs).length (bc (indexB gs)) ∧ wr.ownsRow w.heap.size 5 1 vc (flatC cur).length (bc (flatC cur)) ∧ Bds wr us (gs.map flatC) ∧ (∀ k, vi.ownBlock = some k → vc.ownBlock ≠ some k) ∧ (∀ u ∈ us, Off vi u) ∧ (∀ u ∈ us, Off vc u) ∧ (∀ u ∈ us, Off vb u) ∧ Below w.heap.size w wr)
    (fun _ _ _ _ i _ => cs.length - (intOf i).toNat)
  case atStart => exact ⟨0, [], [], [], by simp, rfl, rfl, rfl, by simp, fun _ => rfl, by simp, by simp [indexB], by simp [flatC], World.ownsRow_nil _ _ _ _, World.ownsRow_nil _ _ _ _, World.ownsRow_nil _ _ _ _, Bds.nil _, fun k h => by simp [Value.ownBlock] at h, by simp, by simp, by simp, Below.refl _ _⟩
  case round =>
    obtain ⟨f, gs, cur, us, hk, rfl, rfl, hgo, htk, hend, hgl, hil, hcl, hob, hoi, hoc, hbd, hsep, hofi, hofc, hofb, hbel⟩ := hrel
    have HG := hide hgo
    have HTK := hide htk
    clear hgo htk
    have hszr := hbel.size
    generalize hK : f + cur.length = k at *
    have HK := hide hK
    clear hK
    by_cases hlt : k < cs.length
    · obtain ⟨c, hc⟩ : ∃ c, cs[k]? = some c := ⟨_, List.getElem?_eq_getElem hlt⟩
      have hce : cs[k] = c := (List.getElem?_eq_some_iff.1 hc).2
      obtain ⟨d, hd⟩ : ∃ d, cs[f]? = some d := ⟨_, List.getElem?_eq_getElem (by have := HK.out; omega)⟩
      have hcode := HZ.out c (by rw [← hce]; exact List.getElem_mem hlt)
      have hdcode := HZ.out d (List.mem_of_getElem? hd)
      have hdl := (codeC_parts hdcode).2.1
      have hdr := drop_consC hlt
      rw [hce] at hdr
      rw [hdr] at HG
      have hV := hv.sliced (lo := k) (hi := k + 1) (by omega) (by omega)
      have hone : (cs.drop k).take (k + 1 - k) = [c] := by rw [hdr, Nat.add_sub_cancel_left]; rfl
      rw [hone] at hV
      have hs := run_slice_rdC (P := Try.prog) Try.underlying22 (by kernel_rfl) Try.info53 ao cs.length cap k (k + 1) (k : Int) ((k : Int) + 1) rfl (by omega) (by omega) (by omega)
      generalize Go.sliced ao k (k + 1) cap 5 = V at hV hs
      obtain ⟨b, off, rfl, hbb, hdat⟩ := hv.hereD hd
      have HHR := hide (headRow_snoc (by rw [HK.out]; exact HTK.out) (by rw [HK.out]; exact hc) hd)
      have hclc := cellB_len hcode
      have hfe : flatC (cur ++ [c]) = flatC cur ++ cellB c := by rw [flatC_append]; simp [flatC]
      have hf2 : (f : Int) < (cs.length : Int) := by have := HK.out; omega
      have hcur5 : cur.length ≤ 500 := by have := HK.out; omega
      clear hone hdr hce
      go_wp2_with fail
      have hw1 := CWrite_any V [c] wr (hV.below hbel)
      rw [write_one hcode] at hw1
      refine hw1.mono ?_
      rintro e w2 ⟨v2, rfl, hr2, hb2, _⟩
      unfold fltC
      simp only at hr2 ⊢
      obtain ⟨o2, c2', hv2, _, _⟩ := hr2.shape
      rw [bc_length] at hv2
      subst hv2
      have hbA : Below wr.heap.size wr (w2.alloc (.cells #[.int .i64 0, .int .i64 0] 26)) := hb2.trans ((below_alloc' _ _).mono hb2.size)
      have hrA := hr2.alloc (.cells #[.int .i64 0, .int .i64 0] 26)
      have hobA := owns_below hob hbA
      have hoiA := owns_below hoi hbA
      have hocA := owns_below hoc hbA
      have hbdA := hbd.below hbA
      have hbelA : Below w.heap.size w (w2.alloc (.cells #[.int .i64 0, .int .i64 0] 26)) := hbel.trans (hbA.mono hszr)
      clear hob hoi hoc hbd hbel hb2 hr2 hw1 hbA
      go_upto_region 8 with fail
      generalize w2.alloc (.cells #[.int .i64 0, .int .i64 0] 26) = wA at *
      have hzA := hbelA.size
      have hl63 : (flatC cur).length + (bc (cellB c)).length ≤ 2000000000000 := by rw [bc_length]; omega
      go_upto_region 9 with (at_builtin; go_must (refine wpList_append_rdE hocA hrA Try.underlying24 Try.info5 rfl rfl rfl rfl rfl (bc_one _) hl63 (by decide) hzA ?_); intro v3 w3 ho3 hb3 he3)
      have hrest : cs.drop (k + 1) ≠ [] ↔ k + 1 < cs.length := by
        constructor
        · intro h
          have : 0 < (cs.drop (k + 1)).length := List.length_pos_iff.2 h
          rw [List.length_drop] at this
          omega
        · intro h e
          have := congrArg List.length e
          simp at this
          omega
      have ho3' : w3.ownsRow w.heap.size 5 1 v3 (flatC (cur ++ [c])).length (bc (flatC (cur ++ [c]))) := by
        rw [hfe, bc_append, List.length_append, ← bc_length (cellB c)]
        exact ho3
      have hYl : (flatC (cur ++ [c])).length ≤ 330 * (cur.length + 1) := by rw [hfe, List.length_append]; omega
      have hon := @chunkGo_on size cur c (cs.drop (k + 1))
      have hcut := @chunkGo_cut size cur c (cs.drop (k + 1))
      have hix := indexB_snoc gs (cur ++ [c])
      rw [HHR.out] at hix
      have hoi3 := owns_ext hoiA he3 hsep
      have hob3 := owns_ext hobA he3 (ext_other (by decide) hobA hocA)
      have hbd3 := hbdA.ext he3 hofc
      have hofc3 := hbdA.offs he3 hofc
      have hsep3 := sep_ext hoiA he3 hsep
      have hbel3 := hbelA.trans hb3
      have hz3 := hbel3.size
      have hd3 := hdat.below hbel3
      obtain ⟨d0, d1, d2, d3, d4⟩ := hd3
      have HTK2 : Hid (cs.take (k + 1) = cs.take f ++ (cur ++ [c])) := hide (by rw [List.take_add_one, hc, HTK.out, List.append_assoc]; rfl)
      have hcl1 : (cur ++ [c]).length = cur.length + 1 := by simp
      clear hoiA hobA hocA hbdA hbelA ho3 hb3 he3 hsep hofc hzA hdat hrA hfe hc hd
      generalize cur ++ [c] = CU at *
      obtain ⟨o3, c3, hv3⟩ := owns_shape ho3'
      generalize hY : flatC CU = Y at *
      have HY := hide hY
      clear hY
      subst hv3
      have HON := hide hon
      have HCUT := hide hcut
      have HIX := hide hix
      clear hon hcut hix
      by_cases hcond : Y.length < size ∧ cs.drop (k + 1) ≠ []
      · have HE := hide (HON.out hcond)
        have h1 : (Y.length : Int) < (size : Int) := by omega
        have h2 : (k : Int) + 1 < (cs.length : Int) := by have := hrest.1 hcond.2; omega
        have h3 : k + 1 < cs.length := hrest.1 hcond.2
        clear hcond hrest HON HCUT
        go_wp2_with fail
        go_roundw
        case rel =>
          have hk2 : f + CU.length = k + 1 := by have := HK.out; omega
          refine ⟨f, gs, CU, us, by omega, by rw [hk2]; go_num, rfl, by rw [hk2, ← HG.out, HE.out], by rw [hk2]; exact HTK2.out, fun h => by omega, hgl, hil, by rw [HY.out]; omega, hob3, hoi3, by rw [HY.out]; exact ho3', hbd3, hsep3, hofi, hofc3, hofb, hbel3⟩
        case measure => simp [intOf]; omega
      · have HE := hide (HCUT.out hcond)
        have hor : (size : Int) ≤ (Y.length : Int) ∨ ((Y.length : Int) < (size : Int) ∧ (cs.length : Int) ≤ (k : Int) + 1) := by
          by_cases h1 : Y.length < size
          · right
            have : ¬ k + 1 < cs.length := fun h => hcond ⟨h1, hrest.2 h⟩
            omega
          · left; omega
        clear hcond hrest HON HCUT
        rcases hor with h1 | ⟨h1, h2⟩
        all_goals
          go_wp2_with fail
          refine (AppendStr_any _ (indexB gs) d.row w.heap.size _ hoi3 hz3 (by omega) (by omega)).mono ?_
          rintro e w4 ⟨v4, rfl, hoi4, hb4, he4⟩
          have ho34 := owns_ext ho3' he4 (fun k hk h => hsep3 k h hk)
          have hs34 := sep_ext ho3' he4 (fun k hk h => hsep3 k h hk)
          have hob4 := owns_ext hob3 he4 (ext_other (by decide) hob3 hoi3)
          have hbd4 := hbd3.ext he4 hofi
          have hofi4 := hbd3.offs he4 hofi
          have hbel4 := hbel3.trans hb4
          have hz4 := hbel4.size
          clear d0 d1 d2 d3 d4
          have htl := txB_lenF d.row
          have hx4 : (indexB gs ++ txB d.row).length ≤ 100000000000 := by rw [List.length_append]; omega
          go_wp2_with fail
          refine (AppendNum_any _ _ Y.length w.heap.size _ hoi4 hz4 (by omega) hx4).mono ?_
          rintro e w5 ⟨v5, rfl, hoi5, hb5, he5⟩
          have ho35 := owns_ext ho34 he5 hs34
          have hs35 := sep_ext ho34 he5 hs34
          have hob5 := owns_ext hob4 he5 (ext_other (by decide) hob4 hoi4)
          have hbd5 := hbd4.ext he5 hofi4
          have hofi5 := hbd4.offs he5 hofi4
          have hbel5 := hbel4.trans hb5
          have hz5 := hbel5.size
          have hel := encN_length Y.length
          go_wp2_with (at_builtin; go_must (refine wpList_append_oneE hob5 Try.underlying60 Try.info24 rfl rfl rfl rfl rfl rfl (by omega) (by decide) hz5 ?_); intro v6 w6 ho6 hb6 he6)
          go_roundw
          case rel =>
            have hoi6 := owns_ext hoi5 he6 (ext_other (by decide) hoi5 hob5)
            have ho36 := owns_ext ho35 he6 (ext_other (by decide) ho35 hob5)
            have hs36 := sep_ext ho35 he6 (ext_other (by decide) ho35 hob5)
            have hbd6 := (hbd5.ext he6 hofb).snoc (Rd.ofOwns ho36)
            have hofb6 := hbd5.offs he6 hofb
            have hixl : indexB (gs ++ [CU]) = indexB gs ++ txB d.row ++ encN Y.length := by rw [HIX.out, List.append_assoc]
            refine ⟨k + 1, gs ++ [CU], [], us ++ [.slice o3 Y.length c3], by simp; omega, by go_num, by go_num, by rw [← HG.out, HE.out]; simp, by simp, fun _ => rfl, by have := HK.out; simp; omega, by rw [hixl]; simp only [List.length_append]; have := HK.out; omega, by simp [flatC], by simpa using ho6, by rw [hixl]; exact hoi6, World.ownsRow_nil _ _ _ _, by rw [List.map_append, List.map_cons, List.map_nil, HY.out]; exact hbd6, fun k _ => by simp [Value.ownBlock], fun u hu => ?_, fun u _ => Off.none u, fun u hu => ?_, hbel5.trans hb6⟩
            · rcases List.mem_append.1 hu with h | h
              · exact hofi5 u h
              · simp at h
                subst h
                exact off_owns ho35 hs35
            · rcases List.mem_append.1 hu with h | h
              · exact hofb6 u h
              · simp at h
                subst h
                exact off_owns ho36 hs36
          case measure => simp [intOf]; omega
    · have hke : k = cs.length := by omega
      have hcn := hend hke
      subst hcn
      have HGE : Hid (gs = chunks size cs) := hide (by have := HG.out; rw [List.drop_eq_nil_of_le (by omega), chunkGo, List.append_nil] at this; exact this)
      clear hke hend HG
      go_wp2_with fail
      go_ret2
      refine ⟨_, _, us, rfl, ?_, ?_, ?_, hofb, off_owns hoi (ext_other (by decide) hoi hob), hbel⟩
      · rw [← HGE.out]; exact hob
      · rw [← HGE.out]; exact hbd
      · rw [← HGE.out]; exact Rd.ofOwns hoi

end Go.Proofs.Ytlebbkbbmgmmjac

/-
  The walk over file.Make.
-/
namespace Go.Proofs.Ytlebbkbbmgmmjac
open Go.RowKit

theorem flatC_mem_le : ∀ (L : List (List Cl)) (g : List Cl), g ∈ L → (flatC g).length ≤ (flatC L.flatten).length
  | [], _, h => by simp at h
  | x :: L, g, h => by
    rw [List.flatten_cons, flatC_append, List.length_append]
    rcases List.mem_cons.1 h with rfl | h
    · omega
    · have := flatC_mem_le L g h
      omega

theorem flatC_all {cs : List Cl} (h : ∀ c ∈ cs, codeC c = 0) : (flatC cs).length ≤ 330 * cs.length := by
  induction cs with
  | nil => simp [flatC]
  | cons c cs ih =>
    rw [flatC_cons, List.length_append, List.length_cons]
    have := ih (fun d hd => h d (List.mem_cons_of_mem _ hd))
    have := cellB_len (h c (List.mem_cons_self ..))
    omega

theorem chunk_mem {size : Nat} {cs g : List Cl} (h : g ∈ chunks size cs) {c : Cl} (hc : c ∈ g) : c ∈ cs := by
  rw [← chunks_flat size cs]
  exact List.mem_flatten.2 ⟨g, h, hc⟩

theorem indexB_le {gs : List (List Cl)} (h : ∀ g ∈ gs, g ≠ [] ∧ ∀ c ∈ g, codeC c = 0) : (indexB gs).length ≤ 60 * gs.length := by
  induction gs with
  | nil => simp [indexB]
  | cons g gs ih =>
    have e : indexB (g :: gs) = ixB g ++ indexB gs := by simp [indexB]
    rw [e, List.length_append, List.length_cons]
    have := ih (fun x hx => h x (List.mem_cons_of_mem _ hx))
    have h1 := txB_lenF (headRow g)
    have h2 := encN_length (flatC g).length
    have h3 : (headRow g).data.toList.length ≤ 40 := by
      obtain ⟨hn, hc⟩ := h g (List.mem_cons_self ..)
      cases g with
      | nil => exact absurd rfl hn
      | cons c l => exact (codeC_parts (hc c (List.mem_cons_self ..))).2.1
    unfold ixB
    rw [List.length_append]
    omega

theorem fileBB_le {cs : List Cl} {size : Nat} (h : ∀ c ∈ cs, codeC c = 0) (hl : cs.length ≤ 500) : ∀ s ∈ fileBB cs size, s.length ≤ 200000 := by
  intro s hs
  unfold fileBB at hs
  rcases List.mem_append.1 hs with hs | hs
  · obtain ⟨g, hg, rfl⟩ := List.mem_map.1 hs
    have h1 := flatC_mem_le _ _ hg
    rw [chunks_flat] at h1
    have := flatC_all h
    omega
  · simp only [List.mem_cons, List.not_mem_nil, or_false] at hs
    rcases hs with rfl | rfl
    · have h1 := indexB_le (gs := chunks size cs) (fun g hg => ⟨chunkGo_ne size cs [] g hg, fun c hc => h c (chunk_mem hg hc)⟩)
      have := chunks_len size cs
      omega
    · rw [filtB_len]
      unfold filtN
      have := rowsGo_len cs none
      unfold rowsU
      omega

set_option maxRecDepth 100000 in
set_option maxHeartbeats 2000000 in
theorem Make_any (v : Value) (cs : List Cl) (size : Int) (w : World) (hv : RdC w v cs) :
    Calls Try.prog 10 #[v, .int .i64 size] w fun e w' => ∃ v', e = .returned (.tuple #[v', fltC (makeF cs size).2]) ∧ Rd w' v' (bc (makeF cs size).1) ∧ Below w.heap.size w w' ∧ New w.heap.size v' := by
  obtain ⟨ao, cap, hvv, hc1, hc2⟩ := hv.shape
  subst hvv
  unfold maxLen at hc2
  go_enter Try.func10, Try.ntmps10
  go_wp2_with fail
  have hR0 := Bk.new w 26 #[.int .i64 0, .int .i64 0]
  refine (CCheck_any _ cs _ (hv.alloc _)).mono ?_
  rintro e w1 ⟨rfl, hb1⟩
  have hR1 := hR0.below hb1 (by simp)
  have hbw1 : Below w.heap.size w w1 := (below_alloc' _ _).trans (hb1.mono (by simp))
  have hsz1 := hR1.lt
  clear hb1 hR0
  have r0 := hR1.cell 0
  have r1 := hR1.cell 1
  have r2 := hR1.frozen 0
  have r3 := hR1.frozen 1
  simp at r0 r1
  by_cases hc : (checkC cs).1 = 0
  · have hcz := checkC_zero hc
    have HC : Hid (∀ c ∈ cs, codeC c = 0) := hide (fun c h => fine_code hc h)
    rw [hcz]
    unfold fltC
    by_cases h5 : 500 < cs.length
    · have HE := hide (@makeF_many cs size hc h5)
      have h5' : (500 : Int) < (cs.length : Int) := by omega
      clear hcz hc
      go_wp2_with fail
      exact bodyPost_ret (v := .tuple #[.slice none 0 0, fltC (2, -1)]) (by simp [results, Try.results10, go_sem, fltC, r0, r1, hsz1]) rfl ⟨_, by rw [HE.out], by rw [HE.out]; exact Rd.nil _, by go_grown, New.nil _⟩
    · have h5' : (cs.length : Int) ≤ 500 := by omega
      by_cases hs : size < 50 ∨ 4000 < size
      · have HE := hide (@makeF_size cs size hc h5 hs)
        clear hcz hc
        have hs2 : size < 50 ∨ (50 ≤ size ∧ 4000 < size) := by omega
        clear hs
        rcases hs2 with h1 | ⟨h1, h2⟩
        all_goals
          go_wp2_with fail
          exact bodyPost_ret (v := .tuple #[.slice none 0 0, fltC (3, -1)]) (by simp [results, Try.results10, go_sem, fltC, r0, r1, hsz1]) rfl ⟨_, by rw [HE.out], by rw [HE.out]; exact Rd.nil _, by go_grown, New.nil _⟩
      · have HE := hide (@makeF_go cs size hc h5 hs)
        have h1 : 50 ≤ size := by omega
        have h2 : size ≤ 4000 := by omega
        obtain ⟨m, rfl⟩ := Int.eq_ofNat_of_zero_le (show 0 ≤ size by omega)
        rw [Int.toNat_natCast] at HE
        have HLE := hide (@fileBB_le cs m HC.out (by omega))
        clear hcz hc hs
        have hRA : Bk (w1.alloc (.cells #[.int .i64 0, .int .i64 0] 26)) w.heap.size 26 #[.int .i64 0, .int .i64 0] := hR1.below (below_alloc' _ _) hsz1
        have hbwA : Below w.heap.size w (w1.alloc (.cells #[.int .i64 0, .int .i64 0] 26)) := hbw1.trans ((below_alloc' _ _).mono (by omega))
        have hzA : (w1.alloc (.cells #[.int .i64 0, .int .i64 0] 26)).heap.size = w1.heap.size + 1 := by simp
        go_wp2_with fail
        generalize w1.alloc (.cells #[.int .i64 0, .int .i64 0] 26) = wA at *
        refine (blocksOf_any _ cs m _ (hv.below hbwA) (by omega) HC.out (by omega)).mono ?_
        rintro e w2 ⟨vb, vi, us, rfl, hob, hbd, hri, hofb, hofvi, hb2⟩
        have hbw2 : Below w.heap.size w w2 := hbwA.trans (hb2.mono hbwA.size)
        have hR2 := hRA.below hb2 (by omega)
        have hz2 := hb2.size
        obtain ⟨io, icap, hvi, _, _⟩ := hri.shape
        subst hvi
        clear r0 r1 r2 r3 hR1 hRA
        go_wp2_with fail
        refine (filterOf_any _ cs _ (hv.below hbw2) (by omega) (fun c h => by rw [ba_size]; have := (codeC_parts (HC.out c h)).2.1; omega)).mono ?_
        rintro e w3 ⟨vf, rfl, hrf, hb3, hnf⟩
        have hvlt := hob.lt
        have hofvf : Off vb vf := fun a l c hv _ h => by have h1 := (hvlt _ h).2; have h2 := hnf a l c hv; omega
        have hob3 := owns_below hob hb3
        have hbd3 := hbd.below hb3
        have hri3 := hri.below hb3
        have hR3 := hR2.below hb3 (by omega)
        have hbw3 : Below w.heap.size w w3 := hbw2.trans (hb3.mono hbw2.size)
        have hz3 := hb3.size
        clear hob hbd hri hR2 hb2 hb3
        obtain ⟨fo, fcap, hvf, _, _⟩ := hrf.shape
        subst hvf
        have hgl := chunks_len m cs
        go_wp2_with (at_builtin; go_must (refine wpList_append_rdE (hob3.alloc _) (Rd.lits _ _ _ (by simp)) Try.underlying60 Try.info24 rfl rfl rfl rfl rfl (by simp [Value.oneCell']) (by simp; omega) (by decide) (by simp; omega) ?_); intro v4 w4 ho4 hb4 he4)
        have hbA := below_alloc' w3 (.cells #[.slice io (bc (indexB (chunks m cs))).length icap, .slice fo (bc (filtB cs)).length fcap] 24)
        have hbd4 := (hbd3.below hbA).ext he4 hofb
        have hri4 := (hri3.below hbA).ext he4 hofvi
        have hrf4 := (hrf.below hbA).ext he4 hofvf
        have hbw4 : Below w.heap.size w w4 := hbw3.trans ((hbA.mono hbw3.size).trans (hb4.mono (by omega)))
        have hR4 : Bk w4 w.heap.size 26 #[.int .i64 0, .int .i64 0] := (hR3.below hbA hR3.lt).below hb4 (by omega)
        have hB4 : RdB w4 v4 (fileBB cs m) := by
          have h1 := (hbd4.snoc hri4).snoc hrf4
          have h2 := Rd.ofOwns ho4
          unfold fileBB
          rw [List.append_assoc] at h1
          refine Bds.toB (us := us ++ [.slice io (bc (indexB (chunks m cs))).length icap] ++ [.slice fo (bc (filtB cs)).length fcap]) ?_ (by simpa using h2)
          simpa using h1
        clear hbd4 hri4 hrf4 hbd3 hri3 hrf hob3 hofb hofvi hofvf hR3 ho4 he4 hb4 hbA
        refine (Frames_any _ (fileBB cs m) _ hB4 (fun s hs => by have := HLE.out s hs; omega)).mono ?_
        rintro e w5 ⟨v5, rfl, hr5, hb5, hn5⟩
        generalize framesR (fileBB cs m) = FR at *
        obtain ⟨X, fx, fy⟩ := FR
        simp only at hr5 ⊢
        unfold flt
        obtain ⟨xo, xcap, hvx, _, _⟩ := hr5.shape
        rw [bc_length] at hvx
        subst hvx
        have hR5 := hR4.below hb5 hR4.lt
        have hbw5 : Below w.heap.size w w5 := hbw4.trans (hb5.mono hbw4.size)
        have r0 := hR5.cell 0
        have r1 := hR5.cell 1
        have r2 := hR5.frozen 0
        have r3 := hR5.frozen 1
        have hsr := hR5.lt
        have hz4 := hbw4.size
        have hl4 := hR4.lt
        simp at r0 r1
        go_wp2_with fail
        exact bodyPost_ret (v := .tuple #[.slice xo X.length xcap, fltC (fx, fy)]) (by simp [results, Try.results10, go_sem, fltC, r0, r1]) rfl ⟨_, by rw [HE.out], by rw [HE.out]; exact (hr5.setNew hn5 (by exact hl4) _).setNew hn5 (by exact hl4) _, by go_grown, hn5.mono hz4⟩
  · have HE := hide (@makeF_bad cs size hc)
    have hcb : ((checkC cs).1 == 0) = false := beq_eq_false_iff_ne.2 hc
    have hcb2 : ((checkC cs).1 != 0) = true := by simp [hc]
    clear hc
    generalize checkC cs = r at *
    obtain ⟨x, y⟩ := r
    simp only at hcb hcb2
    unfold fltC
    go_wp2_with fail
    go_region
    all_goals
      go_wp2_with fail
      exact bodyPost_ret (v := .tuple #[.slice none 0 0, fltC (x, y)]) (by simp [results, Try.results10, go_sem, fltC, r0, r1, hsz1]) rfl ⟨_, by rw [HE.out], by rw [HE.out]; exact Rd.nil _, by go_grown, New.nil _⟩

end Go.Proofs.Ytlebbkbbmgmmjac
