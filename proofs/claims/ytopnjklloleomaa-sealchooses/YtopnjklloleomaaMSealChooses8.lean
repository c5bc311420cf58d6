/-
  Texts joined: SealV11, SealV12, SealV13, SealP4, SealB, GenR.
-/
import Derived.Test.YtopnjklloleomaaMSealChooses7
import Derived.Great.BuildSlice
/-
  The walk over the vault's do. (Written by sv11.py.)
-/
namespace Go.Proofs.Ytopnjklloleomaa
open Go.RowKit
set_option linter.unusedVariables false

/-- A recovery that begins. -/
def newHl (n : Int) : Hl := ⟨n, [], [], false, [], []⟩

/-- What a deed leaves. -/
def doV (t : Vt) (k who n : Int) : Vt :=
  if k = 0 then t.written (t.left.getD 0 ⟨#[]⟩) (t.left.drop 1)
  else if k = 1 then t.brought who.toNat n.toNat (t.copies.getD who.toNat noCp) (t.wrote.getD n.toNat ⟨#[]⟩) (t.took.getD n.toNat [])
  else if k = 2 then { t with heals := t.heals ++ [newHl n] }
  else if k = 3 then t.hearing who.toNat n.toNat (t.copies.getD who.toNat noCp) (t.heals.getD n.toNat (newHl 0))
  else if k = 4 then t.chose n.toNat (t.heals.getD n.toNat (newHl 0))
  else t.ended who.toNat n.toNat (t.copies.getD who.toNat noCp) (t.heals.getD n.toNat (newHl 0))

def stepV (t : Vt) (k who n : Int) : Vt := if codeV t k who n = 0 then doV t k who n else t

/-- How long a vault's lists may be. -/
structure Sz (t : Vt) (N : Nat) : Prop where
  tw : t.took.length = t.wrote.length
  w : t.wrote.length ≤ N
  h : t.heals.length ≤ N
  l : ∀ (i : Nat) x, t.took[i]? = some x → x.length ≤ N
  a : ∀ (i : Nat) x, t.heals[i]? = some x → x.heard.length ≤ N ∧ x.said.length ≤ N ∧ x.ends.length ≤ N

theorem inR_iff {x : Int} {m : Nat} (h : inR x m = true) : ∃ k : Nat, x = k ∧ k < m := by
  unfold inR at h
  have := of_decide_eq_true h
  exact ⟨x.toNat, by omega, by omega⟩

theorem nil_row (w : World) (lab : Nat → Nat) (i : Nat) (e : TypeId) (K : Nat) : Row w lab i e K (.slice none 0 0) 0 [] := ⟨World.ownsRow_nil _ _ _ _, fun g hg => by simp [Value.ownBlock] at hg⟩

theorem HlM.snoc {w w' : World} {lab lab' : Nat → Nat} {S : Nat → Prop} {v : Value} {hs : List Hf} {hl : List Hl} {n : Int} (h2 : hs.length = hl.length) (h3 : ∀ (j : Nat) h a, hs[j]? = some h → hl[j]? = some a → HlIs w lab j h a)
    (hrow : Row w' lab' 4 55 6 v (hs.length + 1) (hfE.vs (hs ++ [⟨n, ⟨none, 0, 0⟩, ⟨none, 0, 0⟩, false, ⟨none, 0, 0⟩, ⟨none, 0, 0⟩⟩]))) (hc : Chg 0 w w' lab lab' S) (h0 : ¬ S 0) (hS : ∀ i, ¬ S (9 + 4 * i) ∧ ¬ S (10 + 4 * i) ∧ ¬ S (11 + 4 * i)) : HlM w' lab' v (hl ++ [newHl n]) := by
  refine ⟨hs ++ [⟨n, ⟨none, 0, 0⟩, ⟨none, 0, 0⟩, false, ⟨none, 0, 0⟩, ⟨none, 0, 0⟩⟩], by rw [List.length_append]; exact hrow, by simp [h2], fun i h a hh ha => ?_⟩
  by_cases hi : i < hs.length
  · rw [List.getElem?_append_left hi] at hh
    rw [List.getElem?_append_left (by omega)] at ha
    exact (h3 i h a hh ha).keep hc h0 (hS i).1 (hS i).2.1 (hS i).2.2
  · have hl2 := (List.getElem?_eq_some_iff.1 hh).1
    simp at hl2
    obtain rfl : i = hs.length := by omega
    rw [List.getElem?_append_right (Nat.le_refl _), Nat.sub_self] at hh
    rw [h2, List.getElem?_append_right (Nat.le_refl _), Nat.sub_self] at ha
    simp at hh ha
    subst hh ha
    exact ⟨rfl, rfl, nil_row _ _ _ _ _, ⟨[], nil_row _ _ _ _ _, rfl, fun j f c hf => by simp at hf⟩, ⟨RdG.nil _, fun a n c hv => by cases hv⟩, nil_row _ _ _ _ _⟩

theorem infoHeal : (Try.prog.info? 55).map (fun i => (i.zero, i.size, i.bytes)) = some (some (.agg #[.int .i64 0, .slice none 0 0, .slice none 0 0, .bool false, .slice none 0 0, .slice none 0 0]), 6, 112) := by kernel_rfl

theorem VmTo.below {w w1 : World} {lab : Nat → Nat} {B : Nat} {s : Vs} {t : Vt} (hm : Vm w lab B s t) (hb : Below w.heap.size w w1) : VmTo w lab B t w1 := ⟨lab, s, hm.below hb, Chg.below _ hm.ok hb⟩

set_option maxRecDepth 100000 in
set_option maxHeartbeats 8000000 in
theorem do0_any (B : Nat) (s : Vs) (t : Vt) (who n : Int) (lab : Nat → Nat) (w : World) (hm : Vm w lab B s t) (N : Nat) (hz : Sz t N) (hN : N ≤ 900000) :
    Calls Try.prog 38 #[.pointer (some ⟨B, 0, none⟩), .agg #[.int .i64 0, .int .i64 who, .int .i64 n]] w fun e w' => e = .returned (.int .i64 (codeV t 0 who n)) ∧ VmTo w lab B (stepV t 0 who n) w' := by
  have HST : Hid (stepV t 0 who n = if codeV t 0 who n = 0 then doV t 0 who n else t) := hide rfl
  have hA := below_allocG w (.cells #[.int .i64 0, .int .i64 who, .int .i64 n] 49)
  have HM := hide hm
  have HCO := hide (codeOfV_any B s t 0 who n lab _ (hm.below hA))
  have HD := hide (Blk.new w 49 #[.int .i64 0, .int .i64 who, .int .i64 n])
  have HBA := hide hA
  have HZ := hide hz
  clear hm hA hz
  by_cases hc : codeV t 0 who n = 0
  case neg =>
    have HE := hide (HST.out.trans (if_neg hc))
    have hq : (codeV t 0 who n == 0) = false := beq_eq_false_iff_ne.2 hc
    have hq2 : (codeV t 0 who n != 0) = true := by simp [hc]
    generalize codeV t 0 who n = CV at *
    clear hc
    go_enter Try.func38, Try.ntmps38
    go_wp2_with fail
    refine HCO.out.mono ?_
    rintro e w1 ⟨rfl, hb1⟩
    have HB1 := hide (HBA.out.trans (hb1.mono HBA.out.size))
    have HD1 := hide (HD.out.later hb1)
    have d0 := HD1.out.cell 0
    have d1 := HD1.out.cell 1
    have d2 := HD1.out.cell 2
    have dl := HD1.out.lt
    simp at d0 d1 d2
    clear hb1 HCO
    clear d0 d1 d2 dl
    go_wp2_with fail
    go_ret
    exact ⟨rfl, by rw [HE.out]; exact VmTo.below HM.out HB1.out⟩
  have HE0 := hide (HST.out.trans (if_pos hc))
  have hl : t.left.length ≠ 0 := by
    intro q
    unfold codeV at hc
    rw [if_pos rfl, if_pos q] at hc
    simp at hc
  obtain ⟨r, rest, hr⟩ : ∃ r rest, t.left = r :: rest := by
    cases h : t.left with
    | nil => rw [h] at hl; simp at hl
    | cons r rest => exact ⟨r, rest, rfl⟩
  have HE := hide (show stepV t 0 who n = t.written r rest by rw [HE0.out, doV, if_pos rfl, hr]; rfl)
  have HR := hide hr
  rw [hc] at HCO
  have HC0 := hide hc
  clear hc hl hr HE0 HST
  go_enter Try.func38, Try.ntmps38
  go_wp2_with fail
  refine HCO.out.mono ?_
  rintro e w1 ⟨rfl, hb1⟩
  have HB1 := hide (HBA.out.trans (hb1.mono HBA.out.size))
  have HD1 := hide (HD.out.later hb1)
  have d0 := HD1.out.cell 0
  have d1 := HD1.out.cell 1
  have d2 := HD1.out.cell 2
  have dl := HD1.out.lt
  simp at d0 d1 d2
  clear hb1 HCO
  have HW := hide (write_any B s t r rest lab w1 (HM.out.below HB1.out) HR.out (by have := HZ.out.w; omega) (by have := HZ.out.w; have := HZ.out.tw; omega))
  have HCB := hide (Chg.below (fun i => i ≠ 0 ∧ i ≠ 6) HM.out.ok HB1.out)
  go_wp2_with fail
  refine HW.out.mono ?_
  rintro e w2 ⟨rfl, hto⟩
  have HTO := hide (VmTo.after HCB.out hto)
  clear hto
  go_wp2_with fail
  go_ret
  exact ⟨by rw [HC0.out]; rfl, by rw [HE.out]; exact HTO.out⟩

set_option maxRecDepth 100000 in
set_option maxHeartbeats 8000000 in
theorem do1_any (B : Nat) (s : Vs) (t : Vt) (who n : Int) (lab : Nat → Nat) (w : World) (hm : Vm w lab B s t) (N : Nat) (hz : Sz t N) (hN : N ≤ 900000) :
    Calls Try.prog 38 #[.pointer (some ⟨B, 0, none⟩), .agg #[.int .i64 1, .int .i64 who, .int .i64 n]] w fun e w' => e = .returned (.int .i64 (codeV t 1 who n)) ∧ VmTo w lab B (stepV t 1 who n) w' := by
  have HST : Hid (stepV t 1 who n = if codeV t 1 who n = 0 then doV t 1 who n else t) := hide rfl
  have hA := below_allocG w (.cells #[.int .i64 1, .int .i64 who, .int .i64 n] 49)
  have HM := hide hm
  have HCO := hide (codeOfV_any B s t 1 who n lab _ (hm.below hA))
  have HD := hide (Blk.new w 49 #[.int .i64 1, .int .i64 who, .int .i64 n])
  have HBA := hide hA
  have HZ := hide hz
  clear hm hA hz
  by_cases hc : codeV t 1 who n = 0
  case neg =>
    have HE := hide (HST.out.trans (if_neg hc))
    have hq : (codeV t 1 who n == 0) = false := beq_eq_false_iff_ne.2 hc
    have hq2 : (codeV t 1 who n != 0) = true := by simp [hc]
    generalize codeV t 1 who n = CV at *
    clear hc
    go_enter Try.func38, Try.ntmps38
    go_wp2_with fail
    refine HCO.out.mono ?_
    rintro e w1 ⟨rfl, hb1⟩
    have HB1 := hide (HBA.out.trans (hb1.mono HBA.out.size))
    have HD1 := hide (HD.out.later hb1)
    have d0 := HD1.out.cell 0
    have d1 := HD1.out.cell 1
    have d2 := HD1.out.cell 2
    have dl := HD1.out.lt
    simp at d0 d1 d2
    clear hb1 HCO
    clear d0 d1 d2 dl
    go_wp2_with fail
    go_ret
    exact ⟨rfl, by rw [HE.out]; exact VmTo.below HM.out HB1.out⟩
  have HE0 := hide (HST.out.trans (if_pos hc))
  have hin : inR who t.copies.length = true ∧ inR n t.wrote.length = true := by
    apply Decidable.byContradiction
    intro q
    unfold codeV at hc
    rw [if_neg (by decide), if_pos rfl, if_neg q] at hc
    simp at hc
  obtain ⟨W, rfl, hW⟩ := inR_iff hin.1
  obtain ⟨M, rfl, hM⟩ := inR_iff hin.2
  obtain ⟨c, hcc⟩ : ∃ c, t.copies[W]? = some c := ⟨_, List.getElem?_eq_getElem hW⟩
  obtain ⟨r, hrr⟩ : ∃ c, t.wrote[M]? = some c := ⟨_, List.getElem?_eq_getElem hM⟩
  obtain ⟨l, hlk⟩ : ∃ c, t.took[M]? = some c := ⟨_, List.getElem?_eq_getElem (by rw [HZ.out.tw]; exact hM)⟩
  have HE := hide (show stepV t 1 W M = t.brought W M c r l by
    rw [HE0.out, doV, if_neg (by decide), if_pos rfl]
    simp only [Int.toNat_natCast, List.getD_eq_getElem?_getD, hcc, hrr, hlk, Option.getD_some])
  rw [hc] at HCO
  have HC0 := hide hc
  have HLK := hide hlk
  have HCC := hide hcc
  have HRR := hide hrr
  clear hc hin HE0 HST hlk hcc hrr
  go_enter Try.func38, Try.ntmps38
  go_wp2_with fail
  refine HCO.out.mono ?_
  rintro e w1 ⟨rfl, hb1⟩
  have HB1 := hide (HBA.out.trans (hb1.mono HBA.out.size))
  have HD1 := hide (HD.out.later hb1)
  have d0 := HD1.out.cell 0
  have d1 := HD1.out.cell 1
  have d2 := HD1.out.cell 2
  have dl := HD1.out.lt
  simp at d0 d1 d2
  clear hb1 HCO
  have HW := hide (bring_any B W M s t c r l lab w1 (HM.out.below HB1.out) HCC.out HRR.out HLK.out (by have := HZ.out.l _ _ HLK.out; omega))
  have HCB := hide (Chg.below (fun i => i ≠ 0 ∧ i ≠ 6) HM.out.ok HB1.out)
  go_wp2_with fail
  refine HW.out.mono ?_
  rintro e w2 ⟨lab2, rfl, hm2, hch2⟩
  have HTO := hide (VmTo.after HCB.out ⟨lab2, s, hm2, hch2⟩)
  clear hm2 hch2
  go_wp2_with fail
  go_ret
  exact ⟨by rw [HC0.out]; rfl, by rw [HE.out]; exact HTO.out⟩

set_option maxRecDepth 100000 in
set_option maxHeartbeats 8000000 in
theorem do3_any (B : Nat) (s : Vs) (t : Vt) (who n : Int) (lab : Nat → Nat) (w : World) (hm : Vm w lab B s t) (N : Nat) (hz : Sz t N) (hN : N ≤ 900000) :
    Calls Try.prog 38 #[.pointer (some ⟨B, 0, none⟩), .agg #[.int .i64 3, .int .i64 who, .int .i64 n]] w fun e w' => e = .returned (.int .i64 (codeV t 3 who n)) ∧ VmTo w lab B (stepV t 3 who n) w' := by
  have HST : Hid (stepV t 3 who n = if codeV t 3 who n = 0 then doV t 3 who n else t) := hide rfl
  have hA := below_allocG w (.cells #[.int .i64 3, .int .i64 who, .int .i64 n] 49)
  have HM := hide hm
  have HCO := hide (codeOfV_any B s t 3 who n lab _ (hm.below hA))
  have HD := hide (Blk.new w 49 #[.int .i64 3, .int .i64 who, .int .i64 n])
  have HBA := hide hA
  have HZ := hide hz
  clear hm hA hz
  by_cases hc : codeV t 3 who n = 0
  case neg =>
    have HE := hide (HST.out.trans (if_neg hc))
    have hq : (codeV t 3 who n == 0) = false := beq_eq_false_iff_ne.2 hc
    have hq2 : (codeV t 3 who n != 0) = true := by simp [hc]
    generalize codeV t 3 who n = CV at *
    clear hc
    go_enter Try.func38, Try.ntmps38
    go_wp2_with fail
    refine HCO.out.mono ?_
    rintro e w1 ⟨rfl, hb1⟩
    have HB1 := hide (HBA.out.trans (hb1.mono HBA.out.size))
    have HD1 := hide (HD.out.later hb1)
    have d0 := HD1.out.cell 0
    have d1 := HD1.out.cell 1
    have d2 := HD1.out.cell 2
    have dl := HD1.out.lt
    simp at d0 d1 d2
    clear hb1 HCO
    clear d0 d1 d2 dl
    go_wp2_with fail
    go_ret
    exact ⟨rfl, by rw [HE.out]; exact VmTo.below HM.out HB1.out⟩
  have HE0 := hide (HST.out.trans (if_pos hc))
  have hin : inR who t.copies.length = true ∧ inR n t.heals.length = true := by
    apply Decidable.byContradiction
    intro q
    unfold codeV at hc
    rw [if_neg (by decide), if_neg (by decide), if_neg (by decide), if_pos (by decide), if_neg q] at hc
    simp at hc
  obtain ⟨W, rfl, hW⟩ := inR_iff hin.1
  obtain ⟨M, rfl, hM⟩ := inR_iff hin.2
  obtain ⟨c, hcc⟩ : ∃ c, t.copies[W]? = some c := ⟨_, List.getElem?_eq_getElem hW⟩
  obtain ⟨a, haa⟩ : ∃ c, t.heals[M]? = some c := ⟨_, List.getElem?_eq_getElem hM⟩
  have HE := hide (show stepV t 3 W M = t.hearing W M c a by
    rw [HE0.out, doV, if_neg (by decide), if_neg (by decide), if_neg (by decide), if_pos rfl]
    simp only [Int.toNat_natCast, List.getD_eq_getElem?_getD, hcc, haa, Option.getD_some])
  rw [hc] at HCO
  have HC0 := hide hc
  have HAA := hide haa
  have HCC := hide hcc
  clear hc hin HE0 HST haa hcc
  go_enter Try.func38, Try.ntmps38
  go_wp2_with fail
  refine HCO.out.mono ?_
  rintro e w1 ⟨rfl, hb1⟩
  have HB1 := hide (HBA.out.trans (hb1.mono HBA.out.size))
  have HD1 := hide (HD.out.later hb1)
  have d0 := HD1.out.cell 0
  have d1 := HD1.out.cell 1
  have d2 := HD1.out.cell 2
  have dl := HD1.out.lt
  simp at d0 d1 d2
  clear hb1 HCO
  have hm1 := (HM.out.below HB1.out).drew
  obtain ⟨hs, hrow, hlen, hss⟩ := hm1.hea
  obtain ⟨g, hcap, cur, hgv, _⟩ := owns_pos hrow.1 (by omega)
  rw [hlen] at hgv
  have v3 := (HM.out.below HB1.out).blk.cell 3
  have vl := (HM.out.below HB1.out).blk.lt
  simp only [Vs.a, List.getElem?_toArray, List.getElem?_cons_zero, List.getElem?_cons_succ] at v3
  rw [hgv] at v3
  have hk1 : (0 : Int) ≤ (M : Int) := by omega
  have hk2 : (M : Int) < (t.heals.length : Int) := by omega
  have hsa := HZ.out.a _ _ HAA.out
  have HW := hide (hear_any B W M g hcap s t c a lab w1.drew hm1 HCC.out HAA.out hgv (by omega) (by omega))
  have HCB := hide ((Chg.below (fun i => i ≠ 0 ∧ i ≠ 6) HM.out.ok HB1.out).trans (chg_drew (HM.out.below HB1.out).ok))
  clear hm1 hrow hlen hss hgv hsa
  go_wp2_with fail
  go_region_with (go_at_call 49; refine HW.out.mono ?_; rintro e w2 ⟨rfl, hto⟩)
  all_goals
    have HTO := hide (VmTo.after HCB.out hto)
    clear hto
    go_wp2_with fail
    go_ret
    exact ⟨by rw [HC0.out]; rfl, by rw [HE.out]; exact HTO.out⟩

set_option maxRecDepth 100000 in
set_option maxHeartbeats 8000000 in
theorem do4_any (B : Nat) (s : Vs) (t : Vt) (who n : Int) (lab : Nat → Nat) (w : World) (hm : Vm w lab B s t) (N : Nat) (hz : Sz t N) (hN : N ≤ 900000) :
    Calls Try.prog 38 #[.pointer (some ⟨B, 0, none⟩), .agg #[.int .i64 4, .int .i64 who, .int .i64 n]] w fun e w' => e = .returned (.int .i64 (codeV t 4 who n)) ∧ VmTo w lab B (stepV t 4 who n) w' := by
  have HST : Hid (stepV t 4 who n = if codeV t 4 who n = 0 then doV t 4 who n else t) := hide rfl
  have hA := below_allocG w (.cells #[.int .i64 4, .int .i64 who, .int .i64 n] 49)
  have HM := hide hm
  have HCO := hide (codeOfV_any B s t 4 who n lab _ (hm.below hA))
  have HD := hide (Blk.new w 49 #[.int .i64 4, .int .i64 who, .int .i64 n])
  have HBA := hide hA
  have HZ := hide hz
  clear hm hA hz
  by_cases hc : codeV t 4 who n = 0
  case neg =>
    have HE := hide (HST.out.trans (if_neg hc))
    have hq : (codeV t 4 who n == 0) = false := beq_eq_false_iff_ne.2 hc
    have hq2 : (codeV t 4 who n != 0) = true := by simp [hc]
    generalize codeV t 4 who n = CV at *
    clear hc
    go_enter Try.func38, Try.ntmps38
    go_wp2_with fail
    refine HCO.out.mono ?_
    rintro e w1 ⟨rfl, hb1⟩
    have HB1 := hide (HBA.out.trans (hb1.mono HBA.out.size))
    have HD1 := hide (HD.out.later hb1)
    have d0 := HD1.out.cell 0
    have d1 := HD1.out.cell 1
    have d2 := HD1.out.cell 2
    have dl := HD1.out.lt
    simp at d0 d1 d2
    clear hb1 HCO
    clear d0 d1 d2 dl
    go_wp2_with fail
    go_ret
    exact ⟨rfl, by rw [HE.out]; exact VmTo.below HM.out HB1.out⟩
  have HE0 := hide (HST.out.trans (if_pos hc))
  have hin : inR n t.heals.length = true := by
    apply Decidable.byContradiction
    intro q
    unfold codeV at hc
    rw [if_neg (by decide), if_neg (by decide), if_neg (by decide), if_neg (by decide), if_pos rfl, if_neg q] at hc
    simp at hc
  obtain ⟨M, rfl, hM⟩ := inR_iff hin
  obtain ⟨a, haa⟩ : ∃ c, t.heals[M]? = some c := ⟨_, List.getElem?_eq_getElem hM⟩
  have HE := hide (show stepV t 4 who M = t.chose M a by
    rw [HE0.out, doV, if_neg (by decide), if_neg (by decide), if_neg (by decide), if_neg (by decide), if_pos rfl]
    simp only [Int.toNat_natCast, List.getD_eq_getElem?_getD, haa, Option.getD_some])
  rw [hc] at HCO
  have HC0 := hide hc
  have HAA := hide haa
  clear hc hin HE0 HST haa
  go_enter Try.func38, Try.ntmps38
  go_wp2_with fail
  refine HCO.out.mono ?_
  rintro e w1 ⟨rfl, hb1⟩
  have HB1 := hide (HBA.out.trans (hb1.mono HBA.out.size))
  have HD1 := hide (HD.out.later hb1)
  have d0 := HD1.out.cell 0
  have d1 := HD1.out.cell 1
  have d2 := HD1.out.cell 2
  have dl := HD1.out.lt
  simp at d0 d1 d2
  clear hb1 HCO
  have hm1 := (HM.out.below HB1.out).drew
  obtain ⟨hs, hrow, hlen, hss⟩ := hm1.hea
  obtain ⟨g, hcap, cur, hgv, _⟩ := owns_pos hrow.1 (by omega)
  rw [hlen] at hgv
  have v3 := (HM.out.below HB1.out).blk.cell 3
  have vl := (HM.out.below HB1.out).blk.lt
  simp only [Vs.a, List.getElem?_toArray, List.getElem?_cons_zero, List.getElem?_cons_succ] at v3
  rw [hgv] at v3
  have hk1 : (0 : Int) ≤ (M : Int) := by omega
  have hk2 : (M : Int) < (t.heals.length : Int) := by omega
  have hsa := HZ.out.a _ _ HAA.out
  have HW := hide (choose_any B M g hcap s t a lab w1.drew hm1 HAA.out hgv)
  have HCB := hide ((Chg.below (fun i => i ≠ 0 ∧ i ≠ 6) HM.out.ok HB1.out).trans (chg_drew (HM.out.below HB1.out).ok))
  clear hm1 hrow hlen hss hgv hsa
  go_wp2_with fail
  go_region_with (go_at_call 50; refine HW.out.mono ?_; rintro e w2 ⟨lab2, rfl, hm2, hch2⟩)
  all_goals
    have HTO := hide (VmTo.after HCB.out ⟨lab2, s, hm2, hch2⟩)
    clear hm2 hch2
    go_wp2_with fail
    go_ret
    exact ⟨by rw [HC0.out]; rfl, by rw [HE.out]; exact HTO.out⟩

set_option maxRecDepth 100000 in
set_option maxHeartbeats 8000000 in
theorem do5_any (B : Nat) (s : Vs) (t : Vt) (who n : Int) (lab : Nat → Nat) (w : World) (hm : Vm w lab B s t) (N : Nat) (hz : Sz t N) (hN : N ≤ 900000) :
    Calls Try.prog 38 #[.pointer (some ⟨B, 0, none⟩), .agg #[.int .i64 5, .int .i64 who, .int .i64 n]] w fun e w' => e = .returned (.int .i64 (codeV t 5 who n)) ∧ VmTo w lab B (stepV t 5 who n) w' := by
  have HST : Hid (stepV t 5 who n = if codeV t 5 who n = 0 then doV t 5 who n else t) := hide rfl
  have hA := below_allocG w (.cells #[.int .i64 5, .int .i64 who, .int .i64 n] 49)
  have HM := hide hm
  have HCO := hide (codeOfV_any B s t 5 who n lab _ (hm.below hA))
  have HD := hide (Blk.new w 49 #[.int .i64 5, .int .i64 who, .int .i64 n])
  have HBA := hide hA
  have HZ := hide hz
  clear hm hA hz
  by_cases hc : codeV t 5 who n = 0
  case neg =>
    have HE := hide (HST.out.trans (if_neg hc))
    have hq : (codeV t 5 who n == 0) = false := beq_eq_false_iff_ne.2 hc
    have hq2 : (codeV t 5 who n != 0) = true := by simp [hc]
    generalize codeV t 5 who n = CV at *
    clear hc
    go_enter Try.func38, Try.ntmps38
    go_wp2_with fail
    refine HCO.out.mono ?_
    rintro e w1 ⟨rfl, hb1⟩
    have HB1 := hide (HBA.out.trans (hb1.mono HBA.out.size))
    have HD1 := hide (HD.out.later hb1)
    have d0 := HD1.out.cell 0
    have d1 := HD1.out.cell 1
    have d2 := HD1.out.cell 2
    have dl := HD1.out.lt
    simp at d0 d1 d2
    clear hb1 HCO
    clear d0 d1 d2 dl
    go_wp2_with fail
    go_ret
    exact ⟨rfl, by rw [HE.out]; exact VmTo.below HM.out HB1.out⟩
  have HE0 := hide (HST.out.trans (if_pos hc))
  have hin : inR who t.copies.length = true ∧ inR n t.heals.length = true := by
    apply Decidable.byContradiction
    intro q
    unfold codeV at hc
    rw [if_neg (by decide), if_neg (by decide), if_neg (by decide), if_pos (by decide), if_neg q] at hc
    simp at hc
  obtain ⟨W, rfl, hW⟩ := inR_iff hin.1
  obtain ⟨M, rfl, hM⟩ := inR_iff hin.2
  obtain ⟨c, hcc⟩ : ∃ c, t.copies[W]? = some c := ⟨_, List.getElem?_eq_getElem hW⟩
  obtain ⟨a, haa⟩ : ∃ c, t.heals[M]? = some c := ⟨_, List.getElem?_eq_getElem hM⟩
  have HE := hide (show stepV t 5 W M = t.ended W M c a by
    rw [HE0.out, doV, if_neg (by decide), if_neg (by decide), if_neg (by decide), if_neg (by decide), if_neg (by decide)]
    simp only [Int.toNat_natCast, List.getD_eq_getElem?_getD, hcc, haa, Option.getD_some])
  rw [hc] at HCO
  have HC0 := hide hc
  have HAA := hide haa
  have HCC := hide hcc
  clear hc hin HE0 HST haa hcc
  go_enter Try.func38, Try.ntmps38
  go_wp2_with fail
  refine HCO.out.mono ?_
  rintro e w1 ⟨rfl, hb1⟩
  have HB1 := hide (HBA.out.trans (hb1.mono HBA.out.size))
  have HD1 := hide (HD.out.later hb1)
  have d0 := HD1.out.cell 0
  have d1 := HD1.out.cell 1
  have d2 := HD1.out.cell 2
  have dl := HD1.out.lt
  simp at d0 d1 d2
  clear hb1 HCO
  have hm1 := (HM.out.below HB1.out).drew
  obtain ⟨hs, hrow, hlen, hss⟩ := hm1.hea
  obtain ⟨g, hcap, cur, hgv, _⟩ := owns_pos hrow.1 (by omega)
  rw [hlen] at hgv
  have v3 := (HM.out.below HB1.out).blk.cell 3
  have vl := (HM.out.below HB1.out).blk.lt
  simp only [Vs.a, List.getElem?_toArray, List.getElem?_cons_zero, List.getElem?_cons_succ] at v3
  rw [hgv] at v3
  have hk1 : (0 : Int) ≤ (M : Int) := by omega
  have hk2 : (M : Int) < (t.heals.length : Int) := by omega
  have hsa := HZ.out.a _ _ HAA.out
  have HW := hide (end_any B W M g hcap s t c a lab w1.drew hm1 HCC.out HAA.out hgv (by omega))
  have HCB := hide ((Chg.below (fun i => i ≠ 0 ∧ i ≠ 6) HM.out.ok HB1.out).trans (chg_drew (HM.out.below HB1.out).ok))
  clear hm1 hrow hlen hss hgv hsa
  go_wp2_with fail
  go_region_with (go_at_call 51; refine HW.out.mono ?_; rintro e w2 ⟨lab2, rfl, hm2, hch2⟩)
  all_goals
    have HTO := hide (VmTo.after HCB.out ⟨lab2, s, hm2, hch2⟩)
    clear hm2 hch2
    go_wp2_with fail
    go_ret
    exact ⟨by rw [HC0.out]; rfl, by rw [HE.out]; exact HTO.out⟩

end Go.Proofs.Ytopnjklloleomaa

/-
  The walk over the vault's do: a recovery begins; a kind that there is not; all together. (Written by sv12.py.)
-/
namespace Go.Proofs.Ytopnjklloleomaa
open Go.RowKit
set_option linter.unusedVariables false

set_option maxRecDepth 100000 in
set_option maxHeartbeats 8000000 in
theorem do2_any (B : Nat) (s : Vs) (t : Vt) (who n : Int) (lab : Nat → Nat) (w : World) (hm : Vm w lab B s t) (N : Nat) (hz : Sz t N) (hN : N ≤ 900000) :
    Calls Try.prog 38 #[.pointer (some ⟨B, 0, none⟩), .agg #[.int .i64 2, .int .i64 who, .int .i64 n]] w fun e w' => e = .returned (.int .i64 (codeV t 2 who n)) ∧ VmTo w lab B (stepV t 2 who n) w' := by
  have HST : Hid (stepV t 2 who n = if codeV t 2 who n = 0 then doV t 2 who n else t) := hide rfl
  have hA := below_allocG w (.cells #[.int .i64 2, .int .i64 who, .int .i64 n] 49)
  have HM := hide hm
  have HCO := hide (codeOfV_any B s t 2 who n lab _ (hm.below hA))
  have HD := hide (Blk.new w 49 #[.int .i64 2, .int .i64 who, .int .i64 n])
  have HBA := hide hA
  have HZ := hide hz
  clear hm hA hz
  by_cases hc : codeV t 2 who n = 0
  case neg =>
    have HE := hide (HST.out.trans (if_neg hc))
    have hq : (codeV t 2 who n == 0) = false := beq_eq_false_iff_ne.2 hc
    have hq2 : (codeV t 2 who n != 0) = true := by simp [hc]
    generalize codeV t 2 who n = CV at *
    clear hc
    go_enter Try.func38, Try.ntmps38
    go_wp2_with fail
    refine HCO.out.mono ?_
    rintro e w1 ⟨rfl, hb1⟩
    have HB1 := hide (HBA.out.trans (hb1.mono HBA.out.size))
    have HD1 := hide (HD.out.later hb1)
    have d0 := HD1.out.cell 0
    have d1 := HD1.out.cell 1
    have d2 := HD1.out.cell 2
    have dl := HD1.out.lt
    simp at d0 d1 d2
    clear hb1 HCO
    clear d0 d1 d2 dl
    go_wp2_with fail
    go_ret
    exact ⟨rfl, by rw [HE.out]; exact VmTo.below HM.out HB1.out⟩
  have HE0 := hide (HST.out.trans (if_pos hc))
  have HE := hide (show stepV t 2 who n = { t with heals := t.heals ++ [newHl n] } by rw [HE0.out, doV, if_neg (by decide), if_neg (by decide), if_pos rfl])
  rw [hc] at HCO
  have HC0 := hide hc
  clear hc HE0 HST
  go_enter Try.func38, Try.ntmps38
  go_wp2_with fail
  refine HCO.out.mono ?_
  rintro e w1 ⟨rfl, hb1⟩
  have HB1 := hide (HBA.out.trans (hb1.mono HBA.out.size))
  have HD1 := hide (HD.out.later hb1)
  have d0 := HD1.out.cell 0
  have d1 := HD1.out.cell 1
  have d2 := HD1.out.cell 2
  have dl := HD1.out.lt
  simp at d0 d1 d2
  clear hb1 HCO
  have hm1 := HM.out.below HB1.out
  obtain ⟨hs, hrow, hlen, hss⟩ := hm1.hea
  have hhn := HlM.len hm1.hea
  have v3 := hm1.blk.cell 3
  have z3 := hm1.blk.frozen 3
  have vl := hm1.blk.lt
  simp only [Vs.a, List.getElem?_toArray, List.getElem?_cons_zero, List.getElem?_cons_succ] at v3
  unfold Sl.v at v3 hrow
  rw [hhn, ← hlen] at v3 hrow
  have hA2 : Below w1.heap.size w1 (w1.drew.alloc (.cells #[.int .i64 n, .slice none 0 0, .slice none 0 0, .bool false, .slice none 0 0, .slice none 0 0] 55)) := by go_grown
  have HA2 := hide hA2
  have HOWN := hide (owns_below hrow.1 hA2)
  have HNEW := hide (show RdG hfE (w1.drew.alloc (.cells #[.int .i64 n, .slice none 0 0, .slice none 0 0, .bool false, .slice none 0 0, .slice none 0 0] 55)) (.slice (some ⟨w1.heap.size, 0, none⟩) 1 1) [⟨n, ⟨none, 0, 0⟩, ⟨none, 0, 0⟩, false, ⟨none, 0, 0⟩, ⟨none, 0, 0⟩⟩] from RdG.newL (E := hfE) w1.drew [⟨n, ⟨none, 0, 0⟩, ⟨none, 0, 0⟩, false, ⟨none, 0, 0⟩, ⟨none, 0, 0⟩⟩] 55 #[.int .i64 n, .slice none 0 0, .slice none 0 0, .bool false, .slice none 0 0, .slice none 0 0] rfl (by simp))
  have h63 : hs.length + ([⟨n, ⟨none, 0, 0⟩, ⟨none, 0, 0⟩, false, ⟨none, 0, 0⟩, ⟨none, 0, 0⟩⟩] : List Hf).length ≤ 1000000000 := by have := HZ.out.h; rw [hlen]; simp; omega
  have HLW : Hid (∀ g, (Value.slice s.hv.ao hs.length s.hv.c).ownBlock = some g → lab g = 4) := hide hrow.2
  have HM1 := hide hm1
  have HLEN := hide hlen
  have HSS := hide hss
  have HCB := hide (Chg.below (fun i => i ≠ 0 ∧ i ≠ 6) HM.out.ok HB1.out)
  clear hm1 hrow hlen hss hhn hA2
  go_wp2_with fail
  go_region_law (refine step_append_rdAt (E := hfE) (cs := hs) (by exact HOWN.out) (by exact HNEW.out) Try.underlying43 infoHeal rfl (by rfl) (by rfl) (by rfl) (by rfl) h63 (by decide) (Nat.zero_le _) ?_; intro v5 w5 ho5 hg5 hat5; rw [List.length_singleton] at ho5; obtain ⟨ao5, cap5, hv5⟩ := owns_shapeK ho5; subst hv5; obtain ⟨hc5, hB5, hR5, hl5, hb5⟩ := grow_store (k := 3) HM1.out.ok HA2.out HLW.out HM1.out.blk HM1.out.lb (by decide) hg5 hat5 ho5; have k0 := hb5.cell 3; have k1 := hb5.frozen 3; have k2 := hb5.lt; simp only [Vs.a, List.getElem?_toArray, List.getElem?_cons_zero, List.getElem?_cons_succ] at k0)
  all_goals
    have HV5 := hide (show Vm (w5.setCell ⟨B, 3, none⟩ (.slice ao5 (hs.length + 1) cap5)) (labTo lab (Value.slice ao5 (hs.length + 1) cap5).ownBlock 4) B { s with hv := ⟨ao5, hs.length + 1, cap5⟩ } { t with heals := t.heals ++ [newHl n] } from
      ⟨by simpa [Vs.a, Sl.v] using hB5, hl5, HM1.out.cop.keep hc5 (by omega) (by omega), HM1.out.wro.keep hc5 (by omega), HM1.out.tok.keep hc5 (by omega) (fun j => by omega), HlM.snoc HLEN.out HSS.out hR5 hc5 (by omega) (fun i => ⟨by omega, by omega, by omega⟩), HM1.out.lef.keep hc5 (by omega), hc5.ok⟩)
    have HTO := hide (VmTo.after HCB.out ⟨_, _, HV5.out, hc5.mono (fun i (h : i = 4 ∨ i = 5) => show i ≠ 0 ∧ i ≠ 6 by omega)⟩)
    clear k0 k1 k2 hb5 hR5 hB5 hc5 hl5 ho5 hg5 hat5
    go_wp2_with fail
    go_ret
    exact ⟨by rw [HC0.out]; rfl, by rw [HE.out]; exact HTO.out⟩

set_option maxRecDepth 100000 in
set_option maxHeartbeats 8000000 in
theorem dox_any (B : Nat) (s : Vs) (t : Vt) (k who n : Int) (lab : Nat → Nat) (w : World) (hm : Vm w lab B s t) (hk : codeV t k who n ≠ 0) :
    Calls Try.prog 38 #[.pointer (some ⟨B, 0, none⟩), .agg #[.int .i64 k, .int .i64 who, .int .i64 n]] w fun e w' => e = .returned (.int .i64 (codeV t k who n)) ∧ VmTo w lab B (stepV t k who n) w' := by
  have HE : Hid (stepV t k who n = t) := hide (if_neg hk)
  have hA := below_allocG w (.cells #[.int .i64 k, .int .i64 who, .int .i64 n] 49)
  have HM := hide hm
  have HCO := hide (codeOfV_any B s t k who n lab _ (hm.below hA))
  have HBA := hide hA
  have hq : (codeV t k who n == 0) = false := beq_eq_false_iff_ne.2 hk
  have hq2 : (codeV t k who n != 0) = true := by simp [hk]
  generalize codeV t k who n = CV at *
  clear hm hA hk
  go_enter Try.func38, Try.ntmps38
  go_wp2_with fail
  refine HCO.out.mono ?_
  rintro e w1 ⟨rfl, hb1⟩
  have HB1 := hide (HBA.out.trans (hb1.mono HBA.out.size))
  clear hb1 HCO
  go_wp2_with fail
  go_ret
  exact ⟨rfl, by rw [HE.out]; exact VmTo.below HM.out HB1.out⟩

theorem do_any (B : Nat) (s : Vs) (t : Vt) (k who n : Int) (lab : Nat → Nat) (w : World) (hm : Vm w lab B s t) (N : Nat) (hz : Sz t N) (hN : N ≤ 900000) :
    Calls Try.prog 38 #[.pointer (some ⟨B, 0, none⟩), .agg #[.int .i64 k, .int .i64 who, .int .i64 n]] w fun e w' => e = .returned (.int .i64 (codeV t k who n)) ∧ VmTo w lab B (stepV t k who n) w' := by
  by_cases h0 : k = 0
  · subst h0; exact do0_any B s t who n lab w hm N hz hN
  by_cases h1 : k = 1
  · subst h1; exact do1_any B s t who n lab w hm N hz hN
  by_cases h2 : k = 2
  · subst h2; exact do2_any B s t who n lab w hm N hz hN
  by_cases h3 : k = 3
  · subst h3; exact do3_any B s t who n lab w hm N hz hN
  by_cases h4 : k = 4
  · subst h4; exact do4_any B s t who n lab w hm N hz hN
  by_cases h5 : k = 5
  · subst h5; exact do5_any B s t who n lab w hm N hz hN
  refine dox_any B s t k who n lab w hm ?_
  unfold codeV
  rw [if_neg h0, if_neg h1, if_neg h2, if_neg (fun q => q.elim h3 h5), if_neg h4]
  decide

theorem putL_len (l : List Int) (x : Int) : (putL l x).length ≤ l.length + 1 := by
  unfold putL
  split
  · omega
  · simp

theorem Sz.mono {t : Vt} {N M : Nat} (h : Sz t N) (hNM : N ≤ M) : Sz t M :=
  ⟨h.tw, by have := h.w; omega, by have := h.h; omega, fun i x hx => by have := h.l i x hx; omega, fun i x hx => by obtain ⟨a, b, c⟩ := h.a i x hx; exact ⟨by omega, by omega, by omega⟩⟩

theorem get_set_le {α : Type} {l : List α} {k i : Nat} {x y : α} (h : (l.set k y)[i]? = some x) : x = y ∨ l[i]? = some x := by
  rw [List.getElem?_set] at h
  by_cases hk : k = i
  · rw [if_pos hk] at h
    split at h
    · cases h; exact .inl rfl
    · cases h
  · rw [if_neg hk] at h
    exact .inr h

theorem getD_some {α : Type} {l : List α} {k : Nat} {d : α} : l[k]? = some (l.getD k d) ∨ l.getD k d = d := by
  rw [List.getD_eq_getElem?_getD]
  cases h : l[k]? with
  | none => exact .inr rfl
  | some x => exact .inl rfl

theorem Sz.setCopy {t : Vt} {N k : Nat} {c : Cp} (h : Sz t N) : Sz (t.setCopy k c) N := ⟨h.tw, h.w, h.h, h.l, h.a⟩

theorem Sz.heal {t : Vt} {N k : Nat} {a : Hl} (h : Sz t N) (ha : a.heard.length ≤ N + 1 ∧ a.said.length ≤ N + 1 ∧ a.ends.length ≤ N + 1) : Sz { t with heals := t.heals.set k a } (N + 1) :=
  ⟨h.tw, Nat.le_succ_of_le h.w, by show (t.heals.set k a).length ≤ N + 1; rw [List.length_set]; exact Nat.le_succ_of_le h.h, fun i x hx => Nat.le_succ_of_le (h.l i x hx), fun i x hx => by
    rcases get_set_le hx with rfl | hx
    · exact ha
    · obtain ⟨a, b, c⟩ := h.a i x hx
      exact ⟨by omega, by omega, by omega⟩⟩

theorem Sz.step {t : Vt} {N : Nat} {k who n : Int} (h : Sz t N) : Sz (stepV t k who n) (N + 1) := by
  have hup := h.mono (Nat.le_succ N)
  have hA : ∀ m, (t.heals.getD m (newHl 0)).heard.length ≤ N ∧ (t.heals.getD m (newHl 0)).said.length ≤ N ∧ (t.heals.getD m (newHl 0)).ends.length ≤ N := fun m => by
    rcases getD_some (l := t.heals) (k := m) (d := newHl 0) with q | q
    · exact h.a m _ q
    · rw [q]; simp [newHl]
  unfold stepV
  split
  case isFalse => exact hup
  unfold doV
  split
  · refine ⟨by simp [Vt.written, h.tw], by have := h.w; simp [Vt.written]; omega, by have := h.h; simp [Vt.written]; omega, fun i x hx => ?_, hup.a⟩
    simp only [Vt.written] at hx
    by_cases hi : i < t.took.length
    · rw [List.getElem?_append_left hi] at hx
      exact hup.l i x hx
    · rw [List.getElem?_append_right (by omega)] at hx
      have := List.mem_of_getElem? hx
      simp at this
      subst this
      simp
  split
  · unfold Vt.brought
    split
    · refine ⟨by simp [Vt.setCopy, h.tw], hup.w, hup.h, fun i x hx => ?_, hup.a⟩
      rcases get_set_le hx with rfl | hx
      · have := putL_len (t.took.getD n.toNat []) who.toNat
        rcases getD_some (l := t.took) (k := n.toNat) (d := []) with q | q
        · have := h.l _ _ q
          omega
        · rw [q] at this ⊢
          have e0 : ([] : List Int).length = 0 := rfl
          omega
      · exact hup.l i x hx
    · exact hup
  split
  · refine ⟨h.tw, hup.w, by have := h.h; simp; omega, hup.l, fun i x hx => ?_⟩
    simp only at hx
    by_cases hi : i < t.heals.length
    · rw [List.getElem?_append_left hi] at hx
      exact hup.a i x hx
    · rw [List.getElem?_append_right (by omega)] at hx
      have := List.mem_of_getElem? hx
      simp at this
      subst this
      simp [newHl]
  split
  · unfold Vt.hearing
    have := hA n.toNat
    split
    · exact hup
    split
    · exact hup.setCopy
    split
    · exact hup.setCopy
    · exact Sz.heal (t := t.setCopy _ _) h.setCopy ⟨by rw [List.length_append, List.length_singleton]; omega, by rw [List.length_append, List.length_singleton]; omega, Nat.le_succ_of_le this.2.2⟩
  split
  · unfold Vt.chose
    have := hA n.toNat
    split
    · exact hup
    split
    · exact Sz.heal h ⟨by simp only; omega, by simp only; omega, by simp only; omega⟩
    · exact hup
  · unfold Vt.ended
    have := hA n.toNat
    split
    · exact hup
    split
    · have hp := putL_len (t.heals.getD n.toNat (newHl 0)).ends who.toNat
      exact Sz.heal (t := t.setCopy _ _) h.setCopy ⟨by simp only; omega, by simp only; omega, by simp only; omega⟩
    · exact hup

end Go.Proofs.Ytopnjklloleomaa

/-
  The walk over seal.Play.
-/
namespace Go.Proofs.Ytopnjklloleomaa
open Go.RowKit
set_option linter.unusedVariables false

/-- What deeds lead to: the fault of the first one that may not be, or none, and the vault. -/
def playGo : Vt → Nat → List Dd → (Int × Int) × Vt
  | t, _, [] => ((0, 0), t)
  | t, i, d :: ds => if codeV t d.kind d.who d.n ≠ 0 then ((codeV t d.kind d.who d.n, (i : Int)), t) else playGo (stepV t d.kind d.who d.n) (i + 1) ds

def t0V (k : Nat) (l : List ByteArray) : Vt := ⟨List.replicate k noCp, [], [], [], l⟩

def playVF (n : Int) (l : List ByteArray) (ds : List Dd) : Int × Int := if (plyF n l ds.length).1 ≠ 0 then plyF n l ds.length else (playGo (t0V n.toNat l) 0 ds).1
def playVT (n : Int) (l : List ByteArray) (ds : List Dd) : Vt := (playGo (t0V n.toNat l) 0 ds).2

theorem plyF_z (n : Int) (l : List ByteArray) (nd : Int) : Fz (plyF n l nd) := by
  unfold plyF
  repeat' split
  all_goals first | (intro h; simp at h; done) | (intro; rfl)

theorem plyF_ok {n : Int} {l : List ByteArray} {nd : Int} (h : (plyF n l nd).1 = 0) : 1 ≤ n ∧ n ≤ 7 ∧ nd ≤ 2000 ∧ l.length ≤ 100 := by
  unfold plyF at h
  by_cases h1 : 1 ≤ n ∧ n ≤ 7
  · rw [if_neg (fun q => q h1)] at h
    by_cases h2 : 2000 < nd
    · rw [if_pos h2] at h; simp at h
    rw [if_neg h2] at h
    by_cases h3 : 100 < l.length
    · rw [if_pos h3] at h; simp at h
    exact ⟨h1.1, h1.2, by omega, by omega⟩
  · rw [if_pos h1] at h; simp at h

def zq : Qf := ⟨0, false, none, 0, 0, 0⟩

theorem madeQ (k : Nat) (h : k ≤ 7) : (madeCells (Value.agg #[.int .i64 0, .bool false, .slice none 0 0, .int .i64 0]).cells (k * 4)).toList = qfE.vs (List.replicate k zq) := by
  rcases (show k = 0 ∨ k = 1 ∨ k = 2 ∨ k = 3 ∨ k = 4 ∨ k = 5 ∨ k = 6 ∨ k = 7 by omega) with rfl | rfl | rfl | rfl | rfl | rfl | rfl | rfl
  all_goals kernel_rfl

theorem Sz.zero (k : Nat) (l : List ByteArray) : Sz (t0V k l) 0 :=
  ⟨rfl, Nat.le_refl _, Nat.le_refl _, fun i x hx => by simp [t0V] at hx, fun i x hx => by simp [t0V] at hx⟩

/-- A vault that begins. -/
theorem Vm.begin {w : World} {lab : Nat → Nat} {B g k : Nat} {lv : Sl} {l : List ByteArray} (hB : Blk w B 68 #[.slice (some ⟨g, 0, none⟩) k k, .slice none 0 0, .slice none 0 0, .slice none 0 0, lv.v]) (hl : lab B = 5)
    (hrow : w.ownsRow 0 24 4 (.slice (some ⟨g, 0, none⟩) k k) k (qfE.vs (List.replicate k zq))) (hg : lab g = 2) (hlv : Rd0 0 txE w lab lv.v l) (hok : LbOk 0 w lab) :
    Vm w lab B ⟨⟨some ⟨g, 0, none⟩, k, k⟩, ⟨none, 0, 0⟩, ⟨none, 0, 0⟩, ⟨none, 0, 0⟩, lv⟩ (t0V k l) := by
  refine ⟨hB, hl, ⟨List.replicate k zq, ⟨by rw [List.length_replicate]; exact hrow, fun b hb => by simp only [Sl.v, Value.ownBlock, Option.some.injEq] at hb; subst hb; exact hg⟩, by simp [t0V], fun j f c hf hc => ?_⟩, nil_row _ _ _ _ _, ⟨[], nil_row _ _ _ _ _, rfl, fun j s l hs => by simp at hs⟩, ⟨[], nil_row _ _ _ _ _, rfl, fun j s l hs => by simp at hs⟩, hlv, hok⟩
  have h1 := List.mem_of_getElem? hf
  have h2 := List.mem_of_getElem? hc
  rw [List.mem_replicate] at h1
  simp only [t0V, List.mem_replicate] at h2
  rw [h1.2, h2.2]
  exact ⟨rfl, rfl, rfl, RdG.nil _, fun a n c hv => by cases hv⟩

theorem Try.sizeVault : (Try.prog.info? 45).map (·.size) = some 4 := by kernel_rfl

theorem six_blk {w : World} {R Q : Nat} {t1 t2 : TypeId} {a0 a1 a2 a3 b0 b1 r0 r1 r2 r3 q0 q1 : Value} (hne : R ≠ Q) (hR : Blk w R t1 #[a0, a1, a2, a3]) (hQ : Blk w Q t2 #[b0, b1]) :
    Blk ((((((w.setCell ⟨R, 0, none⟩ r0).setCell ⟨R, 1, none⟩ r1).setCell ⟨R, 2, none⟩ r2).setCell ⟨R, 3, none⟩ r3).setCell ⟨Q, 0, none⟩ q0).setCell ⟨Q, 1, none⟩ q1) R t1 #[r0, r1, r2, r3] ∧
    Blk ((((((w.setCell ⟨R, 0, none⟩ r0).setCell ⟨R, 1, none⟩ r1).setCell ⟨R, 2, none⟩ r2).setCell ⟨R, 3, none⟩ r3).setCell ⟨Q, 0, none⟩ q0).setCell ⟨Q, 1, none⟩ q1) Q t2 #[q0, q1] := by
  refine ⟨?_, ?_⟩
  · have := ((((((hR.set 0 r0).set 1 r1).set 2 r2).set 3 r3).other (p := ⟨Q, 0, none⟩) hne q0).other (p := ⟨Q, 1, none⟩) hne q1)
    simpa using this
  · have := ((((((hQ.other (p := ⟨R, 0, none⟩) hne.symm r0).other (p := ⟨R, 1, none⟩) hne.symm r1).other (p := ⟨R, 2, none⟩) hne.symm r2).other (p := ⟨R, 3, none⟩) hne.symm r3).set 0 q0).set 1 q1)
    simpa using this

/-- What Play answers: the vault, as it lies then. -/
def PlayTo (w : World) (n : Int) (l : List ByteArray) (ds : List Dd) (vt : Value) (w' : World) : Prop :=
  Below w.heap.size w w' ∧ ((playVF n l ds).1 = 0 → ∃ lab B s, Vm w' lab B s (playVT n l ds) ∧ vt = .agg #[s.cv.v, s.wv.v, s.tv.v, s.hv.v])

/-- The labels at the beginning. -/
def labP (R B g : Nat) : Nat → Nat := fun k => if k = R ∨ k = R + 1 then 6 else if k = B then 5 else if k = g then 2 else 0

theorem Rd0.old {α : Type} {K : Nat} {E : En α K} {w w' : World} {lab : Nat → Nat} {v : Value} {xs : List α} (h : RdG E w v xs) (hb : Below w.heap.size w w') (hl : ∀ k, k < w.heap.size → lab k = 0) : Rd0 0 E w' lab v xs := by
  refine ⟨h.below hb, fun a n c hv hne => ?_⟩
  obtain ⟨ao, cap, rfl, h1, h2, h3, h4⟩ := h
  simp only [Value.slice.injEq] at hv
  have hp : 0 < (E.vs xs).length := by
    rw [vs_length]
    exact Nat.mul_pos (List.length_pos_iff.2 hne) E.pos
  have h0 := h4 a hv.1 0 (E.vs xs)[0] (by simp)
  have e : (a.add 0).block = a.block := by unfold Addr.add; split <;> rfl
  exact hl _ (by rw [← e]; exact World.block_lt_of_cell? w _ h0)

set_option maxRecDepth 100000 in
set_option maxHeartbeats 8000000 in
theorem SPlay_any (n : Int) (v u : Value) (l : List ByteArray) (ds : List Dd) (w : World) (hv : RdG txE w v l) (hu : RdG ddE w u ds) :
    Calls Try.prog 20 #[.int .i64 n, v, u] w fun e w' => ∃ vt, e = .returned (.tuple #[vt, flt (playVF n l ds)]) ∧ PlayTo w n l ds vt w' := by
  have HPF : Hid (playVF n l ds = if (plyF n l ds.length).1 ≠ 0 then plyF n l ds.length else (playGo (t0V n.toNat l) 0 ds).1) := hide rfl
  have HPT : Hid (playVT n l ds = (playGo (t0V n.toNat l) 0 ds).2) := hide rfl
  have hA := below_alloc2 w (.cells #[.slice none 0 0, .slice none 0 0, .slice none 0 0, .slice none 0 0] 45) (.cells #[.int .i64 0, .int .i64 0] 29)
  have HR0 := hide (Blk.at0of2 w (.cells #[.int .i64 0, .int .i64 0] 29) 45 #[.slice none 0 0, .slice none 0 0, .slice none 0 0, .slice none 0 0])
  have HQ0 := hide (Blk.at1 w (.cells #[.slice none 0 0, .slice none 0 0, .slice none 0 0, .slice none 0 0] 45) 29 #[.int .i64 0, .int .i64 0])
  have HI := hide (playFaultS_any n (ds.length : Int) v l _ (hv.below hA))
  have HV := hide hv
  have HU := hide hu
  have HBA := hide hA
  obtain ⟨ao, cap, rfl, hac, hc2⟩ := hv.shape
  obtain ⟨uo, ucap, rfl, huc, hd2⟩ := hu.shape
  unfold maxLen at hc2 hd2
  have HZ := hide (plyF_z n l ds.length)
  have HOK := hide (fun h => plyF_ok (n := n) (l := l) (nd := ds.length) h)
  generalize hK : plyF n l ds.length = K at *
  obtain ⟨fx, fy⟩ := K
  clear hv hu hA hK
  unfold flt at HI
  go_enter Try.func20, Try.ntmps20
  go_wp2_with fail
  refine HI.out.mono ?_
  rintro e w1 ⟨rfl, hb1⟩
  have HR1 := hide (HR0.out.later hb1)
  have HQ1 := hide (HQ0.out.later hb1)
  have HB1 := hide (HBA.out.trans (hb1.mono HBA.out.size))
  have hr1 := HR1.out.lt
  have hq1 := HQ1.out.lt
  clear hb1 HI HR0 HQ0
  by_cases hx : fx ≠ 0
  · have HE := hide (HPF.out.trans (if_pos hx))
    have hq : (fx == 0) = false := beq_eq_false_iff_ne.2 hx
    have hq2 : (fx != 0) = true := by simp [hx]
    have HX := hide hx
    clear hx
    have r0 := HR1.out.cell 0
    have r1 := HR1.out.cell 1
    have r2 := HR1.out.cell 2
    have r3 := HR1.out.cell 3
    have z0 := HR1.out.frozen 0
    have z1 := HR1.out.frozen 1
    have z2 := HR1.out.frozen 2
    have z3 := HR1.out.frozen 3
    have s0 := HQ1.out.cell 0
    have s1 := HQ1.out.cell 1
    have y0 := HQ1.out.frozen 0
    have y1 := HQ1.out.frozen 1
    simp at r0 r1 r2 r3 s0 s1
    go_wp2_with fail
    go_region
    obtain ⟨hR9, hQ9⟩ := six_blk (r0 := .slice none 0 0) (r1 := .slice none 0 0) (r2 := .slice none 0 0) (r3 := .slice none 0 0) (q0 := .int .i64 fx) (q1 := .int .i64 fy) (show w.heap.size ≠ w.heap.size + 1 by omega) HR1.out HQ1.out
    have hR10 := hR9.later (below_allocG _ (.cells #[.int .i64 fx, .int .i64 fy] 29))
    have hQ10 := hQ9.later (below_allocG _ (.cells #[.int .i64 fx, .int .i64 fy] 29))
    have hb1 := HB1.out
    have hbs := HB1.out.size
    have hb10 : Below w.heap.size w (((((((w1.setCell ⟨w.heap.size, 0, none⟩ (.slice none 0 0)).setCell ⟨w.heap.size, 1, none⟩ (.slice none 0 0)).setCell ⟨w.heap.size, 2, none⟩ (.slice none 0 0)).setCell ⟨w.heap.size, 3, none⟩ (.slice none 0 0)).setCell ⟨w.heap.size + 1, 0, none⟩ (.int .i64 fx)).setCell ⟨w.heap.size + 1, 1, none⟩ (.int .i64 fy)).alloc (.cells #[.int .i64 fx, .int .i64 fy] 29)) := by go_grown
    generalize ((((((w1.setCell ⟨w.heap.size, 0, none⟩ (.slice none 0 0)).setCell ⟨w.heap.size, 1, none⟩ (.slice none 0 0)).setCell ⟨w.heap.size, 2, none⟩ (.slice none 0 0)).setCell ⟨w.heap.size, 3, none⟩ (.slice none 0 0)).setCell ⟨w.heap.size + 1, 0, none⟩ (.int .i64 fx)).setCell ⟨w.heap.size + 1, 1, none⟩ (.int .i64 fy)).alloc (.cells #[.int .i64 fx, .int .i64 fy] 29) = wz at hR10 hQ10 hb10 ⊢
    have HR10 := hide hR10
    have HQ10 := hide hQ10
    have HB10 := hide hb10
    clear hR9 hQ9 hR10 hQ10 hb10 hb1 hbs r0 r1 r2 r3 z0 z1 z2 z3 s0 s1 y0 y1
    go_wp2_with fail
    refine bodyPost_ret (v := .tuple #[.agg #[.slice none 0 0, .slice none 0 0, .slice none 0 0, .slice none 0 0], .agg #[.int .i64 fx, .int .i64 fy]]) (results2_cells Try.results20 rfl rfl (run_loadVar_blk (xs := #[.slice none 0 0, .slice none 0 0, .slice none 0 0, .slice none 0 0]) HR10.out Try.underlying45 rfl Try.sizeVault) (run_loadVar_blk (xs := #[.int .i64 fx, .int .i64 fy]) HQ10.out Try.underlying29 rfl Try.sizeFaultS)) rfl ?_
    exact ⟨_, by rw [HE.out]; rfl, below_drewN HB10.out 1, fun h => absurd (by rw [HE.out] at h; exact h) HX.out⟩
  have HPF2 := hide (HPF.out.trans (if_neg hx))
  obtain rfl : fx = 0 := Decidable.not_not.1 hx
  obtain rfl : fy = 0 := by have := HZ.out rfl; simpa using this
  obtain ⟨n1, n7, nd, nl⟩ := HOK.out rfl
  obtain ⟨NN, rfl⟩ : ∃ NN : Nat, n = NN := ⟨n.toNat, by omega⟩
  rw [Int.toNat_natCast] at HPF2 HPT
  have hNN : NN ≤ 7 := by omega
  obtain ⟨ci, hci, hcz, hcs, hcb⟩ := info_parts infoCopy
  have hby : ci.bytes * NN ≤ 281474976710656 := by rw [hcb]; omega
  have HB := hide (Blk.at1 w1 (.cells #[.int .i64 0, .int .i64 0] 29) 68 #[.slice none 0 0, .slice none 0 0, .slice none 0 0, .slice none 0 0, .slice ao l.length cap])
  have HB2 := hide (below_alloc2 w1 (.cells #[.int .i64 0, .int .i64 0] 29) (.cells #[.slice none 0 0, .slice none 0 0, .slice none 0 0, .slice none 0 0, .slice ao l.length cap] 68))
  have hmx : NN ≤ maxLen := by unfold maxLen; omega
  have HMX := hide hmx
  have HBY := hide hby
  have HCI := hide hci
  have HCZ := hide hcz
  have HCS := hide hcs
  clear hx HPF HOK HZ hmx hby hci hcz hcs hcb
  go_upto_region 6 with (refine wpList_make_full _ rfl _ _ _ rfl 0 24 ci _ 4 Try.underlying38 HCI.out HCZ.out HCS.out .i64 .i64 NN NN NN rfl rfl rfl rfl HBY.out HMX.out (Nat.zero_le _) ?_; intro w2 ho2 hg2; have HO2 := hide ho2; have HG2 := hide hg2; have hV2 := HB.out.grown hg2 (by simp); have HV2 := hide hV2; have k0 := hV2.cell 0; have kz := hV2.frozen 0; have kl := hV2.lt; simp only [List.getElem?_toArray, List.getElem?_cons_zero] at k0; clear ho2 hg2 hV2)
  have hsz2 : ((w1.alloc (.cells #[.int .i64 0, .int .i64 0] 29)).alloc (.cells #[.slice none 0 0, .slice none 0 0, .slice none 0 0, .slice none 0 0, .slice ao l.length cap] 68)).heap.size = w1.heap.size + 1 + 1 := by simp
  have ho3 := HO2.out
  rw [hsz2, madeQ NN hNN] at ho3
  have hgl := ownBlock_lt ho3 (w1.heap.size + 1 + 1) (by simp [Value.ownBlock])
  have ho4 := owns_setOther ho3 (p := ⟨w1.heap.size + 1, 0, none⟩) (by simp [Value.ownBlock]) (.slice (some ⟨w1.heap.size + 1 + 1, 0, none⟩) NN NN)
  have hV4 := HV2.out.set 0 (.slice (some ⟨w1.heap.size + 1 + 1, 0, none⟩) NN NN)
  have hbw2 : Below w1.heap.size w1 w2 := below_grownO HB2.out HG2.out (fun k hk => by cases hk) HB2.out.size
  have hbw4 : Below w1.heap.size w1 (w2.setCell ⟨w1.heap.size + 1, 0, none⟩ (.slice (some ⟨w1.heap.size + 1 + 1, 0, none⟩) NN NN)) := below_grownO hbw2 (grown_setCell w2 _ 0 _) (fun k hk => by cases hk; omega) hbw2.size
  have hsz4 : (w2.setCell ⟨w1.heap.size + 1, 0, none⟩ (.slice (some ⟨w1.heap.size + 1 + 1, 0, none⟩) NN NN)).heap.size = w2.heap.size := by simp
  generalize w2.setCell ⟨w1.heap.size + 1, 0, none⟩ (.slice (some ⟨w1.heap.size + 1 + 1, 0, none⟩) NN NN) = W0 at ho4 hV4 hbw4 hsz4 ⊢
  have hbW := HB1.out.trans (hbw4.mono HB1.out.size)
  have hlold : ∀ k, k < w.heap.size → labP w.heap.size (w1.heap.size + 1) (w1.heap.size + 1 + 1) k = 0 := fun k hk => by
    unfold labP
    rw [if_neg (by omega), if_neg (by omega), if_neg (by omega)]
  have hvm0 : Vm W0 (labP w.heap.size (w1.heap.size + 1) (w1.heap.size + 1 + 1)) (w1.heap.size + 1) ⟨⟨some ⟨w1.heap.size + 1 + 1, 0, none⟩, NN, NN⟩, ⟨none, 0, 0⟩, ⟨none, 0, 0⟩, ⟨none, 0, 0⟩, ⟨ao, l.length, cap⟩⟩ (t0V NN l) := by
    refine Vm.begin (lv := ⟨ao, l.length, cap⟩) (by simpa [Sl.v] using hV4) ?_ ho4 ?_ (Rd0.old HV.out hbW hlold) (fun k hk => ?_)
    · unfold labP
      rw [if_neg (by omega), if_pos rfl]
    · unfold labP
      rw [if_neg (by omega), if_neg (by omega), if_pos rfl]
    · unfold labP
      rw [if_neg (by omega), if_neg (by omega), if_neg (by omega)]
  have HR4 := hide (HR1.out.later hbw4)
  have HQ4 := hide (HQ1.out.later hbw4)
  have HLR : Hid (labP w.heap.size (w1.heap.size + 1) (w1.heap.size + 1 + 1) w.heap.size = 6 ∧ labP w.heap.size (w1.heap.size + 1) (w1.heap.size + 1 + 1) (w.heap.size + 1) = 6) := hide ⟨by unfold labP; rw [if_pos (.inl rfl)], by unfold labP; rw [if_pos (.inr rfl)]⟩
  have HVM0 := hide hvm0
  have HLO := hide hlold
  have HBW := hide hbW
  have HOLD : Hid (∀ (W : World) lab', Chg 0 W0 W (labP w.heap.size (w1.heap.size + 1) (w1.heap.size + 1 + 1)) lab' (fun i => i ≠ 0 ∧ i ≠ 6) → Below w.heap.size w W) := hide fun W lab' hc => HBW.out.trans (Below.ofChg hc (fun k hk => by rw [HLO.out k hk]; omega) HBW.out.size)
  generalize labP w.heap.size (w1.heap.size + 1) (w1.heap.size + 1 + 1) = lab0 at *
  have hwB : w.heap.size + 1 < w1.heap.size + 1 := by omega
  generalize w1.heap.size + 1 = B at *
  clear ho3 ho4 hV4 hbw2 hbw4 hvm0 hlold hbW hsz2 hsz4 hgl k0 kz kl HO2 HG2 HV2 HB HB2 HR1 HQ1
  go_wp2_with fail
  go_loopw [31] (fun iv wr => ∃ (j : Nat) (lab' : Nat → Nat) (s' : Vs) (t' : Vt), j ≤ ds.length ∧ iv = .int .i64 j ∧ Vm wr lab' B s' t' ∧ Sz t' j ∧ playGo t' j (ds.drop j) = playGo (t0V NN l) 0 ds ∧ Chg 0 W0 wr lab0 lab' (fun i => i ≠ 0 ∧ i ≠ 6))
    (fun iv _ => ds.length - (intOf iv).toNat)
  case atStart => exact ⟨0, _, _, _, by omega, rfl, HVM0.out, Sz.zero NN l, rfl, Chg.refl _ _ _ HVM0.out.ok⟩
  case round =>
    obtain ⟨j, lab', s', t', hj, rfl, hmr, hzr, hgo, hchr⟩ := hrel
    have HMR := hide hmr
    have HZR := hide hzr
    have HGO := hide hgo
    have HCR := hide hchr
    have HBr := hide (HOLD.out _ _ hchr)
    have HRr := hide (HR4.out.keep hchr (by rw [HLR.out.1]; omega))
    have HQr := hide (HQ4.out.keep hchr (by rw [HLR.out.2]; omega))
    have hrl := HRr.out.lt
    have hql := HQr.out.lt
    have HL6 := hide (show lab' w.heap.size = 6 ∧ lab' (w.heap.size + 1) = 6 from ⟨(hchr.labs _ HR4.out.lt).trans HLR.out.1, (hchr.labs _ HQ4.out.lt).trans HLR.out.2⟩)
    clear hmr hzr hgo hchr
    by_cases hlt : j < ds.length
    · obtain ⟨d, hd⟩ : ∃ c, ds[j]? = some c := ⟨_, List.getElem?_eq_getElem hlt⟩
      have hdd : ds.drop j = d :: ds.drop (j + 1) := by
        obtain ⟨hl, rfl⟩ := List.getElem?_eq_some_iff.1 hd
        exact List.drop_eq_getElem_cons hl
      rw [hdd, playGo] at HGO
      obtain ⟨b, off, rfl, hbb, hat⟩ := HU.out.here hd
      have q0 := cell_belowG (hat 0 _ rfl) HBr.out
      have q1 := cell_belowG (hat 1 _ rfl) HBr.out
      have q2 := cell_belowG (hat 2 _ rfl) HBr.out
      rw [Nat.add_zero] at q0
      obtain ⟨dk, dw, dn⟩ := d
      simp only at q0 q1 q2 HGO
      have hbl : b < wr.heap.size := Nat.lt_of_lt_of_le hbb HBr.out.size
      have hk1 : (0 : Int) ≤ (j : Int) := by omega
      have hk2 : (j : Int) < (ds.length : Int) := by omega
      have hba := below_allocG wr (.cells #[.int .i64 dk, .int .i64 dw, .int .i64 dn] 49)
      have HBA2 := hide hba
      have HDO := hide (do_any B s' t' dk dw dn lab' _ (HMR.out.below hba) j HZR.out (by omega))
      have HSS := hide (HZR.out.step (k := dk) (who := dw) (n := dn))
      have HCB := hide (Chg.below (fun i => i ≠ 0 ∧ i ≠ 6) HMR.out.ok hba)
      clear hat hd hdd hba
      generalize hCV : codeV t' dk dw dn = CV at *
      have HCV := hide hCV
      clear hCV
      go_wp2_with fail
      refine HDO.out.mono ?_
      rintro e w3 ⟨rfl, hto⟩
      obtain ⟨lab3, s3, hm3, hch3⟩ := hto
      have HM3 := hide hm3
      have hch := HCR.out.trans (HCB.out.trans hch3)
      have HC3 := hide hch
      have HR3 := hide (HR4.out.keep hch (by rw [HLR.out.1]; omega))
      have HQ3 := hide (HQ4.out.keep hch (by rw [HLR.out.2]; omega))
      have HB3 := hide (HOLD.out _ _ hch)
      clear hm3 hch3 hch q0 q1 q2
      by_cases hx : CV ≠ 0
      · have HS := hide (HGO.out.symm.trans (if_pos hx))
        have HE := hide (show playVF NN l ds = (CV, (j : Int)) by rw [HPF2.out, HS.out])
        have HX := hide hx
        have hq : (CV == 0) = false := beq_eq_false_iff_ne.2 hx
        have hq2 : (CV != 0) = true := by simp [hx]
        clear hx
        go_wp2_with (first
          | (refine wpList_store_blk rfl rfl rfl rfl HR3.out rfl Try.sizeVault rfl ?_; intro w8 hR8 hg8; have HR8 := hide hR8; have HG8 := hide hg8; have HQ8 := hide (HQ3.out.grown hg8 (fun z => by simp at z)); clear hR8 hg8)
          | (refine wpList_store_blk rfl rfl rfl rfl HQ8.out rfl Try.sizeFaultS rfl ?_; intro w9 hQ9 hg9; have HQ9 := hide hQ9; have HG9 := hide hg9; have HR9 := hide (HR8.out.grown hg9 (fun z => by simp at z)); clear hQ9 hg9))
        refine bodyPost_ret (v := .tuple #[.agg #[.slice none 0 0, .slice none 0 0, .slice none 0 0, .slice none 0 0], .agg #[.int .i64 CV, .int .i64 j]]) (results2_cells Try.results20 rfl rfl (run_loadVar_blk HR9.out Try.underlying45 rfl Try.sizeVault) (run_loadVar_blk HQ9.out Try.underlying29 rfl Try.sizeFaultS)) rfl ?_
        exact ⟨_, by rw [HE.out]; rfl, below_grownO (below_grownO HB3.out HG8.out (fun k hk => by cases hk; omega) HB3.out.size) HG9.out (fun k hk => by cases hk; omega) (Nat.le_trans HB3.out.size HG8.out.size), fun h => absurd (by rw [HE.out] at h; exact h) HX.out⟩
      · have HS := hide (HGO.out.symm.trans (if_neg hx))
        obtain rfl : CV = 0 := Decidable.not_not.1 hx
        clear hx
        go_wp2_with fail
        go_roundw
        case rel => exact ⟨j + 1, lab3, s3, _, by omega, by go_num, HM3.out, HSS.out, HS.out.symm, HC3.out⟩
        case measure => simp [intOf]; omega
    · have hje : j = ds.length := by omega
      subst hje
      rw [List.drop_length, playGo] at HGO
      have HE := hide (show playVF NN l ds = (0, 0) by rw [HPF2.out, ← HGO.out])
      have HT := hide (show playVT NN l ds = t' by rw [HPT.out, ← HGO.out])
      have v0 := HMR.out.blk.cell 0
      have v1 := HMR.out.blk.cell 1
      have v2 := HMR.out.blk.cell 2
      have v3 := HMR.out.blk.cell 3
      have vl := HMR.out.blk.lt
      simp only [Vs.a, List.getElem?_toArray, List.getElem?_cons_zero, List.getElem?_cons_succ] at v0 v1 v2 v3
      go_wp2_with (first
        | (refine wpList_store_blk rfl rfl rfl rfl HRr.out rfl Try.sizeVault rfl ?_; intro w8 hR8 hg8; have HR8 := hide hR8; have HG8 := hide hg8; have HQ8 := hide (HQr.out.grown hg8 (fun z => by simp at z)); clear hR8 hg8)
        | (refine wpList_store_blk rfl rfl rfl rfl HQ8.out rfl Try.sizeFaultS rfl ?_; intro w9 hQ9 hg9; have HQ9 := hide hQ9; have HG9 := hide hg9; have HR9 := hide (HR8.out.grown hg9 (fun z => by simp at z)); clear hQ9 hg9))
      have hc8 : Chg 0 wr w8 lab' lab' (fun i => i = 6) := Chg.grown HMR.out.ok HG8.out HL6.out.1
      have hc9 : Chg 0 w8 w9 lab' lab' (fun i => i = 6) := Chg.grown hc8.ok HG9.out HL6.out.2
      have hc := hc8.trans hc9
      have HVM := hide (show Vm w9 lab' B s' t' from ⟨HMR.out.blk.keep hc (by rw [HMR.out.lb]; omega), HMR.out.lb, HMR.out.cop.keep hc (by omega) (by omega), HMR.out.wro.keep hc (by omega), HMR.out.tok.keep hc (by omega) (fun i => by omega), HMR.out.hea.keep hc (by omega) (by omega) (fun i => ⟨by omega, by omega, by omega⟩), HMR.out.lef.keep hc (by omega), hc.ok⟩)
      clear hc8 hc9 hc v0 v1 v2 v3 vl
      refine bodyPost_ret (v := .tuple #[.agg #[s'.cv.v, s'.wv.v, s'.tv.v, s'.hv.v], .agg #[.int .i64 0, .int .i64 0]]) (results2_cells Try.results20 rfl rfl (run_loadVar_blk HR9.out Try.underlying45 rfl Try.sizeVault) (run_loadVar_blk HQ9.out Try.underlying29 rfl Try.sizeFaultS)) rfl ?_
      exact ⟨_, by rw [HE.out]; rfl, below_grownO (below_grownO HBr.out HG8.out (fun k hk => by cases hk; omega) HBr.out.size) HG9.out (fun k hk => by cases hk; omega) (Nat.le_trans HBr.out.size HG8.out.size), fun _ => ⟨lab', B, s', by rw [HT.out]; exact HVM.out, rfl⟩⟩

end Go.Proofs.Ytopnjklloleomaa

/-
  The walk over seal.Sure.
-/
namespace Go.Proofs.Ytopnjklloleomaa
open Go.RowKit
set_option linter.unusedVariables false

/-- The slice v reads as slices of such lengths. -/
def RdLs (w : World) (v : Value) (ns : List Nat) : Prop :=
  ∃ us : List Value, Rd w v us ∧ us.length = ns.length ∧ ∀ (i : Nat) u n, us[i]? = some u → ns[i]? = some n → ∃ ao cap, u = .slice ao n cap

theorem RdLs.shape {w : World} {v : Value} {ns : List Nat} (h : RdLs w v ns) : ∃ ao cap, v = .slice ao ns.length cap ∧ ns.length ≤ cap ∧ cap ≤ maxLen := by
  obtain ⟨us, h1, h2, _⟩ := h
  obtain ⟨ao, cap, h3, h4, h5⟩ := h1.shape
  rw [h2] at h3 h4
  exact ⟨ao, cap, h3, h4, h5⟩

theorem RdLs.here {w : World} {ao : Option Addr} {n cap : Nat} {ns : List Nat} (h : RdLs w (.slice ao n cap) ns) {i m : Nat} (hi : ns[i]? = some m) :
    ∃ b off ao' cap', ao = some ⟨b, off, none⟩ ∧ b < w.heap.size ∧ w.cell? ⟨b, off + i, none⟩ = some (.slice ao' m cap') := by
  obtain ⟨us, h1, h2, h3⟩ := h
  have hl := (List.getElem?_eq_some_iff.1 hi).1
  obtain ⟨b, off, cap', hv, _, _, hb, hc⟩ := h1.pos (by omega)
  simp only [Value.slice.injEq] at hv
  obtain ⟨rfl, _, _⟩ := hv
  have hu : us[i]? = some (us[i]'(by omega)) := List.getElem?_eq_getElem _
  obtain ⟨ao', c', e⟩ := h3 i _ m hu hi
  exact ⟨b, off, ao', c', rfl, hb, by rw [hc i _ hu, e]⟩

/-- How many, from the first one on, are most. -/
def sureN (nc : Nat) : List Nat → Nat → Nat
  | [], i => i
  | m :: r, i => if nc / 2 < m then sureN nc r (i + 1) else i

theorem drop_consM {l : List Nat} {i x : Nat} (h : l[i]? = some x) : l.drop i = x :: l.drop (i + 1) := by
  obtain ⟨hl, rfl⟩ := List.getElem?_eq_some_iff.1 h
  exact List.drop_eq_getElem_cons hl

set_option maxRecDepth 100000 in
set_option maxHeartbeats 2000000 in
theorem Sure_any (co wo : Option Addr) (nc cc nw wc : Nat) (vt vh : Value) (ns : List Nat) (w : World) (hv : RdLs w vt ns) (hnc : nc ≤ 1000000) :
    Calls Try.prog 21 #[.agg #[.slice co nc cc, .slice wo nw wc, vt, vh]] w fun e w' => e = .returned (.tuple #[.int .i64 (if nw = ns.length then (sureN nc ns 0 : Int) else 0), flt (if nw = ns.length then (0, 0) else (5, 0))]) ∧ Below w.heap.size w w' := by
  have HV := hide hv
  obtain ⟨ao, cap, rfl, hc1, hc2⟩ := hv.shape
  unfold maxLen at hc2
  have hA := below_alloc2 w (.cells #[.slice co nc cc, .slice wo nw wc, .slice ao ns.length cap, vh] 45) (.cells #[.int .i64 0, .int .i64 0] 29)
  have HA := hide hA
  have HV0 := hide (Blk.at0of2 w (.cells #[.int .i64 0, .int .i64 0] 29) 45 #[.slice co nc cc, .slice wo nw wc, .slice ao ns.length cap, vh])
  have HR0 := hide (Blk.at1 w (.cells #[.slice co nc cc, .slice wo nw wc, .slice ao ns.length cap, vh] 45) 29 #[.int .i64 0, .int .i64 0])
  have HMO := hide (fun (m : Nat) W => areMost_any m nc W ⟨by omega, by omega⟩)
  clear hv hA
  by_cases hn : nw = ns.length
  case neg =>
    have hq : ((nw : Int) != (ns.length : Int)) = true := by simp; omega
    rw [if_neg hn, if_neg hn]
    clear hn
    go_enter Try.func21, Try.ntmps21
    go_wp2_with fail
    exact bodyPost_ret (v := .tuple #[.int .i64 0, flt (5, 0)]) (by simp [results, Try.results21, go_sem, flt]) rfl ⟨rfl, by go_grown⟩
  subst hn
  rw [if_pos rfl, if_pos rfl]
  go_enter Try.func21, Try.ntmps21
  go_wp2_with fail
  go_loopw [17] (fun iv wr => ∃ j : Nat, j ≤ ns.length ∧ iv = .int .i64 j ∧ sureN nc (ns.drop j) j = sureN nc ns 0 ∧ (w.alloc (.cells #[.slice co nc cc, .slice wo ns.length wc, .slice ao ns.length cap, vh] 45)).alloc (.cells #[.int .i64 0, .int .i64 0] 29) = wr)
    (fun iv _ => ns.length - (intOf iv).toNat)
  case atStart => exact ⟨0, by omega, rfl, rfl, rfl⟩
  case round =>
    obtain ⟨j, hj, rfl, hgo, rfl⟩ := hrel
    have HGO := hide hgo
    clear hgo
    by_cases hlt : j < ns.length
    · obtain ⟨m, hm⟩ : ∃ m, ns[j]? = some m := ⟨_, List.getElem?_eq_getElem hlt⟩
      rw [drop_consM hm, sureN] at HGO
      obtain ⟨b, off, ao', cap', rfl, hb, q⟩ := HV.out.here hm
      have q1 := cell_belowG q HA.out
      have hb1 : b < w.heap.size + 1 + 1 := by omega
      have hk1 : (0 : Int) ≤ (j : Int) := by omega
      have hk2 : (j : Int) < (ns.length : Int) := by omega
      clear q hm
      by_cases hmo : nc / 2 < m
      · have HE := hide (HGO.out.symm.trans (if_pos hmo))
        have HM := hide (show decide ((nc : Int) / 2 < (m : Int)) = true from decide_eq_true (by omega))
        clear hmo
        go_wp2_with (go_at_call 39; refine (HMO.out m _).mono ?_; rw [HM.out]; rintro e w9 ⟨rfl, rfl⟩)
        go_roundw
        case rel => exact ⟨j + 1, by omega, by go_num, HE.out.symm, trivial⟩
        case measure => simp [intOf]; omega
      · have HE := hide (HGO.out.symm.trans (if_neg hmo))
        have HM := hide (show decide ((nc : Int) / 2 < (m : Int)) = false from decide_eq_false (by omega))
        clear hmo
        go_wp2_with (go_at_call 39; refine (HMO.out m _).mono ?_; rw [HM.out]; rintro e w9 ⟨rfl, rfl⟩)
        exact bodyPost_ret (v := .tuple #[.int .i64 j, flt (0, 0)]) (by simp [results, Try.results21, go_sem, flt]) rfl ⟨by rw [HE.out], by go_grown⟩
    · have hje : j = ns.length := by omega
      subst hje
      rw [List.drop_length, sureN] at HGO
      have HE := hide HGO.out.symm
      go_wp2_with fail
      exact bodyPost_ret (v := .tuple #[.int .i64 ns.length, flt (0, 0)]) (by simp [results, Try.results21, go_sem, flt]) rfl ⟨by rw [HE.out], by go_grown⟩

end Go.Proofs.Ytopnjklloleomaa

/-
  The walk over the example of sealed files.
-/
namespace Go.Proofs.Ytopnjklloleomaa
open Go.RowKit
set_option linter.unusedVariables false

def exRc : List ByteArray := [⟨#[97]⟩]
def exDd : List Dd := [⟨0, 0, 0⟩, ⟨1, 0, 0⟩, ⟨1, 1, 0⟩, ⟨2, 0, 5⟩, ⟨3, 2, 0⟩, ⟨3, 1, 0⟩, ⟨4, 0, 0⟩]

theorem exF : playVF 3 exRc exDd = (0, 0) := by kernel_rfl
theorem exC : (playVT 3 exRc exDd).copies.length = 3 := by kernel_rfl
theorem exW : (playVT 3 exRc exDd).wrote.length = 1 := by kernel_rfl
theorem exT : (playVT 3 exRc exDd).took.map List.length = [2] := by kernel_rfl
theorem exH : (playVT 3 exRc exDd).heals.length = 1 := by kernel_rfl
theorem exA : (playVT 3 exRc exDd).heals[0]?.map (fun a => (a.has, a.recs)) = some (true, exRc) := by kernel_rfl

theorem TkM.lens {w : World} {lab : Nat → Nat} {v : Value} {ls : List (List Int)} (h : TkM w lab v ls) : RdLs w v (ls.map List.length) := by
  obtain ⟨ss, h1, h2, h3⟩ := h
  obtain ⟨ao, cap, hv, k1, k2, k3, k4⟩ := RdG.ofOwns h1.1
  have hl : (ssE.vs ss).length = ss.length := by rw [vs_length, Nat.mul_one]
  refine ⟨ssE.vs ss, ⟨ao, cap, by rw [hl]; exact hv, by rw [hl]; exact k1, k2, k3, k4⟩, by rw [hl, List.length_map, h2], fun i u n hu hn => ?_⟩
  have hi : i < ss.length := by rw [← hl]; exact (List.getElem?_eq_some_iff.1 hu).1
  have hg := vs_get (E := ssE) ss i hi 0 (by decide)
  rw [Nat.mul_one, Nat.add_zero, hu] at hg
  have hg2 : u = (ss[i]).v := by simpa [ssE] using hg
  rw [List.getElem?_map] at hn
  obtain ⟨l, hl2⟩ : ∃ l, ls[i]? = some l := ⟨_, List.getElem?_eq_getElem (by omega)⟩
  rw [hl2] at hn
  simp at hn
  have hr := h3 i _ l (List.getElem?_eq_getElem hi) hl2
  have := Row.len hr
  subst hn
  exact ⟨_, _, by rw [hg2]; unfold Sl.v; rw [this]⟩

set_option maxRecDepth 100000 in
set_option maxHeartbeats 4000000 in
theorem sealBegun_any (w : World) : Calls Try.prog 5 #[] w fun e w' => e = .returned (.bool true) ∧ Below w.heap.size w w' := by
  have hA : RdG txE (w.alloc (.cells #[.string ⟨#[97]⟩] 9)) (.slice (some ⟨w.heap.size, 0, none⟩) 1 1) exRc := RdG.newL (E := txE) w exRc _ _ rfl (by simp [exRc])
  have hB : RdG ddE ((w.alloc (.cells #[.string ⟨#[97]⟩] 9)).alloc (.cells #[.int .i64 0, .int .i64 0, .int .i64 0, .int .i64 1, .int .i64 0, .int .i64 0, .int .i64 1, .int .i64 1, .int .i64 0, .int .i64 2, .int .i64 0, .int .i64 5, .int .i64 3, .int .i64 2, .int .i64 0, .int .i64 3, .int .i64 1, .int .i64 0, .int .i64 4, .int .i64 0, .int .i64 0] 49)) (.slice (some ⟨w.heap.size + 1, 0, none⟩) 7 7) exDd := by
    have := RdG.newL (E := ddE) (w.alloc (.cells #[.string ⟨#[97]⟩] 9)) exDd 49 #[.int .i64 0, .int .i64 0, .int .i64 0, .int .i64 1, .int .i64 0, .int .i64 0, .int .i64 1, .int .i64 1, .int .i64 0, .int .i64 2, .int .i64 0, .int .i64 5, .int .i64 3, .int .i64 2, .int .i64 0, .int .i64 3, .int .i64 1, .int .i64 0, .int .i64 4, .int .i64 0, .int .i64 0] rfl (by simp [exDd])
    rw [show exDd.length = 7 from rfl] at this
    simpa using this
  have hp := SPlay_any 3 _ _ exRc exDd _ (hA.alloc (.cells #[.int .i64 0, .int .i64 0, .int .i64 0, .int .i64 1, .int .i64 0, .int .i64 0, .int .i64 1, .int .i64 1, .int .i64 0, .int .i64 2, .int .i64 0, .int .i64 5, .int .i64 3, .int .i64 2, .int .i64 0, .int .i64 3, .int .i64 1, .int .i64 0, .int .i64 4, .int .i64 0, .int .i64 0] 49)) hB
  rw [exF] at hp
  have HP := hide hp
  have HW := hide (below_alloc2 w (.cells #[.string ⟨#[97]⟩] 9) (.cells #[.int .i64 0, .int .i64 0, .int .i64 0, .int .i64 1, .int .i64 0, .int .i64 0, .int .i64 1, .int .i64 1, .int .i64 0, .int .i64 2, .int .i64 0, .int .i64 5, .int .i64 3, .int .i64 2, .int .i64 0, .int .i64 3, .int .i64 1, .int .i64 0, .int .i64 4, .int .i64 0, .int .i64 0] 49))
  clear hp hA hB
  go_enter Try.func5, Try.ntmps5
  go_wp2_with fail
  refine HP.out.mono ?_
  rintro e w1 ⟨vt, rfl, hb1, hvm⟩
  obtain ⟨lab, B, s, hm, rfl⟩ := hvm (by rw [exF])
  have HB1 := hide (HW.out.trans (hb1.mono HW.out.size))
  have hcn := CopM.len hm.cop
  have hwn := Row.len hm.wro
  have hhn := HlM.len hm.hea
  have hls := hm.tok.lens
  rw [exC] at hcn
  rw [exW] at hwn
  rw [exH] at hhn
  rw [exT] at hls
  obtain ⟨a, ha⟩ : ∃ a, (playVT 3 exRc exDd).heals[0]? = some a := ⟨_, List.getElem?_eq_getElem (by rw [exH]; decide)⟩
  have hae := exA
  rw [ha] at hae
  simp only [Option.map_some, Option.some.injEq, Prod.mk.injEq] at hae
  obtain ⟨g, hcap, hf, hgv, hgl, hlg, hat, his, _⟩ := hm.hea.here ha
  rw [exH] at hgv
  have c3 := hat 3 _ rfl
  have c4 := hat 4 _ rfl
  rw [his.2.1, hae.1] at c3
  have hrr := his.2.2.2.2.1
  rw [hae.2] at hrr
  have hrn := Rd0.len hrr
  have c4' : w1.cell? ⟨g, 4, none⟩ = some (.slice hf.re.ao 1 hf.re.c) := by
    have := c4
    rw [Nat.zero_mul, Nat.zero_add] at this
    rw [this]
    unfold Sl.v
    rw [hrn]
    rfl
  have hrg : RdG txE w1 (.slice hf.re.ao 1 hf.re.c) exRc := by
    have := hrr.1
    unfold Sl.v at this
    rw [hrn] at this
    exact this
  have hcv : s.cv.v = .slice s.cv.ao 3 s.cv.c := by unfold Sl.v; rw [hcn]
  have hwv : s.wv.v = .slice s.wv.ao 1 s.wv.c := by unfold Sl.v; rw [hwn]
  rw [hcv, hwv, hgv]
  have HLS := hide hls
  have HRG := hide hrg
  have HC3 := hide (show w1.cell? ⟨g, 3, none⟩ = some (.bool true) by rw [Nat.zero_mul, Nat.zero_add] at c3; exact c3)
  have HC4 := hide c4'
  obtain ⟨tko, tkc, htv, _, _⟩ := hls.shape
  rw [htv] at HLS
  rw [htv]
  clear hm hls hat his c3 c4 c4' hrr hrg hgv hcv hwv htv ha hae hb1 hvm hcn hwn hhn hrn
  have hA1 := below_alloc2 w1 (.cells #[.slice s.cv.ao 3 s.cv.c, .slice s.wv.ao 1 s.wv.c, .slice tko 1 tkc, .slice (some ⟨g, 0, none⟩) 1 hcap] 45) (.cells #[.int .i64 0, .int .i64 0] 29)
  have hT1 := Blk.at0of2 w1 (.cells #[.int .i64 0, .int .i64 0] 29) 45 #[.slice s.cv.ao 3 s.cv.c, .slice s.wv.ao 1 s.wv.c, .slice tko 1 tkc, .slice (some ⟨g, 0, none⟩) 1 hcap]
  have hT2 := Blk.at1 w1 (.cells #[.slice s.cv.ao 3 s.cv.c, .slice s.wv.ao 1 s.wv.c, .slice tko 1 tkc, .slice (some ⟨g, 0, none⟩) 1 hcap] 45) 29 #[.int .i64 0, .int .i64 0]
  have hls2 : RdLs ((w1.alloc (.cells #[.slice s.cv.ao 3 s.cv.c, .slice s.wv.ao 1 s.wv.c, .slice tko 1 tkc, .slice (some ⟨g, 0, none⟩) 1 hcap] 45)).alloc (.cells #[.int .i64 0, .int .i64 0] 29)) (.slice tko 1 tkc) [2] := by
    obtain ⟨us, h1, h2, h3⟩ := HLS.out
    exact ⟨us, h1.below hA1, h2, h3⟩
  have hsu := Sure_any s.cv.ao s.wv.ao 3 s.cv.c 1 s.wv.c (.slice tko 1 tkc) (.slice (some ⟨g, 0, none⟩) 1 hcap) [2] _ hls2 (by decide)
  rw [show (if 1 = [2].length then ((sureN 3 [2] 0 : Nat) : Int) else 0) = 1 by decide, show (if 1 = [2].length then ((0, 0) : Int × Int) else (5, 0)) = (0, 0) by decide] at hsu
  have HSU := hide hsu
  have HT1 := hide hT1
  have HT2 := hide hT2
  have HA1 := hide hA1
  clear hA1 hT1 hT2 hls2 hsu HLS
  unfold flt at HSU
  unfold flt
  go_wp2_with fail
  refine HSU.out.mono ?_
  rintro e w2 ⟨rfl, hb2⟩
  have hbw2 := HA1.out.trans (hb2.mono HA1.out.size)
  have HT1b := hide (HT1.out.later hb2)
  have HT2b := hide (HT2.out.later hb2)
  have p3 := HT1b.out.cell 3
  have pl := HT1b.out.lt
  have q0 := HT2b.out.cell 0
  have ql := HT2b.out.lt
  simp at p3 q0
  have u3 := cell_belowG HC3.out hbw2
  have u4 := cell_belowG HC4.out hbw2
  have ugl := Nat.lt_of_lt_of_le hgl hbw2.size
  have hW3 : Below w2.heap.size w2 ((w2.alloc (.cells #[.int .i64 0, .int .i64 0] 29)).alloc (.cells #[.string ⟨#[97]⟩] 9)) := below_alloc2 _ _ _
  have hO : RdG txE ((w2.alloc (.cells #[.int .i64 0, .int .i64 0] 29)).alloc (.cells #[.string ⟨#[97]⟩] 9)) (.slice (some ⟨w2.heap.size + 1, 0, none⟩) 1 1) exRc := by
    have := RdG.newL (E := txE) (w2.alloc (.cells #[.int .i64 0, .int .i64 0] 29)) exRc 9 #[.string ⟨#[97]⟩] rfl (by simp [exRc])
    rw [show exRc.length = 1 from rfl] at this
    simpa using this
  have HSM := hide (SameTexts_eq _ _ exRc _ ((HRG.out.below hbw2).below hW3) hO)
  have HBW := hide ((HB1.out.trans (hbw2.mono HB1.out.size)).trans (hW3.mono (HB1.out.trans (hbw2.mono HB1.out.size)).size))
  clear hO hW3 hbw2 hb2
  go_wp2_with fail
  refine HSM.out.mono ?_
  rintro e w4 ⟨rfl, hb4⟩
  have HB4 := hide (HBW.out.trans (hb4.mono HBW.out.size))
  clear hb4
  go_wp2_with fail
  go_ret
  exact ⟨rfl, HB4.out⟩

end Go.Proofs.Ytopnjklloleomaa

/-
  'return x, v, y' of whole variables that lie in blocks, as a region that draws its order: two laws, one for a v that is given and one for a slice of one structure. Nothing of a program stands here.
-/
namespace Go.Proofs.Ytopnjklloleomaa
open Go.RowKit Go.Maps

/-- A place that a row has: said so that the kernel need not reckon the row's length. -/
theorem of_drop {α : Type} {xs : Array α} {d : Nat} (h : (xs.toList.drop d).isEmpty = false) : d < xs.size := by
  by_cases q : d < xs.size
  · exact q
  · rw [List.drop_eq_nil_of_le (by simpa using q)] at h
    simp at h

def isAgg : TypeDesc → Bool
  | .struct _ => true
  | .array _ _ => true
  | _ => false

section
variable {P : Program} {ops : Array Oper} {Q : Exit → Act → World → Prop}

theorem exec_load_bk {w : World} {o : Oper} {a : Act} {x : Operand} {B : Nat} {t ty : TypeId} {xs : Array Value} {d : TypeDesc} (hB : Blk w B t xs) (hu : P.underlying ty = some d) (hd : isAgg d = true) (hi : (P.info? ty).map (·.size) = some xs.size) (ho : o.op = .load ty x) (hx : a.eval x = .pointer (some ⟨B, 0, none⟩)) :
    (execOp a.eval o).run P w = .ok (.value (.agg xs)) w := by
  unfold execOp
  simp only [ho, hx, run_loadAt_blk hB hu (by cases d <;> first | rfl | exact hd) hi, Sem.run_bind, Sem.run_pure, Result.andThen_ok]

theorem step_assign {w : World} {o : Oper} {a : Act} {K : Act → World → Prop} {EE : Prop} {x : Operand}
    (hgd : o.guard = none) (ho : o.op = .assign x) (h : K (a.put o.dst (a.eval x)) w) : if Region.wanted o (yielded ops a.tmps) = true then Oper.wp P o a w K Q else EE := by
  have hw : Region.wanted o (yielded ops a.tmps) = true := by simp [Region.wanted, hgd]
  rw [if_pos hw]
  unfold Oper.wp execOp
  simp only [ho, Sem.run_pure]
  exact h

theorem step_build1 {w : World} {o : Oper} {a : Act} {K : Act → World → Prop} {EE : Prop} {t e : TypeId} {x : Operand} {xs : Array Value} {ie : TypeInfo} {z : Value}
    (hgd : o.guard = none) (ho : o.op = .buildSlice t 1 #[(0, x)]) (hx : a.eval x = .agg xs) (hu : P.underlying t = some (.slice e)) (hie : P.info? e = some ie) (hz : ie.zero = some z) (hsmall : ¬ 1 * ie.size > 2 ^ 24) (hpos : ¬ 1 * ie.size = 0)
    (hf : Instr.fill (fun i => some (i * ie.size, ie.size)) ((Array.range (1 * ie.size)).map (z.cells[· % z.cells.size]!)) [(0, .agg xs)] = some xs)
    (h : K (a.put o.dst (.slice (some ⟨w.heap.size, 0, none⟩) 1 1)) (w.alloc (.cells xs e))) : if Region.wanted o (yielded ops a.tmps) = true then Oper.wp P o a w K Q else EE := by
  have hw : Region.wanted o (yielded ops a.tmps) = true := by simp [Region.wanted, hgd]
  rw [if_pos hw]
  exact wp_buildSlice t e 1 #[(0, x)] ho xs ie z hu hie hz hsmall hpos (by simpa [hx] using hf) h

theorem put_other {a : Act} {d t : Tmp} {v : Value} (h : t ≠ d) : (a.put (some d) v).eval (.tmp t) = a.eval (.tmp t) := by
  simp [Act.eval, Act.put, Ne.symm h]

theorem put_self {a : Act} {d : Tmp} {v : Value} (h : d < a.tmps.size) : (a.put (some d) v).eval (.tmp d) = v := by
  simp [Act.eval, Act.put, h]

theorem put_size {a : Act} {d : Option Tmp} {v : Value} : (a.put d v).tmps.size = a.tmps.size := by cases d <;> simp [Act.put]

/-- What a return leaves of a frame: but for some slots it is as it was. -/
structure KeptBut (a a9 : Act) (ds : List Tmp) : Prop where
  tmps : ∀ t, ds.all (fun d => !Nat.beq t d) = true → a9.tmps[t]?.getD undef = a.tmps[t]?.getD undef
  defers : a9.defers = a.defers

theorem eval_tmp (a : Act) (t : Tmp) : a.eval (.tmp t) = a.tmps[t]?.getD undef := by simp [Act.eval, Array.getD_eq_getD_getElem?]

theorem KeptBut.refl (a : Act) (ds : List Tmp) : KeptBut a a ds := ⟨fun _ _ => rfl, rfl⟩

theorem KeptBut.put {a a9 : Act} {ds : List Tmp} {d : Tmp} {v : Value} (h : KeptBut a a9 ds) (hd : d ∈ ds) : KeptBut a (a9.put (some d) v) ds := by
  refine ⟨fun t ht => ?_, h.defers⟩
  rw [← h.tmps t ht]
  have hne : d ≠ t := by
    intro q
    have := List.all_eq_true.1 ht d hd
    rw [q] at this
    simp at this
  simp [Act.put, hne]

/-- 'return x, v, y'. -/
theorem wp_ret5 {id : Nat} {a : Act} {w : World} {o0 o1 o2 o3 o4 : Oper} {tN tF : TypeId} {x0 x1 x2 x3 x4 y2 y4 : Operand} {B F R C : Nat} {tB tG tR tC : TypeId} {ys fs r0 c0 : Array Value} {dN dF : TypeDesc} {v3 : Value}
    (hB : Blk w B tB ys) (hF : Blk w F tG fs) (hR : Blk w R tR r0) (hC : Blk w C tC c0) (hRB : R ≠ B) (hRF : R ≠ F) (hRC : R ≠ C) (hCB : C ≠ B) (hCF : C ≠ F)
    (hm : P.follows .mixedOrders = true) (hns : Region.noSelect ops = true) (hops : ops.toList = [o0, o1, o2, o3, o4])
    (hf0 : Region.free .any ops #[false, false, false, false, false] 0 = true) (hr0 : (Region.ready .any ops #[false, false, false, false, false]).contains 0 = true)
    (hf1 : Region.free .any ops #[true, false, false, false, false] 1 = true) (hr1 : (Region.ready .any ops #[true, false, false, false, false]).contains 1 = true)
    (hr2 : Region.ready .any ops #[true, true, false, false, false] = [2]) (hr3 : Region.ready .any ops #[true, true, true, false, false] = [3]) (hr4 : Region.ready .any ops #[true, true, true, true, false] = [4]) (hr5 : Region.ready .any ops #[true, true, true, true, true] = [])
    (hg : (o0.guard = none ∧ o1.guard = none) ∧ o2.guard = none ∧ o3.guard = none ∧ o4.guard = none)
    (ho : (o0.op = .load tN x0 ∧ o1.op = .load tF x1) ∧ o2.op = .store tN x2 y2 ∧ o3.op = .assign x3 ∧ o4.op = .store tF x4 y4)
    (hpn : ∀ c a w v, Q (.panic c) (a.put o0.dst v) w → Q (.panic c) a w) (hpn1 : ∀ c a w v, Q (.panic c) (a.put o1.dst v) w → Q (.panic c) a w)
    (h0 : a.eval x0 = .pointer (some ⟨B, 0, none⟩)) (h1 : (a.put o0.dst (.agg ys)).eval x1 = .pointer (some ⟨F, 0, none⟩))
    (h2 : ((a.put o0.dst (.agg ys)).put o1.dst (.agg fs)).eval x2 = .pointer (some ⟨R, 0, none⟩)) (h2' : ((a.put o0.dst (.agg ys)).put o1.dst (.agg fs)).eval y2 = .agg ys)
    (hd2 : o2.dst = none) (h3 : ((a.put o0.dst (.agg ys)).put o1.dst (.agg fs)).eval x3 = v3)
    (h4 : (((a.put o0.dst (.agg ys)).put o1.dst (.agg fs)).put o3.dst v3).eval x4 = .pointer (some ⟨C, 0, none⟩)) (h4' : (((a.put o0.dst (.agg ys)).put o1.dst (.agg fs)).put o3.dst v3).eval y4 = .agg fs) (hd4 : o4.dst = none)
    (huN : P.underlying tN = some dN) (hdN : isAgg dN = true) (hiN : (P.info? tN).map (·.size) = some ys.size)
    (huF : P.underlying tF = some dF) (hdF : isAgg dF = true) (hiF : (P.info? tF).map (·.size) = some fs.size)
    (hz2 : r0.size = ys.size) (hc2 : ys.toList.all (·.oneCell') = true) (hz4 : c0.size = fs.size) (hc4 : fs.toList.all (·.oneCell') = true)
    (h : ∀ wm w9, w.grownBy wm (some R) → wm.grownBy w9 (some C) → Blk w9 R tR ys → Blk w9 C tC fs → Q .normal (((a.put o0.dst (.agg ys)).put o1.dst (.agg fs)).put o3.dst v3) w9) : (Code.region id ops true).wp P Q a w := by
  obtain ⟨⟨g0, g1⟩, g2, g3, g4⟩ := hg
  obtain ⟨⟨p0, p1⟩, p2, p3, p4⟩ := ho
  have hD : Below w.heap.size w w.drew := Below.drew (Below.refl _ _)
  have hsz : ops.size = 5 := by rw [← Array.length_toList, hops]; rfl
  refine wp_region_heldD (S := fun W => Blk W B tB ys ∧ Blk W F tG fs) (n := 5) (l := #[false, false, false, false, false]) hm hsz rfl hns ⟨hB.later hD, hF.later hD⟩ (fun _ hS => ?_)
  have hw0 : ∀ a' : Act, Region.wanted o0 (yielded ops a'.tmps) = true := fun a' => by simp [Region.wanted, g0]
  have hw1 : ∀ a' : Act, Region.wanted o1 (yielded ops a'.tmps) = true := fun a' => by simp [Region.wanted, g1]
  refine wpAnyH_takeD (l' := #[true, false, false, false, false]) (i := 0) (oi := o0) (v := .agg ys) (fuel := 4) (by rw [hops]; rfl) hns hf0 hr0 rfl (fun c a w => hpn c a w _) (hw0 _) (fun W hW => exec_load_bk hW.1 huN hdN hiN p0 h0) hS ?_
  refine wpAnyH_takeD (l' := #[true, true, false, false, false]) (i := 1) (oi := o1) (v := .agg fs) (fuel := 3) (by rw [hops]; rfl) hns hf1 hr1 rfl (fun c a w => hpn1 c a w _) (hw1 _) (fun W hW => exec_load_bk hW.2 huF hdF hiF p1 h1) hS ?_
  refine wpAnyH_oneD (l' := #[true, true, true, false, false]) (i := 2) (o := o2) (fuel := 2) (by rw [hops]; rfl) hr2 rfl (fun K2 hK2 => ?_)
  refine step_store_blk g2 p2 h2 h2' (hR.later hD) hz2 hiN hc2 ?_
  intro w2 hR2 hg2
  have hS2 : Blk w2 B tB ys ∧ Blk w2 F tG fs := ⟨hS.1.grown hg2 (by simp; omega), hS.2.grown hg2 (by simp; omega)⟩
  refine hK2.out _ _ hS2 (fun _ => ?_)
  rw [hd2]
  refine wpAnyH_oneD (l' := #[true, true, true, true, false]) (i := 3) (o := o3) (fuel := 1) (by rw [hops]; rfl) hr3 rfl (fun K3 hK3 => ?_)
  refine step_assign g3 p3 ?_
  refine hK3.out _ _ hS2 (fun _ => ?_)
  refine wpAnyH_oneD (l' := #[true, true, true, true, true]) (i := 4) (o := o4) (fuel := 0) (by rw [hops]; rfl) hr4 rfl (fun K4 hK4 => ?_)
  refine step_store_blk g4 p4 (by rw [show (((a.put o0.dst (.agg ys)).put o1.dst (.agg fs)).put none undef).eval x3 = v3 from h3]; exact h4) (by rw [show (((a.put o0.dst (.agg ys)).put o1.dst (.agg fs)).put none undef).eval x3 = v3 from h3]; exact h4') (((hC.later hD).grown hg2 (by simp; omega))) hz4 hiF hc4 ?_
  intro w4 hC4 hg4
  have gw2 := grown_via hD hg2
  have hS4 : Blk w4 B tB ys ∧ Blk w4 F tG fs := ⟨hS2.1.grown hg4 (by simp; omega), hS2.2.grown hg4 (by simp; omega)⟩
  refine hK4.out _ _ hS4 (fun _ => ?_)
  rw [hd4]
  refine wpAnyH_done hr5 ?_ _
  rw [show (((a.put o0.dst (.agg ys)).put o1.dst (.agg fs)).put none undef).eval x3 = v3 from h3]
  exact h w2 w4 gw2 hg4 (hR2.grown hg4 (by simp; omega)) hC4

theorem foldl_setG : ∀ (l : List Value) (s : Nat) (cs : Array Value), s + l.length ≤ cs.size → ((l.zipIdx s).foldl (fun cs p => cs.setIfInBounds p.2 p.1) cs).toList = cs.toList.take s ++ l ++ cs.toList.drop (s + l.length)
  | [], s, cs, h => by simp
  | a :: l, s, cs, h => by
    have hl : s < cs.size := by simp at h; omega
    rw [List.zipIdx_cons, List.foldl_cons, foldl_setG l (s + 1) (cs.setIfInBounds s a) (by simp at h ⊢; omega)]
    simp only [Array.toList_setIfInBounds, List.length_cons]
    have e1 : (cs.toList.set s a).take (s + 1) = cs.toList.take s ++ [a] := by
      rw [List.take_set, List.take_succ_eq_append_getElem (by simpa using hl), List.set_append_right _ _ (by simp; omega)]
      simp [Nat.min_eq_left (Nat.le_of_lt hl)]
    have e2 : (cs.toList.set s a).drop (s + 1 + l.length) = cs.toList.drop (s + (l.length + 1)) := by
      rw [List.drop_set_of_lt (by omega)]
      congr 1
      omega
    rw [e1, e2]
    simp

/-- A slice literal of one structure that is given whole. -/
theorem fill_one {ms cs : Array Value} {n : Nat} (h1 : ms.size = n) (h2 : cs.size = n) : Instr.fill (fun i => some (i * n, n)) cs [(0, .agg ms)] = some ms := by
  have h3 := foldl_setG ms.toList 0 cs (by simp; omega)
  have h4 : (ms.toList.zipIdx 0).foldl (fun cs p => cs.setIfInBounds p.2 p.1) cs = ms := by
    apply Array.toList_inj.1
    rw [h3]
    have : cs.toList.drop (0 + ms.toList.length) = [] := List.drop_eq_nil_of_le (by simp; omega)
    rw [this]
    simp
  have hc : (Value.agg ms).cells = ms := rfl
  unfold Instr.fill
  simp only [Nat.zero_mul, hc, Nat.zero_add]
  rw [if_neg (by simp; omega)]
  unfold Instr.fill
  rw [← Array.foldl_toList, Array.toList_zipIdx]
  exact congrArg some h4

/-- 'return x, []T{b}, y'. -/
theorem wp_ret7 {id : Nat} {a : Act} {w : World} {o0 o1 o2 o3 o4 o5 o6 : Oper} {tN tM tF tL eM : TypeId} {x0 x1 xb x3 : Operand} {i4 j4 i6 j6 d0 d1 d2 d3 d5 : Tmp} {B M F R C : Nat} {tB tMm tG tR tC : TypeId} {ys ms fs r0 c0 : Array Value} {dN dM dF : TypeDesc} {z : Value} {n : Nat}
    (hB : Blk w B tB ys) (hM : Blk w M tMm ms) (hF : Blk w F tG fs) (hR : Blk w R tR r0) (hC : Blk w C tC c0) (hRB : R ≠ B) (hRM : R ≠ M) (hRF : R ≠ F) (hRC : R ≠ C) (hCB : C ≠ B) (hCM : C ≠ M) (hCF : C ≠ F)
    (hm : P.follows .mixedOrders = true) (hns : Region.noSelect ops = true) (hops : ops.toList = [o0, o1, o2, o3, o4, o5, o6])
    (hfr : Region.free .any ops #[false, false, false, false, false, false, false] 0 = true ∧ Region.free .any ops #[true, false, false, false, false, false, false] 1 = true ∧ Region.free .any ops #[true, true, false, false, false, false, false] 3 = true)
    (hcn : (Region.ready .any ops #[false, false, false, false, false, false, false]).contains 0 = true ∧ (Region.ready .any ops #[true, false, false, false, false, false, false]).contains 1 = true ∧ (Region.ready .any ops #[true, true, false, false, false, false, false]).contains 3 = true)
    (hr3 : Region.ready .any ops #[true, true, false, true, false, false, false] = [2, 4]) (hr4a : Region.ready .any ops #[true, true, true, true, false, false, false] = [4]) (hr4b : Region.ready .any ops #[true, true, false, true, true, false, false] = [2]) (hr5 : Region.ready .any ops #[true, true, true, true, true, false, false] = [5]) (hr6 : Region.ready .any ops #[true, true, true, true, true, true, false] = [6]) (hr7 : Region.ready .any ops #[true, true, true, true, true, true, true] = [])
    (hg : (o0.guard = none ∧ o1.guard = none ∧ o3.guard = none) ∧ o2.guard = none ∧ o4.guard = none ∧ o5.guard = none ∧ o6.guard = none)
    (ho : (o0.op = .load tN x0 ∧ o1.op = .load tM x1 ∧ o3.op = .load tF x3) ∧ o2.op = .buildSlice tL 1 #[(0, xb)] ∧ o4.op = .store tN (.tmp i4) (.tmp j4) ∧ o5.op = .assign (.tmp d2) ∧ o6.op = .store tF (.tmp i6) (.tmp j6))
    (hpn0 : ∀ c a w v, Q (.panic c) (a.put o0.dst v) w → Q (.panic c) a w) (hpn1 : ∀ c a w v, Q (.panic c) (a.put o1.dst v) w → Q (.panic c) a w) (hpn3 : ∀ c a w v, Q (.panic c) (a.put o3.dst v) w → Q (.panic c) a w)
    (h0 : a.eval x0 = .pointer (some ⟨B, 0, none⟩)) (h1 : (a.put o0.dst (.agg ys)).eval x1 = .pointer (some ⟨M, 0, none⟩))
    (h3 : ((a.put o0.dst (.agg ys)).put o1.dst (.agg ms)).eval x3 = .pointer (some ⟨F, 0, none⟩))
    (hb : (((a.put o0.dst (.agg ys)).put o1.dst (.agg ms)).put o3.dst (.agg fs)).eval xb = .agg ms)
    (h4 : (((a.put o0.dst (.agg ys)).put o1.dst (.agg ms)).put o3.dst (.agg fs)).eval (.tmp i4) = .pointer (some ⟨R, 0, none⟩)) (h4' : (((a.put o0.dst (.agg ys)).put o1.dst (.agg ms)).put o3.dst (.agg fs)).eval (.tmp j4) = .agg ys)
    (h6 : (((a.put o0.dst (.agg ys)).put o1.dst (.agg ms)).put o3.dst (.agg fs)).eval (.tmp i6) = .pointer (some ⟨C, 0, none⟩)) (h6' : (((a.put o0.dst (.agg ys)).put o1.dst (.agg ms)).put o3.dst (.agg fs)).eval (.tmp j6) = .agg fs)
    (hdd : (o2.dst = some d2 ∧ o5.dst = some d5) ∧ (i4 ≠ d2 ∧ j4 ≠ d2) ∧ (i6 ≠ d2 ∧ j6 ≠ d2) ∧ (i6 ≠ d5 ∧ j6 ≠ d5)) (hds : (a.tmps.toList.drop d2).isEmpty = false)
    (hd4 : o4.dst = none) (hd6 : o6.dst = none)
    (huN : P.underlying tN = some dN) (hdN : isAgg dN = true) (hiN : (P.info? tN).map (·.size) = some ys.size)
    (huM : P.underlying tM = some dM) (hdM : isAgg dM = true) (hiM : (P.info? tM).map (·.size) = some ms.size)
    (huF : P.underlying tF = some dF) (hdF : isAgg dF = true) (hiF : (P.info? tF).map (·.size) = some fs.size)
    (hu : P.underlying tL = some (.slice eM)) (hinf : (P.info? eM).map (fun i => (i.zero, i.size)) = some (some z, n)) (hsmall : ¬ 1 * n > 2 ^ 24) (hpos : ¬ 1 * n = 0)
    (hms : ms.size = n)
    (hz2 : r0.size = ys.size) (hc2 : ys.toList.all (·.oneCell') = true) (hz4 : c0.size = fs.size) (hc4 : fs.toList.all (·.oneCell') = true)
    (hde : o0.dst = some d0 ∧ o1.dst = some d1 ∧ o3.dst = some d3) (hds5 : (a.tmps.toList.drop d5).isEmpty = false)
    (h : ∀ k wm w9 a9, KeptBut a a9 [d0, d1, d3, d2, d5] → a9.tmps[d5]?.getD undef = .slice (some ⟨k, 0, none⟩) 1 1 → w.grownBy wm (some R) → wm.grownBy w9 (some C) → Blk w9 R tR ys → Blk w9 C tC fs → w.heap.size ≤ k → Blk w9 k eM ms → Q .normal a9 w9) : (Code.region id ops true).wp P Q a w := by
  obtain ⟨⟨g0, g1, g3⟩, g2, g4, g5, g6⟩ := hg
  obtain ⟨⟨p0, p1, p3⟩, p2, p4, p5, p6⟩ := ho
  obtain ⟨hf0, hf1, hf3⟩ := hfr
  obtain ⟨⟨e2, e5⟩, ⟨n4, n4'⟩, ⟨n6, n6'⟩, n6a, n6b⟩ := hdd
  have hf : Instr.fill (fun i => some (i * n, n)) ((Array.range (1 * n)).map (z.cells[· % z.cells.size]!)) [(0, .agg ms)] = some ms := fill_one hms (by simp)
  obtain ⟨ie, hie, hz, rfl⟩ : ∃ ie, P.info? eM = some ie ∧ ie.zero = some z ∧ ie.size = n := by
    cases hq : P.info? eM with
    | none => rw [hq] at hinf; simp at hinf
    | some ie => rw [hq] at hinf; simp at hinf; exact ⟨ie, rfl, hinf.1, hinf.2⟩
  obtain ⟨hn0, hn1, hn3⟩ := hcn
  have hD : Below w.heap.size w w.drew := Below.drew (Below.refl _ _)
  have hsz : ops.size = 7 := by rw [← Array.length_toList, hops]; rfl
  refine wp_region_heldD (S := fun W => Blk W B tB ys ∧ Blk W M tMm ms ∧ Blk W F tG fs) (n := 7) (l := #[false, false, false, false, false, false, false]) hm hsz rfl hns ⟨hB.later hD, hM.later hD, hF.later hD⟩ (fun _ hS => ?_)
  have hw0 : ∀ a' : Act, Region.wanted o0 (yielded ops a'.tmps) = true := fun a' => by simp [Region.wanted, g0]
  have hw1 : ∀ a' : Act, Region.wanted o1 (yielded ops a'.tmps) = true := fun a' => by simp [Region.wanted, g1]
  have hw3 : ∀ a' : Act, Region.wanted o3 (yielded ops a'.tmps) = true := fun a' => by simp [Region.wanted, g3]
  refine wpAnyH_takeD (l' := #[true, false, false, false, false, false, false]) (i := 0) (oi := o0) (v := .agg ys) (fuel := 6) (by rw [hops]; rfl) hns hf0 hn0 rfl (fun c a w => hpn0 c a w _) (hw0 _) (fun W hW => exec_load_bk hW.1 huN hdN hiN p0 h0) hS ?_
  refine wpAnyH_takeD (l' := #[true, true, false, false, false, false, false]) (i := 1) (oi := o1) (v := .agg ms) (fuel := 5) (by rw [hops]; rfl) hns hf1 hn1 rfl (fun c a w => hpn1 c a w _) (hw1 _) (fun W hW => exec_load_bk hW.2.1 huM hdM hiM p1 h1) hS ?_
  refine wpAnyH_takeD (l' := #[true, true, false, true, false, false, false]) (i := 3) (oi := o3) (v := .agg fs) (fuel := 4) (by rw [hops]; rfl) hns hf3 hn3 rfl (fun c a w => hpn3 c a w _) (hw3 _) (fun W hW => exec_load_bk hW.2.2 huF hdF hiF p3 h3) hS ?_
  have hds := of_drop hds
  have hds5 := of_drop hds5
  obtain ⟨q0, q1, q3⟩ := hde
  have hkb : KeptBut a (((a.put o0.dst (.agg ys)).put o1.dst (.agg ms)).put o3.dst (.agg fs)) [d0, d1, d3, d2, d5] := by
    rw [q0, q1, q3]
    exact (((KeptBut.refl a _).put (by simp)).put (by simp)).put (by simp)
  have hsA : (((a.put o0.dst (.agg ys)).put o1.dst (.agg ms)).put o3.dst (.agg fs)).tmps.size = a.tmps.size := by rw [q0, q1, q3]; simp [Act.put]
  generalize ((a.put o0.dst (.agg ys)).put o1.dst (.agg ms)).put o3.dst (.agg fs) = A at *
  have hRD := hR.later hD
  have hCD := hC.later hD
  have hzD : w.heap.size ≤ w.drew.heap.size := hD.size
  generalize w.drew = W at *
  -- behind both: the assign and the last store
  have tail : ∀ (k : Nat) (w2 : World), w.grownBy w2 (some R) → Blk w2 R tR ys → w.heap.size ≤ k → Blk w2 k eM ms → wpAnyH P .any ops Q (fun W => Blk W B tB ys ∧ Blk W M tMm ms ∧ Blk W F tG fs) 2 #[true, true, true, true, true, false, false] (A.put o2.dst (.slice (some ⟨k, 0, none⟩) 1 1)) w2 := by
    intro k w2 hg2 hR2 hk hK2
    have hS2 : Blk w2 B tB ys ∧ Blk w2 M tMm ms ∧ Blk w2 F tG fs := ⟨hB.grown hg2 (by simp; omega), hM.grown hg2 (by simp; omega), hF.grown hg2 (by simp; omega)⟩
    have hC2 := hC.grown hg2 (by simp; omega)
    have hcl := hC.lt
    refine wpAnyH_oneD (l' := #[true, true, true, true, true, true, false]) (i := 5) (o := o5) (fuel := 1) (by rw [hops]; rfl) hr5 rfl (fun K3 hK3 => ?_)
    refine step_assign g5 p5 ?_
    refine hK3.out _ _ hS2 (fun _ => ?_)
    rw [e2, put_self (by rw [hsA]; exact hds)]
    refine wpAnyH_oneD (l' := #[true, true, true, true, true, true, true]) (i := 6) (o := o6) (fuel := 0) (by rw [hops]; rfl) hr6 rfl (fun K4 hK4 => ?_)
    refine step_store_blk g6 p6 (by rw [e5, put_other n6a, put_other n6]; exact h6) (by rw [e5, put_other n6b, put_other n6']; exact h6') hC2 hz4 hiF hc4 ?_
    intro w4 hC4 hg4
    have hS4 : Blk w4 B tB ys ∧ Blk w4 M tMm ms ∧ Blk w4 F tG fs := ⟨hS2.1.grown hg4 (by simp; omega), hS2.2.1.grown hg4 (by simp; omega), hS2.2.2.grown hg4 (by simp; omega)⟩
    refine hK4.out _ _ hS4 (fun _ => ?_)
    rw [hd6]
    rw [← e2]
    exact wpAnyH_done hr7 (h k w2 w4 _ (by rw [e2, e5]; exact (hkb.put (by simp)).put (by simp)) (by rw [e2, e5, ← eval_tmp]; exact put_self (by simp only [put_size]; rw [hsA]; exact hds5)) hg2 hg4 (hR2.grown hg4 (by simp; omega)) hC4 hk (hK2.grown hg4 (by simp; omega))) _
  have hrl := hR.lt
  refine wpAnyH_ready hr3 (by simp) (AllReadyH.cons (at_of_drop (oi := o2) (by rw [hops]; rfl)) (fun K1 hK1 => ?_) (AllReadyH.cons (at_of_drop (oi := o4) (by rw [hops]; rfl)) (fun K1 hK1 => ?_) AllReadyH.nil))
  · refine step_build1 g2 p2 hb hu hie hz hsmall hpos hf ?_
    have hN := below_allocG W (.cells ms eM)
    refine hK1.out _ _ ⟨hS.1.later hN, hS.2.1.later hN, hS.2.2.later hN⟩ (fun hS1 => ?_)
    rw [show (#[true, true, false, true, false, false, false] : Array Bool).setIfInBounds 2 true = #[true, true, true, true, false, false, false] from rfl]
    refine wpAnyH_oneD (l' := #[true, true, true, true, true, false, false]) (i := 4) (o := o4) (fuel := 2) (by rw [hops]; rfl) hr4a rfl (fun K2 hK2 => ?_)
    refine step_store_blk g4 p4 (by rw [e2, put_other n4]; exact h4) (by rw [e2, put_other n4']; exact h4') (hRD.later hN) hz2 hiN hc2 ?_
    intro w2 hR2 hg2
    have gw := grown_via (hD.trans (hN.mono hzD)) hg2
    refine hK2.out _ _ ⟨hS1.1.grown hg2 (by simp; omega), hS1.2.1.grown hg2 (by simp; omega), hS1.2.2.grown hg2 (by simp; omega)⟩ (fun _ => ?_)
    rw [hd4]
    exact tail W.heap.size w2 gw hR2 hzD ((Blk.new W eM ms).grown hg2 (by simp; omega))
  · refine step_store_blk g4 p4 h4 h4' hRD hz2 hiN hc2 ?_
    intro w2 hR2 hg2
    have gw := grown_via hD hg2
    have hS1 : Blk w2 B tB ys ∧ Blk w2 M tMm ms ∧ Blk w2 F tG fs := ⟨hS.1.grown hg2 (by simp; omega), hS.2.1.grown hg2 (by simp; omega), hS.2.2.grown hg2 (by simp; omega)⟩
    refine hK1.out _ _ hS1 (fun _ => ?_)
    rw [hd4, show (#[true, true, false, true, false, false, false] : Array Bool).setIfInBounds 4 true = #[true, true, false, true, true, false, false] from rfl]
    refine wpAnyH_oneD (l' := #[true, true, true, true, true, false, false]) (i := 2) (o := o2) (fuel := 2) (by rw [hops]; rfl) hr4b rfl (fun K2 hK2 => ?_)
    refine step_build1 g2 p2 hb hu hie hz hsmall hpos hf ?_
    have hN := below_allocG w2 (.cells ms eM)
    refine hK2.out _ _ ⟨hS1.1.later hN, hS1.2.1.later hN, hS1.2.2.later hN⟩ (fun _ => ?_)
    exact tail w2.heap.size _ (grown_below gw hN) (hR2.later hN) (by have := gw.size; omega) (Blk.new w2 eM ms)

theorem step_callR {w : World} {o : Oper} {a : Act} {K : Act → World → Prop} {E : Prop} {f : FuncId} {x : Operand} {ats : Array TypeId} {v : Value} {R : Value → World → Prop}
    (hc : Calls P f #[v] w fun e w' => ∃ u, e = .returned u ∧ R u w') (hcf : ∀ args W, (callFunc f args).run P W = .ok (.enter f args) W)
    (hgd : o.guard = none) (ho : o.op = .call { callee := .value (.func f), args := #[x], argTypes := ats }) (hx : a.eval x = v)
    (h : ∀ u w', R u w' → K (a.put o.dst u) w') :
    if Region.wanted o (yielded ops a.tmps) = true then Oper.wp P o a w K Q else E := by
  have hw : Region.wanted o (yielded ops a.tmps) = true := by simp [Region.wanted, hgd]
  rw [if_pos hw]
  have he : execOp a.eval o = callFunc f #[v] := by
    cases o
    simp only at ho
    subst ho
    rw [execOp_call_go]
    simp [hx]
  unfold Oper.wp
  rw [he, hcf, Oper.upon_enter]
  exact hc.mono (by rintro e w' ⟨u, rfl, hr⟩; exact h u w' hr)

/-- 'return x, f(x), y'. -/
theorem wp_ret7c {id : Nat} {a : Act} {w : World} {o0 o1 o2 o3 o4 o5 o6 : Oper} {f : FuncId} {ats : Array TypeId} {tN tF : TypeId} {x0 x1 xb x3 : Operand} {i4 j4 i6 j6 d0 d1 d2 d3 d5 : Tmp} {B F R C : Nat} {tB tG tR tC : TypeId} {ys fs r0 c0 : Array Value} {dN dF : TypeDesc} {Rel : Value → World → Prop}
    (hB : Blk w B tB ys) (hF : Blk w F tG fs) (hR : Blk w R tR r0) (hC : Blk w C tC c0) (hRB : R ≠ B) (hRF : R ≠ F) (hRC : R ≠ C) (hCB : C ≠ B) (hCF : C ≠ F)
    (hcall : Calls P f #[.agg ys] w.drew fun e w' => ∃ u, e = .returned u ∧ Rel u w') (hrel : ∀ u W, Rel u W → Below w.drew.heap.size w.drew W) (hcf : ∀ args W, (callFunc f args).run P W = .ok (.enter f args) W)
    (hm : P.follows .mixedOrders = true) (hns : Region.noSelect ops = true) (hops : ops.toList = [o0, o1, o2, o3, o4, o5, o6])
    (hfr : Region.free .any ops #[false, false, false, false, false, false, false] 0 = true ∧ Region.free .any ops #[true, false, false, false, false, false, false] 1 = true ∧ Region.free .any ops #[true, true, false, false, false, false, false] 3 = true)
    (hcn : (Region.ready .any ops #[false, false, false, false, false, false, false]).contains 0 = true ∧ (Region.ready .any ops #[true, false, false, false, false, false, false]).contains 1 = true ∧ (Region.ready .any ops #[true, true, false, false, false, false, false]).contains 3 = true)
    (hr3 : Region.ready .any ops #[true, true, false, true, false, false, false] = [2]) (hr4 : Region.ready .any ops #[true, true, true, true, false, false, false] = [4]) (hr5 : Region.ready .any ops #[true, true, true, true, true, false, false] = [5]) (hr6 : Region.ready .any ops #[true, true, true, true, true, true, false] = [6]) (hr7 : Region.ready .any ops #[true, true, true, true, true, true, true] = [])
    (hg : (o0.guard = none ∧ o1.guard = none ∧ o3.guard = none) ∧ o2.guard = none ∧ o4.guard = none ∧ o5.guard = none ∧ o6.guard = none)
    (ho : (o0.op = .load tN x0 ∧ o1.op = .load tN x1 ∧ o3.op = .load tF x3) ∧ o2.op = .call { callee := .value (.func f), args := #[xb], argTypes := ats } ∧ o4.op = .store tN (.tmp i4) (.tmp j4) ∧ o5.op = .assign (.tmp d2) ∧ o6.op = .store tF (.tmp i6) (.tmp j6))
    (hpn0 : ∀ c a w v, Q (.panic c) (a.put o0.dst v) w → Q (.panic c) a w) (hpn1 : ∀ c a w v, Q (.panic c) (a.put o1.dst v) w → Q (.panic c) a w) (hpn3 : ∀ c a w v, Q (.panic c) (a.put o3.dst v) w → Q (.panic c) a w)
    (h0 : a.eval x0 = .pointer (some ⟨B, 0, none⟩)) (h1 : (a.put o0.dst (.agg ys)).eval x1 = .pointer (some ⟨B, 0, none⟩))
    (h3 : ((a.put o0.dst (.agg ys)).put o1.dst (.agg ys)).eval x3 = .pointer (some ⟨F, 0, none⟩))
    (hb : (((a.put o0.dst (.agg ys)).put o1.dst (.agg ys)).put o3.dst (.agg fs)).eval xb = .agg ys)
    (h4 : (((a.put o0.dst (.agg ys)).put o1.dst (.agg ys)).put o3.dst (.agg fs)).eval (.tmp i4) = .pointer (some ⟨R, 0, none⟩)) (h4' : (((a.put o0.dst (.agg ys)).put o1.dst (.agg ys)).put o3.dst (.agg fs)).eval (.tmp j4) = .agg ys)
    (h6 : (((a.put o0.dst (.agg ys)).put o1.dst (.agg ys)).put o3.dst (.agg fs)).eval (.tmp i6) = .pointer (some ⟨C, 0, none⟩)) (h6' : (((a.put o0.dst (.agg ys)).put o1.dst (.agg ys)).put o3.dst (.agg fs)).eval (.tmp j6) = .agg fs)
    (hdd : (o2.dst = some d2 ∧ o5.dst = some d5) ∧ (i4 ≠ d2 ∧ j4 ≠ d2) ∧ (i6 ≠ d2 ∧ j6 ≠ d2) ∧ (i6 ≠ d5 ∧ j6 ≠ d5)) (hds : (a.tmps.toList.drop d2).isEmpty = false)
    (hd4 : o4.dst = none) (hd6 : o6.dst = none)
    (huN : P.underlying tN = some dN) (hdN : isAgg dN = true) (hiN : (P.info? tN).map (·.size) = some ys.size)
    (huF : P.underlying tF = some dF) (hdF : isAgg dF = true) (hiF : (P.info? tF).map (·.size) = some fs.size)
    (hz2 : r0.size = ys.size) (hc2 : ys.toList.all (·.oneCell') = true) (hz4 : c0.size = fs.size) (hc4 : fs.toList.all (·.oneCell') = true)
    (hde : o0.dst = some d0 ∧ o1.dst = some d1 ∧ o3.dst = some d3) (hds5 : (a.tmps.toList.drop d5).isEmpty = false)
    (h : ∀ u W wm w9 a9, KeptBut a a9 [d0, d1, d3, d2, d5] → a9.tmps[d5]?.getD undef = u → Rel u W → Below w.heap.size w W → W.grownBy wm (some R) → wm.grownBy w9 (some C) → Blk w9 R tR ys → Blk w9 C tC fs → Q .normal a9 w9) : (Code.region id ops true).wp P Q a w := by
  obtain ⟨⟨g0, g1, g3⟩, g2, g4, g5, g6⟩ := hg
  obtain ⟨⟨p0, p1, p3⟩, p2, p4, p5, p6⟩ := ho
  obtain ⟨hf0, hf1, hf3⟩ := hfr
  obtain ⟨⟨e2, e5⟩, ⟨n4, n4'⟩, ⟨n6, n6'⟩, n6a, n6b⟩ := hdd
  obtain ⟨hn0, hn1, hn3⟩ := hcn
  have hD : Below w.heap.size w w.drew := Below.drew (Below.refl _ _)
  have hsz : ops.size = 7 := by rw [← Array.length_toList, hops]; rfl
  refine wp_region_heldD (S := fun W => Blk W B tB ys ∧ Blk W F tG fs) (n := 7) (l := #[false, false, false, false, false, false, false]) hm hsz rfl hns ⟨hB.later hD, hF.later hD⟩ (fun _ hS => ?_)
  have hw0 : ∀ a' : Act, Region.wanted o0 (yielded ops a'.tmps) = true := fun a' => by simp [Region.wanted, g0]
  have hw1 : ∀ a' : Act, Region.wanted o1 (yielded ops a'.tmps) = true := fun a' => by simp [Region.wanted, g1]
  have hw3 : ∀ a' : Act, Region.wanted o3 (yielded ops a'.tmps) = true := fun a' => by simp [Region.wanted, g3]
  refine wpAnyH_takeD (l' := #[true, false, false, false, false, false, false]) (i := 0) (oi := o0) (v := .agg ys) (fuel := 6) (by rw [hops]; rfl) hns hf0 hn0 rfl (fun c a w => hpn0 c a w _) (hw0 _) (fun W hW => exec_load_bk hW.1 huN hdN hiN p0 h0) hS ?_
  refine wpAnyH_takeD (l' := #[true, true, false, false, false, false, false]) (i := 1) (oi := o1) (v := .agg ys) (fuel := 5) (by rw [hops]; rfl) hns hf1 hn1 rfl (fun c a w => hpn1 c a w _) (hw1 _) (fun W hW => exec_load_bk hW.1 huN hdN hiN p1 h1) hS ?_
  refine wpAnyH_takeD (l' := #[true, true, false, true, false, false, false]) (i := 3) (oi := o3) (v := .agg fs) (fuel := 4) (by rw [hops]; rfl) hns hf3 hn3 rfl (fun c a w => hpn3 c a w _) (hw3 _) (fun W hW => exec_load_bk hW.2 huF hdF hiF p3 h3) hS ?_
  have hds := of_drop hds
  have hds5 := of_drop hds5
  obtain ⟨q0, q1, q3⟩ := hde
  have hkb : KeptBut a (((a.put o0.dst (.agg ys)).put o1.dst (.agg ys)).put o3.dst (.agg fs)) [d0, d1, d3, d2, d5] := by
    rw [q0, q1, q3]
    exact (((KeptBut.refl a _).put (by simp)).put (by simp)).put (by simp)
  have hsA : (((a.put o0.dst (.agg ys)).put o1.dst (.agg ys)).put o3.dst (.agg fs)).tmps.size = a.tmps.size := by rw [q0, q1, q3]; simp [Act.put]
  generalize ((a.put o0.dst (.agg ys)).put o1.dst (.agg ys)).put o3.dst (.agg fs) = A at *
  refine wpAnyH_oneD (l' := #[true, true, true, true, false, false, false]) (i := 2) (o := o2) (fuel := 3) (by rw [hops]; rfl) hr3 rfl (fun K1 hK1 => ?_)
  refine step_callR hcall hcf g2 p2 hb ?_
  intro u W hu
  have hbW := hrel u W hu
  have hbw : Below w.heap.size w W := hD.trans (hbW.mono hD.size)
  have hS1 : Blk W B tB ys ∧ Blk W F tG fs := ⟨hB.later hbw, hF.later hbw⟩
  refine hK1.out _ _ hS1 (fun _ => ?_)
  refine wpAnyH_oneD (l' := #[true, true, true, true, true, false, false]) (i := 4) (o := o4) (fuel := 2) (by rw [hops]; rfl) hr4 rfl (fun K2 hK2 => ?_)
  refine step_store_blk g4 p4 (by rw [e2, put_other n4]; exact h4) (by rw [e2, put_other n4']; exact h4') (hR.later hbw) hz2 hiN hc2 ?_
  intro w2 hR2 hg2
  have hS2 : Blk w2 B tB ys ∧ Blk w2 F tG fs := ⟨hS1.1.grown hg2 (by simp; omega), hS1.2.grown hg2 (by simp; omega)⟩
  have hC2 := (hC.later hbw).grown hg2 (by simp; omega)
  refine hK2.out _ _ hS2 (fun _ => ?_)
  rw [hd4]
  refine wpAnyH_oneD (l' := #[true, true, true, true, true, true, false]) (i := 5) (o := o5) (fuel := 1) (by rw [hops]; rfl) hr5 rfl (fun K3 hK3 => ?_)
  refine step_assign g5 p5 ?_
  refine hK3.out _ _ hS2 (fun _ => ?_)
  rw [show ((A.put o2.dst u).put none undef).eval (.tmp d2) = u from by rw [e2]; exact put_self (by rw [hsA]; exact hds)]
  refine wpAnyH_oneD (l' := #[true, true, true, true, true, true, true]) (i := 6) (o := o6) (fuel := 0) (by rw [hops]; rfl) hr6 rfl (fun K4 hK4 => ?_)
  refine step_store_blk g6 p6 (by rw [e2, e5]; exact (put_other n6a).trans ((put_other n6).trans h6)) (by rw [e2, e5]; exact (put_other n6b).trans ((put_other n6').trans h6')) hC2 hz4 hiF hc4 ?_
  intro w4 hC4 hg4
  have hS4 : Blk w4 B tB ys ∧ Blk w4 F tG fs := ⟨hS2.1.grown hg4 (by simp; omega), hS2.2.grown hg4 (by simp; omega)⟩
  refine hK4.out _ _ hS4 (fun _ => ?_)
  rw [hd6]
  exact wpAnyH_done hr7 (h u W w2 w4 _ (by rw [e2, e5]; exact (hkb.put (by simp)).put (by simp)) (by rw [e2, e5, ← eval_tmp]; exact put_self (by simp only [put_size]; rw [hsA]; exact hds5)) hu hbw hg2 hg4 (hR2.grown hg4 (by simp; omega)) hC4) _

/-- 'return f(x), v, y'. -/
theorem wp_ret6c {id : Nat} {a : Act} {w : World} {o0 o1 o2 o3 o4 o5 : Oper} {f : FuncId} {ats : Array TypeId} {tN tF : TypeId} {x0 xb x2 x3 y3 x4 x5 y5 : Operand} {B F R C : Nat} {tB tG tR tC : TypeId} {ys us fs r0 c0 : Array Value} {dN dF : TypeDesc} {v4 : Value}
    (hB : Blk w B tB ys) (hF : Blk w F tG fs) (hR : Blk w R tR r0) (hC : Blk w C tC c0) (hRB : R ≠ B) (hRF : R ≠ F) (hRC : R ≠ C) (hCB : C ≠ B) (hCF : C ≠ F)
    (hcall : Calls P f #[.agg ys] w.drew fun e w' => ∃ u, e = .returned u ∧ (u = .agg us ∧ Below w.drew.heap.size w.drew w')) (hcf : ∀ args W, (callFunc f args).run P W = .ok (.enter f args) W)
    (hm : P.follows .mixedOrders = true) (hns : Region.noSelect ops = true) (hops : ops.toList = [o0, o1, o2, o3, o4, o5])
    (hfr : Region.free .any ops #[false, false, false, false, false, false] 0 = true ∧ Region.free .any ops #[true, false, false, false, false, false] 2 = true)
    (hcn : (Region.ready .any ops #[false, false, false, false, false, false]).contains 0 = true ∧ (Region.ready .any ops #[true, false, false, false, false, false]).contains 2 = true)
    (hr3 : Region.ready .any ops #[true, false, true, false, false, false] = [1]) (hr4 : Region.ready .any ops #[true, true, true, false, false, false] = [3]) (hr5 : Region.ready .any ops #[true, true, true, true, false, false] = [4]) (hr6 : Region.ready .any ops #[true, true, true, true, true, false] = [5]) (hr7 : Region.ready .any ops #[true, true, true, true, true, true] = [])
    (hg : (o0.guard = none ∧ o2.guard = none) ∧ o1.guard = none ∧ o3.guard = none ∧ o4.guard = none ∧ o5.guard = none)
    (ho : (o0.op = .load tN x0 ∧ o2.op = .load tF x2) ∧ o1.op = .call { callee := .value (.func f), args := #[xb], argTypes := ats } ∧ o3.op = .store tN x3 y3 ∧ o4.op = .assign x4 ∧ o5.op = .store tF x5 y5)
    (hpn0 : ∀ c a w v, Q (.panic c) (a.put o0.dst v) w → Q (.panic c) a w) (hpn2 : ∀ c a w v, Q (.panic c) (a.put o2.dst v) w → Q (.panic c) a w)
    (h0 : a.eval x0 = .pointer (some ⟨B, 0, none⟩)) (h2 : (a.put o0.dst (.agg ys)).eval x2 = .pointer (some ⟨F, 0, none⟩))
    (hb : ((a.put o0.dst (.agg ys)).put o2.dst (.agg fs)).eval xb = .agg ys)
    (h3 : (((a.put o0.dst (.agg ys)).put o2.dst (.agg fs)).put o1.dst (.agg us)).eval x3 = .pointer (some ⟨R, 0, none⟩)) (h3' : (((a.put o0.dst (.agg ys)).put o2.dst (.agg fs)).put o1.dst (.agg us)).eval y3 = .agg us)
    (h4 : (((a.put o0.dst (.agg ys)).put o2.dst (.agg fs)).put o1.dst (.agg us)).eval x4 = v4)
    (h5 : ((((a.put o0.dst (.agg ys)).put o2.dst (.agg fs)).put o1.dst (.agg us)).put o4.dst v4).eval x5 = .pointer (some ⟨C, 0, none⟩)) (h5' : ((((a.put o0.dst (.agg ys)).put o2.dst (.agg fs)).put o1.dst (.agg us)).put o4.dst v4).eval y5 = .agg fs)
    (hd3 : o3.dst = none) (hd5 : o5.dst = none)
    (huN : P.underlying tN = some dN) (hdN : isAgg dN = true) (hiN : (P.info? tN).map (·.size) = some ys.size) (hus : us.size = ys.size)
    (huF : P.underlying tF = some dF) (hdF : isAgg dF = true) (hiF : (P.info? tF).map (·.size) = some fs.size)
    (hz2 : r0.size = us.size) (hc2 : us.toList.all (·.oneCell') = true) (hz4 : c0.size = fs.size) (hc4 : fs.toList.all (·.oneCell') = true)
    (h : ∀ W wm w9, Below w.heap.size w W → W.grownBy wm (some R) → wm.grownBy w9 (some C) → Blk w9 R tR us → Blk w9 C tC fs → Q .normal ((((a.put o0.dst (.agg ys)).put o2.dst (.agg fs)).put o1.dst (.agg us)).put o4.dst v4) w9) : (Code.region id ops true).wp P Q a w := by
  obtain ⟨⟨g0, g2⟩, g1, g3, g4, g5⟩ := hg
  obtain ⟨⟨p0, p2⟩, p1, p3, p4, p5⟩ := ho
  obtain ⟨hf0, hf1⟩ := hfr
  obtain ⟨hn0, hn1⟩ := hcn
  have hD : Below w.heap.size w w.drew := Below.drew (Below.refl _ _)
  have hsz : ops.size = 6 := by rw [← Array.length_toList, hops]; rfl
  refine wp_region_heldD (S := fun W => Blk W B tB ys ∧ Blk W F tG fs) (n := 6) (l := #[false, false, false, false, false, false]) hm hsz rfl hns ⟨hB.later hD, hF.later hD⟩ (fun _ hS => ?_)
  have hw0 : ∀ a' : Act, Region.wanted o0 (yielded ops a'.tmps) = true := fun a' => by simp [Region.wanted, g0]
  have hw2 : ∀ a' : Act, Region.wanted o2 (yielded ops a'.tmps) = true := fun a' => by simp [Region.wanted, g2]
  refine wpAnyH_takeD (l' := #[true, false, false, false, false, false]) (i := 0) (oi := o0) (v := .agg ys) (fuel := 5) (by rw [hops]; rfl) hns hf0 hn0 rfl (fun c a w => hpn0 c a w _) (hw0 _) (fun W hW => exec_load_bk hW.1 huN hdN hiN p0 h0) hS ?_
  refine wpAnyH_takeD (l' := #[true, false, true, false, false, false]) (i := 2) (oi := o2) (v := .agg fs) (fuel := 4) (by rw [hops]; rfl) hns hf1 hn1 rfl (fun c a w => hpn2 c a w _) (hw2 _) (fun W hW => exec_load_bk hW.2 huF hdF hiF p2 h2) hS ?_
  generalize (a.put o0.dst (.agg ys)).put o2.dst (.agg fs) = A at *
  refine wpAnyH_oneD (l' := #[true, true, true, false, false, false]) (i := 1) (o := o1) (fuel := 3) (by rw [hops]; rfl) hr3 rfl (fun K1 hK1 => ?_)
  refine step_callR hcall hcf g1 p1 hb ?_
  rintro u W ⟨rfl, hbW⟩
  have hbw : Below w.heap.size w W := hD.trans (hbW.mono hD.size)
  have hS1 : Blk W B tB ys ∧ Blk W F tG fs := ⟨hB.later hbw, hF.later hbw⟩
  refine hK1.out _ _ hS1 (fun _ => ?_)
  refine wpAnyH_oneD (l' := #[true, true, true, true, false, false]) (i := 3) (o := o3) (fuel := 2) (by rw [hops]; rfl) hr4 rfl (fun K2 hK2 => ?_)
  refine step_store_blk g3 p3 h3 h3' (hR.later hbw) hz2 (by rw [hiN, hus]) hc2 ?_
  intro w2 hR2 hg2
  have hS2 : Blk w2 B tB ys ∧ Blk w2 F tG fs := ⟨hS1.1.grown hg2 (by simp; omega), hS1.2.grown hg2 (by simp; omega)⟩
  have hC2 := (hC.later hbw).grown hg2 (by simp; omega)
  refine hK2.out _ _ hS2 (fun _ => ?_)
  rw [hd3]
  refine wpAnyH_oneD (l' := #[true, true, true, true, true, false]) (i := 4) (o := o4) (fuel := 1) (by rw [hops]; rfl) hr5 rfl (fun K3 hK3 => ?_)
  refine step_assign g4 p4 ?_
  refine hK3.out _ _ hS2 (fun _ => ?_)
  rw [show ((A.put o1.dst (.agg us)).put none undef).eval x4 = v4 from h4]
  refine wpAnyH_oneD (l' := #[true, true, true, true, true, true]) (i := 5) (o := o5) (fuel := 0) (by rw [hops]; rfl) hr6 rfl (fun K4 hK4 => ?_)
  refine step_store_blk g5 p5 h5 h5' hC2 hz4 hiF hc4 ?_
  intro w4 hC4 hg4
  have hS4 : Blk w4 B tB ys ∧ Blk w4 F tG fs := ⟨hS2.1.grown hg4 (by simp; omega), hS2.2.grown hg4 (by simp; omega)⟩
  refine hK4.out _ _ hS4 (fun _ => ?_)
  rw [hd5]
  exact wpAnyH_done hr7 (h W w2 w4 hbw hg2 hg4 (hR2.grown hg4 (by simp; omega)) hC4) _

end
end Go.Proofs.Ytopnjklloleomaa
