/-
  The walks beneath the laws of lists made one: faults, copies.
-/
import Derived.Test.YtlebbkbbmgmmjadMergeB
import Derived.Test.YtlebbkbbmgmmjadExt
namespace Go.Proofs.Ytlebbkbbmgmmjad
open Go.RowKit

set_option maxRecDepth 100000 in
set_option maxHeartbeats 1000000 in
theorem lListsFault_any (v : Value) (ls : List (List Cl)) (w : World) (hv : RdL w v ls) :
    Calls Try.prog 11 #[v] w fun e w' => e = .returned (fltC (lfR ls)) ∧ Below w.heap.size w w' := by
  obtain ⟨ao, cap, hvv, hc1, hc2⟩ := hv.shape
  subst hvv
  unfold maxLen at hc2
  by_cases hbig : 20 < ls.length
  · have HE := hide (show lfR ls = (2, -1) by simp [lfR, hbig])
    go_enter Try.func11, Try.ntmps11
    go_wp2_with fail
    have hR0 := Bk.new w 28 #[.int .i64 0, .int .i64 0]
    refine (FC_any 2 (-1) _).mono ?_
    rintro e w1 ⟨rfl, hb1⟩
    have hR1 := hR0.below hb1 (by simp)
    have hbw1 : Below w.heap.size w w1 := (below_alloc' _ _).trans (hb1.mono (by simp))
    have r0 := hR1.cell 0
    have r1 := hR1.cell 1
    have r2 := hR1.frozen 0
    have r3 := hR1.frozen 1
    have hsr := hR1.lt
    simp at r0 r1
    unfold fltC
    clear hb1 hR0
    go_wp2_with fail
    exact bodyPost_ret (v := fltC (2, -1)) (by simp [results, Try.results11, go_sem, fltC, r0, r1]) rfl ⟨by rw [HE.out], by go_grown⟩
  · have HF := hide (show lfR ls = firstG (lcode ls) ls.length 0 by simp [lfR, hbig])
    go_enter Try.func11, Try.ntmps11
    go_wp2_with fail
    go_loopw [3] (fun i wr => ∃ k : Nat, k ≤ ls.length ∧ i = .int .i64 k ∧ firstG (lcode ls) (ls.length - k) k = lfR ls ∧ Below (w.heap.size + 1) (w.alloc (.cells #[.int .i64 0, .int .i64 0] 28)) wr)
      (fun i _ => ls.length - (intOf i).toNat)
    case atStart => exact ⟨0, by omega, rfl, by rw [HF.out]; rfl, Below.refl _ _⟩
    case round =>
      obtain ⟨k, hk, rfl, hgo, hbel⟩ := hrel
      have HG := hide hgo
      clear hgo
      obtain ⟨hf0, hf1, hfr0, hfr1, hsz⟩ := two_later hbel
      have hbf := below_first hbel
      by_cases hlt : k < ls.length
      · obtain ⟨l, hl⟩ : ∃ l, ls[k]? = some l := ⟨_, List.getElem?_eq_getElem hlt⟩
        obtain ⟨b, off, u, rfl, hb, hcell, hrc⟩ := hv.here hl
        have hc0 := (hbf.cell (p := ⟨b, off + k, none⟩) hb).trans hcell
        have hk1 : (0 : Int) ≤ (k : Int) := by omega
        have hk2 : (k : Int) < (ls.length : Int) := by omega
        have HLC := hide (lcode_at hl)
        obtain ⟨uo, uc, huu, _, _⟩ := hrc.shape
        subst huu
        clear hl hcell
        go_wp2_with fail
        refine (CellsFault_any _ l _ (hrc.below hbf)).mono ?_
        rintro e w1 ⟨rfl, hb1⟩
        have hbel1 := hbel.trans (hb1.mono (by omega))
        have hbf1 := below_first hbel1
        have hz1 := hbel1.size
        rw [show (w.alloc (.cells #[.int .i64 0, .int .i64 0] 28)).heap.size = w.heap.size + 1 by simp] at hz1
        by_cases h0 : (checkC l).1 = 0
        · have HE := hide (firstG_next (f := lcode ls) (m := ls.length - k) (i := k) (by rw [HLC.out]; exact h0) (by omega))
          rw [checkC_zero h0]
          have hbel2 := hbel1.alloc (by omega) (.cells #[.int .i64 0, .int .i64 0] 28)
          have HB2 := hide hbel2
          clear hbel2
          unfold fltC
          go_wp2_with fail
          go_roundw
          case rel => exact ⟨k + 1, by omega, by go_num, by rw [← HG.out, HE.out]; congr 1, HB2.out⟩
          case measure => simp [intOf]; omega
        · have HE := hide (firstG_hit (f := lcode ls) (m := ls.length - k) (i := k) (by rw [HLC.out]; exact h0) (by omega))
          have HQ : Hid (lfR ls = ((checkC l).1, (k : Int))) := hide (by rw [← HG.out, HE.out, HLC.out])
          have hcb : ((checkC l).1 == 0) = false := beq_eq_false_iff_ne.2 h0
          have hcb2 : ((checkC l).1 != 0) = true := by simp [h0]
          generalize checkC l = rr at *
          obtain ⟨x, y⟩ := rr
          simp only at hcb hcb2 HQ
          clear h0
          have hbel2 := hbel1.alloc (by omega) (.cells #[.int .i64 x, .int .i64 y] 28)
          have HB2 := hide hbel2
          clear hbel2
          unfold fltC
          go_wp2_with fail
          refine (FC_any x k _).mono ?_
          rintro e w2 ⟨rfl, hb2⟩
          have hbel3 := HB2.out.trans (hb2.mono (by simp; omega))
          obtain ⟨gf0, gf1, gfr0, gfr1, gsz⟩ := two_later hbel3
          have hbf3 := below_first hbel3
          unfold fltC
          clear hb2
          go_wp2_with fail
          exact bodyPost_ret (v := fltC (x, k)) (by simp [results, Try.results11, go_sem, fltC, gf0, gf1]) rfl ⟨by rw [HQ.out], by go_grown⟩
      · have hz : ls.length - k = 0 := by omega
        rw [hz] at HG
        go_wp2_with fail
        exact bodyPost_ret (v := fltC (0, 0)) (by simp [results, Try.results11, go_sem, fltC, hf0, hf1]) rfl ⟨by rw [← HG.out]; rfl, by go_grown⟩

theorem RdC.ext {w w' : World} {r r' v : Value} {cs : List Cl} (h : RdC w v cs) (he : Ext w w' r r') (ho : Off r v) : RdC w' v cs := by
  obtain ⟨ao, cap, hv, h1, h2, h3, h4⟩ := h
  refine ⟨ao, cap, hv, h1, h2, h3, fun a ha j u hu => ?_⟩
  have hc := h4 a ha j u hu
  have hlt := World.block_lt_of_cell? w _ hc
  have hb : (a.add j).block = a.block := by unfold Addr.add; split <;> rfl
  have hl := (List.getElem?_eq_some_iff.1 hu).1
  rw [cc_length] at hl
  rw [he.cell hlt (by rw [hb]; exact ho a _ _ (by rw [hv, ha]) (by omega))]
  exact hc

theorem OffC.ext {w w' : World} {r r' v : Value} {cs : List Cl} (h : RdC w v cs) (he : Ext w w' r r') (ho : Off r v) : Off r' v := by
  intro a l c hv hl
  have ho' := ho a l c hv hl
  obtain ⟨ao, cap, hv', h1, h2, h3, h4⟩ := h
  rw [hv] at hv'
  simp only [Value.slice.injEq] at hv'
  obtain ⟨rfl, rfl, rfl⟩ := hv'
  have hpos : 0 < (cc cs).length := by rw [cc_length]; omega
  have hc := h4 a rfl 0 (cc cs)[0] (by simp)
  have hlt := World.block_lt_of_cell? w _ hc
  have hb : (a.add 0).block = a.block := by unfold Addr.add; split <;> rfl
  rw [hb] at hlt
  exact he.apart hlt ho'

/-- The pieces lie off a row, and read as lists. -/
def PcO (w : World) (r : Value) (vs : List Value) (ls : List (List Cl)) : Prop := Pcs w vs ls ∧ ∀ u ∈ vs, Off r u

theorem PcO.ext {w w' : World} {r r' : Value} {vs : List Value} {ls : List (List Cl)} (h : PcO w r vs ls) (he : Ext w w' r r') : PcO w' r' vs ls := by
  obtain ⟨⟨h1, h2, h3⟩, h4⟩ := h
  refine ⟨⟨h1, h2, fun i u l hu hl => (h3 i u l hu hl).ext he (h4 u (List.mem_of_getElem? hu))⟩, fun u hu => ?_⟩
  obtain ⟨i, hi, e⟩ := List.getElem_of_mem hu
  have hg : vs[i]? = some u := by rw [List.getElem?_eq_getElem hi, e]
  exact OffC.ext (h3 i u _ hg (List.getElem?_eq_getElem (by omega))) he (h4 u hu)

theorem PcO.snoc {w : World} {r : Value} {vs : List Value} {ls : List (List Cl)} (h : PcO w r vs ls) {u : Value} {l : List Cl} (hu : RdC w u l) (ho : Off r u) : PcO w r (vs ++ [u]) (ls ++ [l]) :=
  ⟨h.1.snoc hu, fun x hx => (List.mem_append.1 hx).elim (h.2 x) (fun h => by simp at h; rw [h]; exact ho)⟩

set_option maxRecDepth 100000 in
set_option maxHeartbeats 1000000 in
theorem ownLists_any (v : Value) (ls : List (List Cl)) (w : World) (hv : RdL w v ls) (hlen : ls.length ≤ 100) (hb : ∀ l ∈ ls, l.length ≤ 1000000) :
    Calls Try.prog 15 #[v] w fun e w' => ∃ v', e = .returned v' ∧ RdL w' v' ls ∧ (∃ vs, w'.ownsRow w.heap.size 30 1 v' ls.length vs ∧ PcO w' v' vs ls) ∧ Below w.heap.size w w' := by
  obtain ⟨ao, cap, hvv, hc1, hc2⟩ := hv.shape
  subst hvv
  unfold maxLen at hc2
  have HB := hide hb
  clear hb
  go_enter Try.func15, Try.ntmps15
  go_wp2_with fail
  go_loopw [3, 4] (fun o i wr => ∃ (k : Nat) (vs : List Value), k ≤ ls.length ∧ i = .int .i64 k ∧ PcO wr o vs (ls.take k) ∧ wr.ownsRow w.heap.size 30 1 o k vs ∧ Below w.heap.size w wr)
    (fun _ i _ => ls.length - (intOf i).toNat)
  case atStart => exact ⟨0, [], by omega, rfl, ⟨by simpa using Pcs.nil _, by simp⟩, World.ownsRow_nil _ _ _ _, Below.refl _ _⟩
  case round =>
    obtain ⟨k, vs, hk, rfl, hpc, hown, hbel⟩ := hrel
    have hzr := hbel.size
    by_cases hlt : k < ls.length
    · obtain ⟨l, hl⟩ : ∃ l, ls[k]? = some l := ⟨_, List.getElem?_eq_getElem hlt⟩
      obtain ⟨b, off, u, rfl, hb, hcell, hrc⟩ := hv.here hl
      have hc0 := (hbel.cell (p := ⟨b, off + k, none⟩) hb).trans hcell
      have hk1 : (0 : Int) ≤ (k : Int) := by omega
      have hk2 : (k : Int) < (ls.length : Int) := by omega
      obtain ⟨uo, uc, huu, _, _⟩ := hrc.shape
      subst huu
      have hll := HB.out l (List.mem_of_getElem? hl)
      have HTK : Hid (ls.take (k + 1) = ls.take k ++ [l]) := hide (by rw [List.take_add_one, hl]; rfl)
      have HPC := hide hpc
      obtain ⟨oo, ocap, hvo⟩ := owns_shape hown
      subst hvo
      have hl8 : k ≤ 1000000000000 := by omega
      clear hl hcell hpc
      go_wp2_with (first
        | (at_builtin; go_must (refine wpList_append_oneE how5 Try.underlying22 Try.info30 rfl rfl rfl rfl rfl rfl hl8 (by decide) hb8 ?_); intro v6 w6 ho6 hb6 he6)
        | (go_at_call 43; refine (ownCells_any _ l _ (hrc.below hbel) hll).mono ?_; rintro e w5 ⟨v5, rfl, hr5, hb5, hn5⟩; obtain ⟨ao5, cap5, hv5, _, _⟩ := hr5.shape; subst hv5; have how5 := owns_below hown hb5; have hb8 := Nat.le_trans hzr hb5.size))
      have hoff5 : Off (.slice oo k ocap) (.slice ao5 l.length cap5) := fun a l' c' he _ hg => by
        have h1 := hn5 a l' c' he
        have h2 := (hown.lt a.block hg).2
        omega
      have hpc5 := (HPC.out.ext (Ext.ofBelow _ hb5)).snoc hr5 hoff5
      have hpc6 := hpc5.ext he6
      rw [← HTK.out] at hpc6
      go_roundw
      case rel => exact ⟨k + 1, _, by omega, by go_num, hpc6, ho6, (hbel.trans (hb5.mono hzr)).trans hb6⟩
      case measure => simp [intOf]; omega
    · have hkl : k = ls.length := by omega
      subst hkl
      rw [List.take_length] at hpc
      have HPC := hide hpc
      have HX := hide (show RdL wr u3 ls from ⟨vs, Rd.ofOwns hown, hpc.1.1, hpc.1.2.1, hpc.1.2.2⟩)
      have HO := hide hown
      clear hpc hown
      go_wp2_with fail
      go_ret
      exact ⟨_, rfl, HX.out, ⟨vs, HO.out, HPC.out⟩, hbel⟩

end Go.Proofs.Ytlebbkbbmgmmjad
