/-
  Texts joined: AsW2.
-/
import Derived.Test.YtoeobhehjnkkkaaMLocateDoesAsW1
/-
  The walks over package assign's checks: slots, and Check.
-/
namespace Go.Proofs.Ytoeobhehjnkkkaa
open Go.RowKit Go.Maps
set_option linter.unusedVariables false

theorem parts_take {l : List Sl} {k : Nat} {s : Sl} (hs : l[k]? = some s) : parts (l.take (k + 1)) = parts (l.take k) ++ [s.p] := by
  rw [take_succ_of hs]
  simp [parts]

theorem owns_shapeA {w : World} {base : Nat} {e : TypeId} {K : Nat} {v : Value} {n : Nat} {xs : List Value} (h : w.ownsRow base e K v n xs) : ∃ ao cap, v = .slice ao n cap := by
  rcases h.2 with ⟨rfl, rfl, _⟩ | ⟨g, cap, cur, rfl, _⟩
  · exact ⟨none, 0, rfl⟩
  · exact ⟨_, _, rfl⟩

set_option maxRecDepth 100000 in
set_option maxHeartbeats 4000000 in
theorem partsOf_any (v : Value) (l : List Sl) (w : World) (hv : RdG slE w v l) (hl : l.length ≤ 1000) :
    Calls Try.prog 96 #[v] w fun e w' => ∃ v', e = .returned v' ∧ w'.ownsRow w.heap.size 44 3 v' l.length (pE.vs (parts l)) ∧ Below w.heap.size w w' := by
  have HV := hide hv
  obtain ⟨ao, cap, rfl, hc1, hc2⟩ := hv.shape
  unfold maxLen at hc2
  have HL := hide hl
  clear hv hl
  go_enter Try.func96, Try.ntmps96
  go_wp2_with fail
  go_loopw [3, 8] (fun ov iv wr => ∃ k : Nat, k ≤ l.length ∧ iv = .int .i64 k ∧ wr.ownsRow w.heap.size 44 3 ov k (pE.vs (parts (l.take k))) ∧ Below w.heap.size w wr)
    (fun _ iv _ => l.length - (intOf iv).toNat)
  case atStart => exact ⟨0, by omega, rfl, World.ownsRow_nil _ _ _ _, Below.refl _ _⟩
  case round =>
    obtain ⟨k, hk, rfl, hown, hbr⟩ := hrel
    obtain ⟨oo, ocap, rfl⟩ := owns_shapeA hown
    by_cases hlt : k < l.length
    · have hll := HL.out
      obtain ⟨s, hp⟩ : ∃ s, l[k]? = some s := ⟨_, List.getElem?_eq_getElem hlt⟩
      obtain ⟨b, off, rfl, hb, hat⟩ := HV.out.here hp
      have hbw : b < wr.heap.size := Nat.lt_of_lt_of_le hb hbr.size
      obtain ⟨c0, c1, c2, c3, c4, c5⟩ := (hat.below hbr).slot
      have hk1 : (0 : Int) ≤ (k : Int) := by omega
      have hk2 : (k : Int) < (l.length : Int) := by omega
      have HP := hide (parts_take hp)
      have hbA := below_allocG wr (.cells #[.string s.p.fr, .string s.p.to_, .int .i64 s.p.id, .int .i64 s.st, .int .i64 s.ho, .int .i64 s.tu] 46)
      have HP1 := hide (Blk.new wr 46 #[.string s.p.fr, .string s.p.to_, .int .i64 s.p.id, .int .i64 s.st, .int .i64 s.ho, .int .i64 s.tu])
      have HO := hide (hown.alloc (.cells #[.string s.p.fr, .string s.p.to_, .int .i64 s.p.id, .int .i64 s.st, .int .i64 s.ho, .int .i64 s.tu] 46))
      have HBA := hide (hbr.trans (hbA.mono hbr.size))
      have hll2 := HBA.out.size
      clear hat hp hown hbA hbr
      go_upto_region 5 with fail
      generalize hWA : wr.alloc (.cells #[.string s.p.fr, .string s.p.to_, .int .i64 s.p.id, .int .i64 s.st, .int .i64 s.ho, .int .i64 s.tu] 46) = WA at HO HBA HP1 hll2 ⊢
      have p0 := HP1.out.cell 0
      have p1 := HP1.out.cell 1
      have p2 := HP1.out.cell 2
      have pl := HP1.out.lt
      simp at p0 p1 p2
      clear hWA c0 c1 c2 c3 c4 c5
      go_wp2_with (refine wpList_append_oneG (E := pE) (c := s.p) HO.out rfl Try.underlying89 infoPart rfl rfl rfl rfl rfl (by omega) (by decide) hll2 ?_; intro v2 w2 ho2 hb2 hg2; have HO2 := hide ho2; have HB2 := hide hb2; clear ho2 hb2 hg2)
      go_roundw
      case rel => exact ⟨k + 1, by omega, by go_num, by rw [HP.out]; exact HO2.out, HBA.out.trans HB2.out⟩
      case measure => simp [intOf]; omega
    · have hke : k = l.length := by omega
      subst hke
      rw [List.take_length] at hown
      have HO := hide hown
      have HB := hide hbr
      clear hown hbr
      go_wp2_with fail
      go_ret
      exact ⟨_, rfl, HO.out, HB.out⟩

theorem chkGo_at {l : List Pt} : ∀ {n i : Nat}, 0 ≤ (chkGo l n i).2 ∧ (chkGo l n i).2 ≤ (n : Int) + i
  | 0, i => by simp [chkGo]
  | n + 1, i => by
    by_cases h0 : codeP2 l i = 0
    · rw [chkGo_ok h0]
      have := chkGo_at (l := l) (n := n) (i := i + 1)
      omega
    · rw [chkGo_no h0]
      simp
      omega

theorem chkP_at (l : List Pt) : -1 ≤ (chkP l).2 ∧ (chkP l).2 ≤ 200 := by
  unfold chkP
  split
  · simp
  · split
    · simp
    · have := chkGo_at (l := l) (n := l.length) (i := 0)
      omega

theorem chkP_z {l : List Pt} (h : (chkP l).1 = 0) : chkP l = (0, 0) := chkP_ok (chkP_fine.1 h)

set_option maxRecDepth 100000 in
set_option maxHeartbeats 4000000 in
theorem partsFault_any (v : Value) (l : List Sl) (w : World) (hv : RdG slE w v l) (hl : l.length ≤ 1000) (hwf : WfP (parts l)) :
    Calls Try.prog 72 #[v] w fun e w' => e = .returned (flt (chkQ l)) ∧ Below w.heap.size w w' := by
  have HPO := hide (partsOf_any v l (w.alloc (.cells #[.int .i64 0, .int .i64 0] 30)) (hv.alloc _) hl)
  have HWF := hide hwf
  have HAT := hide (chkP_at (parts l))
  have HZ := hide (fun h => chkP_z (l := parts l) h)
  have HQ : Hid (chkQ l = if (chkP (parts l)).1 = 0 then (0, 0) else ((chkP (parts l)).1, (chkP (parts l)).2 - 1000)) := hide rfl
  obtain ⟨ao, cap, rfl, hc1, hc2⟩ := hv.shape
  have HR0 := hide (Blk.new w 30 #[.int .i64 0, .int .i64 0])
  have HB0 := hide (below_allocG w (.cells #[.int .i64 0, .int .i64 0] 30))
  clear hv hl hwf hc1 hc2
  go_enter Try.func72, Try.ntmps72
  go_wp2_with fail
  refine HPO.out.mono ?_
  rintro e w1 ⟨v1, rfl, ho1, hb1⟩
  have HR1 := hide (HR0.out.later hb1)
  have HB1 := hide (HB0.out.trans (hb1.mono HB0.out.size))
  have HPC := hide (PCheck_any v1 (parts l) w1 (RdG.ofOwns (by simpa [parts] using ho1)) HWF.out)
  obtain ⟨a1, n1, rfl⟩ := owns_shapeA ho1
  generalize chkP (parts l) = K at *
  obtain ⟨x, y⟩ := K
  clear ho1 hb1 HPO HR0 HB0
  go_wp2_with fail
  refine HPC.out.mono ?_
  rintro e w2 ⟨rfl, hb2⟩
  have hbT := below_allocG w2 (.cells #[.int .i64 x, .int .i64 y] 30)
  have HR2 := hide ((HR1.out.later hb2).later hbT)
  have HB2 := hide ((HB1.out.trans (hb2.mono HB1.out.size)).trans (hbT.mono (HB1.out.trans (hb2.mono HB1.out.size)).size))
  have HT2 := hide (Blk.new w2 30 #[.int .i64 x, .int .i64 y])
  have HNE := hide (show w.heap.size < w2.heap.size from (HR1.out.later hb2).lt)
  have t0 := HT2.out.cell 0
  have t1 := HT2.out.cell 1
  have tl := HT2.out.lt
  simp at t0 t1 tl
  clear hb2 hbT HPC HR1 HB1
  unfold flt
  by_cases hx : x = 0
  · subst hx
    have hy := HZ.out rfl
    simp only [Prod.mk.injEq, true_and] at hy
    subst hy
    have HE := hide (HQ.out.trans (if_pos rfl))
    clear t0 t1 tl
    go_wp2_with (first
      | (refine wpList_load_blk HT2.out Try.underlying30 rfl Try.sizeFaultA rfl rfl rfl ?_)
      | (refine wpList_store_blk rfl rfl rfl rfl HR2.out rfl Try.sizeFaultA rfl ?_; intro w3 hR3 hg3; have HR3 := hide hR3; have HB3 := hide (below_grownO HB2.out hg3 (fun k hk => by cases hk; omega) HB2.out.size); clear hR3 hg3))
    refine bodyPost_ret (v := .agg #[.int .i64 0, .int .i64 0]) (results1_cell Try.results72 rfl (run_loadVar_blk HR3.out Try.underlying30 rfl Try.sizeFaultA)) rfl ?_
    exact ⟨by rw [HE.out]; rfl, HB3.out⟩
  · have hq : (x == 0) = false := beq_eq_false_iff_ne.2 hx
    have hq2 : (x != 0) = true := by simp [hx]
    have HE := hide (HQ.out.trans (if_neg hx))
    have hwr : IntKind.i64.wrap (y - 1000) = y - 1000 := by
      have := HAT.out
      rw [IntKind.wrap_i64]
      omega
    clear hx HZ HAT
    go_wp2_with (first
      | (refine wpList_load_blk HT2.out Try.underlying30 rfl Try.sizeFaultA rfl rfl rfl ?_)
      | (refine wpList_store_int (k := 1) rfl rfl rfl rfl HT2.out rfl Try.sizeInt1 ?_; intro w3 hT3 hg3; have HT3 := hide hT3; have HR3 := hide (HR2.out.grown hg3 (fun q => by simp at q; have := HNE.out; omega)); have HB3 := hide (below_grownO HB2.out hg3 (fun k hk => by cases hk; have := HNE.out; omega) HB2.out.size); clear hT3 hg3)
      | (refine wpList_load_blk HT3.out Try.underlying30 rfl Try.sizeFaultA rfl rfl rfl ?_)
      | (refine wpList_store_blk rfl rfl rfl rfl HR3.out rfl Try.sizeFaultA rfl ?_; intro w4 hR4 hg4; have HR4 := hide hR4; have HB4 := hide (below_grownO HB3.out hg4 (fun k hk => by cases hk; omega) HB3.out.size); clear hR4 hg4))
    refine bodyPost_ret (v := .agg #[.int .i64 x, .int .i64 (y - 1000)]) (results1_cell Try.results72 rfl (run_loadVar_blk HR4.out Try.underlying30 rfl Try.sizeFaultA)) rfl ?_
    exact ⟨by rw [HE.out]; rfl, HB4.out⟩

end Go.Proofs.Ytoeobhehjnkkkaa
