/-
  Texts joined: RaftR8, RaftR6, RaftR9, RaftR10, RaftR11m.
-/
import Derived.Test.YtddkjpojbflmjahMRaftDoes9
/-
  The walk over the document's RestartNode. (Written by rr8.py.)
-/
namespace Go.Proofs.Ytddkjpojbflmjah
open Go.RowKit Go.Maps
set_option linter.unusedVariables false

theorem NodeFault_w (x : Nd) (lv vv nv hv : Value) (w : World) (hx : RdNd w x lv vv nv hv) (hwf : True) :
    Calls Try.prog 21 #[ndV x lv vv nv hv] w fun e w' => e = .returned (flt (chkN x)) ∧ Below w.heap.size w w' := NodeFault_any x lv vv nv hv w hx

set_option maxRecDepth 100000 in
set_option maxHeartbeats 8000000 in
theorem RestartNode_any (x : Nd) (lv vv nv hv : Value) (w : World) (hx : RdNd w x lv vv nv hv) :
    Calls Try.prog 25 #[ndV x lv vv nv hv] w fun e w' => ∃ lv' vv' nv' hv', e = .returned (.tuple #[ndV (resN x) lv' vv' nv' hv', flt (chkN x)]) ∧ RdNd w' (resN x) lv' vv' nv' hv' ∧ Below w.heap.size w w' := by
  have hwf : True := trivial
  have HOK := hide (fun h => And.intro (@chkN_fine x h) trivial)
  have HX := hide hx
  have HZ := hide (chkN_z x)
  obtain ⟨n, id, te, vo, lo, ro, co, vs, ns, hs⟩ := x
  obtain ⟨h1, h2, h3, h4⟩ := hx
  simp only at h1 h2 h3 h4
  obtain ⟨ao, cap, rfl, hc1, hc2⟩ := h1.shape
  obtain ⟨bo, cap2, rfl, hd1, hd2⟩ := h2.shape
  obtain ⟨no, cap3, rfl, _, _⟩ := h3.shape
  obtain ⟨ho, cap4, rfl, _, _⟩ := h4.shape
  have hN3 := three_atR w #[.int .i64 n, .int .i64 id, .int .i64 te, .int .i64 vo, .slice ao lo.length cap, .int .i64 ro, .int .i64 co, .slice bo vs.length cap2, .slice no ns.length cap3, .slice ho hs.length cap4] #[.int .i64 0, .int .i64 0, .int .i64 0, .int .i64 0, .slice none 0 0, .int .i64 0, .int .i64 0, .slice none 0 0, .slice none 0 0, .slice none 0 0] #[.int .i64 0, .int .i64 0] 34 34 26
  obtain ⟨hP, hR, hQ, hA, hS⟩ := hN3
  have HC1 := hide (NodeFault_w ⟨n, id, te, vo, lo, ro, co, vs, ns, hs⟩ _ _ _ _ _ (HX.out.below hA) hwf)
  generalize hK : chkN ⟨n, id, te, vo, lo, ro, co, vs, ns, hs⟩ = F at *
  have HFK := hide hK
  obtain ⟨p, q⟩ := F
  unfold ndV ndA at HC1
  unfold ndV ndA
  have HP := hide hP
  have HR := hide hR
  have HQ := hide hQ
  have HA := hide hA
  have HS := hide hS
  clear h1 h2 h3 h4 hP hR hQ hA hS hK
  go_enter Try.func25, Try.ntmps25
  go_wp2_with (refine wpList_load_blk HP.out Try.underlying34 rfl Try.sizeNode rfl rfl rfl ?_)
  refine HC1.out.mono ?_
  rintro e w1 ⟨rfl, hb1⟩
  have hN := below_allocG w1 (.cells #[.int .i64 p, .int .i64 q] 26)
  have HP1 := hide ((HP.out.later hb1).later hN)
  have HR1 := hide ((HR.out.later hb1).later hN)
  have HQ1 := hide ((HQ.out.later hb1).later hN)
  have hAA := HA.out.trans (hb1.mono HA.out.size)
  have HA1 := hide (hAA.trans (hN.mono hAA.size))
  have HS1 := hide (show w.heap.size + 3 ≤ w1.heap.size by have := hb1.size; have := HS.out; omega)
  have hW1 := (Blk.new w1 26 #[.int .i64 p, .int .i64 q])
  have f0 := hW1.cell 0
  have f1 := hW1.cell 1
  simp at f0 f1
  clear hb1 hN hAA hW1 HC1 HP HR HQ HA HS
  unfold flt
  by_cases hp : p ≠ 0
  · have hq : (p == 0) = false := beq_eq_false_iff_ne.2 hp
    have hq2 : (p != 0) = true := by simp [hp]
    have HE := hide (show resN ⟨n, id, te, vo, lo, ro, co, vs, ns, hs⟩ = noNd from if_neg (by rw [HFK.out]; exact hp))
    clear hp
    have hrq : w.heap.size + 1 ≠ w.heap.size + 1 + 1 := by omega
    have hqr : w.heap.size + 1 + 1 ≠ w.heap.size + 1 := by omega
    have hfr : w1.heap.size ≠ w.heap.size + 1 := by have := HS1.out; omega
    have hfq : w1.heap.size ≠ w.heap.size + 1 + 1 := by have := HS1.out; omega
    have ra0 := HR1.out.cell 0
    have raz0 := HR1.out.frozen 0
    have ra1 := HR1.out.cell 1
    have raz1 := HR1.out.frozen 1
    have ra2 := HR1.out.cell 2
    have raz2 := HR1.out.frozen 2
    have ra3 := HR1.out.cell 3
    have raz3 := HR1.out.frozen 3
    have ra4 := HR1.out.cell 4
    have raz4 := HR1.out.frozen 4
    have ra5 := HR1.out.cell 5
    have raz5 := HR1.out.frozen 5
    have ra6 := HR1.out.cell 6
    have raz6 := HR1.out.frozen 6
    have ra7 := HR1.out.cell 7
    have raz7 := HR1.out.frozen 7
    have ra8 := HR1.out.cell 8
    have raz8 := HR1.out.frozen 8
    have ra9 := HR1.out.cell 9
    have raz9 := HR1.out.frozen 9
    have ral := HR1.out.lt
    simp at ra0 ra1 ra2 ra3 ra4 ra5 ra6 ra7 ra8 ra9
    have qa0 := HQ1.out.cell 0
    have qaz0 := HQ1.out.frozen 0
    have qa1 := HQ1.out.cell 1
    have qaz1 := HQ1.out.frozen 1
    have qal := HQ1.out.lt
    simp at qa0 qa1
    go_wp2_with fail
    go_region
    all_goals
      obtain ⟨hR9, hQ9, hA9, _, _⟩ := setL_two (w := w) (C := w.heap.size) [.int .i64 0, .int .i64 0, .int .i64 0, .int .i64 0, .slice none 0 0, .int .i64 0, .int .i64 0, .slice none 0 0, .slice none 0 0, .slice none 0 0] [.int .i64 p, .int .i64 q] HR1.out HQ1.out hrq rfl rfl HA1.out (by omega) (by omega)
      have HR9 := hide hR9
      have HQ9 := hide hQ9
      have HA9 := hide hA9
      simp only [setL] at HR9 HQ9 HA9
      clear hR9 hQ9 hA9 ra0 raz0 ra1 raz1 ra2 raz2 ra3 raz3 ra4 raz4 ra5 raz5 ra6 raz6 ra7 raz7 ra8 raz8 ra9 raz9 ral qa0 qaz0 qa1 qaz1 qal f0 f1
      generalize (((((((((((((w1.alloc (.cells #[.int .i64 p, .int .i64 q] 26)).setCell ⟨w.heap.size + 1, 0, none⟩ (.int .i64 0)).setCell ⟨w.heap.size + 1, 1, none⟩ (.int .i64 0)).setCell ⟨w.heap.size + 1, 2, none⟩ (.int .i64 0)).setCell ⟨w.heap.size + 1, 3, none⟩ (.int .i64 0)).setCell ⟨w.heap.size + 1, 4, none⟩ (.slice none 0 0)).setCell ⟨w.heap.size + 1, 5, none⟩ (.int .i64 0)).setCell ⟨w.heap.size + 1, 6, none⟩ (.int .i64 0)).setCell ⟨w.heap.size + 1, 7, none⟩ (.slice none 0 0)).setCell ⟨w.heap.size + 1, 8, none⟩ (.slice none 0 0)).setCell ⟨w.heap.size + 1, 9, none⟩ (.slice none 0 0)).setCell ⟨w.heap.size + 1 + 1, 0, none⟩ (.int .i64 p)).setCell ⟨w.heap.size + 1 + 1, 1, none⟩ (.int .i64 q)).drew = wz at HR9 HQ9 HA9 ⊢
      go_wp2_with fail
      refine bodyPost_ret (results2_cells Try.results25 rfl rfl (run_loadVar_blk HR9.out Try.underlying34 rfl Try.sizeNode) (run_loadVar_blk HQ9.out Try.underlying26 rfl Try.sizeFaultR)) rfl ?_
      rw [HE.out]
      exact ⟨_, _, _, _, rfl, RdNd.no _, HA9.out⟩
  · obtain rfl : p = 0 := Decidable.not_not.1 hp
    obtain rfl : q = 0 := by have := HZ.out rfl; simpa using this
    have HE := hide (show resN ⟨n, id, te, vo, lo, ro, co, vs, ns, hs⟩ = Nd.rest ⟨n, id, te, vo, lo, ro, co, vs, ns, hs⟩ from if_pos (by rw [HFK.out]))
    obtain ⟨hfine, hmore⟩ := HOK.out rfl
    obtain ⟨sm1, sm2, sm3, sm4⟩ := hfine.small
    have HFI := hide hfine
    have HMO := hide hmore
    clear hp hfine hmore f0 f1
    have HSW := hide (show w.heap.size + 3 ≤ (w1.alloc (.cells #[.int .i64 0, .int .i64 0] 26)).heap.size by have := HS1.out; simp; omega)
    have HFO := hide (Follower_any ⟨n, id, te, vo, lo, ro, co, vs, ns, hs⟩ _ _ _ _ _ (HX.out.below HA1.out) (by simp only at sm1 ⊢; omega))
    have HW1 := hide (Blk.new w1 26 #[.int .i64 0, .int .i64 0])
    have hw1S := HS1.out
    unfold ndV ndA at HFO
    go_upto_region 4 with fail
    generalize hW : w1.alloc (.cells #[.int .i64 0, .int .i64 0] 26) = W at HP1 HR1 HQ1 HA1 HFO HSW HW1 ⊢
    clear hW
    go_wp2_with (refine wpList_load_blk HP1.out Try.underlying34 rfl Try.sizeNode rfl rfl rfl ?_)
    refine HFO.out.mono ?_
    rintro e w2 ⟨lv2, rfl, ho2, hb2⟩
    obtain ⟨lo2, lc2, hs1⟩ := owns_shapeK ho2
    subst hs1
    unfold Nd.follow
    dsimp only at ho2 ⊢
    have HO2 := hide ho2
    have hNB := below_allocG w2 (.cells #[.int .i64 n, .int .i64 id, .int .i64 te, .int .i64 vo, .slice lo2 lo.length lc2, .int .i64 0, .int .i64 co, .slice none 0 0, .slice none 0 0, .slice none 0 0] 34)
    have HB2 := hide (Blk.new w2 34 #[.int .i64 n, .int .i64 id, .int .i64 te, .int .i64 vo, .slice lo2 lo.length lc2, .int .i64 0, .int .i64 co, .slice none 0 0, .slice none 0 0, .slice none 0 0])
    have hbw := hb2.trans (hNB.mono hb2.size)
    have HR2 := hide (HR1.out.later hbw)
    have HQ2 := hide (HQ1.out.later hbw)
    have HF2 := hide (HW1.out.later hbw)
    have HA2 := hide (HA1.out.trans (hbw.mono HA1.out.size))
    have HO3 := hide (owns_later ho2 hNB)
    have hz2 := hb2.size
    clear ho2 hb2 hNB hbw HFO
    go_upto_region 6 with (refine wpList_store_int (k := 6) rfl rfl rfl rfl HB2.out rfl Try.sizeIntR ?_; intro w4 hB4 hg4; have HB4 := hide hB4; have HR4 := hide (HR2.out.grown hg4 (by simp; have := HSW.out; omega)); have HQ4 := hide (HQ2.out.grown hg4 (by simp; have := HSW.out; omega)); have HF4 := hide (HF2.out.grown hg4 (by simp; have := HW1.out.lt; omega)); have HA4 := hide (below_grownO HA2.out hg4 (fun k hk => by cases hk; have := HA1.out.size; omega) HA2.out.size); have HO4 := hide (HO3.out.kept hg4 (.inr (owns_off HO3.out HB2.out (by decide)))); clear hB4 hg4)
    have bn0 := HB4.out.cell 0
    have bnz0 := HB4.out.frozen 0
    have bn1 := HB4.out.cell 1
    have bnz1 := HB4.out.frozen 1
    have bn2 := HB4.out.cell 2
    have bnz2 := HB4.out.frozen 2
    have bn3 := HB4.out.cell 3
    have bnz3 := HB4.out.frozen 3
    have bn4 := HB4.out.cell 4
    have bnz4 := HB4.out.frozen 4
    have bn5 := HB4.out.cell 5
    have bnz5 := HB4.out.frozen 5
    have bn6 := HB4.out.cell 6
    have bnz6 := HB4.out.frozen 6
    have bn7 := HB4.out.cell 7
    have bnz7 := HB4.out.frozen 7
    have bn8 := HB4.out.cell 8
    have bnz8 := HB4.out.frozen 8
    have bn9 := HB4.out.cell 9
    have bnz9 := HB4.out.frozen 9
    have bnl := HB4.out.lt
    simp at bn0 bn1 bn2 bn3 bn4 bn5 bn6 bn7 bn8 bn9
    have ra0 := HR4.out.cell 0
    have raz0 := HR4.out.frozen 0
    have ra1 := HR4.out.cell 1
    have raz1 := HR4.out.frozen 1
    have ra2 := HR4.out.cell 2
    have raz2 := HR4.out.frozen 2
    have ra3 := HR4.out.cell 3
    have raz3 := HR4.out.frozen 3
    have ra4 := HR4.out.cell 4
    have raz4 := HR4.out.frozen 4
    have ra5 := HR4.out.cell 5
    have raz5 := HR4.out.frozen 5
    have ra6 := HR4.out.cell 6
    have raz6 := HR4.out.frozen 6
    have ra7 := HR4.out.cell 7
    have raz7 := HR4.out.frozen 7
    have ra8 := HR4.out.cell 8
    have raz8 := HR4.out.frozen 8
    have ra9 := HR4.out.cell 9
    have raz9 := HR4.out.frozen 9
    have ral := HR4.out.lt
    simp at ra0 ra1 ra2 ra3 ra4 ra5 ra6 ra7 ra8 ra9
    have qa0 := HQ4.out.cell 0
    have qaz0 := HQ4.out.frozen 0
    have qa1 := HQ4.out.cell 1
    have qaz1 := HQ4.out.frozen 1
    have qal := HQ4.out.lt
    simp at qa0 qa1
    have fa0 := HF4.out.cell 0
    have faz0 := HF4.out.frozen 0
    have fa1 := HF4.out.cell 1
    have faz1 := HF4.out.frozen 1
    have fal := HF4.out.lt
    simp at fa0 fa1
    have hrq : w.heap.size + 1 ≠ w.heap.size + 1 + 1 := by omega
    have hqr : w.heap.size + 1 + 1 ≠ w.heap.size + 1 := by omega
    have n1 : w2.heap.size ≠ w.heap.size + 1 := by have := HSW.out; omega
    have n2 : w2.heap.size ≠ w.heap.size + 1 + 1 := by have := HSW.out; omega
    have n3 : w1.heap.size ≠ w.heap.size + 1 := by omega
    have n4 : w1.heap.size ≠ w.heap.size + 1 + 1 := by omega
    go_wp2_with fail
    go_region
    all_goals
      obtain ⟨hR9, hQ9, hA9, _, _⟩ := setL_two (w := w) (C := w.heap.size) [.int .i64 n, .int .i64 id, .int .i64 te, .int .i64 vo, .slice lo2 lo.length lc2, .int .i64 0, .int .i64 0, .slice none 0 0, .slice none 0 0, .slice none 0 0] [.int .i64 0, .int .i64 0] HR4.out HQ4.out hrq rfl rfl HA4.out (by omega) (by omega)
      have hO9 := owns_offB (owns_offB HO4.out (setL_grown (w.heap.size + 1) [.int .i64 n, .int .i64 id, .int .i64 te, .int .i64 vo, .slice lo2 lo.length lc2, .int .i64 0, .int .i64 0, .slice none 0 0, .slice none 0 0, .slice none 0 0] w4 0) (by have := HSW.out; omega)) (setL_grown (w.heap.size + 1 + 1) [.int .i64 0, .int .i64 0] _ 0) (by have := HSW.out; omega)
      have hO10 := (RdG.ofOwns (E := eE) (cs := lo) hO9).drew
      have HR9 := hide hR9
      have HQ9 := hide hQ9
      have HA9 := hide hA9
      have HO9 := hide hO10
      simp only [setL] at HR9 HQ9 HA9 HO9
      clear hR9 hQ9 hA9 hO9 hO10 bn0 bnz0 bn1 bnz1 bn2 bnz2 bn3 bnz3 bn4 bnz4 bn5 bnz5 bn6 bnz6 bn7 bnz7 bn8 bnz8 bn9 bnz9 bnl ra0 raz0 ra1 raz1 ra2 raz2 ra3 raz3 ra4 raz4 ra5 raz5 ra6 raz6 ra7 raz7 ra8 raz8 ra9 raz9 ral qa0 qaz0 qa1 qaz1 qal fa0 faz0 fa1 faz1 fal
      generalize ((((((((((((w4.setCell ⟨w.heap.size + 1, 0, none⟩ (.int .i64 n)).setCell ⟨w.heap.size + 1, 1, none⟩ (.int .i64 id)).setCell ⟨w.heap.size + 1, 2, none⟩ (.int .i64 te)).setCell ⟨w.heap.size + 1, 3, none⟩ (.int .i64 vo)).setCell ⟨w.heap.size + 1, 4, none⟩ (.slice lo2 lo.length lc2)).setCell ⟨w.heap.size + 1, 5, none⟩ (.int .i64 0)).setCell ⟨w.heap.size + 1, 6, none⟩ (.int .i64 0)).setCell ⟨w.heap.size + 1, 7, none⟩ (.slice none 0 0)).setCell ⟨w.heap.size + 1, 8, none⟩ (.slice none 0 0)).setCell ⟨w.heap.size + 1, 9, none⟩ (.slice none 0 0)).setCell ⟨w.heap.size + 1 + 1, 0, none⟩ (.int .i64 0)).setCell ⟨w.heap.size + 1 + 1, 1, none⟩ (.int .i64 0)).drew = wz at HR9 HQ9 HA9 HO9 ⊢
      go_wp2_with fail
      refine bodyPost_ret (results2_cells Try.results25 rfl rfl (run_loadVar_blk HR9.out Try.underlying34 rfl Try.sizeNode) (run_loadVar_blk HQ9.out Try.underlying26 rfl Try.sizeFaultR)) rfl ?_
      rw [HE.out]
      exact ⟨_, _, _, _, rfl, ⟨HO9.out, RdG.nil _, RdG.nil _, RdG.nil _⟩, HA9.out⟩

end Go.Proofs.Ytddkjpojbflmjah

/-
  The walk over the document's Beats. (Written by rr6.py.)
-/
namespace Go.Proofs.Ytddkjpojbflmjah
open Go.RowKit Go.Maps
set_option linter.unusedVariables false

theorem lastT_take {l : List Et} {A : Nat} (h : A ≤ l.length) : lastT (l.take A) = termP l A := by
  rw [← termP_last]
  have hl : (l.take A).length = A := by simp; omega
  rw [hl]
  cases A with
  | zero => rfl
  | succ k => rw [termP, termP, List.getElem?_take, if_pos (by omega)]

set_option maxRecDepth 100000 in
set_option maxHeartbeats 8000000 in
theorem Beats_any (x : Nd) (lv vv nv hv : Value) (w : World) (hx : RdNd w x lv vv nv hv) (hn0 : 0 ≤ x.n) (hn7 : x.n ≤ 7) (hll : x.log.length ≤ 1000) (hnl : (x.next.length : Int) = x.n) (hnx : ∀ u ∈ x.next, 1 ≤ u ∧ u ≤ x.log.length + 1) :
    Calls Try.prog 55 #[ndV x lv vv nv hv] w fun e w' => ∃ v', e = .returned v' ∧ OwM w' w.heap.size v' x.beats ∧ Below w.heap.size w w' := by
  obtain ⟨X, hX⟩ : ∃ X, X = x := ⟨_, rfl⟩
  have HEX := hide hX
  obtain ⟨n, id, te, vo, lo, ro, co, vs, ns, hs⟩ := x
  obtain ⟨h1, h2, h3, h4⟩ := hx
  simp only at h1 h2 h3 h4
  obtain ⟨ao, cap, rfl, hc1, hc2⟩ := h1.shape
  obtain ⟨bo, cap2, rfl, hd1, hd2⟩ := h2.shape
  obtain ⟨no, cap3, rfl, _, _⟩ := h3.shape
  obtain ⟨ho, cap4, rfl, _, _⟩ := h4.shape
  simp only at hn0 hn7 hll hnl hnx
  have HVN := hide h3
  have HVL := hide h1
  have HA := hide (below_allocG w (.cells #[.int .i64 n, .int .i64 id, .int .i64 te, .int .i64 vo, .slice ao lo.length cap, .int .i64 ro, .int .i64 co, .slice bo vs.length cap2, .slice no ns.length cap3, .slice ho hs.length cap4] 34))
  have HB := hide (Blk.new w 34 #[.int .i64 n, .int .i64 id, .int .i64 te, .int .i64 vo, .slice ao lo.length cap, .int .i64 ro, .int .i64 co, .slice bo vs.length cap2, .slice no ns.length cap3, .slice ho hs.length cap4])
  obtain ⟨N, hN⟩ : ∃ N : Nat, n = N := ⟨n.toNat, by omega⟩
  have HBT : Hid (Nd.beats ⟨n, id, te, vo, lo, ro, co, vs, ns, hs⟩ = othGo X.id (beatM X) N) := hide (by rw [hX, show N = n.toNat by rw [hN]; rfl]; rfl)
  have HXI := hide (show X.id = id by rw [hX])
  have HMB : Hid (∀ k nx, ns[k]? = some nx → 1 ≤ nx → nx ≤ (lo.length : Int) + 1 → ∃ A : Nat, nx - 1 = (A : Int) ∧ A ≤ lo.length ∧ beatM X k = ⟨3, id, k, te, A, termP lo A, co, (lo.drop A).take 5, false⟩) := hide (fun k nx h a b => ⟨(nx - 1).toNat, by omega, by omega, by
    rw [hX]
    unfold beatM nxA mailN
    simp only [h, Option.getD_some]⟩)
  have hN7 : N ≤ 7 := by omega
  have HNX := hide hnx
  rw [HBT.out]
  unfold ndV ndA
  have hnlN : ns.length = N := by omega
  have HNL := hide hnlN
  subst hN
  clear h1 h2 h3 h4 hX hnl hnlN hnx
  go_enter Try.func55, Try.ntmps55
  have HSA := hide (show (w.alloc (.cells #[.int .i64 (N : Int), .int .i64 id, .int .i64 te, .int .i64 vo, .slice ao lo.length cap, .int .i64 ro, .int .i64 co, .slice bo vs.length cap2, .slice no ns.length cap3, .slice ho hs.length cap4] 34)).heap.size = w.heap.size + 1 by simp)
  generalize hA0 : w.alloc (.cells #[.int .i64 (N : Int), .int .i64 id, .int .i64 te, .int .i64 vo, .slice ao lo.length cap, .int .i64 ro, .int .i64 co, .slice bo vs.length cap2, .slice no ns.length cap3, .slice ho hs.length cap4] 34) = A0 at HA HB HSA
  go_upto_region 1 with fail
  try rw [hA0]
  clear hA0
  have HA1S := hide (show A0.heap.size = w.heap.size + 1 from HSA.out)
  go_wp2_with fail
  go_loopw [3, 4] (fun ov iv wr => ∃ k : Nat, k ≤ N ∧ iv = .int .i64 k ∧ OwM wr w.heap.size ov (othGo X.id (beatM X) k) ∧ Below A0.heap.size A0 wr)
    (fun _ iv _ => N - (intOf iv).toNat)
  case atStart => exact ⟨0, by omega, rfl, OwM.nil _ _, Below.refl _ _⟩
  case round =>
    obtain ⟨k, hk, rfl, how, hbr⟩ := hrel
    have HOW := hide how
    have HBR := hide hbr
    have HBr := hide (HB.out.later hbr)
    have HAr := hide (HA.out.trans (hbr.mono HA.out.size))
    have HLr := hide (HVL.out.below HAr.out)
    obtain ⟨fs, hrow, hmap, hents⟩ := how
    obtain ⟨oo, oc, hov⟩ := owns_shapeK hrow
    subst hov
    have d0 := HBr.out.cell 0
    have d1 := HBr.out.cell 1
    have d2 := HBr.out.cell 2
    have d4 := HBr.out.cell 4
    have d6 := HBr.out.cell 6
    have d8 := HBr.out.cell 8
    have dl := HBr.out.lt
    simp at d0 d1 d2 d4 d6 d8
    clear hbr
    by_cases hlt : k < N
    · have hd : decide ((k : Int) < (N : Int)) = true := decide_eq_true (by omega)
      by_cases hid : (k : Int) = id
      · have hq : ((k : Int) == id) = true := beq_iff_eq.2 hid
        have HS := hide (othGo_skip (f := beatM X) (show (k : Int) = X.id by rw [HXI.out]; exact hid))
        clear hid hrow hmap hents
        go_wp2_with fail
        go_roundw
        case rel => exact ⟨k + 1, by omega, by go_num, by rw [HS.out]; exact HOW.out, HBR.out⟩
        case measure => simp [intOf]; omega
      · have hq : ((k : Int) == id) = false := beq_eq_false_iff_ne.2 hid
        have HS := hide (othGo_one (f := beatM X) (show ¬ (k : Int) = X.id by rw [HXI.out]; exact hid))
        have hfl : fs.length ≤ 100 := by
          have h1 : fs.length = (othGo X.id (beatM X) k).length := by rw [← hmap, List.length_map]
          have h2 : ∀ j, (othGo X.id (beatM X) j).length ≤ j := by
            intro j
            induction j with
            | zero => simp [othGo]
            | succ j ih => rw [othGo]; split <;> simp <;> omega
          have := h2 k
          omega
        obtain ⟨nx, hnx0⟩ : ∃ u, ns[k]? = some u := ⟨_, List.getElem?_eq_getElem (by have := HNL.out; omega)⟩
        have hnb := HNX.out nx (List.mem_of_getElem? hnx0)
        obtain ⟨A, hA1, hA2, hMk⟩ := HMB.out k nx hnx0 hnb.1 hnb.2
        obtain ⟨b, off, rfl, hb, q⟩ := (HVN.out.below HAr.out).hereI hnx0
        have hk1 : (0 : Int) ≤ (k : Int) := by omega
        have hk2 : (k : Int) < (ns.length : Int) := by have := HNL.out; omega
        have hw1 : IntKind.i64.wrap (nx - 1) = (A : Int) := by rw [hA1, IntKind.wrap_i64]; omega
        have hw5 : IntKind.i64.wrap ((A : Int) + 5) = (A : Int) + 5 := by rw [IntKind.wrap_i64]; omega
        have hi0 : (0 : Int) ≤ (A : Int) := by omega
        have hi1 : (A : Int) ≤ (lo.length : Int) := by omega
        have hi2 : (A : Int) ≤ (cap : Int) := by omega
        have HLT := hide (fun W (hW : Below wr.heap.size wr W) => LastTerm_any _ (lo.take A) W ((HLr.out.upto2 (hi := A) hA2).below hW))
        rw [lastT_take hA2] at HLT
        have HMK := hide hMk
        generalize hL5 : (lo.drop A).take 5 = L5 at *
        have HL5 := hide hL5
        have hLn : L5.length ≤ 5 := by rw [← hL5]; simp; omega
        have HDR := hide (show Below wr.heap.size wr wr.drew from Below.drew (Below.refl _ _))
        have HMV := hide (show ∀ so9 sc9, mfE.v ⟨beatM X k, ⟨so9, L5.length, sc9⟩⟩ = [.int .i64 3, .int .i64 id, .int .i64 k, .int .i64 te, .int .i64 A, .int .i64 (termP lo A), .int .i64 co, .slice so9 L5.length sc9, .bool false] by intro so9 sc9; rw [hMk]; rfl)
        have HROWA := hide (show ∀ w9 so9 sc9, Below wr.heap.size wr w9 → (w9.alloc (.cells #[.int .i64 3, .int .i64 id, .int .i64 k, .int .i64 te, .int .i64 A, .int .i64 (termP lo A), .int .i64 co, .slice so9 L5.length sc9, .bool false] 50)).ownsRow w.heap.size 50 9 (.slice oo fs.length oc) fs.length (mfE.vs fs) from fun w9 so9 sc9 hb => (owns_later hrow hb).alloc _)
        have HROO := hide (show ∀ (w9 : World) (so9 : Option Addr) (sc9 : Nat), RdG mfE (w9.alloc (.cells #[.int .i64 3, .int .i64 id, .int .i64 k, .int .i64 te, .int .i64 A, .int .i64 (termP lo A), .int .i64 co, .slice so9 L5.length sc9, .bool false] 50)) (.slice (some ⟨w9.heap.size, 0, none⟩) 1 1) [⟨beatM X k, ⟨so9, L5.length, sc9⟩⟩] from fun w9 so9 sc9 => RdG.newL w9 [_] _ _ (by rw [vs_one1, HMV.out]) (by simp))
        have HSZZ := hide (show ∀ w9 so9 sc9, Below wr.heap.size wr w9 → w.heap.size ≤ (w9.alloc (.cells #[.int .i64 3, .int .i64 id, .int .i64 k, .int .i64 te, .int .i64 A, .int .i64 (termP lo A), .int .i64 co, .slice so9 L5.length sc9, .bool false] 50)).heap.size from fun w9 so9 sc9 hb => by have := hb.size; have := HAr.out.size; simp; omega)
        have HLL := hide (show ∀ f : Mf, fs.length + [f].length ≤ 1000000000 from fun f => by simp; omega)
        have HROW := hide hrow
        have HKEEP : Hid (∀ W, Below wr.heap.size wr W → W.cell? ⟨w.heap.size, 1, none⟩ = some (.int .i64 id) ∧ W.cell? ⟨w.heap.size, 2, none⟩ = some (.int .i64 te) ∧ W.cell? ⟨w.heap.size, 4, none⟩ = some (.slice ao lo.length cap) ∧ W.cell? ⟨w.heap.size, 6, none⟩ = some (.int .i64 co)) := hide (fun W hW => ⟨cell_belowG d1 hW, cell_belowG d2 hW, cell_belowG d4 hW, cell_belowG d6 hW⟩)
        have HKA := hide (show ∀ (w9 w5 : World) so9 sc9, Below wr.heap.size wr w9 → (w9.alloc (.cells #[.int .i64 3, .int .i64 id, .int .i64 k, .int .i64 te, .int .i64 A, .int .i64 (termP lo A), .int .i64 co, .slice so9 L5.length sc9, .bool false] 50)).grownBy w5 (Value.slice oo fs.length oc).ownBlock → w5.cell? ⟨w.heap.size, 1, none⟩ = some (.int .i64 id) ∧ w5.cell? ⟨w.heap.size, 2, none⟩ = some (.int .i64 te) ∧ w5.cell? ⟨w.heap.size, 4, none⟩ = some (.slice ao lo.length cap) ∧ w5.cell? ⟨w.heap.size, 6, none⟩ = some (.int .i64 co) from fun w9 w5 so9 sc9 hb hg => by
          have h1 := HROWA.out w9 so9 sc9 hb
          have h2 := (HBr.out.later hb).later (below_allocG w9 (.cells #[.int .i64 3, .int .i64 id, .int .i64 k, .int .i64 te, .int .i64 A, .int .i64 (termP lo A), .int .i64 co, .slice so9 L5.length sc9, .bool false] 50))
          have h3 := h2.grown hg (fun q => owns_off h1 h2 (by decide) q.symm)
          exact ⟨h3.cell 1, h3.cell 2, h3.cell 4, h3.cell 6⟩)
        have HMAP := hide hmap
        have HENT := hide hents
        clear hid hrow hmap hents hnx0 hnb hMk hA1 hL5
        by_cases h5 : (lo.length : Int) < (A : Int) + 5
        · have y5 : decide ((lo.length : Int) < (A : Int) + 5) = true := decide_eq_true h5
          have hsl := run_slice_lhK (K := 2) (P := Try.prog) Try.underlying22 (by kernel_rfl) infoEntry ao lo.length cap A lo.length A ((lo.length : Int)) rfl (by omega) (by omega) (by omega)
          have hr := HLr.out.sliced (lo := A) (hi := lo.length) (by omega) (by omega)
          rw [show (lo.drop A).take (lo.length - A) = (lo.drop A).take 5 by rw [List.take_of_length_le (by simp), List.take_of_length_le (by simp; omega)], HL5.out] at hr
          obtain ⟨x1, hx1⟩ : ∃ x, Go.sliced ao A lo.length cap 2 = x := ⟨_, rfl⟩
          rw [hx1] at hsl hr
          obtain ⟨so, sc, hso, _, _⟩ := hr.shape
          subst hso
          have HCL := hide (CopyLog_any _ _ wr.drew hr.drew (by omega))
          have hj1 : (A : Int) ≤ (lo.length : Int) := by omega
          have hj2 : (lo.length : Int) ≤ (cap : Int) := by omega
          have hj3 : (0 : Int) ≤ (lo.length : Int) := by omega
          clear hr hx1
          go_upto_region 10 with fail
          go_region_held3 (fun W => W.cell? ⟨w.heap.size, 1, none⟩ = some (.int .i64 id) ∧ W.cell? ⟨w.heap.size, 2, none⟩ = some (.int .i64 te) ∧ W.cell? ⟨w.heap.size, 4, none⟩ = some (.slice ao lo.length cap) ∧ W.cell? ⟨w.heap.size, 6, none⟩ = some (.int .i64 co)) (first | exact k5 | exact HKEEP.out _ (by go_grown)) (first
            | (have k9 := ho9; refine step_append_rdAt (E := mfE) (cs := fs) (news := [⟨beatM X k, ⟨so9, L5.length, sc9⟩⟩]) (by exact HRA.out) (by exact HRO.out) Try.underlying38 infoMail rfl (by rfl) (by rfl) (by rfl) (by rfl) (by exact HLL.out _) (by decide) (by exact HSZ.out) ?_; intro v5 w5 ho5 hg5 hat5; obtain ⟨mo5, mc5, hv5⟩ := owns_shapeK ho5; subst hv5; have HO5 := hide ho5; have HG5 := hide hg5; have k5 := HKA.out w9 w5 so9 sc9 hb8 hg5)
            | (go_at_call 27; refine HCL.out.mono ?_; rintro e w9 ⟨v9, rfl, ho9, hb9⟩; obtain ⟨so9, sc9, hv9⟩ := owns_shapeK ho9; subst hv9; have hb8 := HDR.out.trans (hb9.mono HDR.out.size); have hz9 := hb8.size; have HRA := hide (HROWA.out w9 so9 sc9 hb8); have HRO := hide (HROO.out w9 so9 sc9); have HSZ := hide (HSZZ.out w9 so9 sc9 hb8); have HO9 := hide ho9)
            | (go_at_call 11; refine (HLT.out _ (by go_grown)).mono ?_; rintro e wl ⟨rfl, hwl⟩; rw [hwl]; clear hwl wl))
          all_goals
            go_wp2_with fail
            go_roundw
            case rel =>
              have hbA2 := below_allocG w9 (.cells #[.int .i64 3, .int .i64 id, .int .i64 k, .int .i64 te, .int .i64 A, .int .i64 (termP lo A), .int .i64 co, .slice so9 L5.length sc9, .bool false] 50)
              refine ⟨k + 1, by omega, by go_num, ⟨fs ++ [⟨beatM X k, ⟨so9, L5.length, sc9⟩⟩], by rw [List.length_append]; exact HO5.out, by rw [List.map_append, HMAP.out, HS.out]; rfl, fun f hf => ?_⟩, ?_⟩
              · have key : ∀ {v : Value} {n : Nat} {xs : List Value}, w9.ownsRow w.heap.size 59 2 v n xs → w5.ownsRow w.heap.size 59 2 v n xs := fun h => owns_grownO (owns_later h hbA2) HG5.out (owns_ne (owns_later h hbA2) HRA.out (by decide))
                rcases List.mem_append.1 hf with hf | hf
                · exact key (owns_later (HENT.out f hf) hb8)
                · obtain rfl := List.mem_singleton.1 hf
                  refine key (owns_baseR (b1 := wr.heap.size) ?_ HAr.out.size)
                  show w9.ownsRow wr.heap.size 59 2 (.slice so9 L5.length sc9) (beatM X k).ents.length (eE.vs (beatM X k).ents)
                  rw [show (beatM X k).ents = L5 by rw [HMK.out]]
                  exact HO9.out
              · have h8 := HBR.out.trans (hb8.mono HBR.out.size)
                refine below_grownO (h8.trans (hbA2.mono h8.size)) HG5.out (fun j hj => ?_) (by have := h8.size; simp; omega)
                have h1 := (HRA.out.lt j hj).1
                have h2 := owns_off HRA.out ((HBr.out.later hb8).later hbA2) (by decide)
                have h3 : j ≠ w.heap.size := fun q => h2 (by rw [hj, q])
                have h4 := HA1S.out
                omega
            case measure => simp [intOf]; omega
        · have y5 : decide ((lo.length : Int) < (A : Int) + 5) = false := decide_eq_false h5
          have hsl := run_slice_lhK (K := 2) (P := Try.prog) Try.underlying22 (by kernel_rfl) infoEntry ao lo.length cap A (A + 5) A ((A : Int) + 5) rfl (by omega) (by omega) (by omega)
          have hr := HLr.out.sliced (lo := A) (hi := (A + 5)) (by omega) (by omega)
          rw [show (lo.drop A).take ((A + 5) - A) = (lo.drop A).take 5 by congr 1; omega, HL5.out] at hr
          obtain ⟨x1, hx1⟩ : ∃ x, Go.sliced ao A (A + 5) cap 2 = x := ⟨_, rfl⟩
          rw [hx1] at hsl hr
          obtain ⟨so, sc, hso, _, _⟩ := hr.shape
          subst hso
          have HCL := hide (CopyLog_any _ _ wr.drew hr.drew (by omega))
          have hj1 : (A : Int) ≤ (A : Int) + 5 := by omega
          have hj2 : (A : Int) + 5 ≤ (cap : Int) := by omega
          have hj3 : (0 : Int) ≤ (A : Int) + 5 := by omega
          clear hr hx1
          go_upto_region 10 with fail
          go_region_held3 (fun W => W.cell? ⟨w.heap.size, 1, none⟩ = some (.int .i64 id) ∧ W.cell? ⟨w.heap.size, 2, none⟩ = some (.int .i64 te) ∧ W.cell? ⟨w.heap.size, 4, none⟩ = some (.slice ao lo.length cap) ∧ W.cell? ⟨w.heap.size, 6, none⟩ = some (.int .i64 co)) (first | exact k5 | exact HKEEP.out _ (by go_grown)) (first
            | (have k9 := ho9; refine step_append_rdAt (E := mfE) (cs := fs) (news := [⟨beatM X k, ⟨so9, L5.length, sc9⟩⟩]) (by exact HRA.out) (by exact HRO.out) Try.underlying38 infoMail rfl (by rfl) (by rfl) (by rfl) (by rfl) (by exact HLL.out _) (by decide) (by exact HSZ.out) ?_; intro v5 w5 ho5 hg5 hat5; obtain ⟨mo5, mc5, hv5⟩ := owns_shapeK ho5; subst hv5; have HO5 := hide ho5; have HG5 := hide hg5; have k5 := HKA.out w9 w5 so9 sc9 hb8 hg5)
            | (go_at_call 27; refine HCL.out.mono ?_; rintro e w9 ⟨v9, rfl, ho9, hb9⟩; obtain ⟨so9, sc9, hv9⟩ := owns_shapeK ho9; subst hv9; have hb8 := HDR.out.trans (hb9.mono HDR.out.size); have hz9 := hb8.size; have HRA := hide (HROWA.out w9 so9 sc9 hb8); have HRO := hide (HROO.out w9 so9 sc9); have HSZ := hide (HSZZ.out w9 so9 sc9 hb8); have HO9 := hide ho9)
            | (go_at_call 11; refine (HLT.out _ (by go_grown)).mono ?_; rintro e wl ⟨rfl, hwl⟩; rw [hwl]; clear hwl wl))
          all_goals
            go_wp2_with fail
            go_roundw
            case rel =>
              have hbA2 := below_allocG w9 (.cells #[.int .i64 3, .int .i64 id, .int .i64 k, .int .i64 te, .int .i64 A, .int .i64 (termP lo A), .int .i64 co, .slice so9 L5.length sc9, .bool false] 50)
              refine ⟨k + 1, by omega, by go_num, ⟨fs ++ [⟨beatM X k, ⟨so9, L5.length, sc9⟩⟩], by rw [List.length_append]; exact HO5.out, by rw [List.map_append, HMAP.out, HS.out]; rfl, fun f hf => ?_⟩, ?_⟩
              · have key : ∀ {v : Value} {n : Nat} {xs : List Value}, w9.ownsRow w.heap.size 59 2 v n xs → w5.ownsRow w.heap.size 59 2 v n xs := fun h => owns_grownO (owns_later h hbA2) HG5.out (owns_ne (owns_later h hbA2) HRA.out (by decide))
                rcases List.mem_append.1 hf with hf | hf
                · exact key (owns_later (HENT.out f hf) hb8)
                · obtain rfl := List.mem_singleton.1 hf
                  refine key (owns_baseR (b1 := wr.heap.size) ?_ HAr.out.size)
                  show w9.ownsRow wr.heap.size 59 2 (.slice so9 L5.length sc9) (beatM X k).ents.length (eE.vs (beatM X k).ents)
                  rw [show (beatM X k).ents = L5 by rw [HMK.out]]
                  exact HO9.out
              · have h8 := HBR.out.trans (hb8.mono HBR.out.size)
                refine below_grownO (h8.trans (hbA2.mono h8.size)) HG5.out (fun j hj => ?_) (by have := h8.size; simp; omega)
                have h1 := (HRA.out.lt j hj).1
                have h2 := owns_off HRA.out ((HBr.out.later hb8).later hbA2) (by decide)
                have h3 : j ≠ w.heap.size := fun q => h2 (by rw [hj, q])
                have h4 := HA1S.out
                omega
            case measure => simp [intOf]; omega
    · have hd : decide ((k : Int) < (N : Int)) = false := decide_eq_false (by omega)
      obtain rfl : k = N := by omega
      clear hrow hmap hents
      go_wp2_with fail
      go_ret
      exact ⟨_, rfl, HOW.out, HAr.out⟩

end Go.Proofs.Ytddkjpojbflmjah

/-
  The walk over the document's BeatNode. (Written by rr8.py.)
-/
namespace Go.Proofs.Ytddkjpojbflmjah
open Go.RowKit Go.Maps
set_option linter.unusedVariables false

set_option maxRecDepth 100000 in
set_option maxHeartbeats 8000000 in
theorem BeatNode_any (x : Nd) (lv vv nv hv : Value) (w : World) (hx : RdNd w x lv vv nv hv) :
    Calls Try.prog 24 #[ndV x lv vv nv hv] w fun e w' => ∃ mv, e = .returned (.tuple #[mv, flt (ledF x)]) ∧ RdM w' mv (beaM x) ∧ Below w.heap.size w w' := by
  have HOK := hide (@ledF_ok x)
  have HX := hide hx
  have HZ := hide (chkN_z x)
  have hLF : ledF x = if (chkN x).1 ≠ 0 then chkN x else if x.role ≠ 2 then (11, 0) else (0, 0) := rfl
  have HLF := hide hLF
  clear hLF
  obtain ⟨n, id, te, vo, lo, ro, co, vs, ns, hs⟩ := x
  obtain ⟨h1, h2, h3, h4⟩ := hx
  simp only at h1 h2 h3 h4
  obtain ⟨ao, cap, rfl, hc1, hc2⟩ := h1.shape
  obtain ⟨bo, cap2, rfl, hd1, hd2⟩ := h2.shape
  obtain ⟨no, cap3, rfl, _, _⟩ := h3.shape
  obtain ⟨ho, cap4, rfl, _, _⟩ := h4.shape
  have hA := below_alloc2 w (.cells #[.int .i64 n, .int .i64 id, .int .i64 te, .int .i64 vo, .slice ao lo.length cap, .int .i64 ro, .int .i64 co, .slice bo vs.length cap2, .slice no ns.length cap3, .slice ho hs.length cap4] 34) (.cells #[.int .i64 0, .int .i64 0] 26)
  have hP := Blk.at0of2 w (.cells #[.int .i64 0, .int .i64 0] 26) 34 #[.int .i64 n, .int .i64 id, .int .i64 te, .int .i64 vo, .slice ao lo.length cap, .int .i64 ro, .int .i64 co, .slice bo vs.length cap2, .slice no ns.length cap3, .slice ho hs.length cap4]
  have hQ := Blk.at1 w (.cells #[.int .i64 n, .int .i64 id, .int .i64 te, .int .i64 vo, .slice ao lo.length cap, .int .i64 ro, .int .i64 co, .slice bo vs.length cap2, .slice no ns.length cap3, .slice ho hs.length cap4] 34) 26 #[.int .i64 0, .int .i64 0]
  have HC1 := hide (NodeFault_any ⟨n, id, te, vo, lo, ro, co, vs, ns, hs⟩ _ _ _ _ _ (HX.out.below hA))
  have HEQ : Hid (beaM ⟨n, id, te, vo, lo, ro, co, vs, ns, hs⟩ = if (ledF ⟨n, id, te, vo, lo, ro, co, vs, ns, hs⟩).1 = 0 then Nd.beats ⟨n, id, te, vo, lo, ro, co, vs, ns, hs⟩ else []) := hide rfl
  simp only at HLF
  generalize hK : chkN ⟨n, id, te, vo, lo, ro, co, vs, ns, hs⟩ = F at *
  obtain ⟨p, q⟩ := F
  unfold ndV ndA at HC1
  unfold ndV ndA
  have HP := hide hP
  have HQ := hide hQ
  have HA := hide hA
  have HS := hide (show w.heap.size + 2 = ((w.alloc (.cells #[.int .i64 n, .int .i64 id, .int .i64 te, .int .i64 vo, .slice ao lo.length cap, .int .i64 ro, .int .i64 co, .slice bo vs.length cap2, .slice no ns.length cap3, .slice ho hs.length cap4] 34)).alloc (.cells #[.int .i64 0, .int .i64 0] 26)).heap.size by simp)
  clear h1 h2 h3 h4 hP hQ hA hK
  go_enter Try.func24, Try.ntmps24
  go_wp2_with (refine wpList_load_blk HP.out Try.underlying34 rfl Try.sizeNode rfl rfl rfl ?_)
  refine HC1.out.mono ?_
  rintro e w1 ⟨rfl, hb1⟩
  have hN := below_allocG w1 (.cells #[.int .i64 p, .int .i64 q] 26)
  have hP1 := (HP.out.later hb1).later hN
  have HP1 := hide hP1
  have HQ1 := hide ((HQ.out.later hb1).later hN)
  have hAA := HA.out.trans (hb1.mono HA.out.size)
  have HA1 := hide (hAA.trans (hN.mono hAA.size))
  have HS1 := hide (show w.heap.size + 2 ≤ w1.heap.size by have := hb1.size; have := HS.out; omega)
  have hW1 := (Blk.new w1 26 #[.int .i64 p, .int .i64 q])
  have HW1 := hide hW1
  have f0 := hW1.cell 0
  have f1 := hW1.cell 1
  have g5 := hP1.cell 5
  have gl := hP1.lt
  simp at f0 f1 g5
  have hfq : w1.heap.size ≠ w.heap.size + 1 := by have := HS1.out; omega
  clear hb1 hN hAA hW1 hP1 HC1 HP HQ HA HS
  unfold flt
  by_cases hp : p ≠ 0
  · have hq : (p == 0) = false := beq_eq_false_iff_ne.2 hp
    have hq2 : (p != 0) = true := by simp [hp]
    have HLE := hide (HLF.out.trans (if_pos hp))
    have HE := hide (HEQ.out.trans (if_neg (by rw [HLE.out]; exact hp)))
    clear hp
    have qa0 := HQ1.out.cell 0
    have qaz0 := HQ1.out.frozen 0
    have qa1 := HQ1.out.cell 1
    have qaz1 := HQ1.out.frozen 1
    have qal := HQ1.out.lt
    simp at qa0 qa1
    go_upto_region 5 with fail
    go_region
    all_goals
      have hb9 := setL_blk [.int .i64 p, .int .i64 q] _ 0 _ HQ1.out rfl
      have hA9 := (below_grownO HA1.out (setL_grown (w.heap.size + 1) [.int .i64 p, .int .i64 q] _ 0) (fun k hk => by cases hk; omega) HA1.out.size).drew
      have HQ9 := hide (show Blk (setL (w1.alloc (.cells #[.int .i64 p, .int .i64 q] 26)) (w.heap.size + 1) 0 [.int .i64 p, .int .i64 q]).drew (w.heap.size + 1) 26 #[.int .i64 p, .int .i64 q] from hb9)
      have HA9 := hide hA9
      simp only [setL] at HQ9 HA9
      clear hb9 hA9 qa0 qaz0 qa1 qaz1 qal f0 f1
      generalize (((w1.alloc (.cells #[.int .i64 p, .int .i64 q] 26)).setCell ⟨w.heap.size + 1, 0, none⟩ (.int .i64 p)).setCell ⟨w.heap.size + 1, 1, none⟩ (.int .i64 q)).drew = wz at HQ9 HA9 ⊢
      go_wp2_with fail
      refine bodyPost_ret (results2_tc Try.results24 rfl rfl (run_loadVar_blk HQ9.out Try.underlying26 rfl Try.sizeFaultR)) rfl ?_
      rw [HE.out, HLE.out]
      exact ⟨_, rfl, (OwM.nil _ 0).rd, HA9.out⟩
  obtain rfl : p = 0 := Decidable.not_not.1 hp
  obtain rfl : q = 0 := by have := HZ.out rfl; simpa using this
  have HLF2 := hide (HLF.out.trans (if_neg hp))
  clear hp HLF
  by_cases hr : ro ≠ 2
  · have hr2 : (ro != 2) = true := by simp [hr]
    have HLE := hide (HLF2.out.trans (if_pos hr))
    have HE := hide (HEQ.out.trans (if_neg (by rw [HLE.out]; simp)))
    clear hr
    go_upto_region 5 with (first
      | (go_at_call 32; refine (lF_any _ _ _).mono ?_; rintro e w3 ⟨rfl, hb3⟩; have HQ3 := hide (HQ1.out.later hb3); have HW3 := hide (HW1.out.later hb3); have HA3 := hide (HA1.out.trans (hb3.mono HA1.out.size)); have hz3 := hb3.size; clear hb3; unfold flt)
      | (refine wpList_store_blk rfl rfl rfl rfl HW3.out rfl Try.sizeFaultR rfl ?_; intro w4 hW4 hg4; have HW4 := hide hW4; have HQ4 := hide (HQ3.out.grown hg4 (by simp; omega)); have HA4 := hide (below_grownO HA3.out hg4 (fun k hk => by cases hk; have := HS1.out; omega) HA3.out.size); have m0 := hW4.cell 0; have m1 := hW4.cell 1; have ml := hW4.lt; simp at m0 m1; clear hW4 hg4))
    have qa0 := HQ4.out.cell 0
    have qaz0 := HQ4.out.frozen 0
    have qa1 := HQ4.out.cell 1
    have qaz1 := HQ4.out.frozen 1
    have qal := HQ4.out.lt
    simp at qa0 qa1
    clear f0 f1
    go_region
    all_goals
      have hb9 := setL_blk [.int .i64 11, .int .i64 0] _ 0 _ HQ4.out rfl
      have hA9 := (below_grownO HA4.out (setL_grown (w.heap.size + 1) [.int .i64 11, .int .i64 0] _ 0) (fun k hk => by cases hk; omega) HA4.out.size).drew
      have HQ9 := hide (show Blk (setL w4 (w.heap.size + 1) 0 [.int .i64 11, .int .i64 0]).drew (w.heap.size + 1) 26 #[.int .i64 11, .int .i64 0] from hb9)
      have HA9 := hide hA9
      simp only [setL] at HQ9 HA9
      clear hb9 hA9 qa0 qaz0 qa1 qaz1 qal m0 m1
      generalize ((w4.setCell ⟨w.heap.size + 1, 0, none⟩ (.int .i64 11)).setCell ⟨w.heap.size + 1, 1, none⟩ (.int .i64 0)).drew = wz at HQ9 HA9 ⊢
      go_wp2_with fail
      refine bodyPost_ret (results2_tc Try.results24 rfl rfl (run_loadVar_blk HQ9.out Try.underlying26 rfl Try.sizeFaultR)) rfl ?_
      rw [HE.out, HLE.out]
      exact ⟨_, rfl, (OwM.nil _ 0).rd, HA9.out⟩
  · have hr2 : (ro != 2) = false := by simp only [Decidable.not_not] at hr; simp [hr]
    have HLE := hide (HLF2.out.trans (if_neg hr))
    have HE := hide (HEQ.out.trans (if_pos (by rw [HLE.out])))
    obtain ⟨hfine, hrole⟩ := HOK.out (by rw [HLE.out])
    obtain ⟨ln1, ln2, ln3, ln4, ln5⟩ := hfine.lens hrole
    have hln := hfine.loglen
    have hD : Below (w1.alloc (.cells #[.int .i64 0, .int .i64 0] 26)).heap.size (w1.alloc (.cells #[.int .i64 0, .int .i64 0] 26)) (w1.alloc (.cells #[.int .i64 0, .int .i64 0] 26)).drew := Below.drew (Below.refl _ _)
    have HBE := hide (Beats_any ⟨n, id, te, vo, lo, ro, co, vs, ns, hs⟩ _ _ _ _ _ (HX.out.below (HA1.out.trans (hD.mono HA1.out.size))) (by have := hfine.n1; simp only at this ⊢; omega) hfine.n7 (by simp only at hln ⊢; omega) ln1 ln3)
    have HD := hide hD
    unfold ndV ndA at HBE
    clear hr hfine hrole ln1 ln2 ln3 ln4 ln5 hln hD
    go_upto_region 6 with fail
    generalize hWW : w1.alloc (.cells #[.int .i64 0, .int .i64 0] 26) = W at HP1 HQ1 HA1 HBE HD HW1 f0 f1 g5 gl ⊢
    clear hWW
    have pp0 := HP1.out.cell 0
    have ppz0 := HP1.out.frozen 0
    have pp1 := HP1.out.cell 1
    have ppz1 := HP1.out.frozen 1
    have pp2 := HP1.out.cell 2
    have ppz2 := HP1.out.frozen 2
    have pp3 := HP1.out.cell 3
    have ppz3 := HP1.out.frozen 3
    have pp4 := HP1.out.cell 4
    have ppz4 := HP1.out.frozen 4
    have pp5 := HP1.out.cell 5
    have ppz5 := HP1.out.frozen 5
    have pp6 := HP1.out.cell 6
    have ppz6 := HP1.out.frozen 6
    have pp7 := HP1.out.cell 7
    have ppz7 := HP1.out.frozen 7
    have pp8 := HP1.out.cell 8
    have ppz8 := HP1.out.frozen 8
    have pp9 := HP1.out.cell 9
    have ppz9 := HP1.out.frozen 9
    have ppl := HP1.out.lt
    simp at pp0 pp1 pp2 pp3 pp4 pp5 pp6 pp7 pp8 pp9
    have qa0 := HQ1.out.cell 0
    have qaz0 := HQ1.out.frozen 0
    have qa1 := HQ1.out.cell 1
    have qaz1 := HQ1.out.frozen 1
    have qal := HQ1.out.lt
    simp at qa0 qa1
    have HKEEP : Hid (∀ W_, Below W.heap.size W W_ → W_.cell? ⟨w.heap.size, 0, none⟩ = some (.int .i64 n) ∧ W_.cell? ⟨w.heap.size, 1, none⟩ = some (.int .i64 id) ∧ W_.cell? ⟨w.heap.size, 2, none⟩ = some (.int .i64 te) ∧ W_.cell? ⟨w.heap.size, 3, none⟩ = some (.int .i64 vo) ∧ W_.cell? ⟨w.heap.size, 4, none⟩ = some (.slice ao lo.length cap) ∧ W_.cell? ⟨w.heap.size, 5, none⟩ = some (.int .i64 ro) ∧ W_.cell? ⟨w.heap.size, 6, none⟩ = some (.int .i64 co) ∧ W_.cell? ⟨w.heap.size, 7, none⟩ = some (.slice bo vs.length cap2) ∧ W_.cell? ⟨w.heap.size, 8, none⟩ = some (.slice no ns.length cap3) ∧ W_.cell? ⟨w.heap.size, 9, none⟩ = some (.slice ho hs.length cap4) ∧ W_.cell? ⟨w1.heap.size, 0, none⟩ = some (.int .i64 0) ∧ W_.cell? ⟨w1.heap.size, 1, none⟩ = some (.int .i64 0)) := hide (fun W_ hW => by
      have h1 := HP1.out.later hW
      have h2 := HW1.out.later hW
      exact ⟨h1.cell 0, h1.cell 1, h1.cell 2, h1.cell 3, h1.cell 4, h1.cell 5, h1.cell 6, h1.cell 7, h1.cell 8, h1.cell 9, h2.cell 0, h2.cell 1⟩)
    have HK9 : Hid (∀ W9, Below W.heap.size W W9 → ((W9.setCell ⟨w.heap.size + 1, 0, none⟩ (.int .i64 0)).setCell ⟨w.heap.size + 1, 1, none⟩ (.int .i64 0)).cell? ⟨w.heap.size, 0, none⟩ = some (.int .i64 n) ∧ ((W9.setCell ⟨w.heap.size + 1, 0, none⟩ (.int .i64 0)).setCell ⟨w.heap.size + 1, 1, none⟩ (.int .i64 0)).cell? ⟨w.heap.size, 1, none⟩ = some (.int .i64 id) ∧ ((W9.setCell ⟨w.heap.size + 1, 0, none⟩ (.int .i64 0)).setCell ⟨w.heap.size + 1, 1, none⟩ (.int .i64 0)).cell? ⟨w.heap.size, 2, none⟩ = some (.int .i64 te) ∧ ((W9.setCell ⟨w.heap.size + 1, 0, none⟩ (.int .i64 0)).setCell ⟨w.heap.size + 1, 1, none⟩ (.int .i64 0)).cell? ⟨w.heap.size, 3, none⟩ = some (.int .i64 vo) ∧ ((W9.setCell ⟨w.heap.size + 1, 0, none⟩ (.int .i64 0)).setCell ⟨w.heap.size + 1, 1, none⟩ (.int .i64 0)).cell? ⟨w.heap.size, 4, none⟩ = some (.slice ao lo.length cap) ∧ ((W9.setCell ⟨w.heap.size + 1, 0, none⟩ (.int .i64 0)).setCell ⟨w.heap.size + 1, 1, none⟩ (.int .i64 0)).cell? ⟨w.heap.size, 5, none⟩ = some (.int .i64 ro) ∧ ((W9.setCell ⟨w.heap.size + 1, 0, none⟩ (.int .i64 0)).setCell ⟨w.heap.size + 1, 1, none⟩ (.int .i64 0)).cell? ⟨w.heap.size, 6, none⟩ = some (.int .i64 co) ∧ ((W9.setCell ⟨w.heap.size + 1, 0, none⟩ (.int .i64 0)).setCell ⟨w.heap.size + 1, 1, none⟩ (.int .i64 0)).cell? ⟨w.heap.size, 7, none⟩ = some (.slice bo vs.length cap2) ∧ ((W9.setCell ⟨w.heap.size + 1, 0, none⟩ (.int .i64 0)).setCell ⟨w.heap.size + 1, 1, none⟩ (.int .i64 0)).cell? ⟨w.heap.size, 8, none⟩ = some (.slice no ns.length cap3) ∧ ((W9.setCell ⟨w.heap.size + 1, 0, none⟩ (.int .i64 0)).setCell ⟨w.heap.size + 1, 1, none⟩ (.int .i64 0)).cell? ⟨w.heap.size, 9, none⟩ = some (.slice ho hs.length cap4) ∧ ((W9.setCell ⟨w.heap.size + 1, 0, none⟩ (.int .i64 0)).setCell ⟨w.heap.size + 1, 1, none⟩ (.int .i64 0)).cell? ⟨w1.heap.size, 0, none⟩ = some (.int .i64 0) ∧ ((W9.setCell ⟨w.heap.size + 1, 0, none⟩ (.int .i64 0)).setCell ⟨w.heap.size + 1, 1, none⟩ (.int .i64 0)).cell? ⟨w1.heap.size, 1, none⟩ = some (.int .i64 0)) := hide (fun W9 hW => by
      have h1 := ((HP1.out.later hW).other (p := ⟨w.heap.size + 1, 0, none⟩) (by simp) (.int .i64 0)).other (p := ⟨w.heap.size + 1, 1, none⟩) (by simp) (.int .i64 0)
      have h2 := ((HW1.out.later hW).other (p := ⟨w.heap.size + 1, 0, none⟩) (by simp; omega) (.int .i64 0)).other (p := ⟨w.heap.size + 1, 1, none⟩) (by simp; omega) (.int .i64 0)
      exact ⟨h1.cell 0, h1.cell 1, h1.cell 2, h1.cell 3, h1.cell 4, h1.cell 5, h1.cell 6, h1.cell 7, h1.cell 8, h1.cell 9, h2.cell 0, h2.cell 1⟩)
    go_region_held3 (fun W_ => W_.cell? ⟨w.heap.size, 0, none⟩ = some (.int .i64 n) ∧ W_.cell? ⟨w.heap.size, 1, none⟩ = some (.int .i64 id) ∧ W_.cell? ⟨w.heap.size, 2, none⟩ = some (.int .i64 te) ∧ W_.cell? ⟨w.heap.size, 3, none⟩ = some (.int .i64 vo) ∧ W_.cell? ⟨w.heap.size, 4, none⟩ = some (.slice ao lo.length cap) ∧ W_.cell? ⟨w.heap.size, 5, none⟩ = some (.int .i64 ro) ∧ W_.cell? ⟨w.heap.size, 6, none⟩ = some (.int .i64 co) ∧ W_.cell? ⟨w.heap.size, 7, none⟩ = some (.slice bo vs.length cap2) ∧ W_.cell? ⟨w.heap.size, 8, none⟩ = some (.slice no ns.length cap3) ∧ W_.cell? ⟨w.heap.size, 9, none⟩ = some (.slice ho hs.length cap4) ∧ W_.cell? ⟨w1.heap.size, 0, none⟩ = some (.int .i64 0) ∧ W_.cell? ⟨w1.heap.size, 1, none⟩ = some (.int .i64 0)) (first | exact k9 | exact HKEEP.out _ (by go_grown)) (first
      | (go_at_call 55; refine HBE.out.mono ?_; rintro e w5 ⟨mv, rfl, hO5, hb5⟩; obtain ⟨mo5, mc5, hmv, _, _⟩ := hO5.rd.shape; subst hmv; have HO5 := hide hO5; have hb6 := HD.out.trans (hb5.mono HD.out.size); have hz6 := hb6.size; have HB6 := hide hb6; have HQ5 := hide (HQ1.out.later hb6); have k9 := HK9.out w5 hb6; clear hO5 hb5; have qb0 := HQ5.out.cell 0; have qbz0 := HQ5.out.frozen 0; have qb1 := HQ5.out.cell 1; have qbz1 := HQ5.out.frozen 1; have qbl := HQ5.out.lt; simp at qb0 qb1))
    all_goals
      have hb9 := setL_blk [.int .i64 0, .int .i64 0] _ 0 _ HQ5.out rfl
      have h56 := HA1.out.trans (HB6.out.mono HA1.out.size)
      have hgr := setL_grown (w.heap.size + 1) [.int .i64 0, .int .i64 0] w5 0
      have hA9 := below_grownO h56 hgr (fun k hk => by cases hk; omega) h56.size
      have hO9 := (HO5.out.offB hgr (by have := HQ1.out.lt; show w.heap.size + 1 < W.heap.size; omega)).rd
      have HQ9 := hide (show Blk (setL w5 (w.heap.size + 1) 0 [.int .i64 0, .int .i64 0]) (w.heap.size + 1) 26 #[.int .i64 0, .int .i64 0] from hb9)
      have HA9 := hide hA9
      have HO9 := hide hO9
      simp only [setL] at HQ9 HA9 HO9
      clear hb9 hA9 hO9 h56 hgr pp0 ppz0 pp1 ppz1 pp2 ppz2 pp3 ppz3 pp4 ppz4 pp5 ppz5 pp6 ppz6 pp7 ppz7 pp8 ppz8 pp9 ppz9 ppl qa0 qaz0 qa1 qaz1 qal qb0 qbz0 qb1 qbz1 qbl f0 f1 hb6 k9
      generalize ((w5.setCell ⟨w.heap.size + 1, 0, none⟩ (.int .i64 0)).setCell ⟨w.heap.size + 1, 1, none⟩ (.int .i64 0)) = wz at HQ9 HA9 HO9 ⊢
      go_wp2_with fail
      refine bodyPost_ret (results2_tc Try.results24 rfl rfl (run_loadVar_blk HQ9.out Try.underlying26 rfl Try.sizeFaultR)) rfl ?_
      rw [HE.out, HLE.out]
      exact ⟨_, rfl, HO9.out, HA9.out⟩

end Go.Proofs.Ytddkjpojbflmjah

/-
  The walk over the document's ProposeNode. (Written by rr10.py.)
-/
namespace Go.Proofs.Ytddkjpojbflmjah
open Go.RowKit Go.Maps
set_option linter.unusedVariables false

theorem Blk.setL2 {A : World} {B R Q : Nat} {t : TypeId} {xs : Array Value} {vs us : List Value} (h : Blk A B t xs) (h1 : B ≠ R) (h2 : B ≠ Q) : Blk (setL (setL A R 0 vs) Q 0 us) B t xs :=
  (h.grown (setL_grown R vs A 0) (by simp; omega)).grown (setL_grown Q us _ 0) (by simp; omega)

theorem Blk.setL1 {A : World} {B R : Nat} {t : TypeId} {xs : Array Value} {vs : List Value} (h : Blk A B t xs) (h1 : B ≠ R) : Blk (setL A R 0 vs) B t xs :=
  h.grown (setL_grown R vs A 0) (by simp; omega)

set_option maxRecDepth 100000 in
set_option maxHeartbeats 8000000 in
theorem ProposeNode_any (x : Nd) (tx : ByteArray) (lv vv nv hv : Value) (w : World) (hx : RdNd w x lv vv nv hv) :
    Calls Try.prog 23 #[ndV x lv vv nv hv, .string tx] w fun e w' => ∃ lv' vv' nv' hv', e = .returned (.tuple #[ndV (proN x tx) lv' vv' nv' hv', flt (proF x tx)]) ∧ RdNd w' (proN x tx) lv' vv' nv' hv' ∧ Below w.heap.size w w' := by
  have hwf : True := trivial
  have HOK := hide (@proF_ok x tx)
  have hPR : proF x tx = if (ledF x).1 ≠ 0 then ledF x else if 200 < tx.size then (8, 0) else if x.log.length = 100 then (2, 0) else (0, 0) := rfl
  have hLF : ledF x = if (chkN x).1 ≠ 0 then chkN x else if x.role ≠ 2 then (11, 0) else (0, 0) := rfl
  have HPR := hide hPR
  have HLF := hide hLF
  have HLN := hide (fun h => (chkN_fine (x := x) h).loglen)
  clear hPR hLF
  have HX := hide hx
  have HZ := hide (chkN_z x)
  obtain ⟨n, id, te, vo, lo, ro, co, vs, ns, hs⟩ := x
  obtain ⟨h1, h2, h3, h4⟩ := hx
  simp only at h1 h2 h3 h4
  obtain ⟨ao, cap, rfl, hc1, hc2⟩ := h1.shape
  obtain ⟨bo, cap2, rfl, hd1, hd2⟩ := h2.shape
  obtain ⟨no, cap3, rfl, _, _⟩ := h3.shape
  obtain ⟨ho, cap4, rfl, _, _⟩ := h4.shape
  have hN3 := three_atR w #[.int .i64 n, .int .i64 id, .int .i64 te, .int .i64 vo, .slice ao lo.length cap, .int .i64 ro, .int .i64 co, .slice bo vs.length cap2, .slice no ns.length cap3, .slice ho hs.length cap4] #[.int .i64 0, .int .i64 0, .int .i64 0, .int .i64 0, .slice none 0 0, .int .i64 0, .int .i64 0, .slice none 0 0, .slice none 0 0, .slice none 0 0] #[.int .i64 0, .int .i64 0] 34 34 26
  obtain ⟨hP, hR, hQ, hA, hS⟩ := hN3
  have HC1 := hide (NodeFault_w ⟨n, id, te, vo, lo, ro, co, vs, ns, hs⟩ _ _ _ _ _ (HX.out.below hA) hwf)
  generalize hK : chkN ⟨n, id, te, vo, lo, ro, co, vs, ns, hs⟩ = F at *
  have HFK := hide hK
  obtain ⟨p, q⟩ := F
  unfold ndV ndA at HC1
  unfold ndV ndA
  have HP := hide hP
  have HR := hide hR
  have HQ := hide hQ
  have HA := hide hA
  have HS := hide hS
  clear h1 h2 h3 h4 hP hR hQ hA hS hK
  go_enter Try.func23, Try.ntmps23
  go_wp2_with (refine wpList_load_blk HP.out Try.underlying34 rfl Try.sizeNode rfl rfl rfl ?_)
  refine HC1.out.mono ?_
  rintro e w1 ⟨rfl, hb1⟩
  have hN := below_allocG w1 (.cells #[.int .i64 p, .int .i64 q] 26)
  have HP1 := hide ((HP.out.later hb1).later hN)
  have HR1 := hide ((HR.out.later hb1).later hN)
  have HQ1 := hide ((HQ.out.later hb1).later hN)
  have hAA := HA.out.trans (hb1.mono HA.out.size)
  have HA1 := hide (hAA.trans (hN.mono hAA.size))
  have HS1 := hide (show w.heap.size + 3 ≤ w1.heap.size by have := hb1.size; have := HS.out; omega)
  have hW1 := (Blk.new w1 26 #[.int .i64 p, .int .i64 q])
  have f0 := hW1.cell 0
  have f1 := hW1.cell 1
  simp at f0 f1
  clear hb1 hN hAA hW1 HC1 HP HR HQ HA HS
  unfold flt
  try simp only at HPR
  try simp only at HLF
  try simp only at HLN
  have HW1 := hide (Blk.new w1 26 #[.int .i64 p, .int .i64 q])
  have hw1S := HS1.out
  have hrq : w.heap.size + 1 ≠ w.heap.size + 1 + 1 := by omega
  have hqr : w.heap.size + 1 + 1 ≠ w.heap.size + 1 := by omega
  have hfr : w1.heap.size ≠ w.heap.size + 1 := by omega
  have hfq : w1.heap.size ≠ w.heap.size + 1 + 1 := by omega
  have g5 := HP1.out.cell 5
  have g4 := HP1.out.cell 4
  have gl := HP1.out.lt
  simp at g5 g4
  by_cases hp : p ≠ 0
  · have hq : (p == 0) = false := beq_eq_false_iff_ne.2 hp
    have hq2 : (p != 0) = true := by simp [hp]
    have HPF := hide (show proF ⟨n, id, te, vo, lo, ro, co, vs, ns, hs⟩ tx = (p, q) by rw [HPR.out, show ledF ⟨n, id, te, vo, lo, ro, co, vs, ns, hs⟩ = (p, q) by rw [HLF.out, if_pos hp], if_pos hp])
    have HE := hide (show proN ⟨n, id, te, vo, lo, ro, co, vs, ns, hs⟩ tx = noNd from if_neg (by rw [HPF.out]; exact hp))
    clear hp
    go_upto_region 9 with fail
    have ra0 := HR1.out.cell 0
    have raz0 := HR1.out.frozen 0
    have ra1 := HR1.out.cell 1
    have raz1 := HR1.out.frozen 1
    have ra2 := HR1.out.cell 2
    have raz2 := HR1.out.frozen 2
    have ra3 := HR1.out.cell 3
    have raz3 := HR1.out.frozen 3
    have ra4 := HR1.out.cell 4
    have raz4 := HR1.out.frozen 4
    have ra5 := HR1.out.cell 5
    have raz5 := HR1.out.frozen 5
    have ra6 := HR1.out.cell 6
    have raz6 := HR1.out.frozen 6
    have ra7 := HR1.out.cell 7
    have raz7 := HR1.out.frozen 7
    have ra8 := HR1.out.cell 8
    have raz8 := HR1.out.frozen 8
    have ra9 := HR1.out.cell 9
    have raz9 := HR1.out.frozen 9
    have ral := HR1.out.lt
    simp at ra0 ra1 ra2 ra3 ra4 ra5 ra6 ra7 ra8 ra9
    have qa0 := HQ1.out.cell 0
    have qaz0 := HQ1.out.frozen 0
    have qa1 := HQ1.out.cell 1
    have qaz1 := HQ1.out.frozen 1
    have qal := HQ1.out.lt
    simp at qa0 qa1
    go_region
    all_goals
      obtain ⟨hR9, hQ9, hA9, _, _⟩ := setL_two (w := w) (C := w.heap.size) [.int .i64 0, .int .i64 0, .int .i64 0, .int .i64 0, .slice none 0 0, .int .i64 0, .int .i64 0, .slice none 0 0, .slice none 0 0, .slice none 0 0] [.int .i64 p, .int .i64 q] HR1.out HQ1.out hrq rfl rfl HA1.out (by omega) (by omega)
      have HR9 := hide hR9
      have HQ9 := hide hQ9
      have HA9 := hide hA9
      simp only [setL] at HR9 HQ9 HA9
      clear hR9 hQ9 hA9 ra0 raz0 ra1 raz1 ra2 raz2 ra3 raz3 ra4 raz4 ra5 raz5 ra6 raz6 ra7 raz7 ra8 raz8 ra9 raz9 ral qa0 qaz0 qa1 qaz1 qal f0 f1
      generalize (((((((((((((w1.alloc (.cells #[.int .i64 p, .int .i64 q] 26)).setCell ⟨w.heap.size + 1, 0, none⟩ (.int .i64 0)).setCell ⟨w.heap.size + 1, 1, none⟩ (.int .i64 0)).setCell ⟨w.heap.size + 1, 2, none⟩ (.int .i64 0)).setCell ⟨w.heap.size + 1, 3, none⟩ (.int .i64 0)).setCell ⟨w.heap.size + 1, 4, none⟩ (.slice none 0 0)).setCell ⟨w.heap.size + 1, 5, none⟩ (.int .i64 0)).setCell ⟨w.heap.size + 1, 6, none⟩ (.int .i64 0)).setCell ⟨w.heap.size + 1, 7, none⟩ (.slice none 0 0)).setCell ⟨w.heap.size + 1, 8, none⟩ (.slice none 0 0)).setCell ⟨w.heap.size + 1, 9, none⟩ (.slice none 0 0)).setCell ⟨w.heap.size + 1 + 1, 0, none⟩ (.int .i64 p)).setCell ⟨w.heap.size + 1 + 1, 1, none⟩ (.int .i64 q)).drew = wz at HR9 HQ9 HA9 ⊢
      go_wp2_with fail
      refine bodyPost_ret (results2_cells Try.results23 rfl rfl (run_loadVar_blk HR9.out Try.underlying34 rfl Try.sizeNode) (run_loadVar_blk HQ9.out Try.underlying26 rfl Try.sizeFaultR)) rfl ?_
      rw [HE.out, HPF.out]
      exact ⟨_, _, _, _, rfl, RdNd.no _, HA9.out⟩
  obtain rfl : p = 0 := Decidable.not_not.1 hp
  obtain rfl : q = 0 := by have := HZ.out rfl; simpa using this
  have HLE := hide (HLF.out.trans (if_neg hp))
  have HLL := hide (HLN.out rfl)
  clear hp
  by_cases hc : ro ≠ 2
  · have e1 : (ro != 2) = true := by simp [hc]
    have HPF := hide (show proF ⟨n, id, te, vo, lo, ro, co, vs, ns, hs⟩ tx = (11, 0) by rw [HPR.out, show ledF ⟨n, id, te, vo, lo, ro, co, vs, ns, hs⟩ = (11, 0) by rw [HLE.out, if_pos hc], if_pos (by simp)])
    have HE := hide (show proN ⟨n, id, te, vo, lo, ro, co, vs, ns, hs⟩ tx = noNd from if_neg (by rw [HPF.out]; simp))
    clear hc
    go_upto_region 9 with (first
      | (go_at_call 32; refine (lF_any _ _ _).mono ?_; rintro e w3 ⟨rfl, hb3⟩; have HR3 := hide (HR1.out.later hb3); have HQ3 := hide (HQ1.out.later hb3); have HW3 := hide (HW1.out.later hb3); have HA3 := hide (HA1.out.trans (hb3.mono HA1.out.size)); have hz3 := hb3.size; clear hb3; unfold flt)
      | (refine wpList_store_blk rfl rfl rfl rfl HW3.out rfl Try.sizeFaultR rfl ?_; intro w4 hW4 hg4; have HW4 := hide hW4; have HR4 := hide (HR3.out.grown hg4 (by simp; omega)); have HQ4 := hide (HQ3.out.grown hg4 (by simp; omega)); have HA4 := hide (below_grownO HA3.out hg4 (fun k hk => by cases hk; omega) HA3.out.size); have m0 := hW4.cell 0; have m1 := hW4.cell 1; have ml := hW4.lt; simp at m0 m1; clear hW4 hg4))
    clear f0 f1
    have ra0 := HR4.out.cell 0
    have raz0 := HR4.out.frozen 0
    have ra1 := HR4.out.cell 1
    have raz1 := HR4.out.frozen 1
    have ra2 := HR4.out.cell 2
    have raz2 := HR4.out.frozen 2
    have ra3 := HR4.out.cell 3
    have raz3 := HR4.out.frozen 3
    have ra4 := HR4.out.cell 4
    have raz4 := HR4.out.frozen 4
    have ra5 := HR4.out.cell 5
    have raz5 := HR4.out.frozen 5
    have ra6 := HR4.out.cell 6
    have raz6 := HR4.out.frozen 6
    have ra7 := HR4.out.cell 7
    have raz7 := HR4.out.frozen 7
    have ra8 := HR4.out.cell 8
    have raz8 := HR4.out.frozen 8
    have ra9 := HR4.out.cell 9
    have raz9 := HR4.out.frozen 9
    have ral := HR4.out.lt
    simp at ra0 ra1 ra2 ra3 ra4 ra5 ra6 ra7 ra8 ra9
    have qa0 := HQ4.out.cell 0
    have qaz0 := HQ4.out.frozen 0
    have qa1 := HQ4.out.cell 1
    have qaz1 := HQ4.out.frozen 1
    have qal := HQ4.out.lt
    simp at qa0 qa1
    go_region
    all_goals
      obtain ⟨hR9, hQ9, hA9, _, _⟩ := setL_two (w := w) (C := w.heap.size) [.int .i64 0, .int .i64 0, .int .i64 0, .int .i64 0, .slice none 0 0, .int .i64 0, .int .i64 0, .slice none 0 0, .slice none 0 0, .slice none 0 0] [.int .i64 11, .int .i64 0] HR4.out HQ4.out hrq rfl rfl HA4.out (by omega) (by omega)
      have HR9 := hide hR9
      have HQ9 := hide hQ9
      have HA9 := hide hA9
      simp only [setL] at HR9 HQ9 HA9
      clear hR9 hQ9 hA9 ra0 raz0 ra1 raz1 ra2 raz2 ra3 raz3 ra4 raz4 ra5 raz5 ra6 raz6 ra7 raz7 ra8 raz8 ra9 raz9 ral qa0 qaz0 qa1 qaz1 qal m0 m1
      generalize ((((((((((((w4.setCell ⟨w.heap.size + 1, 0, none⟩ (.int .i64 0)).setCell ⟨w.heap.size + 1, 1, none⟩ (.int .i64 0)).setCell ⟨w.heap.size + 1, 2, none⟩ (.int .i64 0)).setCell ⟨w.heap.size + 1, 3, none⟩ (.int .i64 0)).setCell ⟨w.heap.size + 1, 4, none⟩ (.slice none 0 0)).setCell ⟨w.heap.size + 1, 5, none⟩ (.int .i64 0)).setCell ⟨w.heap.size + 1, 6, none⟩ (.int .i64 0)).setCell ⟨w.heap.size + 1, 7, none⟩ (.slice none 0 0)).setCell ⟨w.heap.size + 1, 8, none⟩ (.slice none 0 0)).setCell ⟨w.heap.size + 1, 9, none⟩ (.slice none 0 0)).setCell ⟨w.heap.size + 1 + 1, 0, none⟩ (.int .i64 11)).setCell ⟨w.heap.size + 1 + 1, 1, none⟩ (.int .i64 0)).drew = wz at HR9 HQ9 HA9 ⊢
      go_wp2_with fail
      refine bodyPost_ret (results2_cells Try.results23 rfl rfl (run_loadVar_blk HR9.out Try.underlying34 rfl Try.sizeNode) (run_loadVar_blk HQ9.out Try.underlying26 rfl Try.sizeFaultR)) rfl ?_
      rw [HE.out, HPF.out]
      exact ⟨_, _, _, _, rfl, RdNd.no _, HA9.out⟩
  have e1 : (ro != 2) = false := by simp only [Decidable.not_not] at hc; simp [hc]
  have hn11 := hc
  clear hc
  have HLZ := hide (show ledF ⟨n, id, te, vo, lo, ro, co, vs, ns, hs⟩ = (0, 0) by rw [HLE.out, if_neg hn11])
  by_cases hc : 200 < tx.size
  · have e2 : decide (200 < (tx.size : Int)) = true := decide_eq_true (by omega)
    have HPF := hide (show proF ⟨n, id, te, vo, lo, ro, co, vs, ns, hs⟩ tx = (8, 0) by rw [HPR.out, HLZ.out, if_neg (by simp), if_pos hc])
    have HE := hide (show proN ⟨n, id, te, vo, lo, ro, co, vs, ns, hs⟩ tx = noNd from if_neg (by rw [HPF.out]; simp))
    clear hc
    go_upto_region 9 with (first
      | (go_at_call 32; refine (lF_any _ _ _).mono ?_; rintro e w3 ⟨rfl, hb3⟩; have HR3 := hide (HR1.out.later hb3); have HQ3 := hide (HQ1.out.later hb3); have HW3 := hide (HW1.out.later hb3); have HA3 := hide (HA1.out.trans (hb3.mono HA1.out.size)); have hz3 := hb3.size; clear hb3; unfold flt)
      | (refine wpList_store_blk rfl rfl rfl rfl HW3.out rfl Try.sizeFaultR rfl ?_; intro w4 hW4 hg4; have HW4 := hide hW4; have HR4 := hide (HR3.out.grown hg4 (by simp; omega)); have HQ4 := hide (HQ3.out.grown hg4 (by simp; omega)); have HA4 := hide (below_grownO HA3.out hg4 (fun k hk => by cases hk; omega) HA3.out.size); have m0 := hW4.cell 0; have m1 := hW4.cell 1; have ml := hW4.lt; simp at m0 m1; clear hW4 hg4))
    clear f0 f1
    have ra0 := HR4.out.cell 0
    have raz0 := HR4.out.frozen 0
    have ra1 := HR4.out.cell 1
    have raz1 := HR4.out.frozen 1
    have ra2 := HR4.out.cell 2
    have raz2 := HR4.out.frozen 2
    have ra3 := HR4.out.cell 3
    have raz3 := HR4.out.frozen 3
    have ra4 := HR4.out.cell 4
    have raz4 := HR4.out.frozen 4
    have ra5 := HR4.out.cell 5
    have raz5 := HR4.out.frozen 5
    have ra6 := HR4.out.cell 6
    have raz6 := HR4.out.frozen 6
    have ra7 := HR4.out.cell 7
    have raz7 := HR4.out.frozen 7
    have ra8 := HR4.out.cell 8
    have raz8 := HR4.out.frozen 8
    have ra9 := HR4.out.cell 9
    have raz9 := HR4.out.frozen 9
    have ral := HR4.out.lt
    simp at ra0 ra1 ra2 ra3 ra4 ra5 ra6 ra7 ra8 ra9
    have qa0 := HQ4.out.cell 0
    have qaz0 := HQ4.out.frozen 0
    have qa1 := HQ4.out.cell 1
    have qaz1 := HQ4.out.frozen 1
    have qal := HQ4.out.lt
    simp at qa0 qa1
    go_region
    all_goals
      obtain ⟨hR9, hQ9, hA9, _, _⟩ := setL_two (w := w) (C := w.heap.size) [.int .i64 0, .int .i64 0, .int .i64 0, .int .i64 0, .slice none 0 0, .int .i64 0, .int .i64 0, .slice none 0 0, .slice none 0 0, .slice none 0 0] [.int .i64 8, .int .i64 0] HR4.out HQ4.out hrq rfl rfl HA4.out (by omega) (by omega)
      have HR9 := hide hR9
      have HQ9 := hide hQ9
      have HA9 := hide hA9
      simp only [setL] at HR9 HQ9 HA9
      clear hR9 hQ9 hA9 ra0 raz0 ra1 raz1 ra2 raz2 ra3 raz3 ra4 raz4 ra5 raz5 ra6 raz6 ra7 raz7 ra8 raz8 ra9 raz9 ral qa0 qaz0 qa1 qaz1 qal m0 m1
      generalize ((((((((((((w4.setCell ⟨w.heap.size + 1, 0, none⟩ (.int .i64 0)).setCell ⟨w.heap.size + 1, 1, none⟩ (.int .i64 0)).setCell ⟨w.heap.size + 1, 2, none⟩ (.int .i64 0)).setCell ⟨w.heap.size + 1, 3, none⟩ (.int .i64 0)).setCell ⟨w.heap.size + 1, 4, none⟩ (.slice none 0 0)).setCell ⟨w.heap.size + 1, 5, none⟩ (.int .i64 0)).setCell ⟨w.heap.size + 1, 6, none⟩ (.int .i64 0)).setCell ⟨w.heap.size + 1, 7, none⟩ (.slice none 0 0)).setCell ⟨w.heap.size + 1, 8, none⟩ (.slice none 0 0)).setCell ⟨w.heap.size + 1, 9, none⟩ (.slice none 0 0)).setCell ⟨w.heap.size + 1 + 1, 0, none⟩ (.int .i64 8)).setCell ⟨w.heap.size + 1 + 1, 1, none⟩ (.int .i64 0)).drew = wz at HR9 HQ9 HA9 ⊢
      go_wp2_with fail
      refine bodyPost_ret (results2_cells Try.results23 rfl rfl (run_loadVar_blk HR9.out Try.underlying34 rfl Try.sizeNode) (run_loadVar_blk HQ9.out Try.underlying26 rfl Try.sizeFaultR)) rfl ?_
      rw [HE.out, HPF.out]
      exact ⟨_, _, _, _, rfl, RdNd.no _, HA9.out⟩
  have e2 : decide (200 < (tx.size : Int)) = false := decide_eq_false (by omega)
  have hn8 := hc
  clear hc
  by_cases hc : lo.length = 100
  · have e3 : decide (100 ≤ (lo.length : Int)) = true := decide_eq_true (by omega)
    have HPF := hide (show proF ⟨n, id, te, vo, lo, ro, co, vs, ns, hs⟩ tx = (2, 0) by rw [HPR.out, HLZ.out, if_neg (by simp), if_neg hn8, if_pos hc])
    have HE := hide (show proN ⟨n, id, te, vo, lo, ro, co, vs, ns, hs⟩ tx = noNd from if_neg (by rw [HPF.out]; simp))
    clear hc
    go_upto_region 9 with (first
      | (go_at_call 32; refine (lF_any _ _ _).mono ?_; rintro e w3 ⟨rfl, hb3⟩; have HR3 := hide (HR1.out.later hb3); have HQ3 := hide (HQ1.out.later hb3); have HW3 := hide (HW1.out.later hb3); have HA3 := hide (HA1.out.trans (hb3.mono HA1.out.size)); have hz3 := hb3.size; clear hb3; unfold flt)
      | (refine wpList_store_blk rfl rfl rfl rfl HW3.out rfl Try.sizeFaultR rfl ?_; intro w4 hW4 hg4; have HW4 := hide hW4; have HR4 := hide (HR3.out.grown hg4 (by simp; omega)); have HQ4 := hide (HQ3.out.grown hg4 (by simp; omega)); have HA4 := hide (below_grownO HA3.out hg4 (fun k hk => by cases hk; omega) HA3.out.size); have m0 := hW4.cell 0; have m1 := hW4.cell 1; have ml := hW4.lt; simp at m0 m1; clear hW4 hg4))
    clear f0 f1
    have ra0 := HR4.out.cell 0
    have raz0 := HR4.out.frozen 0
    have ra1 := HR4.out.cell 1
    have raz1 := HR4.out.frozen 1
    have ra2 := HR4.out.cell 2
    have raz2 := HR4.out.frozen 2
    have ra3 := HR4.out.cell 3
    have raz3 := HR4.out.frozen 3
    have ra4 := HR4.out.cell 4
    have raz4 := HR4.out.frozen 4
    have ra5 := HR4.out.cell 5
    have raz5 := HR4.out.frozen 5
    have ra6 := HR4.out.cell 6
    have raz6 := HR4.out.frozen 6
    have ra7 := HR4.out.cell 7
    have raz7 := HR4.out.frozen 7
    have ra8 := HR4.out.cell 8
    have raz8 := HR4.out.frozen 8
    have ra9 := HR4.out.cell 9
    have raz9 := HR4.out.frozen 9
    have ral := HR4.out.lt
    simp at ra0 ra1 ra2 ra3 ra4 ra5 ra6 ra7 ra8 ra9
    have qa0 := HQ4.out.cell 0
    have qaz0 := HQ4.out.frozen 0
    have qa1 := HQ4.out.cell 1
    have qaz1 := HQ4.out.frozen 1
    have qal := HQ4.out.lt
    simp at qa0 qa1
    go_region
    all_goals
      obtain ⟨hR9, hQ9, hA9, _, _⟩ := setL_two (w := w) (C := w.heap.size) [.int .i64 0, .int .i64 0, .int .i64 0, .int .i64 0, .slice none 0 0, .int .i64 0, .int .i64 0, .slice none 0 0, .slice none 0 0, .slice none 0 0] [.int .i64 2, .int .i64 0] HR4.out HQ4.out hrq rfl rfl HA4.out (by omega) (by omega)
      have HR9 := hide hR9
      have HQ9 := hide hQ9
      have HA9 := hide hA9
      simp only [setL] at HR9 HQ9 HA9
      clear hR9 hQ9 hA9 ra0 raz0 ra1 raz1 ra2 raz2 ra3 raz3 ra4 raz4 ra5 raz5 ra6 raz6 ra7 raz7 ra8 raz8 ra9 raz9 ral qa0 qaz0 qa1 qaz1 qal m0 m1
      generalize ((((((((((((w4.setCell ⟨w.heap.size + 1, 0, none⟩ (.int .i64 0)).setCell ⟨w.heap.size + 1, 1, none⟩ (.int .i64 0)).setCell ⟨w.heap.size + 1, 2, none⟩ (.int .i64 0)).setCell ⟨w.heap.size + 1, 3, none⟩ (.int .i64 0)).setCell ⟨w.heap.size + 1, 4, none⟩ (.slice none 0 0)).setCell ⟨w.heap.size + 1, 5, none⟩ (.int .i64 0)).setCell ⟨w.heap.size + 1, 6, none⟩ (.int .i64 0)).setCell ⟨w.heap.size + 1, 7, none⟩ (.slice none 0 0)).setCell ⟨w.heap.size + 1, 8, none⟩ (.slice none 0 0)).setCell ⟨w.heap.size + 1, 9, none⟩ (.slice none 0 0)).setCell ⟨w.heap.size + 1 + 1, 0, none⟩ (.int .i64 2)).setCell ⟨w.heap.size + 1 + 1, 1, none⟩ (.int .i64 0)).drew = wz at HR9 HQ9 HA9 ⊢
      go_wp2_with fail
      refine bodyPost_ret (results2_cells Try.results23 rfl rfl (run_loadVar_blk HR9.out Try.underlying34 rfl Try.sizeNode) (run_loadVar_blk HQ9.out Try.underlying26 rfl Try.sizeFaultR)) rfl ?_
      rw [HE.out, HPF.out]
      exact ⟨_, _, _, _, rfl, RdNd.no _, HA9.out⟩
  have e3 : decide (100 ≤ (lo.length : Int)) = false := decide_eq_false (by have := HLL.out; omega)
  have hn2 := hc
  clear hc
  have HPF := hide (show proF ⟨n, id, te, vo, lo, ro, co, vs, ns, hs⟩ tx = (0, 0) by rw [HPR.out, HLZ.out, if_neg (by simp), if_neg hn8, if_neg hn2])
  have HE := hide (show proN ⟨n, id, te, vo, lo, ro, co, vs, ns, hs⟩ tx = Nd.prop ⟨n, id, te, vo, lo, ro, co, vs, ns, hs⟩ tx from if_pos (by rw [HPF.out]))
  obtain ⟨hfine, hrole, _, hlg⟩ := HOK.out (by rw [HPF.out])
  obtain ⟨ln1, ln2, ln3, ln4, ln5⟩ := hfine.lens hrole
  obtain ⟨sm1, sm2, sm3, sm4⟩ := hfine.small
  have HFI := hide hfine
  have HLNS := hide (And.intro ln1 ln2)
  simp only at hlg sm1 sm2 sm3 sm4
  have HSM := hide (And.intro hlg (And.intro sm3 sm4))
  have HSW := hide (show w.heap.size + 3 ≤ (w1.alloc (.cells #[.int .i64 0, .int .i64 0] 26)).heap.size by simp; omega)
  have HCP := hide (CopyNode_any ⟨n, id, te, vo, lo, ro, co, vs, ns, hs⟩ _ _ _ _ _ (HX.out.below HA1.out) (by simp only; omega) (by simp only; omega) (by simp only; omega) (by simp only; omega))
  unfold ndV ndA at HCP
  clear hfine hrole hlg ln1 ln2 ln3 ln4 ln5 sm1 sm2 sm3 sm4 hn11 hn8 hn2
  go_upto_region 10 with fail
  generalize hWW : (w1.alloc (.cells #[.int .i64 0, .int .i64 0] 26)) = W at HP1 HR1 HQ1 HA1 HCP HSW HW1 f0 f1 g4 g5 gl ⊢
  clear hWW f0 f1
  go_wp2_with (refine wpList_load_blk HP1.out Try.underlying34 rfl Try.sizeNode rfl rfl rfl ?_)
  refine HCP.out.mono ?_
  rintro e w2 ⟨lab, lv2, vv2, nv2, hv2, rfl, hnw, hlab, hb2⟩
  obtain ⟨lo2, lc2, hs1⟩ := owns_shapeK hnw.log.1
  obtain ⟨vo2, vc2, hs2⟩ := owns_shapeK hnw.vot.1
  obtain ⟨I, hI⟩ : ∃ I : Nat, id = I := ⟨id.toNat, by have := HFI.out.id0; simp only at this; omega⟩
  have HI := hide hI
  have hin := HFI.out.idn
  have hn7 := HFI.out.n7
  have hn1 := HFI.out.n1
  have hcc0 := HFI.out.c0
  have hccl := HFI.out.cl
  try simp only at hin
  try simp only at hn7
  try simp only at hn1
  try simp only at hcc0
  try simp only at hccl
  have hlns := HLNS.out
  try simp only at hlns
  obtain ⟨u1, hu1⟩ : ∃ u, hs[I]? = some u := ⟨_, List.getElem?_eq_getElem (by omega)⟩
  obtain ⟨u2, hu2⟩ : ∃ u, ns[I]? = some u := ⟨_, List.getElem?_eq_getElem (by omega)⟩
  obtain ⟨g, gcap, hs4, _, _, _⟩ := hnw.hav.atI hu1
  obtain ⟨g2, gcap2, hs3, _, _, _⟩ := hnw.nxt.atI hu2
  have HUS := hide (And.intro hu1 hu2)
  have HKI := hide (show I < ns.length ∧ I < hs.length by omega)
  have HNU := hide (show (0 ≤ n ∧ n ≤ 1000) ∧ (0 ≤ co ∧ co ≤ lo.length) by omega)
  subst hs1 hs2 hs3 hs4
  clear hI hin hn7 hn1 hcc0 hccl hlns hu1 hu2
  have HD0 := hide hnw.layD
  have HLAB := hide hlab
  have hNB := below_allocG w2 (.cells #[.int .i64 n, .int .i64 id, .int .i64 te, .int .i64 vo, .slice lo2 lo.length lc2, .int .i64 ro, .int .i64 co, .slice vo2 vs.length vc2, .slice (some ⟨g2, 0, none⟩) ns.length gcap2, .slice (some ⟨g, 0, none⟩) hs.length gcap] 34)
  have hb3 := hb2.trans (hNB.mono hb2.size)
  have HB3 := hide hb3
  have hz2 := hb2.size
  unfold ndA at HD0
  dsimp only at HD0 ⊢
  clear hnw hlab hb2 hNB HCP
  go_upto_region 11 with fail
  have HSB := hide (show W.heap.size ≤ w2.heap.size from hz2)
  generalize hWB : w2.alloc (.cells #[.int .i64 n, .int .i64 id, .int .i64 te, .int .i64 vo, .slice lo2 lo.length lc2, .int .i64 ro, .int .i64 co, .slice vo2 vs.length vc2, .slice (some ⟨g2, 0, none⟩) ns.length gcap2, .slice (some ⟨g, 0, none⟩) hs.length gcap] 34) = WB at HD0 HB3 hb3 ⊢
  have hP3 := HP1.out.later hb3
  have p1 := hP3.cell 1
  have p2 := hP3.cell 2
  have pl := hP3.lt
  simp at p1 p2
  have b4 := HD0.out.blk.cell 4
  have bl := HD0.out.blk.lt
  have HBB := hide HD0.out.blk
  simp [ndA] at b4
  unfold ndA at HBB
  dsimp only at HBB
  have HON := hide (HD0.out.log.1.alloc (.cells #[.int .i64 te, .string tx] 59))
  have HRO := hide (RdG.oneE WB ⟨te, tx⟩)
  have HBA := hide (HBB.out.later (below_allocG WB (.cells #[.int .i64 te, .string tx] 59)))
  have HOF := hide (owns_off HON.out HBA.out (by decide))
  have HL2 := hide (show lo.length + [(⟨te, tx⟩ : Et)].length ≤ 1000000000 by have := HSM.out.1; simp; omega)
  dsimp only at HON
  clear hWB hb3 hP3
  go_upto_region 12 with (first
    | (at_builtin; go_must (refine wpList_append_rdAt (E := eE) (cs := lo) (news := [⟨te, tx⟩]) HON.out HRO.out Try.underlying22 infoEntry rfl rfl rfl rfl rfl HL2.out (by decide) (Nat.zero_le _) ?_); intro v5 w5 ho5 hg5 hat5; obtain ⟨ao5, cap5, hv5⟩ := owns_shapeK ho5; subst hv5; have HB5 := hide (HBA.out.grown hg5 (fun q => HOF.out q.symm)); have HO5 := hide ho5; have HG5 := hide hg5; have HAT := hide hat5; clear ho5 hg5 hat5)
    | (refine wpList_store_slice (k := 4) rfl rfl rfl rfl HB5.out rfl Try.sizeEntsR ?_; intro w6 hB6 hg6; have HB6 := hide hB6; have HG6 := hide hg6; clear hB6 hg6))
  obtain ⟨hN6, hC6⟩ := HD0.out.appLog (l := lo ++ [⟨te, tx⟩]) (below_allocG WB (.cells #[.int .i64 te, .string tx] 59)) (by simpa using HO5.out) HG5.out HAT.out HG6.out HB6.out
  have HL0 := hide (show ∀ g, g < W.heap.size → labTo lab (some w2.heap.size) 5 g = 0 from fun g hg => by
    unfold labTo
    rw [if_neg (fun q => by have := HSB.out; simp at q; omega)]
    exact HLAB.out g hg)
  have HC6 := hide (hC6.mono (T := fun i => i ≠ 0) (fun i hi => (by omega : i ≠ 0)))
  have HB6w := hide (HB3.out.trans (Below.ofChg HC6.out (fun k hk q => q (HL0.out k hk)) HB3.out.size))
  generalize hL1 : labTo (labTo lab (some w2.heap.size) 5) (Value.slice ao5 (lo.length + [(⟨te, tx⟩ : Et)].length) cap5).ownBlock 1 = lab1 at hN6 HC6
  simp only [List.length_singleton] at hN6
  have hk1 : (0 : Int) ≤ (I : Int) := by omega
  have hk2 : (I : Int) < (hs.length : Int) := by have := HKI.out.2; omega
  have hk3 : (I : Int) < (ns.length : Int) := by have := HKI.out.1; omega
  clear hL1 hC6 p1 p2 pl b4 bl HBB HON HRO HBA HOF HL2 HB5 HO5 HG5 HAT HB6 HG6
  obtain ⟨h6g, h6c, h6q, h6l, h6ce, h6z⟩ := hN6.hav.atI HUS.out.1
  simp only [Value.slice.injEq, Option.some.injEq, Addr.mk.injEq] at h6q
  obtain ⟨⟨rfl, _, _⟩, _, rfl⟩ := h6q
  have HN6 := hide hN6
  have c4 := hN6.blk.cell 4
  have c9 := hN6.blk.cell 9
  have cl := hN6.blk.lt
  simp [ndA] at c4 c9
  have p1 := (HP1.out.later HB6w.out).cell 1
  have pl := (HP1.out.later HB6w.out).lt
  simp at p1
  rw [HI.out] at p1
  clear hN6
  go_upto_region 13 with fail
  obtain ⟨hN7, hC7⟩ := HN6.out.setHave I ((lo.length : Int) + 1)
  have HC7 := hide (HC6.out.trans (hC7.mono (fun i hi => (by omega : i ≠ 0))))
  have HB7w := hide (HB3.out.trans (Below.ofChg HC7.out (fun k hk q => q (HL0.out k hk)) HB3.out.size))
  simp only at hN7
  generalize (w6.setCell ⟨g, I, none⟩ (.int .i64 ((lo.length : Int) + 1))) = w7 at hN7 HC7 HB7w ⊢
  clear hC7 HC6 HB6w HN6 c4 cl p1 pl h6l h6ce h6z
  clear c9
  obtain ⟨h7g, h7c, h7q, h7l, h7ce, h7z⟩ := hN7.nxt.atI HUS.out.2
  simp only [Value.slice.injEq, Option.some.injEq, Addr.mk.injEq] at h7q
  obtain ⟨⟨rfl, _, _⟩, _, rfl⟩ := h7q
  have HN7 := hide hN7
  have c4 := hN7.blk.cell 4
  have c8 := hN7.blk.cell 8
  have cl := hN7.blk.lt
  simp [ndA] at c4 c8
  have p1 := (HP1.out.later HB7w.out).cell 1
  have pl := (HP1.out.later HB7w.out).lt
  simp at p1
  rw [HI.out] at p1
  clear hN7
  have hw1 : IntKind.i64.wrap ((lo.length : Int) + 1 + 1) = (lo.length : Int) + 1 + 1 := by have := HSM.out.1; rw [IntKind.wrap_i64]; omega
  go_upto_region 14 with fail
  obtain ⟨hN8, hC8⟩ := HN7.out.setNext I ((lo.length : Int) + 1 + 1)
  have HC8 := hide (HC7.out.trans (hC8.mono (fun i hi => (by omega : i ≠ 0))))
  have HB8w := hide (HB3.out.trans (Below.ofChg HC8.out (fun k hk q => q (HL0.out k hk)) HB3.out.size))
  simp only at hN8
  generalize (w7.setCell ⟨g2, I, none⟩ (.int .i64 ((lo.length : Int) + 1 + 1))) = w8 at hN8 HC8 HB8w ⊢
  clear hC8 HC7 HB7w HN7 c4 cl p1 pl h7l h7ce h7z
  clear c8 hw1
  have HEQ := hide (show (⟨n, id, te, vo, lo ++ [⟨te, tx⟩], ro, co, vs, ns.set I ((lo.length : Int) + 1 + 1), hs.set I ((lo.length : Int) + 1)⟩ : Nd) = Nd.prop0 ⟨n, id, te, vo, lo, ro, co, vs, ns, hs⟩ tx by
    have e2 : I = id.toNat := by rw [HI.out]; rfl
    rw [e2]
    rfl)
  have HPP : Hid (Nd.prop ⟨n, id, te, vo, lo, ro, co, vs, ns, hs⟩ tx = (Nd.prop0 ⟨n, id, te, vo, lo, ro, co, vs, ns, hs⟩ tx).count) := hide rfl
  obtain ⟨cm, hcm⟩ : ∃ cm, Nd.count ⟨n, id, te, vo, lo ++ [⟨te, tx⟩], ro, co, vs, ns.set I ((lo.length : Int) + 1 + 1), hs.set I ((lo.length : Int) + 1)⟩ = ⟨n, id, te, vo, lo ++ [⟨te, tx⟩], ro, cm, vs, ns.set I ((lo.length : Int) + 1 + 1), hs.set I ((lo.length : Int) + 1)⟩ := ⟨_, rfl⟩
  have hD : Below w8.heap.size w8 w8.drew := Below.drew (Below.refl _ _)
  have HCO := hide (Counted_any ⟨n, id, te, vo, lo ++ [⟨te, tx⟩], ro, co, vs, ns.set I ((lo.length : Int) + 1 + 1), hs.set I ((lo.length : Int) + 1)⟩ _ _ _ _ _ (hN8.below hD).rd HNU.out.1.1 HNU.out.1.2 (by have := HSM.out; simp; omega) (by have := HSM.out; simp; omega) HNU.out.2.1 (by have := HNU.out; simp; omega))
  rw [hcm] at HCO
  have HCM := hide hcm
  unfold ndV ndA at HCO
  dsimp only at HCO
  have HND := hide (hN8.below hD)
  have HD := hide hD
  have HL1 := hide (show ∀ g, g < W.heap.size → lab1 g = 0 from fun g hg => (HC8.out.labs g (Nat.lt_of_lt_of_le hg HB3.out.size)).trans (HL0.out g hg))
  have HBL := hide hN8.blk
  unfold ndA at HBL
  dsimp only at HBL
  have HF8 := hide (HW1.out.later HB8w.out)
  have HR8 := hide (HR1.out.later HB8w.out)
  have HQ8 := hide (HQ1.out.later HB8w.out)
  have hbr : w2.heap.size ≠ w.heap.size + 1 := by have := HSB.out; have := HSW.out; omega
  have hbq : w2.heap.size ≠ w.heap.size + 1 + 1 := by have := HSB.out; have := HSW.out; omega
  have hz8 := HB8w.out.size
  have hzW := HSW.out
  clear hcm hN8 hD hk1 hk2 hk3 g4 g5 gl e1 e2 e3
  have pb0 := HBL.out.cell 0
  have pbz0 := HBL.out.frozen 0
  have pb1 := HBL.out.cell 1
  have pbz1 := HBL.out.frozen 1
  have pb2 := HBL.out.cell 2
  have pbz2 := HBL.out.frozen 2
  have pb3 := HBL.out.cell 3
  have pbz3 := HBL.out.frozen 3
  have pb4 := HBL.out.cell 4
  have pbz4 := HBL.out.frozen 4
  have pb5 := HBL.out.cell 5
  have pbz5 := HBL.out.frozen 5
  have pb6 := HBL.out.cell 6
  have pbz6 := HBL.out.frozen 6
  have pb7 := HBL.out.cell 7
  have pbz7 := HBL.out.frozen 7
  have pb8 := HBL.out.cell 8
  have pbz8 := HBL.out.frozen 8
  have pb9 := HBL.out.cell 9
  have pbz9 := HBL.out.frozen 9
  have pbl := HBL.out.lt
  simp at pb0 pb1 pb2 pb3 pb4 pb5 pb6 pb7 pb8 pb9
  have pf0 := HF8.out.cell 0
  have pfz0 := HF8.out.frozen 0
  have pf1 := HF8.out.cell 1
  have pfz1 := HF8.out.frozen 1
  have pfl := HF8.out.lt
  simp at pf0 pf1
  have ra0 := HR8.out.cell 0
  have raz0 := HR8.out.frozen 0
  have ra1 := HR8.out.cell 1
  have raz1 := HR8.out.frozen 1
  have ra2 := HR8.out.cell 2
  have raz2 := HR8.out.frozen 2
  have ra3 := HR8.out.cell 3
  have raz3 := HR8.out.frozen 3
  have ra4 := HR8.out.cell 4
  have raz4 := HR8.out.frozen 4
  have ra5 := HR8.out.cell 5
  have raz5 := HR8.out.frozen 5
  have ra6 := HR8.out.cell 6
  have raz6 := HR8.out.frozen 6
  have ra7 := HR8.out.cell 7
  have raz7 := HR8.out.frozen 7
  have ra8 := HR8.out.cell 8
  have raz8 := HR8.out.frozen 8
  have ra9 := HR8.out.cell 9
  have raz9 := HR8.out.frozen 9
  have ral := HR8.out.lt
  simp at ra0 ra1 ra2 ra3 ra4 ra5 ra6 ra7 ra8 ra9
  have qa0 := HQ8.out.cell 0
  have qaz0 := HQ8.out.frozen 0
  have qa1 := HQ8.out.cell 1
  have qaz1 := HQ8.out.frozen 1
  have qal := HQ8.out.lt
  simp at qa0 qa1
  have HKEEP : Hid (∀ W_, Below w8.heap.size w8 W_ → W_.cell? ⟨w2.heap.size, 0, none⟩ = some (.int .i64 n) ∧ W_.cell? ⟨w2.heap.size, 1, none⟩ = some (.int .i64 id) ∧ W_.cell? ⟨w2.heap.size, 2, none⟩ = some (.int .i64 te) ∧ W_.cell? ⟨w2.heap.size, 3, none⟩ = some (.int .i64 vo) ∧ W_.cell? ⟨w2.heap.size, 4, none⟩ = some (.slice ao5 (lo.length + 1) cap5) ∧ W_.cell? ⟨w2.heap.size, 5, none⟩ = some (.int .i64 ro) ∧ W_.cell? ⟨w2.heap.size, 6, none⟩ = some (.int .i64 co) ∧ W_.cell? ⟨w2.heap.size, 7, none⟩ = some (.slice vo2 vs.length vc2) ∧ W_.cell? ⟨w2.heap.size, 8, none⟩ = some (.slice (some ⟨g2, 0, none⟩) ns.length gcap2) ∧ W_.cell? ⟨w2.heap.size, 9, none⟩ = some (.slice (some ⟨g, 0, none⟩) hs.length gcap) ∧ W_.cell? ⟨w1.heap.size, 0, none⟩ = some (.int .i64 0) ∧ W_.cell? ⟨w1.heap.size, 1, none⟩ = some (.int .i64 0)) := hide (fun W_ hW => by
    have h1 := HBL.out.later hW
    have h2 := HF8.out.later hW
    exact ⟨h1.cell 0, h1.cell 1, h1.cell 2, h1.cell 3, h1.cell 4, h1.cell 5, h1.cell 6, h1.cell 7, h1.cell 8, h1.cell 9, h2.cell 0, h2.cell 1⟩)
  have HK8 : Hid (∀ W9, Below w8.heap.size w8 W9 → ((((((((((W9.setCell ⟨w.heap.size + 1, 0, none⟩ (.int .i64 n)).setCell ⟨w.heap.size + 1, 1, none⟩ (.int .i64 id)).setCell ⟨w.heap.size + 1, 2, none⟩ (.int .i64 te)).setCell ⟨w.heap.size + 1, 3, none⟩ (.int .i64 vo)).setCell ⟨w.heap.size + 1, 4, none⟩ (.slice ao5 (lo.length + 1) cap5)).setCell ⟨w.heap.size + 1, 5, none⟩ (.int .i64 ro)).setCell ⟨w.heap.size + 1, 6, none⟩ (.int .i64 cm)).setCell ⟨w.heap.size + 1, 7, none⟩ (.slice vo2 vs.length vc2)).setCell ⟨w.heap.size + 1, 8, none⟩ (.slice (some ⟨g2, 0, none⟩) ns.length gcap2)).setCell ⟨w.heap.size + 1, 9, none⟩ (.slice (some ⟨g, 0, none⟩) hs.length gcap)).cell? ⟨w2.heap.size, 0, none⟩ = some (.int .i64 n) ∧ ((((((((((W9.setCell ⟨w.heap.size + 1, 0, none⟩ (.int .i64 n)).setCell ⟨w.heap.size + 1, 1, none⟩ (.int .i64 id)).setCell ⟨w.heap.size + 1, 2, none⟩ (.int .i64 te)).setCell ⟨w.heap.size + 1, 3, none⟩ (.int .i64 vo)).setCell ⟨w.heap.size + 1, 4, none⟩ (.slice ao5 (lo.length + 1) cap5)).setCell ⟨w.heap.size + 1, 5, none⟩ (.int .i64 ro)).setCell ⟨w.heap.size + 1, 6, none⟩ (.int .i64 cm)).setCell ⟨w.heap.size + 1, 7, none⟩ (.slice vo2 vs.length vc2)).setCell ⟨w.heap.size + 1, 8, none⟩ (.slice (some ⟨g2, 0, none⟩) ns.length gcap2)).setCell ⟨w.heap.size + 1, 9, none⟩ (.slice (some ⟨g, 0, none⟩) hs.length gcap)).cell? ⟨w2.heap.size, 1, none⟩ = some (.int .i64 id) ∧ ((((((((((W9.setCell ⟨w.heap.size + 1, 0, none⟩ (.int .i64 n)).setCell ⟨w.heap.size + 1, 1, none⟩ (.int .i64 id)).setCell ⟨w.heap.size + 1, 2, none⟩ (.int .i64 te)).setCell ⟨w.heap.size + 1, 3, none⟩ (.int .i64 vo)).setCell ⟨w.heap.size + 1, 4, none⟩ (.slice ao5 (lo.length + 1) cap5)).setCell ⟨w.heap.size + 1, 5, none⟩ (.int .i64 ro)).setCell ⟨w.heap.size + 1, 6, none⟩ (.int .i64 cm)).setCell ⟨w.heap.size + 1, 7, none⟩ (.slice vo2 vs.length vc2)).setCell ⟨w.heap.size + 1, 8, none⟩ (.slice (some ⟨g2, 0, none⟩) ns.length gcap2)).setCell ⟨w.heap.size + 1, 9, none⟩ (.slice (some ⟨g, 0, none⟩) hs.length gcap)).cell? ⟨w2.heap.size, 2, none⟩ = some (.int .i64 te) ∧ ((((((((((W9.setCell ⟨w.heap.size + 1, 0, none⟩ (.int .i64 n)).setCell ⟨w.heap.size + 1, 1, none⟩ (.int .i64 id)).setCell ⟨w.heap.size + 1, 2, none⟩ (.int .i64 te)).setCell ⟨w.heap.size + 1, 3, none⟩ (.int .i64 vo)).setCell ⟨w.heap.size + 1, 4, none⟩ (.slice ao5 (lo.length + 1) cap5)).setCell ⟨w.heap.size + 1, 5, none⟩ (.int .i64 ro)).setCell ⟨w.heap.size + 1, 6, none⟩ (.int .i64 cm)).setCell ⟨w.heap.size + 1, 7, none⟩ (.slice vo2 vs.length vc2)).setCell ⟨w.heap.size + 1, 8, none⟩ (.slice (some ⟨g2, 0, none⟩) ns.length gcap2)).setCell ⟨w.heap.size + 1, 9, none⟩ (.slice (some ⟨g, 0, none⟩) hs.length gcap)).cell? ⟨w2.heap.size, 3, none⟩ = some (.int .i64 vo) ∧ ((((((((((W9.setCell ⟨w.heap.size + 1, 0, none⟩ (.int .i64 n)).setCell ⟨w.heap.size + 1, 1, none⟩ (.int .i64 id)).setCell ⟨w.heap.size + 1, 2, none⟩ (.int .i64 te)).setCell ⟨w.heap.size + 1, 3, none⟩ (.int .i64 vo)).setCell ⟨w.heap.size + 1, 4, none⟩ (.slice ao5 (lo.length + 1) cap5)).setCell ⟨w.heap.size + 1, 5, none⟩ (.int .i64 ro)).setCell ⟨w.heap.size + 1, 6, none⟩ (.int .i64 cm)).setCell ⟨w.heap.size + 1, 7, none⟩ (.slice vo2 vs.length vc2)).setCell ⟨w.heap.size + 1, 8, none⟩ (.slice (some ⟨g2, 0, none⟩) ns.length gcap2)).setCell ⟨w.heap.size + 1, 9, none⟩ (.slice (some ⟨g, 0, none⟩) hs.length gcap)).cell? ⟨w2.heap.size, 4, none⟩ = some (.slice ao5 (lo.length + 1) cap5) ∧ ((((((((((W9.setCell ⟨w.heap.size + 1, 0, none⟩ (.int .i64 n)).setCell ⟨w.heap.size + 1, 1, none⟩ (.int .i64 id)).setCell ⟨w.heap.size + 1, 2, none⟩ (.int .i64 te)).setCell ⟨w.heap.size + 1, 3, none⟩ (.int .i64 vo)).setCell ⟨w.heap.size + 1, 4, none⟩ (.slice ao5 (lo.length + 1) cap5)).setCell ⟨w.heap.size + 1, 5, none⟩ (.int .i64 ro)).setCell ⟨w.heap.size + 1, 6, none⟩ (.int .i64 cm)).setCell ⟨w.heap.size + 1, 7, none⟩ (.slice vo2 vs.length vc2)).setCell ⟨w.heap.size + 1, 8, none⟩ (.slice (some ⟨g2, 0, none⟩) ns.length gcap2)).setCell ⟨w.heap.size + 1, 9, none⟩ (.slice (some ⟨g, 0, none⟩) hs.length gcap)).cell? ⟨w2.heap.size, 5, none⟩ = some (.int .i64 ro) ∧ ((((((((((W9.setCell ⟨w.heap.size + 1, 0, none⟩ (.int .i64 n)).setCell ⟨w.heap.size + 1, 1, none⟩ (.int .i64 id)).setCell ⟨w.heap.size + 1, 2, none⟩ (.int .i64 te)).setCell ⟨w.heap.size + 1, 3, none⟩ (.int .i64 vo)).setCell ⟨w.heap.size + 1, 4, none⟩ (.slice ao5 (lo.length + 1) cap5)).setCell ⟨w.heap.size + 1, 5, none⟩ (.int .i64 ro)).setCell ⟨w.heap.size + 1, 6, none⟩ (.int .i64 cm)).setCell ⟨w.heap.size + 1, 7, none⟩ (.slice vo2 vs.length vc2)).setCell ⟨w.heap.size + 1, 8, none⟩ (.slice (some ⟨g2, 0, none⟩) ns.length gcap2)).setCell ⟨w.heap.size + 1, 9, none⟩ (.slice (some ⟨g, 0, none⟩) hs.length gcap)).cell? ⟨w2.heap.size, 6, none⟩ = some (.int .i64 co) ∧ ((((((((((W9.setCell ⟨w.heap.size + 1, 0, none⟩ (.int .i64 n)).setCell ⟨w.heap.size + 1, 1, none⟩ (.int .i64 id)).setCell ⟨w.heap.size + 1, 2, none⟩ (.int .i64 te)).setCell ⟨w.heap.size + 1, 3, none⟩ (.int .i64 vo)).setCell ⟨w.heap.size + 1, 4, none⟩ (.slice ao5 (lo.length + 1) cap5)).setCell ⟨w.heap.size + 1, 5, none⟩ (.int .i64 ro)).setCell ⟨w.heap.size + 1, 6, none⟩ (.int .i64 cm)).setCell ⟨w.heap.size + 1, 7, none⟩ (.slice vo2 vs.length vc2)).setCell ⟨w.heap.size + 1, 8, none⟩ (.slice (some ⟨g2, 0, none⟩) ns.length gcap2)).setCell ⟨w.heap.size + 1, 9, none⟩ (.slice (some ⟨g, 0, none⟩) hs.length gcap)).cell? ⟨w2.heap.size, 7, none⟩ = some (.slice vo2 vs.length vc2) ∧ ((((((((((W9.setCell ⟨w.heap.size + 1, 0, none⟩ (.int .i64 n)).setCell ⟨w.heap.size + 1, 1, none⟩ (.int .i64 id)).setCell ⟨w.heap.size + 1, 2, none⟩ (.int .i64 te)).setCell ⟨w.heap.size + 1, 3, none⟩ (.int .i64 vo)).setCell ⟨w.heap.size + 1, 4, none⟩ (.slice ao5 (lo.length + 1) cap5)).setCell ⟨w.heap.size + 1, 5, none⟩ (.int .i64 ro)).setCell ⟨w.heap.size + 1, 6, none⟩ (.int .i64 cm)).setCell ⟨w.heap.size + 1, 7, none⟩ (.slice vo2 vs.length vc2)).setCell ⟨w.heap.size + 1, 8, none⟩ (.slice (some ⟨g2, 0, none⟩) ns.length gcap2)).setCell ⟨w.heap.size + 1, 9, none⟩ (.slice (some ⟨g, 0, none⟩) hs.length gcap)).cell? ⟨w2.heap.size, 8, none⟩ = some (.slice (some ⟨g2, 0, none⟩) ns.length gcap2) ∧ ((((((((((W9.setCell ⟨w.heap.size + 1, 0, none⟩ (.int .i64 n)).setCell ⟨w.heap.size + 1, 1, none⟩ (.int .i64 id)).setCell ⟨w.heap.size + 1, 2, none⟩ (.int .i64 te)).setCell ⟨w.heap.size + 1, 3, none⟩ (.int .i64 vo)).setCell ⟨w.heap.size + 1, 4, none⟩ (.slice ao5 (lo.length + 1) cap5)).setCell ⟨w.heap.size + 1, 5, none⟩ (.int .i64 ro)).setCell ⟨w.heap.size + 1, 6, none⟩ (.int .i64 cm)).setCell ⟨w.heap.size + 1, 7, none⟩ (.slice vo2 vs.length vc2)).setCell ⟨w.heap.size + 1, 8, none⟩ (.slice (some ⟨g2, 0, none⟩) ns.length gcap2)).setCell ⟨w.heap.size + 1, 9, none⟩ (.slice (some ⟨g, 0, none⟩) hs.length gcap)).cell? ⟨w2.heap.size, 9, none⟩ = some (.slice (some ⟨g, 0, none⟩) hs.length gcap) ∧ ((((((((((W9.setCell ⟨w.heap.size + 1, 0, none⟩ (.int .i64 n)).setCell ⟨w.heap.size + 1, 1, none⟩ (.int .i64 id)).setCell ⟨w.heap.size + 1, 2, none⟩ (.int .i64 te)).setCell ⟨w.heap.size + 1, 3, none⟩ (.int .i64 vo)).setCell ⟨w.heap.size + 1, 4, none⟩ (.slice ao5 (lo.length + 1) cap5)).setCell ⟨w.heap.size + 1, 5, none⟩ (.int .i64 ro)).setCell ⟨w.heap.size + 1, 6, none⟩ (.int .i64 cm)).setCell ⟨w.heap.size + 1, 7, none⟩ (.slice vo2 vs.length vc2)).setCell ⟨w.heap.size + 1, 8, none⟩ (.slice (some ⟨g2, 0, none⟩) ns.length gcap2)).setCell ⟨w.heap.size + 1, 9, none⟩ (.slice (some ⟨g, 0, none⟩) hs.length gcap)).cell? ⟨w1.heap.size, 0, none⟩ = some (.int .i64 0) ∧ ((((((((((W9.setCell ⟨w.heap.size + 1, 0, none⟩ (.int .i64 n)).setCell ⟨w.heap.size + 1, 1, none⟩ (.int .i64 id)).setCell ⟨w.heap.size + 1, 2, none⟩ (.int .i64 te)).setCell ⟨w.heap.size + 1, 3, none⟩ (.int .i64 vo)).setCell ⟨w.heap.size + 1, 4, none⟩ (.slice ao5 (lo.length + 1) cap5)).setCell ⟨w.heap.size + 1, 5, none⟩ (.int .i64 ro)).setCell ⟨w.heap.size + 1, 6, none⟩ (.int .i64 cm)).setCell ⟨w.heap.size + 1, 7, none⟩ (.slice vo2 vs.length vc2)).setCell ⟨w.heap.size + 1, 8, none⟩ (.slice (some ⟨g2, 0, none⟩) ns.length gcap2)).setCell ⟨w.heap.size + 1, 9, none⟩ (.slice (some ⟨g, 0, none⟩) hs.length gcap)).cell? ⟨w1.heap.size, 1, none⟩ = some (.int .i64 0)) := hide (fun W9 hW => by
    have h1 := (HBL.out.later hW).setL1 (R := w.heap.size + 1) (vs := [.int .i64 n, .int .i64 id, .int .i64 te, .int .i64 vo, .slice ao5 (lo.length + 1) cap5, .int .i64 ro, .int .i64 cm, .slice vo2 vs.length vc2, .slice (some ⟨g2, 0, none⟩) ns.length gcap2, .slice (some ⟨g, 0, none⟩) hs.length gcap]) hbr
    have h2 := (HF8.out.later hW).setL1 (R := w.heap.size + 1) (vs := [.int .i64 n, .int .i64 id, .int .i64 te, .int .i64 vo, .slice ao5 (lo.length + 1) cap5, .int .i64 ro, .int .i64 cm, .slice vo2 vs.length vc2, .slice (some ⟨g2, 0, none⟩) ns.length gcap2, .slice (some ⟨g, 0, none⟩) hs.length gcap]) hfr
    simp only [setL] at h1 h2
    exact ⟨h1.cell 0, h1.cell 1, h1.cell 2, h1.cell 3, h1.cell 4, h1.cell 5, h1.cell 6, h1.cell 7, h1.cell 8, h1.cell 9, h2.cell 0, h2.cell 1⟩)
  have HK9 : Hid (∀ W9, Below w8.heap.size w8 W9 → ((((((((((((W9.setCell ⟨w.heap.size + 1, 0, none⟩ (.int .i64 n)).setCell ⟨w.heap.size + 1, 1, none⟩ (.int .i64 id)).setCell ⟨w.heap.size + 1, 2, none⟩ (.int .i64 te)).setCell ⟨w.heap.size + 1, 3, none⟩ (.int .i64 vo)).setCell ⟨w.heap.size + 1, 4, none⟩ (.slice ao5 (lo.length + 1) cap5)).setCell ⟨w.heap.size + 1, 5, none⟩ (.int .i64 ro)).setCell ⟨w.heap.size + 1, 6, none⟩ (.int .i64 cm)).setCell ⟨w.heap.size + 1, 7, none⟩ (.slice vo2 vs.length vc2)).setCell ⟨w.heap.size + 1, 8, none⟩ (.slice (some ⟨g2, 0, none⟩) ns.length gcap2)).setCell ⟨w.heap.size + 1, 9, none⟩ (.slice (some ⟨g, 0, none⟩) hs.length gcap)).setCell ⟨w.heap.size + 1 + 1, 0, none⟩ (.int .i64 0)).setCell ⟨w.heap.size + 1 + 1, 1, none⟩ (.int .i64 0)).cell? ⟨w2.heap.size, 0, none⟩ = some (.int .i64 n) ∧ ((((((((((((W9.setCell ⟨w.heap.size + 1, 0, none⟩ (.int .i64 n)).setCell ⟨w.heap.size + 1, 1, none⟩ (.int .i64 id)).setCell ⟨w.heap.size + 1, 2, none⟩ (.int .i64 te)).setCell ⟨w.heap.size + 1, 3, none⟩ (.int .i64 vo)).setCell ⟨w.heap.size + 1, 4, none⟩ (.slice ao5 (lo.length + 1) cap5)).setCell ⟨w.heap.size + 1, 5, none⟩ (.int .i64 ro)).setCell ⟨w.heap.size + 1, 6, none⟩ (.int .i64 cm)).setCell ⟨w.heap.size + 1, 7, none⟩ (.slice vo2 vs.length vc2)).setCell ⟨w.heap.size + 1, 8, none⟩ (.slice (some ⟨g2, 0, none⟩) ns.length gcap2)).setCell ⟨w.heap.size + 1, 9, none⟩ (.slice (some ⟨g, 0, none⟩) hs.length gcap)).setCell ⟨w.heap.size + 1 + 1, 0, none⟩ (.int .i64 0)).setCell ⟨w.heap.size + 1 + 1, 1, none⟩ (.int .i64 0)).cell? ⟨w2.heap.size, 1, none⟩ = some (.int .i64 id) ∧ ((((((((((((W9.setCell ⟨w.heap.size + 1, 0, none⟩ (.int .i64 n)).setCell ⟨w.heap.size + 1, 1, none⟩ (.int .i64 id)).setCell ⟨w.heap.size + 1, 2, none⟩ (.int .i64 te)).setCell ⟨w.heap.size + 1, 3, none⟩ (.int .i64 vo)).setCell ⟨w.heap.size + 1, 4, none⟩ (.slice ao5 (lo.length + 1) cap5)).setCell ⟨w.heap.size + 1, 5, none⟩ (.int .i64 ro)).setCell ⟨w.heap.size + 1, 6, none⟩ (.int .i64 cm)).setCell ⟨w.heap.size + 1, 7, none⟩ (.slice vo2 vs.length vc2)).setCell ⟨w.heap.size + 1, 8, none⟩ (.slice (some ⟨g2, 0, none⟩) ns.length gcap2)).setCell ⟨w.heap.size + 1, 9, none⟩ (.slice (some ⟨g, 0, none⟩) hs.length gcap)).setCell ⟨w.heap.size + 1 + 1, 0, none⟩ (.int .i64 0)).setCell ⟨w.heap.size + 1 + 1, 1, none⟩ (.int .i64 0)).cell? ⟨w2.heap.size, 2, none⟩ = some (.int .i64 te) ∧ ((((((((((((W9.setCell ⟨w.heap.size + 1, 0, none⟩ (.int .i64 n)).setCell ⟨w.heap.size + 1, 1, none⟩ (.int .i64 id)).setCell ⟨w.heap.size + 1, 2, none⟩ (.int .i64 te)).setCell ⟨w.heap.size + 1, 3, none⟩ (.int .i64 vo)).setCell ⟨w.heap.size + 1, 4, none⟩ (.slice ao5 (lo.length + 1) cap5)).setCell ⟨w.heap.size + 1, 5, none⟩ (.int .i64 ro)).setCell ⟨w.heap.size + 1, 6, none⟩ (.int .i64 cm)).setCell ⟨w.heap.size + 1, 7, none⟩ (.slice vo2 vs.length vc2)).setCell ⟨w.heap.size + 1, 8, none⟩ (.slice (some ⟨g2, 0, none⟩) ns.length gcap2)).setCell ⟨w.heap.size + 1, 9, none⟩ (.slice (some ⟨g, 0, none⟩) hs.length gcap)).setCell ⟨w.heap.size + 1 + 1, 0, none⟩ (.int .i64 0)).setCell ⟨w.heap.size + 1 + 1, 1, none⟩ (.int .i64 0)).cell? ⟨w2.heap.size, 3, none⟩ = some (.int .i64 vo) ∧ ((((((((((((W9.setCell ⟨w.heap.size + 1, 0, none⟩ (.int .i64 n)).setCell ⟨w.heap.size + 1, 1, none⟩ (.int .i64 id)).setCell ⟨w.heap.size + 1, 2, none⟩ (.int .i64 te)).setCell ⟨w.heap.size + 1, 3, none⟩ (.int .i64 vo)).setCell ⟨w.heap.size + 1, 4, none⟩ (.slice ao5 (lo.length + 1) cap5)).setCell ⟨w.heap.size + 1, 5, none⟩ (.int .i64 ro)).setCell ⟨w.heap.size + 1, 6, none⟩ (.int .i64 cm)).setCell ⟨w.heap.size + 1, 7, none⟩ (.slice vo2 vs.length vc2)).setCell ⟨w.heap.size + 1, 8, none⟩ (.slice (some ⟨g2, 0, none⟩) ns.length gcap2)).setCell ⟨w.heap.size + 1, 9, none⟩ (.slice (some ⟨g, 0, none⟩) hs.length gcap)).setCell ⟨w.heap.size + 1 + 1, 0, none⟩ (.int .i64 0)).setCell ⟨w.heap.size + 1 + 1, 1, none⟩ (.int .i64 0)).cell? ⟨w2.heap.size, 4, none⟩ = some (.slice ao5 (lo.length + 1) cap5) ∧ ((((((((((((W9.setCell ⟨w.heap.size + 1, 0, none⟩ (.int .i64 n)).setCell ⟨w.heap.size + 1, 1, none⟩ (.int .i64 id)).setCell ⟨w.heap.size + 1, 2, none⟩ (.int .i64 te)).setCell ⟨w.heap.size + 1, 3, none⟩ (.int .i64 vo)).setCell ⟨w.heap.size + 1, 4, none⟩ (.slice ao5 (lo.length + 1) cap5)).setCell ⟨w.heap.size + 1, 5, none⟩ (.int .i64 ro)).setCell ⟨w.heap.size + 1, 6, none⟩ (.int .i64 cm)).setCell ⟨w.heap.size + 1, 7, none⟩ (.slice vo2 vs.length vc2)).setCell ⟨w.heap.size + 1, 8, none⟩ (.slice (some ⟨g2, 0, none⟩) ns.length gcap2)).setCell ⟨w.heap.size + 1, 9, none⟩ (.slice (some ⟨g, 0, none⟩) hs.length gcap)).setCell ⟨w.heap.size + 1 + 1, 0, none⟩ (.int .i64 0)).setCell ⟨w.heap.size + 1 + 1, 1, none⟩ (.int .i64 0)).cell? ⟨w2.heap.size, 5, none⟩ = some (.int .i64 ro) ∧ ((((((((((((W9.setCell ⟨w.heap.size + 1, 0, none⟩ (.int .i64 n)).setCell ⟨w.heap.size + 1, 1, none⟩ (.int .i64 id)).setCell ⟨w.heap.size + 1, 2, none⟩ (.int .i64 te)).setCell ⟨w.heap.size + 1, 3, none⟩ (.int .i64 vo)).setCell ⟨w.heap.size + 1, 4, none⟩ (.slice ao5 (lo.length + 1) cap5)).setCell ⟨w.heap.size + 1, 5, none⟩ (.int .i64 ro)).setCell ⟨w.heap.size + 1, 6, none⟩ (.int .i64 cm)).setCell ⟨w.heap.size + 1, 7, none⟩ (.slice vo2 vs.length vc2)).setCell ⟨w.heap.size + 1, 8, none⟩ (.slice (some ⟨g2, 0, none⟩) ns.length gcap2)).setCell ⟨w.heap.size + 1, 9, none⟩ (.slice (some ⟨g, 0, none⟩) hs.length gcap)).setCell ⟨w.heap.size + 1 + 1, 0, none⟩ (.int .i64 0)).setCell ⟨w.heap.size + 1 + 1, 1, none⟩ (.int .i64 0)).cell? ⟨w2.heap.size, 6, none⟩ = some (.int .i64 co) ∧ ((((((((((((W9.setCell ⟨w.heap.size + 1, 0, none⟩ (.int .i64 n)).setCell ⟨w.heap.size + 1, 1, none⟩ (.int .i64 id)).setCell ⟨w.heap.size + 1, 2, none⟩ (.int .i64 te)).setCell ⟨w.heap.size + 1, 3, none⟩ (.int .i64 vo)).setCell ⟨w.heap.size + 1, 4, none⟩ (.slice ao5 (lo.length + 1) cap5)).setCell ⟨w.heap.size + 1, 5, none⟩ (.int .i64 ro)).setCell ⟨w.heap.size + 1, 6, none⟩ (.int .i64 cm)).setCell ⟨w.heap.size + 1, 7, none⟩ (.slice vo2 vs.length vc2)).setCell ⟨w.heap.size + 1, 8, none⟩ (.slice (some ⟨g2, 0, none⟩) ns.length gcap2)).setCell ⟨w.heap.size + 1, 9, none⟩ (.slice (some ⟨g, 0, none⟩) hs.length gcap)).setCell ⟨w.heap.size + 1 + 1, 0, none⟩ (.int .i64 0)).setCell ⟨w.heap.size + 1 + 1, 1, none⟩ (.int .i64 0)).cell? ⟨w2.heap.size, 7, none⟩ = some (.slice vo2 vs.length vc2) ∧ ((((((((((((W9.setCell ⟨w.heap.size + 1, 0, none⟩ (.int .i64 n)).setCell ⟨w.heap.size + 1, 1, none⟩ (.int .i64 id)).setCell ⟨w.heap.size + 1, 2, none⟩ (.int .i64 te)).setCell ⟨w.heap.size + 1, 3, none⟩ (.int .i64 vo)).setCell ⟨w.heap.size + 1, 4, none⟩ (.slice ao5 (lo.length + 1) cap5)).setCell ⟨w.heap.size + 1, 5, none⟩ (.int .i64 ro)).setCell ⟨w.heap.size + 1, 6, none⟩ (.int .i64 cm)).setCell ⟨w.heap.size + 1, 7, none⟩ (.slice vo2 vs.length vc2)).setCell ⟨w.heap.size + 1, 8, none⟩ (.slice (some ⟨g2, 0, none⟩) ns.length gcap2)).setCell ⟨w.heap.size + 1, 9, none⟩ (.slice (some ⟨g, 0, none⟩) hs.length gcap)).setCell ⟨w.heap.size + 1 + 1, 0, none⟩ (.int .i64 0)).setCell ⟨w.heap.size + 1 + 1, 1, none⟩ (.int .i64 0)).cell? ⟨w2.heap.size, 8, none⟩ = some (.slice (some ⟨g2, 0, none⟩) ns.length gcap2) ∧ ((((((((((((W9.setCell ⟨w.heap.size + 1, 0, none⟩ (.int .i64 n)).setCell ⟨w.heap.size + 1, 1, none⟩ (.int .i64 id)).setCell ⟨w.heap.size + 1, 2, none⟩ (.int .i64 te)).setCell ⟨w.heap.size + 1, 3, none⟩ (.int .i64 vo)).setCell ⟨w.heap.size + 1, 4, none⟩ (.slice ao5 (lo.length + 1) cap5)).setCell ⟨w.heap.size + 1, 5, none⟩ (.int .i64 ro)).setCell ⟨w.heap.size + 1, 6, none⟩ (.int .i64 cm)).setCell ⟨w.heap.size + 1, 7, none⟩ (.slice vo2 vs.length vc2)).setCell ⟨w.heap.size + 1, 8, none⟩ (.slice (some ⟨g2, 0, none⟩) ns.length gcap2)).setCell ⟨w.heap.size + 1, 9, none⟩ (.slice (some ⟨g, 0, none⟩) hs.length gcap)).setCell ⟨w.heap.size + 1 + 1, 0, none⟩ (.int .i64 0)).setCell ⟨w.heap.size + 1 + 1, 1, none⟩ (.int .i64 0)).cell? ⟨w2.heap.size, 9, none⟩ = some (.slice (some ⟨g, 0, none⟩) hs.length gcap) ∧ ((((((((((((W9.setCell ⟨w.heap.size + 1, 0, none⟩ (.int .i64 n)).setCell ⟨w.heap.size + 1, 1, none⟩ (.int .i64 id)).setCell ⟨w.heap.size + 1, 2, none⟩ (.int .i64 te)).setCell ⟨w.heap.size + 1, 3, none⟩ (.int .i64 vo)).setCell ⟨w.heap.size + 1, 4, none⟩ (.slice ao5 (lo.length + 1) cap5)).setCell ⟨w.heap.size + 1, 5, none⟩ (.int .i64 ro)).setCell ⟨w.heap.size + 1, 6, none⟩ (.int .i64 cm)).setCell ⟨w.heap.size + 1, 7, none⟩ (.slice vo2 vs.length vc2)).setCell ⟨w.heap.size + 1, 8, none⟩ (.slice (some ⟨g2, 0, none⟩) ns.length gcap2)).setCell ⟨w.heap.size + 1, 9, none⟩ (.slice (some ⟨g, 0, none⟩) hs.length gcap)).setCell ⟨w.heap.size + 1 + 1, 0, none⟩ (.int .i64 0)).setCell ⟨w.heap.size + 1 + 1, 1, none⟩ (.int .i64 0)).cell? ⟨w1.heap.size, 0, none⟩ = some (.int .i64 0) ∧ ((((((((((((W9.setCell ⟨w.heap.size + 1, 0, none⟩ (.int .i64 n)).setCell ⟨w.heap.size + 1, 1, none⟩ (.int .i64 id)).setCell ⟨w.heap.size + 1, 2, none⟩ (.int .i64 te)).setCell ⟨w.heap.size + 1, 3, none⟩ (.int .i64 vo)).setCell ⟨w.heap.size + 1, 4, none⟩ (.slice ao5 (lo.length + 1) cap5)).setCell ⟨w.heap.size + 1, 5, none⟩ (.int .i64 ro)).setCell ⟨w.heap.size + 1, 6, none⟩ (.int .i64 cm)).setCell ⟨w.heap.size + 1, 7, none⟩ (.slice vo2 vs.length vc2)).setCell ⟨w.heap.size + 1, 8, none⟩ (.slice (some ⟨g2, 0, none⟩) ns.length gcap2)).setCell ⟨w.heap.size + 1, 9, none⟩ (.slice (some ⟨g, 0, none⟩) hs.length gcap)).setCell ⟨w.heap.size + 1 + 1, 0, none⟩ (.int .i64 0)).setCell ⟨w.heap.size + 1 + 1, 1, none⟩ (.int .i64 0)).cell? ⟨w1.heap.size, 1, none⟩ = some (.int .i64 0)) := hide (fun W9 hW => by
    have h1 := (HBL.out.later hW).setL2 (R := w.heap.size + 1) (Q := w.heap.size + 1 + 1) (vs := [.int .i64 n, .int .i64 id, .int .i64 te, .int .i64 vo, .slice ao5 (lo.length + 1) cap5, .int .i64 ro, .int .i64 cm, .slice vo2 vs.length vc2, .slice (some ⟨g2, 0, none⟩) ns.length gcap2, .slice (some ⟨g, 0, none⟩) hs.length gcap]) (us := [.int .i64 0, .int .i64 0]) hbr hbq
    have h2 := (HF8.out.later hW).setL2 (R := w.heap.size + 1) (Q := w.heap.size + 1 + 1) (vs := [.int .i64 n, .int .i64 id, .int .i64 te, .int .i64 vo, .slice ao5 (lo.length + 1) cap5, .int .i64 ro, .int .i64 cm, .slice vo2 vs.length vc2, .slice (some ⟨g2, 0, none⟩) ns.length gcap2, .slice (some ⟨g, 0, none⟩) hs.length gcap]) (us := [.int .i64 0, .int .i64 0]) hfr hfq
    simp only [setL] at h1 h2
    exact ⟨h1.cell 0, h1.cell 1, h1.cell 2, h1.cell 3, h1.cell 4, h1.cell 5, h1.cell 6, h1.cell 7, h1.cell 8, h1.cell 9, h2.cell 0, h2.cell 1⟩)
  go_region_held3 (fun W_ => W_.cell? ⟨w2.heap.size, 0, none⟩ = some (.int .i64 n) ∧ W_.cell? ⟨w2.heap.size, 1, none⟩ = some (.int .i64 id) ∧ W_.cell? ⟨w2.heap.size, 2, none⟩ = some (.int .i64 te) ∧ W_.cell? ⟨w2.heap.size, 3, none⟩ = some (.int .i64 vo) ∧ W_.cell? ⟨w2.heap.size, 4, none⟩ = some (.slice ao5 (lo.length + 1) cap5) ∧ W_.cell? ⟨w2.heap.size, 5, none⟩ = some (.int .i64 ro) ∧ W_.cell? ⟨w2.heap.size, 6, none⟩ = some (.int .i64 co) ∧ W_.cell? ⟨w2.heap.size, 7, none⟩ = some (.slice vo2 vs.length vc2) ∧ W_.cell? ⟨w2.heap.size, 8, none⟩ = some (.slice (some ⟨g2, 0, none⟩) ns.length gcap2) ∧ W_.cell? ⟨w2.heap.size, 9, none⟩ = some (.slice (some ⟨g, 0, none⟩) hs.length gcap) ∧ W_.cell? ⟨w1.heap.size, 0, none⟩ = some (.int .i64 0) ∧ W_.cell? ⟨w1.heap.size, 1, none⟩ = some (.int .i64 0)) (first | with_reducible exact k9 | with_reducible exact k8 | exact HKEEP.out _ (by go_grown)) (first
    | (go_at_call 54; refine HCO.out.mono ?_; rintro e w9 ⟨rfl, hb9⟩; have HN9 := hide (HND.out.below hb9); have hb6 := HD.out.trans (hb9.mono HD.out.size); have hz6 := hb6.size; have HB6 := hide hb6; have HR5 := hide (HR8.out.later hb6); have HQ5 := hide (HQ8.out.later hb6); have k8 := HK8.out w9 hb6; have k9 := HK9.out w9 hb6; clear hb9; have rb0 := HR5.out.cell 0; have rbz0 := HR5.out.frozen 0; have rb1 := HR5.out.cell 1; have rbz1 := HR5.out.frozen 1; have rb2 := HR5.out.cell 2; have rbz2 := HR5.out.frozen 2; have rb3 := HR5.out.cell 3; have rbz3 := HR5.out.frozen 3; have rb4 := HR5.out.cell 4; have rbz4 := HR5.out.frozen 4; have rb5 := HR5.out.cell 5; have rbz5 := HR5.out.frozen 5; have rb6 := HR5.out.cell 6; have rbz6 := HR5.out.frozen 6; have rb7 := HR5.out.cell 7; have rbz7 := HR5.out.frozen 7; have rb8 := HR5.out.cell 8; have rbz8 := HR5.out.frozen 8; have rb9 := HR5.out.cell 9; have rbz9 := HR5.out.frozen 9; have rbl := HR5.out.lt; simp at rb0 rb1 rb2 rb3 rb4 rb5 rb6 rb7 rb8 rb9; have qb0 := HQ5.out.cell 0; have qbz0 := HQ5.out.frozen 0; have qb1 := HQ5.out.cell 1; have qbz1 := HQ5.out.frozen 1; have qbl := HQ5.out.lt; simp at qb0 qb1))
  all_goals
    have h56 := (HA1.out.trans (HB8w.out.mono HA1.out.size)).trans (HB6.out.mono (HA1.out.trans (HB8w.out.mono HA1.out.size)).size)
    obtain ⟨hR9, hQ9, hA9, _, _⟩ := setL_two0 (w := w) (C := w.heap.size) [.int .i64 n, .int .i64 id, .int .i64 te, .int .i64 vo, .slice ao5 (lo.length + 1) cap5, .int .i64 ro, .int .i64 cm, .slice vo2 vs.length vc2, .slice (some ⟨g2, 0, none⟩) ns.length gcap2, .slice (some ⟨g, 0, none⟩) hs.length gcap] [.int .i64 0, .int .i64 0] HR5.out HQ5.out hrq rfl rfl h56 (by omega) (by omega)
    have hN10 := HN9.out.keep (Chg.grown (S := fun i => i = 0) HN9.out.ok (setL_grown (w.heap.size + 1) [.int .i64 n, .int .i64 id, .int .i64 te, .int .i64 vo, .slice ao5 (lo.length + 1) cap5, .int .i64 ro, .int .i64 cm, .slice vo2 vs.length vc2, .slice (some ⟨g2, 0, none⟩) ns.length gcap2, .slice (some ⟨g, 0, none⟩) hs.length gcap] w9 0) (HL1.out _ (by omega))) (by intro i h1 h2; omega)
    have hN11 := hN10.keep (Chg.grown (S := fun i => i = 0) hN10.ok (setL_grown (w.heap.size + 1 + 1) [.int .i64 0, .int .i64 0] (setL w9 (w.heap.size + 1) 0 [.int .i64 n, .int .i64 id, .int .i64 te, .int .i64 vo, .slice ao5 (lo.length + 1) cap5, .int .i64 ro, .int .i64 cm, .slice vo2 vs.length vc2, .slice (some ⟨g2, 0, none⟩) ns.length gcap2, .slice (some ⟨g, 0, none⟩) hs.length gcap]) 0) (HL1.out _ (by omega))) (by intro i h1 h2; omega)
    have hO9 := hN11.rd
    have HR9 := hide hR9
    have HQ9 := hide hQ9
    have HA9 := hide hA9
    have HO9 := hide hO9
    simp only [setL] at HR9 HQ9 HA9 HO9
    clear hR9 hQ9 hA9 hO9 hN10 hN11 h56 pb0 pbz0 pb1 pbz1 pb2 pbz2 pb3 pbz3 pb4 pbz4 pb5 pbz5 pb6 pbz6 pb7 pbz7 pb8 pbz8 pb9 pbz9 pbl pf0 pfz0 pf1 pfz1 pfl ra0 raz0 ra1 raz1 ra2 raz2 ra3 raz3 ra4 raz4 ra5 raz5 ra6 raz6 ra7 raz7 ra8 raz8 ra9 raz9 ral qa0 qaz0 qa1 qaz1 qal rb0 rbz0 rb1 rbz1 rb2 rbz2 rb3 rbz3 rb4 rbz4 rb5 rbz5 rb6 rbz6 rb7 rbz7 rb8 rbz8 rb9 rbz9 rbl qb0 qbz0 qb1 qbz1 qbl hb6 k8 k9
    generalize ((((((((((((w9.setCell ⟨w.heap.size + 1, 0, none⟩ (.int .i64 n)).setCell ⟨w.heap.size + 1, 1, none⟩ (.int .i64 id)).setCell ⟨w.heap.size + 1, 2, none⟩ (.int .i64 te)).setCell ⟨w.heap.size + 1, 3, none⟩ (.int .i64 vo)).setCell ⟨w.heap.size + 1, 4, none⟩ (.slice ao5 (lo.length + 1) cap5)).setCell ⟨w.heap.size + 1, 5, none⟩ (.int .i64 ro)).setCell ⟨w.heap.size + 1, 6, none⟩ (.int .i64 cm)).setCell ⟨w.heap.size + 1, 7, none⟩ (.slice vo2 vs.length vc2)).setCell ⟨w.heap.size + 1, 8, none⟩ (.slice (some ⟨g2, 0, none⟩) ns.length gcap2)).setCell ⟨w.heap.size + 1, 9, none⟩ (.slice (some ⟨g, 0, none⟩) hs.length gcap)).setCell ⟨w.heap.size + 1 + 1, 0, none⟩ (.int .i64 0)).setCell ⟨w.heap.size + 1 + 1, 1, none⟩ (.int .i64 0)) = wz at HR9 HQ9 HA9 HO9 ⊢
    go_wp2_with fail
    refine bodyPost_ret (results2_cells Try.results23 rfl rfl (run_loadVar_blk HR9.out Try.underlying34 rfl Try.sizeNode) (run_loadVar_blk HQ9.out Try.underlying26 rfl Try.sizeFaultR)) rfl ?_
    rw [HE.out, HPF.out, HPP.out, ← HEQ.out, HCM.out]
    exact ⟨_, _, _, _, rfl, ⟨HO9.out.1, HO9.out.2, HO9.out.3, HO9.out.4⟩, HA9.out⟩

end Go.Proofs.Ytddkjpojbflmjah

/-
  What standing comes to, as the document does it.
-/
namespace Go.Proofs.Ytddkjpojbflmjah

/-- One that stands, and has its own vote. -/
def Nd.stand1 (x : Nd) : Nd := { x with role := 1, votes := [x.id], next := [], hav := [], term := x.term + 1, vote := x.id + 1 }

theorem stand_eq {x : Nd} (h1 : 1 ≤ x.n) : x.stand = if x.n = 1 then x.stand1.lead else x.stand1 := by
  unfold Nd.stand Nd.elect
  have e1 : putV x.stand0.votes x.id = [x.id] := by simp [Nd.stand0, putV]
  have e2 : x.stand0.voted x.id = x.stand1 := by
    unfold Nd.voted
    rw [e1]
    rfl
  rw [e1, e2]
  have e3 : x.stand0.n = x.n := rfl
  rw [e3]
  by_cases h : x.n = 1
  · rw [if_pos h, h]
    simp [mostB]
  · rw [if_neg h]
    have e4 : mostB [x.id].length x.n = false := by
      simp [mostB]
      omega
    rw [e4]
    simp

theorem asks_stand {x : Nd} (h1 : 1 ≤ x.n) : x.stand.asks = othGo x.id (askM x.stand1) x.n.toNat := by
  rw [stand_eq h1]
  by_cases h : x.n = 1
  · rw [if_pos h]
    rfl
  · rw [if_neg h]
    rfl

theorem askM_stand1 (x : Nd) (k : Nat) : askM x.stand1 k = ⟨1, x.id, k, x.term + 1, x.log.length, lastT x.log, 0, [], false⟩ := rfl

end Go.Proofs.Ytddkjpojbflmjah
