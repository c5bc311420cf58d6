/-
  Texts joined: RaftT5, EntB, RaftR1, RaftR2, RaftR3h, RaftR4, RaftR3.
-/
import Derived.Test.YtddkjpojbflmjahMRaftDoes7
/-
  The walk over raft.Beat. (Written by rt3.py.)
-/
namespace Go.Proofs.Ytddkjpojbflmjah
open Go.RowKit Go.Maps
set_option linter.unusedVariables false

def beaM (x : Nd) : List Ml := if (ledF x).1 = 0 then x.beats else []

theorem ledF_ok {x : Nd} (h : (ledF x).1 = 0) : FineN x ∧ x.role = 2 := by
  unfold ledF at h
  by_cases h4 : (chkN x).1 ≠ 0
  · rw [if_pos h4] at h; exact absurd h h4
  rw [if_neg h4] at h
  by_cases h5 : x.role ≠ 2
  · rw [if_pos h5] at h; simp at h
  exact ⟨chkN_fine (Decidable.not_not.1 h4), Decidable.not_not.1 h5⟩

set_option maxRecDepth 100000 in
set_option maxHeartbeats 8000000 in
theorem Beat_any (x : Nd) (lv vv nv hv : Value) (w : World) (hx : RdNd w x lv vv nv hv) (hwf : ∀ v ∈ x.votes, WfI v) :
    Calls Try.prog 18 #[ndV x lv vv nv hv] w fun e w' => ∃ mv, e = .returned (.tuple #[mv, flt (ledF x)]) ∧ OwM w' w.heap.size mv (beaM x) ∧ Below w.heap.size w w' := by
  have HOK := hide (@ledF_ok x)
  have HX := hide hx
  have HZ := hide (ledF_z x)
  obtain ⟨n, id, te, vo, lo, ro, co, vs, ns, hs⟩ := x
  obtain ⟨h1, h2, h3, h4⟩ := hx
  simp only at h1 h2 h3 h4
  obtain ⟨ao, cap, rfl, hc1, hc2⟩ := h1.shape
  obtain ⟨bo, cap2, rfl, hd1, hd2⟩ := h2.shape
  obtain ⟨no, cap3, rfl, _, _⟩ := h3.shape
  obtain ⟨ho, cap4, rfl, _, _⟩ := h4.shape
  have hA := below_alloc2 w (.cells #[.int .i64 n, .int .i64 id, .int .i64 te, .int .i64 vo, .slice ao lo.length cap, .int .i64 ro, .int .i64 co, .slice bo vs.length cap2, .slice no ns.length cap3, .slice ho hs.length cap4] 34) (.cells #[.int .i64 0, .int .i64 0] 26)
  have hP := Blk.at0of2 w (.cells #[.int .i64 0, .int .i64 0] 26) 34 #[.int .i64 n, .int .i64 id, .int .i64 te, .int .i64 vo, .slice ao lo.length cap, .int .i64 ro, .int .i64 co, .slice bo vs.length cap2, .slice no ns.length cap3, .slice ho hs.length cap4]
  have hQ := Blk.at1 w (.cells #[.int .i64 n, .int .i64 id, .int .i64 te, .int .i64 vo, .slice ao lo.length cap, .int .i64 ro, .int .i64 co, .slice bo vs.length cap2, .slice no ns.length cap3, .slice ho hs.length cap4] 34) 26 #[.int .i64 0, .int .i64 0]
  have HC1 := hide (leadFault_any ⟨n, id, te, vo, lo, ro, co, vs, ns, hs⟩ _ _ _ _ _ (HX.out.below hA) hwf)
  have HEQ : Hid (beaM ⟨n, id, te, vo, lo, ro, co, vs, ns, hs⟩ = if (ledF ⟨n, id, te, vo, lo, ro, co, vs, ns, hs⟩).1 = 0 then Nd.beats ⟨n, id, te, vo, lo, ro, co, vs, ns, hs⟩ else []) := hide rfl
  generalize hK : ledF ⟨n, id, te, vo, lo, ro, co, vs, ns, hs⟩ = F at *
  obtain ⟨p, q⟩ := F
  unfold ndV ndA at HC1
  unfold ndV ndA
  have HP := hide hP
  have HQ := hide hQ
  have HA := hide hA
  have HS := hide (show w.heap.size + 2 = ((w.alloc (.cells #[.int .i64 n, .int .i64 id, .int .i64 te, .int .i64 vo, .slice ao lo.length cap, .int .i64 ro, .int .i64 co, .slice bo vs.length cap2, .slice no ns.length cap3, .slice ho hs.length cap4] 34)).alloc (.cells #[.int .i64 0, .int .i64 0] 26)).heap.size by simp)
  clear h1 h2 h3 h4 hP hQ hA hK
  go_enter Try.func18, Try.ntmps18
  go_wp2_with (refine wpList_load_blk HP.out Try.underlying34 rfl Try.sizeNode rfl rfl rfl ?_)
  refine HC1.out.mono ?_
  rintro e w1 ⟨rfl, hb1⟩
  have hN := below_allocG w1 (.cells #[.int .i64 p, .int .i64 q] 26)
  have HP1 := hide ((HP.out.later hb1).later hN)
  have hQ1 := (HQ.out.later hb1).later hN
  have HQ1 := hide hQ1
  have hAA := HA.out.trans (hb1.mono HA.out.size)
  have HA1 := hide (hAA.trans (hN.mono hAA.size))
  have HS1 := hide (show w.heap.size + 2 ≤ w1.heap.size by have := hb1.size; have := HS.out; omega)
  have hW1 := (Blk.new w1 26 #[.int .i64 p, .int .i64 q])
  have f0 := hW1.cell 0
  have f1 := hW1.cell 1
  simp at f0 f1
  clear hb1 hN hAA hW1 HC1 HP HQ HA HS hQ1
  unfold flt
  by_cases hp : p ≠ 0
  · have hq : (p == 0) = false := beq_eq_false_iff_ne.2 hp
    have hq2 : (p != 0) = true := by simp [hp]
    have HE := hide (HEQ.out.trans (if_neg hp))
    clear hp
    have qa0 := HQ1.out.cell 0
    have qaz0 := HQ1.out.frozen 0
    have qa1 := HQ1.out.cell 1
    have qaz1 := HQ1.out.frozen 1
    have qal := HQ1.out.lt
    simp at qa0 qa1
    have hfq : w1.heap.size ≠ w.heap.size + 1 := by have := HS1.out; omega
    go_wp2_with fail
    go_region
    all_goals
      have hb9 := setL_blk [.int .i64 p, .int .i64 q] _ 0 _ HQ1.out rfl
      have hA9 := (below_grownO HA1.out (setL_grown (w.heap.size + 1) [.int .i64 p, .int .i64 q] _ 0) (fun k hk => by cases hk; omega) HA1.out.size).drew
      have HQ9 := hide (show Blk (setL (w1.alloc (.cells #[.int .i64 p, .int .i64 q] 26)) (w.heap.size + 1) 0 [.int .i64 p, .int .i64 q]).drew (w.heap.size + 1) 26 #[.int .i64 p, .int .i64 q] from hb9)
      have HA9 := hide hA9
      simp only [setL] at HQ9 HA9
      clear hb9 hA9 qa0 qaz0 qa1 qaz1 qal f0 f1
      generalize (((w1.alloc (.cells #[.int .i64 p, .int .i64 q] 26)).setCell ⟨w.heap.size + 1, 0, none⟩ (.int .i64 p)).setCell ⟨w.heap.size + 1, 1, none⟩ (.int .i64 q)).drew = wz at HQ9 HA9 ⊢
      go_wp2_with fail
      refine bodyPost_ret (results2_tc Try.results18 rfl rfl (run_loadVar_blk HQ9.out Try.underlying26 rfl Try.sizeFaultR)) rfl ?_
      rw [HE.out]
      exact ⟨_, rfl, OwM.nil _ _, HA9.out⟩
  · obtain rfl : p = 0 := Decidable.not_not.1 hp
    obtain rfl : q = 0 := by have := HZ.out rfl; simpa using this
    have HE := hide (HEQ.out.trans (if_pos rfl))
    obtain ⟨hfine, hrole⟩ := HOK.out rfl
    obtain ⟨ln1, ln2, ln3, ln4, ln5⟩ := hfine.lens hrole
    have hln := hfine.loglen
    have HLNS := hide (And.intro ln1 ln3)
    clear ln1 ln2 ln3 ln4 ln5
    go_upto_region 4 with fail
    generalize hW : w1.alloc (.cells #[.int .i64 0, .int .i64 0] 26) = W at HP1 HQ1 HA1 f0 f1 ⊢
    clear hW
    have ln1 := HLNS.out.1
    have ln3 := HLNS.out.2
    have hNB := below_allocG W (.cells #[.int .i64 n, .int .i64 id, .int .i64 te, .int .i64 vo, .slice ao lo.length cap, .int .i64 ro, .int .i64 co, .slice bo vs.length cap2, .slice no ns.length cap3, .slice ho hs.length cap4] 63)
    have HBE := hide (beat_any W.heap.size ⟨n, id, te, vo, lo, ro, co, vs, ns, hs⟩ _ _ _ _ _ (Nr.mk (Blk.new W 63 (ndA ⟨n, id, te, vo, lo, ro, co, vs, ns, hs⟩ _ _ _ _)) ((HX.out.below HA1.out).below hNB)) (by have := hfine.n1; simp only at this ⊢; omega) hfine.n7 (by simp only at hln ⊢; omega) ln1 ln3)
    have HQ2 := hide (HQ1.out.later hNB)
    have HA2 := hide (HA1.out.trans (hNB.mono HA1.out.size))
    unfold ndA at HBE
    dsimp only at HBE
    clear hp hfine hrole ln1 ln3 hln hNB f0 f1
    go_wp2_with (first
      | (refine wpList_load_blk HP1.out Try.underlying34 rfl Try.sizeNode rfl rfl rfl ?_)
      | (go_at_call 46; refine HBE.out.mono ?_; rintro e w3 ⟨mv, rfl, hO3, hb3⟩; have HO3 := hide hO3; have HQ3 := hide (HQ2.out.later hb3); have HA3 := hide (HA2.out.trans (hb3.mono HA2.out.size)); clear hO3 hb3)
      | (refine wpList_store_blk rfl rfl rfl rfl HQ3.out rfl Try.sizeFaultR rfl ?_; intro w9 hQ9 hg9; have HQ9 := hide hQ9; have HA9 := hide (below_grownO HA3.out hg9 (fun k hk => by cases hk; omega) HA3.out.size); have HO9 := hide (HO3.out.offB hg9 (by have := HQ1.out.lt; simp; omega)); clear hQ9 hg9))
    refine bodyPost_ret (results2_tc Try.results18 rfl rfl (run_loadVar_blk HQ9.out Try.underlying26 rfl Try.sizeFaultR)) rfl ?_
    rw [HE.out]
    exact ⟨_, rfl, HO9.out.base HA2.out.size, HA9.out⟩

end Go.Proofs.Ytddkjpojbflmjah

/-
  The walks beneath the laws of logs: the example, vastLog.
-/
namespace Go.Proofs.Ytddkjpojbflmjah
open Go.RowKit
set_option linter.unusedVariables false

def vastE (n : Nat) : Bool := decide (300 < n)

set_option maxRecDepth 100000 in
theorem vastLog_any (ao : Option Addr) (n cap : Nat) (w : World) : Calls Try.prog 8 #[.slice ao n cap] w fun e w' => e = .returned (.bool (vastE n)) ∧ w' = w := by
  go_enter Try.func8, Try.ntmps8
  go_wp2_with fail
  go_ret
  exact ⟨by unfold vastE; first | rfl | (simp; done) | (simp; omega), rfl⟩

def exL : List Et := [⟨1, ⟨#[97]⟩⟩, ⟨1, ⟨#[98]⟩⟩]
def exM : List Et := [⟨2, ⟨#[99]⟩⟩]
def exP : List Et := [⟨1, ⟨#[97]⟩⟩, ⟨2, ⟨#[99]⟩⟩]

theorem ex_x : putX exL 1 1 exM = (0, 0) := by decide +kernel
theorem ex_i : putI exL 1 1 exM = true := by decide +kernel
theorem ex_l : putL exL 1 1 exM = exP := by kernel_rfl

set_option maxRecDepth 100000 in
set_option maxHeartbeats 1000000 in
theorem entryBegun_any (w : World) : Calls Try.prog 7 #[] w fun e w' => e = .returned (.bool true) ∧ Below w.heap.size w w' := by
  have hA : RdG eE (w.alloc (.cells #[.int .i64 1, .string ⟨#[97]⟩, .int .i64 1, .string ⟨#[98]⟩] 59)) (.slice (some ⟨w.heap.size, 0, none⟩) 2 2) exL := RdG.newL (E := eE) w exL _ _ rfl (by simp [exL])
  have hB : RdG eE ((w.alloc (.cells #[.int .i64 1, .string ⟨#[97]⟩, .int .i64 1, .string ⟨#[98]⟩] 59)).alloc (.cells #[.int .i64 2, .string ⟨#[99]⟩] 59)) (.slice (some ⟨w.heap.size + 1, 0, none⟩) 1 1) exM := by
    have := RdG.newL (E := eE) (w.alloc (.cells #[.int .i64 1, .string ⟨#[97]⟩, .int .i64 1, .string ⟨#[98]⟩] 59)) exM 59 #[.int .i64 2, .string ⟨#[99]⟩] rfl (by simp [exM])
    rw [show exM.length = 1 from rfl] at this
    simpa using this
  have hp := Put_any _ _ exL exM 1 1 _ (hA.alloc (.cells #[.int .i64 2, .string ⟨#[99]⟩] 59)) hB
  rw [ex_x, ex_i, ex_l] at hp
  have HP := hide hp
  have HW := hide (below_alloc2 w (.cells #[.int .i64 1, .string ⟨#[97]⟩, .int .i64 1, .string ⟨#[98]⟩] 59) (.cells #[.int .i64 2, .string ⟨#[99]⟩] 59))
  clear hp hA hB
  go_enter Try.func7, Try.ntmps7
  go_wp2_with fail
  refine HP.out.mono ?_
  rintro e w1 ⟨v1, rfl, hr1, hb1⟩
  have hbw1 : Below w.heap.size w w1 := HW.out.trans (hb1.mono HW.out.size)
  have hs1 := hbw1.size
  obtain ⟨vo, vc, hvo, _, _⟩ := hr1.shape
  subst hvo
  have hW : Below w1.heap.size w1 ((w1.alloc (.cells #[.int .i64 0, .int .i64 0] 26)).alloc (.cells #[.int .i64 1, .string ⟨#[97]⟩, .int .i64 2, .string ⟨#[99]⟩] 59)) := below_alloc2 _ _ _
  have hO : RdG eE ((w1.alloc (.cells #[.int .i64 0, .int .i64 0] 26)).alloc (.cells #[.int .i64 1, .string ⟨#[97]⟩, .int .i64 2, .string ⟨#[99]⟩] 59)) (.slice (some ⟨w1.heap.size + 1, 0, none⟩) 2 2) exP := by
    have := RdG.newL (E := eE) (w1.alloc (.cells #[.int .i64 0, .int .i64 0] 26)) exP 59 #[.int .i64 1, .string ⟨#[97]⟩, .int .i64 2, .string ⟨#[99]⟩] rfl (by simp [exP])
    rw [show exP.length = 2 from rfl] at this
    simpa using this
  have HSM := hide (SameLog_any _ _ _ _ (hr1.below hW) hO)
  have HW2 := hide hW
  clear hW hO hr1
  unfold flt
  go_wp2_with fail
  refine HSM.out.mono ?_
  rintro e w2 ⟨rfl, hb2⟩
  have hb12 : Below w1.heap.size w1 w2 := HW2.out.trans (hb2.mono HW2.out.size)
  have hbw2 := hbw1.trans (hb12.mono hs1)
  go_wp2_with fail
  go_ret
  exact ⟨rfl, hbw2⟩

end Go.Proofs.Ytddkjpojbflmjah

/-
  The walks over the document's Ints, SameNode (of the same) and CopyNode; the law's vastNode. (Written by rr1.py.)
-/
namespace Go.Proofs.Ytddkjpojbflmjah
open Go.RowKit Go.Maps
set_option linter.unusedVariables false

set_option maxRecDepth 100000 in
set_option maxHeartbeats 1000000 in
theorem Ints_eq (u v : Value) (l : List Int) (w : World) (hu : RdG iE w u l) (hv : RdG iE w v l) :
    Calls Try.prog 48 #[u, v] w fun e w' => e = .returned (.bool true) ∧ Below w.heap.size w w' := by
  have HU := hide hu
  have HV := hide hv
  obtain ⟨ao, cap, rfl, hc1, hc2⟩ := hu.shape
  obtain ⟨bo, cap2, rfl, _, _⟩ := hv.shape
  unfold maxLen at hc2
  clear hu hv
  go_enter Try.func48, Try.ntmps48
  go_wp2_with fail
  go_loopw [5] (fun iv wr => ∃ j : Nat, j ≤ l.length ∧ iv = .int .i64 j ∧ Below w.heap.size w wr)
    (fun iv _ => l.length - (intOf iv).toNat)
  case atStart => exact ⟨0, by omega, rfl, Below.refl _ _⟩
  case round =>
    obtain ⟨j, hj, rfl, hbr⟩ := hrel
    have HBR := hide hbr
    by_cases hlt : j < l.length
    · obtain ⟨r, hr⟩ : ∃ r, l[j]? = some r := ⟨_, List.getElem?_eq_getElem hlt⟩
      obtain ⟨b1, o1, rfl, hb1, q1⟩ := HU.out.hereI hr
      obtain ⟨b2, o2, rfl, hb2, q2⟩ := HV.out.hereI hr
      have s1 := cell_belowG q1 hbr
      have s2 := cell_belowG q2 hbr
      have hk1 : (0 : Int) ≤ (j : Int) := by omega
      have hk2 : (j : Int) < (l.length : Int) := by omega
      have hl1 : b1 < wr.heap.size := Nat.lt_of_lt_of_le hb1 hbr.size
      have hl2 : b2 < wr.heap.size := Nat.lt_of_lt_of_le hb2 hbr.size
      clear q1 q2 hr hbr
      go_wp2_with fail
      go_quiet (fail)
      go_wp2_with fail
      go_roundw
      case rel => exact ⟨j + 1, by omega, by go_num, below_drewN HBR.out _⟩
      case measure => simp [intOf]; omega
    · have hje : j = l.length := by omega
      subst hje
      clear hbr
      go_wp2_with fail
      go_ret
      exact ⟨rfl, HBR.out⟩

set_option maxRecDepth 100000 in
set_option maxHeartbeats 4000000 in
theorem SameNode_eq (x : Nd) (lv vv nv hv lv2 vv2 nv2 hv2 : Value) (w : World) (hx : RdNd w x lv vv nv hv) (hy : RdNd w x lv2 vv2 nv2 hv2) :
    Calls Try.prog 20 #[ndV x lv vv nv hv, ndV x lv2 vv2 nv2 hv2] w fun e w' => e = .returned (.bool true) ∧ Below w.heap.size w w' := by
  obtain ⟨n, id, te, vo, lo, ro, co, vs, ns, hs⟩ := x
  obtain ⟨h1, h2, h3, h4⟩ := hx
  obtain ⟨k1, k2, k3, k4⟩ := hy
  simp only at h1 h2 h3 h4 k1 k2 k3 k4
  obtain ⟨pa1, pc1, rfl, _, _⟩ := h1.shape
  obtain ⟨pa2, pc2, rfl, _, _⟩ := h2.shape
  obtain ⟨pa3, pc3, rfl, _, _⟩ := h3.shape
  obtain ⟨pa4, pc4, rfl, _, _⟩ := h4.shape
  obtain ⟨qa1, qc1, rfl, _, _⟩ := k1.shape
  obtain ⟨qa2, qc2, rfl, _, _⟩ := k2.shape
  obtain ⟨qa3, qc3, rfl, _, _⟩ := k3.shape
  obtain ⟨qa4, qc4, rfl, _, _⟩ := k4.shape
  have hA := below_alloc2 w (.cells #[.int .i64 n, .int .i64 id, .int .i64 te, .int .i64 vo, .slice pa1 lo.length pc1, .int .i64 ro, .int .i64 co, .slice pa2 vs.length pc2, .slice pa3 ns.length pc3, .slice pa4 hs.length pc4] 34) (.cells #[.int .i64 n, .int .i64 id, .int .i64 te, .int .i64 vo, .slice qa1 lo.length qc1, .int .i64 ro, .int .i64 co, .slice qa2 vs.length qc2, .slice qa3 ns.length qc3, .slice qa4 hs.length qc4] 34)
  have HP := hide (Blk.at0of2 w (.cells #[.int .i64 n, .int .i64 id, .int .i64 te, .int .i64 vo, .slice qa1 lo.length qc1, .int .i64 ro, .int .i64 co, .slice qa2 vs.length qc2, .slice qa3 ns.length qc3, .slice qa4 hs.length qc4] 34) 34 #[.int .i64 n, .int .i64 id, .int .i64 te, .int .i64 vo, .slice pa1 lo.length pc1, .int .i64 ro, .int .i64 co, .slice pa2 vs.length pc2, .slice pa3 ns.length pc3, .slice pa4 hs.length pc4])
  have HQ := hide (Blk.at1 w (.cells #[.int .i64 n, .int .i64 id, .int .i64 te, .int .i64 vo, .slice pa1 lo.length pc1, .int .i64 ro, .int .i64 co, .slice pa2 vs.length pc2, .slice pa3 ns.length pc3, .slice pa4 hs.length pc4] 34) 34 #[.int .i64 n, .int .i64 id, .int .i64 te, .int .i64 vo, .slice qa1 lo.length qc1, .int .i64 ro, .int .i64 co, .slice qa2 vs.length qc2, .slice qa3 ns.length qc3, .slice qa4 hs.length qc4])
  have HA := hide hA
  have HS := hide (SameLog_any _ _ lo _ (h1.below hA) (k1.below hA))
  have HI2 := hide (fun W (hW : Below w.heap.size w W) => Ints_eq _ _ vs W (h2.below hW) (k2.below hW))
  have HI3 := hide (fun W (hW : Below w.heap.size w W) => Ints_eq _ _ ns W (h3.below hW) (k3.below hW))
  have HI4 := hide (fun W (hW : Below w.heap.size w W) => Ints_eq _ _ hs W (h4.below hW) (k4.below hW))
  clear h1 h2 h3 h4 k1 k2 k3 k4 hA
  unfold ndV ndA
  go_enter Try.func20, Try.ntmps20
  go_wp2_with fail
  refine HS.out.mono ?_
  rintro e w1 ⟨rfl, hb⟩
  have hP := HP.out.later hb
  have hQ := HQ.out.later hb
  have HP1 := hide hP
  have HQ1 := hide hQ
  have HA1 := hide (HA.out.trans (hb.mono HA.out.size))
  have pl1 := hP.lt
  have ql1 := hQ.lt
  have p7 := hP.cell 7
  have q7 := hQ.cell 7
  simp at p7 q7
  clear hP hQ hb
  go_wp2_with fail
  refine (HI2.out _ HA1.out).mono ?_
  rintro e w2 ⟨rfl, hb⟩
  have hP := HP1.out.later hb
  have hQ := HQ1.out.later hb
  have HP2 := hide hP
  have HQ2 := hide hQ
  have HA2 := hide (HA1.out.trans (hb.mono HA1.out.size))
  have pl2 := hP.lt
  have ql2 := hQ.lt
  have p8 := hP.cell 8
  have q8 := hQ.cell 8
  simp at p8 q8
  clear hP hQ hb
  go_wp2_with fail
  refine (HI3.out _ HA2.out).mono ?_
  rintro e w3 ⟨rfl, hb⟩
  have hP := HP2.out.later hb
  have hQ := HQ2.out.later hb
  have HP3 := hide hP
  have HQ3 := hide hQ
  have HA3 := hide (HA2.out.trans (hb.mono HA2.out.size))
  have pl3 := hP.lt
  have ql3 := hQ.lt
  have p9 := hP.cell 9
  have q9 := hQ.cell 9
  simp at p9 q9
  clear hP hQ hb
  go_wp2_with (go_at_call 48; refine (HI4.out _ HA3.out).mono ?_; rintro e w4 ⟨rfl, hb⟩; have HA4 := hide (HA3.out.trans (hb.mono HA3.out.size)); clear hb)
  go_ret
  exact ⟨rfl, HA4.out⟩

def vastN (x : Nd) : Bool := vastE x.log.length || (decide (100 < x.votes.length) || (decide (100 < x.next.length) || decide (100 < x.hav.length)))

set_option maxRecDepth 100000 in
set_option maxHeartbeats 2000000 in
theorem vastNode_any (x : Nd) (lv vv nv hv : Value) (w : World) (hx : RdNd w x lv vv nv hv) :
    Calls Try.prog 13 #[ndV x lv vv nv hv] w fun e w' => e = .returned (.bool (vastN x)) ∧ Below w.heap.size w w' := by
  obtain ⟨n, id, te, vo, lo, ro, co, vs, ns, hs⟩ := x
  obtain ⟨h1, h2, h3, h4⟩ := hx
  simp only at h1 h2 h3 h4
  obtain ⟨ao, cap, rfl, hc1, hc2⟩ := h1.shape
  obtain ⟨bo, cap2, rfl, hd1, hd2⟩ := h2.shape
  obtain ⟨no, cap3, rfl, _, _⟩ := h3.shape
  obtain ⟨ho, cap4, rfl, _, _⟩ := h4.shape
  have HA := hide (below_allocG w (.cells #[.int .i64 n, .int .i64 id, .int .i64 te, .int .i64 vo, .slice ao lo.length cap, .int .i64 ro, .int .i64 co, .slice bo vs.length cap2, .slice no ns.length cap3, .slice ho hs.length cap4] 34))
  have HF : Hid (vastN ⟨n, id, te, vo, lo, ro, co, vs, ns, hs⟩ = (vastE lo.length || (decide (100 < vs.length) || (decide (100 < ns.length) || decide (100 < hs.length))))) := hide rfl
  unfold ndV ndA
  clear h1 h2 h3 h4
  generalize hV : vastE lo.length = V at *
  have HVV := hide hV
  clear hV
  cases V
  · by_cases h1 : 100 < vs.length
    · have e1 : decide (100 < (vs.length : Int)) = true := decide_eq_true (by omega)
      go_enter Try.func13, Try.ntmps13
      go_wp2_with (go_at_call 8; refine (vastLog_any _ lo.length _ _).mono ?_; rw [HVV.out]; rintro e w1 ⟨rfl, rfl⟩)
      go_ret
      exact ⟨by rw [HF.out, decide_eq_true h1]; rfl, HA.out⟩
    · have e1 : decide (100 < (vs.length : Int)) = false := decide_eq_false (by omega)
      by_cases h2 : 100 < ns.length
      · have e2 : decide (100 < (ns.length : Int)) = true := decide_eq_true (by omega)
        go_enter Try.func13, Try.ntmps13
        go_wp2_with (go_at_call 8; refine (vastLog_any _ lo.length _ _).mono ?_; rw [HVV.out]; rintro e w1 ⟨rfl, rfl⟩)
        go_ret
        exact ⟨by rw [HF.out, decide_eq_true h2, decide_eq_false h1]; rfl, HA.out⟩
      · have e2 : decide (100 < (ns.length : Int)) = false := decide_eq_false (by omega)
        have HD := hide (show decide (100 < (hs.length : Int)) = decide (100 < hs.length) by congr 1; exact propext ⟨fun h => by omega, fun h => by omega⟩)
        go_enter Try.func13, Try.ntmps13
        go_wp2_with (go_at_call 8; refine (vastLog_any _ lo.length _ _).mono ?_; rw [HVV.out]; rintro e w1 ⟨rfl, rfl⟩)
        all_goals
          go_ret
          exact ⟨by rw [HF.out, decide_eq_false h1, decide_eq_false h2, ← HD.out]; first | rfl | simp [*], HA.out⟩
  · go_enter Try.func13, Try.ntmps13
    go_wp2_with (go_at_call 8; refine (vastLog_any _ lo.length _ _).mono ?_; rw [HVV.out]; rintro e w1 ⟨rfl, rfl⟩)
    go_ret
    exact ⟨by rw [HF.out]; rfl, HA.out⟩

end Go.Proofs.Ytddkjpojbflmjah

/-
  The walk over the document's CopyNode. (Written by rr2.py.)
-/
namespace Go.Proofs.Ytddkjpojbflmjah
open Go.RowKit Go.Maps
set_option linter.unusedVariables false

set_option maxRecDepth 100000 in
set_option maxHeartbeats 4000000 in
theorem CopyNode_any (x : Nd) (lv vv nv hv : Value) (w : World) (hx : RdNd w x lv vv nv hv) (hl1 : x.log.length ≤ 1000) (hl2 : x.votes.length ≤ 1000) (hl3 : x.next.length ≤ 1000) (hl4 : x.hav.length ≤ 1000) :
    Calls Try.prog 14 #[ndV x lv vv nv hv] w fun e w' => ∃ lab lv' vv' nv' hv', e = .returned (ndV x lv' vv' nv' hv') ∧ Nw w' lab x lv' vv' nv' hv' ∧ (∀ g, g < w.heap.size → lab g = 0) ∧ Below w.heap.size w w' := by
  obtain ⟨n, id, te, vo, lo, ro, co, vs, ns, hs⟩ := x
  obtain ⟨h1, h2, h3, h4⟩ := hx
  simp only at h1 h2 h3 h4
  obtain ⟨ao, cap, rfl, hc1, hc2⟩ := h1.shape
  obtain ⟨bo, cap2, rfl, hd1, hd2⟩ := h2.shape
  obtain ⟨no, cap3, rfl, _, _⟩ := h3.shape
  obtain ⟨ho, cap4, rfl, _, _⟩ := h4.shape
  simp only at hl1 hl2 hl3 hl4
  have hA := below_alloc2 w (.cells #[.int .i64 n, .int .i64 id, .int .i64 te, .int .i64 vo, .slice ao lo.length cap, .int .i64 ro, .int .i64 co, .slice bo vs.length cap2, .slice no ns.length cap3, .slice ho hs.length cap4] 34) (.cells #[.int .i64 0, .int .i64 0, .int .i64 0, .int .i64 0, .slice none 0 0, .int .i64 0, .int .i64 0, .slice none 0 0, .slice none 0 0, .slice none 0 0] 34)
  have hB := Blk.at0of2 w (.cells #[.int .i64 0, .int .i64 0, .int .i64 0, .int .i64 0, .slice none 0 0, .int .i64 0, .int .i64 0, .slice none 0 0, .slice none 0 0, .slice none 0 0] 34) 34 #[.int .i64 n, .int .i64 id, .int .i64 te, .int .i64 vo, .slice ao lo.length cap, .int .i64 ro, .int .i64 co, .slice bo vs.length cap2, .slice no ns.length cap3, .slice ho hs.length cap4]
  have hR := Blk.at1 w (.cells #[.int .i64 n, .int .i64 id, .int .i64 te, .int .i64 vo, .slice ao lo.length cap, .int .i64 ro, .int .i64 co, .slice bo vs.length cap2, .slice no ns.length cap3, .slice ho hs.length cap4] 34) 34 #[.int .i64 0, .int .i64 0, .int .i64 0, .int .i64 0, .slice none 0 0, .int .i64 0, .int .i64 0, .slice none 0 0, .slice none 0 0, .slice none 0 0]
  have hs0 : w.heap.size + 2 ≤ ((w.alloc (.cells #[.int .i64 n, .int .i64 id, .int .i64 te, .int .i64 vo, .slice ao lo.length cap, .int .i64 ro, .int .i64 co, .slice bo vs.length cap2, .slice no ns.length cap3, .slice ho hs.length cap4] 34)).alloc (.cells #[.int .i64 0, .int .i64 0, .int .i64 0, .int .i64 0, .slice none 0 0, .int .i64 0, .int .i64 0, .slice none 0 0, .slice none 0 0, .slice none 0 0] 34)).heap.size := by simp
  unfold ndV ndA
  have HV2 := hide (fun W (hW : Below w.heap.size w W) => h2.below hW)
  have HV3 := hide (fun W (hW : Below w.heap.size w W) => h3.below hW)
  have HV4 := hide (fun W (hW : Below w.heap.size w W) => h4.below hW)
  have HL2 := hide (show 0 + vs.length ≤ 1000000000 by omega)
  have HL3 := hide (show 0 + ns.length ≤ 1000000000 by omega)
  have HL4 := hide (show 0 + hs.length ≤ 1000000000 by omega)
  have HC1 := hide (CopyLog_any _ lo _ (h1.below hA) (by omega))
  go_enter Try.func14, Try.ntmps14
  generalize hA0 : ((w.alloc (.cells #[.int .i64 n, .int .i64 id, .int .i64 te, .int .i64 vo, .slice ao lo.length cap, .int .i64 ro, .int .i64 co, .slice bo vs.length cap2, .slice no ns.length cap3, .slice ho hs.length cap4] 34)).alloc (.cells #[.int .i64 0, .int .i64 0, .int .i64 0, .int .i64 0, .slice none 0 0, .int .i64 0, .int .i64 0, .slice none 0 0, .slice none 0 0, .slice none 0 0] 34)) = A0 at hA hB hR hs0 HC1
  have HA := hide hA
  have HB := hide hB
  have HR := hide hR
  clear h1 h2 h3 h4 hA hB hR
  go_upto_region 1 with fail
  try rw [hA0]
  have b4 := HB.out.cell 4
  have bl := HB.out.lt
  simp at b4
  clear hA0
  go_wp2_with fail
  refine HC1.out.mono ?_
  rintro e w1 ⟨v1, rfl, o1, hb1⟩
  obtain ⟨ao1, ac1, hv1⟩ := owns_shapeK o1
  subst hv1
  have HBc1 := hide (HB.out.later hb1)
  have HRc1 := hide (HR.out.later hb1)
  have HAc1 := hide (HA.out.trans (hb1.mono HA.out.size))
  have HO1c1 := hide o1
  have hz1 := hb1.size
  clear o1 hb1 HC1 b4 bl
  go_upto_region 3 with (first
    | (refine wpList_store_slice (k := 4) rfl rfl rfl rfl HBc1.out rfl Try.sizeEntsR ?_; intro W1 hB hg; have HB1 := hide hB; have HR1 := hide (HRc1.out.grown hg (by simp)); have HA1 := hide (below_grownO HAc1.out hg (fun k hk => by cases hk; omega) HAc1.out.size); have HO11 := hide (owns_offB HO1c1.out hg (by omega)); have zz1 := hg.size; have q7 := hB.cell 7; have ql7 := hB.lt; simp at q7; clear hB hg)
    | (at_builtin; go_must (refine wpList_append_rdG (E := iE) (cs := []) (World.ownsRow_nil W1 W1.heap.size 3 1) (HV2.out _ HA1.out) Try.underlying32 infoIntR rfl rfl rfl rfl rfl HL2.out (by decide) (Nat.le_refl _) ?_); intro v2 u2 o hb hg; rw [List.nil_append, Nat.zero_add] at o; obtain ⟨ao2, ac2, hv2⟩ := owns_shapeK o; subst hv2; have HBc2 := hide (HB1.out.later hb); have HRc2 := hide (HR1.out.later hb); have HAc2 := hide (HA1.out.trans (hb.mono HA1.out.size)); have HO1c2 := hide (owns_later HO11.out hb); have HO2c2 := hide o; have yy2 := hb.size; have LT1 := hide (fun g hg => (HO11.out.lt g hg).2); clear o hb hg)
    | (refine wpList_store_slice (k := 7) rfl rfl rfl rfl HBc2.out rfl Try.sizeIntsR ?_; intro W2 hB hg; have HB2 := hide hB; have HR2 := hide (HRc2.out.grown hg (by simp)); have HA2 := hide (below_grownO HAc2.out hg (fun k hk => by cases hk; omega) HAc2.out.size); have HO12 := hide (owns_offB HO1c2.out hg (by omega)); have HO22 := hide (owns_offB HO2c2.out hg (by omega)); have zz2 := hg.size; have q8 := hB.cell 8; have ql8 := hB.lt; simp at q8; clear hB hg))
  go_upto_region 4 with (first
    | (at_builtin; go_must (refine wpList_append_rdG (E := iE) (cs := []) (World.ownsRow_nil W2 W2.heap.size 3 1) (HV3.out _ HA2.out) Try.underlying32 infoIntR rfl rfl rfl rfl rfl HL3.out (by decide) (Nat.le_refl _) ?_); intro v3 u3 o hb hg; rw [List.nil_append, Nat.zero_add] at o; obtain ⟨ao3, ac3, hv3⟩ := owns_shapeK o; subst hv3; have HBc3 := hide (HB2.out.later hb); have HRc3 := hide (HR2.out.later hb); have HAc3 := hide (HA2.out.trans (hb.mono HA2.out.size)); have HO1c3 := hide (owns_later HO12.out hb); have HO2c3 := hide (owns_later HO22.out hb); have HO3c3 := hide o; have yy3 := hb.size; have LT2 := hide (fun g hg => (HO22.out.lt g hg).2); clear o hb hg)
    | (refine wpList_store_slice (k := 8) rfl rfl rfl rfl HBc3.out rfl Try.sizeIntsR ?_; intro W3 hB hg; have HB3 := hide hB; have HR3 := hide (HRc3.out.grown hg (by simp)); have HA3 := hide (below_grownO HAc3.out hg (fun k hk => by cases hk; omega) HAc3.out.size); have HO13 := hide (owns_offB HO1c3.out hg (by omega)); have HO23 := hide (owns_offB HO2c3.out hg (by omega)); have HO33 := hide (owns_offB HO3c3.out hg (by omega)); have zz3 := hg.size; have q9 := hB.cell 9; have ql9 := hB.lt; simp at q9; clear hB hg))
  go_wp2_with (first
    | (at_builtin; go_must (refine wpList_append_rdG (E := iE) (cs := []) (World.ownsRow_nil W3 W3.heap.size 3 1) (HV4.out _ HA3.out) Try.underlying32 infoIntR rfl rfl rfl rfl rfl HL4.out (by decide) (Nat.le_refl _) ?_); intro v4 u4 o hb hg; rw [List.nil_append, Nat.zero_add] at o; obtain ⟨ao4, ac4, hv4⟩ := owns_shapeK o; subst hv4; have HBc4 := hide (HB3.out.later hb); have HRc4 := hide (HR3.out.later hb); have HAc4 := hide (HA3.out.trans (hb.mono HA3.out.size)); have HO1c4 := hide (owns_later HO13.out hb); have HO2c4 := hide (owns_later HO23.out hb); have HO3c4 := hide (owns_later HO33.out hb); have HO4c4 := hide o; have yy4 := hb.size; have LT3 := hide (fun g hg => (HO33.out.lt g hg).2); clear o hb hg)
    | (refine wpList_store_slice (k := 9) rfl rfl rfl rfl HBc4.out rfl Try.sizeIntsR ?_; intro W4 hB hg; have HB4 := hide hB; have HR4 := hide (HRc4.out.grown hg (by simp)); have HA4 := hide (below_grownO HAc4.out hg (fun k hk => by cases hk; omega) HAc4.out.size); have HO14 := hide (owns_offB HO1c4.out hg (by omega)); have HO24 := hide (owns_offB HO2c4.out hg (by omega)); have HO34 := hide (owns_offB HO3c4.out hg (by omega)); have HO44 := hide (owns_offB HO4c4.out hg (by omega)); have zz4 := hg.size; clear hB hg)
    | (refine wpList_load_blk HB4.out Try.underlying34 rfl Try.sizeNode rfl rfl rfl ?_)
    | (refine wpList_store_blk rfl rfl rfl rfl HR4.out rfl Try.sizeNode rfl ?_; intro W9 hR9 hg9; have HR9 := hide hR9; have HG9 := hide hg9; clear hR9 hg9))
  refine bodyPost_ret (results1_cell Try.results14 rfl (run_loadVar_blk HR9.out Try.underlying34 rfl Try.sizeNode)) rfl ?_
  obtain ⟨lab, hnw, hlab⟩ := rows_label (x := ⟨n, id, te, vo, lo, ro, co, vs, ns, hs⟩) (owns_offB HO14.out HG9.out (by omega)) (owns_offB HO24.out HG9.out (by omega)) (owns_offB HO34.out HG9.out (by omega)) (owns_offB HO44.out HG9.out (by omega)) LT1.out LT2.out LT3.out (by omega) (by omega) (by omega)
  exact ⟨lab, _, _, _, _, rfl, hnw, fun g hg => hlab g (by omega), below_grownO HA4.out HG9.out (fun k hk => by cases hk; omega) HA4.out.size⟩

end Go.Proofs.Ytddkjpojbflmjah

/-
  The walks over the document's Has, Majority and NodeFault. (Written by rr3.py.)
-/
namespace Go.Proofs.Ytddkjpojbflmjah
open Go.RowKit Go.Maps
set_option linter.unusedVariables false

set_option maxRecDepth 100000 in
theorem Majority_any (k : Nat) (n : Int) (w : World) (hn : 0 ≤ n) (hm : n ≤ 1000) : Calls Try.prog 51 #[.int .i64 k, .int .i64 n] w fun e w' => e = .returned (.bool (mostB k n)) ∧ w' = w := by
  have HE : Hid (mostB k n = decide (n / 2 < (k : Int))) := hide rfl
  have h0 : n.tdiv 2 = n / 2 := Int.tdiv_eq_ediv_of_nonneg hn
  generalize hp : n / 2 = p at *
  have h1 : IntKind.i64.wrap p = p := by rw [IntKind.wrap_i64]; omega
  go_enter Try.func51, Try.ntmps51
  go_wp2_with fail
  go_ret
  exact ⟨by rw [HE.out]; rfl, rfl⟩

set_option maxRecDepth 100000 in
set_option maxHeartbeats 1000000 in
theorem Has_any (v : Value) (l : List Int) (x : Int) (w : World) (hv : RdG iE w v l) :
    Calls Try.prog 50 #[v, .int .i64 x] w fun e w' => e = .returned (.bool (decide (x ∈ l))) ∧ w' = w := by
  have HV := hide hv
  obtain ⟨ao, cap, rfl, hc1, hc2⟩ := hv.shape
  unfold maxLen at hc2
  clear hv
  go_enter Try.func50, Try.ntmps50
  go_wp2_with fail
  go_loopw [5] (fun iv wr => ∃ j : Nat, j ≤ l.length ∧ iv = .int .i64 j ∧ (∀ (k : Nat) y, k < j → l[k]? = some y → y ≠ x) ∧ w = wr)
    (fun iv _ => l.length - (intOf iv).toNat)
  case atStart => exact ⟨0, by omega, rfl, fun k y h => by omega, rfl⟩
  case round =>
    obtain ⟨j, hj, rfl, hno, rfl⟩ := hrel
    have HNO := hide hno
    clear hno
    by_cases hlt : j < l.length
    · obtain ⟨y, hy⟩ : ∃ c, l[j]? = some c := ⟨_, List.getElem?_eq_getElem hlt⟩
      obtain ⟨b, off, rfl, hbb, q⟩ := HV.out.hereI hy
      have hk1 : (0 : Int) ≤ (j : Int) := by omega
      have hk2 : (j : Int) < (l.length : Int) := by omega
      have HY := hide hy
      clear hy
      by_cases hq : y = x
      · have hb : (y == x) = true := beq_iff_eq.2 hq
        have HM := hide (decide_eq_true (show x ∈ l by rw [← hq]; exact List.mem_of_getElem? HY.out))
        clear hq
        go_wp2_with fail
        go_ret
        exact ⟨by rw [HM.out]; rfl, rfl⟩
      · have hb : (y == x) = false := beq_eq_false_iff_ne.2 hq
        have HQ := hide hq
        clear hq
        go_wp2_with fail
        go_roundw
        case rel => exact ⟨j + 1, by omega, by go_num, fun k z h1 h2 => by
          by_cases e : k = j
          · subst e
            rw [HY.out] at h2
            cases h2
            exact HQ.out
          · exact HNO.out k z (by omega) h2, trivial⟩
        case measure => simp [intOf]; omega
    · have hje : j = l.length := by omega
      subst hje
      have HM := hide (decide_eq_false (show ¬ x ∈ l from fun hm => by
        obtain ⟨k, hk, e⟩ := List.mem_iff_getElem.1 hm
        exact HNO.out k x hk (by rw [List.getElem?_eq_getElem hk, e]) rfl))
      go_wp2_with fail
      go_ret
      exact ⟨by rw [HM.out]; rfl, rfl⟩

theorem voGo_step {n v : Int} {s r : List Int} : voGo n s (v :: r) = (wiB v 0 (n - 1) && !decide (v ∈ s) && voGo n (s ++ [v]) r) := rfl

end Go.Proofs.Ytddkjpojbflmjah

/-
  The walks over the document's Follower and Counted. (Written by rr4.py.)
-/
namespace Go.Proofs.Ytddkjpojbflmjah
open Go.RowKit Go.Maps
set_option linter.unusedVariables false

set_option maxRecDepth 100000 in
set_option maxHeartbeats 8000000 in
theorem Follower_any (x : Nd) (lv vv nv hv : Value) (w : World) (hx : RdNd w x lv vv nv hv) (hl1 : x.log.length ≤ 1000) :
    Calls Try.prog 52 #[ndV x lv vv nv hv] w fun e w' => ∃ lv', e = .returned (ndV x.follow lv' (.slice none 0 0) (.slice none 0 0) (.slice none 0 0)) ∧ w'.ownsRow w.heap.size 59 2 lv' x.log.length (eE.vs x.log) ∧ Below w.heap.size w w' := by
  obtain ⟨n, id, te, vo, lo, ro, co, vs, ns, hs⟩ := x
  obtain ⟨h1, h2, h3, h4⟩ := hx
  simp only at h1 h2 h3 h4
  obtain ⟨ao, cap, rfl, hc1, hc2⟩ := h1.shape
  obtain ⟨bo, cap2, rfl, hd1, hd2⟩ := h2.shape
  obtain ⟨no, cap3, rfl, _, _⟩ := h3.shape
  obtain ⟨ho, cap4, rfl, _, _⟩ := h4.shape
  simp only at hl1
  have hA := below_alloc2 w (.cells #[.int .i64 n, .int .i64 id, .int .i64 te, .int .i64 vo, .slice ao lo.length cap, .int .i64 ro, .int .i64 co, .slice bo vs.length cap2, .slice no ns.length cap3, .slice ho hs.length cap4] 34) (.cells #[.int .i64 0, .int .i64 0, .int .i64 0, .int .i64 0, .slice none 0 0, .int .i64 0, .int .i64 0, .slice none 0 0, .slice none 0 0, .slice none 0 0] 34)
  have hB := Blk.at0of2 w (.cells #[.int .i64 0, .int .i64 0, .int .i64 0, .int .i64 0, .slice none 0 0, .int .i64 0, .int .i64 0, .slice none 0 0, .slice none 0 0, .slice none 0 0] 34) 34 #[.int .i64 n, .int .i64 id, .int .i64 te, .int .i64 vo, .slice ao lo.length cap, .int .i64 ro, .int .i64 co, .slice bo vs.length cap2, .slice no ns.length cap3, .slice ho hs.length cap4]
  have hR := Blk.at1 w (.cells #[.int .i64 n, .int .i64 id, .int .i64 te, .int .i64 vo, .slice ao lo.length cap, .int .i64 ro, .int .i64 co, .slice bo vs.length cap2, .slice no ns.length cap3, .slice ho hs.length cap4] 34) 34 #[.int .i64 0, .int .i64 0, .int .i64 0, .int .i64 0, .slice none 0 0, .int .i64 0, .int .i64 0, .slice none 0 0, .slice none 0 0, .slice none 0 0]
  have hs0 : w.heap.size + 2 = ((w.alloc (.cells #[.int .i64 n, .int .i64 id, .int .i64 te, .int .i64 vo, .slice ao lo.length cap, .int .i64 ro, .int .i64 co, .slice bo vs.length cap2, .slice no ns.length cap3, .slice ho hs.length cap4] 34)).alloc (.cells #[.int .i64 0, .int .i64 0, .int .i64 0, .int .i64 0, .slice none 0 0, .int .i64 0, .int .i64 0, .slice none 0 0, .slice none 0 0, .slice none 0 0] 34)).heap.size := by simp
  have HV1 := hide (h1.below hA)
  unfold ndV ndA Nd.follow
  go_enter Try.func52, Try.ntmps52
  generalize hA0 : ((w.alloc (.cells #[.int .i64 n, .int .i64 id, .int .i64 te, .int .i64 vo, .slice ao lo.length cap, .int .i64 ro, .int .i64 co, .slice bo vs.length cap2, .slice no ns.length cap3, .slice ho hs.length cap4] 34)).alloc (.cells #[.int .i64 0, .int .i64 0, .int .i64 0, .int .i64 0, .slice none 0 0, .int .i64 0, .int .i64 0, .slice none 0 0, .slice none 0 0, .slice none 0 0] 34)) = A0 at hA hB hR hs0 HV1
  have HA := hide hA
  have HB := hide hB
  have HR := hide hR
  have HC1 := hide (CopyLog_any _ lo A0.drew HV1.out.drew (by omega))
  have HDR := hide (show Below A0.heap.size A0 A0.drew from Below.drew (Below.refl _ _))
  have HS0 := hide hs0
  clear h1 h2 h3 h4 hA hB hR hs0
  go_upto_region 1 with fail
  try rw [hA0]
  clear hA0
  have HKEEP : Hid (∀ W, Below (w.heap.size + 1) A0 W → W.cell? ⟨w.heap.size, 0, none⟩ = some (.int .i64 n) ∧ W.cell? ⟨w.heap.size, 1, none⟩ = some (.int .i64 id) ∧ W.cell? ⟨w.heap.size, 2, none⟩ = some (.int .i64 te) ∧ W.cell? ⟨w.heap.size, 3, none⟩ = some (.int .i64 vo) ∧ W.cell? ⟨w.heap.size, 4, none⟩ = some (.slice ao lo.length cap) ∧ W.cell? ⟨w.heap.size, 6, none⟩ = some (.int .i64 co)) := hide (fun W hW => by
    have hb := HB.out.below hW (by omega)
    exact ⟨hb.cell 0, hb.cell 1, hb.cell 2, hb.cell 3, hb.cell 4, hb.cell 6⟩)
  have hlt : w.heap.size + 1 < A0.heap.size := by have := HS0.out; omega
  go_region_held3 (fun W => W.cell? ⟨w.heap.size, 0, none⟩ = some (.int .i64 n) ∧ W.cell? ⟨w.heap.size, 1, none⟩ = some (.int .i64 id) ∧ W.cell? ⟨w.heap.size, 2, none⟩ = some (.int .i64 te) ∧ W.cell? ⟨w.heap.size, 3, none⟩ = some (.int .i64 vo) ∧ W.cell? ⟨w.heap.size, 4, none⟩ = some (.slice ao lo.length cap) ∧ W.cell? ⟨w.heap.size, 6, none⟩ = some (.int .i64 co)) (first | exact k9 | exact HKEEP.out _ (by go_grown)) (first
    | (go_at_call 27; refine HC1.out.mono ?_; rintro e w9 ⟨v9, rfl, ho9, hb9⟩; obtain ⟨so9, sc9, hv9⟩ := owns_shapeK ho9; subst hv9; have hb8 := HDR.out.trans (hb9.mono HDR.out.size); have HR9 := hide (HR.out.later hb8); have hb7 := hb8.mono (show w.heap.size + 1 ≤ A0.heap.size by omega); have rb0 := HR9.out.cell 0; have rbz0 := HR9.out.frozen 0; have rb1 := HR9.out.cell 1; have rbz1 := HR9.out.frozen 1; have rb2 := HR9.out.cell 2; have rbz2 := HR9.out.frozen 2; have rb3 := HR9.out.cell 3; have rbz3 := HR9.out.frozen 3; have rb4 := HR9.out.cell 4; have rbz4 := HR9.out.frozen 4; have rb5 := HR9.out.cell 5; have rbz5 := HR9.out.frozen 5; have rb6 := HR9.out.cell 6; have rbz6 := HR9.out.frozen 6; have rb7 := HR9.out.cell 7; have rbz7 := HR9.out.frozen 7; have rb8 := HR9.out.cell 8; have rbz8 := HR9.out.frozen 8; have rb9 := HR9.out.cell 9; have rbz9 := HR9.out.frozen 9; have rbl := HR9.out.lt; simp at rb0 rb1 rb2 rb3 rb4 rb5 rb6 rb7 rb8 rb9; clear hb9))
  all_goals
    have hbk := setL_blk [.int .i64 n, .int .i64 id, .int .i64 te, .int .i64 vo, .slice so9 lo.length sc9, .int .i64 0, .int .i64 co, .slice none 0 0, .slice none 0 0, .slice none 0 0] w9 0 _ HR9.out rfl
    simp only [List.take_zero, List.nil_append] at hbk
    have hgr := setL_grown (w.heap.size + 1) [.int .i64 n, .int .i64 id, .int .i64 te, .int .i64 vo, .slice so9 lo.length sc9, .int .i64 0, .int .i64 co, .slice none 0 0, .slice none 0 0, .slice none 0 0] w9 0
    have hAn2 := owns_offB ho9 hgr (by have := HS0.out; simp only [World.drew]; show w.heap.size + 1 < A0.heap.size; omega)
    have hbb := below_grownO (HA.out.trans (hb8.mono HA.out.size)) hgr (fun k hk => by cases hk; omega) (HA.out.trans (hb8.mono HA.out.size)).size
    have HR8 := hide hbk
    have HN8 := hide hAn2
    have HB8 := hide hbb
    simp only [setL] at HR8 HN8 HB8
    clear hbk hgr hAn2 hbb rb0 rbz0 rb1 rbz1 rb2 rbz2 rb3 rbz3 rb4 rbz4 rb5 rbz5 rb6 rbz6 rb7 rbz7 rb8 rbz8 rb9 rbz9 rbl ho9 hb8 hb7
    generalize ((((((((((w9.setCell ⟨w.heap.size + 1, 0, none⟩ (.int .i64 n)).setCell ⟨w.heap.size + 1, 1, none⟩ (.int .i64 id)).setCell ⟨w.heap.size + 1, 2, none⟩ (.int .i64 te)).setCell ⟨w.heap.size + 1, 3, none⟩ (.int .i64 vo)).setCell ⟨w.heap.size + 1, 4, none⟩ (.slice so9 lo.length sc9)).setCell ⟨w.heap.size + 1, 5, none⟩ (.int .i64 0)).setCell ⟨w.heap.size + 1, 6, none⟩ (.int .i64 co)).setCell ⟨w.heap.size + 1, 7, none⟩ (.slice none 0 0)).setCell ⟨w.heap.size + 1, 8, none⟩ (.slice none 0 0)).setCell ⟨w.heap.size + 1, 9, none⟩ (.slice none 0 0)) = wz at HR8 HN8 HB8 ⊢
    go_wp2_with fail
    refine bodyPost_ret (results1_cell Try.results52 rfl (run_loadVar_blk HR8.out Try.underlying34 rfl Try.sizeNode)) rfl ?_
    exact ⟨_, rfl, owns_baseR HN8.out (show w.heap.size ≤ A0.heap.size by have := HS0.out; omega), HB8.out⟩

set_option maxRecDepth 100000 in
set_option maxHeartbeats 8000000 in
theorem Counted_any (x : Nd) (lv vv nv hv : Value) (w : World) (hx : RdNd w x lv vv nv hv) (hn0 : 0 ≤ x.n) (hn7 : x.n ≤ 1000) (hll : x.log.length ≤ 1000) (hhl : x.hav.length ≤ 1000) (hc0 : 0 ≤ x.com) (hcl : x.com ≤ x.log.length) :
    Calls Try.prog 54 #[ndV x lv vv nv hv] w fun e w' => e = .returned (ndV x.count lv vv nv hv) ∧ Below w.heap.size w w' := by
  have HCN : Hid (x.count = { x with com := coGo x x.log.length }) := hide rfl
  have HL0 := hide (fun k => coGo_le (x := x) (k := k))
  have HY := hide (fun k => coGo_yes (x := x) (k := k))
  have HN := hide (fun k => coGo_no (x := x) (k := k))
  obtain ⟨X, hX⟩ : ∃ X, X = x := ⟨_, rfl⟩
  rw [← hX] at HCN HL0 HY HN ⊢
  obtain ⟨n, id, te, vo, lo, ro, co, vs, ns, hs⟩ := x
  obtain ⟨h1, h2, h3, h4⟩ := hx
  simp only at h1 h2 h3 h4
  obtain ⟨ao, cap, rfl, hc1, hc2⟩ := h1.shape
  obtain ⟨bo, cap2, rfl, hd1, hd2⟩ := h2.shape
  obtain ⟨no, cap3, rfl, _, _⟩ := h3.shape
  obtain ⟨ho, cap4, rfl, _, _⟩ := h4.shape
  simp only at hn0 hn7 hll hhl hc0 hcl
  have HXE := hide hX
  have hx1 : X.log = lo := by rw [hX]
  have hx2 : X.com = co := by rw [hX]
  have hx3 : X.term = te := by rw [hX]
  have hx4 : X.hav = hs := by rw [hX]
  have hx5 : X.n = n := by rw [hX]
  simp only [hx1, hx2, hx3, hx4, hx5] at HL0 HY HN
  have HVH := hide h4
  have HVL := hide h1
  have hA := below_alloc2 w (.cells #[.int .i64 n, .int .i64 id, .int .i64 te, .int .i64 vo, .slice ao lo.length cap, .int .i64 ro, .int .i64 co, .slice bo vs.length cap2, .slice no ns.length cap3, .slice ho hs.length cap4] 34) (.cells #[.int .i64 0, .int .i64 0, .int .i64 0, .int .i64 0, .slice none 0 0, .int .i64 0, .int .i64 0, .slice none 0 0, .slice none 0 0, .slice none 0 0] 34)
  have HB := hide (Blk.at0of2 w (.cells #[.int .i64 0, .int .i64 0, .int .i64 0, .int .i64 0, .slice none 0 0, .int .i64 0, .int .i64 0, .slice none 0 0, .slice none 0 0, .slice none 0 0] 34) 34 #[.int .i64 n, .int .i64 id, .int .i64 te, .int .i64 vo, .slice ao lo.length cap, .int .i64 ro, .int .i64 co, .slice bo vs.length cap2, .slice no ns.length cap3, .slice ho hs.length cap4])
  have HR := hide (Blk.at1 w (.cells #[.int .i64 n, .int .i64 id, .int .i64 te, .int .i64 vo, .slice ao lo.length cap, .int .i64 ro, .int .i64 co, .slice bo vs.length cap2, .slice no ns.length cap3, .slice ho hs.length cap4] 34) 34 #[.int .i64 0, .int .i64 0, .int .i64 0, .int .i64 0, .slice none 0 0, .int .i64 0, .int .i64 0, .slice none 0 0, .slice none 0 0, .slice none 0 0])
  have HS0 := hide (show w.heap.size + 2 = ((w.alloc (.cells #[.int .i64 n, .int .i64 id, .int .i64 te, .int .i64 vo, .slice ao lo.length cap, .int .i64 ro, .int .i64 co, .slice bo vs.length cap2, .slice no ns.length cap3, .slice ho hs.length cap4] 34)).alloc (.cells #[.int .i64 0, .int .i64 0, .int .i64 0, .int .i64 0, .slice none 0 0, .int .i64 0, .int .i64 0, .slice none 0 0, .slice none 0 0, .slice none 0 0] 34)).heap.size by simp)
  have HA := hide hA
  have HEV := hide (show ndV X (.slice ao lo.length cap) (.slice bo vs.length cap2) (.slice no ns.length cap3) (.slice ho hs.length cap4) = .agg #[.int .i64 n, .int .i64 id, .int .i64 te, .int .i64 vo, .slice ao lo.length cap, .int .i64 ro, .int .i64 co, .slice bo vs.length cap2, .slice no ns.length cap3, .slice ho hs.length cap4] by rw [hX]; rfl)
  have HEW := hide (show ∀ c : Int, ndV { X with com := c } (.slice ao lo.length cap) (.slice bo vs.length cap2) (.slice no ns.length cap3) (.slice ho hs.length cap4) = .agg #[.int .i64 n, .int .i64 id, .int .i64 te, .int .i64 vo, .slice ao lo.length cap, .int .i64 ro, .int .i64 c, .slice bo vs.length cap2, .slice no ns.length cap3, .slice ho hs.length cap4] by intro c; rw [hX]; rfl)
  rw [HEV.out]
  clear h1 h2 h3 h4 hA hX hx1 hx2 hx3 hx4 hx5
  obtain ⟨C, hC⟩ : ∃ C : Nat, co = C := ⟨co.toNat, by omega⟩
  have hw0 : IntKind.i64.wrap (co + 1) = ((C + 1 : Nat) : Int) := by rw [IntKind.wrap_i64]; omega
  have HCC := hide hC
  clear hC
  go_enter Try.func54, Try.ntmps54
  generalize hA0 : ((w.alloc (.cells #[.int .i64 n, .int .i64 id, .int .i64 te, .int .i64 vo, .slice ao lo.length cap, .int .i64 ro, .int .i64 co, .slice bo vs.length cap2, .slice no ns.length cap3, .slice ho hs.length cap4] 34)).alloc (.cells #[.int .i64 0, .int .i64 0, .int .i64 0, .int .i64 0, .slice none 0 0, .int .i64 0, .int .i64 0, .slice none 0 0, .slice none 0 0, .slice none 0 0] 34)) = A0 at HB HR HS0 HA
  go_upto_region 1 with fail
  try rw [hA0]
  clear hA0
  have b6 := HB.out.cell 6
  have bl := HB.out.lt
  simp at b6
  go_wp2_with fail
  go_loopw [3, 4] (fun bv kv wr => ∃ k : Nat, C ≤ k ∧ k ≤ lo.length ∧ kv = .int .i64 ((k + 1 : Nat) : Int) ∧ bv = .int .i64 (coGo X k) ∧ Below A0.heap.size A0 wr)
    (fun _ kv _ => lo.length + 1 - (intOf kv).toNat)
  case atStart => exact ⟨C, Nat.le_refl _, by have := HCC.out; omega, rfl, by rw [HL0.out C (by have := HCC.out; omega)], Below.refl _ _⟩
  case round =>
    obtain ⟨k, hk1, hk2, rfl, rfl, hbr⟩ := hrel
    have HBR := hide hbr
    have HBr := hide (HB.out.later hbr)
    have HRr := hide (HR.out.later hbr)
    have HAr := hide (HA.out.trans (hbr.mono HA.out.size))
    have d0 := HBr.out.cell 0
    have d2 := HBr.out.cell 2
    have d4 := HBr.out.cell 4
    have d9 := HBr.out.cell 9
    have dl := HBr.out.lt
    simp at d0 d2 d4 d9
    clear hbr b6
    obtain ⟨P, hP⟩ : ∃ P : Int, P = ((k + 1 : Nat) : Int) := ⟨_, rfl⟩
    rw [← hP]
    have HPP := hide hP
    generalize hBS : coGo X k = BS at *
    have HBS := hide hBS
    clear hBS
    by_cases hlt : k < lo.length
    · have hd : decide (P ≤ (lo.length : Int)) = true := decide_eq_true (by omega)
      clear hP
      obtain ⟨wo, hwo⟩ : ∃ wo, wo = wr := ⟨_, rfl⟩
      subst hwo
      go_wp2_with fail
      go_loopw [5, 6] (fun mv iv ws => ∃ i : Nat, i ≤ hs.length ∧ mv = .int .i64 (havN (hs.take i) P) ∧ iv = .int .i64 i ∧ Below A0.heap.size A0 ws)
        (fun _ iv _ => hs.length - (intOf iv).toNat)
      case atStart => exact ⟨0, by omega, rfl, rfl, HBR.out⟩
      case round =>
        obtain ⟨i, hi, rfl, rfl, hbs⟩ := hrel
        have HBS2 := hide hbs
        have HBs := hide (HB.out.later hbs)
        have HAs := hide (HA.out.trans (hbs.mono HA.out.size))
        have s0 := HBs.out.cell 0
        have s2 := HBs.out.cell 2
        have s4 := HBs.out.cell 4
        have s9 := HBs.out.cell 9
        have sl := HBs.out.lt
        simp at s0 s2 s4 s9
        clear hbs d0 d2 d4 d9 dl
        by_cases hil : i < hs.length
        · obtain ⟨y, hy⟩ : ∃ c, hs[i]? = some c := ⟨_, List.getElem?_eq_getElem hil⟩
          obtain ⟨b, off, rfl, hb, q⟩ := (HVH.out.below HAs.out).hereI hy
          have hj1 : (0 : Int) ≤ (i : Int) := by omega
          have hj2 : (i : Int) < (hs.length : Int) := by omega
          have HT := hide (show hs.take (i + 1) = hs.take i ++ [y] by rw [List.take_add_one, hy]; rfl)
          have hle : havN (hs.take i) P ≤ i := by
            unfold havN
            exact Nat.le_trans List.countP_le_length (by simp; omega)
          have HNN : Hid (havN (hs.take (i + 1)) P = havN (hs.take i) P + if P ≤ y then 1 else 0) := hide (by
            rw [HT.out]; unfold havN; rw [List.countP_append]; simp [List.countP_cons])
          generalize havN (hs.take i) P = Kk at *
          clear hy
          by_cases hp : P ≤ y
          · have HN2 := hide (HNN.out.trans (by rw [if_pos hp]))
            go_wp2_with fail
            go_roundw
            case rel => exact ⟨i + 1, by omega, by rw [HN2.out]; go_num, by go_num, HBS2.out⟩
            case measure => simp [intOf]; omega
          · have HN2 := hide (HNN.out.trans (by rw [if_neg hp]))
            go_wp2_with fail
            go_roundw
            case rel => exact ⟨i + 1, by omega, by rw [HN2.out]; rfl, by go_num, HBS2.out⟩
            case measure => simp [intOf]; omega
        · have hie : i = hs.length := by omega
          subst hie
          rw [List.take_length]
          obtain ⟨e, he⟩ : ∃ c, lo[k]? = some c := ⟨_, List.getElem?_eq_getElem hlt⟩
          have HTP := hide (show termP lo (k + 1) = e.term by rw [termP, he]; rfl)
          obtain ⟨b, off, rfl, hb, hat⟩ := (HVL.out.below HAs.out).here he
          obtain ⟨q0, q1⟩ := hat.ent
          have hj1 : (0 : Int) ≤ (k : Int) := by omega
          have hj2 : (k : Int) < (lo.length : Int) := by omega
          have hwk : IntKind.i64.wrap (P - 1) = (k : Int) := by rw [HPP.out, IntKind.wrap_i64]; omega
          have hwn : IntKind.i64.wrap (P + 1) = ((k + 1 + 1 : Nat) : Int) := by rw [HPP.out, IntKind.wrap_i64]; omega
          have HYk := hide (HY.out k)
          have HNk := hide (HN.out k)
          rw [← HPP.out, HTP.out] at HYk HNk
          have HLT := hide (show co < P by have := HPP.out; have := HCC.out; omega)
          obtain ⟨et, ex⟩ := e
          simp only at q0 q1 HYk HNk
          generalize hKk : havN hs P = Kk at *
          have HMJ := hide (fun m => Majority_any Kk n (wr.drewN m) hn0 hn7)
          clear he hat hKk
          by_cases ht : et = te
          · have ht2 : (et == te) = true := beq_iff_eq.2 ht
            cases hmo : mostB Kk n
            · have HE2 := hide (HNk.out HLT.out (by rw [hmo]; simp))
              have HM := hide hmo
              clear ht hmo
              go_wp2_with fail
              go_quiet (first | (go_at_call 51; exact Calls.quiet_of_same (HMJ.out _)))
              rw [HM.out]
              go_wp2_with fail
              go_roundw
              case rel => exact ⟨k + 1, by omega, by omega, by first | rfl | go_num, by rw [HE2.out, HBS.out], below_drewN HBS2.out _⟩
              case measure => simp [intOf]; have := HPP.out; omega
            · have HE2 := hide (HYk.out HLT.out ht hmo)
              have HM := hide hmo
              clear ht hmo
              go_wp2_with fail
              go_quiet (first | (go_at_call 51; exact Calls.quiet_of_same (HMJ.out _)))
              rw [HM.out]
              go_wp2_with fail
              go_roundw
              case rel => exact ⟨k + 1, by omega, by omega, by first | rfl | go_num, by rw [HE2.out], below_drewN HBS2.out _⟩
              case measure => simp [intOf]; have := HPP.out; omega
          · have ht2 : (et == te) = false := beq_eq_false_iff_ne.2 ht
            have HE2 := hide (HNk.out HLT.out (fun q => ht q.1))
            clear ht
            go_wp2_with fail
            go_quiet (fail)
            go_wp2_with fail
            go_roundw
            case rel => exact ⟨k + 1, by omega, by omega, by first | rfl | go_num, by rw [HE2.out, HBS.out], below_drewN HBS2.out _⟩
            case measure => simp [intOf]; have := HPP.out; omega
    · have hd : decide (P ≤ (lo.length : Int)) = false := decide_eq_false (by omega)
      obtain rfl : k = lo.length := by omega
      have HFI := hide (show X.count = { X with com := BS } by rw [HCN.out, show X.log.length = lo.length by rw [HXE.out], HBS.out])
      clear hP d0 d2 d9
      go_wp2_with (first
        | (refine wpList_store_int (k := 6) rfl rfl rfl rfl HBr.out rfl Try.sizeIntR ?_; intro w6 hB6 hg6; have HB6 := hide hB6; have HR6 := hide (HRr.out.grown hg6 (by simp)); have HA6 := hide (below_grownO HAr.out hg6 (fun k hk => by cases hk; omega) HAr.out.size); clear hB6 hg6)
        | (refine wpList_load_blk HB6.out Try.underlying34 rfl Try.sizeNode rfl rfl rfl ?_)
        | (refine wpList_store_blk rfl rfl rfl rfl HR6.out rfl Try.sizeNode rfl ?_; intro w9 hR9 hg9; have HR9 := hide hR9; have HG9 := hide hg9; clear hR9 hg9))
      refine bodyPost_ret (results1_cell Try.results54 rfl (run_loadVar_blk HR9.out Try.underlying34 rfl Try.sizeNode)) rfl ?_
      refine ⟨?_, below_grownO HA6.out HG9.out (fun k hk => by cases hk; omega) HA6.out.size⟩
      rw [HFI.out, HEW.out]
      rfl

end Go.Proofs.Ytddkjpojbflmjah

/-
  The walks over the document's Has, Majority and NodeFault. (Written by rr3.py.)
-/
namespace Go.Proofs.Ytddkjpojbflmjah
open Go.RowKit Go.Maps
set_option linter.unusedVariables false

set_option maxRecDepth 100000 in
set_option maxHeartbeats 16000000 in
theorem NodeFault_bad (x : Nd) (lv vv nv hv : Value) (w : World) (hx : RdNd w x lv vv nv hv) (hbad : (nmF x).1 ≠ 0) :
    Calls Try.prog 21 #[ndV x lv vv nv hv] w fun e w' => e = .returned (flt (chkN x)) ∧ Below w.heap.size w w' := by
  have HX := hide hx
  obtain ⟨n, id, te, vo, lo, ro, co, vs, ns, hs⟩ := x
  obtain ⟨h1, h2, h3, h4⟩ := hx
  simp only at h1 h2 h3 h4
  obtain ⟨ao, cap, rfl, hc1, hc2⟩ := h1.shape
  obtain ⟨bo, cap2, rfl, hd1, hd2⟩ := h2.shape
  obtain ⟨no, cap3, rfl, _, _⟩ := h3.shape
  obtain ⟨ho, cap4, rfl, _, _⟩ := h4.shape
  have hA := below_alloc2 w (.cells #[.int .i64 n, .int .i64 id, .int .i64 te, .int .i64 vo, .slice ao lo.length cap, .int .i64 ro, .int .i64 co, .slice bo vs.length cap2, .slice no ns.length cap3, .slice ho hs.length cap4] 34) (.cells #[.int .i64 0, .int .i64 0] 26)
  have HB0 := hide (Blk.at0of2 w (.cells #[.int .i64 0, .int .i64 0] 26) 34 #[.int .i64 n, .int .i64 id, .int .i64 te, .int .i64 vo, .slice ao lo.length cap, .int .i64 ro, .int .i64 co, .slice bo vs.length cap2, .slice no ns.length cap3, .slice ho hs.length cap4])
  have HR0 := hide (Blk.at1 w (.cells #[.int .i64 n, .int .i64 id, .int .i64 te, .int .i64 vo, .slice ao lo.length cap, .int .i64 ro, .int .i64 co, .slice bo vs.length cap2, .slice no ns.length cap3, .slice ho hs.length cap4] 34) 26 #[.int .i64 0, .int .i64 0])
  have HA0 := hide hA
  have HLF := hide (LogFault_any _ lo _ (h1.below hA))
  have HLT := hide (fun W (hW : Below w.heap.size w W) => LastTerm_any _ lo W (h1.below hW))
  have HH2 := hide (fun W (hW : Below w.heap.size w W) => h2.below hW)
  have HH3 := hide (fun W (hW : Below w.heap.size w W) => h3.below hW)
  have HH4 := hide (fun W (hW : Below w.heap.size w W) => h4.below hW)
  have HNM : Hid (nmF ⟨n, id, te, vo, lo, ro, co, vs, ns, hs⟩ = if wiB n 1 7 = false ∨ wiB id 0 (n - 1) = false then (3, -1) else if numL te = false ∨ wiB vo 0 n = false ∨ wiB ro 0 2 = false ∨ wiB co 0 lo.length = false then (3, -2) else (0, 0)) := hide rfl
  have HLG : Hid (lgF ⟨n, id, te, vo, lo, ro, co, vs, ns, hs⟩ = if (chkE lo).1 ≠ 0 then chkE lo else if te < lastT lo then (11, -3) else (0, 0)) := hide rfl
  have HCK : Hid (chkN ⟨n, id, te, vo, lo, ro, co, vs, ns, hs⟩ = if (nmF ⟨n, id, te, vo, lo, ro, co, vs, ns, hs⟩).1 ≠ 0 then nmF ⟨n, id, te, vo, lo, ro, co, vs, ns, hs⟩ else if (lgF ⟨n, id, te, vo, lo, ro, co, vs, ns, hs⟩).1 ≠ 0 then lgF ⟨n, id, te, vo, lo, ro, co, vs, ns, hs⟩ else if votesB ⟨n, id, te, vo, lo, ro, co, vs, ns, hs⟩ = false ∨ knownB ⟨n, id, te, vo, lo, ro, co, vs, ns, hs⟩ = false then (5, -3) else (0, 0)) := hide rfl
  have HZE := hide (chkE_z lo)
  unfold maxLen at hd2 hc2
  clear h1 h2 h3 h4 hA
  unfold ndV ndA
  by_cases c0 : n < 1
  · have HE := hide (show chkN ⟨n, id, te, vo, lo, ro, co, vs, ns, hs⟩ = (3, -1) by rw [HCK.out, show nmF ⟨n, id, te, vo, lo, ro, co, vs, ns, hs⟩ = (3, -1) by rw [HNM.out, if_pos (by simp only [wiB_false]; omega)], if_pos (by simp)])
    have e0 : decide (n < 1) = true := decide_eq_true c0
    go_enter Try.func21, Try.ntmps21
    go_wp2_with (first
      | (go_at_call 49; refine (lNum_any te _).mono ?_; skip; rintro e w1 ⟨rfl, rfl⟩)
      | (go_at_call 32; refine (lF_any _ _ _).mono ?_; rintro e w1 ⟨rfl, hb1⟩; have HR := hide (HR0.out.later hb1); have HBW := hide (HA0.out.trans (hb1.mono HA0.out.size)); clear hb1; unfold flt)
      | (refine wpList_store_blk rfl rfl rfl rfl HR.out rfl Try.sizeFaultR rfl ?_; intro w8 hR8 hg8; have HR8 := hide hR8; have HG8 := hide hg8; clear hR8 hg8))
    refine bodyPost_ret (results1_cell Try.results21 rfl (run_loadVar_blk HR8.out Try.underlying26 rfl Try.sizeFaultR)) rfl ?_
    exact ⟨by rw [HE.out] <;> rfl, below_grownO HBW.out HG8.out (fun k hk => by cases hk; omega) HBW.out.size⟩
  have e0 : decide (n < 1) = false := decide_eq_false c0
  by_cases c1 : 7 < n
  · have HE := hide (show chkN ⟨n, id, te, vo, lo, ro, co, vs, ns, hs⟩ = (3, -1) by rw [HCK.out, show nmF ⟨n, id, te, vo, lo, ro, co, vs, ns, hs⟩ = (3, -1) by rw [HNM.out, if_pos (by simp only [wiB_false]; omega)], if_pos (by simp)])
    have e1 : decide (7 < n) = true := decide_eq_true c1
    go_enter Try.func21, Try.ntmps21
    go_wp2_with (first
      | (go_at_call 49; refine (lNum_any te _).mono ?_; skip; rintro e w1 ⟨rfl, rfl⟩)
      | (go_at_call 32; refine (lF_any _ _ _).mono ?_; rintro e w1 ⟨rfl, hb1⟩; have HR := hide (HR0.out.later hb1); have HBW := hide (HA0.out.trans (hb1.mono HA0.out.size)); clear hb1; unfold flt)
      | (refine wpList_store_blk rfl rfl rfl rfl HR.out rfl Try.sizeFaultR rfl ?_; intro w8 hR8 hg8; have HR8 := hide hR8; have HG8 := hide hg8; clear hR8 hg8))
    refine bodyPost_ret (results1_cell Try.results21 rfl (run_loadVar_blk HR8.out Try.underlying26 rfl Try.sizeFaultR)) rfl ?_
    exact ⟨by rw [HE.out] <;> rfl, below_grownO HBW.out HG8.out (fun k hk => by cases hk; omega) HBW.out.size⟩
  have e1 : decide (7 < n) = false := decide_eq_false c1
  by_cases c2 : id < 0
  · have HE := hide (show chkN ⟨n, id, te, vo, lo, ro, co, vs, ns, hs⟩ = (3, -1) by rw [HCK.out, show nmF ⟨n, id, te, vo, lo, ro, co, vs, ns, hs⟩ = (3, -1) by rw [HNM.out, if_pos (by simp only [wiB_false]; omega)], if_pos (by simp)])
    have e2 : decide (id < 0) = true := decide_eq_true c2
    go_enter Try.func21, Try.ntmps21
    go_wp2_with (first
      | (go_at_call 49; refine (lNum_any te _).mono ?_; skip; rintro e w1 ⟨rfl, rfl⟩)
      | (go_at_call 32; refine (lF_any _ _ _).mono ?_; rintro e w1 ⟨rfl, hb1⟩; have HR := hide (HR0.out.later hb1); have HBW := hide (HA0.out.trans (hb1.mono HA0.out.size)); clear hb1; unfold flt)
      | (refine wpList_store_blk rfl rfl rfl rfl HR.out rfl Try.sizeFaultR rfl ?_; intro w8 hR8 hg8; have HR8 := hide hR8; have HG8 := hide hg8; clear hR8 hg8))
    refine bodyPost_ret (results1_cell Try.results21 rfl (run_loadVar_blk HR8.out Try.underlying26 rfl Try.sizeFaultR)) rfl ?_
    exact ⟨by rw [HE.out] <;> rfl, below_grownO HBW.out HG8.out (fun k hk => by cases hk; omega) HBW.out.size⟩
  have e2 : decide (id < 0) = false := decide_eq_false c2
  by_cases c3 : n ≤ id
  · have HE := hide (show chkN ⟨n, id, te, vo, lo, ro, co, vs, ns, hs⟩ = (3, -1) by rw [HCK.out, show nmF ⟨n, id, te, vo, lo, ro, co, vs, ns, hs⟩ = (3, -1) by rw [HNM.out, if_pos (by simp only [wiB_false]; omega)], if_pos (by simp)])
    have e3 : decide (n ≤ id) = true := decide_eq_true c3
    go_enter Try.func21, Try.ntmps21
    go_wp2_with (first
      | (go_at_call 49; refine (lNum_any te _).mono ?_; skip; rintro e w1 ⟨rfl, rfl⟩)
      | (go_at_call 32; refine (lF_any _ _ _).mono ?_; rintro e w1 ⟨rfl, hb1⟩; have HR := hide (HR0.out.later hb1); have HBW := hide (HA0.out.trans (hb1.mono HA0.out.size)); clear hb1; unfold flt)
      | (refine wpList_store_blk rfl rfl rfl rfl HR.out rfl Try.sizeFaultR rfl ?_; intro w8 hR8 hg8; have HR8 := hide hR8; have HG8 := hide hg8; clear hR8 hg8))
    refine bodyPost_ret (results1_cell Try.results21 rfl (run_loadVar_blk HR8.out Try.underlying26 rfl Try.sizeFaultR)) rfl ?_
    exact ⟨by rw [HE.out] <;> rfl, below_grownO HBW.out HG8.out (fun k hk => by cases hk; omega) HBW.out.size⟩
  have e3 : decide (n ≤ id) = false := decide_eq_false c3
  cases hnum : numL te
  · have HE := hide (show chkN ⟨n, id, te, vo, lo, ro, co, vs, ns, hs⟩ = (3, -2) by rw [HCK.out, show nmF ⟨n, id, te, vo, lo, ro, co, vs, ns, hs⟩ = (3, -2) by rw [HNM.out, if_neg (by simp only [not_or, Bool.not_eq_false, wiB_true]; omega), if_pos (.inl hnum)], if_pos (by simp)])
    have AN := hide hnum
    clear hnum
    go_enter Try.func21, Try.ntmps21
    go_wp2_with (first
      | (go_at_call 49; refine (lNum_any te _).mono ?_; rw [AN.out]; rintro e w1 ⟨rfl, rfl⟩)
      | (go_at_call 32; refine (lF_any _ _ _).mono ?_; rintro e w1 ⟨rfl, hb1⟩; have HR := hide (HR0.out.later hb1); have HBW := hide (HA0.out.trans (hb1.mono HA0.out.size)); clear hb1; unfold flt)
      | (refine wpList_store_blk rfl rfl rfl rfl HR.out rfl Try.sizeFaultR rfl ?_; intro w8 hR8 hg8; have HR8 := hide hR8; have HG8 := hide hg8; clear hR8 hg8))
    refine bodyPost_ret (results1_cell Try.results21 rfl (run_loadVar_blk HR8.out Try.underlying26 rfl Try.sizeFaultR)) rfl ?_
    exact ⟨by rw [HE.out] <;> rfl, below_grownO HBW.out HG8.out (fun k hk => by cases hk; omega) HBW.out.size⟩
  have AN := hide hnum
  by_cases c5 : vo < 0
  · have HE := hide (show chkN ⟨n, id, te, vo, lo, ro, co, vs, ns, hs⟩ = (3, -2) by rw [HCK.out, show nmF ⟨n, id, te, vo, lo, ro, co, vs, ns, hs⟩ = (3, -2) by rw [HNM.out, if_neg (by simp only [not_or, Bool.not_eq_false, wiB_true]; omega), if_pos (by simp only [wiB_false]; omega)], if_pos (by simp)])
    have e5 : decide (vo < 0) = true := decide_eq_true c5
    go_enter Try.func21, Try.ntmps21
    go_wp2_with (first
      | (go_at_call 49; refine (lNum_any te _).mono ?_; rw [AN.out]; rintro e w1 ⟨rfl, rfl⟩)
      | (go_at_call 32; refine (lF_any _ _ _).mono ?_; rintro e w1 ⟨rfl, hb1⟩; have HR := hide (HR0.out.later hb1); have HBW := hide (HA0.out.trans (hb1.mono HA0.out.size)); clear hb1; unfold flt)
      | (refine wpList_store_blk rfl rfl rfl rfl HR.out rfl Try.sizeFaultR rfl ?_; intro w8 hR8 hg8; have HR8 := hide hR8; have HG8 := hide hg8; clear hR8 hg8))
    refine bodyPost_ret (results1_cell Try.results21 rfl (run_loadVar_blk HR8.out Try.underlying26 rfl Try.sizeFaultR)) rfl ?_
    exact ⟨by rw [HE.out] <;> rfl, below_grownO HBW.out HG8.out (fun k hk => by cases hk; omega) HBW.out.size⟩
  have e5 : decide (vo < 0) = false := decide_eq_false c5
  by_cases c6 : n < vo
  · have HE := hide (show chkN ⟨n, id, te, vo, lo, ro, co, vs, ns, hs⟩ = (3, -2) by rw [HCK.out, show nmF ⟨n, id, te, vo, lo, ro, co, vs, ns, hs⟩ = (3, -2) by rw [HNM.out, if_neg (by simp only [not_or, Bool.not_eq_false, wiB_true]; omega), if_pos (by simp only [wiB_false]; omega)], if_pos (by simp)])
    have e6 : decide (n < vo) = true := decide_eq_true c6
    go_enter Try.func21, Try.ntmps21
    go_wp2_with (first
      | (go_at_call 49; refine (lNum_any te _).mono ?_; rw [AN.out]; rintro e w1 ⟨rfl, rfl⟩)
      | (go_at_call 32; refine (lF_any _ _ _).mono ?_; rintro e w1 ⟨rfl, hb1⟩; have HR := hide (HR0.out.later hb1); have HBW := hide (HA0.out.trans (hb1.mono HA0.out.size)); clear hb1; unfold flt)
      | (refine wpList_store_blk rfl rfl rfl rfl HR.out rfl Try.sizeFaultR rfl ?_; intro w8 hR8 hg8; have HR8 := hide hR8; have HG8 := hide hg8; clear hR8 hg8))
    refine bodyPost_ret (results1_cell Try.results21 rfl (run_loadVar_blk HR8.out Try.underlying26 rfl Try.sizeFaultR)) rfl ?_
    exact ⟨by rw [HE.out] <;> rfl, below_grownO HBW.out HG8.out (fun k hk => by cases hk; omega) HBW.out.size⟩
  have e6 : decide (n < vo) = false := decide_eq_false c6
  by_cases c7 : ro < 0
  · have HE := hide (show chkN ⟨n, id, te, vo, lo, ro, co, vs, ns, hs⟩ = (3, -2) by rw [HCK.out, show nmF ⟨n, id, te, vo, lo, ro, co, vs, ns, hs⟩ = (3, -2) by rw [HNM.out, if_neg (by simp only [not_or, Bool.not_eq_false, wiB_true]; omega), if_pos (by simp only [wiB_false]; omega)], if_pos (by simp)])
    have e7 : decide (ro < 0) = true := decide_eq_true c7
    go_enter Try.func21, Try.ntmps21
    go_wp2_with (first
      | (go_at_call 49; refine (lNum_any te _).mono ?_; rw [AN.out]; rintro e w1 ⟨rfl, rfl⟩)
      | (go_at_call 32; refine (lF_any _ _ _).mono ?_; rintro e w1 ⟨rfl, hb1⟩; have HR := hide (HR0.out.later hb1); have HBW := hide (HA0.out.trans (hb1.mono HA0.out.size)); clear hb1; unfold flt)
      | (refine wpList_store_blk rfl rfl rfl rfl HR.out rfl Try.sizeFaultR rfl ?_; intro w8 hR8 hg8; have HR8 := hide hR8; have HG8 := hide hg8; clear hR8 hg8))
    refine bodyPost_ret (results1_cell Try.results21 rfl (run_loadVar_blk HR8.out Try.underlying26 rfl Try.sizeFaultR)) rfl ?_
    exact ⟨by rw [HE.out] <;> rfl, below_grownO HBW.out HG8.out (fun k hk => by cases hk; omega) HBW.out.size⟩
  have e7 : decide (ro < 0) = false := decide_eq_false c7
  by_cases c8 : 2 < ro
  · have HE := hide (show chkN ⟨n, id, te, vo, lo, ro, co, vs, ns, hs⟩ = (3, -2) by rw [HCK.out, show nmF ⟨n, id, te, vo, lo, ro, co, vs, ns, hs⟩ = (3, -2) by rw [HNM.out, if_neg (by simp only [not_or, Bool.not_eq_false, wiB_true]; omega), if_pos (by simp only [wiB_false]; omega)], if_pos (by simp)])
    have e8 : decide (2 < ro) = true := decide_eq_true c8
    go_enter Try.func21, Try.ntmps21
    go_wp2_with (first
      | (go_at_call 49; refine (lNum_any te _).mono ?_; rw [AN.out]; rintro e w1 ⟨rfl, rfl⟩)
      | (go_at_call 32; refine (lF_any _ _ _).mono ?_; rintro e w1 ⟨rfl, hb1⟩; have HR := hide (HR0.out.later hb1); have HBW := hide (HA0.out.trans (hb1.mono HA0.out.size)); clear hb1; unfold flt)
      | (refine wpList_store_blk rfl rfl rfl rfl HR.out rfl Try.sizeFaultR rfl ?_; intro w8 hR8 hg8; have HR8 := hide hR8; have HG8 := hide hg8; clear hR8 hg8))
    refine bodyPost_ret (results1_cell Try.results21 rfl (run_loadVar_blk HR8.out Try.underlying26 rfl Try.sizeFaultR)) rfl ?_
    exact ⟨by rw [HE.out] <;> rfl, below_grownO HBW.out HG8.out (fun k hk => by cases hk; omega) HBW.out.size⟩
  have e8 : decide (2 < ro) = false := decide_eq_false c8
  by_cases c9 : co < 0
  · have HE := hide (show chkN ⟨n, id, te, vo, lo, ro, co, vs, ns, hs⟩ = (3, -2) by rw [HCK.out, show nmF ⟨n, id, te, vo, lo, ro, co, vs, ns, hs⟩ = (3, -2) by rw [HNM.out, if_neg (by simp only [not_or, Bool.not_eq_false, wiB_true]; omega), if_pos (by simp only [wiB_false]; omega)], if_pos (by simp)])
    have e9 : decide (co < 0) = true := decide_eq_true c9
    go_enter Try.func21, Try.ntmps21
    go_wp2_with (first
      | (go_at_call 49; refine (lNum_any te _).mono ?_; rw [AN.out]; rintro e w1 ⟨rfl, rfl⟩)
      | (go_at_call 32; refine (lF_any _ _ _).mono ?_; rintro e w1 ⟨rfl, hb1⟩; have HR := hide (HR0.out.later hb1); have HBW := hide (HA0.out.trans (hb1.mono HA0.out.size)); clear hb1; unfold flt)
      | (refine wpList_store_blk rfl rfl rfl rfl HR.out rfl Try.sizeFaultR rfl ?_; intro w8 hR8 hg8; have HR8 := hide hR8; have HG8 := hide hg8; clear hR8 hg8))
    refine bodyPost_ret (results1_cell Try.results21 rfl (run_loadVar_blk HR8.out Try.underlying26 rfl Try.sizeFaultR)) rfl ?_
    exact ⟨by rw [HE.out] <;> rfl, below_grownO HBW.out HG8.out (fun k hk => by cases hk; omega) HBW.out.size⟩
  have e9 : decide (co < 0) = false := decide_eq_false c9
  by_cases c10 : (lo.length : Int) < co
  · have HE := hide (show chkN ⟨n, id, te, vo, lo, ro, co, vs, ns, hs⟩ = (3, -2) by rw [HCK.out, show nmF ⟨n, id, te, vo, lo, ro, co, vs, ns, hs⟩ = (3, -2) by rw [HNM.out, if_neg (by simp only [not_or, Bool.not_eq_false, wiB_true]; omega), if_pos (by simp only [wiB_false]; omega)], if_pos (by simp)])
    have e10 : decide ((lo.length : Int) < co) = true := decide_eq_true c10
    go_enter Try.func21, Try.ntmps21
    go_wp2_with (first
      | (go_at_call 49; refine (lNum_any te _).mono ?_; rw [AN.out]; rintro e w1 ⟨rfl, rfl⟩)
      | (go_at_call 32; refine (lF_any _ _ _).mono ?_; rintro e w1 ⟨rfl, hb1⟩; have HR := hide (HR0.out.later hb1); have HBW := hide (HA0.out.trans (hb1.mono HA0.out.size)); clear hb1; unfold flt)
      | (refine wpList_store_blk rfl rfl rfl rfl HR.out rfl Try.sizeFaultR rfl ?_; intro w8 hR8 hg8; have HR8 := hide hR8; have HG8 := hide hg8; clear hR8 hg8))
    refine bodyPost_ret (results1_cell Try.results21 rfl (run_loadVar_blk HR8.out Try.underlying26 rfl Try.sizeFaultR)) rfl ?_
    exact ⟨by rw [HE.out] <;> rfl, below_grownO HBW.out HG8.out (fun k hk => by cases hk; omega) HBW.out.size⟩
  have e10 : decide ((lo.length : Int) < co) = false := decide_eq_false c10
  exact absurd (show (nmF ⟨n, id, te, vo, lo, ro, co, vs, ns, hs⟩).1 = 0 by rw [HNM.out, if_neg (by simp only [not_or, Bool.not_eq_false, wiB_true]; omega), if_neg (by simp only [not_or, Bool.not_eq_false, wiB_true]; exact ⟨hnum, by omega, by omega, by omega⟩)]) hbad

end Go.Proofs.Ytddkjpojbflmjah
