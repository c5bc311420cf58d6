/-
  Texts joined: SealV13, SealP4, SealB, GenR, LawSDoes, Frame, FrameG.
-/
import Derived.Test.YtopnjklloleomaaMSealDoes7
import Derived.Great.BuildSlice
import Derived.ProofKit
import Derived.OpenShut
import Derived.ShutString
import Derived.ChangeOld
import Derived.Below
import Derived.SliceStrings
import Derived.SizedLaws
import Derived.Deep.Slices
import Derived.Lib.SmallJoins
/-
  The walk over seal.Play.
-/
namespace Go.Proofs.Ytopnjklloleomaa
open Go.RowKit
set_option linter.unusedVariables false

/-- What deeds lead to: the fault of the first one that may not be, or none, and the vault. -/
def playGo : Vt → Nat → List Dd → (Int × Int) × Vt
  | t, _, [] => ((0, 0), t)
  | t, i, d :: ds => if codeV t d.kind d.who d.n ≠ 0 then ((codeV t d.kind d.who d.n, (i : Int)), t) else playGo (stepV t d.kind d.who d.n) (i + 1) ds

def t0V (k : Nat) (l : List ByteArray) : Vt := ⟨List.replicate k noCp, [], [], [], l⟩

def playVF (n : Int) (l : List ByteArray) (ds : List Dd) : Int × Int := if (plyF n l ds.length).1 ≠ 0 then plyF n l ds.length else (playGo (t0V n.toNat l) 0 ds).1
def playVT (n : Int) (l : List ByteArray) (ds : List Dd) : Vt := (playGo (t0V n.toNat l) 0 ds).2

theorem plyF_z (n : Int) (l : List ByteArray) (nd : Int) : Fz (plyF n l nd) := by
  unfold plyF
  repeat' split
  all_goals first | (intro h; simp at h; done) | (intro; rfl)

theorem plyF_ok {n : Int} {l : List ByteArray} {nd : Int} (h : (plyF n l nd).1 = 0) : 1 ≤ n ∧ n ≤ 7 ∧ nd ≤ 2000 ∧ l.length ≤ 100 := by
  unfold plyF at h
  by_cases h1 : 1 ≤ n ∧ n ≤ 7
  · rw [if_neg (fun q => q h1)] at h
    by_cases h2 : 2000 < nd
    · rw [if_pos h2] at h; simp at h
    rw [if_neg h2] at h
    by_cases h3 : 100 < l.length
    · rw [if_pos h3] at h; simp at h
    exact ⟨h1.1, h1.2, by omega, by omega⟩
  · rw [if_pos h1] at h; simp at h

def zq : Qf := ⟨0, false, none, 0, 0, 0⟩

theorem madeQ (k : Nat) (h : k ≤ 7) : (madeCells (Value.agg #[.int .i64 0, .bool false, .slice none 0 0, .int .i64 0]).cells (k * 4)).toList = qfE.vs (List.replicate k zq) := by
  rcases (show k = 0 ∨ k = 1 ∨ k = 2 ∨ k = 3 ∨ k = 4 ∨ k = 5 ∨ k = 6 ∨ k = 7 by omega) with rfl | rfl | rfl | rfl | rfl | rfl | rfl | rfl
  all_goals kernel_rfl

theorem Sz.zero (k : Nat) (l : List ByteArray) : Sz (t0V k l) 0 :=
  ⟨rfl, Nat.le_refl _, Nat.le_refl _, fun i x hx => by simp [t0V] at hx, fun i x hx => by simp [t0V] at hx⟩

/-- A vault that begins. -/
theorem Vm.begin {w : World} {lab : Nat → Nat} {B g k : Nat} {lv : Sl} {l : List ByteArray} (hB : Blk w B 68 #[.slice (some ⟨g, 0, none⟩) k k, .slice none 0 0, .slice none 0 0, .slice none 0 0, lv.v]) (hl : lab B = 5)
    (hrow : w.ownsRow 0 24 4 (.slice (some ⟨g, 0, none⟩) k k) k (qfE.vs (List.replicate k zq))) (hg : lab g = 2) (hlv : Rd0 0 txE w lab lv.v l) (hok : LbOk 0 w lab) :
    Vm w lab B ⟨⟨some ⟨g, 0, none⟩, k, k⟩, ⟨none, 0, 0⟩, ⟨none, 0, 0⟩, ⟨none, 0, 0⟩, lv⟩ (t0V k l) := by
  refine ⟨hB, hl, ⟨List.replicate k zq, ⟨by rw [List.length_replicate]; exact hrow, fun b hb => by simp only [Sl.v, Value.ownBlock, Option.some.injEq] at hb; subst hb; exact hg⟩, by simp [t0V], fun j f c hf hc => ?_⟩, nil_row _ _ _ _ _, ⟨[], nil_row _ _ _ _ _, rfl, fun j s l hs => by simp at hs⟩, ⟨[], nil_row _ _ _ _ _, rfl, fun j s l hs => by simp at hs⟩, hlv, hok⟩
  have h1 := List.mem_of_getElem? hf
  have h2 := List.mem_of_getElem? hc
  rw [List.mem_replicate] at h1
  simp only [t0V, List.mem_replicate] at h2
  rw [h1.2, h2.2]
  exact ⟨rfl, rfl, rfl, RdG.nil _, fun a n c hv => by cases hv⟩

theorem Try.sizeVault : (Try.prog.info? 45).map (·.size) = some 4 := by kernel_rfl

theorem six_blk {w : World} {R Q : Nat} {t1 t2 : TypeId} {a0 a1 a2 a3 b0 b1 r0 r1 r2 r3 q0 q1 : Value} (hne : R ≠ Q) (hR : Blk w R t1 #[a0, a1, a2, a3]) (hQ : Blk w Q t2 #[b0, b1]) :
    Blk ((((((w.setCell ⟨R, 0, none⟩ r0).setCell ⟨R, 1, none⟩ r1).setCell ⟨R, 2, none⟩ r2).setCell ⟨R, 3, none⟩ r3).setCell ⟨Q, 0, none⟩ q0).setCell ⟨Q, 1, none⟩ q1) R t1 #[r0, r1, r2, r3] ∧
    Blk ((((((w.setCell ⟨R, 0, none⟩ r0).setCell ⟨R, 1, none⟩ r1).setCell ⟨R, 2, none⟩ r2).setCell ⟨R, 3, none⟩ r3).setCell ⟨Q, 0, none⟩ q0).setCell ⟨Q, 1, none⟩ q1) Q t2 #[q0, q1] := by
  refine ⟨?_, ?_⟩
  · have := ((((((hR.set 0 r0).set 1 r1).set 2 r2).set 3 r3).other (p := ⟨Q, 0, none⟩) hne q0).other (p := ⟨Q, 1, none⟩) hne q1)
    simpa using this
  · have := ((((((hQ.other (p := ⟨R, 0, none⟩) hne.symm r0).other (p := ⟨R, 1, none⟩) hne.symm r1).other (p := ⟨R, 2, none⟩) hne.symm r2).other (p := ⟨R, 3, none⟩) hne.symm r3).set 0 q0).set 1 q1)
    simpa using this

/-- What Play answers: the vault, as it lies then. -/
def PlayTo (w : World) (n : Int) (l : List ByteArray) (ds : List Dd) (vt : Value) (w' : World) : Prop :=
  Below w.heap.size w w' ∧ ((playVF n l ds).1 = 0 → ∃ lab B s, Vm w' lab B s (playVT n l ds) ∧ vt = .agg #[s.cv.v, s.wv.v, s.tv.v, s.hv.v])

/-- The labels at the beginning. -/
def labP (R B g : Nat) : Nat → Nat := fun k => if k = R ∨ k = R + 1 then 6 else if k = B then 5 else if k = g then 2 else 0

theorem Rd0.old {α : Type} {K : Nat} {E : En α K} {w w' : World} {lab : Nat → Nat} {v : Value} {xs : List α} (h : RdG E w v xs) (hb : Below w.heap.size w w') (hl : ∀ k, k < w.heap.size → lab k = 0) : Rd0 0 E w' lab v xs := by
  refine ⟨h.below hb, fun a n c hv hne => ?_⟩
  obtain ⟨ao, cap, rfl, h1, h2, h3, h4⟩ := h
  simp only [Value.slice.injEq] at hv
  have hp : 0 < (E.vs xs).length := by
    rw [vs_length]
    exact Nat.mul_pos (List.length_pos_iff.2 hne) E.pos
  have h0 := h4 a hv.1 0 (E.vs xs)[0] (by simp)
  have e : (a.add 0).block = a.block := by unfold Addr.add; split <;> rfl
  exact hl _ (by rw [← e]; exact World.block_lt_of_cell? w _ h0)

set_option maxRecDepth 100000 in
set_option maxHeartbeats 8000000 in
theorem SPlay_any (n : Int) (v u : Value) (l : List ByteArray) (ds : List Dd) (w : World) (hv : RdG txE w v l) (hu : RdG ddE w u ds) :
    Calls Try.prog 20 #[.int .i64 n, v, u] w fun e w' => ∃ vt, e = .returned (.tuple #[vt, flt (playVF n l ds)]) ∧ PlayTo w n l ds vt w' := by
  have HPF : Hid (playVF n l ds = if (plyF n l ds.length).1 ≠ 0 then plyF n l ds.length else (playGo (t0V n.toNat l) 0 ds).1) := hide rfl
  have HPT : Hid (playVT n l ds = (playGo (t0V n.toNat l) 0 ds).2) := hide rfl
  have hA := below_alloc2 w (.cells #[.slice none 0 0, .slice none 0 0, .slice none 0 0, .slice none 0 0] 45) (.cells #[.int .i64 0, .int .i64 0] 29)
  have HR0 := hide (Blk.at0of2 w (.cells #[.int .i64 0, .int .i64 0] 29) 45 #[.slice none 0 0, .slice none 0 0, .slice none 0 0, .slice none 0 0])
  have HQ0 := hide (Blk.at1 w (.cells #[.slice none 0 0, .slice none 0 0, .slice none 0 0, .slice none 0 0] 45) 29 #[.int .i64 0, .int .i64 0])
  have HI := hide (playFaultS_any n (ds.length : Int) v l _ (hv.below hA))
  have HV := hide hv
  have HU := hide hu
  have HBA := hide hA
  obtain ⟨ao, cap, rfl, hac, hc2⟩ := hv.shape
  obtain ⟨uo, ucap, rfl, huc, hd2⟩ := hu.shape
  unfold maxLen at hc2 hd2
  have HZ := hide (plyF_z n l ds.length)
  have HOK := hide (fun h => plyF_ok (n := n) (l := l) (nd := ds.length) h)
  generalize hK : plyF n l ds.length = K at *
  obtain ⟨fx, fy⟩ := K
  clear hv hu hA hK
  unfold flt at HI
  go_enter Try.func20, Try.ntmps20
  go_wp2_with fail
  refine HI.out.mono ?_
  rintro e w1 ⟨rfl, hb1⟩
  have HR1 := hide (HR0.out.later hb1)
  have HQ1 := hide (HQ0.out.later hb1)
  have HB1 := hide (HBA.out.trans (hb1.mono HBA.out.size))
  have hr1 := HR1.out.lt
  have hq1 := HQ1.out.lt
  clear hb1 HI HR0 HQ0
  by_cases hx : fx ≠ 0
  · have HE := hide (HPF.out.trans (if_pos hx))
    have hq : (fx == 0) = false := beq_eq_false_iff_ne.2 hx
    have hq2 : (fx != 0) = true := by simp [hx]
    have HX := hide hx
    clear hx
    have r0 := HR1.out.cell 0
    have r1 := HR1.out.cell 1
    have r2 := HR1.out.cell 2
    have r3 := HR1.out.cell 3
    have z0 := HR1.out.frozen 0
    have z1 := HR1.out.frozen 1
    have z2 := HR1.out.frozen 2
    have z3 := HR1.out.frozen 3
    have s0 := HQ1.out.cell 0
    have s1 := HQ1.out.cell 1
    have y0 := HQ1.out.frozen 0
    have y1 := HQ1.out.frozen 1
    simp at r0 r1 r2 r3 s0 s1
    go_wp2_with fail
    go_region
    obtain ⟨hR9, hQ9⟩ := six_blk (r0 := .slice none 0 0) (r1 := .slice none 0 0) (r2 := .slice none 0 0) (r3 := .slice none 0 0) (q0 := .int .i64 fx) (q1 := .int .i64 fy) (show w.heap.size ≠ w.heap.size + 1 by omega) HR1.out HQ1.out
    have hR10 := hR9.later (below_allocG _ (.cells #[.int .i64 fx, .int .i64 fy] 29))
    have hQ10 := hQ9.later (below_allocG _ (.cells #[.int .i64 fx, .int .i64 fy] 29))
    have hb1 := HB1.out
    have hbs := HB1.out.size
    have hb10 : Below w.heap.size w (((((((w1.setCell ⟨w.heap.size, 0, none⟩ (.slice none 0 0)).setCell ⟨w.heap.size, 1, none⟩ (.slice none 0 0)).setCell ⟨w.heap.size, 2, none⟩ (.slice none 0 0)).setCell ⟨w.heap.size, 3, none⟩ (.slice none 0 0)).setCell ⟨w.heap.size + 1, 0, none⟩ (.int .i64 fx)).setCell ⟨w.heap.size + 1, 1, none⟩ (.int .i64 fy)).alloc (.cells #[.int .i64 fx, .int .i64 fy] 29)) := by go_grown
    generalize ((((((w1.setCell ⟨w.heap.size, 0, none⟩ (.slice none 0 0)).setCell ⟨w.heap.size, 1, none⟩ (.slice none 0 0)).setCell ⟨w.heap.size, 2, none⟩ (.slice none 0 0)).setCell ⟨w.heap.size, 3, none⟩ (.slice none 0 0)).setCell ⟨w.heap.size + 1, 0, none⟩ (.int .i64 fx)).setCell ⟨w.heap.size + 1, 1, none⟩ (.int .i64 fy)).alloc (.cells #[.int .i64 fx, .int .i64 fy] 29) = wz at hR10 hQ10 hb10 ⊢
    have HR10 := hide hR10
    have HQ10 := hide hQ10
    have HB10 := hide hb10
    clear hR9 hQ9 hR10 hQ10 hb10 hb1 hbs r0 r1 r2 r3 z0 z1 z2 z3 s0 s1 y0 y1
    go_wp2_with fail
    refine bodyPost_ret (v := .tuple #[.agg #[.slice none 0 0, .slice none 0 0, .slice none 0 0, .slice none 0 0], .agg #[.int .i64 fx, .int .i64 fy]]) (results2_cells Try.results20 rfl rfl (run_loadVar_blk (xs := #[.slice none 0 0, .slice none 0 0, .slice none 0 0, .slice none 0 0]) HR10.out Try.underlying45 rfl Try.sizeVault) (run_loadVar_blk (xs := #[.int .i64 fx, .int .i64 fy]) HQ10.out Try.underlying29 rfl Try.sizeFaultS)) rfl ?_
    exact ⟨_, by rw [HE.out]; rfl, below_drewN HB10.out 1, fun h => absurd (by rw [HE.out] at h; exact h) HX.out⟩
  have HPF2 := hide (HPF.out.trans (if_neg hx))
  obtain rfl : fx = 0 := Decidable.not_not.1 hx
  obtain rfl : fy = 0 := by have := HZ.out rfl; simpa using this
  obtain ⟨n1, n7, nd, nl⟩ := HOK.out rfl
  obtain ⟨NN, rfl⟩ : ∃ NN : Nat, n = NN := ⟨n.toNat, by omega⟩
  rw [Int.toNat_natCast] at HPF2 HPT
  have hNN : NN ≤ 7 := by omega
  obtain ⟨ci, hci, hcz, hcs, hcb⟩ := info_parts infoCopy
  have hby : ci.bytes * NN ≤ 281474976710656 := by rw [hcb]; omega
  have HB := hide (Blk.at1 w1 (.cells #[.int .i64 0, .int .i64 0] 29) 68 #[.slice none 0 0, .slice none 0 0, .slice none 0 0, .slice none 0 0, .slice ao l.length cap])
  have HB2 := hide (below_alloc2 w1 (.cells #[.int .i64 0, .int .i64 0] 29) (.cells #[.slice none 0 0, .slice none 0 0, .slice none 0 0, .slice none 0 0, .slice ao l.length cap] 68))
  have hmx : NN ≤ maxLen := by unfold maxLen; omega
  have HMX := hide hmx
  have HBY := hide hby
  have HCI := hide hci
  have HCZ := hide hcz
  have HCS := hide hcs
  clear hx HPF HOK HZ hmx hby hci hcz hcs hcb
  go_upto_region 6 with (refine wpList_make_full _ rfl _ _ _ rfl 0 24 ci _ 4 Try.underlying38 HCI.out HCZ.out HCS.out .i64 .i64 NN NN NN rfl rfl rfl rfl HBY.out HMX.out (Nat.zero_le _) ?_; intro w2 ho2 hg2; have HO2 := hide ho2; have HG2 := hide hg2; have hV2 := HB.out.grown hg2 (by simp); have HV2 := hide hV2; have k0 := hV2.cell 0; have kz := hV2.frozen 0; have kl := hV2.lt; simp only [List.getElem?_toArray, List.getElem?_cons_zero] at k0; clear ho2 hg2 hV2)
  have hsz2 : ((w1.alloc (.cells #[.int .i64 0, .int .i64 0] 29)).alloc (.cells #[.slice none 0 0, .slice none 0 0, .slice none 0 0, .slice none 0 0, .slice ao l.length cap] 68)).heap.size = w1.heap.size + 1 + 1 := by simp
  have ho3 := HO2.out
  rw [hsz2, madeQ NN hNN] at ho3
  have hgl := ownBlock_lt ho3 (w1.heap.size + 1 + 1) (by simp [Value.ownBlock])
  have ho4 := owns_setOther ho3 (p := ⟨w1.heap.size + 1, 0, none⟩) (by simp [Value.ownBlock]) (.slice (some ⟨w1.heap.size + 1 + 1, 0, none⟩) NN NN)
  have hV4 := HV2.out.set 0 (.slice (some ⟨w1.heap.size + 1 + 1, 0, none⟩) NN NN)
  have hbw2 : Below w1.heap.size w1 w2 := below_grownO HB2.out HG2.out (fun k hk => by cases hk) HB2.out.size
  have hbw4 : Below w1.heap.size w1 (w2.setCell ⟨w1.heap.size + 1, 0, none⟩ (.slice (some ⟨w1.heap.size + 1 + 1, 0, none⟩) NN NN)) := below_grownO hbw2 (grown_setCell w2 _ 0 _) (fun k hk => by cases hk; omega) hbw2.size
  have hsz4 : (w2.setCell ⟨w1.heap.size + 1, 0, none⟩ (.slice (some ⟨w1.heap.size + 1 + 1, 0, none⟩) NN NN)).heap.size = w2.heap.size := by simp
  generalize w2.setCell ⟨w1.heap.size + 1, 0, none⟩ (.slice (some ⟨w1.heap.size + 1 + 1, 0, none⟩) NN NN) = W0 at ho4 hV4 hbw4 hsz4 ⊢
  have hbW := HB1.out.trans (hbw4.mono HB1.out.size)
  have hlold : ∀ k, k < w.heap.size → labP w.heap.size (w1.heap.size + 1) (w1.heap.size + 1 + 1) k = 0 := fun k hk => by
    unfold labP
    rw [if_neg (by omega), if_neg (by omega), if_neg (by omega)]
  have hvm0 : Vm W0 (labP w.heap.size (w1.heap.size + 1) (w1.heap.size + 1 + 1)) (w1.heap.size + 1) ⟨⟨some ⟨w1.heap.size + 1 + 1, 0, none⟩, NN, NN⟩, ⟨none, 0, 0⟩, ⟨none, 0, 0⟩, ⟨none, 0, 0⟩, ⟨ao, l.length, cap⟩⟩ (t0V NN l) := by
    refine Vm.begin (lv := ⟨ao, l.length, cap⟩) (by simpa [Sl.v] using hV4) ?_ ho4 ?_ (Rd0.old HV.out hbW hlold) (fun k hk => ?_)
    · unfold labP
      rw [if_neg (by omega), if_pos rfl]
    · unfold labP
      rw [if_neg (by omega), if_neg (by omega), if_pos rfl]
    · unfold labP
      rw [if_neg (by omega), if_neg (by omega), if_neg (by omega)]
  have HR4 := hide (HR1.out.later hbw4)
  have HQ4 := hide (HQ1.out.later hbw4)
  have HLR : Hid (labP w.heap.size (w1.heap.size + 1) (w1.heap.size + 1 + 1) w.heap.size = 6 ∧ labP w.heap.size (w1.heap.size + 1) (w1.heap.size + 1 + 1) (w.heap.size + 1) = 6) := hide ⟨by unfold labP; rw [if_pos (.inl rfl)], by unfold labP; rw [if_pos (.inr rfl)]⟩
  have HVM0 := hide hvm0
  have HLO := hide hlold
  have HBW := hide hbW
  have HOLD : Hid (∀ (W : World) lab', Chg 0 W0 W (labP w.heap.size (w1.heap.size + 1) (w1.heap.size + 1 + 1)) lab' (fun i => i ≠ 0 ∧ i ≠ 6) → Below w.heap.size w W) := hide fun W lab' hc => HBW.out.trans (Below.ofChg hc (fun k hk => by rw [HLO.out k hk]; omega) HBW.out.size)
  generalize labP w.heap.size (w1.heap.size + 1) (w1.heap.size + 1 + 1) = lab0 at *
  have hwB : w.heap.size + 1 < w1.heap.size + 1 := by omega
  generalize w1.heap.size + 1 = B at *
  clear ho3 ho4 hV4 hbw2 hbw4 hvm0 hlold hbW hsz2 hsz4 hgl k0 kz kl HO2 HG2 HV2 HB HB2 HR1 HQ1
  go_wp2_with fail
  go_loopw [31] (fun iv wr => ∃ (j : Nat) (lab' : Nat → Nat) (s' : Vs) (t' : Vt), j ≤ ds.length ∧ iv = .int .i64 j ∧ Vm wr lab' B s' t' ∧ Sz t' j ∧ playGo t' j (ds.drop j) = playGo (t0V NN l) 0 ds ∧ Chg 0 W0 wr lab0 lab' (fun i => i ≠ 0 ∧ i ≠ 6))
    (fun iv _ => ds.length - (intOf iv).toNat)
  case atStart => exact ⟨0, _, _, _, by omega, rfl, HVM0.out, Sz.zero NN l, rfl, Chg.refl _ _ _ HVM0.out.ok⟩
  case round =>
    obtain ⟨j, lab', s', t', hj, rfl, hmr, hzr, hgo, hchr⟩ := hrel
    have HMR := hide hmr
    have HZR := hide hzr
    have HGO := hide hgo
    have HCR := hide hchr
    have HBr := hide (HOLD.out _ _ hchr)
    have HRr := hide (HR4.out.keep hchr (by rw [HLR.out.1]; omega))
    have HQr := hide (HQ4.out.keep hchr (by rw [HLR.out.2]; omega))
    have hrl := HRr.out.lt
    have hql := HQr.out.lt
    have HL6 := hide (show lab' w.heap.size = 6 ∧ lab' (w.heap.size + 1) = 6 from ⟨(hchr.labs _ HR4.out.lt).trans HLR.out.1, (hchr.labs _ HQ4.out.lt).trans HLR.out.2⟩)
    clear hmr hzr hgo hchr
    by_cases hlt : j < ds.length
    · obtain ⟨d, hd⟩ : ∃ c, ds[j]? = some c := ⟨_, List.getElem?_eq_getElem hlt⟩
      have hdd : ds.drop j = d :: ds.drop (j + 1) := by
        obtain ⟨hl, rfl⟩ := List.getElem?_eq_some_iff.1 hd
        exact List.drop_eq_getElem_cons hl
      rw [hdd, playGo] at HGO
      obtain ⟨b, off, rfl, hbb, hat⟩ := HU.out.here hd
      have q0 := cell_belowG (hat 0 _ rfl) HBr.out
      have q1 := cell_belowG (hat 1 _ rfl) HBr.out
      have q2 := cell_belowG (hat 2 _ rfl) HBr.out
      rw [Nat.add_zero] at q0
      obtain ⟨dk, dw, dn⟩ := d
      simp only at q0 q1 q2 HGO
      have hbl : b < wr.heap.size := Nat.lt_of_lt_of_le hbb HBr.out.size
      have hk1 : (0 : Int) ≤ (j : Int) := by omega
      have hk2 : (j : Int) < (ds.length : Int) := by omega
      have hba := below_allocG wr (.cells #[.int .i64 dk, .int .i64 dw, .int .i64 dn] 49)
      have HBA2 := hide hba
      have HDO := hide (do_any B s' t' dk dw dn lab' _ (HMR.out.below hba) j HZR.out (by omega))
      have HSS := hide (HZR.out.step (k := dk) (who := dw) (n := dn))
      have HCB := hide (Chg.below (fun i => i ≠ 0 ∧ i ≠ 6) HMR.out.ok hba)
      clear hat hd hdd hba
      generalize hCV : codeV t' dk dw dn = CV at *
      have HCV := hide hCV
      clear hCV
      go_wp2_with fail
      refine HDO.out.mono ?_
      rintro e w3 ⟨rfl, hto⟩
      obtain ⟨lab3, s3, hm3, hch3⟩ := hto
      have HM3 := hide hm3
      have hch := HCR.out.trans (HCB.out.trans hch3)
      have HC3 := hide hch
      have HR3 := hide (HR4.out.keep hch (by rw [HLR.out.1]; omega))
      have HQ3 := hide (HQ4.out.keep hch (by rw [HLR.out.2]; omega))
      have HB3 := hide (HOLD.out _ _ hch)
      clear hm3 hch3 hch q0 q1 q2
      by_cases hx : CV ≠ 0
      · have HS := hide (HGO.out.symm.trans (if_pos hx))
        have HE := hide (show playVF NN l ds = (CV, (j : Int)) by rw [HPF2.out, HS.out])
        have HX := hide hx
        have hq : (CV == 0) = false := beq_eq_false_iff_ne.2 hx
        have hq2 : (CV != 0) = true := by simp [hx]
        clear hx
        go_wp2_with (first
          | (refine wpList_store_blk rfl rfl rfl rfl HR3.out rfl Try.sizeVault rfl ?_; intro w8 hR8 hg8; have HR8 := hide hR8; have HG8 := hide hg8; have HQ8 := hide (HQ3.out.grown hg8 (fun z => by simp at z)); clear hR8 hg8)
          | (refine wpList_store_blk rfl rfl rfl rfl HQ8.out rfl Try.sizeFaultS rfl ?_; intro w9 hQ9 hg9; have HQ9 := hide hQ9; have HG9 := hide hg9; have HR9 := hide (HR8.out.grown hg9 (fun z => by simp at z)); clear hQ9 hg9))
        refine bodyPost_ret (v := .tuple #[.agg #[.slice none 0 0, .slice none 0 0, .slice none 0 0, .slice none 0 0], .agg #[.int .i64 CV, .int .i64 j]]) (results2_cells Try.results20 rfl rfl (run_loadVar_blk HR9.out Try.underlying45 rfl Try.sizeVault) (run_loadVar_blk HQ9.out Try.underlying29 rfl Try.sizeFaultS)) rfl ?_
        exact ⟨_, by rw [HE.out]; rfl, below_grownO (below_grownO HB3.out HG8.out (fun k hk => by cases hk; omega) HB3.out.size) HG9.out (fun k hk => by cases hk; omega) (Nat.le_trans HB3.out.size HG8.out.size), fun h => absurd (by rw [HE.out] at h; exact h) HX.out⟩
      · have HS := hide (HGO.out.symm.trans (if_neg hx))
        obtain rfl : CV = 0 := Decidable.not_not.1 hx
        clear hx
        go_wp2_with fail
        go_roundw
        case rel => exact ⟨j + 1, lab3, s3, _, by omega, by go_num, HM3.out, HSS.out, HS.out.symm, HC3.out⟩
        case measure => simp [intOf]; omega
    · have hje : j = ds.length := by omega
      subst hje
      rw [List.drop_length, playGo] at HGO
      have HE := hide (show playVF NN l ds = (0, 0) by rw [HPF2.out, ← HGO.out])
      have HT := hide (show playVT NN l ds = t' by rw [HPT.out, ← HGO.out])
      have v0 := HMR.out.blk.cell 0
      have v1 := HMR.out.blk.cell 1
      have v2 := HMR.out.blk.cell 2
      have v3 := HMR.out.blk.cell 3
      have vl := HMR.out.blk.lt
      simp only [Vs.a, List.getElem?_toArray, List.getElem?_cons_zero, List.getElem?_cons_succ] at v0 v1 v2 v3
      go_wp2_with (first
        | (refine wpList_store_blk rfl rfl rfl rfl HRr.out rfl Try.sizeVault rfl ?_; intro w8 hR8 hg8; have HR8 := hide hR8; have HG8 := hide hg8; have HQ8 := hide (HQr.out.grown hg8 (fun z => by simp at z)); clear hR8 hg8)
        | (refine wpList_store_blk rfl rfl rfl rfl HQ8.out rfl Try.sizeFaultS rfl ?_; intro w9 hQ9 hg9; have HQ9 := hide hQ9; have HG9 := hide hg9; have HR9 := hide (HR8.out.grown hg9 (fun z => by simp at z)); clear hQ9 hg9))
      have hc8 : Chg 0 wr w8 lab' lab' (fun i => i = 6) := Chg.grown HMR.out.ok HG8.out HL6.out.1
      have hc9 : Chg 0 w8 w9 lab' lab' (fun i => i = 6) := Chg.grown hc8.ok HG9.out HL6.out.2
      have hc := hc8.trans hc9
      have HVM := hide (show Vm w9 lab' B s' t' from ⟨HMR.out.blk.keep hc (by rw [HMR.out.lb]; omega), HMR.out.lb, HMR.out.cop.keep hc (by omega) (by omega), HMR.out.wro.keep hc (by omega), HMR.out.tok.keep hc (by omega) (fun i => by omega), HMR.out.hea.keep hc (by omega) (by omega) (fun i => ⟨by omega, by omega, by omega⟩), HMR.out.lef.keep hc (by omega), hc.ok⟩)
      clear hc8 hc9 hc v0 v1 v2 v3 vl
      refine bodyPost_ret (v := .tuple #[.agg #[s'.cv.v, s'.wv.v, s'.tv.v, s'.hv.v], .agg #[.int .i64 0, .int .i64 0]]) (results2_cells Try.results20 rfl rfl (run_loadVar_blk HR9.out Try.underlying45 rfl Try.sizeVault) (run_loadVar_blk HQ9.out Try.underlying29 rfl Try.sizeFaultS)) rfl ?_
      exact ⟨_, by rw [HE.out]; rfl, below_grownO (below_grownO HBr.out HG8.out (fun k hk => by cases hk; omega) HBr.out.size) HG9.out (fun k hk => by cases hk; omega) (Nat.le_trans HBr.out.size HG8.out.size), fun _ => ⟨lab', B, s', by rw [HT.out]; exact HVM.out, rfl⟩⟩

end Go.Proofs.Ytopnjklloleomaa

/-
  The walk over seal.Sure.
-/
namespace Go.Proofs.Ytopnjklloleomaa
open Go.RowKit
set_option linter.unusedVariables false

/-- The slice v reads as slices of such lengths. -/
def RdLs (w : World) (v : Value) (ns : List Nat) : Prop :=
  ∃ us : List Value, Rd w v us ∧ us.length = ns.length ∧ ∀ (i : Nat) u n, us[i]? = some u → ns[i]? = some n → ∃ ao cap, u = .slice ao n cap

theorem RdLs.shape {w : World} {v : Value} {ns : List Nat} (h : RdLs w v ns) : ∃ ao cap, v = .slice ao ns.length cap ∧ ns.length ≤ cap ∧ cap ≤ maxLen := by
  obtain ⟨us, h1, h2, _⟩ := h
  obtain ⟨ao, cap, h3, h4, h5⟩ := h1.shape
  rw [h2] at h3 h4
  exact ⟨ao, cap, h3, h4, h5⟩

theorem RdLs.here {w : World} {ao : Option Addr} {n cap : Nat} {ns : List Nat} (h : RdLs w (.slice ao n cap) ns) {i m : Nat} (hi : ns[i]? = some m) :
    ∃ b off ao' cap', ao = some ⟨b, off, none⟩ ∧ b < w.heap.size ∧ w.cell? ⟨b, off + i, none⟩ = some (.slice ao' m cap') := by
  obtain ⟨us, h1, h2, h3⟩ := h
  have hl := (List.getElem?_eq_some_iff.1 hi).1
  obtain ⟨b, off, cap', hv, _, _, hb, hc⟩ := h1.pos (by omega)
  simp only [Value.slice.injEq] at hv
  obtain ⟨rfl, _, _⟩ := hv
  have hu : us[i]? = some (us[i]'(by omega)) := List.getElem?_eq_getElem _
  obtain ⟨ao', c', e⟩ := h3 i _ m hu hi
  exact ⟨b, off, ao', c', rfl, hb, by rw [hc i _ hu, e]⟩

/-- How many, from the first one on, are most. -/
def sureN (nc : Nat) : List Nat → Nat → Nat
  | [], i => i
  | m :: r, i => if nc / 2 < m then sureN nc r (i + 1) else i

theorem drop_consM {l : List Nat} {i x : Nat} (h : l[i]? = some x) : l.drop i = x :: l.drop (i + 1) := by
  obtain ⟨hl, rfl⟩ := List.getElem?_eq_some_iff.1 h
  exact List.drop_eq_getElem_cons hl

set_option maxRecDepth 100000 in
set_option maxHeartbeats 2000000 in
theorem Sure_any (co wo : Option Addr) (nc cc nw wc : Nat) (vt vh : Value) (ns : List Nat) (w : World) (hv : RdLs w vt ns) (hnc : nc ≤ 1000000) :
    Calls Try.prog 21 #[.agg #[.slice co nc cc, .slice wo nw wc, vt, vh]] w fun e w' => e = .returned (.tuple #[.int .i64 (if nw = ns.length then (sureN nc ns 0 : Int) else 0), flt (if nw = ns.length then (0, 0) else (5, 0))]) ∧ Below w.heap.size w w' := by
  have HV := hide hv
  obtain ⟨ao, cap, rfl, hc1, hc2⟩ := hv.shape
  unfold maxLen at hc2
  have hA := below_alloc2 w (.cells #[.slice co nc cc, .slice wo nw wc, .slice ao ns.length cap, vh] 45) (.cells #[.int .i64 0, .int .i64 0] 29)
  have HA := hide hA
  have HV0 := hide (Blk.at0of2 w (.cells #[.int .i64 0, .int .i64 0] 29) 45 #[.slice co nc cc, .slice wo nw wc, .slice ao ns.length cap, vh])
  have HR0 := hide (Blk.at1 w (.cells #[.slice co nc cc, .slice wo nw wc, .slice ao ns.length cap, vh] 45) 29 #[.int .i64 0, .int .i64 0])
  have HMO := hide (fun (m : Nat) W => areMost_any m nc W ⟨by omega, by omega⟩)
  clear hv hA
  by_cases hn : nw = ns.length
  case neg =>
    have hq : ((nw : Int) != (ns.length : Int)) = true := by simp; omega
    rw [if_neg hn, if_neg hn]
    clear hn
    go_enter Try.func21, Try.ntmps21
    go_wp2_with fail
    exact bodyPost_ret (v := .tuple #[.int .i64 0, flt (5, 0)]) (by simp [results, Try.results21, go_sem, flt]) rfl ⟨rfl, by go_grown⟩
  subst hn
  rw [if_pos rfl, if_pos rfl]
  go_enter Try.func21, Try.ntmps21
  go_wp2_with fail
  go_loopw [17] (fun iv wr => ∃ j : Nat, j ≤ ns.length ∧ iv = .int .i64 j ∧ sureN nc (ns.drop j) j = sureN nc ns 0 ∧ (w.alloc (.cells #[.slice co nc cc, .slice wo ns.length wc, .slice ao ns.length cap, vh] 45)).alloc (.cells #[.int .i64 0, .int .i64 0] 29) = wr)
    (fun iv _ => ns.length - (intOf iv).toNat)
  case atStart => exact ⟨0, by omega, rfl, rfl, rfl⟩
  case round =>
    obtain ⟨j, hj, rfl, hgo, rfl⟩ := hrel
    have HGO := hide hgo
    clear hgo
    by_cases hlt : j < ns.length
    · obtain ⟨m, hm⟩ : ∃ m, ns[j]? = some m := ⟨_, List.getElem?_eq_getElem hlt⟩
      rw [drop_consM hm, sureN] at HGO
      obtain ⟨b, off, ao', cap', rfl, hb, q⟩ := HV.out.here hm
      have q1 := cell_belowG q HA.out
      have hb1 : b < w.heap.size + 1 + 1 := by omega
      have hk1 : (0 : Int) ≤ (j : Int) := by omega
      have hk2 : (j : Int) < (ns.length : Int) := by omega
      clear q hm
      by_cases hmo : nc / 2 < m
      · have HE := hide (HGO.out.symm.trans (if_pos hmo))
        have HM := hide (show decide ((nc : Int) / 2 < (m : Int)) = true from decide_eq_true (by omega))
        clear hmo
        go_wp2_with (go_at_call 39; refine (HMO.out m _).mono ?_; rw [HM.out]; rintro e w9 ⟨rfl, rfl⟩)
        go_roundw
        case rel => exact ⟨j + 1, by omega, by go_num, HE.out.symm, trivial⟩
        case measure => simp [intOf]; omega
      · have HE := hide (HGO.out.symm.trans (if_neg hmo))
        have HM := hide (show decide ((nc : Int) / 2 < (m : Int)) = false from decide_eq_false (by omega))
        clear hmo
        go_wp2_with (go_at_call 39; refine (HMO.out m _).mono ?_; rw [HM.out]; rintro e w9 ⟨rfl, rfl⟩)
        exact bodyPost_ret (v := .tuple #[.int .i64 j, flt (0, 0)]) (by simp [results, Try.results21, go_sem, flt]) rfl ⟨by rw [HE.out], by go_grown⟩
    · have hje : j = ns.length := by omega
      subst hje
      rw [List.drop_length, sureN] at HGO
      have HE := hide HGO.out.symm
      go_wp2_with fail
      exact bodyPost_ret (v := .tuple #[.int .i64 ns.length, flt (0, 0)]) (by simp [results, Try.results21, go_sem, flt]) rfl ⟨by rw [HE.out], by go_grown⟩

end Go.Proofs.Ytopnjklloleomaa

/-
  The walk over the example of sealed files.
-/
namespace Go.Proofs.Ytopnjklloleomaa
open Go.RowKit
set_option linter.unusedVariables false

def exRc : List ByteArray := [⟨#[97]⟩]
def exDd : List Dd := [⟨0, 0, 0⟩, ⟨1, 0, 0⟩, ⟨1, 1, 0⟩, ⟨2, 0, 5⟩, ⟨3, 2, 0⟩, ⟨3, 1, 0⟩, ⟨4, 0, 0⟩]

theorem exF : playVF 3 exRc exDd = (0, 0) := by kernel_rfl
theorem exC : (playVT 3 exRc exDd).copies.length = 3 := by kernel_rfl
theorem exW : (playVT 3 exRc exDd).wrote.length = 1 := by kernel_rfl
theorem exT : (playVT 3 exRc exDd).took.map List.length = [2] := by kernel_rfl
theorem exH : (playVT 3 exRc exDd).heals.length = 1 := by kernel_rfl
theorem exA : (playVT 3 exRc exDd).heals[0]?.map (fun a => (a.has, a.recs)) = some (true, exRc) := by kernel_rfl

theorem TkM.lens {w : World} {lab : Nat → Nat} {v : Value} {ls : List (List Int)} (h : TkM w lab v ls) : RdLs w v (ls.map List.length) := by
  obtain ⟨ss, h1, h2, h3⟩ := h
  obtain ⟨ao, cap, hv, k1, k2, k3, k4⟩ := RdG.ofOwns h1.1
  have hl : (ssE.vs ss).length = ss.length := by rw [vs_length, Nat.mul_one]
  refine ⟨ssE.vs ss, ⟨ao, cap, by rw [hl]; exact hv, by rw [hl]; exact k1, k2, k3, k4⟩, by rw [hl, List.length_map, h2], fun i u n hu hn => ?_⟩
  have hi : i < ss.length := by rw [← hl]; exact (List.getElem?_eq_some_iff.1 hu).1
  have hg := vs_get (E := ssE) ss i hi 0 (by decide)
  rw [Nat.mul_one, Nat.add_zero, hu] at hg
  have hg2 : u = (ss[i]).v := by simpa [ssE] using hg
  rw [List.getElem?_map] at hn
  obtain ⟨l, hl2⟩ : ∃ l, ls[i]? = some l := ⟨_, List.getElem?_eq_getElem (by omega)⟩
  rw [hl2] at hn
  simp at hn
  have hr := h3 i _ l (List.getElem?_eq_getElem hi) hl2
  have := Row.len hr
  subst hn
  exact ⟨_, _, by rw [hg2]; unfold Sl.v; rw [this]⟩

set_option maxRecDepth 100000 in
set_option maxHeartbeats 4000000 in
theorem sealBegun_any (w : World) : Calls Try.prog 5 #[] w fun e w' => e = .returned (.bool true) ∧ Below w.heap.size w w' := by
  have hA : RdG txE (w.alloc (.cells #[.string ⟨#[97]⟩] 9)) (.slice (some ⟨w.heap.size, 0, none⟩) 1 1) exRc := RdG.newL (E := txE) w exRc _ _ rfl (by simp [exRc])
  have hB : RdG ddE ((w.alloc (.cells #[.string ⟨#[97]⟩] 9)).alloc (.cells #[.int .i64 0, .int .i64 0, .int .i64 0, .int .i64 1, .int .i64 0, .int .i64 0, .int .i64 1, .int .i64 1, .int .i64 0, .int .i64 2, .int .i64 0, .int .i64 5, .int .i64 3, .int .i64 2, .int .i64 0, .int .i64 3, .int .i64 1, .int .i64 0, .int .i64 4, .int .i64 0, .int .i64 0] 49)) (.slice (some ⟨w.heap.size + 1, 0, none⟩) 7 7) exDd := by
    have := RdG.newL (E := ddE) (w.alloc (.cells #[.string ⟨#[97]⟩] 9)) exDd 49 #[.int .i64 0, .int .i64 0, .int .i64 0, .int .i64 1, .int .i64 0, .int .i64 0, .int .i64 1, .int .i64 1, .int .i64 0, .int .i64 2, .int .i64 0, .int .i64 5, .int .i64 3, .int .i64 2, .int .i64 0, .int .i64 3, .int .i64 1, .int .i64 0, .int .i64 4, .int .i64 0, .int .i64 0] rfl (by simp [exDd])
    rw [show exDd.length = 7 from rfl] at this
    simpa using this
  have hp := SPlay_any 3 _ _ exRc exDd _ (hA.alloc (.cells #[.int .i64 0, .int .i64 0, .int .i64 0, .int .i64 1, .int .i64 0, .int .i64 0, .int .i64 1, .int .i64 1, .int .i64 0, .int .i64 2, .int .i64 0, .int .i64 5, .int .i64 3, .int .i64 2, .int .i64 0, .int .i64 3, .int .i64 1, .int .i64 0, .int .i64 4, .int .i64 0, .int .i64 0] 49)) hB
  rw [exF] at hp
  have HP := hide hp
  have HW := hide (below_alloc2 w (.cells #[.string ⟨#[97]⟩] 9) (.cells #[.int .i64 0, .int .i64 0, .int .i64 0, .int .i64 1, .int .i64 0, .int .i64 0, .int .i64 1, .int .i64 1, .int .i64 0, .int .i64 2, .int .i64 0, .int .i64 5, .int .i64 3, .int .i64 2, .int .i64 0, .int .i64 3, .int .i64 1, .int .i64 0, .int .i64 4, .int .i64 0, .int .i64 0] 49))
  clear hp hA hB
  go_enter Try.func5, Try.ntmps5
  go_wp2_with fail
  refine HP.out.mono ?_
  rintro e w1 ⟨vt, rfl, hb1, hvm⟩
  obtain ⟨lab, B, s, hm, rfl⟩ := hvm (by rw [exF])
  have HB1 := hide (HW.out.trans (hb1.mono HW.out.size))
  have hcn := CopM.len hm.cop
  have hwn := Row.len hm.wro
  have hhn := HlM.len hm.hea
  have hls := hm.tok.lens
  rw [exC] at hcn
  rw [exW] at hwn
  rw [exH] at hhn
  rw [exT] at hls
  obtain ⟨a, ha⟩ : ∃ a, (playVT 3 exRc exDd).heals[0]? = some a := ⟨_, List.getElem?_eq_getElem (by rw [exH]; decide)⟩
  have hae := exA
  rw [ha] at hae
  simp only [Option.map_some, Option.some.injEq, Prod.mk.injEq] at hae
  obtain ⟨g, hcap, hf, hgv, hgl, hlg, hat, his, _⟩ := hm.hea.here ha
  rw [exH] at hgv
  have c3 := hat 3 _ rfl
  have c4 := hat 4 _ rfl
  rw [his.2.1, hae.1] at c3
  have hrr := his.2.2.2.2.1
  rw [hae.2] at hrr
  have hrn := Rd0.len hrr
  have c4' : w1.cell? ⟨g, 4, none⟩ = some (.slice hf.re.ao 1 hf.re.c) := by
    have := c4
    rw [Nat.zero_mul, Nat.zero_add] at this
    rw [this]
    unfold Sl.v
    rw [hrn]
    rfl
  have hrg : RdG txE w1 (.slice hf.re.ao 1 hf.re.c) exRc := by
    have := hrr.1
    unfold Sl.v at this
    rw [hrn] at this
    exact this
  have hcv : s.cv.v = .slice s.cv.ao 3 s.cv.c := by unfold Sl.v; rw [hcn]
  have hwv : s.wv.v = .slice s.wv.ao 1 s.wv.c := by unfold Sl.v; rw [hwn]
  rw [hcv, hwv, hgv]
  have HLS := hide hls
  have HRG := hide hrg
  have HC3 := hide (show w1.cell? ⟨g, 3, none⟩ = some (.bool true) by rw [Nat.zero_mul, Nat.zero_add] at c3; exact c3)
  have HC4 := hide c4'
  obtain ⟨tko, tkc, htv, _, _⟩ := hls.shape
  rw [htv] at HLS
  rw [htv]
  clear hm hls hat his c3 c4 c4' hrr hrg hgv hcv hwv htv ha hae hb1 hvm hcn hwn hhn hrn
  have hA1 := below_alloc2 w1 (.cells #[.slice s.cv.ao 3 s.cv.c, .slice s.wv.ao 1 s.wv.c, .slice tko 1 tkc, .slice (some ⟨g, 0, none⟩) 1 hcap] 45) (.cells #[.int .i64 0, .int .i64 0] 29)
  have hT1 := Blk.at0of2 w1 (.cells #[.int .i64 0, .int .i64 0] 29) 45 #[.slice s.cv.ao 3 s.cv.c, .slice s.wv.ao 1 s.wv.c, .slice tko 1 tkc, .slice (some ⟨g, 0, none⟩) 1 hcap]
  have hT2 := Blk.at1 w1 (.cells #[.slice s.cv.ao 3 s.cv.c, .slice s.wv.ao 1 s.wv.c, .slice tko 1 tkc, .slice (some ⟨g, 0, none⟩) 1 hcap] 45) 29 #[.int .i64 0, .int .i64 0]
  have hls2 : RdLs ((w1.alloc (.cells #[.slice s.cv.ao 3 s.cv.c, .slice s.wv.ao 1 s.wv.c, .slice tko 1 tkc, .slice (some ⟨g, 0, none⟩) 1 hcap] 45)).alloc (.cells #[.int .i64 0, .int .i64 0] 29)) (.slice tko 1 tkc) [2] := by
    obtain ⟨us, h1, h2, h3⟩ := HLS.out
    exact ⟨us, h1.below hA1, h2, h3⟩
  have hsu := Sure_any s.cv.ao s.wv.ao 3 s.cv.c 1 s.wv.c (.slice tko 1 tkc) (.slice (some ⟨g, 0, none⟩) 1 hcap) [2] _ hls2 (by decide)
  rw [show (if 1 = [2].length then ((sureN 3 [2] 0 : Nat) : Int) else 0) = 1 by decide, show (if 1 = [2].length then ((0, 0) : Int × Int) else (5, 0)) = (0, 0) by decide] at hsu
  have HSU := hide hsu
  have HT1 := hide hT1
  have HT2 := hide hT2
  have HA1 := hide hA1
  clear hA1 hT1 hT2 hls2 hsu HLS
  unfold flt at HSU
  unfold flt
  go_wp2_with fail
  refine HSU.out.mono ?_
  rintro e w2 ⟨rfl, hb2⟩
  have hbw2 := HA1.out.trans (hb2.mono HA1.out.size)
  have HT1b := hide (HT1.out.later hb2)
  have HT2b := hide (HT2.out.later hb2)
  have p3 := HT1b.out.cell 3
  have pl := HT1b.out.lt
  have q0 := HT2b.out.cell 0
  have ql := HT2b.out.lt
  simp at p3 q0
  have u3 := cell_belowG HC3.out hbw2
  have u4 := cell_belowG HC4.out hbw2
  have ugl := Nat.lt_of_lt_of_le hgl hbw2.size
  have hW3 : Below w2.heap.size w2 ((w2.alloc (.cells #[.int .i64 0, .int .i64 0] 29)).alloc (.cells #[.string ⟨#[97]⟩] 9)) := below_alloc2 _ _ _
  have hO : RdG txE ((w2.alloc (.cells #[.int .i64 0, .int .i64 0] 29)).alloc (.cells #[.string ⟨#[97]⟩] 9)) (.slice (some ⟨w2.heap.size + 1, 0, none⟩) 1 1) exRc := by
    have := RdG.newL (E := txE) (w2.alloc (.cells #[.int .i64 0, .int .i64 0] 29)) exRc 9 #[.string ⟨#[97]⟩] rfl (by simp [exRc])
    rw [show exRc.length = 1 from rfl] at this
    simpa using this
  have HSM := hide (SameTexts_eq _ _ exRc _ ((HRG.out.below hbw2).below hW3) hO)
  have HBW := hide ((HB1.out.trans (hbw2.mono HB1.out.size)).trans (hW3.mono (HB1.out.trans (hbw2.mono HB1.out.size)).size))
  clear hO hW3 hbw2 hb2
  go_wp2_with fail
  refine HSM.out.mono ?_
  rintro e w4 ⟨rfl, hb4⟩
  have HB4 := hide (HBW.out.trans (hb4.mono HBW.out.size))
  clear hb4
  go_wp2_with fail
  go_ret
  exact ⟨rfl, HB4.out⟩

end Go.Proofs.Ytopnjklloleomaa

/-
  'return x, v, y' of whole variables that lie in blocks, as a region that draws its order: two laws, one for a v that is given and one for a slice of one structure. Nothing of a program stands here.
-/
namespace Go.Proofs.Ytopnjklloleomaa
open Go.RowKit Go.Maps

/-- A place that a row has: said so that the kernel need not reckon the row's length. -/
theorem of_drop {α : Type} {xs : Array α} {d : Nat} (h : (xs.toList.drop d).isEmpty = false) : d < xs.size := by
  by_cases q : d < xs.size
  · exact q
  · rw [List.drop_eq_nil_of_le (by simpa using q)] at h
    simp at h

def isAgg : TypeDesc → Bool
  | .struct _ => true
  | .array _ _ => true
  | _ => false

section
variable {P : Program} {ops : Array Oper} {Q : Exit → Act → World → Prop}

theorem exec_load_bk {w : World} {o : Oper} {a : Act} {x : Operand} {B : Nat} {t ty : TypeId} {xs : Array Value} {d : TypeDesc} (hB : Blk w B t xs) (hu : P.underlying ty = some d) (hd : isAgg d = true) (hi : (P.info? ty).map (·.size) = some xs.size) (ho : o.op = .load ty x) (hx : a.eval x = .pointer (some ⟨B, 0, none⟩)) :
    (execOp a.eval o).run P w = .ok (.value (.agg xs)) w := by
  unfold execOp
  simp only [ho, hx, run_loadAt_blk hB hu (by cases d <;> first | rfl | exact hd) hi, Sem.run_bind, Sem.run_pure, Result.andThen_ok]

theorem step_assign {w : World} {o : Oper} {a : Act} {K : Act → World → Prop} {EE : Prop} {x : Operand}
    (hgd : o.guard = none) (ho : o.op = .assign x) (h : K (a.put o.dst (a.eval x)) w) : if Region.wanted o (yielded ops a.tmps) = true then Oper.wp P o a w K Q else EE := by
  have hw : Region.wanted o (yielded ops a.tmps) = true := by simp [Region.wanted, hgd]
  rw [if_pos hw]
  unfold Oper.wp execOp
  simp only [ho, Sem.run_pure]
  exact h

theorem step_build1 {w : World} {o : Oper} {a : Act} {K : Act → World → Prop} {EE : Prop} {t e : TypeId} {x : Operand} {xs : Array Value} {ie : TypeInfo} {z : Value}
    (hgd : o.guard = none) (ho : o.op = .buildSlice t 1 #[(0, x)]) (hx : a.eval x = .agg xs) (hu : P.underlying t = some (.slice e)) (hie : P.info? e = some ie) (hz : ie.zero = some z) (hsmall : ¬ 1 * ie.size > 2 ^ 24) (hpos : ¬ 1 * ie.size = 0)
    (hf : Instr.fill (fun i => some (i * ie.size, ie.size)) ((Array.range (1 * ie.size)).map (z.cells[· % z.cells.size]!)) [(0, .agg xs)] = some xs)
    (h : K (a.put o.dst (.slice (some ⟨w.heap.size, 0, none⟩) 1 1)) (w.alloc (.cells xs e))) : if Region.wanted o (yielded ops a.tmps) = true then Oper.wp P o a w K Q else EE := by
  have hw : Region.wanted o (yielded ops a.tmps) = true := by simp [Region.wanted, hgd]
  rw [if_pos hw]
  exact wp_buildSlice t e 1 #[(0, x)] ho xs ie z hu hie hz hsmall hpos (by simpa [hx] using hf) h

theorem put_other {a : Act} {d t : Tmp} {v : Value} (h : t ≠ d) : (a.put (some d) v).eval (.tmp t) = a.eval (.tmp t) := by
  simp [Act.eval, Act.put, Ne.symm h]

theorem put_self {a : Act} {d : Tmp} {v : Value} (h : d < a.tmps.size) : (a.put (some d) v).eval (.tmp d) = v := by
  simp [Act.eval, Act.put, h]

theorem put_size {a : Act} {d : Option Tmp} {v : Value} : (a.put d v).tmps.size = a.tmps.size := by cases d <;> simp [Act.put]

/-- What a return leaves of a frame: but for some slots it is as it was. -/
structure KeptBut (a a9 : Act) (ds : List Tmp) : Prop where
  tmps : ∀ t, ds.all (fun d => !Nat.beq t d) = true → a9.tmps[t]?.getD undef = a.tmps[t]?.getD undef
  defers : a9.defers = a.defers

theorem eval_tmp (a : Act) (t : Tmp) : a.eval (.tmp t) = a.tmps[t]?.getD undef := by simp [Act.eval, Array.getD_eq_getD_getElem?]

theorem KeptBut.refl (a : Act) (ds : List Tmp) : KeptBut a a ds := ⟨fun _ _ => rfl, rfl⟩

theorem KeptBut.put {a a9 : Act} {ds : List Tmp} {d : Tmp} {v : Value} (h : KeptBut a a9 ds) (hd : d ∈ ds) : KeptBut a (a9.put (some d) v) ds := by
  refine ⟨fun t ht => ?_, h.defers⟩
  rw [← h.tmps t ht]
  have hne : d ≠ t := by
    intro q
    have := List.all_eq_true.1 ht d hd
    rw [q] at this
    simp at this
  simp [Act.put, hne]

/-- 'return x, v, y'. -/
theorem wp_ret5 {id : Nat} {a : Act} {w : World} {o0 o1 o2 o3 o4 : Oper} {tN tF : TypeId} {x0 x1 x2 x3 x4 y2 y4 : Operand} {B F R C : Nat} {tB tG tR tC : TypeId} {ys fs r0 c0 : Array Value} {dN dF : TypeDesc} {v3 : Value}
    (hB : Blk w B tB ys) (hF : Blk w F tG fs) (hR : Blk w R tR r0) (hC : Blk w C tC c0) (hRB : R ≠ B) (hRF : R ≠ F) (hRC : R ≠ C) (hCB : C ≠ B) (hCF : C ≠ F)
    (hm : P.follows .mixedOrders = true) (hns : Region.noSelect ops = true) (hops : ops.toList = [o0, o1, o2, o3, o4])
    (hf0 : Region.free .any ops #[false, false, false, false, false] 0 = true) (hr0 : (Region.ready .any ops #[false, false, false, false, false]).contains 0 = true)
    (hf1 : Region.free .any ops #[true, false, false, false, false] 1 = true) (hr1 : (Region.ready .any ops #[true, false, false, false, false]).contains 1 = true)
    (hr2 : Region.ready .any ops #[true, true, false, false, false] = [2]) (hr3 : Region.ready .any ops #[true, true, true, false, false] = [3]) (hr4 : Region.ready .any ops #[true, true, true, true, false] = [4]) (hr5 : Region.ready .any ops #[true, true, true, true, true] = [])
    (hg : (o0.guard = none ∧ o1.guard = none) ∧ o2.guard = none ∧ o3.guard = none ∧ o4.guard = none)
    (ho : (o0.op = .load tN x0 ∧ o1.op = .load tF x1) ∧ o2.op = .store tN x2 y2 ∧ o3.op = .assign x3 ∧ o4.op = .store tF x4 y4)
    (hpn : ∀ c a w v, Q (.panic c) (a.put o0.dst v) w → Q (.panic c) a w) (hpn1 : ∀ c a w v, Q (.panic c) (a.put o1.dst v) w → Q (.panic c) a w)
    (h0 : a.eval x0 = .pointer (some ⟨B, 0, none⟩)) (h1 : (a.put o0.dst (.agg ys)).eval x1 = .pointer (some ⟨F, 0, none⟩))
    (h2 : ((a.put o0.dst (.agg ys)).put o1.dst (.agg fs)).eval x2 = .pointer (some ⟨R, 0, none⟩)) (h2' : ((a.put o0.dst (.agg ys)).put o1.dst (.agg fs)).eval y2 = .agg ys)
    (hd2 : o2.dst = none) (h3 : ((a.put o0.dst (.agg ys)).put o1.dst (.agg fs)).eval x3 = v3)
    (h4 : (((a.put o0.dst (.agg ys)).put o1.dst (.agg fs)).put o3.dst v3).eval x4 = .pointer (some ⟨C, 0, none⟩)) (h4' : (((a.put o0.dst (.agg ys)).put o1.dst (.agg fs)).put o3.dst v3).eval y4 = .agg fs) (hd4 : o4.dst = none)
    (huN : P.underlying tN = some dN) (hdN : isAgg dN = true) (hiN : (P.info? tN).map (·.size) = some ys.size)
    (huF : P.underlying tF = some dF) (hdF : isAgg dF = true) (hiF : (P.info? tF).map (·.size) = some fs.size)
    (hz2 : r0.size = ys.size) (hc2 : ys.toList.all (·.oneCell') = true) (hz4 : c0.size = fs.size) (hc4 : fs.toList.all (·.oneCell') = true)
    (h : ∀ wm w9, w.grownBy wm (some R) → wm.grownBy w9 (some C) → Blk w9 R tR ys → Blk w9 C tC fs → Q .normal (((a.put o0.dst (.agg ys)).put o1.dst (.agg fs)).put o3.dst v3) w9) : (Code.region id ops true).wp P Q a w := by
  obtain ⟨⟨g0, g1⟩, g2, g3, g4⟩ := hg
  obtain ⟨⟨p0, p1⟩, p2, p3, p4⟩ := ho
  have hD : Below w.heap.size w w.drew := Below.drew (Below.refl _ _)
  have hsz : ops.size = 5 := by rw [← Array.length_toList, hops]; rfl
  refine wp_region_heldD (S := fun W => Blk W B tB ys ∧ Blk W F tG fs) (n := 5) (l := #[false, false, false, false, false]) hm hsz rfl hns ⟨hB.later hD, hF.later hD⟩ (fun _ hS => ?_)
  have hw0 : ∀ a' : Act, Region.wanted o0 (yielded ops a'.tmps) = true := fun a' => by simp [Region.wanted, g0]
  have hw1 : ∀ a' : Act, Region.wanted o1 (yielded ops a'.tmps) = true := fun a' => by simp [Region.wanted, g1]
  refine wpAnyH_takeD (l' := #[true, false, false, false, false]) (i := 0) (oi := o0) (v := .agg ys) (fuel := 4) (by rw [hops]; rfl) hns hf0 hr0 rfl (fun c a w => hpn c a w _) (hw0 _) (fun W hW => exec_load_bk hW.1 huN hdN hiN p0 h0) hS ?_
  refine wpAnyH_takeD (l' := #[true, true, false, false, false]) (i := 1) (oi := o1) (v := .agg fs) (fuel := 3) (by rw [hops]; rfl) hns hf1 hr1 rfl (fun c a w => hpn1 c a w _) (hw1 _) (fun W hW => exec_load_bk hW.2 huF hdF hiF p1 h1) hS ?_
  refine wpAnyH_oneD (l' := #[true, true, true, false, false]) (i := 2) (o := o2) (fuel := 2) (by rw [hops]; rfl) hr2 rfl (fun K2 hK2 => ?_)
  refine step_store_blk g2 p2 h2 h2' (hR.later hD) hz2 hiN hc2 ?_
  intro w2 hR2 hg2
  have hS2 : Blk w2 B tB ys ∧ Blk w2 F tG fs := ⟨hS.1.grown hg2 (by simp; omega), hS.2.grown hg2 (by simp; omega)⟩
  refine hK2.out _ _ hS2 (fun _ => ?_)
  rw [hd2]
  refine wpAnyH_oneD (l' := #[true, true, true, true, false]) (i := 3) (o := o3) (fuel := 1) (by rw [hops]; rfl) hr3 rfl (fun K3 hK3 => ?_)
  refine step_assign g3 p3 ?_
  refine hK3.out _ _ hS2 (fun _ => ?_)
  refine wpAnyH_oneD (l' := #[true, true, true, true, true]) (i := 4) (o := o4) (fuel := 0) (by rw [hops]; rfl) hr4 rfl (fun K4 hK4 => ?_)
  refine step_store_blk g4 p4 (by rw [show (((a.put o0.dst (.agg ys)).put o1.dst (.agg fs)).put none undef).eval x3 = v3 from h3]; exact h4) (by rw [show (((a.put o0.dst (.agg ys)).put o1.dst (.agg fs)).put none undef).eval x3 = v3 from h3]; exact h4') (((hC.later hD).grown hg2 (by simp; omega))) hz4 hiF hc4 ?_
  intro w4 hC4 hg4
  have gw2 := grown_via hD hg2
  have hS4 : Blk w4 B tB ys ∧ Blk w4 F tG fs := ⟨hS2.1.grown hg4 (by simp; omega), hS2.2.grown hg4 (by simp; omega)⟩
  refine hK4.out _ _ hS4 (fun _ => ?_)
  rw [hd4]
  refine wpAnyH_done hr5 ?_ _
  rw [show (((a.put o0.dst (.agg ys)).put o1.dst (.agg fs)).put none undef).eval x3 = v3 from h3]
  exact h w2 w4 gw2 hg4 (hR2.grown hg4 (by simp; omega)) hC4

theorem foldl_setG : ∀ (l : List Value) (s : Nat) (cs : Array Value), s + l.length ≤ cs.size → ((l.zipIdx s).foldl (fun cs p => cs.setIfInBounds p.2 p.1) cs).toList = cs.toList.take s ++ l ++ cs.toList.drop (s + l.length)
  | [], s, cs, h => by simp
  | a :: l, s, cs, h => by
    have hl : s < cs.size := by simp at h; omega
    rw [List.zipIdx_cons, List.foldl_cons, foldl_setG l (s + 1) (cs.setIfInBounds s a) (by simp at h ⊢; omega)]
    simp only [Array.toList_setIfInBounds, List.length_cons]
    have e1 : (cs.toList.set s a).take (s + 1) = cs.toList.take s ++ [a] := by
      rw [List.take_set, List.take_succ_eq_append_getElem (by simpa using hl), List.set_append_right _ _ (by simp; omega)]
      simp [Nat.min_eq_left (Nat.le_of_lt hl)]
    have e2 : (cs.toList.set s a).drop (s + 1 + l.length) = cs.toList.drop (s + (l.length + 1)) := by
      rw [List.drop_set_of_lt (by omega)]
      congr 1
      omega
    rw [e1, e2]
    simp

/-- A slice literal of one structure that is given whole. -/
theorem fill_one {ms cs : Array Value} {n : Nat} (h1 : ms.size = n) (h2 : cs.size = n) : Instr.fill (fun i => some (i * n, n)) cs [(0, .agg ms)] = some ms := by
  have h3 := foldl_setG ms.toList 0 cs (by simp; omega)
  have h4 : (ms.toList.zipIdx 0).foldl (fun cs p => cs.setIfInBounds p.2 p.1) cs = ms := by
    apply Array.toList_inj.1
    rw [h3]
    have : cs.toList.drop (0 + ms.toList.length) = [] := List.drop_eq_nil_of_le (by simp; omega)
    rw [this]
    simp
  have hc : (Value.agg ms).cells = ms := rfl
  unfold Instr.fill
  simp only [Nat.zero_mul, hc, Nat.zero_add]
  rw [if_neg (by simp; omega)]
  unfold Instr.fill
  rw [← Array.foldl_toList, Array.toList_zipIdx]
  exact congrArg some h4

/-- 'return x, []T{b}, y'. -/
theorem wp_ret7 {id : Nat} {a : Act} {w : World} {o0 o1 o2 o3 o4 o5 o6 : Oper} {tN tM tF tL eM : TypeId} {x0 x1 xb x3 : Operand} {i4 j4 i6 j6 d0 d1 d2 d3 d5 : Tmp} {B M F R C : Nat} {tB tMm tG tR tC : TypeId} {ys ms fs r0 c0 : Array Value} {dN dM dF : TypeDesc} {z : Value} {n : Nat}
    (hB : Blk w B tB ys) (hM : Blk w M tMm ms) (hF : Blk w F tG fs) (hR : Blk w R tR r0) (hC : Blk w C tC c0) (hRB : R ≠ B) (hRM : R ≠ M) (hRF : R ≠ F) (hRC : R ≠ C) (hCB : C ≠ B) (hCM : C ≠ M) (hCF : C ≠ F)
    (hm : P.follows .mixedOrders = true) (hns : Region.noSelect ops = true) (hops : ops.toList = [o0, o1, o2, o3, o4, o5, o6])
    (hfr : Region.free .any ops #[false, false, false, false, false, false, false] 0 = true ∧ Region.free .any ops #[true, false, false, false, false, false, false] 1 = true ∧ Region.free .any ops #[true, true, false, false, false, false, false] 3 = true)
    (hcn : (Region.ready .any ops #[false, false, false, false, false, false, false]).contains 0 = true ∧ (Region.ready .any ops #[true, false, false, false, false, false, false]).contains 1 = true ∧ (Region.ready .any ops #[true, true, false, false, false, false, false]).contains 3 = true)
    (hr3 : Region.ready .any ops #[true, true, false, true, false, false, false] = [2, 4]) (hr4a : Region.ready .any ops #[true, true, true, true, false, false, false] = [4]) (hr4b : Region.ready .any ops #[true, true, false, true, true, false, false] = [2]) (hr5 : Region.ready .any ops #[true, true, true, true, true, false, false] = [5]) (hr6 : Region.ready .any ops #[true, true, true, true, true, true, false] = [6]) (hr7 : Region.ready .any ops #[true, true, true, true, true, true, true] = [])
    (hg : (o0.guard = none ∧ o1.guard = none ∧ o3.guard = none) ∧ o2.guard = none ∧ o4.guard = none ∧ o5.guard = none ∧ o6.guard = none)
    (ho : (o0.op = .load tN x0 ∧ o1.op = .load tM x1 ∧ o3.op = .load tF x3) ∧ o2.op = .buildSlice tL 1 #[(0, xb)] ∧ o4.op = .store tN (.tmp i4) (.tmp j4) ∧ o5.op = .assign (.tmp d2) ∧ o6.op = .store tF (.tmp i6) (.tmp j6))
    (hpn0 : ∀ c a w v, Q (.panic c) (a.put o0.dst v) w → Q (.panic c) a w) (hpn1 : ∀ c a w v, Q (.panic c) (a.put o1.dst v) w → Q (.panic c) a w) (hpn3 : ∀ c a w v, Q (.panic c) (a.put o3.dst v) w → Q (.panic c) a w)
    (h0 : a.eval x0 = .pointer (some ⟨B, 0, none⟩)) (h1 : (a.put o0.dst (.agg ys)).eval x1 = .pointer (some ⟨M, 0, none⟩))
    (h3 : ((a.put o0.dst (.agg ys)).put o1.dst (.agg ms)).eval x3 = .pointer (some ⟨F, 0, none⟩))
    (hb : (((a.put o0.dst (.agg ys)).put o1.dst (.agg ms)).put o3.dst (.agg fs)).eval xb = .agg ms)
    (h4 : (((a.put o0.dst (.agg ys)).put o1.dst (.agg ms)).put o3.dst (.agg fs)).eval (.tmp i4) = .pointer (some ⟨R, 0, none⟩)) (h4' : (((a.put o0.dst (.agg ys)).put o1.dst (.agg ms)).put o3.dst (.agg fs)).eval (.tmp j4) = .agg ys)
    (h6 : (((a.put o0.dst (.agg ys)).put o1.dst (.agg ms)).put o3.dst (.agg fs)).eval (.tmp i6) = .pointer (some ⟨C, 0, none⟩)) (h6' : (((a.put o0.dst (.agg ys)).put o1.dst (.agg ms)).put o3.dst (.agg fs)).eval (.tmp j6) = .agg fs)
    (hdd : (o2.dst = some d2 ∧ o5.dst = some d5) ∧ (i4 ≠ d2 ∧ j4 ≠ d2) ∧ (i6 ≠ d2 ∧ j6 ≠ d2) ∧ (i6 ≠ d5 ∧ j6 ≠ d5)) (hds : (a.tmps.toList.drop d2).isEmpty = false)
    (hd4 : o4.dst = none) (hd6 : o6.dst = none)
    (huN : P.underlying tN = some dN) (hdN : isAgg dN = true) (hiN : (P.info? tN).map (·.size) = some ys.size)
    (huM : P.underlying tM = some dM) (hdM : isAgg dM = true) (hiM : (P.info? tM).map (·.size) = some ms.size)
    (huF : P.underlying tF = some dF) (hdF : isAgg dF = true) (hiF : (P.info? tF).map (·.size) = some fs.size)
    (hu : P.underlying tL = some (.slice eM)) (hinf : (P.info? eM).map (fun i => (i.zero, i.size)) = some (some z, n)) (hsmall : ¬ 1 * n > 2 ^ 24) (hpos : ¬ 1 * n = 0)
    (hms : ms.size = n)
    (hz2 : r0.size = ys.size) (hc2 : ys.toList.all (·.oneCell') = true) (hz4 : c0.size = fs.size) (hc4 : fs.toList.all (·.oneCell') = true)
    (hde : o0.dst = some d0 ∧ o1.dst = some d1 ∧ o3.dst = some d3) (hds5 : (a.tmps.toList.drop d5).isEmpty = false)
    (h : ∀ k wm w9 a9, KeptBut a a9 [d0, d1, d3, d2, d5] → a9.tmps[d5]?.getD undef = .slice (some ⟨k, 0, none⟩) 1 1 → w.grownBy wm (some R) → wm.grownBy w9 (some C) → Blk w9 R tR ys → Blk w9 C tC fs → w.heap.size ≤ k → Blk w9 k eM ms → Q .normal a9 w9) : (Code.region id ops true).wp P Q a w := by
  obtain ⟨⟨g0, g1, g3⟩, g2, g4, g5, g6⟩ := hg
  obtain ⟨⟨p0, p1, p3⟩, p2, p4, p5, p6⟩ := ho
  obtain ⟨hf0, hf1, hf3⟩ := hfr
  obtain ⟨⟨e2, e5⟩, ⟨n4, n4'⟩, ⟨n6, n6'⟩, n6a, n6b⟩ := hdd
  have hf : Instr.fill (fun i => some (i * n, n)) ((Array.range (1 * n)).map (z.cells[· % z.cells.size]!)) [(0, .agg ms)] = some ms := fill_one hms (by simp)
  obtain ⟨ie, hie, hz, rfl⟩ : ∃ ie, P.info? eM = some ie ∧ ie.zero = some z ∧ ie.size = n := by
    cases hq : P.info? eM with
    | none => rw [hq] at hinf; simp at hinf
    | some ie => rw [hq] at hinf; simp at hinf; exact ⟨ie, rfl, hinf.1, hinf.2⟩
  obtain ⟨hn0, hn1, hn3⟩ := hcn
  have hD : Below w.heap.size w w.drew := Below.drew (Below.refl _ _)
  have hsz : ops.size = 7 := by rw [← Array.length_toList, hops]; rfl
  refine wp_region_heldD (S := fun W => Blk W B tB ys ∧ Blk W M tMm ms ∧ Blk W F tG fs) (n := 7) (l := #[false, false, false, false, false, false, false]) hm hsz rfl hns ⟨hB.later hD, hM.later hD, hF.later hD⟩ (fun _ hS => ?_)
  have hw0 : ∀ a' : Act, Region.wanted o0 (yielded ops a'.tmps) = true := fun a' => by simp [Region.wanted, g0]
  have hw1 : ∀ a' : Act, Region.wanted o1 (yielded ops a'.tmps) = true := fun a' => by simp [Region.wanted, g1]
  have hw3 : ∀ a' : Act, Region.wanted o3 (yielded ops a'.tmps) = true := fun a' => by simp [Region.wanted, g3]
  refine wpAnyH_takeD (l' := #[true, false, false, false, false, false, false]) (i := 0) (oi := o0) (v := .agg ys) (fuel := 6) (by rw [hops]; rfl) hns hf0 hn0 rfl (fun c a w => hpn0 c a w _) (hw0 _) (fun W hW => exec_load_bk hW.1 huN hdN hiN p0 h0) hS ?_
  refine wpAnyH_takeD (l' := #[true, true, false, false, false, false, false]) (i := 1) (oi := o1) (v := .agg ms) (fuel := 5) (by rw [hops]; rfl) hns hf1 hn1 rfl (fun c a w => hpn1 c a w _) (hw1 _) (fun W hW => exec_load_bk hW.2.1 huM hdM hiM p1 h1) hS ?_
  refine wpAnyH_takeD (l' := #[true, true, false, true, false, false, false]) (i := 3) (oi := o3) (v := .agg fs) (fuel := 4) (by rw [hops]; rfl) hns hf3 hn3 rfl (fun c a w => hpn3 c a w _) (hw3 _) (fun W hW => exec_load_bk hW.2.2 huF hdF hiF p3 h3) hS ?_
  have hds := of_drop hds
  have hds5 := of_drop hds5
  obtain ⟨q0, q1, q3⟩ := hde
  have hkb : KeptBut a (((a.put o0.dst (.agg ys)).put o1.dst (.agg ms)).put o3.dst (.agg fs)) [d0, d1, d3, d2, d5] := by
    rw [q0, q1, q3]
    exact (((KeptBut.refl a _).put (by simp)).put (by simp)).put (by simp)
  have hsA : (((a.put o0.dst (.agg ys)).put o1.dst (.agg ms)).put o3.dst (.agg fs)).tmps.size = a.tmps.size := by rw [q0, q1, q3]; simp [Act.put]
  generalize ((a.put o0.dst (.agg ys)).put o1.dst (.agg ms)).put o3.dst (.agg fs) = A at *
  have hRD := hR.later hD
  have hCD := hC.later hD
  have hzD : w.heap.size ≤ w.drew.heap.size := hD.size
  generalize w.drew = W at *
  -- behind both: the assign and the last store
  have tail : ∀ (k : Nat) (w2 : World), w.grownBy w2 (some R) → Blk w2 R tR ys → w.heap.size ≤ k → Blk w2 k eM ms → wpAnyH P .any ops Q (fun W => Blk W B tB ys ∧ Blk W M tMm ms ∧ Blk W F tG fs) 2 #[true, true, true, true, true, false, false] (A.put o2.dst (.slice (some ⟨k, 0, none⟩) 1 1)) w2 := by
    intro k w2 hg2 hR2 hk hK2
    have hS2 : Blk w2 B tB ys ∧ Blk w2 M tMm ms ∧ Blk w2 F tG fs := ⟨hB.grown hg2 (by simp; omega), hM.grown hg2 (by simp; omega), hF.grown hg2 (by simp; omega)⟩
    have hC2 := hC.grown hg2 (by simp; omega)
    have hcl := hC.lt
    refine wpAnyH_oneD (l' := #[true, true, true, true, true, true, false]) (i := 5) (o := o5) (fuel := 1) (by rw [hops]; rfl) hr5 rfl (fun K3 hK3 => ?_)
    refine step_assign g5 p5 ?_
    refine hK3.out _ _ hS2 (fun _ => ?_)
    rw [e2, put_self (by rw [hsA]; exact hds)]
    refine wpAnyH_oneD (l' := #[true, true, true, true, true, true, true]) (i := 6) (o := o6) (fuel := 0) (by rw [hops]; rfl) hr6 rfl (fun K4 hK4 => ?_)
    refine step_store_blk g6 p6 (by rw [e5, put_other n6a, put_other n6]; exact h6) (by rw [e5, put_other n6b, put_other n6']; exact h6') hC2 hz4 hiF hc4 ?_
    intro w4 hC4 hg4
    have hS4 : Blk w4 B tB ys ∧ Blk w4 M tMm ms ∧ Blk w4 F tG fs := ⟨hS2.1.grown hg4 (by simp; omega), hS2.2.1.grown hg4 (by simp; omega), hS2.2.2.grown hg4 (by simp; omega)⟩
    refine hK4.out _ _ hS4 (fun _ => ?_)
    rw [hd6]
    rw [← e2]
    exact wpAnyH_done hr7 (h k w2 w4 _ (by rw [e2, e5]; exact (hkb.put (by simp)).put (by simp)) (by rw [e2, e5, ← eval_tmp]; exact put_self (by simp only [put_size]; rw [hsA]; exact hds5)) hg2 hg4 (hR2.grown hg4 (by simp; omega)) hC4 hk (hK2.grown hg4 (by simp; omega))) _
  have hrl := hR.lt
  refine wpAnyH_ready hr3 (by simp) (AllReadyH.cons (at_of_drop (oi := o2) (by rw [hops]; rfl)) (fun K1 hK1 => ?_) (AllReadyH.cons (at_of_drop (oi := o4) (by rw [hops]; rfl)) (fun K1 hK1 => ?_) AllReadyH.nil))
  · refine step_build1 g2 p2 hb hu hie hz hsmall hpos hf ?_
    have hN := below_allocG W (.cells ms eM)
    refine hK1.out _ _ ⟨hS.1.later hN, hS.2.1.later hN, hS.2.2.later hN⟩ (fun hS1 => ?_)
    rw [show (#[true, true, false, true, false, false, false] : Array Bool).setIfInBounds 2 true = #[true, true, true, true, false, false, false] from rfl]
    refine wpAnyH_oneD (l' := #[true, true, true, true, true, false, false]) (i := 4) (o := o4) (fuel := 2) (by rw [hops]; rfl) hr4a rfl (fun K2 hK2 => ?_)
    refine step_store_blk g4 p4 (by rw [e2, put_other n4]; exact h4) (by rw [e2, put_other n4']; exact h4') (hRD.later hN) hz2 hiN hc2 ?_
    intro w2 hR2 hg2
    have gw := grown_via (hD.trans (hN.mono hzD)) hg2
    refine hK2.out _ _ ⟨hS1.1.grown hg2 (by simp; omega), hS1.2.1.grown hg2 (by simp; omega), hS1.2.2.grown hg2 (by simp; omega)⟩ (fun _ => ?_)
    rw [hd4]
    exact tail W.heap.size w2 gw hR2 hzD ((Blk.new W eM ms).grown hg2 (by simp; omega))
  · refine step_store_blk g4 p4 h4 h4' hRD hz2 hiN hc2 ?_
    intro w2 hR2 hg2
    have gw := grown_via hD hg2
    have hS1 : Blk w2 B tB ys ∧ Blk w2 M tMm ms ∧ Blk w2 F tG fs := ⟨hS.1.grown hg2 (by simp; omega), hS.2.1.grown hg2 (by simp; omega), hS.2.2.grown hg2 (by simp; omega)⟩
    refine hK1.out _ _ hS1 (fun _ => ?_)
    rw [hd4, show (#[true, true, false, true, false, false, false] : Array Bool).setIfInBounds 4 true = #[true, true, false, true, true, false, false] from rfl]
    refine wpAnyH_oneD (l' := #[true, true, true, true, true, false, false]) (i := 2) (o := o2) (fuel := 2) (by rw [hops]; rfl) hr4b rfl (fun K2 hK2 => ?_)
    refine step_build1 g2 p2 hb hu hie hz hsmall hpos hf ?_
    have hN := below_allocG w2 (.cells ms eM)
    refine hK2.out _ _ ⟨hS1.1.later hN, hS1.2.1.later hN, hS1.2.2.later hN⟩ (fun _ => ?_)
    exact tail w2.heap.size _ (grown_below gw hN) (hR2.later hN) (by have := gw.size; omega) (Blk.new w2 eM ms)

theorem step_callR {w : World} {o : Oper} {a : Act} {K : Act → World → Prop} {E : Prop} {f : FuncId} {x : Operand} {ats : Array TypeId} {v : Value} {R : Value → World → Prop}
    (hc : Calls P f #[v] w fun e w' => ∃ u, e = .returned u ∧ R u w') (hcf : ∀ args W, (callFunc f args).run P W = .ok (.enter f args) W)
    (hgd : o.guard = none) (ho : o.op = .call { callee := .value (.func f), args := #[x], argTypes := ats }) (hx : a.eval x = v)
    (h : ∀ u w', R u w' → K (a.put o.dst u) w') :
    if Region.wanted o (yielded ops a.tmps) = true then Oper.wp P o a w K Q else E := by
  have hw : Region.wanted o (yielded ops a.tmps) = true := by simp [Region.wanted, hgd]
  rw [if_pos hw]
  have he : execOp a.eval o = callFunc f #[v] := by
    cases o
    simp only at ho
    subst ho
    rw [execOp_call_go]
    simp [hx]
  unfold Oper.wp
  rw [he, hcf, Oper.upon_enter]
  exact hc.mono (by rintro e w' ⟨u, rfl, hr⟩; exact h u w' hr)

/-- 'return x, f(x), y'. -/
theorem wp_ret7c {id : Nat} {a : Act} {w : World} {o0 o1 o2 o3 o4 o5 o6 : Oper} {f : FuncId} {ats : Array TypeId} {tN tF : TypeId} {x0 x1 xb x3 : Operand} {i4 j4 i6 j6 d0 d1 d2 d3 d5 : Tmp} {B F R C : Nat} {tB tG tR tC : TypeId} {ys fs r0 c0 : Array Value} {dN dF : TypeDesc} {Rel : Value → World → Prop}
    (hB : Blk w B tB ys) (hF : Blk w F tG fs) (hR : Blk w R tR r0) (hC : Blk w C tC c0) (hRB : R ≠ B) (hRF : R ≠ F) (hRC : R ≠ C) (hCB : C ≠ B) (hCF : C ≠ F)
    (hcall : Calls P f #[.agg ys] w.drew fun e w' => ∃ u, e = .returned u ∧ Rel u w') (hrel : ∀ u W, Rel u W → Below w.drew.heap.size w.drew W) (hcf : ∀ args W, (callFunc f args).run P W = .ok (.enter f args) W)
    (hm : P.follows .mixedOrders = true) (hns : Region.noSelect ops = true) (hops : ops.toList = [o0, o1, o2, o3, o4, o5, o6])
    (hfr : Region.free .any ops #[false, false, false, false, false, false, false] 0 = true ∧ Region.free .any ops #[true, false, false, false, false, false, false] 1 = true ∧ Region.free .any ops #[true, true, false, false, false, false, false] 3 = true)
    (hcn : (Region.ready .any ops #[false, false, false, false, false, false, false]).contains 0 = true ∧ (Region.ready .any ops #[true, false, false, false, false, false, false]).contains 1 = true ∧ (Region.ready .any ops #[true, true, false, false, false, false, false]).contains 3 = true)
    (hr3 : Region.ready .any ops #[true, true, false, true, false, false, false] = [2]) (hr4 : Region.ready .any ops #[true, true, true, true, false, false, false] = [4]) (hr5 : Region.ready .any ops #[true, true, true, true, true, false, false] = [5]) (hr6 : Region.ready .any ops #[true, true, true, true, true, true, false] = [6]) (hr7 : Region.ready .any ops #[true, true, true, true, true, true, true] = [])
    (hg : (o0.guard = none ∧ o1.guard = none ∧ o3.guard = none) ∧ o2.guard = none ∧ o4.guard = none ∧ o5.guard = none ∧ o6.guard = none)
    (ho : (o0.op = .load tN x0 ∧ o1.op = .load tN x1 ∧ o3.op = .load tF x3) ∧ o2.op = .call { callee := .value (.func f), args := #[xb], argTypes := ats } ∧ o4.op = .store tN (.tmp i4) (.tmp j4) ∧ o5.op = .assign (.tmp d2) ∧ o6.op = .store tF (.tmp i6) (.tmp j6))
    (hpn0 : ∀ c a w v, Q (.panic c) (a.put o0.dst v) w → Q (.panic c) a w) (hpn1 : ∀ c a w v, Q (.panic c) (a.put o1.dst v) w → Q (.panic c) a w) (hpn3 : ∀ c a w v, Q (.panic c) (a.put o3.dst v) w → Q (.panic c) a w)
    (h0 : a.eval x0 = .pointer (some ⟨B, 0, none⟩)) (h1 : (a.put o0.dst (.agg ys)).eval x1 = .pointer (some ⟨B, 0, none⟩))
    (h3 : ((a.put o0.dst (.agg ys)).put o1.dst (.agg ys)).eval x3 = .pointer (some ⟨F, 0, none⟩))
    (hb : (((a.put o0.dst (.agg ys)).put o1.dst (.agg ys)).put o3.dst (.agg fs)).eval xb = .agg ys)
    (h4 : (((a.put o0.dst (.agg ys)).put o1.dst (.agg ys)).put o3.dst (.agg fs)).eval (.tmp i4) = .pointer (some ⟨R, 0, none⟩)) (h4' : (((a.put o0.dst (.agg ys)).put o1.dst (.agg ys)).put o3.dst (.agg fs)).eval (.tmp j4) = .agg ys)
    (h6 : (((a.put o0.dst (.agg ys)).put o1.dst (.agg ys)).put o3.dst (.agg fs)).eval (.tmp i6) = .pointer (some ⟨C, 0, none⟩)) (h6' : (((a.put o0.dst (.agg ys)).put o1.dst (.agg ys)).put o3.dst (.agg fs)).eval (.tmp j6) = .agg fs)
    (hdd : (o2.dst = some d2 ∧ o5.dst = some d5) ∧ (i4 ≠ d2 ∧ j4 ≠ d2) ∧ (i6 ≠ d2 ∧ j6 ≠ d2) ∧ (i6 ≠ d5 ∧ j6 ≠ d5)) (hds : (a.tmps.toList.drop d2).isEmpty = false)
    (hd4 : o4.dst = none) (hd6 : o6.dst = none)
    (huN : P.underlying tN = some dN) (hdN : isAgg dN = true) (hiN : (P.info? tN).map (·.size) = some ys.size)
    (huF : P.underlying tF = some dF) (hdF : isAgg dF = true) (hiF : (P.info? tF).map (·.size) = some fs.size)
    (hz2 : r0.size = ys.size) (hc2 : ys.toList.all (·.oneCell') = true) (hz4 : c0.size = fs.size) (hc4 : fs.toList.all (·.oneCell') = true)
    (hde : o0.dst = some d0 ∧ o1.dst = some d1 ∧ o3.dst = some d3) (hds5 : (a.tmps.toList.drop d5).isEmpty = false)
    (h : ∀ u W wm w9 a9, KeptBut a a9 [d0, d1, d3, d2, d5] → a9.tmps[d5]?.getD undef = u → Rel u W → Below w.heap.size w W → W.grownBy wm (some R) → wm.grownBy w9 (some C) → Blk w9 R tR ys → Blk w9 C tC fs → Q .normal a9 w9) : (Code.region id ops true).wp P Q a w := by
  obtain ⟨⟨g0, g1, g3⟩, g2, g4, g5, g6⟩ := hg
  obtain ⟨⟨p0, p1, p3⟩, p2, p4, p5, p6⟩ := ho
  obtain ⟨hf0, hf1, hf3⟩ := hfr
  obtain ⟨⟨e2, e5⟩, ⟨n4, n4'⟩, ⟨n6, n6'⟩, n6a, n6b⟩ := hdd
  obtain ⟨hn0, hn1, hn3⟩ := hcn
  have hD : Below w.heap.size w w.drew := Below.drew (Below.refl _ _)
  have hsz : ops.size = 7 := by rw [← Array.length_toList, hops]; rfl
  refine wp_region_heldD (S := fun W => Blk W B tB ys ∧ Blk W F tG fs) (n := 7) (l := #[false, false, false, false, false, false, false]) hm hsz rfl hns ⟨hB.later hD, hF.later hD⟩ (fun _ hS => ?_)
  have hw0 : ∀ a' : Act, Region.wanted o0 (yielded ops a'.tmps) = true := fun a' => by simp [Region.wanted, g0]
  have hw1 : ∀ a' : Act, Region.wanted o1 (yielded ops a'.tmps) = true := fun a' => by simp [Region.wanted, g1]
  have hw3 : ∀ a' : Act, Region.wanted o3 (yielded ops a'.tmps) = true := fun a' => by simp [Region.wanted, g3]
  refine wpAnyH_takeD (l' := #[true, false, false, false, false, false, false]) (i := 0) (oi := o0) (v := .agg ys) (fuel := 6) (by rw [hops]; rfl) hns hf0 hn0 rfl (fun c a w => hpn0 c a w _) (hw0 _) (fun W hW => exec_load_bk hW.1 huN hdN hiN p0 h0) hS ?_
  refine wpAnyH_takeD (l' := #[true, true, false, false, false, false, false]) (i := 1) (oi := o1) (v := .agg ys) (fuel := 5) (by rw [hops]; rfl) hns hf1 hn1 rfl (fun c a w => hpn1 c a w _) (hw1 _) (fun W hW => exec_load_bk hW.1 huN hdN hiN p1 h1) hS ?_
  refine wpAnyH_takeD (l' := #[true, true, false, true, false, false, false]) (i := 3) (oi := o3) (v := .agg fs) (fuel := 4) (by rw [hops]; rfl) hns hf3 hn3 rfl (fun c a w => hpn3 c a w _) (hw3 _) (fun W hW => exec_load_bk hW.2 huF hdF hiF p3 h3) hS ?_
  have hds := of_drop hds
  have hds5 := of_drop hds5
  obtain ⟨q0, q1, q3⟩ := hde
  have hkb : KeptBut a (((a.put o0.dst (.agg ys)).put o1.dst (.agg ys)).put o3.dst (.agg fs)) [d0, d1, d3, d2, d5] := by
    rw [q0, q1, q3]
    exact (((KeptBut.refl a _).put (by simp)).put (by simp)).put (by simp)
  have hsA : (((a.put o0.dst (.agg ys)).put o1.dst (.agg ys)).put o3.dst (.agg fs)).tmps.size = a.tmps.size := by rw [q0, q1, q3]; simp [Act.put]
  generalize ((a.put o0.dst (.agg ys)).put o1.dst (.agg ys)).put o3.dst (.agg fs) = A at *
  refine wpAnyH_oneD (l' := #[true, true, true, true, false, false, false]) (i := 2) (o := o2) (fuel := 3) (by rw [hops]; rfl) hr3 rfl (fun K1 hK1 => ?_)
  refine step_callR hcall hcf g2 p2 hb ?_
  intro u W hu
  have hbW := hrel u W hu
  have hbw : Below w.heap.size w W := hD.trans (hbW.mono hD.size)
  have hS1 : Blk W B tB ys ∧ Blk W F tG fs := ⟨hB.later hbw, hF.later hbw⟩
  refine hK1.out _ _ hS1 (fun _ => ?_)
  refine wpAnyH_oneD (l' := #[true, true, true, true, true, false, false]) (i := 4) (o := o4) (fuel := 2) (by rw [hops]; rfl) hr4 rfl (fun K2 hK2 => ?_)
  refine step_store_blk g4 p4 (by rw [e2, put_other n4]; exact h4) (by rw [e2, put_other n4']; exact h4') (hR.later hbw) hz2 hiN hc2 ?_
  intro w2 hR2 hg2
  have hS2 : Blk w2 B tB ys ∧ Blk w2 F tG fs := ⟨hS1.1.grown hg2 (by simp; omega), hS1.2.grown hg2 (by simp; omega)⟩
  have hC2 := (hC.later hbw).grown hg2 (by simp; omega)
  refine hK2.out _ _ hS2 (fun _ => ?_)
  rw [hd4]
  refine wpAnyH_oneD (l' := #[true, true, true, true, true, true, false]) (i := 5) (o := o5) (fuel := 1) (by rw [hops]; rfl) hr5 rfl (fun K3 hK3 => ?_)
  refine step_assign g5 p5 ?_
  refine hK3.out _ _ hS2 (fun _ => ?_)
  rw [show ((A.put o2.dst u).put none undef).eval (.tmp d2) = u from by rw [e2]; exact put_self (by rw [hsA]; exact hds)]
  refine wpAnyH_oneD (l' := #[true, true, true, true, true, true, true]) (i := 6) (o := o6) (fuel := 0) (by rw [hops]; rfl) hr6 rfl (fun K4 hK4 => ?_)
  refine step_store_blk g6 p6 (by rw [e2, e5]; exact (put_other n6a).trans ((put_other n6).trans h6)) (by rw [e2, e5]; exact (put_other n6b).trans ((put_other n6').trans h6')) hC2 hz4 hiF hc4 ?_
  intro w4 hC4 hg4
  have hS4 : Blk w4 B tB ys ∧ Blk w4 F tG fs := ⟨hS2.1.grown hg4 (by simp; omega), hS2.2.grown hg4 (by simp; omega)⟩
  refine hK4.out _ _ hS4 (fun _ => ?_)
  rw [hd6]
  exact wpAnyH_done hr7 (h u W w2 w4 _ (by rw [e2, e5]; exact (hkb.put (by simp)).put (by simp)) (by rw [e2, e5, ← eval_tmp]; exact put_self (by simp only [put_size]; rw [hsA]; exact hds5)) hu hbw hg2 hg4 (hR2.grown hg4 (by simp; omega)) hC4) _

/-- 'return f(x), v, y'. -/
theorem wp_ret6c {id : Nat} {a : Act} {w : World} {o0 o1 o2 o3 o4 o5 : Oper} {f : FuncId} {ats : Array TypeId} {tN tF : TypeId} {x0 xb x2 x3 y3 x4 x5 y5 : Operand} {B F R C : Nat} {tB tG tR tC : TypeId} {ys us fs r0 c0 : Array Value} {dN dF : TypeDesc} {v4 : Value}
    (hB : Blk w B tB ys) (hF : Blk w F tG fs) (hR : Blk w R tR r0) (hC : Blk w C tC c0) (hRB : R ≠ B) (hRF : R ≠ F) (hRC : R ≠ C) (hCB : C ≠ B) (hCF : C ≠ F)
    (hcall : Calls P f #[.agg ys] w.drew fun e w' => ∃ u, e = .returned u ∧ (u = .agg us ∧ Below w.drew.heap.size w.drew w')) (hcf : ∀ args W, (callFunc f args).run P W = .ok (.enter f args) W)
    (hm : P.follows .mixedOrders = true) (hns : Region.noSelect ops = true) (hops : ops.toList = [o0, o1, o2, o3, o4, o5])
    (hfr : Region.free .any ops #[false, false, false, false, false, false] 0 = true ∧ Region.free .any ops #[true, false, false, false, false, false] 2 = true)
    (hcn : (Region.ready .any ops #[false, false, false, false, false, false]).contains 0 = true ∧ (Region.ready .any ops #[true, false, false, false, false, false]).contains 2 = true)
    (hr3 : Region.ready .any ops #[true, false, true, false, false, false] = [1]) (hr4 : Region.ready .any ops #[true, true, true, false, false, false] = [3]) (hr5 : Region.ready .any ops #[true, true, true, true, false, false] = [4]) (hr6 : Region.ready .any ops #[true, true, true, true, true, false] = [5]) (hr7 : Region.ready .any ops #[true, true, true, true, true, true] = [])
    (hg : (o0.guard = none ∧ o2.guard = none) ∧ o1.guard = none ∧ o3.guard = none ∧ o4.guard = none ∧ o5.guard = none)
    (ho : (o0.op = .load tN x0 ∧ o2.op = .load tF x2) ∧ o1.op = .call { callee := .value (.func f), args := #[xb], argTypes := ats } ∧ o3.op = .store tN x3 y3 ∧ o4.op = .assign x4 ∧ o5.op = .store tF x5 y5)
    (hpn0 : ∀ c a w v, Q (.panic c) (a.put o0.dst v) w → Q (.panic c) a w) (hpn2 : ∀ c a w v, Q (.panic c) (a.put o2.dst v) w → Q (.panic c) a w)
    (h0 : a.eval x0 = .pointer (some ⟨B, 0, none⟩)) (h2 : (a.put o0.dst (.agg ys)).eval x2 = .pointer (some ⟨F, 0, none⟩))
    (hb : ((a.put o0.dst (.agg ys)).put o2.dst (.agg fs)).eval xb = .agg ys)
    (h3 : (((a.put o0.dst (.agg ys)).put o2.dst (.agg fs)).put o1.dst (.agg us)).eval x3 = .pointer (some ⟨R, 0, none⟩)) (h3' : (((a.put o0.dst (.agg ys)).put o2.dst (.agg fs)).put o1.dst (.agg us)).eval y3 = .agg us)
    (h4 : (((a.put o0.dst (.agg ys)).put o2.dst (.agg fs)).put o1.dst (.agg us)).eval x4 = v4)
    (h5 : ((((a.put o0.dst (.agg ys)).put o2.dst (.agg fs)).put o1.dst (.agg us)).put o4.dst v4).eval x5 = .pointer (some ⟨C, 0, none⟩)) (h5' : ((((a.put o0.dst (.agg ys)).put o2.dst (.agg fs)).put o1.dst (.agg us)).put o4.dst v4).eval y5 = .agg fs)
    (hd3 : o3.dst = none) (hd5 : o5.dst = none)
    (huN : P.underlying tN = some dN) (hdN : isAgg dN = true) (hiN : (P.info? tN).map (·.size) = some ys.size) (hus : us.size = ys.size)
    (huF : P.underlying tF = some dF) (hdF : isAgg dF = true) (hiF : (P.info? tF).map (·.size) = some fs.size)
    (hz2 : r0.size = us.size) (hc2 : us.toList.all (·.oneCell') = true) (hz4 : c0.size = fs.size) (hc4 : fs.toList.all (·.oneCell') = true)
    (h : ∀ W wm w9, Below w.heap.size w W → W.grownBy wm (some R) → wm.grownBy w9 (some C) → Blk w9 R tR us → Blk w9 C tC fs → Q .normal ((((a.put o0.dst (.agg ys)).put o2.dst (.agg fs)).put o1.dst (.agg us)).put o4.dst v4) w9) : (Code.region id ops true).wp P Q a w := by
  obtain ⟨⟨g0, g2⟩, g1, g3, g4, g5⟩ := hg
  obtain ⟨⟨p0, p2⟩, p1, p3, p4, p5⟩ := ho
  obtain ⟨hf0, hf1⟩ := hfr
  obtain ⟨hn0, hn1⟩ := hcn
  have hD : Below w.heap.size w w.drew := Below.drew (Below.refl _ _)
  have hsz : ops.size = 6 := by rw [← Array.length_toList, hops]; rfl
  refine wp_region_heldD (S := fun W => Blk W B tB ys ∧ Blk W F tG fs) (n := 6) (l := #[false, false, false, false, false, false]) hm hsz rfl hns ⟨hB.later hD, hF.later hD⟩ (fun _ hS => ?_)
  have hw0 : ∀ a' : Act, Region.wanted o0 (yielded ops a'.tmps) = true := fun a' => by simp [Region.wanted, g0]
  have hw2 : ∀ a' : Act, Region.wanted o2 (yielded ops a'.tmps) = true := fun a' => by simp [Region.wanted, g2]
  refine wpAnyH_takeD (l' := #[true, false, false, false, false, false]) (i := 0) (oi := o0) (v := .agg ys) (fuel := 5) (by rw [hops]; rfl) hns hf0 hn0 rfl (fun c a w => hpn0 c a w _) (hw0 _) (fun W hW => exec_load_bk hW.1 huN hdN hiN p0 h0) hS ?_
  refine wpAnyH_takeD (l' := #[true, false, true, false, false, false]) (i := 2) (oi := o2) (v := .agg fs) (fuel := 4) (by rw [hops]; rfl) hns hf1 hn1 rfl (fun c a w => hpn2 c a w _) (hw2 _) (fun W hW => exec_load_bk hW.2 huF hdF hiF p2 h2) hS ?_
  generalize (a.put o0.dst (.agg ys)).put o2.dst (.agg fs) = A at *
  refine wpAnyH_oneD (l' := #[true, true, true, false, false, false]) (i := 1) (o := o1) (fuel := 3) (by rw [hops]; rfl) hr3 rfl (fun K1 hK1 => ?_)
  refine step_callR hcall hcf g1 p1 hb ?_
  rintro u W ⟨rfl, hbW⟩
  have hbw : Below w.heap.size w W := hD.trans (hbW.mono hD.size)
  have hS1 : Blk W B tB ys ∧ Blk W F tG fs := ⟨hB.later hbw, hF.later hbw⟩
  refine hK1.out _ _ hS1 (fun _ => ?_)
  refine wpAnyH_oneD (l' := #[true, true, true, true, false, false]) (i := 3) (o := o3) (fuel := 2) (by rw [hops]; rfl) hr4 rfl (fun K2 hK2 => ?_)
  refine step_store_blk g3 p3 h3 h3' (hR.later hbw) hz2 (by rw [hiN, hus]) hc2 ?_
  intro w2 hR2 hg2
  have hS2 : Blk w2 B tB ys ∧ Blk w2 F tG fs := ⟨hS1.1.grown hg2 (by simp; omega), hS1.2.grown hg2 (by simp; omega)⟩
  have hC2 := (hC.later hbw).grown hg2 (by simp; omega)
  refine hK2.out _ _ hS2 (fun _ => ?_)
  rw [hd3]
  refine wpAnyH_oneD (l' := #[true, true, true, true, true, false]) (i := 4) (o := o4) (fuel := 1) (by rw [hops]; rfl) hr5 rfl (fun K3 hK3 => ?_)
  refine step_assign g4 p4 ?_
  refine hK3.out _ _ hS2 (fun _ => ?_)
  rw [show ((A.put o1.dst (.agg us)).put none undef).eval x4 = v4 from h4]
  refine wpAnyH_oneD (l' := #[true, true, true, true, true, true]) (i := 5) (o := o5) (fuel := 0) (by rw [hops]; rfl) hr6 rfl (fun K4 hK4 => ?_)
  refine step_store_blk g5 p5 h5 h5' hC2 hz4 hiF hc4 ?_
  intro w4 hC4 hg4
  have hS4 : Blk w4 B tB ys ∧ Blk w4 F tG fs := ⟨hS2.1.grown hg4 (by simp; omega), hS2.2.grown hg4 (by simp; omega)⟩
  refine hK4.out _ _ hS4 (fun _ => ?_)
  rw [hd5]
  exact wpAnyH_done hr7 (h W w2 w4 hbw hg2 hg4 (hR2.grown hg4 (by simp; omega)) hC4) _

end
end Go.Proofs.Ytopnjklloleomaa

/-
  The walks over the law SealDoes, ownTexts and ownCopy. (Written by lsd.py.)
-/
namespace Go.Proofs.Ytopnjklloleomaa
open Go.RowKit
set_option linter.unusedVariables false

set_option maxRecDepth 100000 in
theorem ownTexts_any (v : Value) (l : List ByteArray) (w : World) (hv : RdG txE w v l) (hl : l.length ≤ 1000) :
    Calls Try.prog 7 #[v] w fun e w' => ∃ v', e = .returned v' ∧ w'.ownsRow w.heap.size 9 1 v' l.length (txE.vs l) ∧ Below w.heap.size w w' := by
  have HV := hide hv
  obtain ⟨ao, cap, rfl, hc1, hc2⟩ := hv.shape
  clear hv
  go_enter Try.func7, Try.ntmps7
  go_wp2_with (refine wpList_append_rdG (E := txE) (cs := []) (v := .slice none 0 0) (n := 0) (base := w.heap.size) (World.ownsRow_nil _ _ _ _) HV.out Try.underlying22 infoText rfl rfl rfl rfl rfl (by omega) (by decide) (Nat.le_refl _) ?_; intro v5 w5 ho5 hb5 hg5; rw [List.nil_append, Nat.zero_add] at ho5; obtain ⟨ao5, cap5, rfl⟩ := owns_shape ho5; have HO5 := hide ho5; have HB5 := hide hb5; clear ho5 hb5 hg5)
  go_ret
  exact ⟨_, rfl, HO5.out, HB5.out⟩

set_option maxRecDepth 100000 in
theorem ownCopy_any (c : Cp) (v : Value) (w : World) (hv : RdG txE w v c.recs) (hl : c.recs.length ≤ 1000) :
    Calls Try.prog 6 #[cpV c v] w fun e w' => ∃ v', e = .returned (cpV c v') ∧ w'.ownsRow w.heap.size 9 1 v' c.recs.length (txE.vs c.recs) ∧ Below w.heap.size w w' := by
  obtain ⟨ao, cap, rfl, hc1, hc2⟩ := hv.shape
  have hA := below_alloc2 w (.cells #[.int .i64 c.ep, .bool c.cl, .slice ao c.recs.length cap, .int .i64 c.en] 24) (.cells #[.int .i64 0, .bool false, .slice none 0 0, .int .i64 0] 24)
  have HO := hide (ownTexts_any _ c.recs _ (hv.below hA) hl)
  have HB0 := hide (Blk.at0of2 w (.cells #[.int .i64 0, .bool false, .slice none 0 0, .int .i64 0] 24) 24 #[.int .i64 c.ep, .bool c.cl, .slice ao c.recs.length cap, .int .i64 c.en])
  have HR0 := hide (Blk.at1 w (.cells #[.int .i64 c.ep, .bool c.cl, .slice ao c.recs.length cap, .int .i64 c.en] 24) 24 #[.int .i64 0, .bool false, .slice none 0 0, .int .i64 0])
  have HA0 := hide hA
  have hsz := hA.size
  have b2 := HB0.out.cell 2
  have bl := HB0.out.lt
  simp at b2 bl
  clear hv hA
  unfold cpV
  go_enter Try.func6, Try.ntmps6
  go_upto_region 2 with (first
    | (go_at_call 7; refine HO.out.mono ?_; rintro e w1 ⟨v1, rfl, ho1, hb1⟩; obtain ⟨ao1, cap1, rfl⟩ := owns_shape ho1; have HB1 := hide (HB0.out.later hb1); have HR1 := hide (HR0.out.later hb1); have HA1 := hide (HA0.out.trans (hb1.mono hsz)); have HO1 := hide (owns_base0 ho1 hsz); clear ho1 hb1)
    | (refine wpList_store_slice (k := 2) rfl rfl rfl rfl HB1.out rfl Try.sizeTexts ?_; intro w2 hB2 hg2; have HB2 := hide hB2; have HR2 := hide (HR1.out.grown hg2 (fun q => by simp at q)); have HO2 := hide (owns_grownO HO1.out hg2 (.inr (owns_off HO1.out HB1.out (by decide)))); have HA2 := hide (below_grownO HA1.out hg2 (fun k hk => by cases hk; omega) HA1.out.size); clear hB2 hg2))
  have HB2 := hide (show Blk w2 w.heap.size 24 #[.int .i64 c.ep, .bool c.cl, .slice ao1 c.recs.length cap1, .int .i64 c.en] from HB2.out)
  go_wp2_with (first
    | (refine wpList_load_blk HB2.out Try.underlying24 rfl Try.sizeCopy rfl rfl rfl ?_)
    | (refine wpList_store_blk rfl rfl rfl rfl HR2.out rfl Try.sizeCopy rfl ?_; intro w3 hR3 hg3; have HR3 := hide hR3; have HO3 := hide (owns_grownO HO2.out hg3 (.inr (owns_off HO2.out HR2.out (by decide)))); have HA3 := hide (below_grownO HA2.out hg3 (fun k hk => by cases hk; omega) HA2.out.size); clear hR3 hg3))
  refine bodyPost_ret (v := .agg #[.int .i64 c.ep, .bool c.cl, .slice ao1 c.recs.length cap1, .int .i64 c.en]) (results1_cell Try.results6 rfl (run_loadVar_blk HR3.out Try.underlying24 rfl Try.sizeCopy)) rfl ?_
  exact ⟨_, rfl, HO3.out, HA3.out⟩

set_option maxRecDepth 100000 in
set_option maxHeartbeats 16000000 in
theorem sealDoes_any (c : Cp) (v : Value) (e_ at_ : Int) (r : ByteArray) (u : Value) (m : List ByteArray) (w : World) (hv : RdG txE w v c.recs) (hu : RdG txE w u m) :
    Calls Try.prog 3 #[cpV c v, .int .i64 e_, .int .i64 at_, .string r, u] w fun e w' => e = .returned (.bool true) ∧ Below w.heap.size w w' := by
  obtain ⟨ao, cap, rfl, hc1, hc2⟩ := hv.shape
  obtain ⟨au, cau, rfl, hu1, hu2⟩ := hu.shape
  unfold maxLen at hc2 hu2
  have hA := below_allocG w (.cells #[.int .i64 c.ep, .bool c.cl, (.slice ao c.recs.length cap), .int .i64 c.en] 24)
  have HCc0 := hide (Blk.new w 24 #[.int .i64 c.ep, .bool c.cl, (.slice ao c.recs.length cap), .int .i64 c.en])
  have HRc0 := hide (hv.below hA)
  have HRm0 := hide (hu.below hA)
  have HA0 := hide hA
  generalize hW : w.alloc (.cells #[.int .i64 c.ep, .bool c.cl, (.slice ao c.recs.length cap), .int .i64 c.en] 24) = W0 at HCc0 HRc0 HRm0 HA0
  have HW := hide hW
  clear hv hu hA hW
  unfold cpV
  go_enter Try.func3, Try.ntmps3
  go_upto_region 1 with fail
  rw [HW.out]
  clear HW
  have HC0 := hide (sealBegun_any W0)
  go_upto_region 3 with (first
    | (go_at_call 5; refine HC0.out.mono ?_; rintro e x1 ⟨rfl, hb⟩))
  have hbX := hb
  have HCc1 := hide (HCc0.out.later hbX)
  have HRc1 := hide (HRc0.out.below hbX)
  have HRm1 := hide (HRm0.out.below hbX)
  have HA1 := hide (HA0.out.trans (hbX.mono HA0.out.size))
  clear HCc0 HRc0 HRm0 HA0
  obtain ⟨W1, hWX⟩ : ∃ W, W = x1 := ⟨_, rfl⟩
  rw [← hWX] at HCc1 HRc1 HRm1 HA1 ⊢
  clear hWX
  clear hb hbX HC0
  have b2 := HCc1.out.cell 2
  have bl := HCc1.out.lt
  simp at b2
  by_cases hg : 300 < c.recs.length ∨ 300 < m.length
  · by_cases hg1 : 300 < c.recs.length
    · have d1 : decide ((300 : Int) < (c.recs.length : Int)) = true := decide_eq_true (by omega)
      clear hg
      go_wp2_with fail
      go_ret
      exact ⟨rfl, HA1.out⟩
    · have hg2 : 300 < m.length := hg.resolve_left hg1
      have d1 : decide ((300 : Int) < (c.recs.length : Int)) = false := decide_eq_false (by omega)
      have d2 : decide ((300 : Int) < (m.length : Int)) = true := decide_eq_true (by omega)
      clear hg
      go_wp2_with fail
      go_ret
      exact ⟨rfl, HA1.out⟩
  have hl1 : c.recs.length ≤ 1000 := by omega
  have hl2 : m.length ≤ 1000 := by omega
  have hg1 : ¬ 300 < c.recs.length := by omega
  have hg2 : ¬ 300 < m.length := by omega
  have d1 : decide ((300 : Int) < (c.recs.length : Int)) = false := decide_eq_false (by omega)
  have d2 : decide ((300 : Int) < (m.length : Int)) = false := decide_eq_false (by omega)
  clear hg
  go_upto_region 5 with fail
  have HL1 := hide hl1
  have HL2 := hide hl2
  clear b2 bl hg1 hg2 hl1 hl2 d1 d2
  have HC1 := hide (ownCopy_any c _ W1 HRc1.out HL1.out)
  go_upto_region 6 with (first
    | (refine wpList_load_blk HCc1.out Try.underlying24 rfl Try.sizeCopy rfl rfl rfl ?_)
    | (go_at_call 6; refine HC1.out.mono ?_; rintro e x2 ⟨vx, rfl, ho, hb⟩; obtain ⟨ax, kx, rfl⟩ := owns_shape ho; unfold cpV))
  have hbT := below_allocG x2 (.cells #[.int .i64 c.ep, .bool c.cl, (.slice ax c.recs.length kx), .int .i64 c.en] 24)
  have hbX := hb.trans (hbT.mono hb.size)
  have HCc2 := hide (HCc1.out.later hbX)
  have HRc2 := hide (HRc1.out.below hbX)
  have HRm2 := hide (HRm1.out.below hbX)
  have HA2 := hide (HA1.out.trans (hbX.mono HA1.out.size))
  have HCx2 := hide (Blk.new x2 24 #[.int .i64 c.ep, .bool c.cl, (.slice ax c.recs.length kx), .int .i64 c.en])
  have HRx2 := hide ((RdG.ofOwns (E := txE) ho).below hbT)
  clear HCc1 HRc1 HRm1 HA1
  generalize hWX : (x2.alloc (.cells #[.int .i64 c.ep, .bool c.cl, (.slice ax c.recs.length kx), .int .i64 c.en] 24)) = W2 at HCc2 HRc2 HRm2 HCx2 HRx2 HA2 ⊢
  clear hWX hbT
  clear hb hbX HC1 ho
  have HC2 := hide (ownTexts_any _ m W2 HRm2.out HL2.out)
  go_upto_region 7 with (first
    | (go_at_call 7; refine HC2.out.mono ?_; rintro e x3 ⟨vy, rfl, ho, hb⟩; obtain ⟨ay, ky, rfl⟩ := owns_shape ho))
  have hbX := hb
  have HCc3 := hide (HCc2.out.later hbX)
  have HRc3 := hide (HRc2.out.below hbX)
  have HRm3 := hide (HRm2.out.below hbX)
  have HCx3 := hide (HCx2.out.later hbX)
  have HRx3 := hide (HRx2.out.below hbX)
  have HA3 := hide (HA2.out.trans (hbX.mono HA2.out.size))
  have HRy3 := hide ((RdG.ofOwns (E := txE) ho))
  clear HCc2 HRc2 HRm2 HCx2 HRx2 HA2
  obtain ⟨W3, hWX⟩ : ∃ W, W = x3 := ⟨_, rfl⟩
  rw [← hWX] at HCc3 HRc3 HRm3 HCx3 HRx3 HRy3 HA3 ⊢
  clear hWX
  clear hb hbX HC2 ho
  obtain ⟨⟨kx_, ky_⟩, hKE⟩ : ∃ K, K = chkC c := ⟨_, rfl⟩
  have HKE := hide hKE
  clear hKE
  have HC3 := hide ((SCheck_any c _ W3 HRx3.out).mono (fun e w' h => (show e = .returned (flt (kx_, ky_)) ∧ Below W3.heap.size W3 w' from ⟨by rw [HKE.out]; exact h.1, h.2⟩)))
  go_upto_region 8 with (first
    | (refine wpList_load_blk HCx3.out Try.underlying24 rfl Try.sizeCopy rfl rfl rfl ?_)
    | (go_at_call 8; refine HC3.out.mono ?_; rintro e x4 ⟨rfl, hb⟩; unfold flt))
  have hbT := below_allocG x4 (.cells #[.int .i64 kx_, .int .i64 ky_] 29)
  have hbX := hb.trans (hbT.mono hb.size)
  have HCc4 := hide (HCc3.out.later hbX)
  have HRc4 := hide (HRc3.out.below hbX)
  have HRm4 := hide (HRm3.out.below hbX)
  have HCx4 := hide (HCx3.out.later hbX)
  have HRx4 := hide (HRx3.out.below hbX)
  have HRy4 := hide (HRy3.out.below hbX)
  have HA4 := hide (HA3.out.trans (hbX.mono HA3.out.size))
  have HKf4 := hide (Blk.new x4 29 #[.int .i64 kx_, .int .i64 ky_])
  clear HCc3 HRc3 HRm3 HCx3 HRx3 HRy3 HA3
  generalize hWX : (x4.alloc (.cells #[.int .i64 kx_, .int .i64 ky_] 29)) = W4 at HCc4 HRc4 HRm4 HCx4 HRx4 HRy4 HKf4 HA4 ⊢
  clear hWX hbT
  clear hb hbX HC3
  obtain ⟨⟨pe, pc, pl, pn⟩, hpC⟩ : ∃ K, K = appC c e_ at_ r := ⟨_, rfl⟩
  obtain ⟨⟨px, py⟩, hpF⟩ : ∃ K, K = appF c e_ at_ r := ⟨_, rfl⟩
  have HpC := hide hpC
  have HpF := hide hpF
  clear hpC hpF
  have HC4 := hide ((Append_any c _ e_ at_ r W4 HRx4.out).mono (fun e w' h => (show ∃ v', e = .returned (.tuple #[cpV ⟨pe, pc, pl, pn⟩ v', flt (px, py)]) ∧ w'.ownsRow W4.heap.size 9 1 v' pl.length (txE.vs pl) ∧ Below W4.heap.size W4 w' from by rw [HpC.out, HpF.out]; rw [show pl = (appC c e_ at_ r).recs by rw [← HpC.out]]; exact h)))
  go_upto_region 9 with (first
    | (refine wpList_load_blk HCx4.out Try.underlying24 rfl Try.sizeCopy rfl rfl rfl ?_)
    | (go_at_call 9; refine HC4.out.mono ?_; rintro e x5 ⟨vp, rfl, ho, hb⟩; obtain ⟨ap, kp, rfl⟩ := owns_shape ho; unfold cpV flt))
  have hbT := below_alloc2 x5 (.cells #[.int .i64 pe, .bool pc, .slice ap pl.length kp, .int .i64 pn] 24) (.cells #[.int .i64 px, .int .i64 py] 29)
  have hbX := hb.trans (hbT.mono hb.size)
  have HCc5 := hide (HCc4.out.later hbX)
  have HRc5 := hide (HRc4.out.below hbX)
  have HRm5 := hide (HRm4.out.below hbX)
  have HCx5 := hide (HCx4.out.later hbX)
  have HRx5 := hide (HRx4.out.below hbX)
  have HRy5 := hide (HRy4.out.below hbX)
  have HKf5 := hide (HKf4.out.later hbX)
  have HA5 := hide (HA4.out.trans (hbX.mono HA4.out.size))
  have HCp5 := hide (Blk.at0of2 x5 (.cells #[.int .i64 px, .int .i64 py] 29) 24 #[.int .i64 pe, .bool pc, .slice ap pl.length kp, .int .i64 pn])
  have HFp5 := hide (Blk.at1 x5 (.cells #[.int .i64 pe, .bool pc, .slice ap pl.length kp, .int .i64 pn] 24) 29 #[.int .i64 px, .int .i64 py])
  have HRp5 := hide ((RdG.ofOwns (E := txE) ho).below hbT)
  clear HCc4 HRc4 HRm4 HCx4 HRx4 HRy4 HKf4 HA4
  generalize hWX : ((x5.alloc (.cells #[.int .i64 pe, .bool pc, .slice ap pl.length kp, .int .i64 pn] 24)).alloc (.cells #[.int .i64 px, .int .i64 py] 29)) = W5 at HCc5 HRc5 HRm5 HCx5 HRx5 HRy5 HKf5 HCp5 HFp5 HRp5 HA5 ⊢
  clear hWX hbT
  clear hb hbX HC4 ho
  obtain ⟨⟨qe, qc, ql, qn⟩, hqC⟩ : ∃ K, K = cloC c e_ := ⟨_, rfl⟩
  obtain ⟨⟨qx, qy⟩, hqF⟩ : ∃ K, K = cloF c e_ := ⟨_, rfl⟩
  have HqC := hide hqC
  have HqF := hide hqF
  clear hqC hqF
  have HC5 := hide ((Close_any c _ e_ W5 HRx5.out).mono (fun e w' h => (show ∃ v', e = .returned (.tuple #[cpV ⟨qe, qc, ql, qn⟩ v', flt (qx, qy)]) ∧ w'.ownsRow W5.heap.size 9 1 v' ql.length (txE.vs ql) ∧ Below W5.heap.size W5 w' from by rw [HqC.out, HqF.out]; rw [show ql = (cloC c e_).recs by rw [← HqC.out]]; exact h)))
  go_upto_region 10 with (first
    | (refine wpList_load_blk HCx5.out Try.underlying24 rfl Try.sizeCopy rfl rfl rfl ?_)
    | (go_at_call 10; refine HC5.out.mono ?_; rintro e x6 ⟨vq, rfl, ho, hb⟩; obtain ⟨aq, kq, rfl⟩ := owns_shape ho; unfold cpV flt))
  have hbT := below_alloc2 x6 (.cells #[.int .i64 qe, .bool qc, .slice aq ql.length kq, .int .i64 qn] 24) (.cells #[.int .i64 qx, .int .i64 qy] 29)
  have hbX := hb.trans (hbT.mono hb.size)
  have HCc6 := hide (HCc5.out.later hbX)
  have HRc6 := hide (HRc5.out.below hbX)
  have HRm6 := hide (HRm5.out.below hbX)
  have HCx6 := hide (HCx5.out.later hbX)
  have HRx6 := hide (HRx5.out.below hbX)
  have HRy6 := hide (HRy5.out.below hbX)
  have HKf6 := hide (HKf5.out.later hbX)
  have HCp6 := hide (HCp5.out.later hbX)
  have HFp6 := hide (HFp5.out.later hbX)
  have HRp6 := hide (HRp5.out.below hbX)
  have HA6 := hide (HA5.out.trans (hbX.mono HA5.out.size))
  have HCq6 := hide (Blk.at0of2 x6 (.cells #[.int .i64 qx, .int .i64 qy] 29) 24 #[.int .i64 qe, .bool qc, .slice aq ql.length kq, .int .i64 qn])
  have HFq6 := hide (Blk.at1 x6 (.cells #[.int .i64 qe, .bool qc, .slice aq ql.length kq, .int .i64 qn] 24) 29 #[.int .i64 qx, .int .i64 qy])
  have HRq6 := hide ((RdG.ofOwns (E := txE) ho).below hbT)
  clear HCc5 HRc5 HRm5 HCx5 HRx5 HRy5 HKf5 HCp5 HFp5 HRp5 HA5
  generalize hWX : ((x6.alloc (.cells #[.int .i64 qe, .bool qc, .slice aq ql.length kq, .int .i64 qn] 24)).alloc (.cells #[.int .i64 qx, .int .i64 qy] 29)) = W6 at HCc6 HRc6 HRm6 HCx6 HRx6 HRy6 HKf6 HCp6 HFp6 HRp6 HCq6 HFq6 HRq6 HA6 ⊢
  clear hWX hbT
  clear hb hbX HC5 ho
  obtain ⟨⟨ze, zc, zl, zn⟩, hzC⟩ : ∃ K, K = endC c e_ m := ⟨_, rfl⟩
  obtain ⟨⟨zx, zy⟩, hzF⟩ : ∃ K, K = endF c e_ m := ⟨_, rfl⟩
  have HzC := hide hzC
  have HzF := hide hzF
  clear hzC hzF
  have HC6 := hide ((End_any c _ _ e_ m W6 HRx6.out HRy6.out).mono (fun e w' h => (show ∃ v', e = .returned (.tuple #[cpV ⟨ze, zc, zl, zn⟩ v', flt (zx, zy)]) ∧ w'.ownsRow W6.heap.size 9 1 v' zl.length (txE.vs zl) ∧ Below W6.heap.size W6 w' from by rw [HzC.out, HzF.out]; rw [show zl = (endC c e_ m).recs by rw [← HzC.out]]; exact h)))
  go_upto_region 11 with (first
    | (refine wpList_load_blk HCx6.out Try.underlying24 rfl Try.sizeCopy rfl rfl rfl ?_)
    | (go_at_call 11; refine HC6.out.mono ?_; rintro e x7 ⟨vz, rfl, ho, hb⟩; obtain ⟨az, kz, rfl⟩ := owns_shape ho; unfold cpV flt))
  have hbT := below_alloc2 x7 (.cells #[.int .i64 ze, .bool zc, .slice az zl.length kz, .int .i64 zn] 24) (.cells #[.int .i64 zx, .int .i64 zy] 29)
  have hbX := hb.trans (hbT.mono hb.size)
  have HCc7 := hide (HCc6.out.later hbX)
  have HRc7 := hide (HRc6.out.below hbX)
  have HRm7 := hide (HRm6.out.below hbX)
  have HCx7 := hide (HCx6.out.later hbX)
  have HRx7 := hide (HRx6.out.below hbX)
  have HRy7 := hide (HRy6.out.below hbX)
  have HKf7 := hide (HKf6.out.later hbX)
  have HCp7 := hide (HCp6.out.later hbX)
  have HFp7 := hide (HFp6.out.later hbX)
  have HRp7 := hide (HRp6.out.below hbX)
  have HCq7 := hide (HCq6.out.later hbX)
  have HFq7 := hide (HFq6.out.later hbX)
  have HRq7 := hide (HRq6.out.below hbX)
  have HA7 := hide (HA6.out.trans (hbX.mono HA6.out.size))
  have HCz7 := hide (Blk.at0of2 x7 (.cells #[.int .i64 zx, .int .i64 zy] 29) 24 #[.int .i64 ze, .bool zc, .slice az zl.length kz, .int .i64 zn])
  have HFz7 := hide (Blk.at1 x7 (.cells #[.int .i64 ze, .bool zc, .slice az zl.length kz, .int .i64 zn] 24) 29 #[.int .i64 zx, .int .i64 zy])
  have HRz7 := hide ((RdG.ofOwns (E := txE) ho).below hbT)
  clear HCc6 HRc6 HRm6 HCx6 HRx6 HRy6 HKf6 HCp6 HFp6 HRp6 HCq6 HFq6 HRq6 HA6
  generalize hWX : ((x7.alloc (.cells #[.int .i64 ze, .bool zc, .slice az zl.length kz, .int .i64 zn] 24)).alloc (.cells #[.int .i64 zx, .int .i64 zy] 29)) = W7 at HCc7 HRc7 HRm7 HCx7 HRx7 HRy7 HKf7 HCp7 HFp7 HRp7 HCq7 HFq7 HRq7 HCz7 HFz7 HRz7 HA7 ⊢
  clear hWX hbT
  clear hb hbX HC6 ho
  have HS7 := hide (SameCopy_eq c _ _ W7 HRx7.out HRc7.out)
  go_upto_region 13 with (first
    | (refine wpList_load_blk HCx7.out Try.underlying24 rfl Try.sizeCopy rfl rfl rfl ?_)
    | (refine wpList_load_blk HCc7.out Try.underlying24 rfl Try.sizeCopy rfl rfl rfl ?_)
    | (go_at_call 12; refine HS7.out.mono ?_; rintro e y1 ⟨rfl, hb1⟩; have HT1 := hide (SameTexts_eq _ _ m y1 (HRy7.out.below hb1) (HRm7.out.below hb1)); have HB1 := hide hb1; clear hb1)
    | (go_at_call 13; refine HT1.out.mono ?_; rintro e y2 ⟨rfl, hb2⟩; have HB2 := hide (HB1.out.trans (hb2.mono HB1.out.size)); clear hb2))
  have hbX := HB2.out
  have HCc8 := hide (HCc7.out.later hbX)
  have HRc8 := hide (HRc7.out.below hbX)
  have HRm8 := hide (HRm7.out.below hbX)
  have HCx8 := hide (HCx7.out.later hbX)
  have HRx8 := hide (HRx7.out.below hbX)
  have HRy8 := hide (HRy7.out.below hbX)
  have HKf8 := hide (HKf7.out.later hbX)
  have HCp8 := hide (HCp7.out.later hbX)
  have HFp8 := hide (HFp7.out.later hbX)
  have HRp8 := hide (HRp7.out.below hbX)
  have HCq8 := hide (HCq7.out.later hbX)
  have HFq8 := hide (HFq7.out.later hbX)
  have HRq8 := hide (HRq7.out.below hbX)
  have HCz8 := hide (HCz7.out.later hbX)
  have HFz8 := hide (HFz7.out.later hbX)
  have HRz8 := hide (HRz7.out.below hbX)
  have HA8 := hide (HA7.out.trans (hbX.mono HA7.out.size))
  clear HCc7 HRc7 HRm7 HCx7 HRx7 HRy7 HKf7 HCp7 HFp7 HRp7 HCq7 HFq7 HRq7 HCz7 HFz7 HRz7 HA7
  clear hbX HB1 HB2 HS7 HT1
  obtain ⟨W8, hWX⟩ : ∃ W, W = y2 := ⟨_, rfl⟩
  rw [← hWX] at HCc8 HRc8 HRm8 HCx8 HRx8 HRy8 HKf8 HCp8 HFp8 HRp8 HCq8 HFq8 HRq8 HCz8 HFz8 HRz8 HA8 ⊢
  clear hWX
  have HC8 := hide ((Appended_any c _ e_ at_ r W8 HRc8.out).mono (fun e w' h => (show ∃ v', e = .returned (.tuple #[cpV ⟨pe, pc, pl, pn⟩ v', flt (px, py)]) ∧ w'.ownsRow W8.heap.size 9 1 v' pl.length (txE.vs pl) ∧ Below W8.heap.size W8 w' from by rw [HpC.out, HpF.out]; rw [show pl = (appC c e_ at_ r).recs by rw [← HpC.out]]; exact h)))
  go_upto_region 14 with (first
    | (refine wpList_load_blk HCc8.out Try.underlying24 rfl Try.sizeCopy rfl rfl rfl ?_)
    | (go_at_call 14; refine HC8.out.mono ?_; rintro e x9 ⟨vg, rfl, ho, hb⟩; obtain ⟨ag, kg, rfl⟩ := owns_shape ho; unfold cpV flt))
  have hbT := below_alloc2 x9 (.cells #[.int .i64 pe, .bool pc, .slice ag pl.length kg, .int .i64 pn] 24) (.cells #[.int .i64 px, .int .i64 py] 29)
  have hbX := hb.trans (hbT.mono hb.size)
  have HCc9 := hide (HCc8.out.later hbX)
  have HRc9 := hide (HRc8.out.below hbX)
  have HRm9 := hide (HRm8.out.below hbX)
  have HCx9 := hide (HCx8.out.later hbX)
  have HRx9 := hide (HRx8.out.below hbX)
  have HRy9 := hide (HRy8.out.below hbX)
  have HKf9 := hide (HKf8.out.later hbX)
  have HCp9 := hide (HCp8.out.later hbX)
  have HFp9 := hide (HFp8.out.later hbX)
  have HRp9 := hide (HRp8.out.below hbX)
  have HCq9 := hide (HCq8.out.later hbX)
  have HFq9 := hide (HFq8.out.later hbX)
  have HRq9 := hide (HRq8.out.below hbX)
  have HCz9 := hide (HCz8.out.later hbX)
  have HFz9 := hide (HFz8.out.later hbX)
  have HRz9 := hide (HRz8.out.below hbX)
  have HA9 := hide (HA8.out.trans (hbX.mono HA8.out.size))
  have HCg9 := hide (Blk.at0of2 x9 (.cells #[.int .i64 px, .int .i64 py] 29) 24 #[.int .i64 pe, .bool pc, .slice ag pl.length kg, .int .i64 pn])
  have HFg9 := hide (Blk.at1 x9 (.cells #[.int .i64 pe, .bool pc, .slice ag pl.length kg, .int .i64 pn] 24) 29 #[.int .i64 px, .int .i64 py])
  have HRg9 := hide ((RdG.ofOwns (E := txE) ho).below hbT)
  clear HCc8 HRc8 HRm8 HCx8 HRx8 HRy8 HKf8 HCp8 HFp8 HRp8 HCq8 HFq8 HRq8 HCz8 HFz8 HRz8 HA8
  generalize hWX : ((x9.alloc (.cells #[.int .i64 pe, .bool pc, .slice ag pl.length kg, .int .i64 pn] 24)).alloc (.cells #[.int .i64 px, .int .i64 py] 29)) = W9 at HCc9 HRc9 HRm9 HCx9 HRx9 HRy9 HKf9 HCp9 HFp9 HRp9 HCq9 HFq9 HRq9 HCz9 HFz9 HRz9 HCg9 HFg9 HRg9 HA9 ⊢
  clear hWX hbT
  clear hb hbX HC8 ho
  have HC9 := hide ((ClosedCopy_any c _ e_ W9 HRc9.out).mono (fun e w' h => (show ∃ v', e = .returned (.tuple #[cpV ⟨qe, qc, ql, qn⟩ v', flt (qx, qy)]) ∧ w'.ownsRow W9.heap.size 9 1 v' ql.length (txE.vs ql) ∧ Below W9.heap.size W9 w' from by rw [HqC.out, HqF.out]; rw [show ql = (cloC c e_).recs by rw [← HqC.out]]; exact h)))
  go_upto_region 15 with (first
    | (refine wpList_load_blk HCc9.out Try.underlying24 rfl Try.sizeCopy rfl rfl rfl ?_)
    | (go_at_call 15; refine HC9.out.mono ?_; rintro e x10 ⟨vh, rfl, ho, hb⟩; obtain ⟨ah, kh, rfl⟩ := owns_shape ho; unfold cpV flt))
  have hbT := below_alloc2 x10 (.cells #[.int .i64 qe, .bool qc, .slice ah ql.length kh, .int .i64 qn] 24) (.cells #[.int .i64 qx, .int .i64 qy] 29)
  have hbX := hb.trans (hbT.mono hb.size)
  have HCc10 := hide (HCc9.out.later hbX)
  have HRc10 := hide (HRc9.out.below hbX)
  have HRm10 := hide (HRm9.out.below hbX)
  have HCx10 := hide (HCx9.out.later hbX)
  have HRx10 := hide (HRx9.out.below hbX)
  have HRy10 := hide (HRy9.out.below hbX)
  have HKf10 := hide (HKf9.out.later hbX)
  have HCp10 := hide (HCp9.out.later hbX)
  have HFp10 := hide (HFp9.out.later hbX)
  have HRp10 := hide (HRp9.out.below hbX)
  have HCq10 := hide (HCq9.out.later hbX)
  have HFq10 := hide (HFq9.out.later hbX)
  have HRq10 := hide (HRq9.out.below hbX)
  have HCz10 := hide (HCz9.out.later hbX)
  have HFz10 := hide (HFz9.out.later hbX)
  have HRz10 := hide (HRz9.out.below hbX)
  have HCg10 := hide (HCg9.out.later hbX)
  have HFg10 := hide (HFg9.out.later hbX)
  have HRg10 := hide (HRg9.out.below hbX)
  have HA10 := hide (HA9.out.trans (hbX.mono HA9.out.size))
  have HCh10 := hide (Blk.at0of2 x10 (.cells #[.int .i64 qx, .int .i64 qy] 29) 24 #[.int .i64 qe, .bool qc, .slice ah ql.length kh, .int .i64 qn])
  have HFh10 := hide (Blk.at1 x10 (.cells #[.int .i64 qe, .bool qc, .slice ah ql.length kh, .int .i64 qn] 24) 29 #[.int .i64 qx, .int .i64 qy])
  have HRh10 := hide ((RdG.ofOwns (E := txE) ho).below hbT)
  clear HCc9 HRc9 HRm9 HCx9 HRx9 HRy9 HKf9 HCp9 HFp9 HRp9 HCq9 HFq9 HRq9 HCz9 HFz9 HRz9 HCg9 HFg9 HRg9 HA9
  generalize hWX : ((x10.alloc (.cells #[.int .i64 qe, .bool qc, .slice ah ql.length kh, .int .i64 qn] 24)).alloc (.cells #[.int .i64 qx, .int .i64 qy] 29)) = W10 at HCc10 HRc10 HRm10 HCx10 HRx10 HRy10 HKf10 HCp10 HFp10 HRp10 HCq10 HFq10 HRq10 HCz10 HFz10 HRz10 HCg10 HFg10 HRg10 HCh10 HFh10 HRh10 HA10 ⊢
  clear hWX hbT
  clear hb hbX HC9 ho
  have HC10 := hide ((EndedCopy_any c _ e_ _ m W10 HRc10.out HRm10.out).mono (fun e w' h => (show ∃ v', e = .returned (.tuple #[cpV ⟨ze, zc, zl, zn⟩ v', flt (zx, zy)]) ∧ w'.ownsRow W10.heap.size 9 1 v' zl.length (txE.vs zl) ∧ Below W10.heap.size W10 w' from by rw [HzC.out, HzF.out]; rw [show zl = (endC c e_ m).recs by rw [← HzC.out]]; exact h)))
  go_upto_region 16 with (first
    | (refine wpList_load_blk HCc10.out Try.underlying24 rfl Try.sizeCopy rfl rfl rfl ?_)
    | (go_at_call 16; refine HC10.out.mono ?_; rintro e x11 ⟨vj, rfl, ho, hb⟩; obtain ⟨aj, kj, rfl⟩ := owns_shape ho; unfold cpV flt))
  have hbT := below_alloc2 x11 (.cells #[.int .i64 ze, .bool zc, .slice aj zl.length kj, .int .i64 zn] 24) (.cells #[.int .i64 zx, .int .i64 zy] 29)
  have hbX := hb.trans (hbT.mono hb.size)
  have HCc11 := hide (HCc10.out.later hbX)
  have HRc11 := hide (HRc10.out.below hbX)
  have HRm11 := hide (HRm10.out.below hbX)
  have HCx11 := hide (HCx10.out.later hbX)
  have HRx11 := hide (HRx10.out.below hbX)
  have HRy11 := hide (HRy10.out.below hbX)
  have HKf11 := hide (HKf10.out.later hbX)
  have HCp11 := hide (HCp10.out.later hbX)
  have HFp11 := hide (HFp10.out.later hbX)
  have HRp11 := hide (HRp10.out.below hbX)
  have HCq11 := hide (HCq10.out.later hbX)
  have HFq11 := hide (HFq10.out.later hbX)
  have HRq11 := hide (HRq10.out.below hbX)
  have HCz11 := hide (HCz10.out.later hbX)
  have HFz11 := hide (HFz10.out.later hbX)
  have HRz11 := hide (HRz10.out.below hbX)
  have HCg11 := hide (HCg10.out.later hbX)
  have HFg11 := hide (HFg10.out.later hbX)
  have HRg11 := hide (HRg10.out.below hbX)
  have HCh11 := hide (HCh10.out.later hbX)
  have HFh11 := hide (HFh10.out.later hbX)
  have HRh11 := hide (HRh10.out.below hbX)
  have HA11 := hide (HA10.out.trans (hbX.mono HA10.out.size))
  have HCj11 := hide (Blk.at0of2 x11 (.cells #[.int .i64 zx, .int .i64 zy] 29) 24 #[.int .i64 ze, .bool zc, .slice aj zl.length kj, .int .i64 zn])
  have HFj11 := hide (Blk.at1 x11 (.cells #[.int .i64 ze, .bool zc, .slice aj zl.length kj, .int .i64 zn] 24) 29 #[.int .i64 zx, .int .i64 zy])
  have HRj11 := hide ((RdG.ofOwns (E := txE) ho).below hbT)
  clear HCc10 HRc10 HRm10 HCx10 HRx10 HRy10 HKf10 HCp10 HFp10 HRp10 HCq10 HFq10 HRq10 HCz10 HFz10 HRz10 HCg10 HFg10 HRg10 HCh10 HFh10 HRh10 HA10
  generalize hWX : ((x11.alloc (.cells #[.int .i64 ze, .bool zc, .slice aj zl.length kj, .int .i64 zn] 24)).alloc (.cells #[.int .i64 zx, .int .i64 zy] 29)) = W11 at HCc11 HRc11 HRm11 HCx11 HRx11 HRy11 HKf11 HCp11 HFp11 HRp11 HCq11 HFq11 HRq11 HCz11 HFz11 HRz11 HCg11 HFg11 HRg11 HCh11 HFh11 HRh11 HCj11 HFj11 HRj11 HA11 ⊢
  clear hWX hbT
  clear hb hbX HC10 ho
  have HDR := hide (show Below W11.heap.size W11 W11.drew from Below.drew (Below.refl _ _))
  have HKEEP : Hid (∀ W, Below W11.heap.size W11 W → W.cell? ⟨x4.heap.size, 0, none⟩ = some (.int .i64 kx_) ∧ W.cell? ⟨x4.heap.size, 1, none⟩ = some (.int .i64 ky_) ∧ W.cell? ⟨w.heap.size, 0, none⟩ = some (.int .i64 c.ep) ∧ W.cell? ⟨w.heap.size, 1, none⟩ = some (.bool c.cl) ∧ W.cell? ⟨w.heap.size, 2, none⟩ = some ((.slice ao c.recs.length cap)) ∧ W.cell? ⟨w.heap.size, 3, none⟩ = some (.int .i64 c.en) ∧ W.cell? ⟨x5.heap.size + 1, 0, none⟩ = some (.int .i64 px) ∧ W.cell? ⟨x5.heap.size + 1, 1, none⟩ = some (.int .i64 py) ∧ W.cell? ⟨x9.heap.size + 1, 0, none⟩ = some (.int .i64 px) ∧ W.cell? ⟨x9.heap.size + 1, 1, none⟩ = some (.int .i64 py) ∧ W.cell? ⟨x6.heap.size + 1, 0, none⟩ = some (.int .i64 qx) ∧ W.cell? ⟨x6.heap.size + 1, 1, none⟩ = some (.int .i64 qy) ∧ W.cell? ⟨x10.heap.size + 1, 0, none⟩ = some (.int .i64 qx) ∧ W.cell? ⟨x10.heap.size + 1, 1, none⟩ = some (.int .i64 qy) ∧ W.cell? ⟨x7.heap.size + 1, 0, none⟩ = some (.int .i64 zx) ∧ W.cell? ⟨x7.heap.size + 1, 1, none⟩ = some (.int .i64 zy) ∧ W.cell? ⟨x11.heap.size + 1, 0, none⟩ = some (.int .i64 zx) ∧ W.cell? ⟨x11.heap.size + 1, 1, none⟩ = some (.int .i64 zy) ∧ W.cell? ⟨x5.heap.size, 0, none⟩ = some (.int .i64 pe) ∧ W.cell? ⟨x5.heap.size, 1, none⟩ = some (.bool pc) ∧ W.cell? ⟨x5.heap.size, 2, none⟩ = some (.slice ap pl.length kp) ∧ W.cell? ⟨x5.heap.size, 3, none⟩ = some (.int .i64 pn) ∧ W.cell? ⟨x9.heap.size, 0, none⟩ = some (.int .i64 pe) ∧ W.cell? ⟨x9.heap.size, 1, none⟩ = some (.bool pc) ∧ W.cell? ⟨x9.heap.size, 2, none⟩ = some (.slice ag pl.length kg) ∧ W.cell? ⟨x9.heap.size, 3, none⟩ = some (.int .i64 pn) ∧ W.cell? ⟨x6.heap.size, 0, none⟩ = some (.int .i64 qe) ∧ W.cell? ⟨x6.heap.size, 1, none⟩ = some (.bool qc) ∧ W.cell? ⟨x6.heap.size, 2, none⟩ = some (.slice aq ql.length kq) ∧ W.cell? ⟨x6.heap.size, 3, none⟩ = some (.int .i64 qn) ∧ W.cell? ⟨x10.heap.size, 0, none⟩ = some (.int .i64 qe) ∧ W.cell? ⟨x10.heap.size, 1, none⟩ = some (.bool qc) ∧ W.cell? ⟨x10.heap.size, 2, none⟩ = some (.slice ah ql.length kh) ∧ W.cell? ⟨x10.heap.size, 3, none⟩ = some (.int .i64 qn) ∧ W.cell? ⟨x7.heap.size, 0, none⟩ = some (.int .i64 ze) ∧ W.cell? ⟨x7.heap.size, 1, none⟩ = some (.bool zc) ∧ W.cell? ⟨x7.heap.size, 2, none⟩ = some (.slice az zl.length kz) ∧ W.cell? ⟨x7.heap.size, 3, none⟩ = some (.int .i64 zn) ∧ W.cell? ⟨x11.heap.size, 0, none⟩ = some (.int .i64 ze) ∧ W.cell? ⟨x11.heap.size, 1, none⟩ = some (.bool zc) ∧ W.cell? ⟨x11.heap.size, 2, none⟩ = some (.slice aj zl.length kj) ∧ W.cell? ⟨x11.heap.size, 3, none⟩ = some (.int .i64 zn)) := hide (fun W hW => ⟨(HKf11.out.later hW).cell 0, (HKf11.out.later hW).cell 1, (HCc11.out.later hW).cell 0, (HCc11.out.later hW).cell 1, (HCc11.out.later hW).cell 2, (HCc11.out.later hW).cell 3, (HFp11.out.later hW).cell 0, (HFp11.out.later hW).cell 1, (HFg11.out.later hW).cell 0, (HFg11.out.later hW).cell 1, (HFq11.out.later hW).cell 0, (HFq11.out.later hW).cell 1, (HFh11.out.later hW).cell 0, (HFh11.out.later hW).cell 1, (HFz11.out.later hW).cell 0, (HFz11.out.later hW).cell 1, (HFj11.out.later hW).cell 0, (HFj11.out.later hW).cell 1, (HCp11.out.later hW).cell 0, (HCp11.out.later hW).cell 1, (HCp11.out.later hW).cell 2, (HCp11.out.later hW).cell 3, (HCg11.out.later hW).cell 0, (HCg11.out.later hW).cell 1, (HCg11.out.later hW).cell 2, (HCg11.out.later hW).cell 3, (HCq11.out.later hW).cell 0, (HCq11.out.later hW).cell 1, (HCq11.out.later hW).cell 2, (HCq11.out.later hW).cell 3, (HCh11.out.later hW).cell 0, (HCh11.out.later hW).cell 1, (HCh11.out.later hW).cell 2, (HCh11.out.later hW).cell 3, (HCz11.out.later hW).cell 0, (HCz11.out.later hW).cell 1, (HCz11.out.later hW).cell 2, (HCz11.out.later hW).cell 3, (HCj11.out.later hW).cell 0, (HCj11.out.later hW).cell 1, (HCj11.out.later hW).cell 2, (HCj11.out.later hW).cell 3⟩)
  have HQ0 := hide (fun W (hW : Below W11.heap.size W11 W) => (CopyFault_any c _ W (HRc11.out.below hW)).mono (fun e w' h => (show e = .returned (flt (kx_, ky_)) ∧ Below W.heap.size W w' from ⟨by rw [HKE.out]; exact h.1, h.2⟩)))
  unfold cpV flt at HQ0
  have HQ1 := hide (fun W (hW : Below W11.heap.size W11 W) => SameCopy_eq ⟨pe, pc, pl, pn⟩ _ _ W (HRp11.out.below hW) (HRg11.out.below hW))
  unfold cpV at HQ1
  dsimp only at HQ1
  have HQ2 := hide (fun W (hW : Below W11.heap.size W11 W) => SameCopy_eq ⟨qe, qc, ql, qn⟩ _ _ W (HRq11.out.below hW) (HRh11.out.below hW))
  unfold cpV at HQ2
  dsimp only at HQ2
  have HQ3 := hide (fun W (hW : Below W11.heap.size W11 W) => SameCopy_eq ⟨ze, zc, zl, zn⟩ _ _ W (HRz11.out.below hW) (HRj11.out.below hW))
  unfold cpV at HQ3
  dsimp only at HQ3
  dsimp only at HQ0
  refine wp_region_heldD (S := fun W => W.cell? ⟨x4.heap.size, 0, none⟩ = some (.int .i64 kx_) ∧ W.cell? ⟨x4.heap.size, 1, none⟩ = some (.int .i64 ky_) ∧ W.cell? ⟨w.heap.size, 0, none⟩ = some (.int .i64 c.ep) ∧ W.cell? ⟨w.heap.size, 1, none⟩ = some (.bool c.cl) ∧ W.cell? ⟨w.heap.size, 2, none⟩ = some ((.slice ao c.recs.length cap)) ∧ W.cell? ⟨w.heap.size, 3, none⟩ = some (.int .i64 c.en) ∧ W.cell? ⟨x5.heap.size + 1, 0, none⟩ = some (.int .i64 px) ∧ W.cell? ⟨x5.heap.size + 1, 1, none⟩ = some (.int .i64 py) ∧ W.cell? ⟨x9.heap.size + 1, 0, none⟩ = some (.int .i64 px) ∧ W.cell? ⟨x9.heap.size + 1, 1, none⟩ = some (.int .i64 py) ∧ W.cell? ⟨x6.heap.size + 1, 0, none⟩ = some (.int .i64 qx) ∧ W.cell? ⟨x6.heap.size + 1, 1, none⟩ = some (.int .i64 qy) ∧ W.cell? ⟨x10.heap.size + 1, 0, none⟩ = some (.int .i64 qx) ∧ W.cell? ⟨x10.heap.size + 1, 1, none⟩ = some (.int .i64 qy) ∧ W.cell? ⟨x7.heap.size + 1, 0, none⟩ = some (.int .i64 zx) ∧ W.cell? ⟨x7.heap.size + 1, 1, none⟩ = some (.int .i64 zy) ∧ W.cell? ⟨x11.heap.size + 1, 0, none⟩ = some (.int .i64 zx) ∧ W.cell? ⟨x11.heap.size + 1, 1, none⟩ = some (.int .i64 zy) ∧ W.cell? ⟨x5.heap.size, 0, none⟩ = some (.int .i64 pe) ∧ W.cell? ⟨x5.heap.size, 1, none⟩ = some (.bool pc) ∧ W.cell? ⟨x5.heap.size, 2, none⟩ = some (.slice ap pl.length kp) ∧ W.cell? ⟨x5.heap.size, 3, none⟩ = some (.int .i64 pn) ∧ W.cell? ⟨x9.heap.size, 0, none⟩ = some (.int .i64 pe) ∧ W.cell? ⟨x9.heap.size, 1, none⟩ = some (.bool pc) ∧ W.cell? ⟨x9.heap.size, 2, none⟩ = some (.slice ag pl.length kg) ∧ W.cell? ⟨x9.heap.size, 3, none⟩ = some (.int .i64 pn) ∧ W.cell? ⟨x6.heap.size, 0, none⟩ = some (.int .i64 qe) ∧ W.cell? ⟨x6.heap.size, 1, none⟩ = some (.bool qc) ∧ W.cell? ⟨x6.heap.size, 2, none⟩ = some (.slice aq ql.length kq) ∧ W.cell? ⟨x6.heap.size, 3, none⟩ = some (.int .i64 qn) ∧ W.cell? ⟨x10.heap.size, 0, none⟩ = some (.int .i64 qe) ∧ W.cell? ⟨x10.heap.size, 1, none⟩ = some (.bool qc) ∧ W.cell? ⟨x10.heap.size, 2, none⟩ = some (.slice ah ql.length kh) ∧ W.cell? ⟨x10.heap.size, 3, none⟩ = some (.int .i64 qn) ∧ W.cell? ⟨x7.heap.size, 0, none⟩ = some (.int .i64 ze) ∧ W.cell? ⟨x7.heap.size, 1, none⟩ = some (.bool zc) ∧ W.cell? ⟨x7.heap.size, 2, none⟩ = some (.slice az zl.length kz) ∧ W.cell? ⟨x7.heap.size, 3, none⟩ = some (.int .i64 zn) ∧ W.cell? ⟨x11.heap.size, 0, none⟩ = some (.int .i64 ze) ∧ W.cell? ⟨x11.heap.size, 1, none⟩ = some (.bool zc) ∧ W.cell? ⟨x11.heap.size, 2, none⟩ = some (.slice aj zl.length kj) ∧ W.cell? ⟨x11.heap.size, 3, none⟩ = some (.int .i64 zn)) (n := 35) (l := (upB 35 0).toArray) (by kernel_rfl) (by kernel_rfl) (by kernel_rfl) (by kernel_rfl) (HKEEP.out _ HDR.out) (fun HNS hHeld => ?_)
  refine wpAnyH_takeD (l' := (upB 35 1).toArray) (i := 0) (fuel := 34) (v := ?v1x0) rfl HNS.out (by kernel_rfl) (by kernel_rfl) (by kernel_rfl) (fun _ _ _ h => h) (by kernel_rfl) ?y1x0 hHeld ?r1x0
  case y1x0 => (intro W hSw; (try dsimp only at hSw); go_simp; first | done | with_reducible rfl)
  try simp only [Act.put, List.setIfInBounds_toArray, List.set_cons_zero, List.set_cons_succ]
  refine wpAnyH_takeD (l' := (upB 35 2).toArray) (i := 1) (fuel := 33) (v := ?v1x1) rfl HNS.out (by kernel_rfl) (by kernel_rfl) (by kernel_rfl) (fun _ _ _ h => h) (by kernel_rfl) ?y1x1 hHeld ?r1x1
  case y1x1 => (intro W hSw; (try dsimp only at hSw); go_simp; first | done | with_reducible rfl)
  try simp only [Act.put, List.setIfInBounds_toArray, List.set_cons_zero, List.set_cons_succ]
  refine wpAnyH_oneD (l' := (upB 35 3).toArray) (i := 2) (fuel := 32) rfl (by kernel_rfl) (by kernel_rfl) (fun Kc hK => ?_)
  go_simp
  go_at_call 17
  refine (HQ0.out _ HDR.out).mono ?_
  rintro e y3 ⟨rfl, hb1⟩
  have HB0 := hide (HDR.out.trans (hb1.mono HDR.out.size))
  clear hb1
  go_wp2_with fail
  refine hK.out _ _ (HKEEP.out _ HB0.out) (fun _ => ?_)
  clear hK Kc
  try simp only [Act.put, List.setIfInBounds_toArray, List.set_cons_zero, List.set_cons_succ]
  refine wpAnyH_takeD (l' := (upB 35 4).toArray) (i := 3) (fuel := 31) (v := ?v1x3) rfl HNS.out (by kernel_rfl) (by kernel_rfl) (by kernel_rfl) (fun _ _ _ h => h) (by kernel_rfl) ?y1x3 (HKEEP.out _ HB0.out) ?r1x3
  case y1x3 => (intro W hSw; go_simp; first | done | with_reducible rfl)
  try simp only [Act.put, List.setIfInBounds_toArray, List.set_cons_zero, List.set_cons_succ]
  refine wpAnyH_takeD (l' := (upB 35 5).toArray) (i := 4) (fuel := 30) (v := ?v1x4) rfl HNS.out (by kernel_rfl) (by kernel_rfl) (by kernel_rfl) (fun _ _ _ h => h) (by kernel_rfl) ?y1x4 (HKEEP.out _ HB0.out) ?r1x4
  case y1x4 => (intro W hSw; go_simp; first | done | with_reducible rfl)
  try simp only [Act.put, List.setIfInBounds_toArray, List.set_cons_zero, List.set_cons_succ]
  refine wpAnyH_takeD (l' := (upB 35 6).toArray) (i := 5) (fuel := 29) (v := ?v1x5) rfl HNS.out (by kernel_rfl) (by kernel_rfl) (by kernel_rfl) (fun _ _ _ h => h) (by kernel_rfl) ?y1x5 (HKEEP.out _ HB0.out) ?r1x5
  case y1x5 => (intro W hSw; (try dsimp only at hSw); go_simp; first | done | with_reducible rfl)
  try simp only [Act.put, List.setIfInBounds_toArray, List.set_cons_zero, List.set_cons_succ]
  refine wpAnyH_takeD (l' := (upB 35 7).toArray) (i := 6) (fuel := 28) (v := ?v1x6) rfl HNS.out (by kernel_rfl) (by kernel_rfl) (by kernel_rfl) (fun _ _ _ h => h) (by kernel_rfl) ?y1x6 (HKEEP.out _ HB0.out) ?r1x6
  case y1x6 => (intro W hSw; (try dsimp only at hSw); go_simp; first | done | with_reducible rfl)
  try simp only [Act.put, List.setIfInBounds_toArray, List.set_cons_zero, List.set_cons_succ]
  refine wpAnyH_takeD (l' := (upB 35 8).toArray) (i := 7) (fuel := 27) (v := ?v1x7) rfl HNS.out (by kernel_rfl) (by kernel_rfl) (by kernel_rfl) (fun _ _ _ h => h) (by kernel_rfl) ?y1x7 (HKEEP.out _ HB0.out) ?r1x7
  case y1x7 => (intro W hSw; go_simp; first | done | with_reducible rfl)
  try simp only [Act.put, List.setIfInBounds_toArray, List.set_cons_zero, List.set_cons_succ]
  refine wpAnyH_takeD (l' := (upB 35 9).toArray) (i := 8) (fuel := 26) (v := ?v1x8) rfl HNS.out (by kernel_rfl) (by kernel_rfl) (by kernel_rfl) (fun _ _ _ h => h) (by kernel_rfl) ?y1x8 (HKEEP.out _ HB0.out) ?r1x8
  case y1x8 => (intro W hSw; go_simp; first | done | with_reducible rfl)
  try simp only [Act.put, List.setIfInBounds_toArray, List.set_cons_zero, List.set_cons_succ]
  refine wpAnyH_takeD (l' := (upB 35 10).toArray) (i := 9) (fuel := 25) (v := ?v1x9) rfl HNS.out (by kernel_rfl) (by kernel_rfl) (by kernel_rfl) (fun _ _ _ h => h) (by kernel_rfl) ?y1x9 (HKEEP.out _ HB0.out) ?r1x9
  case y1x9 => (intro W hSw; go_simp; first | done | with_reducible rfl)
  try simp only [Act.put, List.setIfInBounds_toArray, List.set_cons_zero, List.set_cons_succ]
  refine wpAnyH_takeD (l' := (upB 35 11).toArray) (i := 10) (fuel := 24) (v := ?v1x10) rfl HNS.out (by kernel_rfl) (by kernel_rfl) (by kernel_rfl) (fun _ _ _ h => h) (by kernel_rfl) ?y1x10 (HKEEP.out _ HB0.out) ?r1x10
  case y1x10 => (intro W hSw; (try dsimp only at hSw); go_simp; first | done | with_reducible rfl)
  try simp only [Act.put, List.setIfInBounds_toArray, List.set_cons_zero, List.set_cons_succ]
  refine wpAnyH_takeD (l' := (upB 35 12).toArray) (i := 11) (fuel := 23) (v := ?v1x11) rfl HNS.out (by kernel_rfl) (by kernel_rfl) (by kernel_rfl) (fun _ _ _ h => h) (by kernel_rfl) ?y1x11 (HKEEP.out _ HB0.out) ?r1x11
  case y1x11 => (intro W hSw; (try dsimp only at hSw); go_simp; first | done | with_reducible rfl)
  try simp only [Act.put, List.setIfInBounds_toArray, List.set_cons_zero, List.set_cons_succ]
  refine wpAnyH_takeD (l' := (upB 35 13).toArray) (i := 12) (fuel := 22) (v := ?v1x12) rfl HNS.out (by kernel_rfl) (by kernel_rfl) (by kernel_rfl) (fun _ _ _ h => h) (by kernel_rfl) ?y1x12 (HKEEP.out _ HB0.out) ?r1x12
  case y1x12 => (intro W hSw; go_simp; first | done | with_reducible rfl)
  try simp only [Act.put, List.setIfInBounds_toArray, List.set_cons_zero, List.set_cons_succ]
  refine wpAnyH_takeD (l' := (upB 35 14).toArray) (i := 13) (fuel := 21) (v := ?v1x13) rfl HNS.out (by kernel_rfl) (by kernel_rfl) (by kernel_rfl) (fun _ _ _ h => h) (by kernel_rfl) ?y1x13 (HKEEP.out _ HB0.out) ?r1x13
  case y1x13 => (intro W hSw; go_simp; first | done | with_reducible rfl)
  try simp only [Act.put, List.setIfInBounds_toArray, List.set_cons_zero, List.set_cons_succ]
  refine wpAnyH_takeD (l' := (upB 35 15).toArray) (i := 14) (fuel := 20) (v := ?v1x14) rfl HNS.out (by kernel_rfl) (by kernel_rfl) (by kernel_rfl) (fun _ _ _ h => h) (by kernel_rfl) ?y1x14 (HKEEP.out _ HB0.out) ?r1x14
  case y1x14 => (intro W hSw; go_simp; first | done | with_reducible rfl)
  try simp only [Act.put, List.setIfInBounds_toArray, List.set_cons_zero, List.set_cons_succ]
  refine wpAnyH_takeD (l' := (upB 35 16).toArray) (i := 15) (fuel := 19) (v := ?v1x15) rfl HNS.out (by kernel_rfl) (by kernel_rfl) (by kernel_rfl) (fun _ _ _ h => h) (by kernel_rfl) ?y1x15 (HKEEP.out _ HB0.out) ?r1x15
  case y1x15 => (intro W hSw; (try dsimp only at hSw); go_simp; first | done | with_reducible rfl)
  try simp only [Act.put, List.setIfInBounds_toArray, List.set_cons_zero, List.set_cons_succ]
  refine wpAnyH_takeD (l' := (upB 35 17).toArray) (i := 16) (fuel := 18) (v := ?v1x16) rfl HNS.out (by kernel_rfl) (by kernel_rfl) (by kernel_rfl) (fun _ _ _ h => h) (by kernel_rfl) ?y1x16 (HKEEP.out _ HB0.out) ?r1x16
  case y1x16 => (intro W hSw; (try dsimp only at hSw); go_simp; first | done | with_reducible rfl)
  try simp only [Act.put, List.setIfInBounds_toArray, List.set_cons_zero, List.set_cons_succ]
  refine wpAnyH_takeD (l' := (upB 35 18).toArray) (i := 17) (fuel := 17) (v := ?v1x17) rfl HNS.out (by kernel_rfl) (by kernel_rfl) (by kernel_rfl) (fun _ _ _ h => h) (by kernel_rfl) ?y1x17 (HKEEP.out _ HB0.out) ?r1x17
  case y1x17 => (intro W hSw; go_simp; first | done | with_reducible rfl)
  try simp only [Act.put, List.setIfInBounds_toArray, List.set_cons_zero, List.set_cons_succ]
  refine wpAnyH_takeD (l' := (upB 35 19).toArray) (i := 18) (fuel := 16) (v := ?v1x18) rfl HNS.out (by kernel_rfl) (by kernel_rfl) (by kernel_rfl) (fun _ _ _ h => h) (by kernel_rfl) ?y1x18 (HKEEP.out _ HB0.out) ?r1x18
  case y1x18 => (intro W hSw; go_simp; first | done | with_reducible rfl)
  try simp only [Act.put, List.setIfInBounds_toArray, List.set_cons_zero, List.set_cons_succ]
  refine wpAnyH_takeD (l' := (upB 35 20).toArray) (i := 19) (fuel := 15) (v := ?v1x19) rfl HNS.out (by kernel_rfl) (by kernel_rfl) (by kernel_rfl) (fun _ _ _ h => h) (by kernel_rfl) ?y1x19 (HKEEP.out _ HB0.out) ?r1x19
  case y1x19 => (intro W hSw; go_simp; first | done | with_reducible rfl)
  try simp only [Act.put, List.setIfInBounds_toArray, List.set_cons_zero, List.set_cons_succ]
  refine wpAnyH_takeD (l' := (upB 35 21).toArray) (i := 20) (fuel := 14) (v := ?v1x20) rfl HNS.out (by kernel_rfl) (by kernel_rfl) (by kernel_rfl) (fun _ _ _ h => h) (by kernel_rfl) ?y1x20 (HKEEP.out _ HB0.out) ?r1x20
  case y1x20 => (intro W hSw; (try dsimp only at hSw); go_simp; first | done | with_reducible rfl)
  try simp only [Act.put, List.setIfInBounds_toArray, List.set_cons_zero, List.set_cons_succ]
  refine wpAnyH_takeD (l' := (upB 35 22).toArray) (i := 21) (fuel := 13) (v := ?v1x21) rfl HNS.out (by kernel_rfl) (by kernel_rfl) (by kernel_rfl) (fun _ _ _ h => h) (by kernel_rfl) ?y1x21 (HKEEP.out _ HB0.out) ?r1x21
  case y1x21 => (intro W hSw; (try dsimp only at hSw); go_simp; first | done | with_reducible rfl)
  try simp only [Act.put, List.setIfInBounds_toArray, List.set_cons_zero, List.set_cons_succ]
  refine wpAnyH_oneD (l' := (upB 35 23).toArray) (i := 22) (fuel := 12) rfl (by kernel_rfl) (by kernel_rfl) (fun Kc hK => ?_)
  go_simp
  go_at_call 12
  refine (HQ1.out _ HB0.out).mono ?_
  rintro e y4 ⟨rfl, hb1⟩
  have HB1 := hide (HB0.out.trans (hb1.mono HB0.out.size))
  clear hb1
  go_wp2_with fail
  refine hK.out _ _ (HKEEP.out _ HB1.out) (fun _ => ?_)
  clear hK Kc
  try simp only [Act.put, List.setIfInBounds_toArray, List.set_cons_zero, List.set_cons_succ]
  refine wpAnyH_takeD (l' := (upB 35 24).toArray) (i := 23) (fuel := 11) (v := ?v1x23) rfl HNS.out (by kernel_rfl) (by kernel_rfl) (by kernel_rfl) (fun _ _ _ h => h) (by kernel_rfl) ?y1x23 (HKEEP.out _ HB1.out) ?r1x23
  case y1x23 => (intro W hSw; go_simp; first | done | with_reducible rfl)
  try simp only [Act.put, List.setIfInBounds_toArray, List.set_cons_zero, List.set_cons_succ]
  refine wpAnyH_takeD (l' := (upB 35 25).toArray) (i := 24) (fuel := 10) (v := ?v1x24) rfl HNS.out (by kernel_rfl) (by kernel_rfl) (by kernel_rfl) (fun _ _ _ h => h) (by kernel_rfl) ?y1x24 (HKEEP.out _ HB1.out) ?r1x24
  case y1x24 => (intro W hSw; go_simp; first | done | with_reducible rfl)
  try simp only [Act.put, List.setIfInBounds_toArray, List.set_cons_zero, List.set_cons_succ]
  refine wpAnyH_takeD (l' := (upB 35 26).toArray) (i := 25) (fuel := 9) (v := ?v1x25) rfl HNS.out (by kernel_rfl) (by kernel_rfl) (by kernel_rfl) (fun _ _ _ h => h) (by kernel_rfl) ?y1x25 (HKEEP.out _ HB1.out) ?r1x25
  case y1x25 => (intro W hSw; (try dsimp only at hSw); go_simp; first | done | with_reducible rfl)
  try simp only [Act.put, List.setIfInBounds_toArray, List.set_cons_zero, List.set_cons_succ]
  refine wpAnyH_takeD (l' := (upB 35 27).toArray) (i := 26) (fuel := 8) (v := ?v1x26) rfl HNS.out (by kernel_rfl) (by kernel_rfl) (by kernel_rfl) (fun _ _ _ h => h) (by kernel_rfl) ?y1x26 (HKEEP.out _ HB1.out) ?r1x26
  case y1x26 => (intro W hSw; (try dsimp only at hSw); go_simp; first | done | with_reducible rfl)
  try simp only [Act.put, List.setIfInBounds_toArray, List.set_cons_zero, List.set_cons_succ]
  refine wpAnyH_oneD (l' := (upB 35 28).toArray) (i := 27) (fuel := 7) rfl (by kernel_rfl) (by kernel_rfl) (fun Kc hK => ?_)
  go_simp
  go_at_call 12
  refine (HQ2.out _ HB1.out).mono ?_
  rintro e y5 ⟨rfl, hb1⟩
  have HB2 := hide (HB1.out.trans (hb1.mono HB1.out.size))
  clear hb1
  go_wp2_with fail
  refine hK.out _ _ (HKEEP.out _ HB2.out) (fun _ => ?_)
  clear hK Kc
  try simp only [Act.put, List.setIfInBounds_toArray, List.set_cons_zero, List.set_cons_succ]
  refine wpAnyH_takeD (l' := (upB 35 29).toArray) (i := 28) (fuel := 6) (v := ?v1x28) rfl HNS.out (by kernel_rfl) (by kernel_rfl) (by kernel_rfl) (fun _ _ _ h => h) (by kernel_rfl) ?y1x28 (HKEEP.out _ HB2.out) ?r1x28
  case y1x28 => (intro W hSw; go_simp; first | done | with_reducible rfl)
  try simp only [Act.put, List.setIfInBounds_toArray, List.set_cons_zero, List.set_cons_succ]
  refine wpAnyH_takeD (l' := (upB 35 30).toArray) (i := 29) (fuel := 5) (v := ?v1x29) rfl HNS.out (by kernel_rfl) (by kernel_rfl) (by kernel_rfl) (fun _ _ _ h => h) (by kernel_rfl) ?y1x29 (HKEEP.out _ HB2.out) ?r1x29
  case y1x29 => (intro W hSw; go_simp; first | done | with_reducible rfl)
  try simp only [Act.put, List.setIfInBounds_toArray, List.set_cons_zero, List.set_cons_succ]
  refine wpAnyH_takeD (l' := (upB 35 31).toArray) (i := 30) (fuel := 4) (v := ?v1x30) rfl HNS.out (by kernel_rfl) (by kernel_rfl) (by kernel_rfl) (fun _ _ _ h => h) (by kernel_rfl) ?y1x30 (HKEEP.out _ HB2.out) ?r1x30
  case y1x30 => (intro W hSw; (try dsimp only at hSw); go_simp; first | done | with_reducible rfl)
  try simp only [Act.put, List.setIfInBounds_toArray, List.set_cons_zero, List.set_cons_succ]
  refine wpAnyH_takeD (l' := (upB 35 32).toArray) (i := 31) (fuel := 3) (v := ?v1x31) rfl HNS.out (by kernel_rfl) (by kernel_rfl) (by kernel_rfl) (fun _ _ _ h => h) (by kernel_rfl) ?y1x31 (HKEEP.out _ HB2.out) ?r1x31
  case y1x31 => (intro W hSw; (try dsimp only at hSw); go_simp; first | done | with_reducible rfl)
  try simp only [Act.put, List.setIfInBounds_toArray, List.set_cons_zero, List.set_cons_succ]
  refine wpAnyH_oneD (l' := (upB 35 33).toArray) (i := 32) (fuel := 2) rfl (by kernel_rfl) (by kernel_rfl) (fun Kc hK => ?_)
  go_simp
  go_at_call 12
  refine (HQ3.out _ HB2.out).mono ?_
  rintro e y6 ⟨rfl, hb1⟩
  have HB3 := hide (HB2.out.trans (hb1.mono HB2.out.size))
  clear hb1
  go_wp2_with fail
  refine hK.out _ _ (HKEEP.out _ HB3.out) (fun _ => ?_)
  clear hK Kc
  try simp only [Act.put, List.setIfInBounds_toArray, List.set_cons_zero, List.set_cons_succ]
  refine wpAnyH_takeD (l' := (upB 35 34).toArray) (i := 33) (fuel := 1) (v := ?v1x33) rfl HNS.out (by kernel_rfl) (by kernel_rfl) (by kernel_rfl) (fun _ _ _ h => h) (by kernel_rfl) ?y1x33 (HKEEP.out _ HB3.out) ?r1x33
  case y1x33 => (intro W hSw; go_simp; first | done | with_reducible rfl)
  try simp only [Act.put, List.setIfInBounds_toArray, List.set_cons_zero, List.set_cons_succ]
  refine wpAnyH_takeD (l' := (upB 35 35).toArray) (i := 34) (fuel := 0) (v := ?v1x34) rfl HNS.out (by kernel_rfl) (by kernel_rfl) (by kernel_rfl) (fun _ _ _ h => h) (by kernel_rfl) ?y1x34 (HKEEP.out _ HB3.out) ?r1x34
  case y1x34 => (intro W hSw; go_simp; first | done | with_reducible rfl)
  try simp only [Act.put, List.setIfInBounds_toArray, List.set_cons_zero, List.set_cons_succ]
  refine wpAnyH_done (by kernel_rfl) ?_ _
  go_wp2_with fail
  go_ret
  exact ⟨rfl, HA11.out.trans (HB3.out.mono HA11.out.size)⟩

/-- The same in the order in which the row's arguments come. -/
theorem sealDoes_fr {p1 p2 : Prop} (e_ at_ : Int) (u : Value) (c : Cp) (v : Value) (r : ByteArray) (m : List ByteArray) (w : World) (hv : RdG txE w v c.recs) (_ : p1) (_ : p2) (hu : RdG txE w u m) :
    Calls Try.prog 3 #[cpV c v, .int .i64 e_, .int .i64 at_, .string r, u] w fun e w' => e = .returned (.bool true) ∧ Below w.heap.size w w' := sealDoes_any c v e_ at_ r u m w hv hu

end Go.Proofs.Ytopnjklloleomaa

/-
  From the arguments as the row reads them to what the walks ask of them. Nothing of a program stands here.
-/
namespace Go.Proofs.Ytopnjklloleomaa
open Go.ChangeShapes Go.WideShapes Go.ChangeAt Go.RowKit

section
variable {H : Type} {enc : TypeId × Value → H} {P : Program} {W : World}

theorem rd_of_cells {w : World} {a : Addr} {len cap : Nat} {xs : List Value} (hl : xs.length = len) (h1 : len ≤ cap) (h2 : cap ≤ maxLen) (h : ∀ i, i < len → w.cell? (a.add i) = xs[i]?) : Rd w (.slice (some a) len cap) xs := by
  refine ⟨some a, cap, by rw [hl], by omega, h2, (fun h => by cases h), fun b hb j u hu => ?_⟩
  cases hb
  rw [h j (by have := (List.getElem?_eq_some_iff.1 hu).1; omega), hu]

theorem open_ic {t e : TypeId} {a : Option Addr} {len cap : Nat} {d : DataW H} {ps : List MemPlace} (ht : P.underlying t = some (.slice e)) (he : P.underlying e = some (.int .i64)) (hc : P.cellsOf e = 1)
    (h : DataW.Trod enc P W 0 (fun _ => true) true t (.slice a len cap) d ps) : ∃ zs : List Int, Rd W (.slice a len cap) (ic zs) := by
  obtain ⟨fuel, hf⟩ := h
  rcases open_ints ht he hc hf with ⟨hcs, _⟩ | ⟨x, l, c, zs, hcs, _, hl, hm, hz, _, hcell, hwz⟩
  · simp [Value.cells] at hcs
    obtain ⟨rfl, rfl, rfl⟩ := hcs
    exact ⟨[], Rd.nil _⟩
  · simp [Value.cells] at hcs
    obtain ⟨rfl, rfl, rfl⟩ := hcs
    simp at hz
    refine ⟨zs.take len, rd_of_cells (by rw [ic_length, List.length_take]; omega) hl hm fun i hi => ?_⟩
    rw [hcell i (by omega)]
    simp [ic, List.getD, hi, show i < zs.length by omega]

theorem open_bc {t e : TypeId} {a : Option Addr} {len cap fuel : Nat} {d : DataW H} {ps : List MemPlace} (ht : P.underlying t = some (.slice e)) (he : P.underlying e = some (.int .u8)) (hc : P.cellsOf e = 1)
    (hf : DataW.trod enc P W 0 (fun _ => true) true fuel t [.slice a len cap] = some (d, ps)) : ∃ bs : List UInt8, Rd W (.slice a len cap) (bc bs) := by
  rcases open_ints ht he hc hf with ⟨hcs, _⟩ | ⟨x, l, c, zs, hcs, _, hl, hm, hz, _, hcell, hwz⟩
  · simp at hcs
    obtain ⟨rfl, rfl, rfl⟩ := hcs
    exact ⟨[], Rd.nil _⟩
  · simp at hcs
    obtain ⟨rfl, rfl, rfl⟩ := hcs
    simp at hz
    refine ⟨(zs.take len).map fun n => UInt8.ofNat n.toNat, rd_of_cells (by rw [bc_length, List.length_map, List.length_take]; omega) hl hm fun i hi => ?_⟩
    rw [hcell i (by omega)]
    have hi' : i < zs.length := by omega
    have hb := bounds_u8 (hwz zs[i] (List.getElem_mem hi'))
    have e : ((UInt8.ofNat zs[i].toNat).toNat : Int) = zs[i] := by
      simp only [UInt8.toNat_ofNat']
      omega
    simp only [bc, List.getElem?_map, List.getElem?_take, if_pos hi, List.getElem?_eq_getElem hi', Option.map_some, List.getD, Option.getD_some, e]

theorem open_bc' {t e : TypeId} {a : Option Addr} {len cap : Nat} {d : DataW H} {ps : List MemPlace} (ht : P.underlying t = some (.slice e)) (he : P.underlying e = some (.int .u8)) (hc : P.cellsOf e = 1)
    (h : DataW.Trod enc P W 0 (fun _ => true) true t (.slice a len cap) d ps) : ∃ bs : List UInt8, Rd W (.slice a len cap) (bc bs) := by
  obtain ⟨fuel, hf⟩ := h
  exact open_bc ht he hc (by simpa [Value.cells] using hf)

theorem weightsAll_mem {e : TypeId} : ∀ {l : List (DataW H)} {d : DataW H} {n : Nat}, d ∈ l → n ∈ d.weights P e → n ∈ DataW.weightsAll P e l
  | x :: l, d, n, hd, hn => by
    simp only [DataW.weightsAll, List.mem_append]
    rcases List.mem_cons.1 hd with rfl | hd
    · exact .inl hn
    · exact .inr (weightsAll_mem hd hn)

/-- A list of texts; none is longer than the form's reach. -/
theorem open_sc {t e : TypeId} {a : Option Addr} {len cap : Nat} {d : DataW H} {ps : List MemPlace} (ht : P.underlying t = some (.slice e)) (he : P.underlying e = some .string) (hc : P.cellsOf e = 1)
    (h : DataW.Trod enc P W 0 (fun _ => true) true t (.slice a len cap) d ps) (hw : ∀ n ∈ d.weights P t, n ≤ reachBytes) : ∃ ss : List (List UInt8), Rd W (.slice a len cap) (sc ss) ∧ ∀ s ∈ ss, s.length ≤ 140737488351232 := by
  obtain ⟨fuel, hf⟩ := h
  rcases open_strings ht he hc hf with ⟨hcs, _⟩ | ⟨x, l, c, zs, hcs, _, hl, hm, hz, hx, hcell, hwz⟩
  · simp [Value.cells] at hcs
    obtain ⟨rfl, rfl, rfl⟩ := hcs
    exact ⟨[], Rd.nil _, by simp⟩
  · simp [Value.cells] at hcs
    obtain ⟨rfl, rfl, rfl⟩ := hcs
    simp at hz
    simp only [Prod.mk.injEq] at hx
    obtain ⟨rfl, _⟩ := hx
    refine ⟨(zs.take len).map fun s => s.data.toList, rd_of_cells (by rw [sc_length, List.length_map, List.length_take]; omega) hl hm fun i hi => ?_, fun s hs => ?_⟩
    · rw [hcell i (by omega)]
      have hi' : i < zs.length := by omega
      simp only [sc, List.getElem?_map, List.getElem?_take, if_pos hi, List.getElem?_eq_getElem hi', Option.map_some, List.getD, Option.getD_some, Array.toArray_toList]
    · obtain ⟨y, hy, rfl⟩ := List.mem_map.1 hs
      have := hw y.data.toList.length (by
        simp only [DataW.weights, ht, List.mem_cons, List.mem_append]
        refine .inr (.inl (weightsAll_mem (d := .lit (.string y.data.toList)) (List.mem_map.2 ⟨y, hy, rfl⟩) ?_))
        simp [DataW.weights])
      simpa [reachBytes] using this

end
end Go.Proofs.Ytopnjklloleomaa

/-
  From lists of flat structures as the row reads them to what the walks ask of them. Nothing of a program stands here.
-/
namespace Go.Proofs.Ytopnjklloleomaa
open Go.ChangeShapes Go.WideShapes Go.ChangeAt Go.RowKit Go.Joins Go.Deep

section
variable {H : Type} {enc : TypeId × Value → H} {P : Program} {W : World}

theorem choose_listG {α : Type} {p : Nat → α → Prop} : ∀ (n : Nat), (∀ i, i < n → ∃ x, p i x) → ∃ l : List α, l.length = n ∧ ∀ i x, l[i]? = some x → p i x
  | 0, _ => ⟨[], rfl, fun i x h => by simp at h⟩
  | n + 1, h => by
    obtain ⟨l, hl, hp⟩ := choose_listG n (fun i hi => h i (by omega))
    obtain ⟨x, hx⟩ := h n (by omega)
    refine ⟨l ++ [x], by simp [hl], fun i y hy => ?_⟩
    by_cases hi : i < n
    · rw [List.getElem?_append_left (by omega)] at hy
      exact hp i y hy
    · have hlt := (List.getElem?_eq_some_iff.1 hy).1
      simp at hlt
      have e : i = n := by omega
      subst e
      rw [List.getElem?_append_right (by omega), hl] at hy
      simp at hy
      subst hy
      exact hx

theorem vs_div {α : Type} {K : Nat} {E : En α K} {cs : List α} {j : Nat} {u : Value} (h : (E.vs cs)[j]? = some u) : ∃ i k c, j = i * K + k ∧ k < K ∧ cs[i]? = some c ∧ (E.v c)[k]? = some u := by
  have hl := (List.getElem?_eq_some_iff.1 h).1
  rw [vs_length] at hl
  have hp := E.pos
  have hi : j / K < cs.length := Nat.div_lt_of_lt_mul (by rw [Nat.mul_comm]; exact hl)
  have hk : j % K < K := Nat.mod_lt _ hp
  have e : j = j / K * K + j % K := by rw [Nat.mul_comm]; exact (Nat.div_add_mod j K).symm
  refine ⟨j / K, j % K, cs[j / K], e, hk, List.getElem?_eq_getElem hi, ?_⟩
  rw [← vs_get (E := E) cs (j / K) hi (j % K) hk, ← e, h]

/-- A list of flat structures; 'hel': what one of them reads as. -/
theorem open_gl {α : Type} {K : Nat} (E : En α K) (ok : α → Prop) {t e : TypeId} {a : Option Addr} {len cap : Nat} {d : DataW H} {ps : List MemPlace} (ht : P.underlying t = some (.slice e)) (hC : P.cellsOf e = K)
    (hel : ∀ (fuel : Nat) (cs : List Value) (y : DataW H × List MemPlace), cs.length = K → DataW.trod enc P W 0 (fun _ => true) true fuel e cs = some y → ∃ c : α, cs = E.v c ∧ ok c)
    (h : DataW.Trod enc P W 0 (fun _ => true) true t (.slice a len cap) d ps) : ∃ xs : List α, RdG E W (.slice a len cap) xs ∧ ∀ x ∈ xs, ok x := by
  obtain ⟨fuel, hf⟩ := h
  have hf' : DataW.trod enc P W 0 (fun _ => true) true fuel t [.slice a len cap] = some (d, ps) := by simpa [Value.cells] using hf
  rcases open_slice ht hf' with ⟨hcs, _⟩ | ⟨b, len', cap', m, n, D, Pl, hcs, hb, hl, hm, hmm, hxx, hx⟩
  · simp only [List.cons.injEq, and_true] at hcs
    rw [hcs]
    exact ⟨[], RdG.nil _, by simp⟩
  · simp only [List.cons.injEq, and_true] at hcs
    rw [hcs]
    have hlm : len' ≤ m := by rw [hmm]; split <;> omega
    have each : ∀ i, i < len' → ∃ c : α, (∀ k u, (E.v c)[k]? = some u → W.cell? (b.add (i * K + k)) = some u) ∧ ok c := by
      intro i hi
      obtain ⟨cs', g1, g2⟩ := hx i (by omega)
      rw [hC] at g1
      obtain ⟨_, hlen, hcell⟩ := World.cells?_some g1
      obtain ⟨c, hc, hok⟩ := hel _ cs' _ (by simpa using hlen) g2
      refine ⟨c, fun k u hu => ?_, hok⟩
      have hk : k < K := by have := (List.getElem?_eq_some_iff.1 hu).1; rwa [E.len] at this
      have := hcell k hk
      rw [add_add] at this
      rw [this, hc, hu]
    obtain ⟨cs, hcl, hcp⟩ := choose_listG len' each
    refine ⟨cs, ⟨some b, cap', by rw [hcl], by omega, hm, (fun h => by cases h), fun b' hb' j u hu => ?_⟩, fun c hc => ?_⟩
    · cases hb'
      obtain ⟨i, k, c, rfl, _, hi, hk⟩ := vs_div hu
      exact (hcp i c hi).1 k u hk
    · obtain ⟨i, hi, e⟩ := List.getElem_of_mem hc
      exact (hcp i c (by rw [List.getElem?_eq_getElem hi, e])).2

end
end Go.Proofs.Ytopnjklloleomaa
