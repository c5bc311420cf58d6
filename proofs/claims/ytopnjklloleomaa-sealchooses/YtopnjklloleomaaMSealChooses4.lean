/-
  Texts joined: SealW7, SealC1, SealC2, SealR1, SealR2, SealC3, SealC4.
-/
import Derived.Test.YtopnjklloleomaaMSealChooses3
/-
  The walk over seal.End. (Written by sw7.py.)
-/
namespace Go.Proofs.Ytopnjklloleomaa
open Go.RowKit
set_option linter.unusedVariables false

theorem endF_eq (c : Cp) (e_ : Int) (m : List ByteArray) : chF (epF c e_ (chosF m)) (0, 0) = endF c e_ m := chF_zero epF_z

theorem endC_eq (c : Cp) (e_ : Int) (m : List ByteArray) : chC (epF c e_ (chosF m)) (0, 0) e_ ⟨c.ep, true, m, e_⟩ = endC c e_ m := by
  unfold chC endC
  rw [endF_eq]

theorem epF_given {c : Cp} {e_ : Int} {g : Int × Int} (h : (epF c e_ g).1 = 0) : g.1 = 0 := by
  unfold epF at h
  split at h
  · contradiction
  split at h
  · simp at h
  split at h
  · contradiction
  rename_i q
  exact Decidable.not_not.1 q

theorem chosF_len {m : List ByteArray} (h : (chosF m).1 = 0) : m.length ≤ 1000 := by
  unfold chosF at h
  split at h
  · simp at h
  omega

set_option maxRecDepth 100000 in
set_option maxHeartbeats 4000000 in
theorem End_any (c : Cp) (v u : Value) (e_ : Int) (m : List ByteArray) (w : World) (hv : RdG txE w v c.recs) (hu : RdG txE w u m) :
    Calls Try.prog 11 #[cpV c v, .int .i64 e_, u] w fun e w' => ∃ v', e = .returned (.tuple #[cpV (endC c e_ m) v', flt (endF c e_ m)]) ∧ w'.ownsRow w.heap.size 9 1 v' (endC c e_ m).recs.length (txE.vs (endC c e_ m).recs) ∧ Below w.heap.size w w' := by
  obtain ⟨ao, cap, rfl, _, _⟩ := hv.shape
  obtain ⟨mo, mc, rfl, _, _⟩ := hu.shape
  obtain ⟨hB, hY, hX, hR, hQ, hA⟩ := five_atS w (cpA c (.slice ao c.recs.length cap)) #[.int .i64 e_] #[.slice mo m.length mc] #[.int .i64 0, .bool false, .slice none 0 0, .int .i64 0] #[.int .i64 0, .int .i64 0] 24 3 22 24 29
  have HB0 := hide hB
  have HX0 := hide hX
  have HY0 := hide hY
  have HR0 := hide hR
  have HQ0 := hide hQ
  have HA0 := hide hA
  have HU := hide hu
  have HV := hide hv
  have HSZ : Hid ((((((w.alloc (.cells (cpA c (.slice ao c.recs.length cap)) 24)).alloc (.cells #[.int .i64 e_] 3)).alloc (.cells #[.slice mo m.length mc] 22)).alloc (.cells #[.int .i64 0, .bool false, .slice none 0 0, .int .i64 0] 24)).alloc (.cells #[.int .i64 0, .int .i64 0] 29)).heap.size = w.heap.size + 5) := hide (by simp)
  have HGZ := hide (chosF_z m)
  have HFE := hide (endF_eq c e_ m)
  have HCE := hide (endC_eq c e_ m)
  clear hv hu hB hX hY hR hQ hA
  unfold cpA at HB0 HX0 HY0 HR0 HQ0 HA0 HSZ
  unfold cpV
  go_enter Try.func11, Try.ntmps11
  go_wp2_with fail
  generalize ((((w.alloc (.cells #[.int .i64 c.ep, .bool c.cl, .slice ao c.recs.length cap, .int .i64 c.en] 24)).alloc (.cells #[.int .i64 e_] 3)).alloc (.cells #[.slice mo m.length mc] 22)).alloc (.cells #[.int .i64 0, .bool false, .slice none 0 0, .int .i64 0] 24)).alloc (.cells #[.int .i64 0, .int .i64 0] 29) = A at *
  have HCF := hide (chosenFault_any _ m A.drew (RdG.drew (HU.out.below HA0.out)))
  have HCH : Hid (∀ W, Below A.heap.size A W → Calls Try.prog 24 #[cpV c (.slice ao c.recs.length cap), .int .i64 e_, flt (chosF m), .func (.func 29) #[] #[.pointer (some ⟨w.heap.size + 1 + 1, 0, none⟩), .pointer (some ⟨w.heap.size + 1, 0, none⟩)]] W fun e w' => ∃ v', e = .returned (.tuple #[cpV (endC c e_ m) v', flt (endF c e_ m)]) ∧ w'.ownsRow W.heap.size 9 1 v' (endC c e_ m).recs.length (txE.vs (endC c e_ m).recs) ∧ Below W.heap.size W w') := hide fun W hW => by
    have := changedEnd_any (w.heap.size + 1 + 1) (w.heap.size + 1) c ⟨c.ep, true, m, e_⟩ _ e_ (chosF m) (0, 0) (chosF_z m) (fun _ => rfl) W ((HV.out.below HA0.out).below hW) (fun h0 w3 v3 base h3 ho3 hb1 hb2 hb3 => (End1_any _ _ _ c v3 e_ _ m w3 h3 ((HX0.out.later hW).later hb3) ((HY0.out.later hW).later hb3) (((HU.out.below HA0.out).below hW).below hb3) (chosF_len (epF_given h0)) w HU.out (Nat.le_trans HA0.out.size hW.size)).mono (fun e w4 ⟨v4, he, hC4, ho4, hg4⟩ => ⟨he, fun _ => ⟨v4, hC4, owns_base0 ho4 hb2⟩, kp_of_grown hg4⟩))
    rw [endF_eq, endC_eq] at this
    exact this
  generalize hcl : endC c e_ m = RC at *
  generalize hcf : endF c e_ m = RF at *
  generalize hcg : chosF m = G at *
  obtain ⟨rep, rcl, rl, ren⟩ := RC
  obtain ⟨fx, fy⟩ := RF
  obtain ⟨gx, gy⟩ := G
  have HCLE := hide hcl
  have HCFE := hide hcf
  clear hcl hcf hcg HFE HCE HGZ
  unfold cpV flt at HCH
  unfold flt at HCF
  have bl0 : w.heap.size < A.heap.size := HB0.out.lt
  have bl1 : w.heap.size + 1 < A.heap.size := HY0.out.lt
  have bl2 : w.heap.size + 1 + 1 < A.heap.size := HX0.out.lt
  have bl3 : w.heap.size + 1 + 1 + 1 < A.heap.size := HR0.out.lt
  have bl4 : w.heap.size + 1 + 1 + 1 + 1 < A.heap.size := HQ0.out.lt
  have HT1 : Hid (∀ W, Below A.drew.heap.size A.drew W → Below A.heap.size A W) := hide fun W h => ⟨h.os, h.tape, h.output, h.size, h.block⟩
  have HT2 : Hid (∀ W1 W, Below A.heap.size A W1 → Below W1.heap.size W1 W → Below A.heap.size A W) := hide fun W1 W h1 h => h1.trans (h.mono h1.size)
  have HKEEP : Hid (∀ W, Below (w.heap.size + 1 + 1 + 1) A W → W.cell? ⟨w.heap.size, 0, none⟩ = some (.int .i64 c.ep) ∧ W.cell? ⟨w.heap.size, 1, none⟩ = some (.bool c.cl) ∧ W.cell? ⟨w.heap.size, 2, none⟩ = some (.slice ao c.recs.length cap) ∧ W.cell? ⟨w.heap.size, 3, none⟩ = some (.int .i64 c.en) ∧ W.cell? ⟨w.heap.size + 1, 0, none⟩ = some (.int .i64 e_) ∧ W.cell? ⟨w.heap.size + 1 + 1, 0, none⟩ = some (.slice mo m.length mc)) := hide fun W hW => ⟨(hW.cell (by show w.heap.size < _; omega)).trans (HB0.out.cell 0), (hW.cell (by show w.heap.size < _; omega)).trans (HB0.out.cell 1), (hW.cell (by show w.heap.size < _; omega)).trans (HB0.out.cell 2), (hW.cell (by show w.heap.size < _; omega)).trans (HB0.out.cell 3), (hW.cell (by show w.heap.size + 1 < _; omega)).trans (HY0.out.cell 0), (hW.cell (by show w.heap.size + 1 + 1 < _; omega)).trans (HX0.out.cell 0)⟩
  have HRC : Hid (∀ W, Below A.heap.size A W → Blk W (w.heap.size + 1 + 1 + 1) 24 #[.int .i64 0, .bool false, .slice none 0 0, .int .i64 0] ∧ W.cell? ⟨w.heap.size + 1 + 1 + 1, 0, none⟩ = some (.int .i64 0) ∧ W.cell? ⟨w.heap.size + 1 + 1 + 1, 1, none⟩ = some (.bool false) ∧ W.cell? ⟨w.heap.size + 1 + 1 + 1, 2, none⟩ = some (.slice none 0 0) ∧ W.cell? ⟨w.heap.size + 1 + 1 + 1, 3, none⟩ = some (.int .i64 0) ∧ W.frozen? ⟨w.heap.size + 1 + 1 + 1, 0, none⟩ = false ∧ W.frozen? ⟨w.heap.size + 1 + 1 + 1, 1, none⟩ = false ∧ W.frozen? ⟨w.heap.size + 1 + 1 + 1, 2, none⟩ = false ∧ W.frozen? ⟨w.heap.size + 1 + 1 + 1, 3, none⟩ = false) := hide fun W h => have q := HR0.out.later h; ⟨q, q.cell 0, q.cell 1, q.cell 2, q.cell 3, q.frozen 0, q.frozen 1, q.frozen 2, q.frozen 3⟩
  have HQC : Hid (∀ W, Below A.heap.size A W → Blk W (w.heap.size + 1 + 1 + 1 + 1) 29 #[.int .i64 0, .int .i64 0] ∧ W.cell? ⟨w.heap.size + 1 + 1 + 1 + 1, 0, none⟩ = some (.int .i64 0) ∧ W.cell? ⟨w.heap.size + 1 + 1 + 1 + 1, 1, none⟩ = some (.int .i64 0) ∧ W.frozen? ⟨w.heap.size + 1 + 1 + 1 + 1, 0, none⟩ = false ∧ W.frozen? ⟨w.heap.size + 1 + 1 + 1 + 1, 1, none⟩ = false) := hide fun W h => have q := HQ0.out.later h; ⟨q, q.cell 0, q.cell 1, q.frozen 0, q.frozen 1⟩
  have HMO : Hid (∀ W, Below A.heap.size A W → Below (w.heap.size + 1 + 1 + 1) A W) := hide fun W h => h.mono (by omega)
  go_region_held3 (fun W => W.cell? ⟨w.heap.size, 0, none⟩ = some (.int .i64 c.ep) ∧ W.cell? ⟨w.heap.size, 1, none⟩ = some (.bool c.cl) ∧ W.cell? ⟨w.heap.size, 2, none⟩ = some (.slice ao c.recs.length cap) ∧ W.cell? ⟨w.heap.size, 3, none⟩ = some (.int .i64 c.en) ∧ W.cell? ⟨w.heap.size + 1, 0, none⟩ = some (.int .i64 e_) ∧ W.cell? ⟨w.heap.size + 1 + 1, 0, none⟩ = some (.slice mo m.length mc)) (exact HKEEP.out _ (by go_grown)) (first
    | (go_at_call 28; refine HCF.out.mono ?_; rintro e w1 ⟨rfl, hb1⟩; have hbA1 := HT1.out _ hb1; have hsA1 := hbA1.size; have hbD1 := HMO.out _ hbA1; clear hb1)
    | (go_at_call 24; refine (HCH.out w1 (by exact hbA1)).mono ?_; rintro e w2 ⟨v2, rfl, ho2, hb2⟩; obtain ⟨ao2, cap2, hv2⟩ := owns_shape ho2; subst hv2; have hbA2 := HT2.out _ _ hbA1 hb2; have hsA2 := hbA2.size; have hbD2 := HMO.out _ hbA2; obtain ⟨hR2, rc0, rc1, rc2, rc3, rz0, rz1, rz2, rz3⟩ := HRC.out _ hbA2; obtain ⟨hQ2, qc0, qc1, qz0, qz1⟩ := HQC.out _ hbA2; clear hb2))
  all_goals
    have HOR := owns_off ho2 hR2 (by decide)
    have HOQ := owns_off ho2 hQ2 (by decide)
    have hR9 := ((((((hR2.set 0 (.int .i64 rep)).set 1 (.bool rcl)).set 2 (.slice ao2 rl.length cap2)).set 3 (.int .i64 ren)).other (p := ⟨w.heap.size + 1 + 1 + 1 + 1, 0, none⟩) (show w.heap.size + 1 + 1 + 1 ≠ w.heap.size + 1 + 1 + 1 + 1 by omega) (.int .i64 fx)).other (p := ⟨w.heap.size + 1 + 1 + 1 + 1, 1, none⟩) (show w.heap.size + 1 + 1 + 1 ≠ w.heap.size + 1 + 1 + 1 + 1 by omega) (.int .i64 fy))
    have hQ9 := ((((((hQ2.other (p := ⟨w.heap.size + 1 + 1 + 1, 0, none⟩) (show w.heap.size + 1 + 1 + 1 + 1 ≠ w.heap.size + 1 + 1 + 1 by omega) (.int .i64 rep)).other (p := ⟨w.heap.size + 1 + 1 + 1, 1, none⟩) (show w.heap.size + 1 + 1 + 1 + 1 ≠ w.heap.size + 1 + 1 + 1 by omega) (.bool rcl)).other (p := ⟨w.heap.size + 1 + 1 + 1, 2, none⟩) (show w.heap.size + 1 + 1 + 1 + 1 ≠ w.heap.size + 1 + 1 + 1 by omega) (.slice ao2 rl.length cap2)).other (p := ⟨w.heap.size + 1 + 1 + 1, 3, none⟩) (show w.heap.size + 1 + 1 + 1 + 1 ≠ w.heap.size + 1 + 1 + 1 by omega) (.int .i64 ren)).set 0 (.int .i64 fx)).set 1 (.int .i64 fy))
    have hO9 := (owns_setOther (owns_setOther (owns_setOther (owns_setOther (owns_setOther (owns_setOther ho2 (p := ⟨w.heap.size + 1 + 1 + 1, 0, none⟩) HOR (.int .i64 rep)) (p := ⟨w.heap.size + 1 + 1 + 1, 1, none⟩) HOR (.bool rcl)) (p := ⟨w.heap.size + 1 + 1 + 1, 2, none⟩) HOR (.slice ao2 rl.length cap2)) (p := ⟨w.heap.size + 1 + 1 + 1, 3, none⟩) HOR (.int .i64 ren)) (p := ⟨w.heap.size + 1 + 1 + 1 + 1, 0, none⟩) HOQ (.int .i64 fx)) (p := ⟨w.heap.size + 1 + 1 + 1 + 1, 1, none⟩) HOQ (.int .i64 fy))
    simp only [List.setIfInBounds_toArray, List.set_cons_succ, List.set_cons_zero] at hR9 hQ9
    have hb9 : Below w.heap.size w (((((((w2.setCell ⟨w.heap.size + 1 + 1 + 1, 0, none⟩ (.int .i64 rep)).setCell ⟨w.heap.size + 1 + 1 + 1, 1, none⟩ (.bool rcl)).setCell ⟨w.heap.size + 1 + 1 + 1, 2, none⟩ (.slice ao2 rl.length cap2)).setCell ⟨w.heap.size + 1 + 1 + 1, 3, none⟩ (.int .i64 ren)).setCell ⟨w.heap.size + 1 + 1 + 1 + 1, 0, none⟩ (.int .i64 fx)).setCell ⟨w.heap.size + 1 + 1 + 1 + 1, 1, none⟩ (.int .i64 fy))) := (HA0.out.trans (hbA2.mono HA0.out.size)).trans (by go_grown)
    clear rc0 rc1 rc2 rc3 rz0 rz1 rz2 rz3 qc0 qc1 qz0 qz1 hR2 hQ2 ho2 HOR HOQ
    have HSW := hide (Nat.le_trans HA0.out.size hsA1)
    generalize ((((((w2.setCell ⟨w.heap.size + 1 + 1 + 1, 0, none⟩ (.int .i64 rep)).setCell ⟨w.heap.size + 1 + 1 + 1, 1, none⟩ (.bool rcl)).setCell ⟨w.heap.size + 1 + 1 + 1, 2, none⟩ (.slice ao2 rl.length cap2)).setCell ⟨w.heap.size + 1 + 1 + 1, 3, none⟩ (.int .i64 ren)).setCell ⟨w.heap.size + 1 + 1 + 1 + 1, 0, none⟩ (.int .i64 fx)).setCell ⟨w.heap.size + 1 + 1 + 1 + 1, 1, none⟩ (.int .i64 fy)) = wz at *
    have HR9 := hide hR9
    have HQ9 := hide hQ9
    have HO9 := hide (owns_base0 hO9 HSW.out)
    have HB9 := hide hb9
    clear hR9 hQ9 hO9 hb9 hbA1 hbA2 hbD1 hbD2
    go_wp2_with fail
    refine bodyPost_ret (v := .tuple #[.agg #[.int .i64 rep, .bool rcl, .slice ao2 rl.length cap2, .int .i64 ren], .agg #[.int .i64 fx, .int .i64 fy]]) (results2_cells Try.results11 rfl rfl (run_loadVar_blk HR9.out Try.underlying24 rfl Try.sizeCopy) (run_loadVar_blk HQ9.out Try.underlying29 rfl Try.sizeFaultS)) rfl ?_
    rw [HCLE.out, HCFE.out]
    exact ⟨_, rfl, HO9.out, HB9.out⟩

end Go.Proofs.Ytopnjklloleomaa

/-
  Lists of copies in memory; the walks over seal.isNodes, areMost, isBetter, chooseFault. (Written by sc1.py.)
-/
namespace Go.Proofs.Ytopnjklloleomaa
open Go.RowKit
set_option linter.unusedVariables false

/-- A copy's four places, its records by a slice's three numbers. -/
structure Qf where
  ep : Int
  cl : Bool
  ao : Option Addr
  len : Nat
  cap : Nat
  en : Int

def qfE : En Qf 4 where
  v f := [.int .i64 f.ep, .bool f.cl, .slice f.ao f.len f.cap, .int .i64 f.en]
  len _ := rfl
  one p u hu := by
    simp only [List.mem_cons, List.not_mem_nil, or_false] at hu
    rcases hu with rfl | rfl | rfl | rfl <;> rfl
  pos := by decide

/-- Such places are those of a copy. -/
def Qf.is (w : World) (f : Qf) (c : Cp) : Prop := f.ep = c.ep ∧ f.cl = c.cl ∧ f.en = c.en ∧ RdG txE w (.slice f.ao f.len f.cap) c.recs

/-- The slice v reads as copies. -/
def RdQ (w : World) (v : Value) (cs : List Cp) : Prop :=
  ∃ fs : List Qf, RdG qfE w v fs ∧ fs.length = cs.length ∧ ∀ (i : Nat) f c, fs[i]? = some f → cs[i]? = some c → f.is w c

theorem RdQ.shape {w : World} {v : Value} {cs : List Cp} (h : RdQ w v cs) : ∃ ao cap, v = .slice ao cs.length cap ∧ cs.length ≤ cap ∧ cap ≤ maxLen := by
  obtain ⟨fs, h1, h2, _⟩ := h
  obtain ⟨ao, cap, h3, h4, h5⟩ := h1.shape
  rw [h2] at h3 h4
  exact ⟨ao, cap, h3, h4, h5⟩

theorem Qf.is.below {w w' : World} {f : Qf} {c : Cp} (h : f.is w c) (hb : Below w.heap.size w w') : f.is w' c := ⟨h.1, h.2.1, h.2.2.1, h.2.2.2.below hb⟩

theorem RdQ.below {w w' : World} {v : Value} {cs : List Cp} (h : RdQ w v cs) (hb : Below w.heap.size w w') : RdQ w' v cs := by
  obtain ⟨fs, h1, h2, h3⟩ := h
  exact ⟨fs, h1.below hb, h2, fun i f c hf hc => (h3 i f c hf hc).below hb⟩

/-- Where one of the copies lies. -/
theorem RdQ.here {w : World} {ao : Option Addr} {n cap : Nat} {cs : List Cp} (h : RdQ w (.slice ao n cap) cs) {i : Nat} {c : Cp} (hi : cs[i]? = some c) :
    ∃ b off ao' cap', ao = some ⟨b, off, none⟩ ∧ b < w.heap.size ∧ w.cell? ⟨b, off + i * 4, none⟩ = some (.int .i64 c.ep) ∧ w.cell? ⟨b, off + i * 4 + 1, none⟩ = some (.bool c.cl) ∧ w.cell? ⟨b, off + i * 4 + 2, none⟩ = some (.slice ao' c.recs.length cap') ∧ w.cell? ⟨b, off + i * 4 + 3, none⟩ = some (.int .i64 c.en) ∧ RdG txE w (.slice ao' c.recs.length cap') c.recs := by
  obtain ⟨fs, h1, h2, h3⟩ := h
  have hl := (List.getElem?_eq_some_iff.1 hi).1
  obtain ⟨f, hf⟩ : ∃ f, fs[i]? = some f := ⟨_, List.getElem?_eq_getElem (by omega)⟩
  obtain ⟨b, off, e, hb, hat⟩ := h1.here hf
  obtain ⟨e1, e2, e3, hr⟩ := h3 i f c hf hi
  have hlen : f.len = c.recs.length := hr.len.1
  have c0 := hat 0 _ rfl
  have c1 := hat 1 _ rfl
  have c2 := hat 2 _ rfl
  have c3 := hat 3 _ rfl
  rw [e1, Nat.add_zero] at c0
  rw [e2] at c1
  rw [hlen] at c2 hr
  rw [e3] at c3
  exact ⟨b, off, f.ao, f.cap, e, hb, c0, c1, c2, c3, hr⟩

/-- What is wrong with the first of copies that is not one, or not closed. -/
def saidF : List Cp → Nat → Int × Int
  | [], _ => (0, 0)
  | c :: r, i => if (chkC c).1 ≠ 0 then ((chkC c).1, (i : Int)) else if c.cl = false then (11, (i : Int)) else saidF r (i + 1)

theorem saidF_z : ∀ (l : List Cp) (i : Nat), Fz (saidF l i)
  | [], _ => fun _ => rfl
  | c :: r, i => by
    unfold saidF
    split
    · intro h; contradiction
    split
    · intro h; simp at h
    · exact saidF_z r (i + 1)

/-- Why nothing can be chosen. -/
def chooseF (n : Int) (cs : List Cp) : Int × Int :=
  if ¬ (1 ≤ n ∧ n ≤ 7) then (3, -1)
  else if n < cs.length then (2, -1)
  else if (saidF cs 0).1 ≠ 0 then saidF cs 0
  else if ¬ (n / 2 < (cs.length : Int)) then (6, -1)
  else (0, 0)

theorem chooseF_z {n : Int} {cs : List Cp} : Fz (chooseF n cs) := by
  unfold chooseF
  split
  · intro h; simp at h
  split
  · intro h; simp at h
  split
  · intro h; contradiction
  split
  · intro h; simp at h
  · intro; rfl

/-- Is one copy to be chosen rather than another one? -/
def betB (c t : Cp) : Bool := if 0 < c.en ∨ 0 < t.en then decide (t.en < c.en) else decide (t.recs.length < c.recs.length)

def bestC : Cp → List Cp → Cp
  | b, [] => b
  | b, c :: r => bestC (if betB c b = true then c else b) r

theorem drop_consQ {l : List Cp} {i : Nat} {x : Cp} (h : l[i]? = some x) : l.drop i = x :: l.drop (i + 1) := by
  obtain ⟨hl, rfl⟩ := List.getElem?_eq_some_iff.1 h
  exact List.drop_eq_getElem_cons hl

set_option maxRecDepth 100000 in
theorem isNodes_any (n : Int) (w : World) : Calls Try.prog 44 #[.int .i64 n] w fun e w' => e = .returned (.bool (decide (1 ≤ n ∧ n ≤ 7))) ∧ w' = w := by
  by_cases h1 : 1 ≤ n
  · have hd : decide (1 ≤ n) = true := by simpa using h1
    go_enter Try.func44, Try.ntmps44
    go_wp2_with fail
    go_ret
    exact ⟨by simp [h1], rfl⟩
  · have hd : decide (1 ≤ n) = false := by simpa using h1
    go_enter Try.func44, Try.ntmps44
    go_wp2_with fail
    go_ret
    exact ⟨by simp, rfl⟩

set_option maxRecDepth 100000 in
theorem areMost_any (a b : Int) (w : World) (hb : 0 ≤ b ∧ b ≤ 1000000) : Calls Try.prog 39 #[.int .i64 a, .int .i64 b] w fun e w' => e = .returned (.bool (decide (b / 2 < a))) ∧ w' = w := by
  have hq : IntKind.i64.wrap (b.tdiv 2) = b / 2 := by rw [IntKind.wrap_i64, Int.tdiv_eq_ediv_of_nonneg hb.1]; omega
  go_enter Try.func39, Try.ntmps39
  go_wp2_with fail
  go_ret
  exact ⟨by first | rfl | (simp [hq]), rfl⟩

set_option maxRecDepth 100000 in
set_option maxHeartbeats 1000000 in
theorem isBetter_any (c t : Cp) (v u : Value) (w : World) (hv : RdG txE w v c.recs) (hu : RdG txE w u t.recs) :
    Calls Try.prog 36 #[cpV c v, cpV t u] w fun e w' => e = .returned (.bool (betB c t)) ∧ Below w.heap.size w w' := by
  have HB : Hid (betB c t = if 0 < c.en ∨ 0 < t.en then decide (t.en < c.en) else decide (t.recs.length < c.recs.length)) := hide rfl
  obtain ⟨ao, cap, rfl, _, _⟩ := hv.shape
  obtain ⟨uo, ucap, rfl, _, _⟩ := hu.shape
  obtain ⟨e1, c1, l1, n1⟩ := c
  obtain ⟨e2, c2, l2, n2⟩ := t
  simp only at HB
  clear hv hu
  unfold cpV
  by_cases h1 : 0 < n1
  · have HE := hide (HB.out.trans (if_pos (.inl h1)))
    go_enter Try.func36, Try.ntmps36
    go_wp2_with fail
    go_ret
    exact ⟨by rw [HE.out] <;> rfl, by go_grown⟩
  · by_cases h2 : 0 < n2
    · have HE := hide (HB.out.trans (if_pos (.inr h2)))
      go_enter Try.func36, Try.ntmps36
      go_wp2_with fail
      go_ret
      exact ⟨by rw [HE.out] <;> rfl, by go_grown⟩
    · have HE := hide (HB.out.trans (if_neg (by omega)))
      go_enter Try.func36, Try.ntmps36
      go_wp2_with fail
      go_ret
      exact ⟨by rw [HE.out]; simp, by go_grown⟩

set_option maxRecDepth 100000 in
set_option maxHeartbeats 4000000 in
theorem chooseFault_any (n : Int) (v : Value) (cs : List Cp) (w : World) (hv : RdQ w v cs) :
    Calls Try.prog 35 #[.int .i64 n, v] w fun e w' => e = .returned (flt (chooseF n cs)) ∧ Below w.heap.size w w' := by
  have HF : Hid (chooseF n cs = if ¬ (1 ≤ n ∧ n ≤ 7) then (3, -1) else if n < cs.length then (2, -1) else if (saidF cs 0).1 ≠ 0 then saidF cs 0 else if ¬ (n / 2 < (cs.length : Int)) then (6, -1) else (0, 0)) := hide rfl
  have HV := hide hv
  obtain ⟨ao, cap, rfl, hc1, hc2⟩ := hv.shape
  unfold maxLen at hc2
  have HR0 := hide (Blk.new w 29 #[.int .i64 0, .int .i64 0])
  have HB0 := hide (below_allocG w (.cells #[.int .i64 0, .int .i64 0] 29))
  clear hv
  by_cases h1 : 1 ≤ n ∧ n ≤ 7
  case neg =>
    have HE := hide (HF.out.trans (if_pos h1))
    have HN := hide (decide_eq_false h1)
    go_enter Try.func35, Try.ntmps35
    go_wp2_with (go_at_call 44; refine (isNodes_any n _).mono ?_; rw [HN.out]; rintro e w9 ⟨rfl, rfl⟩)
    exact bodyPost_ret (v := flt (3, -1)) (by simp [results, Try.results35, go_sem, flt]) rfl ⟨by rw [HE.out], by go_grown⟩
  have HFa := hide (HF.out.trans (if_neg (fun q => q h1)))
  have HN := hide (decide_eq_true h1)
  clear HF
  by_cases h2 : n < (cs.length : Int)
  · have HE := hide (HFa.out.trans (if_pos h2))
    go_enter Try.func35, Try.ntmps35
    go_wp2_with (go_at_call 44; refine (isNodes_any n _).mono ?_; rw [HN.out]; rintro e w9 ⟨rfl, rfl⟩)
    exact bodyPost_ret (v := flt (2, -1)) (by simp [results, Try.results35, go_sem, flt]) rfl ⟨by rw [HE.out], by go_grown⟩
  have HFb := hide (HFa.out.trans (if_neg h2))
  clear HFa
  go_enter Try.func35, Try.ntmps35
  go_wp2_with (go_at_call 44; refine (isNodes_any n _).mono ?_; rw [HN.out]; rintro e w9 ⟨rfl, rfl⟩)
  go_loopw [19] (fun iv wr => ∃ j : Nat, j ≤ cs.length ∧ iv = .int .i64 j ∧ saidF (cs.drop j) j = saidF cs 0 ∧ Below (w.heap.size + 1) (w.alloc (.cells #[.int .i64 0, .int .i64 0] 29)) wr)
    (fun iv _ => cs.length - (intOf iv).toNat)
  case atStart => exact ⟨0, by omega, rfl, rfl, Below.refl _ _⟩
  case round =>
    obtain ⟨j, hj, rfl, hgo, hbr⟩ := hrel
    have HGO := hide hgo
    have hbw := HB0.out.trans (hbr.mono (by omega))
    have HBW := hide hbw
    have HBR := hide hbr
    have HRr := hide (HR0.out.below hbr (by omega))
    have hrl := HRr.out.lt
    clear hgo
    by_cases hlt : j < cs.length
    · obtain ⟨c, hc⟩ : ∃ c, cs[j]? = some c := ⟨_, List.getElem?_eq_getElem hlt⟩
      rw [drop_consQ hc, saidF] at HGO
      obtain ⟨b, off, ao', cap', rfl, hb, q0, q1, q2, q3, hr⟩ := HV.out.here hc
      have r0 := cell_belowG q0 hbw
      have r1 := cell_belowG q1 hbw
      have r2 := cell_belowG q2 hbw
      have r3 := cell_belowG q3 hbw
      have hb' : b < wr.heap.size := Nat.lt_of_lt_of_le hb hbw.size
      have hk1 : (0 : Int) ≤ (j : Int) := by omega
      have hk2 : (j : Int) < (cs.length : Int) := by omega
      obtain ⟨ep, cl, l, en⟩ := c
      simp only at r0 r1 r2 r3 hr HGO
      have HCK := hide (SCheck_any ⟨ep, cl, l, en⟩ (.slice ao' l.length cap') (wr.alloc (.cells #[.int .i64 ep, .bool cl, .slice ao' l.length cap', .int .i64 en] 24)) ((hr.below hbw).alloc _))
      have HZ := hide (chkC_z ⟨ep, cl, l, en⟩)
      generalize hK : chkC ⟨ep, cl, l, en⟩ = K at *
      obtain ⟨x, y⟩ := K
      clear q0 q1 q2 q3 hr hc hbw hbr hK
      unfold cpV flt at HCK
      go_wp2_with fail
      refine HCK.out.mono ?_
      rintro e w1 ⟨rfl, hb1⟩
      have hA1 := (below_allocG wr (.cells #[.int .i64 ep, .bool cl, .slice ao' l.length cap', .int .i64 en] 24)).trans (hb1.mono (by simp))
      have hC1 := (Blk.new wr 24 #[.int .i64 ep, .bool cl, .slice ao' l.length cap', .int .i64 en]).later hb1
      have hC2 := hC1.later (below_allocG w1 (.cells #[.int .i64 x, .int .i64 y] 29))
      have HR2 := hide ((HRr.out.later hA1).later (below_allocG w1 (.cells #[.int .i64 x, .int .i64 y] 29)))
      have HA1 := hide hA1
      have hs1 := hA1.size
      have HBWz := hide ((HBW.out.trans (hA1.mono HBW.out.size)).trans ((below_allocG w1 (.cells #[.int .i64 x, .int .i64 y] 29)).mono (HBW.out.trans (hA1.mono HBW.out.size)).size))
      have HBRz := hide (HBR.out.trans ((hA1.trans ((below_allocG w1 (.cells #[.int .i64 x, .int .i64 y] 29)).mono hs1)).mono hrl))
      have cc1 := hC2.cell 1
      have ccl := hC2.lt
      simp at cc1 ccl
      clear r0 r1 r2 r3 hb1 hA1 hC1 hC2 HCK
      by_cases hx : x ≠ 0
      · have hq : (x == 0) = false := beq_eq_false_iff_ne.2 hx
        have hq2 : (x != 0) = true := by simp [hx]
        have HS := hide (HGO.out.symm.trans (if_pos hx))
        have HE := hide (show chooseF n cs = (x, (j : Int)) by rw [HFb.out, HS.out, if_pos hx])
        clear hx
        go_wp2_with (refine wpList_store_blk rfl rfl rfl rfl HR2.out rfl Try.sizeFaultS rfl ?_; intro w8 hR8 hg8; have HR8 := hide hR8; have HG8 := hide hg8; clear hR8 hg8)
        refine bodyPost_ret (v := .agg #[.int .i64 (x), .int .i64 (j)]) (results1_cell Try.results35 rfl (run_loadVar_blk HR8.out Try.underlying29 rfl Try.sizeFaultS)) rfl ?_
        exact ⟨by rw [HE.out] <;> rfl, below_grownO HBWz.out HG8.out (fun k hk => by cases hk; omega) HBWz.out.size⟩
      · have HS := hide (HGO.out.symm.trans (if_neg hx))
        obtain rfl : x = 0 := Decidable.not_not.1 hx
        obtain rfl : y = 0 := by have := HZ.out rfl; simpa using this
        clear hx
        cases cl
        · have HS2 := hide (HS.out.trans (if_pos rfl))
          have HE := hide (show chooseF n cs = (11, (j : Int)) by rw [HFb.out, HS2.out, if_pos (by simp)])
          go_wp2_with (refine wpList_store_blk rfl rfl rfl rfl HR2.out rfl Try.sizeFaultS rfl ?_; intro w8 hR8 hg8; have HR8 := hide hR8; have HG8 := hide hg8; clear hR8 hg8)
          refine bodyPost_ret (v := .agg #[.int .i64 (11), .int .i64 (j)]) (results1_cell Try.results35 rfl (run_loadVar_blk HR8.out Try.underlying29 rfl Try.sizeFaultS)) rfl ?_
          exact ⟨by rw [HE.out] <;> rfl, below_grownO HBWz.out HG8.out (fun k hk => by cases hk; omega) HBWz.out.size⟩
        · have HS2 := hide (HS.out.trans (if_neg (by simp)))
          go_wp2_with fail
          go_roundw
          case rel => exact ⟨j + 1, by omega, by go_num, HS2.out.symm, HBRz.out⟩
          case measure => simp [intOf]; omega
    · have hje : j = cs.length := by omega
      subst hje
      rw [List.drop_length, saidF] at HGO
      have HFc := hide (HFb.out.trans (if_neg (by rw [← HGO.out]; simp)))
      clear hbw hbr
      by_cases h3 : n / 2 < (cs.length : Int)
      · have HM := hide (decide_eq_true h3)
        have HE := hide (HFc.out.trans (if_neg (by omega)))
        have HMO := hide (fun W => areMost_any cs.length n W ⟨by omega, by omega⟩)
        go_wp2_with (first
          | (go_at_call 39; refine (HMO.out _).mono ?_; rw [HM.out]; rintro e w9 ⟨rfl, rfl⟩)
          | (refine wpList_store_blk rfl rfl rfl rfl HRr.out rfl Try.sizeFaultS rfl ?_; intro w8 hR8 hg8; have HR8 := hide hR8; have HG8 := hide hg8; clear hR8 hg8))
        refine bodyPost_ret (v := .agg #[.int .i64 0, .int .i64 0]) (results1_cell Try.results35 rfl (run_loadVar_blk HR8.out Try.underlying29 rfl Try.sizeFaultS)) rfl ?_
        exact ⟨by rw [HE.out] <;> rfl, below_grownO HBW.out HG8.out (fun k hk => by cases hk; omega) HBW.out.size⟩
      · have HM := hide (decide_eq_false h3)
        have HE := hide (HFc.out.trans (if_pos (by omega)))
        have HMO := hide (fun W => areMost_any cs.length n W ⟨by omega, by omega⟩)
        go_wp2_with (first
          | (go_at_call 39; refine (HMO.out _).mono ?_; rw [HM.out]; rintro e w9 ⟨rfl, rfl⟩)
          | (refine wpList_store_blk rfl rfl rfl rfl HRr.out rfl Try.sizeFaultS rfl ?_; intro w8 hR8 hg8; have HR8 := hide hR8; have HG8 := hide hg8; clear hR8 hg8))
        refine bodyPost_ret (v := .agg #[.int .i64 6, .int .i64 (-1)]) (results1_cell Try.results35 rfl (run_loadVar_blk HR8.out Try.underlying29 rfl Try.sizeFaultS)) rfl ?_
        exact ⟨by rw [HE.out] <;> rfl, below_grownO HBW.out HG8.out (fun k hk => by cases hk; omega) HBW.out.size⟩

end Go.Proofs.Ytopnjklloleomaa

/-
  The walk over seal.Choose. (Written by sc2.py.)
-/
namespace Go.Proofs.Ytopnjklloleomaa
open Go.RowKit
set_option linter.unusedVariables false

theorem infoCopy : (Try.prog.info? 24).map (fun i => (i.zero, i.size, i.bytes)) = some (some (.agg #[.int .i64 0, .bool false, .slice none 0 0, .int .i64 0]), 4, 48) := by kernel_rfl

/-- The records that are chosen. -/
def choL (n : Int) (cs : List Cp) : List ByteArray := if (chooseF n cs).1 = 0 then (bestC (cs.getD 0 noCp) (cs.drop 1)).recs else []

theorem chooseF_ok {n : Int} {cs : List Cp} (h : (chooseF n cs).1 = 0) : 1 ≤ n ∧ n ≤ 7 ∧ (cs.length : Int) ≤ n ∧ 0 < cs.length ∧ (saidF cs 0).1 = 0 := by
  unfold chooseF at h
  split at h
  · simp at h
  rename_i h1
  split at h
  · simp at h
  split at h
  · contradiction
  rename_i h3
  split at h
  · simp at h
  rename_i h4
  have h3 := Decidable.not_not.1 h3
  omega

theorem saidF_each : ∀ (cs : List Cp) (i : Nat), (saidF cs i).1 = 0 → ∀ c ∈ cs, (chkC c).1 = 0 ∧ c.cl = true
  | [], _, _, c, hc => by simp at hc
  | d :: r, i, h, c, hc => by
    unfold saidF at h
    split at h
    · contradiction
    rename_i h1
    split at h
    · simp at h
    rename_i h2
    rcases List.mem_cons.1 hc with rfl | hc
    · exact ⟨Decidable.not_not.1 h1, by cases q : c.cl; exact absurd q h2; rfl⟩
    · exact saidF_each r (i + 1) h c hc

theorem chkC_len {c : Cp} (h : (chkC c).1 = 0) : c.recs.length ≤ 100 := by
  unfold chkC at h
  split at h
  · simp at h
  split at h
  · simp at h
  split at h
  · simp at h
  omega

set_option maxRecDepth 100000 in
set_option maxHeartbeats 4000000 in
theorem Choose_any (n : Int) (v : Value) (cs : List Cp) (w : World) (hv : RdQ w v cs) :
    Calls Try.prog 18 #[.int .i64 n, v] w fun e w' => ∃ v', e = .returned (.tuple #[v', flt (chooseF n cs)]) ∧ w'.ownsRow w.heap.size 9 1 v' (choL n cs).length (txE.vs (choL n cs)) ∧ Below w.heap.size w w' := by
  have HL : Hid (choL n cs = if (chooseF n cs).1 = 0 then (bestC (cs.getD 0 noCp) (cs.drop 1)).recs else []) := hide rfl
  have HOK := hide (chooseF_ok (n := n) (cs := cs))
  have HZ := hide (chooseF_z (n := n) (cs := cs))
  have HV := hide hv
  have HCF := hide (chooseFault_any n v cs _ (hv.below (below_allocG w (.cells #[.int .i64 0, .int .i64 0] 29))))
  obtain ⟨ao, cap, rfl, hc1, hc2⟩ := hv.shape
  unfold maxLen at hc2
  have HR0 := hide (Blk.new w 29 #[.int .i64 0, .int .i64 0])
  have HB0 := hide (below_allocG w (.cells #[.int .i64 0, .int .i64 0] 29))
  generalize hF : chooseF n cs = F at *
  obtain ⟨x, y⟩ := F
  have HFE := hide hF
  clear hv hF
  unfold flt at HCF
  go_enter Try.func18, Try.ntmps18
  go_wp2_with fail
  refine HCF.out.mono ?_
  rintro e w1 ⟨rfl, hb1⟩
  have HR1 := hide (HR0.out.later hb1)
  have HB1 := hide (HB0.out.trans (hb1.mono HB0.out.size))
  clear hb1 HCF
  by_cases hx : x ≠ 0
  · have hq : (x == 0) = false := beq_eq_false_iff_ne.2 hx
    have hq2 : (x != 0) = true := by simp [hx]
    have HE := hide (HL.out.trans (if_neg hx))
    have rc0 := HR1.out.cell 0
    have rc1 := HR1.out.cell 1
    have rz0 := HR1.out.frozen 0
    have rz1 := HR1.out.frozen 1
    have rl := HR1.out.lt
    simp at rc0 rc1
    have hsz := HB1.out.size
    clear hx
    go_wp2_with fail
    go_region
    all_goals
      go_wp2_with fail
      refine bodyPost_ret (v := .tuple #[.slice none 0 0, .agg #[.int .i64 x, .int .i64 y]]) (by simp [results, Try.results18, go_sem, rc0, rc1, rl]) rfl ?_
      rw [HE.out]
      exact ⟨_, rfl, World.ownsRow_nil _ _ _ _, HB1.out.trans (by go_grown)⟩
  obtain rfl : x = 0 := Decidable.not_not.1 hx
  obtain rfl : y = 0 := by have := HZ.out rfl; simpa using this
  obtain ⟨hn1, hn7, hln, hpos, hsd⟩ := HOK.out rfl
  have HEACH := hide (saidF_each cs 0 hsd)
  obtain ⟨c0, hc0⟩ : ∃ c, cs[0]? = some c := ⟨_, List.getElem?_eq_getElem hpos⟩
  obtain ⟨b, off, ao0, cap0, rfl, hb, q0, q1, q2, q3, hr⟩ := HV.out.here hc0
  have HE := hide (show choL n cs = (bestC c0 (cs.drop 1)).recs by rw [HL.out, if_pos rfl, List.getD_eq_getElem?_getD, hc0]; rfl)
  have HB1a := hide (HB1.out.trans ((below_allocG w1 (.cells #[.int .i64 0, .int .i64 0] 29)).mono HB1.out.size))
  have r0 := cell_belowG q0 HB1a.out
  have r1 := cell_belowG q1 HB1a.out
  have r2 := cell_belowG q2 HB1a.out
  have r3 := cell_belowG q3 HB1a.out
  simp only [Nat.zero_mul, Nat.add_zero] at r0 r1 r2 r3
  have hbl : b < (w1.alloc (.cells #[.int .i64 0, .int .i64 0] 29)).heap.size := Nat.lt_of_lt_of_le hb HB1a.out.size
  have hi0 : (0 : Int) < (cs.length : Int) := by omega
  obtain ⟨ad, had⟩ : ∃ ad : Addr, (if cap = 1 then (⟨b, off, none⟩ : Addr) else ⟨b, off + 4, none⟩) = ad := ⟨_, rfl⟩
  have HAD := hide (show 1 < cs.length → ad = ⟨b, off + 4, none⟩ from fun h => by rw [← had, if_neg (by omega)])
  have hsl : ∀ W, (Instr.slice 38 (.slice (some ⟨b, off, none⟩) cs.length cap) (some (.int .i64 1)) none none).run Try.prog W = .ok (.slice (some ad) (cs.length - 1) (cap - 1)) W := fun W => by
    rw [run_slice_fromK (P := Try.prog) (K := 4) Try.underlying38 (by kernel_rfl) infoCopy _ cs.length cap 1 1 rfl (by omega) W, ← had]
    unfold Go.sliced
    by_cases q : cap = 1
    · rw [if_pos q, if_pos q]
    · rw [if_neg q, if_neg q]
      simp [Addr.add_lit]
  have HRC0 := hide hr
  have HC0 := hide hc0
  have HLN := hide hln
  clear q0 q1 q2 q3 hr hc0 hx HL HOK HZ hsd had
  obtain ⟨e0, k0, l0, n0⟩ := c0
  simp only at r0 r1 r2 r3 HRC0 HE
  have HK0 := hide (chkC_len (HEACH.out _ (List.mem_of_getElem? HC0.out)).1)
  have HBST := hide (Blk.at1 w1 (.cells #[.int .i64 0, .int .i64 0] 29) 24 #[.int .i64 e0, .bool k0, .slice ao0 l0.length cap0, .int .i64 n0])
  have HB2 := hide (HB1.out.trans ((below_alloc2 w1 (.cells #[.int .i64 0, .int .i64 0] 29) (.cells #[.int .i64 e0, .bool k0, .slice ao0 l0.length cap0, .int .i64 n0] 24)).mono HB1.out.size))
  have HR2 := hide (HR1.out.later (below_alloc2 w1 (.cells #[.int .i64 0, .int .i64 0] 29) (.cells #[.int .i64 e0, .bool k0, .slice ao0 l0.length cap0, .int .i64 n0] 24)))
  have hs1 := HB1.out.size
  have hrl1 := HR1.out.lt
  go_wp2_with fail
  clear r0 r1 r2 r3 hsl
  go_loopw [23] (fun iv wr => ∃ (j : Nat) (bc : Cp) (bo : Option Addr) (bcap : Nat), j ≤ cs.length - 1 ∧ iv = .int .i64 j ∧ Blk wr (w1.heap.size + 1) 24 (cpA bc (.slice bo bc.recs.length bcap)) ∧ RdG txE w (.slice bo bc.recs.length bcap) bc.recs ∧ bc.recs.length ≤ 100 ∧ bestC bc (cs.drop (j + 1)) = bestC ⟨e0, k0, l0, n0⟩ (cs.drop 1) ∧ Below (w1.heap.size + 1) ((w1.alloc (.cells #[.int .i64 0, .int .i64 0] 29)).alloc (.cells #[.int .i64 e0, .bool k0, .slice ao0 l0.length cap0, .int .i64 n0] 24)) wr)
    (fun iv _ => cs.length - 1 - (intOf iv).toNat)
  case atStart => exact ⟨0, ⟨e0, k0, l0, n0⟩, ao0, cap0, by omega, rfl, HBST.out, HRC0.out, HK0.out, rfl, Below.refl _ _⟩
  case round =>
    obtain ⟨j, bc, bo, bcap, hj, rfl, hbl7, hrb, hbl100, hbest, hbr⟩ := hrel
    have HB7 := hide hbl7
    have HRB := hide hrb
    have HBEST := hide hbest
    have HBR := hide hbr
    have HBW := hide (HB2.out.trans (hbr.mono (by omega)))
    have HRr := hide (HR2.out.below hbr (by omega))
    have h7l := hbl7.lt
    clear hbest hbl7 hrb hbr
    by_cases hlt : j < cs.length - 1
    · obtain ⟨c, hc⟩ : ∃ c, cs[j + 1]? = some c := ⟨_, List.getElem?_eq_getElem (by omega)⟩
      rw [drop_consQ hc, bestC] at HBEST
      obtain ⟨b', off', ao', cap', e', hb', q0, q1, q2, q3, hr⟩ := HV.out.here hc
      simp only [Option.some.injEq, Addr.mk.injEq] at e'
      obtain ⟨rfl, rfl, -⟩ := e'
      have hoff : off + (j + 1) * 4 = off + 4 + j * 4 := by omega
      rw [hoff] at q0 q1 q2 q3
      have r0 := cell_belowG q0 HBW.out
      have r1 := cell_belowG q1 HBW.out
      have r2 := cell_belowG q2 HBW.out
      have r3 := cell_belowG q3 HBW.out
      have hbl9 : b < wr.heap.size := Nat.lt_of_lt_of_le hb' HBW.out.size
      have hk1 : (0 : Int) ≤ (j : Int) := by omega
      have hk2 : (j : Int) < ((cs.length - 1 : Nat) : Int) := by omega
      obtain rfl := HAD.out (by omega)
      have HKc := hide (chkC_len (HEACH.out _ (List.mem_of_getElem? hc)).1)
      obtain ⟨ce, ck, cl, cn⟩ := c
      simp only at r0 r1 r2 r3 hr HKc
      have hA := below_allocG wr (.cells #[.int .i64 ce, .bool ck, .slice ao' cl.length cap', .int .i64 cn] 24)
      have HBT := hide (isBetter_any ⟨ce, ck, cl, cn⟩ bc (.slice ao' cl.length cap') (.slice bo bc.recs.length bcap) _ ((hr.below HBW.out).below hA) ((HRB.out.below HBW.out).below hA))
      have HB9 := hide (Blk.new wr 24 #[.int .i64 ce, .bool ck, .slice ao' cl.length cap', .int .i64 cn])
      have HB7a := hide (HB7.out.later hA)
      have HRr2 := hide (HRr.out.later hA)
      have HA := hide hA
      have HRc := hide hr
      have HN9 := hide (show some wr.heap.size ≠ some (w1.heap.size + 1) from fun q => by simp at q; omega)
      clear q0 q1 q2 q3 hr hA hc hoff
      unfold cpV at HBT
      unfold cpA at HB7a
      go_wp2_with (first
        | (refine wpList_load_blk HB9.out Try.underlying24 rfl Try.sizeCopy rfl rfl rfl ?_)
        | (refine wpList_load_blk HB7a.out Try.underlying24 rfl Try.sizeCopy rfl rfl rfl ?_))
      refine HBT.out.mono ?_
      rintro e w3 ⟨rfl, hb3⟩
      have HB9b := hide (HB9.out.later hb3)
      have HB7b := hide (HB7a.out.later hb3)
      have HBR3 := hide (HBR.out.trans ((HA.out.trans (hb3.mono HA.out.size)).mono (by omega)))
      have HS3 := hide (Nat.le_trans HA.out.size hb3.size)
      clear r0 r1 r2 r3 hb3 HBT
      cases hq : betB ⟨ce, ck, cl, cn⟩ bc
      · have HBE := hide (show bestC bc (cs.drop (j + 1 + 1)) = bestC ⟨e0, k0, l0, n0⟩ (cs.drop 1) by rw [← HBEST.out, if_neg (by rw [hq]; simp)])
        clear hq
        go_wp2_with fail
        go_roundw
        case rel => exact ⟨j + 1, bc, bo, bcap, by omega, by go_num, HB7b.out, HRB.out, hbl100, HBE.out, HBR3.out⟩
        case measure => simp [intOf]; omega
      · have HBE := hide (show bestC ⟨ce, ck, cl, cn⟩ (cs.drop (j + 1 + 1)) = bestC ⟨e0, k0, l0, n0⟩ (cs.drop 1) by rw [← HBEST.out, if_pos hq])
        clear hq
        go_wp2_with (first
          | (refine wpList_load_blk HB9b.out Try.underlying24 rfl Try.sizeCopy rfl rfl rfl ?_)
          | (refine wpList_store_blk rfl rfl rfl rfl HB7b.out rfl Try.sizeCopy rfl ?_; intro w4 hB4 hg4; have HB4 := hide hB4; have HG4 := hide hg4; clear hB4 hg4))
        go_roundw
        case rel => exact ⟨j + 1, ⟨ce, ck, cl, cn⟩, ao', cap', by omega, by go_num, HB4.out, HRc.out, HKc.out, HBE.out, below_grownO HBR3.out HG4.out (fun k hk => by cases hk; omega) (by have := HS3.out; omega)⟩
        case measure => simp [intOf]; omega
    · have hje : j = cs.length - 1 := by omega
      subst hje
      have hdl : cs.drop (cs.length - 1 + 1) = [] := List.drop_of_length_le (by omega)
      rw [hdl, bestC] at HBEST
      have HE2 := hide (HE.out.trans (by rw [← HBEST.out]))
      have HCL := hide (CloneT_any _ bc.recs wr (HRB.out.below HBW.out) (by omega))
      have c2 := HB7.out.cell 2
      unfold cpA at c2
      simp at c2
      clear hdl hbl100
      go_wp2_with fail
      refine HCL.out.mono ?_
      rintro e w3 ⟨v3, rfl, ho3, hb3⟩
      obtain ⟨ao3, cap3, rfl⟩ := owns_shape ho3
      have HO3 := hide ho3
      have HR3 := hide (HRr.out.later hb3)
      have HBW3 := hide (HBW.out.trans (hb3.mono HBW.out.size))
      have HSr := hide HBW.out.size
      clear ho3 hb3 c2 HCL
      go_wp2_with (refine wpList_store_blk rfl rfl rfl rfl HR3.out rfl Try.sizeFaultS rfl ?_; intro w8 hR8 hg8; have HR8 := hide hR8; have HG8 := hide hg8; clear hR8 hg8)
      refine bodyPost_ret (v := .tuple #[.slice ao3 bc.recs.length cap3, .agg #[.int .i64 0, .int .i64 0]]) (results2_tc Try.results18 rfl rfl (run_loadVar_blk HR8.out Try.underlying29 rfl Try.sizeFaultS)) rfl ?_
      rw [HE2.out]
      exact ⟨_, rfl, owns_base0 (owns_grownO HO3.out HG8.out (.inr (owns_off HO3.out HR3.out (by decide)))) HSr.out, below_grownO HBW3.out HG8.out (fun k hk => by cases hk; omega) HBW3.out.size⟩

end Go.Proofs.Ytopnjklloleomaa

/-
  The walks over the document's SameTexts and SameCopy (of the same), TooLong, CopyFault. (Written by sr1.py.)
-/
namespace Go.Proofs.Ytopnjklloleomaa
open Go.RowKit
set_option linter.unusedVariables false

set_option maxRecDepth 100000 in
set_option maxHeartbeats 1000000 in
theorem SameTexts_eq (u v : Value) (l : List ByteArray) (w : World) (hu : RdG txE w u l) (hv : RdG txE w v l) :
    Calls Try.prog 13 #[u, v] w fun e w' => e = .returned (.bool true) ∧ Below w.heap.size w w' := by
  have HU := hide hu
  have HV := hide hv
  obtain ⟨ao, cap, rfl, hc1, hc2⟩ := hu.shape
  obtain ⟨bo, cap2, rfl, _, _⟩ := hv.shape
  unfold maxLen at hc2
  clear hu hv
  go_enter Try.func13, Try.ntmps13
  go_wp2_with fail
  go_loopw [5] (fun iv wr => ∃ j : Nat, j ≤ l.length ∧ iv = .int .i64 j ∧ Below w.heap.size w wr)
    (fun iv _ => l.length - (intOf iv).toNat)
  case atStart => exact ⟨0, by omega, rfl, Below.refl _ _⟩
  case round =>
    obtain ⟨j, hj, rfl, hbr⟩ := hrel
    have HBR := hide hbr
    by_cases hlt : j < l.length
    · obtain ⟨r, hr⟩ : ∃ r, l[j]? = some r := ⟨_, List.getElem?_eq_getElem hlt⟩
      obtain ⟨b1, o1, rfl, hb1, q1⟩ := HU.out.hereT hr
      obtain ⟨b2, o2, rfl, hb2, q2⟩ := HV.out.hereT hr
      have s1 := cell_belowG q1 hbr
      have s2 := cell_belowG q2 hbr
      have hk1 : (0 : Int) ≤ (j : Int) := by omega
      have hk2 : (j : Int) < (l.length : Int) := by omega
      have hl1 : b1 < wr.heap.size := Nat.lt_of_lt_of_le hb1 hbr.size
      have hl2 : b2 < wr.heap.size := Nat.lt_of_lt_of_le hb2 hbr.size
      clear q1 q2 hr hbr
      go_wp2_with fail
      go_quiet (fail)
      go_wp2_with fail
      go_roundw
      case rel => exact ⟨j + 1, by omega, by go_num, below_drewN HBR.out _⟩
      case measure => simp [intOf]; omega
    · have hje : j = l.length := by omega
      subst hje
      clear hbr
      go_wp2_with fail
      go_ret
      exact ⟨rfl, HBR.out⟩

set_option maxRecDepth 100000 in
set_option maxHeartbeats 1000000 in
theorem SameCopy_eq (c : Cp) (u v : Value) (w : World) (hu : RdG txE w u c.recs) (hv : RdG txE w v c.recs) :
    Calls Try.prog 12 #[cpV c u, cpV c v] w fun e w' => e = .returned (.bool true) ∧ Below w.heap.size w w' := by
  obtain ⟨ep, cl, l, en⟩ := c
  simp only at hu hv
  obtain ⟨ao, cap, rfl, _, _⟩ := hu.shape
  obtain ⟨bo, cap2, rfl, _, _⟩ := hv.shape
  have hA := below_alloc2 w (.cells #[.int .i64 ep, .bool cl, .slice ao l.length cap, .int .i64 en] 24) (.cells #[.int .i64 ep, .bool cl, .slice bo l.length cap2, .int .i64 en] 24)
  have HS := hide (SameTexts_eq _ _ l _ (hu.below hA) (hv.below hA))
  have HA := hide hA
  clear hu hv hA
  unfold cpV
  go_enter Try.func12, Try.ntmps12
  go_wp2_with (go_at_call 13; refine HS.out.mono ?_; rintro e w1 ⟨rfl, hb1⟩; have HB1 := hide (HA.out.trans (hb1.mono HA.out.size)); clear hb1)
  go_ret
  exact ⟨rfl, HB1.out⟩

set_option maxRecDepth 100000 in
set_option maxHeartbeats 1000000 in
theorem TooLong_any (v : Value) (l : List ByteArray) (w : World) (hv : RdG txE w v l) :
    Calls Try.prog 33 #[v] w fun e w' => e = .returned (.int .i64 (longI l 0)) ∧ w' = w := by
  have HV := hide hv
  obtain ⟨ao, cap, rfl, hc1, hc2⟩ := hv.shape
  unfold maxLen at hc2
  clear hv
  go_enter Try.func33, Try.ntmps33
  go_wp2_with fail
  go_loopw [3] (fun iv wr => ∃ j : Nat, j ≤ l.length ∧ iv = .int .i64 j ∧ longI (l.drop j) j = longI l 0 ∧ w = wr)
    (fun iv _ => l.length - (intOf iv).toNat)
  case atStart => exact ⟨0, by omega, rfl, rfl, rfl⟩
  case round =>
    obtain ⟨j, hj, rfl, hgo, rfl⟩ := hrel
    have HG := hide hgo
    clear hgo
    by_cases hlt : j < l.length
    · obtain ⟨r, hr⟩ : ∃ c, l[j]? = some c := ⟨_, List.getElem?_eq_getElem hlt⟩
      rw [drop_consT hr] at HG
      obtain ⟨b, off, rfl, hbb, q⟩ := HV.out.hereT hr
      have hk1 : (0 : Int) ≤ (j : Int) := by omega
      have hk2 : (j : Int) < (l.length : Int) := by omega
      clear hr
      by_cases hq : 200 < r.size
      · have HE := hide (HG.out.symm.trans (longI_yes hq))
        go_wp2_with fail
        go_ret
        exact ⟨by rw [HE.out]; rfl, rfl⟩
      · have HE := hide (HG.out.symm.trans (longI_no hq))
        go_wp2_with fail
        go_roundw
        case rel => exact ⟨j + 1, by omega, by go_num, HE.out.symm, trivial⟩
        case measure => simp [intOf]; omega
    · have hje : j = l.length := by omega
      subst hje
      rw [List.drop_length] at HG
      have HE : Hid (longI l 0 = -1) := hide HG.out.symm
      go_wp2_with fail
      go_ret
      exact ⟨by rw [HE.out]; rfl, rfl⟩

set_option maxRecDepth 100000 in
set_option maxHeartbeats 4000000 in
theorem CopyFault_any (c : Cp) (v : Value) (w : World) (hv : RdG txE w v c.recs) :
    Calls Try.prog 17 #[cpV c v] w fun e w' => e = .returned (flt (chkC c)) ∧ Below w.heap.size w w' := by
  obtain ⟨ep, cl, l, en⟩ := c
  simp only at hv
  obtain ⟨ao, cap, rfl, _, _⟩ := hv.shape
  have HTL := hide (fun W (hW : Below w.heap.size w W) => TooLong_any _ l W (hv.below hW))
  have HR0 := hide (Blk.at1 w (.cells #[.int .i64 ep, .bool cl, .slice ao l.length cap, .int .i64 en] 24) 29 #[.int .i64 0, .int .i64 0])
  have HB0 := hide (below_alloc2 w (.cells #[.int .i64 ep, .bool cl, .slice ao l.length cap, .int .i64 en] 24) (.cells #[.int .i64 0, .int .i64 0] 29))
  have HF : Hid (chkC ⟨ep, cl, l, en⟩ = if ¬ (numL ep = true ∧ numL en = true) then (3, -1) else if ep < en ∨ (0 < en ∧ cl = false) then (11, -1) else if 100 < l.length then (2, -1) else longF l) := hide rfl
  have HLF : Hid (longF l = if 0 ≤ longI l 0 then (8, longI l 0) else (0, 0)) := hide rfl
  generalize hI : longI l 0 = I at *
  clear hv hI
  unfold cpV
  cases h1 : numL ep
  · have HE := hide (HF.out.trans (if_pos (by rw [h1]; simp)))
    have HN1 := hide h1
    have HN2 := hide h1
    clear h1
    go_enter Try.func17, Try.ntmps17
    go_wp2_with (first
      | (go_at_call_of 34 (Value.int IntKind.i64 ep); refine (lNum_any ep _).mono ?_; rw [HN1.out]; rintro e w1 ⟨rfl, rfl⟩)
      | (go_at_call_of 34 (Value.int IntKind.i64 en); refine (lNum_any en _).mono ?_; rw [HN2.out]; rintro e w1 ⟨rfl, rfl⟩)
      | (go_at_call 33; refine (HTL.out _ (by go_grown)).mono ?_; rintro e w1 ⟨rfl, rfl⟩)
      | (go_at_call 32; refine (lF_any _ _ _).mono ?_; rintro e w1 ⟨rfl, hb1⟩; have HR := hide (HR0.out.later hb1); have HBW := hide (HB0.out.trans (hb1.mono HB0.out.size)); clear hb1; unfold flt)
      | (refine wpList_store_blk rfl rfl rfl rfl HR.out rfl Try.sizeFaultS rfl ?_; intro w8 hR8 hg8; have HR8 := hide hR8; have HG8 := hide hg8; clear hR8 hg8))
    refine bodyPost_ret (v := .agg #[.int .i64 (3), .int .i64 (-1)]) (results1_cell Try.results17 rfl (run_loadVar_blk HR8.out Try.underlying29 rfl Try.sizeFaultS)) rfl ?_
    exact ⟨by rw [HE.out] <;> rfl, below_grownO HBW.out HG8.out (fun k hk => by cases hk; omega) HBW.out.size⟩
  cases h2 : numL en
  · have HE := hide (HF.out.trans (if_pos (by rw [h2]; simp)))
    have HN1 := hide h1
    have HN2 := hide h2
    clear h1 h2
    go_enter Try.func17, Try.ntmps17
    go_wp2_with (first
      | (go_at_call_of 34 (Value.int IntKind.i64 ep); refine (lNum_any ep _).mono ?_; rw [HN1.out]; rintro e w1 ⟨rfl, rfl⟩)
      | (go_at_call_of 34 (Value.int IntKind.i64 en); refine (lNum_any en _).mono ?_; rw [HN2.out]; rintro e w1 ⟨rfl, rfl⟩)
      | (go_at_call 33; refine (HTL.out _ (by go_grown)).mono ?_; rintro e w1 ⟨rfl, rfl⟩)
      | (go_at_call 32; refine (lF_any _ _ _).mono ?_; rintro e w1 ⟨rfl, hb1⟩; have HR := hide (HR0.out.later hb1); have HBW := hide (HB0.out.trans (hb1.mono HB0.out.size)); clear hb1; unfold flt)
      | (refine wpList_store_blk rfl rfl rfl rfl HR.out rfl Try.sizeFaultS rfl ?_; intro w8 hR8 hg8; have HR8 := hide hR8; have HG8 := hide hg8; clear hR8 hg8))
    refine bodyPost_ret (v := .agg #[.int .i64 (3), .int .i64 (-1)]) (results1_cell Try.results17 rfl (run_loadVar_blk HR8.out Try.underlying29 rfl Try.sizeFaultS)) rfl ?_
    exact ⟨by rw [HE.out] <;> rfl, below_grownO HBW.out HG8.out (fun k hk => by cases hk; omega) HBW.out.size⟩
  have HF1 := hide (HF.out.trans (if_neg (by rw [h1, h2]; simp)))
  have HN1 := hide h1
  have HN2 := hide h2
  clear h1 h2 HF
  by_cases h3 : ep < en
  · have HE := hide (HF1.out.trans (if_pos (.inl h3)))
    go_enter Try.func17, Try.ntmps17
    go_wp2_with (first
      | (go_at_call_of 34 (Value.int IntKind.i64 ep); refine (lNum_any ep _).mono ?_; rw [HN1.out]; rintro e w1 ⟨rfl, rfl⟩)
      | (go_at_call_of 34 (Value.int IntKind.i64 en); refine (lNum_any en _).mono ?_; rw [HN2.out]; rintro e w1 ⟨rfl, rfl⟩)
      | (go_at_call 33; refine (HTL.out _ (by go_grown)).mono ?_; rintro e w1 ⟨rfl, rfl⟩)
      | (go_at_call 32; refine (lF_any _ _ _).mono ?_; rintro e w1 ⟨rfl, hb1⟩; have HR := hide (HR0.out.later hb1); have HBW := hide (HB0.out.trans (hb1.mono HB0.out.size)); clear hb1; unfold flt)
      | (refine wpList_store_blk rfl rfl rfl rfl HR.out rfl Try.sizeFaultS rfl ?_; intro w8 hR8 hg8; have HR8 := hide hR8; have HG8 := hide hg8; clear hR8 hg8))
    refine bodyPost_ret (v := .agg #[.int .i64 (11), .int .i64 (-1)]) (results1_cell Try.results17 rfl (run_loadVar_blk HR8.out Try.underlying29 rfl Try.sizeFaultS)) rfl ?_
    exact ⟨by rw [HE.out] <;> rfl, below_grownO HBW.out HG8.out (fun k hk => by cases hk; omega) HBW.out.size⟩
  have HF2 : Hid (chkC ⟨ep, cl, l, en⟩ = if 0 < en ∧ cl = false then (11, -1) else if 100 < l.length then (2, -1) else longF l) := hide (HF1.out.trans (by simp [h3]))
  by_cases h4 : 0 < en
  · cases cl
    · have HE := hide (HF2.out.trans (if_pos ⟨h4, rfl⟩))
      go_enter Try.func17, Try.ntmps17
      go_wp2_with (first
        | (go_at_call_of 34 (Value.int IntKind.i64 ep); refine (lNum_any ep _).mono ?_; rw [HN1.out]; rintro e w1 ⟨rfl, rfl⟩)
        | (go_at_call_of 34 (Value.int IntKind.i64 en); refine (lNum_any en _).mono ?_; rw [HN2.out]; rintro e w1 ⟨rfl, rfl⟩)
        | (go_at_call 33; refine (HTL.out _ (by go_grown)).mono ?_; rintro e w1 ⟨rfl, rfl⟩)
        | (go_at_call 32; refine (lF_any _ _ _).mono ?_; rintro e w1 ⟨rfl, hb1⟩; have HR := hide (HR0.out.later hb1); have HBW := hide (HB0.out.trans (hb1.mono HB0.out.size)); clear hb1; unfold flt)
        | (refine wpList_store_blk rfl rfl rfl rfl HR.out rfl Try.sizeFaultS rfl ?_; intro w8 hR8 hg8; have HR8 := hide hR8; have HG8 := hide hg8; clear hR8 hg8))
      refine bodyPost_ret (v := .agg #[.int .i64 (11), .int .i64 (-1)]) (results1_cell Try.results17 rfl (run_loadVar_blk HR8.out Try.underlying29 rfl Try.sizeFaultS)) rfl ?_
      exact ⟨by rw [HE.out] <;> rfl, below_grownO HBW.out HG8.out (fun k hk => by cases hk; omega) HBW.out.size⟩
    have HF3 := hide (HF2.out.trans (if_neg (by simp)))
    by_cases h5 : 100 < l.length
    · have HE := hide (HF3.out.trans (if_pos h5))
      go_enter Try.func17, Try.ntmps17
      go_wp2_with (first
        | (go_at_call_of 34 (Value.int IntKind.i64 ep); refine (lNum_any ep _).mono ?_; rw [HN1.out]; rintro e w1 ⟨rfl, rfl⟩)
        | (go_at_call_of 34 (Value.int IntKind.i64 en); refine (lNum_any en _).mono ?_; rw [HN2.out]; rintro e w1 ⟨rfl, rfl⟩)
        | (go_at_call 33; refine (HTL.out _ (by go_grown)).mono ?_; rintro e w1 ⟨rfl, rfl⟩)
        | (go_at_call 32; refine (lF_any _ _ _).mono ?_; rintro e w1 ⟨rfl, hb1⟩; have HR := hide (HR0.out.later hb1); have HBW := hide (HB0.out.trans (hb1.mono HB0.out.size)); clear hb1; unfold flt)
        | (refine wpList_store_blk rfl rfl rfl rfl HR.out rfl Try.sizeFaultS rfl ?_; intro w8 hR8 hg8; have HR8 := hide hR8; have HG8 := hide hg8; clear hR8 hg8))
      refine bodyPost_ret (v := .agg #[.int .i64 (2), .int .i64 (-1)]) (results1_cell Try.results17 rfl (run_loadVar_blk HR8.out Try.underlying29 rfl Try.sizeFaultS)) rfl ?_
      exact ⟨by rw [HE.out] <;> rfl, below_grownO HBW.out HG8.out (fun k hk => by cases hk; omega) HBW.out.size⟩
    by_cases h6 : 0 ≤ I
    · have HE := hide ((HF3.out.trans (if_neg h5)).trans (HLF.out.trans (if_pos h6)))
      go_enter Try.func17, Try.ntmps17
      go_wp2_with (first
        | (go_at_call_of 34 (Value.int IntKind.i64 ep); refine (lNum_any ep _).mono ?_; rw [HN1.out]; rintro e w1 ⟨rfl, rfl⟩)
        | (go_at_call_of 34 (Value.int IntKind.i64 en); refine (lNum_any en _).mono ?_; rw [HN2.out]; rintro e w1 ⟨rfl, rfl⟩)
        | (go_at_call 33; refine (HTL.out _ (by go_grown)).mono ?_; rintro e w1 ⟨rfl, rfl⟩)
        | (go_at_call 32; refine (lF_any _ _ _).mono ?_; rintro e w1 ⟨rfl, hb1⟩; have HR := hide (HR0.out.later hb1); have HBW := hide (HB0.out.trans (hb1.mono HB0.out.size)); clear hb1; unfold flt)
        | (refine wpList_store_blk rfl rfl rfl rfl HR.out rfl Try.sizeFaultS rfl ?_; intro w8 hR8 hg8; have HR8 := hide hR8; have HG8 := hide hg8; clear hR8 hg8))
      refine bodyPost_ret (v := .agg #[.int .i64 (8), .int .i64 (I)]) (results1_cell Try.results17 rfl (run_loadVar_blk HR8.out Try.underlying29 rfl Try.sizeFaultS)) rfl ?_
      exact ⟨by rw [HE.out] <;> rfl, below_grownO HBW.out HG8.out (fun k hk => by cases hk; omega) HBW.out.size⟩
    · have HE := hide ((HF3.out.trans (if_neg h5)).trans (HLF.out.trans (if_neg h6)))
      have HR := HR0
      have HBW := HB0
      go_enter Try.func17, Try.ntmps17
      go_wp2_with (first
        | (go_at_call_of 34 (Value.int IntKind.i64 ep); refine (lNum_any ep _).mono ?_; rw [HN1.out]; rintro e w1 ⟨rfl, rfl⟩)
        | (go_at_call_of 34 (Value.int IntKind.i64 en); refine (lNum_any en _).mono ?_; rw [HN2.out]; rintro e w1 ⟨rfl, rfl⟩)
        | (go_at_call 33; refine (HTL.out _ (by go_grown)).mono ?_; rintro e w1 ⟨rfl, rfl⟩)
        | (go_at_call 32; refine (lF_any _ _ _).mono ?_; rintro e w1 ⟨rfl, hb1⟩; have HR := hide (HR0.out.later hb1); have HBW := hide (HB0.out.trans (hb1.mono HB0.out.size)); clear hb1; unfold flt)
        | (refine wpList_store_blk rfl rfl rfl rfl HR.out rfl Try.sizeFaultS rfl ?_; intro w8 hR8 hg8; have HR8 := hide hR8; have HG8 := hide hg8; clear hR8 hg8))
      refine bodyPost_ret (v := .agg #[.int .i64 (0), .int .i64 (0)]) (results1_cell Try.results17 rfl (run_loadVar_blk HR8.out Try.underlying29 rfl Try.sizeFaultS)) rfl ?_
      exact ⟨by rw [HE.out] <;> rfl, below_grownO HBW.out HG8.out (fun k hk => by cases hk; omega) HBW.out.size⟩
  · have HF3 := hide (HF2.out.trans (if_neg (by omega)))
    by_cases h5 : 100 < l.length
    · have HE := hide (HF3.out.trans (if_pos h5))
      go_enter Try.func17, Try.ntmps17
      go_wp2_with (first
        | (go_at_call_of 34 (Value.int IntKind.i64 ep); refine (lNum_any ep _).mono ?_; rw [HN1.out]; rintro e w1 ⟨rfl, rfl⟩)
        | (go_at_call_of 34 (Value.int IntKind.i64 en); refine (lNum_any en _).mono ?_; rw [HN2.out]; rintro e w1 ⟨rfl, rfl⟩)
        | (go_at_call 33; refine (HTL.out _ (by go_grown)).mono ?_; rintro e w1 ⟨rfl, rfl⟩)
        | (go_at_call 32; refine (lF_any _ _ _).mono ?_; rintro e w1 ⟨rfl, hb1⟩; have HR := hide (HR0.out.later hb1); have HBW := hide (HB0.out.trans (hb1.mono HB0.out.size)); clear hb1; unfold flt)
        | (refine wpList_store_blk rfl rfl rfl rfl HR.out rfl Try.sizeFaultS rfl ?_; intro w8 hR8 hg8; have HR8 := hide hR8; have HG8 := hide hg8; clear hR8 hg8))
      refine bodyPost_ret (v := .agg #[.int .i64 (2), .int .i64 (-1)]) (results1_cell Try.results17 rfl (run_loadVar_blk HR8.out Try.underlying29 rfl Try.sizeFaultS)) rfl ?_
      exact ⟨by rw [HE.out] <;> rfl, below_grownO HBW.out HG8.out (fun k hk => by cases hk; omega) HBW.out.size⟩
    by_cases h6 : 0 ≤ I
    · have HE := hide ((HF3.out.trans (if_neg h5)).trans (HLF.out.trans (if_pos h6)))
      go_enter Try.func17, Try.ntmps17
      go_wp2_with (first
        | (go_at_call_of 34 (Value.int IntKind.i64 ep); refine (lNum_any ep _).mono ?_; rw [HN1.out]; rintro e w1 ⟨rfl, rfl⟩)
        | (go_at_call_of 34 (Value.int IntKind.i64 en); refine (lNum_any en _).mono ?_; rw [HN2.out]; rintro e w1 ⟨rfl, rfl⟩)
        | (go_at_call 33; refine (HTL.out _ (by go_grown)).mono ?_; rintro e w1 ⟨rfl, rfl⟩)
        | (go_at_call 32; refine (lF_any _ _ _).mono ?_; rintro e w1 ⟨rfl, hb1⟩; have HR := hide (HR0.out.later hb1); have HBW := hide (HB0.out.trans (hb1.mono HB0.out.size)); clear hb1; unfold flt)
        | (refine wpList_store_blk rfl rfl rfl rfl HR.out rfl Try.sizeFaultS rfl ?_; intro w8 hR8 hg8; have HR8 := hide hR8; have HG8 := hide hg8; clear hR8 hg8))
      refine bodyPost_ret (v := .agg #[.int .i64 (8), .int .i64 (I)]) (results1_cell Try.results17 rfl (run_loadVar_blk HR8.out Try.underlying29 rfl Try.sizeFaultS)) rfl ?_
      exact ⟨by rw [HE.out] <;> rfl, below_grownO HBW.out HG8.out (fun k hk => by cases hk; omega) HBW.out.size⟩
    · have HE := hide ((HF3.out.trans (if_neg h5)).trans (HLF.out.trans (if_neg h6)))
      have HR := HR0
      have HBW := HB0
      go_enter Try.func17, Try.ntmps17
      go_wp2_with (first
        | (go_at_call_of 34 (Value.int IntKind.i64 ep); refine (lNum_any ep _).mono ?_; rw [HN1.out]; rintro e w1 ⟨rfl, rfl⟩)
        | (go_at_call_of 34 (Value.int IntKind.i64 en); refine (lNum_any en _).mono ?_; rw [HN2.out]; rintro e w1 ⟨rfl, rfl⟩)
        | (go_at_call 33; refine (HTL.out _ (by go_grown)).mono ?_; rintro e w1 ⟨rfl, rfl⟩)
        | (go_at_call 32; refine (lF_any _ _ _).mono ?_; rintro e w1 ⟨rfl, hb1⟩; have HR := hide (HR0.out.later hb1); have HBW := hide (HB0.out.trans (hb1.mono HB0.out.size)); clear hb1; unfold flt)
        | (refine wpList_store_blk rfl rfl rfl rfl HR.out rfl Try.sizeFaultS rfl ?_; intro w8 hR8 hg8; have HR8 := hide hR8; have HG8 := hide hg8; clear hR8 hg8))
      refine bodyPost_ret (v := .agg #[.int .i64 (0), .int .i64 (0)]) (results1_cell Try.results17 rfl (run_loadVar_blk HR8.out Try.underlying29 rfl Try.sizeFaultS)) rfl ?_
      exact ⟨by rw [HE.out] <;> rfl, below_grownO HBW.out HG8.out (fun k hk => by cases hk; omega) HBW.out.size⟩

end Go.Proofs.Ytopnjklloleomaa

/-
  The walk over the document's CopyAsked. (Written by sr2.py.)
-/
namespace Go.Proofs.Ytopnjklloleomaa
open Go.RowKit
set_option linter.unusedVariables false

set_option maxRecDepth 100000 in
set_option maxHeartbeats 4000000 in
theorem CopyAsked_any (c : Cp) (v : Value) (e_ : Int) (g : Int × Int) (hg : Fz g) (w : World) (hv : RdG txE w v c.recs) :
    Calls Try.prog 31 #[cpV c v, .int .i64 e_, flt g] w fun e w' => e = .returned (flt (epF c e_ g)) ∧ Below w.heap.size w w' := by
  have HF : Hid (epF c e_ g = if (chkC c).1 ≠ 0 then chkC c else if e_ = 0 ∨ numL e_ = false then (3, -1) else if g.1 ≠ 0 then g else if e_ < c.ep then (12, -1) else (0, 0)) := hide rfl
  obtain ⟨ep, cl, l, en⟩ := c
  obtain ⟨gx, gy⟩ := g
  simp only at hv HF
  obtain ⟨ao, cap, rfl, _, _⟩ := hv.shape
  have HI := hide (CopyFault_any ⟨ep, cl, l, en⟩ _ _ (hv.below (below_alloc3 w (.cells #[.int .i64 ep, .bool cl, .slice ao l.length cap, .int .i64 en] 24) (.cells #[.int .i64 gx, .int .i64 gy] 29) (.cells #[.int .i64 0, .int .i64 0] 29))))
  have HC0 := hide (Blk.at0of3 w (.cells #[.int .i64 gx, .int .i64 gy] 29) (.cells #[.int .i64 0, .int .i64 0] 29) 24 #[.int .i64 ep, .bool cl, .slice ao l.length cap, .int .i64 en])
  have HG0 := hide (Blk.at1of3 w (.cells #[.int .i64 ep, .bool cl, .slice ao l.length cap, .int .i64 en] 24) (.cells #[.int .i64 0, .int .i64 0] 29) 29 #[.int .i64 gx, .int .i64 gy])
  have HR0 := hide (Blk.at2 w (.cells #[.int .i64 ep, .bool cl, .slice ao l.length cap, .int .i64 en] 24) (.cells #[.int .i64 gx, .int .i64 gy] 29) 29 #[.int .i64 0, .int .i64 0])
  have HB0 := hide (below_alloc3 w (.cells #[.int .i64 ep, .bool cl, .slice ao l.length cap, .int .i64 en] 24) (.cells #[.int .i64 gx, .int .i64 gy] 29) (.cells #[.int .i64 0, .int .i64 0] 29))
  have HZ := hide (chkC_z ⟨ep, cl, l, en⟩)
  have HGZ := hide hg
  have HNUM : Hid (numL e_ = decide (0 ≤ e_ ∧ e_ ≤ 1000000000)) := hide rfl
  generalize hK : chkC ⟨ep, cl, l, en⟩ = K at *
  obtain ⟨x, y⟩ := K
  clear hv hK hg
  unfold cpV at HI
  unfold cpV flt
  go_enter Try.func31, Try.ntmps31
  go_wp2_with fail
  refine HI.out.mono ?_
  rintro e w1 ⟨rfl, hb1⟩
  have hC := (HC0.out.later hb1).later (below_allocG w1 (.cells #[.int .i64 x, .int .i64 y] 29))
  have hG := (HG0.out.later hb1).later (below_allocG w1 (.cells #[.int .i64 x, .int .i64 y] 29))
  have hR := (HR0.out.later hb1).later (below_allocG w1 (.cells #[.int .i64 x, .int .i64 y] 29))
  have HBW := hide ((HB0.out.trans (hb1.mono HB0.out.size)).trans ((below_allocG w1 (.cells #[.int .i64 x, .int .i64 y] 29)).mono (HB0.out.trans (hb1.mono HB0.out.size)).size))
  have HT := hide (Blk.new w1 29 #[.int .i64 x, .int .i64 y])
  have HR : Hid (Blk _ (w.heap.size + 1 + 1) _ _) := hide hR
  have hrl : w.heap.size + 1 + 1 < w1.heap.size := (HR0.out.later hb1).lt
  have HNR := hide (show some (w.heap.size + 1 + 1) ≠ some w1.heap.size from fun q => by simp at q; omega)
  have HNC := hide (show some w.heap.size ≠ some w1.heap.size from fun q => by simp at q; omega)
  have gc0 := hG.cell 0
  have gc1 := hG.cell 1
  have cc0 := hC.cell 0
  have cl0 := hC.lt
  have gl0 := hG.lt
  simp at gc0 gc1 cc0 cl0 gl0
  have HCW := hide hC
  have HGW := hide hG
  clear hb1 hC hG hR HI HC0 HG0 HR0 HB0
  unfold flt
  by_cases hx : x ≠ 0
  · have HE := hide (HF.out.trans (if_pos hx))
    have hq : (x == 0) = false := beq_eq_false_iff_ne.2 hx
    clear hx
    go_wp2_with (first
      | (refine wpList_load_blk HT.out Try.underlying29 rfl Try.sizeFaultS rfl rfl rfl ?_)
      | (refine wpList_store_blk rfl rfl rfl rfl HR.out rfl Try.sizeFaultS rfl ?_; intro w8 hR8 hg8; have HR8 := hide hR8; have HG8 := hide hg8; clear hR8 hg8))
    refine bodyPost_ret (v := .agg #[.int .i64 (x), .int .i64 (y)]) (results1_cell Try.results31 rfl (run_loadVar_blk HR8.out Try.underlying29 rfl Try.sizeFaultS)) rfl ?_
    exact ⟨by rw [HE.out] <;> rfl, below_grownO HBW.out HG8.out (fun k hk => by cases hk; omega) HBW.out.size⟩
  have HFa := hide (HF.out.trans (if_neg hx))
  obtain rfl : x = 0 := Decidable.not_not.1 hx
  obtain rfl : y = 0 := by have := HZ.out rfl; simpa using this
  clear hx HF HZ
  by_cases h1 : e_ < 1
  · have he : e_ = 0 ∨ numL e_ = false := by rw [HNUM.out]; simp; omega
    have HE := hide (HFa.out.trans (if_pos he))
    clear he
    go_wp2_with (first
      | (go_at_call 32; refine (lF_any 3 (-1) _).mono ?_; rintro e w5 ⟨rfl, hb5⟩; have HTa := hide (HT.out.later hb5); have HRa := hide (HR.out.later hb5); have HBa := hide (HBW.out.trans (hb5.mono HBW.out.size)); clear hb5; unfold flt)
      | (refine wpList_store_blk rfl rfl rfl rfl HTa.out rfl Try.sizeFaultS rfl ?_; intro w6 hT6 hg6; have f6 := hT6.cell 0; have fl6 := hT6.lt; simp at f6; have HT6 := hide hT6; have HR6 := hide (HRa.out.grown hg6 HNR.out); have HB6 := hide (below_grownO HBa.out hg6 (fun k hk => by cases hk; omega) HBa.out.size); clear hT6 hg6)
      | (refine wpList_load_blk HT6.out Try.underlying29 rfl Try.sizeFaultS rfl rfl rfl ?_)
      | (refine wpList_store_blk rfl rfl rfl rfl HR6.out rfl Try.sizeFaultS rfl ?_; intro w8 hR8 hg8; have HR8 := hide hR8; have HG8 := hide hg8; clear hR8 hg8))
    refine bodyPost_ret (v := .agg #[.int .i64 (3), .int .i64 (-1)]) (results1_cell Try.results31 rfl (run_loadVar_blk HR8.out Try.underlying29 rfl Try.sizeFaultS)) rfl ?_
    exact ⟨by rw [HE.out] <;> rfl, below_grownO HB6.out HG8.out (fun k hk => by cases hk; omega) HB6.out.size⟩
  by_cases h2 : 1000000000 < e_
  · have he : e_ = 0 ∨ numL e_ = false := by rw [HNUM.out]; simp; omega
    have HE := hide (HFa.out.trans (if_pos he))
    clear he
    go_wp2_with (first
      | (go_at_call 32; refine (lF_any 3 (-1) _).mono ?_; rintro e w5 ⟨rfl, hb5⟩; have HTa := hide (HT.out.later hb5); have HRa := hide (HR.out.later hb5); have HBa := hide (HBW.out.trans (hb5.mono HBW.out.size)); clear hb5; unfold flt)
      | (refine wpList_store_blk rfl rfl rfl rfl HTa.out rfl Try.sizeFaultS rfl ?_; intro w6 hT6 hg6; have f6 := hT6.cell 0; have fl6 := hT6.lt; simp at f6; have HT6 := hide hT6; have HR6 := hide (HRa.out.grown hg6 HNR.out); have HB6 := hide (below_grownO HBa.out hg6 (fun k hk => by cases hk; omega) HBa.out.size); clear hT6 hg6)
      | (refine wpList_load_blk HT6.out Try.underlying29 rfl Try.sizeFaultS rfl rfl rfl ?_)
      | (refine wpList_store_blk rfl rfl rfl rfl HR6.out rfl Try.sizeFaultS rfl ?_; intro w8 hR8 hg8; have HR8 := hide hR8; have HG8 := hide hg8; clear hR8 hg8))
    refine bodyPost_ret (v := .agg #[.int .i64 (3), .int .i64 (-1)]) (results1_cell Try.results31 rfl (run_loadVar_blk HR8.out Try.underlying29 rfl Try.sizeFaultS)) rfl ?_
    exact ⟨by rw [HE.out] <;> rfl, below_grownO HB6.out HG8.out (fun k hk => by cases hk; omega) HB6.out.size⟩
  have HFb := hide (HFa.out.trans (if_neg (by rw [HNUM.out]; simp; omega)))
  clear HFa HNUM
  go_upto_region 5 with fail
  by_cases hx : gx ≠ 0
  · have HE := hide (HFb.out.trans (if_pos hx))
    have hq : (gx == 0) = false := beq_eq_false_iff_ne.2 hx
    clear hx
    go_wp2_with (first
      | (refine wpList_load_blk HGW.out Try.underlying29 rfl Try.sizeFaultS rfl rfl rfl ?_)
      | (refine wpList_store_blk rfl rfl rfl rfl HT.out rfl Try.sizeFaultS rfl ?_; intro w4 hT4 hg4; have f0 := hT4.cell 0; have fl4 := hT4.lt; simp at f0; have HT4 := hide hT4; have HR4 := hide (HR.out.grown hg4 HNR.out); have hC4 := HCW.out.grown hg4 HNC.out; have cd0 := hC4.cell 0; have cdl := hC4.lt; simp at cd0; have HB4 := hide (below_grownO HBW.out hg4 (fun k hk => by cases hk; omega) HBW.out.size); clear hT4 hg4 hC4)
      | (refine wpList_load_blk HT4.out Try.underlying29 rfl Try.sizeFaultS rfl rfl rfl ?_)
      | (refine wpList_store_blk rfl rfl rfl rfl HR4.out rfl Try.sizeFaultS rfl ?_; intro w8 hR8 hg8; have HR8 := hide hR8; have HG8 := hide hg8; clear hR8 hg8))
    refine bodyPost_ret (v := .agg #[.int .i64 (gx), .int .i64 (gy)]) (results1_cell Try.results31 rfl (run_loadVar_blk HR8.out Try.underlying29 rfl Try.sizeFaultS)) rfl ?_
    exact ⟨by rw [HE.out] <;> rfl, below_grownO HB4.out HG8.out (fun k hk => by cases hk; omega) HB4.out.size⟩
  have HFc := hide (HFb.out.trans (if_neg hx))
  obtain rfl : gx = 0 := Decidable.not_not.1 hx
  obtain rfl : gy = 0 := by have := HGZ.out rfl; simpa using this
  clear hx HFb HGZ
  by_cases hl : e_ < ep
  · have HE := hide (HFc.out.trans (if_pos hl))
    go_wp2_with (first
      | (refine wpList_load_blk HGW.out Try.underlying29 rfl Try.sizeFaultS rfl rfl rfl ?_)
      | (refine wpList_store_blk rfl rfl rfl rfl HT.out rfl Try.sizeFaultS rfl ?_; intro w4 hT4 hg4; have f0 := hT4.cell 0; have fl4 := hT4.lt; simp at f0; have HT4 := hide hT4; have HR4 := hide (HR.out.grown hg4 HNR.out); have hC4 := HCW.out.grown hg4 HNC.out; have cd0 := hC4.cell 0; have cdl := hC4.lt; simp at cd0; have HB4 := hide (below_grownO HBW.out hg4 (fun k hk => by cases hk; omega) HBW.out.size); clear hT4 hg4 hC4)
      | (go_at_call 32; refine (lF_any 12 (-1) _).mono ?_; rintro e w5 ⟨rfl, hb5⟩; have HTa := hide (HT4.out.later hb5); have HRa := hide (HR4.out.later hb5); have HBa := hide (HB4.out.trans (hb5.mono HB4.out.size)); clear hb5; unfold flt)
      | (refine wpList_store_blk rfl rfl rfl rfl HTa.out rfl Try.sizeFaultS rfl ?_; intro w6 hT6 hg6; have f6 := hT6.cell 0; have fl6 := hT6.lt; simp at f6; have HT6 := hide hT6; have HR6 := hide (HRa.out.grown hg6 HNR.out); have HB6 := hide (below_grownO HBa.out hg6 (fun k hk => by cases hk; omega) HBa.out.size); clear hT6 hg6)
      | (refine wpList_load_blk HT6.out Try.underlying29 rfl Try.sizeFaultS rfl rfl rfl ?_)
      | (refine wpList_store_blk rfl rfl rfl rfl HR6.out rfl Try.sizeFaultS rfl ?_; intro w8 hR8 hg8; have HR8 := hide hR8; have HG8 := hide hg8; clear hR8 hg8))
    refine bodyPost_ret (v := .agg #[.int .i64 (12), .int .i64 (-1)]) (results1_cell Try.results31 rfl (run_loadVar_blk HR8.out Try.underlying29 rfl Try.sizeFaultS)) rfl ?_
    exact ⟨by rw [HE.out] <;> rfl, below_grownO HB6.out HG8.out (fun k hk => by cases hk; omega) HB6.out.size⟩
  · have HE := hide (HFc.out.trans (if_neg hl))
    go_wp2_with (first
      | (refine wpList_load_blk HGW.out Try.underlying29 rfl Try.sizeFaultS rfl rfl rfl ?_)
      | (refine wpList_store_blk rfl rfl rfl rfl HT.out rfl Try.sizeFaultS rfl ?_; intro w4 hT4 hg4; have f0 := hT4.cell 0; have fl4 := hT4.lt; simp at f0; have HT4 := hide hT4; have HR4 := hide (HR.out.grown hg4 HNR.out); have hC4 := HCW.out.grown hg4 HNC.out; have cd0 := hC4.cell 0; have cdl := hC4.lt; simp at cd0; have HB4 := hide (below_grownO HBW.out hg4 (fun k hk => by cases hk; omega) HBW.out.size); clear hT4 hg4 hC4)
      | (refine wpList_load_blk HT4.out Try.underlying29 rfl Try.sizeFaultS rfl rfl rfl ?_)
      | (refine wpList_store_blk rfl rfl rfl rfl HR4.out rfl Try.sizeFaultS rfl ?_; intro w8 hR8 hg8; have HR8 := hide hR8; have HG8 := hide hg8; clear hR8 hg8))
    refine bodyPost_ret (v := .agg #[.int .i64 (0), .int .i64 (0)]) (results1_cell Try.results31 rfl (run_loadVar_blk HR8.out Try.underlying29 rfl Try.sizeFaultS)) rfl ?_
    exact ⟨by rw [HE.out] <;> rfl, below_grownO HB4.out HG8.out (fun k hk => by cases hk; omega) HB4.out.size⟩

end Go.Proofs.Ytopnjklloleomaa

/-
  The walk over the document's Chosen.
-/
namespace Go.Proofs.Ytopnjklloleomaa
open Go.RowKit
set_option linter.unusedVariables false

/-- The greatest of the numbers that copies were ended at. -/
def maxE : List Cp → Int
  | [] => 0
  | c :: r => max c.en (maxE r)

/-- The greatest of the lengths. -/
def maxL : List Cp → Int
  | [] => 0
  | c :: r => max (c.recs.length : Int) (maxL r)

/-- The records of the first copy that was ended at E, and has L records where E is 0. -/
def pickL (E L : Int) : List Cp → List ByteArray
  | [] => []
  | c :: r => if c.en = E ∧ (0 < E ∨ (c.recs.length : Int) = L) then c.recs else pickL E L r

theorem maxE_z : ∀ r, 0 ≤ maxE r
  | [] => by decide
  | c :: r => by have := maxE_z r; unfold maxE; omega

theorem maxL_z : ∀ r, 0 ≤ maxL r
  | [] => by decide
  | c :: r => by have := maxL_z r; unfold maxL; omega

theorem pickL_pos {E L M : Int} (h : 0 < E) : ∀ r, pickL E L r = pickL E M r
  | [] => rfl
  | c :: r => by
    unfold pickL
    rw [pickL_pos h r]
    by_cases q : c.en = E
    · rw [if_pos ⟨q, .inl h⟩, if_pos ⟨q, .inl h⟩]
    · rw [if_neg (fun x => q x.1), if_neg (fun x => q x.1)]

theorem best_pick : ∀ (r : List Cp) (b : Cp), 0 ≤ b.en → (∀ c ∈ r, 0 ≤ c.en) → (bestC b r).recs = pickL (maxE (b :: r)) (maxL (b :: r)) (b :: r)
  | [], b, hb, _ => by
    unfold bestC pickL maxE maxL maxE maxL
    rw [if_pos (by omega)]
  | c :: r, b, hb, hr => by
    have hc := hr c (by simp)
    have hE := maxE_z r
    have hL := maxL_z r
    unfold bestC
    cases hq : betB c b
    · rw [if_neg (by simp), best_pick r b hb (fun d hd => hr d (by simp [hd]))]
      simp only [maxE, maxL]
      unfold betB at hq
      split at hq
      · have h1 : ¬ b.en < c.en := of_decide_eq_false hq
        have e1 : max b.en (max c.en (maxE r)) = max b.en (maxE r) := by omega
        rw [e1]
        generalize hG : max b.en (maxE r) = G
        have hG0 : 0 < G := by omega
        unfold pickL
        by_cases q : b.en = G
        · rw [if_pos ⟨q, .inl hG0⟩, if_pos ⟨q, .inl hG0⟩]
        · rw [if_neg (fun x => q x.1), if_neg (fun x => q x.1), pickL, if_neg (fun x => by omega)]
          exact pickL_pos hG0 r
      · have h1 : ¬ b.recs.length < c.recs.length := of_decide_eq_false hq
        have e1 : max b.en (max c.en (maxE r)) = max b.en (maxE r) := by omega
        have e2 : max (b.recs.length : Int) (max (c.recs.length : Int) (maxL r)) = max (b.recs.length : Int) (maxL r) := by omega
        rw [e1, e2]
        generalize hG : max b.en (maxE r) = G
        generalize hM : max (b.recs.length : Int) (maxL r) = M
        unfold pickL
        by_cases q : b.en = G ∧ (0 < G ∨ (b.recs.length : Int) = M)
        · rw [if_pos q, if_pos q]
        · rw [if_neg q, if_neg q, pickL, if_neg (fun x => q (by omega))]
    · rw [if_pos rfl, best_pick r c hc (fun d hd => hr d (by simp [hd]))]
      simp only [maxE, maxL]
      unfold betB at hq
      split at hq
      · have h1 : b.en < c.en := of_decide_eq_true hq
        have e1 : max b.en (max c.en (maxE r)) = max c.en (maxE r) := by omega
        rw [e1]
        generalize hG : max c.en (maxE r) = G
        have hG0 : 0 < G := by omega
        conv => rhs; unfold pickL
        rw [if_neg (fun x => by omega)]
        exact pickL_pos hG0 _
      · have h1 : b.recs.length < c.recs.length := of_decide_eq_true hq
        have e1 : max b.en (max c.en (maxE r)) = max c.en (maxE r) := by omega
        have e2 : max (b.recs.length : Int) (max (c.recs.length : Int) (maxL r)) = max (c.recs.length : Int) (maxL r) := by omega
        rw [e1, e2]
        generalize hG : max c.en (maxE r) = G
        generalize hM : max (c.recs.length : Int) (maxL r) = M
        conv => rhs; unfold pickL
        rw [if_neg (fun x => by omega)]

theorem chkC_en {c : Cp} (h : (chkC c).1 = 0) : 0 ≤ c.en := by
  unfold chkC at h
  split at h
  · simp at h
  rename_i h1
  have h2 := (Decidable.not_not.1 h1).2
  unfold numL at h2
  have := of_decide_eq_true h2
  omega

theorem choL_pick {n : Int} {cs : List Cp} (h : (chooseF n cs).1 = 0) : choL n cs = pickL (maxE cs) (maxL cs) cs := by
  unfold choL
  rw [if_pos h]
  obtain ⟨_, _, _, hpos, hs⟩ := chooseF_ok h
  have hall := saidF_each cs 0 hs
  cases cs with
  | nil => simp at hpos
  | cons c r =>
    have := best_pick r c (chkC_en (hall c (by simp)).1) (fun d hd => chkC_en (hall d (by simp [hd])).1)
    simpa using this

end Go.Proofs.Ytopnjklloleomaa

/-
  The walk over the document's Chosen. (Written by sc4.py.)
-/
namespace Go.Proofs.Ytopnjklloleomaa
open Go.RowKit
set_option linter.unusedVariables false

theorem choL_bad {n : Int} {cs : List Cp} {x y : Int} (h : chooseF n cs = (x, y)) (hx : x ≠ 0 := by first | assumption | decide) : choL n cs = [] := by
  unfold choL
  rw [h, if_neg hx]

set_option maxRecDepth 100000 in
set_option maxHeartbeats 8000000 in
theorem Chosen_any (n : Int) (v : Value) (cs : List Cp) (w : World) (hv : RdQ w v cs) (h20 : cs.length ≤ 20) :
    Calls Try.prog 19 #[.int .i64 n, v] w fun e w' => ∃ v', e = .returned (.tuple #[v', flt (chooseF n cs)]) ∧ w'.ownsRow w.heap.size 9 1 v' (choL n cs).length (txE.vs (choL n cs)) ∧ Below w.heap.size w w' := by
  have HF : Hid (chooseF n cs = if ¬ (1 ≤ n ∧ n ≤ 7) then (3, -1) else if n < cs.length then (2, -1) else if (saidF cs 0).1 ≠ 0 then saidF cs 0 else if ¬ (n / 2 < (cs.length : Int)) then (6, -1) else (0, 0)) := hide rfl
  have HV := hide hv
  obtain ⟨ao, cap, rfl, hc1, hc2⟩ := hv.shape
  unfold maxLen at hc2
  have HRn := hide (Blk.new w 29 #[.int .i64 0, .int .i64 0])
  have HBn := hide (below_allocG w (.cells #[.int .i64 0, .int .i64 0] 29))
  have h20 := hide h20
  clear hv
  have hfld : ∀ (x y : Int) W, (Instr.field 29 (.agg #[.int .i64 x, .int .i64 y]) 0).run Try.prog W = .ok (.int .i64 x) W := fun x y W => by kernel_rfl
  go_enter Try.func19, Try.ntmps19
  by_cases h1 : 1 ≤ n ∧ n ≤ 7
  case neg =>
    have HE := HF.out.trans (if_pos h1)
    by_cases ha : n < 1
    · have d1 : decide (n < 1) = true := decide_eq_true ha
      clear h1 HF
      go_wp2_with (first
        | (go_at_call 32; refine (lF_any _ _ _).mono ?_; rintro e wf ⟨rfl, hbf⟩; have HRf := hide (HRn.out.later hbf); have HBf := hide (HBn.out.trans (hbf.mono HBn.out.size)); clear hbf; unfold flt)
        | (refine wpList_store_blk rfl rfl rfl rfl HRf.out rfl Try.sizeFaultS rfl ?_; intro w8 hR8 hg8; have HR8 := hide hR8; have HG8 := hide hg8; clear hR8 hg8))
      refine bodyPost_ret (v := .tuple #[.slice none 0 0, .agg #[.int .i64 3, .int .i64 (-1)]]) (results2_tc Try.results19 rfl rfl (run_loadVar_blk HR8.out Try.underlying29 rfl Try.sizeFaultS)) rfl ?_
      have HL := choL_bad HE
      exact ⟨.slice none 0 0, by rw [HE]; rfl, by rw [HL]; exact World.ownsRow_nil _ _ _ _, below_grownO HBf.out HG8.out (fun k hk => by cases hk; omega) HBf.out.size⟩
    · have d1 : decide (n < 1) = false := decide_eq_false ha
      have d2 : decide (7 < n) = true := decide_eq_true (by omega)
      clear h1 HF
      go_wp2_with (first
        | (go_at_call 32; refine (lF_any _ _ _).mono ?_; rintro e wf ⟨rfl, hbf⟩; have HRf := hide (HRn.out.later hbf); have HBf := hide (HBn.out.trans (hbf.mono HBn.out.size)); clear hbf; unfold flt)
        | (refine wpList_store_blk rfl rfl rfl rfl HRf.out rfl Try.sizeFaultS rfl ?_; intro w8 hR8 hg8; have HR8 := hide hR8; have HG8 := hide hg8; clear hR8 hg8))
      refine bodyPost_ret (v := .tuple #[.slice none 0 0, .agg #[.int .i64 3, .int .i64 (-1)]]) (results2_tc Try.results19 rfl rfl (run_loadVar_blk HR8.out Try.underlying29 rfl Try.sizeFaultS)) rfl ?_
      have HL := choL_bad HE
      exact ⟨.slice none 0 0, by rw [HE]; rfl, by rw [HL]; exact World.ownsRow_nil _ _ _ _, below_grownO HBf.out HG8.out (fun k hk => by cases hk; omega) HBf.out.size⟩
  have HFa := hide (HF.out.trans (if_neg (fun q => q h1)))
  have d1 : decide (n < 1) = false := decide_eq_false (by omega)
  have d2 : decide (7 < n) = false := decide_eq_false (by omega)
  clear HF
  by_cases h2 : n < (cs.length : Int)
  · have HE := HFa.out.trans (if_pos h2)
    have d3 : decide (n < (cs.length : Int)) = true := decide_eq_true h2
    clear h1 h2 HFa
    go_wp2_with (first
      | (go_at_call 32; refine (lF_any _ _ _).mono ?_; rintro e wf ⟨rfl, hbf⟩; have HRf := hide (HRn.out.later hbf); have HBf := hide (HBn.out.trans (hbf.mono HBn.out.size)); clear hbf; unfold flt)
      | (refine wpList_store_blk rfl rfl rfl rfl HRf.out rfl Try.sizeFaultS rfl ?_; intro w8 hR8 hg8; have HR8 := hide hR8; have HG8 := hide hg8; clear hR8 hg8))
    refine bodyPost_ret (v := .tuple #[.slice none 0 0, .agg #[.int .i64 2, .int .i64 (-1)]]) (results2_tc Try.results19 rfl rfl (run_loadVar_blk HR8.out Try.underlying29 rfl Try.sizeFaultS)) rfl ?_
    have HL := choL_bad HE
    exact ⟨.slice none 0 0, by rw [HE]; rfl, by rw [HL]; exact World.ownsRow_nil _ _ _ _, below_grownO HBf.out HG8.out (fun k hk => by cases hk; omega) HBf.out.size⟩
  have HFb : Hid (chooseF n cs = if (saidF cs 0).1 ≠ 0 then saidF cs 0 else if ¬ (n / 2 < (cs.length : Int)) then (6, -1) else (0, 0)) := hide (HFa.out.trans (if_neg h2))
  have d3 : decide (n < (cs.length : Int)) = false := decide_eq_false h2
  clear HFa
  go_upto_region 5 with fail
  clear d1 d2 d3
  go_wp2_with fail
  go_loopw [6] (fun iv wr => ∃ j : Nat, j ≤ cs.length ∧ iv = .int .i64 j ∧ saidF (cs.drop j) j = saidF cs 0 ∧ Below w.heap.size w wr ∧ Below (w.heap.size + 1) (w.alloc (.cells #[.int .i64 0, .int .i64 0] 29)) wr)
    (fun iv _ => cs.length - (intOf iv).toNat)
  case atStart => exact ⟨0, by omega, rfl, rfl, HBn.out, Below.refl _ _⟩
  case round =>
    obtain ⟨j, hj, rfl, hgo, hbw, hbr⟩ := hrel
    have HGO := hide hgo
    have HBr := hide hbw
    have HBR := hide hbr
    have HRr := hide (HRn.out.below hbr (by omega))
    have hrl := HRr.out.lt
    clear hgo hbr
    by_cases hlt : j < cs.length
    · obtain ⟨c, hc⟩ : ∃ c, cs[j]? = some c := ⟨_, List.getElem?_eq_getElem hlt⟩
      rw [drop_consQ hc, saidF] at HGO
      obtain ⟨b, off, ao', cap', rfl, hb, q0, q1, q2, q3, hr⟩ := HV.out.here hc
      have r0 := cell_belowG q0 hbw
      have r1 := cell_belowG q1 hbw
      have r2 := cell_belowG q2 hbw
      have r3 := cell_belowG q3 hbw
      have hb' : b < wr.heap.size := Nat.lt_of_lt_of_le hb hbw.size
      have hk1 : (0 : Int) ≤ (j : Int) := by omega
      have hk2 : (j : Int) < (cs.length : Int) := by omega
      have Q0 := hide q0
      have Q1 := hide q1
      have Q2 := hide q2
      have Q3 := hide q3
      have HBB := hide hb
      obtain ⟨ep, cl, l, en⟩ := c
      simp only at r0 r1 r2 r3 hr HGO Q0 Q1 Q2 Q3
      have HCK := hide (fun W (hW : Below w.heap.size w W) => CopyFault_any ⟨ep, cl, l, en⟩ (.slice ao' l.length cap') W (hr.below hW))
      have HZ := hide (chkC_z ⟨ep, cl, l, en⟩)
      generalize hK : chkC ⟨ep, cl, l, en⟩ = K at *
      obtain ⟨x, y⟩ := K
      clear q0 q1 q2 q3 hr hc hbw hK hb
      unfold cpV flt at HCK
      dsimp only at HCK
      go_upto_if 35 with (go_at_call 17; refine (HCK.out _ HBr.out).mono ?_; rintro e w1 ⟨rfl, hb1⟩)
      have HB1 := hide (HBr.out.trans (hb1.mono HBr.out.size))
      have HB1R := hide (HBR.out.trans (hb1.mono hrl))
      have HR1 := hide (HRr.out.later hb1)
      clear r0 r1 r2 r3 hb1 hb'
      have r0 := cell_belowG Q0.out HB1.out
      have r1 := cell_belowG Q1.out HB1.out
      have r2 := cell_belowG Q2.out HB1.out
      have r3 := cell_belowG Q3.out HB1.out
      have hb' : b < w1.heap.size := Nat.lt_of_lt_of_le HBB.out HB1.out.size
      by_cases hx : x ≠ 0
      · have hq : (x == 0) = false := beq_eq_false_iff_ne.2 hx
        have hq2 : (x != 0) = true := by simp [hx]
        have HS := hide (HGO.out.symm.trans (if_pos hx))
        have HE : chooseF n cs = (x, (j : Int)) := by rw [HFb.out, HS.out, if_pos hx]
        go_wp2_with (first
          | (go_at_call 17; refine (HCK.out _ HB1.out).mono ?_; rintro e w2 ⟨rfl, hb2⟩; have HB2 := hide (HB1.out.trans (hb2.mono HB1.out.size)); have HR2 := hide (HR1.out.later hb2); clear r0 r1 r2 r3 hb2 hb')
          | (go_at_call 32; refine (lF_any _ _ _).mono ?_; rintro e wf ⟨rfl, hbf⟩; have HRf := hide (HR2.out.later hbf); have HBf := hide (HB2.out.trans (hbf.mono HB2.out.size)); clear hbf; unfold flt)
          | (refine wpList_store_blk rfl rfl rfl rfl HRf.out rfl Try.sizeFaultS rfl ?_; intro w8 hR8 hg8; have HR8 := hide hR8; have HG8 := hide hg8; clear hR8 hg8))
        refine bodyPost_ret (v := .tuple #[.slice none 0 0, .agg #[.int .i64 x, .int .i64 j]]) (results2_tc Try.results19 rfl rfl (run_loadVar_blk HR8.out Try.underlying29 rfl Try.sizeFaultS)) rfl ?_
        have HL := choL_bad HE
        exact ⟨.slice none 0 0, by rw [HE]; rfl, by rw [HL]; exact World.ownsRow_nil _ _ _ _, below_grownO HBf.out HG8.out (fun k hk => by cases hk; omega) HBf.out.size⟩
      have HS := hide (HGO.out.symm.trans (if_neg hx))
      obtain rfl : x = 0 := Decidable.not_not.1 hx
      obtain rfl : y = 0 := by have := HZ.out rfl; simpa using this
      clear hx
      cases cl
      · have HS2 := hide (HS.out.trans (if_pos rfl))
        have HE : chooseF n cs = (11, (j : Int)) := by rw [HFb.out, HS2.out, if_pos (by simp)]
        go_wp2_with (first
          | (go_at_call 32; refine (lF_any _ _ _).mono ?_; rintro e wf ⟨rfl, hbf⟩; have HRf := hide (HR1.out.later hbf); have HBf := hide (HB1.out.trans (hbf.mono HB1.out.size)); clear hbf; unfold flt)
          | (refine wpList_store_blk rfl rfl rfl rfl HRf.out rfl Try.sizeFaultS rfl ?_; intro w8 hR8 hg8; have HR8 := hide hR8; have HG8 := hide hg8; clear hR8 hg8))
        refine bodyPost_ret (v := .tuple #[.slice none 0 0, .agg #[.int .i64 11, .int .i64 j]]) (results2_tc Try.results19 rfl rfl (run_loadVar_blk HR8.out Try.underlying29 rfl Try.sizeFaultS)) rfl ?_
        have HL := choL_bad HE
        exact ⟨.slice none 0 0, by rw [HE]; rfl, by rw [HL]; exact World.ownsRow_nil _ _ _ _, below_grownO HBf.out HG8.out (fun k hk => by cases hk; omega) HBf.out.size⟩
      · have HS2 := hide (HS.out.trans (if_neg (by simp)))
        go_wp2_with fail
        go_roundw
        case rel => exact ⟨j + 1, by omega, by go_num, HS2.out.symm, HB1.out, HB1R.out⟩
        case measure => simp [intOf]; omega
    have hje : j = cs.length := by omega
    subst hje
    rw [List.drop_length] at HGO
    have HFc : Hid (chooseF n cs = if ¬ (n / 2 < (cs.length : Int)) then (6, -1) else (0, 0)) := hide (by have h0 := HFb.out; rw [if_neg (show ¬ (saidF cs 0).1 ≠ 0 by rw [← HGO.out]; simp [saidF])] at h0; rw [h0]; rcases Decidable.em (n / 2 < (cs.length : Int)) with q | q; (rw [if_neg (by omega), if_neg (by omega)]); (rw [if_pos (by omega), if_pos (by omega)]))
    have h20b := h20.out
    have hw : IntKind.i64.wrap (2 * (cs.length : Int)) = 2 * cs.length := by rw [IntKind.wrap_i64]; omega
    have HBn2 := hide hbw
    clear HGO HFb hlt hbw hj HBn
    by_cases h3 : n / 2 < (cs.length : Int)
    case neg =>
      have HE := HFc.out.trans (if_pos h3)
      have d3 : decide (2 * (cs.length : Int) ≤ n) = true := decide_eq_true (by omega)
      clear h1 h2 h3 HFc
      go_wp2_with (first
        | (go_at_call 32; refine (lF_any _ _ _).mono ?_; rintro e wf ⟨rfl, hbf⟩; have HRf := hide (HRr.out.later hbf); have HBf := hide (HBn2.out.trans (hbf.mono HBn2.out.size)); clear hbf; unfold flt)
        | (refine wpList_store_blk rfl rfl rfl rfl HRf.out rfl Try.sizeFaultS rfl ?_; intro w8 hR8 hg8; have HR8 := hide hR8; have HG8 := hide hg8; clear hR8 hg8))
      refine bodyPost_ret (v := .tuple #[.slice none 0 0, .agg #[.int .i64 6, .int .i64 (-1)]]) (results2_tc Try.results19 rfl rfl (run_loadVar_blk HR8.out Try.underlying29 rfl Try.sizeFaultS)) rfl ?_
      have HL := choL_bad HE
      exact ⟨.slice none 0 0, by rw [HE]; rfl, by rw [HL]; exact World.ownsRow_nil _ _ _ _, below_grownO HBf.out HG8.out (fun k hk => by cases hk; omega) HBf.out.size⟩
    have HE := HFc.out.trans (if_neg (fun q => q h3))
    have HPK := hide (choL_pick (n := n) (cs := cs) (by rw [HE]))
    have HLN := hide (fun c (hc : c ∈ cs) => chkC_len (saidF_each cs 0 (chooseF_ok (n := n) (cs := cs) (by rw [HE])).2.2.2.2 c hc).1)
    have HE := hide HE
    have d3 : decide (2 * (cs.length : Int) ≤ n) = false := decide_eq_false (by omega)
    clear h1 h2 h3 HFc
    go_upto_region 15 with fail
    clear d3 hw
    go_wp2_with fail
    go_loopw [7, 8, 9] (fun ev lv iv wl => ∃ (k : Nat) (E L : Int), k ≤ cs.length ∧ iv = .int .i64 k ∧ ev = .int .i64 E ∧ lv = .int .i64 L ∧ max E (maxE (cs.drop k)) = maxE cs ∧ max L (maxL (cs.drop k)) = maxL cs ∧ 0 ≤ E ∧ 0 ≤ L ∧ wr = wl)
      (fun _ _ iv _ => cs.length - (intOf iv).toNat)
    case atStart => exact ⟨0, 0, 0, by omega, rfl, rfl, rfl, by have := maxE_z cs; simp; omega, by have := maxL_z cs; simp; omega, by omega, by omega, rfl⟩
    case round =>
      obtain ⟨k, E, L, hk, rfl, rfl, rfl, hE, hL, hE0, hL0, rfl⟩ := hrel
      have HEE := hide hE
      have HLL := hide hL
      clear hE hL
      by_cases hlt : k < cs.length
      · obtain ⟨c, hc⟩ : ∃ c, cs[k]? = some c := ⟨_, List.getElem?_eq_getElem hlt⟩
        rw [drop_consQ hc, maxE] at HEE
        rw [drop_consQ hc, maxL] at HLL
        obtain ⟨b, off, ao', cap', rfl, hb, q0, q1, q2, q3, hr⟩ := HV.out.here hc
        have r2 := cell_belowG q2 HBr.out
        have r3 := cell_belowG q3 HBr.out
        have hb' : b < wr.heap.size := Nat.lt_of_lt_of_le hb HBr.out.size
        have hk1 : (0 : Int) ≤ (k : Int) := by omega
        have hk2 : (k : Int) < (cs.length : Int) := by omega
        clear q0 q1 q2 q3 hr hc hb
        go_wp2_with fail
        go_roundw
        case rel => exact ⟨k + 1, _, _, by omega, by go_num, rfl, rfl, by rw [← HEE.out]; first | omega | (split <;> omega), by rw [← HLL.out]; first | omega | (split <;> omega), by first | omega | (split <;> omega), by first | omega | (split <;> omega), trivial⟩
        case measure => simp [intOf]; omega
      have hke : k = cs.length := by omega
      subst hke
      rw [List.drop_length] at HEE HLL
      have eE : E = maxE cs := by rw [← HEE.out]; simp only [maxE]; omega
      have eL : L = maxL cs := by rw [← HLL.out]; simp only [maxL]; omega
      have HPK := hide (show choL n cs = pickL E L cs by rw [HPK.out, eE, eL])
      clear HEE HLL hlt hk eE eL hE0 hL0
      go_wp2_with fail
      go_loopw [10] (fun iv wl => ∃ i : Nat, i ≤ cs.length ∧ iv = .int .i64 i ∧ pickL E L (cs.drop i) = pickL E L cs ∧ wr = wl)
        (fun iv _ => cs.length - (intOf iv).toNat)
      case atStart => exact ⟨0, by omega, rfl, rfl, rfl⟩
      case round =>
        obtain ⟨i, hi, rfl, hpk, rfl⟩ := hrel
        have HPP := hide hpk
        clear hpk
        by_cases hlt : i < cs.length
        · obtain ⟨c, hc⟩ : ∃ c, cs[i]? = some c := ⟨_, List.getElem?_eq_getElem hlt⟩
          rw [drop_consQ hc, pickL] at HPP
          obtain ⟨b, off, ao', cap', rfl, hb, q0, q1, q2, q3, hr⟩ := HV.out.here hc
          have r2 := cell_belowG q2 HBr.out
          have r3 := cell_belowG q3 HBr.out
          have hb' : b < wr.heap.size := Nat.lt_of_lt_of_le hb HBr.out.size
          have hk1 : (0 : Int) ≤ (i : Int) := by omega
          have hk2 : (i : Int) < (cs.length : Int) := by omega
          have HRC := hide (hr.below HBr.out)
          have HLC := hide (HLN.out c (List.mem_of_getElem? hc))
          obtain ⟨ep, cl, l, en⟩ := c
          simp only at r2 r3 HRC HLC HPP
          clear q0 q1 q2 q3 hr hc hb
          by_cases hp : en = E ∧ (0 < E ∨ (l.length : Int) = L)
          · have HQ := hide (HPP.out.symm.trans (if_pos hp))
            have hlc := HLC.out
            have e1 : (en == E) = true := by simp [hp.1]
            by_cases hp2 : 0 < E
            · have e2 : decide (0 < E) = true := decide_eq_true hp2
              clear hp hp2
              go_upto_region 24 with fail
              go_wp2_with (first
                | (refine wpList_append_rdG (E := txE) (cs := []) (v := .slice none 0 0) (n := 0) (base := wr.heap.size) (World.ownsRow_nil _ _ _ _) HRC.out Try.underlying22 infoText rfl rfl rfl rfl rfl (by omega) (by decide) (Nat.le_refl _) ?_; intro v5 w5 ho5 hb5 hg5; rw [List.nil_append, Nat.zero_add] at ho5; obtain ⟨ao5, cap5, rfl⟩ := owns_shape ho5; have HO5 := hide ho5; have HB5 := hide (HBr.out.trans (hb5.mono HBr.out.size)); have HR5 := hide (HRr.out.later hb5); clear ho5 hb5 hg5)
                | (refine wpList_store_blk rfl rfl rfl rfl HR5.out rfl Try.sizeFaultS rfl ?_; intro w8 hR8 hg8; have HR8 := hide hR8; have HG8 := hide hg8; clear hR8 hg8))
              refine bodyPost_ret (v := .tuple #[.slice ao5 l.length cap5, .agg #[.int .i64 0, .int .i64 0]]) (results2_tc Try.results19 rfl rfl (run_loadVar_blk HR8.out Try.underlying29 rfl Try.sizeFaultS)) rfl ?_
              have HL := HPK.out.trans HQ.out
              exact ⟨.slice ao5 l.length cap5, by rw [HE.out]; rfl, by rw [HL]; exact owns_base0 (owns_grownO HO5.out HG8.out (.inr (owns_off HO5.out HR5.out (by decide)))) HBr.out.size, below_grownO HB5.out HG8.out (fun k hk => by cases hk; omega) HB5.out.size⟩
            · have e2 : decide (0 < E) = false := decide_eq_false hp2
              have e3 : ((l.length : Int) == L) = true := by simp [hp.2.resolve_left hp2]
              clear hp hp2
              go_upto_region 24 with fail
              go_wp2_with (first
                | (refine wpList_append_rdG (E := txE) (cs := []) (v := .slice none 0 0) (n := 0) (base := wr.heap.size) (World.ownsRow_nil _ _ _ _) HRC.out Try.underlying22 infoText rfl rfl rfl rfl rfl (by omega) (by decide) (Nat.le_refl _) ?_; intro v5 w5 ho5 hb5 hg5; rw [List.nil_append, Nat.zero_add] at ho5; obtain ⟨ao5, cap5, rfl⟩ := owns_shape ho5; have HO5 := hide ho5; have HB5 := hide (HBr.out.trans (hb5.mono HBr.out.size)); have HR5 := hide (HRr.out.later hb5); clear ho5 hb5 hg5)
                | (refine wpList_store_blk rfl rfl rfl rfl HR5.out rfl Try.sizeFaultS rfl ?_; intro w8 hR8 hg8; have HR8 := hide hR8; have HG8 := hide hg8; clear hR8 hg8))
              refine bodyPost_ret (v := .tuple #[.slice ao5 l.length cap5, .agg #[.int .i64 0, .int .i64 0]]) (results2_tc Try.results19 rfl rfl (run_loadVar_blk HR8.out Try.underlying29 rfl Try.sizeFaultS)) rfl ?_
              have HL := HPK.out.trans HQ.out
              exact ⟨.slice ao5 l.length cap5, by rw [HE.out]; rfl, by rw [HL]; exact owns_base0 (owns_grownO HO5.out HG8.out (.inr (owns_off HO5.out HR5.out (by decide)))) HBr.out.size, below_grownO HB5.out HG8.out (fun k hk => by cases hk; omega) HB5.out.size⟩
          · have HQ := hide (HPP.out.symm.trans (if_neg hp))
            by_cases hp1 : en = E
            · have e1 : (en == E) = true := by simp [hp1]
              have e2 : decide (0 < E) = false := decide_eq_false (fun q => hp ⟨hp1, .inl q⟩)
              have e3 : ((l.length : Int) == L) = false := beq_eq_false_iff_ne.2 (fun q => hp ⟨hp1, .inr q⟩)
              clear hp hp1
              go_wp2_with fail
              go_roundw
              case rel => exact ⟨i + 1, by omega, by go_num, HQ.out.symm, trivial⟩
              case measure => simp [intOf]; omega
            · have e1 : (en == E) = false := beq_eq_false_iff_ne.2 hp1
              clear hp hp1
              go_wp2_with fail
              go_roundw
              case rel => exact ⟨i + 1, by omega, by go_num, HQ.out.symm, trivial⟩
              case measure => simp [intOf]; omega
        have hie : i = cs.length := by omega
        subst hie
        rw [List.drop_length, pickL] at HPP
        have HL := hide (HPK.out.trans HPP.out.symm)
        go_wp2_with (refine wpList_store_blk rfl rfl rfl rfl HRr.out rfl Try.sizeFaultS rfl ?_; intro w8 hR8 hg8; have HR8 := hide hR8; have HG8 := hide hg8; clear hR8 hg8)
        refine bodyPost_ret (v := .tuple #[.slice none 0 0, .agg #[.int .i64 0, .int .i64 0]]) (results2_tc Try.results19 rfl rfl (run_loadVar_blk HR8.out Try.underlying29 rfl Try.sizeFaultS)) rfl ?_
        exact ⟨.slice none 0 0, by rw [HE.out]; rfl, by rw [HL.out]; exact World.ownsRow_nil _ _ _ _, below_grownO HBr.out HG8.out (fun k hk => by cases hk; omega) HBr.out.size⟩

end Go.Proofs.Ytopnjklloleomaa
