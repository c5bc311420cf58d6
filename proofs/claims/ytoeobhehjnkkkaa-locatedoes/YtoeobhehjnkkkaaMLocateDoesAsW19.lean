/-
  Texts joined: AsW19.
-/
import Derived.Test.YtoeobhehjnkkkaaMLocateDoesAsW18
/-
  The walk over Play of package assign; split's and join's contracts, and that a fine board stays fine, are hypotheses here. (Written by as19.py.)
-/
namespace Go.Proofs.Ytoeobhehjnkkkaa
open Go.RowKit Go.Maps
set_option linter.unusedVariables false

theorem Try.sizeFaults : (Try.prog.info? 28).map (·.size) = some 1 := by kernel_rfl

theorem results3_ctcA {P : Program} {fn : Func} {i i2 j : Tmp} {t u : TypeId} {tmps : Array Value} {B C : Nat} {v1 v2 v3 : Value} {w : World} (h : fn.results = #[.cell i t, .tmp i2, .cell j u]) (hp : tmps[i]?.getD undef = .pointer (some ⟨B, 0, none⟩)) (hp2 : tmps[i2]?.getD undef = v2) (hq : tmps[j]?.getD undef = .pointer (some ⟨C, 0, none⟩)) (hl : (loadVar t ⟨B, 0, none⟩).run P w = .ok v1 w) (hm : (loadVar u ⟨C, 0, none⟩).run P w = .ok v3 w) :
    (results fn tmps).run P w = .ok (.tuple #[v1, v2, v3]) w := by
  simp [results, h, hp, hp2, hq, asAddr, hl, hm]

theorem KpB.row {w w' : World} {base bs B : Nat} {b : Bd} {hv sv v : Value} {t : TypeId} {K n : Nat} {xs : List Value} (h : KpB w w' B hv sv) (hb : BdAt w base B b hv sv) (hr : w.ownsRow bs t K v n xs) (h1 : t ≠ 80) (h2 : 42 ≠ t) (h3 : 46 ≠ t) : w'.ownsRow bs t K v n xs := by
  refine ⟨hr.1, ?_⟩
  rcases hr.2 with hn | ⟨g, cap, cur, rfl, hg, hB, r⟩
  · exact .inl hn
  · exact .inr ⟨g, cap, cur, rfl, hg, h.blk (f := g) (xs := cur) hb hB h1 h2 h3, r⟩

theorem BdAt.grown {w w' : World} {base bs B : Nat} {b : Bd} {hv sv v : Value} {t : TypeId} {K n : Nat} {xs : List Value} (h : BdAt w base B b hv sv) (hr : w.ownsRow bs t K v n xs) (hg : w.grownBy w' v.ownBlock) (h1 : t ≠ 80) (h2 : 42 ≠ t) (h3 : 46 ≠ t) : BdAt w' base B b hv sv :=
  ⟨h.blk.grown hg (owns_off hr h.blk h1).symm, owns_grownO h.hos hg (owns_two h.hos hr h2), owns_grownO h.slo hg (owns_two h.slo hr h3), h.low⟩

set_option maxRecDepth 100000 in
set_option maxHeartbeats 8000000 in
theorem Play_any (SB JB : Bd → Od → Bd) (SF JF : Bd → Od → Int × Int) (step : Bd → Od → Bd × (Int × Int)) (hst : ∀ b o, step b o = (doB b o (SB b o) (JB b o), doF b o (SF b o) (JF b o)))
    (hfine : ∀ b o, (chkB b).1 = 0 → (chkB (step b o).1).1 = 0) (hnew : (chkB newBd).1 = 0)
    (hsp : ∀ b o, (chkB b).1 = 0 → ∀ W base B hv sv, BdAt W base B b hv sv → base ≤ W.heap.size → Calls Try.prog 65 #[.pointer (some ⟨B, 0, none⟩), .int .i64 o.id, .string o.row] W (DoneB W base B hv sv (SB b o) (SF b o)))
    (hjn : ∀ b o, (chkB b).1 = 0 → ∀ W base B hv sv, BdAt W base B b hv sv → base ≤ W.heap.size → Calls Try.prog 66 #[.pointer (some ⟨B, 0, none⟩), .int .i64 o.id] W (DoneB W base B hv sv (JB b o) (JF b o)))
    (v : Value) (l : List Od) (w : World) (hv : RdG odE w v l) (hl : l.length ≤ 2000) :
    Calls Try.prog 9 #[v] w fun e w' => ∃ hv' sv' sd, e = .returned (.tuple #[bdV hv' sv' (plyB step l newBd), sd, flt (0, 0)]) ∧ w'.ownsRow w.heap.size 42 3 hv' (plyB step l newBd).hs.length (hoE.vs (plyB step l newBd).hs) ∧ w'.ownsRow w.heap.size 46 6 sv' (plyB step l newBd).sl.length (slE.vs (plyB step l newBd).sl) ∧ RdG ftE w' sd (plyF step l newBd) ∧ Below w.heap.size w w' := by
  have HV := hide hv
  have HDO := hide (fun b o (h0 : (chkB b).1 = 0) W base B hv sv (hb : BdAt W base B b hv sv) (hbw : base ≤ W.heap.size) => do_any base B b hv sv o (SF b o) (JF b o) (SB b o) (JB b o) W hb (OkB.of h0) hbw (fun W h => hsp b o h0 W base B hv sv h) (fun W h => hjn b o h0 W base B hv sv h))
  have HST := hide hst
  have HFN := hide (fun k => plyB_fine hfine (l.take k) newBd hnew)
  have HL := hide hl
  obtain ⟨ao, cap, rfl, hc1, hc2⟩ := hv.shape
  unfold maxLen at hc2
  obtain ⟨hR, hQ, hA⟩ := two_atA w #[.slice none 0 0, .slice none 0 0, .int .i64 0, .int .i64 0] #[.int .i64 0, .int .i64 0] 27 30
  have HR0 := hide hR
  have HQ0 := hide hQ
  have HA0 := hide hA
  generalize hW : ((w.alloc (.cells #[.slice none 0 0, .slice none 0 0, .int .i64 0, .int .i64 0] 27)).alloc (.cells #[.int .i64 0, .int .i64 0] 30)) = W0 at HR0 HQ0 HA0
  have HW := hide hW
  have HNW := hide (New_any W0)
  have HN := hide (show some (w.heap.size + 1) ≠ some w.heap.size from fun q => by simp at q)
  have d0 : decide ((2000 : Int) < (l.length : Int)) = false := decide_eq_false (by omega)
  have d1 : ¬ 2000 < l.length := by omega
  clear hv hst hfine hnew hsp hjn hl hR hQ hA hW
  unfold bdV at HNW
  go_enter Try.func9, Try.ntmps9
  go_upto_region 1 with fail
  rw [HW.out]
  clear HW
  go_upto_region 4 with (go_at_call 14; refine HNW.out.mono ?_; rintro e w1 ⟨hv1, sv1, rfl, ho1, hp1, hb1⟩; obtain ⟨a1, k1, rfl⟩ := owns_shapeA ho1; obtain ⟨a2, k2, rfl⟩ := owns_shapeA hp1; have HX1 := hide hb1; have HO1 := hide ho1; have HP1 := hide hp1; clear ho1 hp1 hb1)
  have hz0 := HA0.out.size
  have hbT := below_allocG w1 (.cells #[.slice a1 newBd.hs.length k1, .slice a2 newBd.sl.length k2, .int .i64 newBd.tu, .int .i64 newBd.nx] 80)
  have hbX := HX1.out.trans (hbT.mono HX1.out.size)
  have HR1 := hide (HR0.out.later hbX)
  have HQ1 := hide (HQ0.out.later hbX)
  have HA1 := hide (HA0.out.trans (hbX.mono hz0))
  have HB1 := hide (BdAt.mk (base := w.heap.size) (B := w1.heap.size) (b := newBd) (Blk.new w1 80 #[.slice a1 newBd.hs.length k1, .slice a2 newBd.sl.length k2, .int .i64 newBd.tu, .int .i64 newBd.nx]) (owns_laterA (owns_base1 HO1.out hz0) hbT) (owns_laterA (owns_base1 HP1.out hz0) hbT) (Nat.le_trans hz0 HX1.out.size))
  generalize hwX : w1.alloc (.cells #[.slice a1 newBd.hs.length k1, .slice a2 newBd.sl.length k2, .int .i64 newBd.tu, .int .i64 newBd.nx] 80) = X1 at HR1 HQ1 HA1 HB1 ⊢
  clear hwX hbT hbX HX1 HO1 HP1 HR0 HQ0 HA0 HNW hz0 d0 d1
  go_upto_region 6 with fail
  go_loopw [6, 18] (fun sd iv wr => ∃ (k : Nat) (hv' sv' : Value), k ≤ l.length ∧ iv = .int .i64 k ∧ BdAt wr w.heap.size w1.heap.size (plyB step (l.take k) newBd) hv' sv' ∧ wr.ownsRow (w.heap.size + 2) 30 2 sd k (ftE.vs (plyF step (l.take k) newBd)) ∧ Blk wr w.heap.size 27 #[.slice none 0 0, .slice none 0 0, .int .i64 0, .int .i64 0] ∧ Blk wr (w.heap.size + 1) 30 #[.int .i64 0, .int .i64 0] ∧ Below w.heap.size w wr)
    (fun _ iv _ => l.length - (intOf iv).toNat)
  case atStart => exact ⟨0, _, _, by omega, rfl, HB1.out, World.ownsRow_nil _ _ _ _, HR1.out, HQ1.out, HA1.out⟩
  case round =>
    obtain ⟨k, hv', sv', hk, rfl, hbd, hsd, hR, hQ, hA⟩ := hrel
    obtain ⟨oo, ocap, rfl⟩ := owns_shapeA hsd
    by_cases hlt : k < l.length
    · have hll := HL.out
      obtain ⟨o, hp⟩ : ∃ o, l[k]? = some o := ⟨_, List.getElem?_eq_getElem hlt⟩
      obtain ⟨b, off, rfl, hb, hat⟩ := HV.out.here hp
      have hbw : b < wr.heap.size := Nat.lt_of_lt_of_le hb hA.size
      obtain ⟨c0, c1, c2, c3, c4⟩ := (hat.below hA).order
      have hk1 : (0 : Int) ≤ (k : Int) := by omega
      have hk2 : (k : Int) < (l.length : Int) := by omega
      have HPB := hide (show plyB step (l.take (k + 1)) newBd = doB (plyB step (l.take k) newBd) o (SB (plyB step (l.take k) newBd) o) (JB (plyB step (l.take k) newBd) o) by rw [take_succ_of hp, plyB_snoc, HST.out])
      have HPF := hide (show plyF step (l.take (k + 1)) newBd = plyF step (l.take k) newBd ++ [doF (plyB step (l.take k) newBd) o (SF (plyB step (l.take k) newBd) o) (JF (plyB step (l.take k) newBd) o)] by rw [take_succ_of hp, plyF_snoc, HST.out])
      have hbA := below_allocG wr (.cells #[.int .i64 o.kind, .int .i64 o.id, .int .i64 o.ho, .int .i64 o.tu, .string o.row] 50)
      have HBA := hide (hbd.later hbA)
      have HDA := hide (HDO.out _ o (HFN.out k) _ w.heap.size w1.heap.size _ _ HBA.out (Nat.le_trans hA.size hbA.size))
      have HSA := hide (owns_laterA hsd hbA)
      have HRA := hide (hR.later hbA)
      have HQA := hide (hQ.later hbA)
      have HAA := hide (hA.trans (hbA.mono hA.size))
      have HOA := hide (Blk.new wr 50 #[.int .i64 o.kind, .int .i64 o.id, .int .i64 o.ho, .int .i64 o.tu, .string o.row])
      generalize hDF : doF (plyB step (l.take k) newBd) o (SF (plyB step (l.take k) newBd) o) (JF (plyB step (l.take k) newBd) o) = DF at HDA HPF
      obtain ⟨dx, dy⟩ := DF
      unfold odV at HDA
      clear hat hp hbd hsd hR hQ hA hDF
      go_upto_region 8 with fail
      generalize hWA : wr.alloc (.cells #[.int .i64 o.kind, .int .i64 o.id, .int .i64 o.ho, .int .i64 o.tu, .string o.row] 50) = WA at HBA HDA HSA HRA HQA HAA HOA hbA ⊢
      clear hWA c0 c1 c2 c3 c4
      go_wp2_with (first
        | (refine wpList_load_blk HOA.out Try.underlying50 rfl Try.sizeOrder rfl rfl rfl ?_)
        | (go_at_call 33; refine HDA.out.mono ?_; rintro e w2 ⟨rfl, hbd2, hkp⟩; have HX2 := hide (hkp.below HBA.out HAA.out.size); have HR2 := hide (hkp.blk HBA.out HRA.out (by decide) (by decide) (by decide)); have HQ2 := hide (hkp.blk HBA.out HQA.out (by decide) (by decide) (by decide)); have HS2 := hide (hkp.row HBA.out HSA.out (by decide) (by decide) (by decide)); have HBE := hide hbd2; have hsz2 : w.heap.size + 2 ≤ w2.heap.size := HQ2.out.lt; clear hbd2 hkp; unfold flt)
        | (at_builtin; refine wpList_append_oneG (E := ftE) (c := (dx, dy)) HS2.out rfl Try.underlying28 infoFault rfl rfl rfl rfl rfl (by omega) (by decide) hsz2 ?_; intro v3 w3 ho3 hb3 hg3; have HO3 := hide ho3; have HB3 := hide hb3; have HG3 := hide hg3; clear ho3 hb3 hg3))
      obtain ⟨hv4, sv4, hb4⟩ := HBE.out
      clear hsz2
      go_roundw
      case rel => exact ⟨k + 1, hv4, sv4, by omega, by go_num, by rw [HPB.out]; exact hb4.grown HS2.out HG3.out (by decide) (by decide) (by decide), by rw [HPF.out]; exact HO3.out, HR2.out.grown HG3.out (owns_off HS2.out HR2.out (by decide)).symm, HQ2.out.grown HG3.out (fun q => by have := (HS2.out.lt _ q.symm).1; omega), (HAA.out.trans HX2.out).trans (HB3.out.mono (by omega))⟩
      case measure => simp [intOf]; omega
    · have hke : k = l.length := by omega
      subst hke
      rw [List.take_length] at hbd hsd
      have HBD := hide hbd
      have HSD := hide hsd
      have HRD := hide hR
      have HQD := hide hQ
      have HAD := hide hA
      obtain ⟨a5, k5, rfl⟩ := owns_shapeA hbd.hos
      obtain ⟨a6, k6, rfl⟩ := owns_shapeA hbd.slo
      clear hbd hsd hR hQ hA
      go_wp2_with (first
        | (refine wpList_load_blk HBD.out.blk Try.underlying27 rfl Try.sizeBoard rfl rfl rfl ?_)
        | (refine wpList_store_blk rfl rfl rfl rfl HRD.out rfl Try.sizeBoard rfl ?_; intro w7 hR7 hg7; have HR7 := hide hR7; have HQ7 := hide (HQD.out.grown hg7 HN.out); have HO7 := hide (owns_grownO HBD.out.hos hg7 (.inr (owns_off HBD.out.hos HRD.out (by decide)))); have HP7 := hide (owns_grownO HBD.out.slo hg7 (.inr (owns_off HBD.out.slo HRD.out (by decide)))); have HS7 := hide (owns_grownO HSD.out hg7 (.inr (owns_off HSD.out HRD.out (by decide)))); have HA7 := hide (below_grownO HAD.out hg7 (fun k hk => by cases hk; omega) HAD.out.size); clear hR7 hg7)
        | (refine wpList_store_blk rfl rfl rfl rfl HQ7.out rfl Try.sizeFaultA rfl ?_; intro w8 hQ8 hg8; have HQ8 := hide hQ8; have HR8 := hide (HR7.out.grown hg8 HN.out.symm); have HO8 := hide (owns_grownO HO7.out hg8 (.inr (owns_off HO7.out HQ7.out (by decide)))); have HP8 := hide (owns_grownO HP7.out hg8 (.inr (owns_off HP7.out HQ7.out (by decide)))); have HS8 := hide (owns_grownO HS7.out hg8 (.inr (fun q => by have := (HS7.out.lt _ q).1; omega))); have HA8 := hide (below_grownO HA7.out hg8 (fun k hk => by cases hk; omega) HA7.out.size); clear hQ8 hg8))
      refine bodyPost_ret (results3_ctcA (v2 := .slice oo l.length ocap) Try.results9 rfl rfl rfl (run_loadVar_blk HR8.out Try.underlying27 rfl Try.sizeBoard) (run_loadVar_blk HQ8.out Try.underlying30 rfl Try.sizeFaultA)) rfl ?_
      exact ⟨_, _, _, rfl, HO8.out, HP8.out, RdG.ofOwns HS8.out, HA8.out⟩

end Go.Proofs.Ytoeobhehjnkkkaa
