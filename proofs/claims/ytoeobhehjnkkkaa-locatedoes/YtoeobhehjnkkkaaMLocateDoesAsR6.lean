/-
  Texts joined: AsR6.
-/
import Derived.Test.YtoeobhehjnkkkaaMLocateDoesAsR5
import Derived.BigRegion
/-
  The walk over join of package assign. (Written by as23.py.)
-/
namespace Go.Proofs.Ytoeobhehjnkkkaa
open Go.RowKit
set_option linter.unusedVariables false

set_option maxRecDepth 100000 in
set_option maxHeartbeats 8000000 in
theorem join_any (base B : Nat) (b : Bd) (hv sv : Value) (id : Int) (w : World) (h : BdAt w base B b hv sv) (hok : OkB b) (hbw : base ≤ w.heap.size) :
    Calls Try.prog 66 #[.pointer (some ⟨B, 0, none⟩), .int .i64 id] w (DoneB w base B hv sv (jnB b id) (jnF b id)) := by
  have hbA := below_allocG w (.cells #[.int .i64 0, .int .i64 0] 30)
  have HR0 := hide (Blk.new w 30 #[.int .i64 0, .int .i64 0])
  have HB0 := hide (h.later hbA)
  have HA0 := hide hbA
  have HBW := hide hbw
  have HOK := hide hok
  have HBL := hide h.blk.lt
  have HNO := hide (fun q => jnF_none (b := b) (id := id) q)
  have HSO := hide (fun k q => jnF_some (b := b) (id := id) (k := k) q)
  have HSS := hide (fun k (hk : idxS b.sl id = some k) => idxS_some hk)
  obtain ⟨sa, sc, rfl⟩ := owns_shapeA h.slo
  obtain ⟨ha, hc, rfl⟩ := owns_shapeA h.hos
  unfold DoneB
  generalize hW : w.alloc (.cells #[.int .i64 0, .int .i64 0] 30) = W0 at HR0 HB0 HA0
  have HW := hide hW
  have HN := hide (numberOf_any base B b _ _ id W0 HB0.out)
  generalize hJF : jnF b id = JF at *
  generalize hJB : jnB b id = JB at *
  clear h hbA hbw hok hW hJF hJB
  cases hi : idxS b.sl id with
  | none =>
    have HE := hide (HNO.out hi).1
    have HBD := hide (HNO.out hi).2
    have hps : posI (none : Option Nat) = -1 := rfl
    rw [hi, hps] at HN
    clear hi hps
    go_enter Try.func66, Try.ntmps66
    go_upto_region 1 with fail
    rw [HW.out]
    clear HW
    go_upto_region 2 with (go_at_call 94; refine HN.out.mono ?_; rintro e w1 ⟨rfl, hb1⟩; have HB1 := hide (HB0.out.later hb1); have HF1 := hide (HR0.out.later hb1); have HA1 := hide (HA0.out.trans (hb1.mono HA0.out.size)); clear hb1)
    go_wp2_with (refine wpList_store_blk rfl rfl rfl rfl HF1.out rfl Try.sizeFaultA rfl ?_; intro w8 hF8 hg8; have HF8 := hide hF8; have HB8 := hide (HB1.out.off HF1.out hg8 (by decide) (by decide) (by decide)); have HA8 := hide (below_grownO HA1.out hg8 (fun k hk => by cases hk; omega) HA1.out.size); clear hF8 hg8)
    refine bodyPost_ret (v := .agg #[.int .i64 6, .int .i64 (-1)]) (results1_cell Try.results66 rfl (run_loadVar_blk HF8.out Try.underlying30 rfl Try.sizeFaultA)) rfl ?_
    exact ⟨by rw [HE.out]; rfl, by rw [HBD.out]; exact ⟨_, _, HB8.out⟩, KpB.of_below HA8.out⟩
  | some k =>
    obtain ⟨x, hx, hxi⟩ := HSS.out k hi
    have hps : posI (some k) = (k : Int) := rfl
    have hkl := (List.getElem?_eq_some_iff.1 hx).1
    have HS1 := hide (HSO.out k hi).1
    have HS2 := hide (HSO.out k hi).2
    have hgx : b.sl.getD k zeroSl = x := by rw [List.getD_eq_getElem?_getD, hx]; rfl
    have hln := HOK.out.sl
    rw [hi, hps] at HN
    clear hi hps hxi HNO HSO HSS
    go_enter Try.func66, Try.ntmps66
    go_upto_region 1 with fail
    rw [HW.out]
    clear HW
    go_upto_region 2 with (go_at_call 94; refine HN.out.mono ?_; rintro e w1 ⟨rfl, hb1⟩; have HB1 := hide (HB0.out.later hb1); have HF1 := hide (HR0.out.later hb1); have HA1 := hide (HA0.out.trans (hb1.mono HA0.out.size)); clear hb1)
    have d0 : decide ((k : Int) < 0) = false := decide_eq_false (by omega)
    have hw1 : IntKind.i64.wrap ((b.sl.length : Int) - 1) = (b.sl.length : Int) - 1 := by rw [IntKind.wrap_i64]; omega
    have s1 := HB1.out.blk.cell 1
    have bl := HB1.out.blk.lt
    simp at s1
    by_cases hke : k + 1 = b.sl.length
    case pos =>
      have e1 : ((k : Int) == (b.sl.length : Int) - 1) = true := by simp; omega
      have HE := hide (HS1.out.trans (if_pos hke))
      have HBD := hide (HS2.out.trans (if_pos hke))
      clear hke hx hgx
      go_upto_region 3 with fail
      clear s1 bl e1 d0 hw1
      go_wp2_with (refine wpList_store_blk rfl rfl rfl rfl HF1.out rfl Try.sizeFaultA rfl ?_; intro w8 hF8 hg8; have HF8 := hide hF8; have HB8 := hide (HB1.out.off HF1.out hg8 (by decide) (by decide) (by decide)); have HA8 := hide (below_grownO HA1.out hg8 (fun k hk => by cases hk; omega) HA1.out.size); clear hF8 hg8)
      refine bodyPost_ret (v := .agg #[.int .i64 6, .int .i64 (-1)]) (results1_cell Try.results66 rfl (run_loadVar_blk HF8.out Try.underlying30 rfl Try.sizeFaultA)) rfl ?_
      exact ⟨by rw [HE.out]; rfl, by rw [HBD.out]; exact ⟨_, _, HB8.out⟩, KpB.of_below HA8.out⟩
    have e1 : ((k : Int) == (b.sl.length : Int) - 1) = false := beq_eq_false_iff_ne.2 (by omega)
    have HE1 := hide (HS1.out.trans (if_neg hke))
    have HBD1 := hide (HS2.out.trans (if_neg hke))
    obtain ⟨y, hy⟩ : ∃ y, b.sl[k + 1]? = some y := ⟨_, List.getElem?_eq_getElem (by omega)⟩
    have hgy : b.sl.getD (k + 1) zeroSl = y := by rw [List.getD_eq_getElem?_getD, hy]; rfl
    rw [hgx, hgy] at HE1 HBD1
    have hk1 : (0 : Int) ≤ (k : Int) := by omega
    have hk2 : (k : Int) < (b.sl.length : Int) := by omega
    have hk3 : (k : Int) + 1 < (b.sl.length : Int) := by omega
    have hk4 : (0 : Int) ≤ (k : Int) + 1 := by omega
    have hwk : IntKind.i64.wrap ((k : Int) + 1) = (k : Int) + 1 := by rw [IntKind.wrap_i64]; omega
    obtain ⟨g, cap, hve, hg1, hg2, hat⟩ := owns_here HB1.out.slo hx
    simp only [Value.slice.injEq] at hve
    obtain ⟨rfl, hne, rfl⟩ := hve
    obtain ⟨g', cap', hve, _, _, hat2⟩ := owns_here HB1.out.slo hy
    simp only [Value.slice.injEq, Option.some.injEq, Addr.mk.injEq] at hve
    obtain ⟨⟨rfl, -, -⟩, -, -⟩ := hve
    obtain ⟨c0, c1, c2, c3, c4, c5⟩ := hat.slot
    obtain ⟨q0, q1, q2, q3, q4, q5⟩ := hat2.slot
    have hkn := hide hkl
    have hks := hide hke
    clear hat hat2 hke
    go_upto_region 4 with fail
    clear d0 hw1 e1
    go_cut [6, 7] from 25 to 42 (fun lv rv wx => ∃ r1 r2 : Nat, lv = .pointer (some ⟨r1, 0, none⟩) ∧ rv = .pointer (some ⟨r2, 0, none⟩) ∧ Blk wx r1 46 #[.string x.p.fr, .string x.p.to_, .int .i64 x.p.id, .int .i64 x.st, .int .i64 x.ho, .int .i64 x.tu] ∧ Blk wx r2 46 #[.string y.p.fr, .string y.p.to_, .int .i64 y.p.id, .int .i64 y.st, .int .i64 y.ho, .int .i64 y.tu] ∧ Below w1.heap.size w1 wx)
    case first =>
      as_aux_lemma =>
        go_region
        all_goals
          go_wp2_with fail
          go_meet
        case rel => exact ⟨_, _, rfl, rfl, Blk.at0of2 w1 _ _ _, Blk.at1 w1 _ _ _, (below_alloc2 w1 _ _).trans (Below.drew (Below.refl _ _))⟩
        case rel => exact ⟨_, _, rfl, rfl, Blk.at1 w1 _ _ _, Blk.at0of2 w1 _ _ _, (below_alloc2 w1 _ _).trans (Below.drew (Below.refl _ _))⟩
    case rest =>
      obtain ⟨r1, r2, rfl, rfl, hB1, hB2, hbx⟩ := hcut
      clear s1 bl c0 c1 c2 c3 c4 c5 q0 q1 q2 q3 q4 q5 hx hy hg1 hg2 hne hwk hk1 hk2 hk3 hk4
      have HBx := hide (HB1.out.later hbx)
      have HFx := hide (HF1.out.later hbx)
      have HAx := hide (HA1.out.trans (hbx.mono HA1.out.size))
      have HL := hide hB1
      have HRr := hide hB2
      clear hbx hB1 hB2 HB1 HF1 HA1 HB0 HR0 HA0
      have l0 := HL.out.cell 0
      have l3 := HL.out.cell 3
      have ll := HL.out.lt
      have m1 := HRr.out.cell 1
      have m3 := HRr.out.cell 3
      have ml := HRr.out.lt
      simp at l0 l3 m1 m3
      by_cases hst : x.st ≠ 0 ∨ y.st ≠ 0
      case pos =>
        have HE := hide (HE1.out.trans (if_pos hst))
        have HBD := hide (HBD1.out.trans (if_pos hst))
        by_cases hs1 : x.st ≠ 0
        · have f1 : (x.st != 0) = true := by simp [hs1]
          clear hst hs1
          go_upto_region 6 with fail
          clear l0 l3 ll m1 m3 ml f1
          go_wp2_with (refine wpList_store_blk rfl rfl rfl rfl HFx.out rfl Try.sizeFaultA rfl ?_; intro w8 hF8 hg8; have HF8 := hide hF8; have HB8 := hide (HBx.out.off HFx.out hg8 (by decide) (by decide) (by decide)); have HA8 := hide (below_grownO HAx.out hg8 (fun k hk => by cases hk; omega) HAx.out.size); clear hF8 hg8)
          refine bodyPost_ret (v := .agg #[.int .i64 11, .int .i64 (-1)]) (results1_cell Try.results66 rfl (run_loadVar_blk HF8.out Try.underlying30 rfl Try.sizeFaultA)) rfl ?_
          exact ⟨by rw [HE.out]; rfl, by rw [HBD.out]; exact ⟨_, _, HB8.out⟩, KpB.of_below HA8.out⟩
        · have f1 : (x.st != 0) = false := by simp; exact Decidable.not_not.1 hs1
          have f2 : (y.st != 0) = true := by simp [hst.resolve_left hs1]
          clear hst hs1
          go_upto_region 6 with fail
          clear l0 l3 ll m1 m3 ml f1 f2
          go_wp2_with (refine wpList_store_blk rfl rfl rfl rfl HFx.out rfl Try.sizeFaultA rfl ?_; intro w8 hF8 hg8; have HF8 := hide hF8; have HB8 := hide (HBx.out.off HFx.out hg8 (by decide) (by decide) (by decide)); have HA8 := hide (below_grownO HAx.out hg8 (fun k hk => by cases hk; omega) HAx.out.size); clear hF8 hg8)
          refine bodyPost_ret (v := .agg #[.int .i64 11, .int .i64 (-1)]) (results1_cell Try.results66 rfl (run_loadVar_blk HF8.out Try.underlying30 rfl Try.sizeFaultA)) rfl ?_
          exact ⟨by rw [HE.out]; rfl, by rw [HBD.out]; exact ⟨_, _, HB8.out⟩, KpB.of_below HA8.out⟩
      have f1 : (x.st != 0) = false := by simp; exact Decidable.not_not.1 (fun q => hst (.inl q))
      have f2 : (y.st != 0) = false := by simp; exact Decidable.not_not.1 (fun q => hst (.inr q))
      have HE := hide (HE1.out.trans (if_neg hst))
      have HBD := hide (HBD1.out.trans (if_neg hst))
      have hjp : jnP b k = [⟨x.p.fr, y.p.to_, 0⟩] := by unfold jnP; rw [hgx, hgy]
      clear hst hgx hgy
      go_upto_region 7 with fail
      clear l3 m3 f1 f2
      have hw2 : IntKind.i64.wrap ((k : Int) + 2) = (k : Int) + 2 := by rw [IntKind.wrap_i64]; omega
      have hkn2 := hkn.out
      have hks2 := hks.out
      rw [hjp] at HE HBD
      have HC := hide (fun (W : World) (hB : BdAt W base B b (.slice ha b.hs.length hc) (.slice (some ⟨g, 0, none⟩) b.sl.length sc)) (hs : base ≤ W.heap.size) (lv : Value) (hl : W.ownsRow 0 44 3 lv 1 (pE.vs [⟨x.p.fr, y.p.to_, 0⟩])) =>
        renew_any base B b _ _ k (k + 2) (k : Int) ((k : Int) + 2) [⟨x.p.fr, y.p.to_, 0⟩] lv W hB hs hl (by simp) (by simp) ⟨by have := HOK.out.nx; omega, HOK.out.nx.2⟩ (replJoin (by omega) (by omega)))
      generalize hRF : renF b [⟨x.p.fr, y.p.to_, 0⟩] = RF at HE HC
      generalize hRB : renB b k (k + 2) [⟨x.p.fr, y.p.to_, 0⟩] = RB at HBD HC
      obtain ⟨fx, fy⟩ := RF
      clear hjp hRF hRB
      have hbT := below_allocG wc (.cells #[.string x.p.fr, .string y.p.to_, .int .i64 0] 44)
      have HBy := hide (HBx.out.later hbT)
      have HFy := hide (HFx.out.later hbT)
      have HAy := hide (HAx.out.trans (hbT.mono HAx.out.size))
      have hLy : (wc.alloc (.cells #[.string x.p.fr, .string y.p.to_, .int .i64 0] 44)).ownsRow 0 44 3 (.slice (some ⟨wc.heap.size, 0, none⟩) 1 1) 1 (pE.vs [⟨x.p.fr, y.p.to_, 0⟩]) := by
        rw [vs_one1]
        exact owns_made1 (Nat.zero_le _) rfl
      have HC2 := hide (HC.out _ HBy.out (Nat.le_trans HBW.out HAy.out.size) _ hLy)
      unfold DoneB flt at HC2
      dsimp only at HC2
      clear HC hLy hbT HBx HFx HAx
      go_wp2_with (first
        | (go_at_call 97; refine HC2.out.mono ?_; rintro e w5 ⟨rfl, ⟨hv5, sv5, hb5⟩, hk5⟩; have HB5 := hide hb5; have HF5 := hide (hk5.blk HBy.out HFy.out (by decide) (by decide) (by decide)); have HK5 := hide (KpB.after HAy.out hk5); clear hb5 hk5)
        | (refine wpList_store_blk rfl rfl rfl rfl HF5.out rfl Try.sizeFaultA rfl ?_; intro w8 hF8 hg8; have HF8 := hide hF8; have HB8 := hide (HB5.out.off HF5.out hg8 (by decide) (by decide) (by decide)); have HK8 := hide (HK5.out.step hg8 (.inr (.inr (.inr (fun k hk => by cases hk; omega))))); clear hF8 hg8))
      refine bodyPost_ret (v := .agg #[.int .i64 fx, .int .i64 fy]) (results1_cell Try.results66 rfl (run_loadVar_blk HF8.out Try.underlying30 rfl Try.sizeFaultA)) rfl ?_
      exact ⟨by rw [HE.out]; rfl, by rw [HBD.out]; exact ⟨_, _, HB8.out⟩, HK8.out⟩

end Go.Proofs.Ytoeobhehjnkkkaa
