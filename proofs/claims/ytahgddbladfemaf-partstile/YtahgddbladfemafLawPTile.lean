/-
  The walk over the law PartsTile.
-/
import Derived.Test.YtahgddbladfemafPartW7
import Derived.Test.YtahgddbladfemafPartW8
import Derived.Test.YtahgddbladfemafPartB1
namespace Go.Proofs.Ytahgddbladfemaf
open Go.RowKit
set_option linter.unusedVariables false

/-- A step of the law. -/
structure Stp where
  jn : Bool
  at_ : Int
  row : ByteArray
  lf : Int
  rt : Int

def sE : En Stp 5 where
  v s := [.bool s.jn, .int .i64 s.at_, .string s.row, .int .i64 s.lf, .int .i64 s.rt]
  len _ := rfl
  one p u hu := by
    simp only [List.mem_cons, List.not_mem_nil, or_false] at hu
    rcases hu with rfl | rfl | rfl | rfl | rfl <;> rfl
  pos := by decide

theorem AtG.stp {w : World} {b off : Nat} {c : Stp} (h : AtG sE w b off c) :
    w.cell? ⟨b, off, none⟩ = some (.bool c.jn) ∧ w.cell? ⟨b, off + 1, none⟩ = some (.int .i64 c.at_) ∧ w.cell? ⟨b, off + 2, none⟩ = some (.string c.row) ∧ w.cell? ⟨b, off + 3, none⟩ = some (.int .i64 c.lf) ∧ w.cell? ⟨b, off + 4, none⟩ = some (.int .i64 c.rt) :=
  ⟨h 0 _ rfl, h 1 _ rfl, h 2 _ rfl, h 3 _ rfl, h 4 _ rfl⟩

theorem Chn.all : ∀ {l : List Pt} {e : List UInt8}, Chn e l → ∀ p ∈ l, okP p
  | [], _, h => h.elim
  | [p], e, h => by
    intro q hq
    have : q = p := by simpa using hq
    subst this
    exact h.1
  | p :: q :: l, e, h => by
    intro x hx
    rcases List.mem_cons.1 hx with rfl | hx
    · exact h.1
    · exact Chn.all h.2.2.2 x hx

theorem FineP.wf {l : List Pt} (h : FineP l) : WfP l := fun p hp => wf_num (h.2.1.all p hp).2.2

theorem FineP.pos {l : List Pt} (h : FineP l) : 0 < l.length := by
  have := h.2.1.ne_nil
  cases l with
  | nil => exact absurd rfl this
  | cons => simp

theorem fine_one : FineP [⟨⟨#[]⟩, ⟨#[]⟩, 0⟩] := by
  refine ⟨by simp, ⟨⟨by decide, by decide, by decide⟩, toList_empty, toList_empty⟩, by simp⟩

/-- An int as a uint, taken round. -/
theorem round_at (a : Int) (n : Nat) (hn : 0 < n) : ∃ U k : Nat, IntKind.u64.wrap a = (U : Int) ∧ k < n ∧ (U : Int) % (n : Int) = (k : Int) ∧ (U : Int).tmod (n : Int) = (k : Int) := by
  have h0 : 0 ≤ IntKind.u64.wrap a := by rw [IntKind.wrap_u64]; omega
  obtain ⟨U, hU⟩ : ∃ U : Nat, IntKind.u64.wrap a = (U : Int) := ⟨(IntKind.u64.wrap a).toNat, by omega⟩
  refine ⟨U, U % n, hU, Nat.mod_lt _ hn, by omega, ?_⟩
  rw [Int.tmod_eq_emod_of_nonneg (by omega)]
  omega

set_option maxRecDepth 100000 in
set_option maxHeartbeats 8000000 in
theorem partsTile_any (v u : Value) (ss : List Stp) (rs : List (List UInt8)) (w : World) (hv : RdG sE w v ss) (hu : Rd w u (sc rs)) :
    Calls Try.prog 4 #[v, u] w fun e w' => e = .returned (.bool true) ∧ Below w.heap.size w w' := by
  have HV := hide hv
  have HU := hide hu
  obtain ⟨ao, cap, hvv, hc1, hc2⟩ := hv.shape
  obtain ⟨bo, cbp, huu, hd1, hd2⟩ := hu.shape
  rw [sc_length] at huu hd1
  subst hvv huu
  unfold maxLen at hc2 hd2
  go_enter Try.func4, Try.ntmps4
  go_wp2_with fail
  refine (partsBegun_any _).mono ?_
  rintro e w1 ⟨rfl, hb1⟩
  by_cases hbig : 300 < ss.length
  · have hd : decide (300 < (ss.length : Int)) = true := decide_eq_true (by omega)
    go_wp2_with fail
    go_ret
    exact ⟨rfl, hb1⟩
  have hdb : decide (300 < (ss.length : Int)) = false := decide_eq_false (by omega)
  by_cases hbig2 : 100 < rs.length
  · go_wp2_with fail
    go_ret
    exact ⟨rfl, hb1⟩
  have hL0 : RdG pE (w1.alloc (.cells #[.string ⟨#[]⟩, .string ⟨#[]⟩, .int .i64 0] 35)) (.slice (some ⟨w1.heap.size, 0, none⟩) 1 1) ([⟨⟨#[]⟩, ⟨#[]⟩, 0⟩] : List Pt) := RdG.newL (E := pE) w1 ([⟨⟨#[]⟩, ⟨#[]⟩, 0⟩] : List Pt) _ _ rfl (by simp)
  have HL0 := hide hL0
  have HB1 := hide (show Below w.heap.size w (w1.alloc (.cells #[.string ⟨#[]⟩, .string ⟨#[]⟩, .int .i64 0] 35)) from hb1.alloc hb1.size _)
  have hfld : ∀ W, (Instr.field 26 (.agg #[.int .i64 0, .int .i64 0]) 0).run Try.prog W = .ok (.int .i64 0) W := fun W => by kernel_rfl
  have HFLD := hide hfld
  clear hL0 hb1 hfld
  go_wp2_with fail
  go_loopw [5, 6] (fun sv iv wr => ∃ (j : Nat) (s : Value) (L : List Pt), j ≤ ss.length ∧ iv = .int .i64 j ∧ s = sv ∧ RdG pE wr s L ∧ FineP L ∧ Below w.heap.size w wr)
    (fun _ iv _ => ss.length - (intOf iv).toNat)
  case atStart => exact ⟨0, _, _, by omega, rfl, rfl, HL0.out, fine_one, HB1.out⟩
  case round =>
    obtain ⟨j, s, L, hj, rfl, rfl, hL, hfine, hbel⟩ := hrel
    obtain ⟨lo, lc, hlo, hl1, hl2⟩ := hL.shape
    subst hlo
    unfold maxLen at hl2
    have hpos := hfine.pos
    have hL200 := hfine.1
    have HFN := hide hfine
    have HL := hide hL
    clear hfine hL
    by_cases hlt : j < ss.length
    · obtain ⟨t, ht⟩ : ∃ c, ss[j]? = some c := ⟨_, List.getElem?_eq_getElem hlt⟩
      obtain ⟨bb, off, rfl, hbb, hat⟩ := HV.out.here ht
      obtain ⟨c0, c1, c2, c3, c4⟩ := (hat.below hbel).stp
      have hk1 : (0 : Int) ≤ (j : Int) := by omega
      have hk2 : (j : Int) < (ss.length : Int) := by omega
      obtain ⟨U, k, hU, hkn, hm1, hm2⟩ := round_at t.at_ L.length hpos
      have hwn : IntKind.u64.wrap (L.length : Int) = (L.length : Int) := by rw [IntKind.wrap_u64]; omega
      have hwk : IntKind.i64.wrap (k : Int) = (k : Int) := by rw [IntKind.wrap_i64]; omega
      have hn0 : ¬ ((L.length : Int) = 0) := by omega
      have hn0b : ((L.length : Int) == 0) = false := beq_eq_false_iff_ne.2 (by omega)
      have hbA := below_allocG wr (.cells #[.bool t.jn, .int .i64 t.at_, .string t.row, .int .i64 t.lf, .int .i64 t.rt] 40)
      have HLA := hide (HL.out.below hbA)
      have HBA := hide (hbel.trans (hbA.mono hbel.size))
      have hS0 := Blk.new wr 40 #[.bool t.jn, .int .i64 t.at_, .string t.row, .int .i64 t.lf, .int .i64 t.rt]
      have HS0 := hide hS0
      clear hat ht hbA hS0
      cases hjn : t.jn
      · -- a split
        have HSP := hide (Split_any _ L k t.row t.lf t.rt _ HLA.out HFN.out.wf)
        rw [hjn] at HSP HLA HBA HS0 c0
        go_wp2_with fail
        refine HSP.out.mono ?_
        rintro e w2 ⟨v2, rfl, hr2, hb2, hnw2⟩
        have hbw2 := HBA.out.trans (hb2.mono HBA.out.size)
        have HL2 := hide (HLA.out.below hb2)
        obtain ⟨vo, vc, hvo, hv1, hv2⟩ := hr2.shape
        unfold maxLen at hv2
        clear hb2 hnw2 c0 c1 c2 c3 c4
        generalize hSF : splitF L k t.row t.lf t.rt = SF at *
        obtain ⟨x, y⟩ := SF
        by_cases hx : x = 0
        · subst hx
          have hok : (splitF L k t.row t.lf t.rt).1 = 0 := by rw [hSF]
          have hsr : splitR L k t.row t.lf t.rt = splitL L k t.row t.lf t.rt := by rw [splitR, if_pos hok, Int.toNat_natCast]
          have hsfine := split_fine hok
          have hjf := split_joinF hok
          rw [Int.toNat_natCast] at hsfine hjf
          have hjr : joinR (splitL L k t.row t.lf t.rt) k (L.getD k zeroPt).id = L := by
            rw [joinR, hjf, if_pos rfl, Int.toNat_natCast]
            exact split_join hkn
          rw [hsr] at hr2 hvo hv1
          have hslen := splitL_length (row := t.row) (left := t.lf) (right := t.rt) hkn
          rw [hslen] at hvo hv1
          subst hvo
          obtain ⟨p, hp⟩ : ∃ c, L[k]? = some c := ⟨_, List.getElem?_eq_getElem hkn⟩
          have hgd : L.getD k zeroPt = p := by rw [List.getD_eq_getElem?_getD, hp]; rfl
          rw [hgd] at hjf hjr
          have hbB := below_allocG w2 (.cells #[.int .i64 0, .int .i64 y] 26)
          have hck := PCheck_any _ _ _ (hr2.below hbB) hsfine.wf
          rw [chkP_ok hsfine] at hck
          have HCK := hide hck
          have HBB := hide hbB
          have HR2 := hide hr2
          have HJF := hide hjf
          have HJR := hide hjr
          have HSN := hide hsfine
          generalize hSL : splitL L k t.row t.lf t.rt = SL at *
          have HP := hide hp
          have hk3 : (0 : Int) ≤ (k : Int) := by omega
          have hk4 : (k : Int) < (L.length : Int) := by omega
          have hne1 : (((L.length + 1 : Nat) : Int) != (L.length : Int) + 1) = false := by simp
          clear hok hsr hsfine hjf hjr hck hbB hr2 hgd hp hSL hSF
          have hfl := HFLD.out
          unfold flt at HCK
          unfold flt
          go_wp2_with fail
          refine HCK.out.mono ?_
          rintro e w3 ⟨rfl, hb3⟩
          have hb23 : Below w2.heap.size w2 w3 := HBB.out.trans (hb3.mono (by simp))
          have hbw3 := hbw2.trans (hb23.mono hbw2.size)
          have HL3 := hide (HL2.out.below hb23)
          have HR3 := hide (HR2.out.below hb23)
          obtain ⟨b3, off3, hlo3, hbb3, hat3⟩ := HL3.out.here HP.out
          subst hlo3
          obtain ⟨d0, d1, d2⟩ := hat3.part
          have hjn2 := Join_any _ SL k p.id _ HR3.out HSN.out.wf
          rw [HJF.out, HJR.out] at hjn2
          have HJN := hide hjn2
          clear hb3 hb23 hat3 hjn2
          unfold flt at HJN
          go_wp2_with fail
          refine HJN.out.mono ?_
          rintro e w4 ⟨v4, rfl, hr4, hb4, _⟩
          have hbw4 := hbw3.trans (hb4.mono hbw3.size)
          have HL4 := hide (HL3.out.below hb4)
          have HR4 := hide (HR3.out.below hb4)
          have hbC := below_allocG w4 (.cells #[.int .i64 0, .int .i64 0] 26)
          have HSM := hide (SameParts_any _ _ L _ (hr4.below hbC) (HL4.out.below hbC))
          have HBC := hide hbC
          obtain ⟨vo4, vc4, hvo4, _, _⟩ := hr4.shape
          subst hvo4
          clear hb4 hbC d0 d1 d2 hr4
          go_wp2_with fail
          refine HSM.out.mono ?_
          rintro e w5 ⟨rfl, hb5⟩
          have hb45 : Below w4.heap.size w4 w5 := HBC.out.trans (hb5.mono (by simp))
          have hbw5 := hbw4.trans (hb45.mono hbw4.size)
          have HR5 := hide (HR4.out.below hb45)
          clear hb5 hb45
          go_wp2_with fail
          go_roundw
          case rel => exact ⟨j + 1, _, SL, by omega, by go_num, rfl, HR5.out, HSN.out, hbw5⟩
          case measure => simp [intOf]; omega
        · have hxb : (x != 0) = true := by simp [hx]
          have HB2 := hide (hbw2.alloc hbw2.size (.cells #[.int .i64 x, .int .i64 y] 26))
          subst hvo
          clear hx hSF
          unfold flt
          go_wp2_with fail
          go_roundw
          case rel => exact ⟨j + 1, _, L, by omega, by go_num, rfl, HL2.out.below (below_allocG _ _), HFN.out, HB2.out⟩
          case measure => simp [intOf]; omega
      · -- a join
        have HJN := hide (Join_any _ L k t.lf _ HLA.out HFN.out.wf)
        rw [hjn] at HJN HLA HBA HS0 c0
        go_wp2_with fail
        refine HJN.out.mono ?_
        rintro e w2 ⟨v2, rfl, hr2, hb2, hnw2⟩
        have hbw2 := HBA.out.trans (hb2.mono HBA.out.size)
        have HL2 := hide (HLA.out.below hb2)
        obtain ⟨vo, vc, hvo, hv1, hv2⟩ := hr2.shape
        unfold maxLen at hv2
        clear hb2 hnw2 c0 c1 c2 c3 c4
        generalize hSF : joinF L k t.lf = SF at *
        obtain ⟨x, y⟩ := SF
        have HB2 := hide (hbw2.alloc hbw2.size (.cells #[.int .i64 x, .int .i64 y] 26))
        by_cases hx : x = 0
        · subst hx
          have hok : (joinF L k t.lf).1 = 0 := by rw [hSF]
          have hsr : joinR L k t.lf = joinL L k t.lf := by rw [joinR, if_pos hok, Int.toNat_natCast]
          have hsfine := join_fine hok
          rw [Int.toNat_natCast] at hsfine
          rw [hsr] at hr2 hvo hv1
          have HR2 := hide hr2
          have HSN := hide hsfine
          generalize joinL L k t.lf = SL at *
          subst hvo
          clear hok hsr hsfine hr2 hSF
          unfold flt
          go_wp2_with fail
          go_roundw
          case rel => exact ⟨j + 1, _, SL, by omega, by go_num, rfl, HR2.out.below (below_allocG _ _), HSN.out, HB2.out⟩
          case measure => simp [intOf]; omega
        · have hxb : (x == 0) = false := beq_eq_false_iff_ne.2 hx
          subst hvo
          clear hx hSF
          unfold flt
          go_wp2_with fail
          go_roundw
          case rel => exact ⟨j + 1, _, L, by omega, by go_num, rfl, HL2.out.below (below_allocG _ _), HFN.out, HB2.out⟩
          case measure => simp [intOf]; omega
    · have hck := PCheck_any _ _ _ HL.out HFN.out.wf
      rw [chkP_ok HFN.out] at hck
      have HCK := hide hck
      have hfl := HFLD.out
      clear hck
      unfold flt at HCK
      go_wp2_with fail
      refine HCK.out.mono ?_
      rintro e w3 ⟨rfl, hb3⟩
      have hbw3 := hbel.trans (hb3.mono hbel.size)
      have HL3 := hide (HL.out.below hb3)
      obtain ⟨wL, hwL⟩ : ∃ wL, wL = wr := ⟨_, rfl⟩
      subst hwL
      clear hb3
      go_wp2_with fail
      go_loopw [16] (fun iv wr => ∃ (i : Nat), i ≤ rs.length ∧ iv = .int .i64 i ∧ Below w3.heap.size w3 wr)
        (fun iv _ => rs.length - (intOf iv).toNat)
      case atStart => exact ⟨0, by omega, rfl, Below.refl _ _⟩
      case round =>
        obtain ⟨i, hi, rfl, hbi⟩ := hrel
        have hbwi := hbw3.trans (hbi.mono hbw3.size)
        by_cases hlt2 : i < rs.length
        · obtain ⟨r, hr⟩ : ∃ c, rs[i]? = some c := ⟨_, List.getElem?_eq_getElem hlt2⟩
          obtain ⟨b2, off2, cap2, hv2, _, _, hb2, hc2'⟩ := HU.out.pos (by rw [sc_length]; omega)
          simp only [Value.slice.injEq] at hv2
          obtain ⟨rfl, hq1, hq2⟩ := hv2
          clear hq1 hq2
          have hcr := hc2' i (.string ⟨r.toArray⟩) (by simp [sc, hr])
          have hcr2 : wr.cell? ⟨b2, off2 + i, none⟩ = some (.string ⟨r.toArray⟩) := cell_belowG hcr hbwi
          have hk1 : (0 : Int) ≤ (i : Int) := by omega
          have hk2 : (i : Int) < (rs.length : Int) := by omega
          have hz : (chkP L).1 = 0 := by rw [chkP_ok HFN.out]
          obtain ⟨k, p0, hk, hkl, hkp, hkb, hku⟩ := hvP_one (r := ⟨r.toArray⟩) HFN.out
          have hfd := Find_any _ L ⟨r.toArray⟩ _ (HL3.out.below hbi) HFN.out.wf
          rw [chkP_ok HFN.out, findR, if_pos hz, hk] at hfd
          have HFD := hide hfd
          have HKP := hide hkp
          have HKB := hide hkb
          have HKU := hide hku
          have HCR := hide hcr
          have hd1 : decide ((k : Int) < 0) = false := decide_eq_false (by omega)
          have hd2 : ¬ (L.length : Int) ≤ (k : Int) := by omega
          have hd3 : decide (L.length ≤ k) = false := decide_eq_false (by omega)
          have hd4 : decide ((L.length : Int) ≤ (k : Int)) = false := decide_eq_false (by omega)
          clear hfd hkp hkb hku hk hz hcr hc2' hr
          unfold flt at HFD
          go_wp2_with fail
          refine HFD.out.mono ?_
          rintro e w4 ⟨rfl, hb4⟩
          have hb34 := hbi.trans (hb4.mono hbi.size)
          have hb34' := hb34.alloc hb34.size (.cells #[.int .i64 0, .int .i64 0] 26)
          have HB34 := hide hb34'
          obtain ⟨wM, hwM⟩ : ∃ wM, wM = wr := ⟨_, rfl⟩
          subst hwM
          clear hb4 hb34 hb34' hcr2
          go_wp2_with fail
          generalize w4.alloc (.cells #[.int .i64 0, .int .i64 0] 26) = w5 at *
          go_loopw [19] (fun iv wr => ∃ (m : Nat), m ≤ L.length ∧ iv = .int .i64 m ∧ Below w3.heap.size w3 wr)
            (fun iv _ => L.length - (intOf iv).toNat)
          case atStart => exact ⟨0, by omega, rfl, HB34.out⟩
          case round =>
            obtain ⟨m, hm, rfl, hbm⟩ := hrel
            by_cases hlt3 : m < L.length
            · obtain ⟨p, hp⟩ : ∃ c, L[m]? = some c := ⟨_, List.getElem?_eq_getElem hlt3⟩
              obtain ⟨b6, off6, rfl, hb6, hat⟩ := (HL3.out.below hbm).here hp
              have hbwm := hbw3.trans (hbm.mono hbw3.size)
              have hcr3 := cell_belowG HCR.out hbwm
              have hkeep : ∀ X, Below wr.heap.size wr X → X.cell? ⟨b2, off2 + i, none⟩ = some (.string ⟨r.toArray⟩) ∧ X.cell? ⟨b6, off6 + m * 3, none⟩ = some (.string p.fr) ∧ X.cell? ⟨b6, off6 + m * 3 + 1, none⟩ = some (.string p.to_) ∧ X.cell? ⟨b6, off6 + m * 3 + 2, none⟩ = some (.int .i64 p.id) := fun X hX =>
                ⟨cell_belowG hcr3 hX, (hat.below hX).part⟩
              have HKEEP := hide hkeep
              obtain ⟨e0, c0, c1, c2⟩ := hkeep wr (Below.refl _ _)
              have hm1 : (0 : Int) ≤ (m : Int) := by omega
              have hm2 : (m : Int) < (L.length : Int) := by omega
              have hmk : inB ⟨r.toArray⟩ p.fr p.to_ = ((m : Int) == (k : Int)) := by
                cases hin : inB ⟨r.toArray⟩ p.fr p.to_
                · have : m ≠ k := by
                    rintro rfl
                    rw [hp] at HKP
                    have := HKP.out
                    cases this
                    rw [hin] at HKB
                    exact absurd HKB.out (by decide)
                  symm
                  exact beq_eq_false_iff_ne.2 (by omega)
                · have := HKU.out m p hp hin
                  subst this
                  simp
              clear hat hp
              cases hmkb : ((m : Int) == (k : Int))
              all_goals
                have HMK := hide (hmk.trans hmkb)
                clear hkeep hmk hcr3
                go_wp2_with fail
                go_region_held3 (fun X => X.cell? ⟨b2, off2 + i, none⟩ = some (.string ⟨r.toArray⟩) ∧ X.cell? ⟨b6, off6 + m * 3, none⟩ = some (.string p.fr) ∧ X.cell? ⟨b6, off6 + m * 3 + 1, none⟩ = some (.string p.to_) ∧ X.cell? ⟨b6, off6 + m * 3 + 2, none⟩ = some (.int .i64 p.id)) (exact HKEEP.out _ (by go_grown)) (first
                  | (go_at_call 11; refine (InPart_any p ⟨r.toArray⟩ _).mono ?_; rintro e w7 ⟨rfl, hb7⟩; have hbm7 : Below wr.heap.size wr w7 := Below.trans (by go_grown) hb7; rw [HMK.out]))
                all_goals
                  go_wp2_with fail
                  go_roundw
                  case rel => exact ⟨m + 1, by omega, by go_num, hbm.trans (hbm7.mono hbm.size)⟩
                  case measure => simp [intOf]; omega
            · go_wp2_with fail
              go_roundw
              case rel => exact ⟨i + 1, by omega, by go_num, hbm⟩
              case measure => simp [intOf]; omega
        · go_wp2_with fail
          go_ret
          exact ⟨rfl, hbwi⟩

end Go.Proofs.Ytahgddbladfemaf
