/-
  The walk over the law CellScans.
-/
import Derived.Test.YtlebbkbbmgmmjabCellB1
import Derived.Test.YtlebbkbbmgmmjabScansMath
namespace Go.Proofs.Ytlebbkbbmgmmjab
open Go.RowKit

/-- A place of a list, at its number. -/
theorem RdC.here {w : World} {ao : Option Addr} {n cap : Nat} {cs : List Cl} (h : RdC w (.slice ao n cap) cs) {i : Nat} {c : Cl} (hi : cs[i]? = some c) :
    ∃ b off, ao = some ⟨b, off, none⟩ ∧ b < w.heap.size ∧ At w b (off + i * 5) c := by
  obtain ⟨ao', cap', hv, _, _, hat⟩ := h.at
  simp only [Value.slice.injEq] at hv
  obtain ⟨rfl, _, _⟩ := hv
  obtain ⟨hl, e⟩ := List.getElem?_eq_some_iff.1 hi
  obtain ⟨b, off, ha, hb, hc⟩ := hat i hl
  exact ⟨b, off, ha, hb, e ▸ hc i hl⟩

theorem RdC.slen {w : World} {ao : Option Addr} {n cap : Nat} {cs : List Cl} (h : RdC w (.slice ao n cap) cs) : n = cs.length ∧ n ≤ cap ∧ cap ≤ maxLen := by
  obtain ⟨ao', cap', hv, h1, h2, _⟩ := h
  simp only [Value.slice.injEq] at hv
  obtain ⟨_, rfl, rfl⟩ := hv
  exact ⟨rfl, h1, h2⟩

set_option maxRecDepth 100000 in
set_option maxHeartbeats 8000000 in
theorem cellScans_any (v : Value) (cs : List Cl) (a b : ByteArray) (t m : Int) (w : World) (hv : RdC w v cs) :
    Calls Try.prog 8 #[v, aA a b t m] w fun e w' => e = .returned (.bool true) ∧ Below w.heap.size w w' := by
  obtain ⟨ao, cap, hvv, hc1, hc2⟩ := hv.shape
  subst hvv
  unfold maxLen at hc2
  unfold aA
  go_enter Try.func8, Try.ntmps8
  go_wp2_with fail
  refine (cellBegun_any _).mono ?_
  rintro e w1 ⟨rfl, hb1⟩
  have hA1 := (Bk.new w 58 #[.string a, .string b, .int .i64 t, .int .i64 m]).below hb1 (by simp)
  have hbw1 : Below w.heap.size w w1 := (below_alloc' _ _).trans (hb1.mono (by simp))
  have hsA := hA1.lt
  clear hb1
  by_cases hbig : 150 < cs.length
  · go_wp2_with fail
    go_ret
    exact ⟨rfl, hbw1⟩
  have a0 := hA1.cell 0
  have a1 := hA1.cell 1
  have a2 := hA1.cell 2
  have a3 := hA1.cell 3
  simp at a0 a1 a2 a3
  go_wp2_with fail
  refine (Scan_any _ cs a b t m _ (hv.below hbw1)).mono ?_
  rintro e w2 ⟨s, rfl, hs2, hb2, hn2⟩
  generalize hSC : scanC cs a b t m = SC at *
  obtain ⟨ss, x, y⟩ := SC
  obtain ⟨so, scap, hss, hs3, hs4⟩ := hs2.shape
  unfold maxLen at hs4
  subst hss
  have HSC := hide hSC
  have hA2 := hA1.below hb2 hsA
  have hbw2 : Below w.heap.size w w2 := hbw1.trans (hb2.mono (by omega))
  clear hb2 hn2 hA1 hbw1 hSC a0 a1 a2 a3
  unfold fltC
  simp only at hs2 hs3 ⊢
  have hsA2 := hA2.lt
  by_cases hx : x = 0
  · subst hx
    have h0 : (scanC cs a b t m).2.1 = 0 := by rw [HSC.out]
    obtain ⟨hf1, hf2, hf3, hf4, hf5⟩ := scanC_fine h0
    have hsl : ss.length ≤ 1000 := by
      have := hf5
      rw [HSC.out] at this
      simp only at this
      rw [this, List.length_take]
      omega
    clear hf5
    have hgets : ∀ c, c ∈ ss → getC cs c.row c.col t = (c.val, true, (0, 0)) := fun c hc => scan_get h0 (by rw [HSC.out]; exact hc)
    have hpws : ss.Pairwise (fun a b => kl (rc a) (rc b)) := by have := scan_pw h0; rw [HSC.out] at this; exact this
    have hcnt : (ss.length : Int) ≠ m → cntUp (okScan cs a b t) cs.length = ss.length := fun hne => by have := scan_count h0 (by rw [HSC.out]; exact hne); rw [HSC.out] at this; exact this
    have HGETS := hide hgets
    have HPWS := hide hpws
    have HCNT := hide hcnt
    have HF1 := hide hf1
    have HF2 := hide hf2
    clear hgets hpws hcnt hf1 hf2 h0
    go_wp2_with fail
    have hA3 := hA2.below (below_alloc' w2 (.cells #[.int .i64 0, .int .i64 y] 29)) hsA2
    have hs5 := hs2.alloc (.cells #[.int .i64 0, .int .i64 y] 29)
    have hbw3 : Below w.heap.size w (w2.alloc (.cells #[.int .i64 0, .int .i64 y] 29)) := hbw2.alloc (by omega) _
    generalize w2.alloc (.cells #[.int .i64 0, .int .i64 y] 29) = wA at *
    have hvA := hv.below hbw3
    have hsA3 := hA3.lt
    clear hA2 hs2 hbw2 hsA2 hv hsA
    go_loopw [7] (fun i wr => ∃ k : Nat, k ≤ ss.length ∧ i = .int .i64 k ∧ Below wA.heap.size wA wr)
      (fun i _ => ss.length - (intOf i).toNat)
    case atStart => exact ⟨0, by omega, rfl, Below.refl _ _⟩
    case round =>
      obtain ⟨k, hk, rfl, hbel⟩ := hrel
      have hzr := hbel.size
      have hbwr : Below w.heap.size w wr := hbw3.trans (hbel.mono (by omega))
      by_cases hlt : k < ss.length
      · obtain ⟨c, hc⟩ : ∃ c, ss[k]? = some c := ⟨_, List.getElem?_eq_getElem hlt⟩
        obtain ⟨sb, off, rfl, hsb, hck⟩ := hs5.here hc
        have HGET := hide (HGETS.out c (List.mem_of_getElem? hc))
        have hkeep : ∀ W, Below wA.heap.size wA W → W.cell? ⟨w.heap.size, 2, none⟩ = some (.int .i64 t) ∧ (W.cell? ⟨sb, off + k * 5, none⟩ = some (.string c.row) ∧ W.cell? ⟨sb, off + k * 5 + 1, none⟩ = some (.string c.col) ∧ W.cell? ⟨sb, off + k * 5 + 2, none⟩ = some (.int .i64 c.time) ∧ W.cell? ⟨sb, off + k * 5 + 3, none⟩ = some (.bool c.gone) ∧ W.cell? ⟨sb, off + k * 5 + 4, none⟩ = some (.string c.val)) := fun W h => by
          obtain ⟨c0, c1, c2, c3, c4⟩ := hck.below h
          exact ⟨(hA3.below h hsA3).cell 2, c0, c1, c2, c3, c4⟩
        have HKEEP := hide hkeep
        have hvall : ∀ W, Below wA.heap.size wA W → RdC W (.slice ao cs.length cap) cs := fun W h => hvA.below h
        have HVALL := hide hvall
        obtain ⟨a2, c0, c1, c2, c3, c4⟩ := hkeep wr hbel
        have hk1 : (0 : Int) ≤ (k : Int) := by omega
        have hk2 : (k : Int) < (ss.length : Int) := by omega
        clear hkeep hvall
        go_wp2_with fail
        go_cut [8, 9, 10] (fun v8 v9 p wx => v8 = .string c.val ∧ v9 = .bool true ∧ ∃ z : Nat, p = .pointer (some ⟨z, 0, none⟩) ∧ Bk wx z 29 #[.int .i64 0, .int .i64 0] ∧ Below wA.heap.size wA wx)
        case first =>
          as_aux_lemma =>
            go_region_held3 (fun W => W.cell? ⟨w.heap.size, 2, none⟩ = some (.int .i64 t) ∧ (W.cell? ⟨sb, off + k * 5, none⟩ = some (.string c.row) ∧ W.cell? ⟨sb, off + k * 5 + 1, none⟩ = some (.string c.col) ∧ W.cell? ⟨sb, off + k * 5 + 2, none⟩ = some (.int .i64 c.time) ∧ W.cell? ⟨sb, off + k * 5 + 3, none⟩ = some (.bool c.gone) ∧ W.cell? ⟨sb, off + k * 5 + 4, none⟩ = some (.string c.val))) (exact HKEEP.out _ (by go_grown)) (first
              | (go_at_call 31; refine (Get_any _ cs c.row c.col t _ (by exact HVALL.out _ (by go_grown))).mono ?_; rintro e w4 ⟨rfl, hb4⟩; rw [HGET.out]; unfold fltC; have hb14 : Below wA.heap.size wA w4 := Below.trans (by go_grown) (hb4.mono (by simp <;> omega)); have hz14 := hb14.size; (first | (have tF : Bk w4 wr.heap.size 29 #[.int .i64 0, .int .i64 0] := Bk.below (w := (wr.alloc (.cells #[.int .i64 0, .int .i64 0] 29)).drew) (show Bk (wr.alloc (.cells #[.int .i64 0, .int .i64 0] 29)) _ _ _ from Bk.new wr _ _) hb4 (by simp); have f0 := tF.cell 0; have f1 := tF.cell 1; have f2 := tF.frozen 0; have f3 := tF.frozen 1; have f4 := tF.lt; simp at f0 f1) | skip)))
            · go_wp2_with fail
              go_meet
              case rel => exact ⟨rfl, rfl, _, rfl, Bk.new _ _ _, hb14.alloc hz14 _⟩
            · go_wp2_with fail
              go_meet
              case rel => exact ⟨rfl, rfl, _, rfl, (tF.set 0 _).set 1 _, by go_grown⟩
        case rest =>
          as_aux_lemma =>
            obtain ⟨rfl, rfl, z, rfl, hF, hbx⟩ := hcut
            have f0 := hF.cell 0
            simp at f0
            have hvv : (c.val.toList == c.val.toList) = true := by simp
            clear a2 c0 c1 c2 c3 c4
            obtain ⟨a2, c0, c1, c2, c3, c4⟩ := HKEEP.out wc hbx
            have hzx := hbx.size
            by_cases hk0 : k = 0
            · subst hk0
              rw [Nat.zero_mul, Nat.add_zero] at c0 c1 c2 c3 c4
              have hd : decide ((0 : Int) < ((0 : Nat) : Int)) = false := by simp
              go_wp2_with fail
              go_quiet (fail)
              go_wp2_with fail
              go_roundw
              case rel => exact ⟨1, by omega, by go_num, below_drewN hbx _⟩
              case measure => simp [intOf]; omega
            · obtain ⟨j, hkj⟩ : ∃ j, k = j + 1 := ⟨k - 1, by omega⟩
              obtain ⟨d, hd⟩ : ∃ c, ss[j]? = some c := ⟨_, List.getElem?_eq_getElem (by omega)⟩
              obtain ⟨sb2, off2, he, _, hdk⟩ := hs5.here hd
              simp only [Option.some.injEq, Addr.mk.injEq, and_true] at he
              obtain ⟨rfl, rfl⟩ := he
              obtain ⟨d0, d1, d2, d3, d4⟩ := hdk.below hbx
              obtain ⟨q1, q2⟩ := kl_tests (c := d) (d := c) (by
                have h1 := List.pairwise_iff_getElem.1 HPWS.out j k (by omega) hlt (by omega)
                rw [(List.getElem?_eq_some_iff.1 hd).2, (List.getElem?_eq_some_iff.1 hc).2] at h1
                exact h1)
              have hg : decide (0 < k) = true := by simp; omega
              have hw : IntKind.i64.wrap ((k : Int) - 1) = (j : Int) := by rw [IntKind.wrap_i64]; omega
              have hj1 : (0 : Int) ≤ (j : Int) := by omega
              have hj2 : (j : Int) < (ss.length : Int) := by omega
              clear hkj hk0 hd hc hdk hck
              unfold bl at q1 q2
              rcases q2 with q2 | ⟨q2, q3, q4⟩
              all_goals
                go_wp2_with fail
                go_quiet (fail)
                go_wp2_with fail
                go_roundw
                case rel => exact ⟨k + 1, by omega, by go_num, below_drewN hbx _⟩
                case measure => simp [intOf]; omega
      · have a3 := (hA3.below hbel hsA3).cell 3
        simp at a3
        by_cases hm : (ss.length : Int) = m
        · have hmb : ((ss.length : Int) == m) = true := beq_iff_eq.2 hm
          clear hm
          go_wp2_with fail
          go_ret
          exact ⟨rfl, hbwr⟩
        have hmb : ((ss.length : Int) == m) = false := beq_eq_false_iff_ne.2 hm
        have HN := hide (HCNT.out hm)
        clear hm HGETS HPWS HCNT
        go_wp2_with fail
        go_loopw [11, 12] (fun n i wq => ∃ k : Nat, k ≤ cs.length ∧ i = .int .i64 k ∧ n = .int .i64 (cntUp (okScan cs a b t) k) ∧ Below wA.heap.size wA wq)
          (fun _ i _ => cs.length - (intOf i).toNat)
        case atStart => exact ⟨0, by omega, rfl, rfl, hbel⟩
        case round =>
          obtain ⟨k2, hk2, rfl, rfl, hbelq⟩ := hrel
          have hbwq : Below w.heap.size w wr := hbw3.trans (hbelq.mono (by omega))
          have hzq := hbelq.size
          by_cases hlt2 : k2 < cs.length
          · obtain ⟨c, hc⟩ : ∃ c, cs[k2]? = some c := ⟨_, List.getElem?_eq_getElem hlt2⟩
            obtain ⟨sb, off, rfl, hsb, hck⟩ := hvA.here hc
            have hcD : cs.getD k2 zeroC = c := by simp [List.getD_eq_getElem?_getD, hc]
            have hkeep : ∀ W, Below wA.heap.size wA W → (W.cell? ⟨w.heap.size, 0, none⟩ = some (.string a) ∧ W.cell? ⟨w.heap.size, 1, none⟩ = some (.string b) ∧ W.cell? ⟨w.heap.size, 2, none⟩ = some (.int .i64 t)) ∧ (W.cell? ⟨sb, off + k2 * 5, none⟩ = some (.string c.row) ∧ W.cell? ⟨sb, off + k2 * 5 + 1, none⟩ = some (.string c.col) ∧ W.cell? ⟨sb, off + k2 * 5 + 2, none⟩ = some (.int .i64 c.time) ∧ W.cell? ⟨sb, off + k2 * 5 + 3, none⟩ = some (.bool c.gone) ∧ W.cell? ⟨sb, off + k2 * 5 + 4, none⟩ = some (.string c.val)) := fun W h => by
              obtain ⟨c0, c1, c2, c3, c4⟩ := hck.below h
              exact ⟨⟨(hA3.below h hsA3).cell 0, (hA3.below h hsA3).cell 1, (hA3.below h hsA3).cell 2⟩, c0, c1, c2, c3, c4⟩
            have HKEEP := hide hkeep
            have hvall : ∀ W, Below wA.heap.size wA W → RdC W (.slice (some ⟨sb, off, none⟩) cs.length cap) cs := fun W h => hvA.below h
            have HVALL := hide hvall
            have HOK := hide (okAt_get (a := a) (b := b) HF1.out HF2.out hcD)
            have HCODE := hide (getC_code (row := c.row) (col := c.col) HF1.out HF2.out)
            obtain ⟨⟨a0, a1, a2⟩, c0, c1, c2, c3, c4⟩ := hkeep wr hbelq
            have hk3 : (0 : Int) ≤ (k2 : Int) := by omega
            have hk4 : (k2 : Int) < (cs.length : Int) := by omega
            have hcl := cntUp_le (okScan cs a b t) k2
            clear hkeep hvall
            go_wp2_with fail
            go_cut [181] (fun x wx => x = .bool (!(headB cs k2 && askB a b c.row)) ∧ Below wA.heap.size wA wx)
            case first =>
              as_aux_lemma =>
                have hask := ask_cases a b c.row
                by_cases hk0 : k2 = 0
                · subst hk0
                  have HH := hide (show headB cs 0 = true from rfl)
                  rw [Nat.zero_mul, Nat.add_zero] at c0 c1 c2 c3 c4
                  have hd : decide ((0 : Int) < ((0 : Nat) : Int)) = false := by simp
                  rcases hask with ⟨h0, h1⟩ | ⟨h0, h1, h2⟩ | ⟨h0, h1, h2, h3⟩ | ⟨h0, h1, h2, h3⟩
                  all_goals
                    have HA := hide h0
                    clear h0
                    go_quiet (fail)
                    go_wp2_with fail
                    go_meet
                    case rel => exact ⟨by rw [HH.out, HA.out]; rfl, below_drewN hbelq _⟩
                · obtain ⟨j, hkj⟩ : ∃ j, k2 = j + 1 := ⟨k2 - 1, by omega⟩
                  obtain ⟨d, hd⟩ : ∃ c, cs[j]? = some c := ⟨_, List.getElem?_eq_getElem (by omega)⟩
                  have hdD : cs.getD (k2 - 1) zeroC = d := by rw [hkj]; simp [List.getD_eq_getElem?_getD, hd]
                  obtain ⟨sb2, off2, he, _, hdk⟩ := hvA.here hd
                  simp only [Option.some.injEq, Addr.mk.injEq, and_true] at he
                  obtain ⟨rfl, rfl⟩ := he
                  obtain ⟨d0, d1, d2, d3, d4⟩ := hdk.below hbelq
                  have hhd := head_cases hk0 hcD hdD
                  have hg : decide (0 < k2) = true := by simp; omega
                  have hw : IntKind.i64.wrap ((k2 : Int) - 1) = (j : Int) := by rw [IntKind.wrap_i64]; omega
                  have hj1 : (0 : Int) ≤ (j : Int) := by omega
                  have hj2 : (j : Int) < (cs.length : Int) := by omega
                  clear hkj hk0 hd hc hdk hck hcD hdD
                  rcases hhd with ⟨q0, q1, q2⟩ | ⟨q0, q1, q2⟩ | ⟨q0, q1⟩
                  · have HH := hide q0
                    clear q0 hask
                    go_quiet (fail)
                    go_wp2_with fail
                    go_meet
                    case rel => exact ⟨by rw [HH.out]; rfl, below_drewN hbelq _⟩
                  all_goals
                    have HH := hide q0
                    clear q0
                    rcases hask with ⟨h0, h1⟩ | ⟨h0, h1, h2⟩ | ⟨h0, h1, h2, h3⟩ | ⟨h0, h1, h2, h3⟩
                    all_goals
                      have HA := hide h0
                      clear h0
                      go_quiet (fail)
                      go_wp2_with fail
                      go_meet
                      case rel => exact ⟨by rw [HH.out, HA.out]; rfl, below_drewN hbelq _⟩
            case rest =>
              as_aux_lemma =>
                obtain ⟨rfl, hbx⟩ := hcut
                have hzx := hbx.size
                clear a0 a1 a2 c0 c1 c2 c3 c4
                obtain ⟨⟨a0, a1, a2⟩, c0, c1, c2, c3, c4⟩ := HKEEP.out wc hbx
                cases hq : (headB cs k2 && askB a b c.row)
                · have HC : Hid (cntUp (okScan cs a b t) (k2 + 1) = cntUp (okScan cs a b t) k2) := hide (cntUp_no (by rw [HOK.out, hq]; rfl))
                  clear hq
                  go_wp2_with fail
                  go_roundw
                  case rel => exact ⟨k2 + 1, by omega, by go_num, by rw [HC.out], hbx⟩
                  case measure => simp [intOf]; omega
                · obtain ⟨gv, gi, hg⟩ := getC_split HCODE.out
                  have HGET := hide hg
                  have HOK2 : Hid (okScan cs a b t k2 = gi) := hide (by rw [HOK.out, hq, HGET.out]; rfl)
                  clear hg hq
                  go_wp2_with fail
                  go_cut [14, 15] (fun v9 p wx => v9 = .bool gi ∧ ∃ z : Nat, p = .pointer (some ⟨z, 0, none⟩) ∧ Bk wx z 29 #[.int .i64 0, .int .i64 0] ∧ Below wA.heap.size wA wx)
                  case first =>
                    as_aux_lemma =>
                      go_region_held3 (fun W => (W.cell? ⟨w.heap.size, 0, none⟩ = some (.string a) ∧ W.cell? ⟨w.heap.size, 1, none⟩ = some (.string b) ∧ W.cell? ⟨w.heap.size, 2, none⟩ = some (.int .i64 t)) ∧ (W.cell? ⟨sb, off + k2 * 5, none⟩ = some (.string c.row) ∧ W.cell? ⟨sb, off + k2 * 5 + 1, none⟩ = some (.string c.col) ∧ W.cell? ⟨sb, off + k2 * 5 + 2, none⟩ = some (.int .i64 c.time) ∧ W.cell? ⟨sb, off + k2 * 5 + 3, none⟩ = some (.bool c.gone) ∧ W.cell? ⟨sb, off + k2 * 5 + 4, none⟩ = some (.string c.val))) (exact HKEEP.out _ (by go_grown)) (first
                        | (go_at_call 31; refine (Get_any _ cs c.row c.col t _ (by exact HVALL.out _ (by go_grown))).mono ?_; rintro e w4 ⟨rfl, hb4⟩; rw [HGET.out]; unfold fltC; have hb14 : Below wA.heap.size wA w4 := Below.trans (by go_grown) (hb4.mono (by simp <;> omega)); have hz14 := hb14.size; (first | (have tF : Bk w4 wc.heap.size 29 #[.int .i64 0, .int .i64 0] := Bk.below (w := (wc.alloc (.cells #[.int .i64 0, .int .i64 0] 29)).drew) (show Bk (wc.alloc (.cells #[.int .i64 0, .int .i64 0] 29)) _ _ _ from Bk.new wc _ _) hb4 (by simp); have f0 := tF.cell 0; have f1 := tF.cell 1; have f2 := tF.frozen 0; have f3 := tF.frozen 1; have f4 := tF.lt; simp at f0 f1) | skip)))
                      · go_wp2_with fail
                        go_meet
                        case rel => exact ⟨rfl, _, rfl, Bk.new _ _ _, hb14.alloc hz14 _⟩
                      · go_wp2_with fail
                        go_meet
                        case rel => exact ⟨rfl, _, rfl, (tF.set 0 _).set 1 _, by go_grown⟩
                  case rest =>
                    as_aux_lemma =>
                      obtain ⟨rfl, z, rfl, hF, hby⟩ := hcut
                      have f0 := hF.cell 0
                      simp at f0
                      cases gi
                      · have HC := hide (cntUp_no HOK2.out)
                        go_wp2_with fail
                        go_roundw
                        case rel => exact ⟨k2 + 1, by omega, by go_num, by rw [HC.out], hby⟩
                        case measure => simp [intOf]; omega
                      · have HC := hide (cntUp_yes HOK2.out)
                        go_wp2_with fail
                        go_roundw
                        case rel => exact ⟨k2 + 1, by omega, by go_num, by rw [HC.out]; go_num, hby⟩
                        case measure => simp [intOf]; omega
          · have hkl : k2 = cs.length := by omega
            subst hkl
            have hq : ((cntUp (okScan cs a b t) cs.length : Int) == ss.length) = true := by rw [HN.out]; simp
            go_wp2_with fail
            go_ret
            exact ⟨by simp, hbwq⟩
  · have hxb : (x != 0) = true := by simp [hx]
    go_wp2_with fail
    go_ret
    exact ⟨rfl, by go_grown⟩

end Go.Proofs.Ytlebbkbbmgmmjab
