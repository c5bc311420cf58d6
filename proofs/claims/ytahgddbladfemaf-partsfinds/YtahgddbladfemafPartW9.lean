/-
  The walk over parts.Meet.
-/
import Derived.Test.YtahgddbladfemafPartW8
namespace Go.Proofs.Ytahgddbladfemaf
open Go.RowKit
set_option linter.unusedVariables false

/-- What Meet tells. -/
def meetF (l : List Pt) (a b : ByteArray) : Int × Int := if (chkP l).1 = 0 then meetR l a b else (0, 0)

theorem take_snocI {α : Type} {l : List α} {i : Nat} {x : α} (h : l[i]? = some x) : l.take (i + 1) = l.take i ++ [x] := by
  obtain ⟨hl, rfl⟩ := List.getElem?_eq_some_iff.1 h
  exact List.take_succ_eq_append_getElem hl

set_option maxRecDepth 100000 in
set_option maxHeartbeats 2000000 in
theorem Meet_any (v : Value) (l : List Pt) (a b : ByteArray) (w : World) (hv : RdG pE w v l) (hwf : WfP l) :
    Calls Try.prog 8 #[v, .string a, .string b] w fun e w' => e = .returned (.tuple #[.int .i64 (meetF l a b).1, .int .i64 (meetF l a b).2, flt (chkP l)]) ∧ Below w.heap.size w w' := by
  have HV := hide hv
  have HN := hide (PCheck_any v l _ (hv.alloc (.cells #[.int .i64 0, .int .i64 0] 26)) hwf)
  obtain ⟨ao, cap, hvv, hc1, hc2⟩ := hv.shape
  subst hvv
  unfold maxLen at hc2
  go_enter Try.func8, Try.ntmps8
  go_wp2_with fail
  refine HN.out.mono ?_
  rintro e w1 ⟨rfl, hb1⟩
  have hF1 := (Blk.new w 26 #[.int .i64 0, .int .i64 0]).later hb1
  have hbw1 : Below w.heap.size w w1 := (below_allocG _ _).trans (hb1.mono (by simp))
  have f0 := hF1.cell 0
  have f1 := hF1.cell 1
  have g0 := hF1.frozen 0
  have g1 := hF1.frozen 1
  have hfl := hF1.lt
  simp at f0 f1
  by_cases hz : (chkP l).1 = 0
  · have hfine := chkP_fine.1 hz
    have HR := hide (show meetF l a b = meetR l a b by simp [meetF, hz])
    have HC := hide (chkP_ok hfine)
    rw [HC.out]
    obtain ⟨k, p0, hk, hkl, _⟩ := hvP_one (r := a) hfine
    have hl200 := hfine.1
    clear hz hfine
    unfold flt
    by_cases hok : askOk a b = true
    · have HM := hide (show meetR l a b = ((k : Int), 1 + (((l.drop (k + 1)).countP fun p => inB p.fr a b : Nat) : Int)) by rw [meetR, if_pos hok, hk, Int.toNat_natCast])
      have hbA := below_allocG w1 (.cells #[.int .i64 0, .int .i64 0] 26)
      have hhv := having_any _ l a _ ((HV.out.below hbw1).below hbA)
      rw [hk] at hhv
      have HH := hide hhv
      have HBA := hide hbA
      have hs2 := run_slice_fromK (K := 3) (P := Try.prog) Try.underlying22 (by kernel_rfl) infoPart ao l.length cap (k + 1) ((k : Int) + 1) (by omega) (by omega)
      have hr2 := HV.out.from (lo := k + 1) (by omega)
      obtain ⟨x2, hx2⟩ : ∃ x, Go.sliced ao (k + 1) l.length cap 3 = x := ⟨_, rfl⟩
      rw [hx2] at hs2 hr2
      obtain ⟨y2, z2, hy2, hy3, hy4⟩ := hr2.shape
      subst hy2
      generalize hT : l.drop (k + 1) = T at *
      have hTl : T.length ≤ 200 := by rw [← hT]; simp; omega
      unfold maxLen at hy4
      clear hbA hhv hk hx2 hT
      have hq : b.toList.isEmpty = true ∨ (b.toList.isEmpty = false ∧ Op.bytesLess b.toList a.toList = false ∧ (b.toList == a.toList) = false) := by
        cases he : b.toList.isEmpty
        · right
          unfold askOk at hok
          rw [he, Bool.false_or] at hok
          have := gtS b.toList a.toList
          rw [hok] at this
          simp only [Bool.and_eq_true, Bool.not_eq_true'] at this
          exact ⟨rfl, this.1, this.2⟩
        · exact .inl rfl
      clear hok
      go_upto_region 4 with fail
      go_cut [26] (fun x wc => x = .bool false ∧ w1.alloc (.cells #[.int .i64 0, .int .i64 0] 26) = wc)
      case first =>
        rcases hq with he | ⟨he, h1, h2⟩
        all_goals
          go_wp2_with fail
          go_meet
          case rel => exact ⟨rfl, rfl⟩
      case rest =>
        obtain ⟨rfl, rfl⟩ := hcut
        clear hq
        go_wp2_with fail
        refine HH.out.mono ?_
        rintro e w2 ⟨rfl, hb2⟩
        have hb12 : Below w1.heap.size w1 w2 := HBA.out.trans (hb2.mono (by simp))
        have hF2 := hF1.later hb12
        have hbw2 := hbw1.trans (hb12.mono hbw1.size)
        have HT2 := hide (hr2.below hbw2)
        have HF2 := hide hF2
        clear hb2 f0 f1 g0 g1 hfl hF1 hF2 hr2
        go_wp2_with fail
        go_loopw [11, 36] (fun mv iv wr => ∃ (j : Nat), j ≤ T.length ∧ iv = .int .i64 j ∧ mv = .int .i64 (1 + (((T.take j).countP fun p => inB p.fr a b : Nat) : Int)) ∧ Below w2.heap.size w2 wr)
          (fun _ iv _ => T.length - (intOf iv).toNat)
        case atStart => exact ⟨0, by omega, rfl, by simp, Below.refl _ _⟩
        case round =>
          obtain ⟨j, hj, rfl, rfl, hbel⟩ := hrel
          have hcl : (T.take j).countP (fun p => inB p.fr a b) ≤ 200 := by
            have := List.countP_le_length (p := fun p : Pt => inB p.fr a b) (l := T.take j)
            simp at this
            omega
          by_cases hlt : j < T.length
          · obtain ⟨p, hp⟩ : ∃ c, T[j]? = some c := ⟨_, List.getElem?_eq_getElem hlt⟩
            have HTS := hide (take_snocI hp)
            obtain ⟨bb, off, rfl, hbb, hat⟩ := HT2.out.here hp
            obtain ⟨c0, c1, c2⟩ := (hat.below hbel).part
            have hk1 : (0 : Int) ≤ (j : Int) := by omega
            have hk2 : (j : Int) < (T.length : Int) := by omega
            have HB3 := hide (hbel.alloc hbel.size (.cells #[.string p.fr, .string p.to_, .int .i64 p.id] 35))
            clear hat hp
            generalize hM : (T.take j).countP (fun p => inB p.fr a b) = M at *
            cases hi : inB p.fr a b
            · have HN2 := hide (show (T.take (j + 1)).countP (fun p => inB p.fr a b) = M by rw [HTS.out, List.countP_append, hM]; simp [hi])
              clear hM
              go_wp2_with (go_at_call 16; refine (vIsBetween_any _ _ _ _).mono ?_; rintro e w' ⟨rfl, rfl⟩; rw [hi])
              go_roundw
              case rel => exact ⟨j + 1, by omega, by go_num, by rw [HN2.out], HB3.out⟩
              case measure => simp [intOf]; omega
            · have HN2 := hide (show (T.take (j + 1)).countP (fun p => inB p.fr a b) = M + 1 by rw [HTS.out, List.countP_append, hM]; simp [hi])
              clear hM
              go_wp2_with (go_at_call 16; refine (vIsBetween_any _ _ _ _).mono ?_; rintro e w' ⟨rfl, rfl⟩; rw [hi])
              go_roundw
              case rel => exact ⟨j + 1, by omega, by go_num, by rw [HN2.out]; go_num, HB3.out⟩
              case measure => simp [intOf]; omega
          · have hje : j = T.length := by omega
            subst hje
            rw [List.take_length]
            have hF3 := HF2.out.later hbel
            have hbw3 := hbw2.trans (hbel.mono hbw2.size)
            have q0 := hF3.cell 0
            have q1 := hF3.cell 1
            have r0 := hF3.frozen 0
            have r1 := hF3.frozen 1
            have hfl3 := hF3.lt
            simp at q0 q1
            generalize T.countP (fun p => inB p.fr a b) = M at *
            go_wp2_with fail
            exact bodyPost_ret (v := .tuple #[.int .i64 k, .int .i64 (1 + (M : Int)), flt (0, 0)]) (by simp [results, Try.results8, go_sem, flt, q0, q1]) rfl ⟨by rw [HR.out, HM.out, HC.out], by go_grown⟩
    · have HM := hide (show meetR l a b = (0, 0) by rw [meetR, if_neg hok])
      have hq : b.toList.isEmpty = false ∧ (Op.bytesLess b.toList a.toList = true ∨ (Op.bytesLess b.toList a.toList = false ∧ (b.toList == a.toList) = true)) := by
        unfold askOk at hok
        simp only [Bool.or_eq_true, not_or, Bool.not_eq_true] at hok
        refine ⟨hok.1, ?_⟩
        cases h1 : Op.bytesLess b.toList a.toList
        · right
          refine ⟨rfl, ?_⟩
          have := gtS b.toList a.toList
          rw [hok.2, h1] at this
          simpa using this
        · exact .inl rfl
      obtain ⟨he, h1 | ⟨h1, h2⟩⟩ := hq
      all_goals
        clear hok
        go_wp2_with fail
        exact bodyPost_ret (v := .tuple #[.int .i64 0, .int .i64 0, flt (0, 0)]) (by simp [results, Try.results8, go_sem, flt, f0, f1, hfl]) rfl ⟨by rw [HR.out, HM.out, HC.out], by go_grown⟩
  · have HR := hide (show meetF l a b = (0, 0) by simp [meetF, hz])
    generalize hC : chkP l = C at *
    have HC := hide hC
    clear hC
    obtain ⟨x, y⟩ := C
    have hne' : x ≠ 0 := hz
    have hcb : (x == 0) = false := beq_eq_false_iff_ne.2 hne'
    have hcb2 : (x != 0) = true := by simp [hne']
    clear hz hne'
    unfold flt
    go_wp2_with fail
    go_region
    all_goals
      go_wp2_with fail
      exact bodyPost_ret (v := .tuple #[.int .i64 0, .int .i64 0, flt (x, y)]) (by simp [results, Try.results8, go_sem, flt, f0, f1, hfl]) rfl ⟨by rw [HR.out, HC.out], by go_grown⟩

end Go.Proofs.Ytahgddbladfemaf
