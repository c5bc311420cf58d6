/-
  Texts joined: AsF3.
-/
import Derived.Test.YtnbifobdkjkjlaaMAssignKeepsAsF2
/-
  The document's BoardFault of a board that is fine.
-/
namespace Go.Proofs.Ytnbifobdkjkjlaa
open Go.RowKit
set_option linter.unusedVariables false

set_option maxRecDepth 100000 in
set_option maxHeartbeats 8000000 in
theorem BoardFault_fine (b : Bd) (hv sv : Value) (w : World) (hf : FineB b) (hh : RdG hoE w hv b.hs) (hs : RdG slE w sv b.sl) :
    Calls Try.prog 15 #[bdV hv sv b] w fun e w' => e = .returned (flt (0, 0)) ∧ Below w.heap.size w w' := by
  have hln : b.sl.length ≤ 200 := hf.ok.sl
  have hlh : b.hs.length ≤ 20 := hf.hl
  have hlh2 : b.hs.length ≤ 1000 := by omega
  have hln2 : b.sl.length ≤ 1000 := by omega
  have HF := hide hf
  have HH := hide hh
  have HS := hide hs
  have HHI := hide (fun k x (hx : b.hs[k]? = some x) => hf.hi x (List.mem_of_getElem? hx))
  have HHN := hide (show ∀ (k i : Nat) (x y : Ho), k < i → b.hs[k]? = some x → b.hs[i]? = some y → x.id ≠ y.id from fun k i x y hk hx hy => by
    have hd := hf.hn
    unfold DistH at hd
    rw [List.pairwise_iff_getElem] at hd
    obtain ⟨h1, rfl⟩ := List.getElem?_eq_some_iff.1 hx
    obtain ⟨h2, rfl⟩ := List.getElem?_eq_some_iff.1 hy
    exact hd k i h1 h2 hk)
  have HTU := hide hf.tu
  have HNX := hide hf.nx
  have HPT := hide (chkP_ok hf.pt)
  obtain ⟨ah, ch, rfl, _, _⟩ := hh.shape
  obtain ⟨as_, cs, rfl, _, _⟩ := hs.shape
  obtain ⟨hB, hR, hA⟩ := two_atA w #[.slice ah b.hs.length ch, .slice as_ b.sl.length cs, .int .i64 b.tu, .int .i64 b.nx] #[.int .i64 0, .int .i64 0] 27 30
  have HB0 := hide hB
  have HR0 := hide hR
  have HA0 := hide hA
  generalize hW : ((w.alloc (.cells #[.slice ah b.hs.length ch, .slice as_ b.sl.length cs, .int .i64 b.tu, .int .i64 b.nx] 27)).alloc (.cells #[.int .i64 0, .int .i64 0] 30)) = W0 at HB0 HR0 HA0
  have HW := hide hW
  have d0 : decide ((20 : Int) < (b.hs.length : Int)) = false := decide_eq_false (by omega)
  have b0 := HB0.out.cell 0
  have bl := HB0.out.lt
  simp at b0
  clear hh hs hB hR hA hW hf
  unfold bdV
  go_enter Try.func15, Try.ntmps15
  go_upto_region 1 with fail
  rw [HW.out]
  clear HW
  go_upto_region 3 with fail
  clear b0 bl d0
  go_wp2_with fail
  go_loopw [3, 4] (fun iv _ wr => ∃ i : Nat, i ≤ b.hs.length ∧ iv = .int .i64 i ∧ Below W0.heap.size W0 wr)
    (fun iv _ _ => b.hs.length - (intOf iv).toNat)
  case atStart => exact ⟨0, by omega, rfl, Below.refl _ _⟩
  case round =>
    obtain ⟨i, hi, rfl, hbr⟩ := hrel
    have HBR := hide hbr
    have HAr := hide (HA0.out.trans (hbr.mono HA0.out.size))
    have b0 := (HB0.out.later hbr).cell 0
    have bl := (HB0.out.later hbr).lt
    simp at b0
    clear hbr
    by_cases hlt : i < b.hs.length
    · obtain ⟨x, hx⟩ : ∃ x, b.hs[i]? = some x := ⟨_, List.getElem?_eq_getElem hlt⟩
      have HO1 := hide (HHI.out i x hx).1
      have HO2 := hide (HHI.out i x hx).2
      have HX := hide hx
      obtain ⟨hb, ho, rfl, hbl, hat⟩ := (HH.out.below HAr.out).here hx
      obtain ⟨c0, c1, c2⟩ := hat.host
      have hk1 : (0 : Int) ≤ (i : Int) := by omega
      have hk2 : (i : Int) < (b.hs.length : Int) := by omega
      obtain ⟨xi, xe, xa⟩ := x
      simp only at c0 c1 c2 HO1 HO2
      clear hat hx
      have h1 := fun W => One_any xi W
      have h2 := fun W => One_any xe W
      rw [HO1.out] at h1
      rw [HO2.out] at h2
      have H1 := hide h1
      have H2 := hide h2
      clear h1 h2
      go_upto_region 8 with (first
        | (go_at_call_of 26 (Value.int IntKind.i64 xi); refine (H1.out _).mono ?_; rintro e w1 ⟨rfl, hw⟩; rw [hw]; clear hw)
        | (go_at_call_of 26 (Value.int IntKind.i64 xe); refine (H2.out _).mono ?_; rintro e w1 ⟨rfl, hw⟩; rw [hw]; clear hw))
      clear c0 c1 c2 b0 bl
      go_wp2_with fail
      go_loopw [4] (fun iv wq => ∃ k : Nat, k ≤ i ∧ iv = .int .i64 k ∧ Below wr.heap.size wr wq)
        (fun iv _ => i - (intOf iv).toNat)
      case atStart => exact ⟨0, by omega, rfl, Below.refl _ _⟩
      case round =>
        obtain ⟨k, hk, rfl, hbq⟩ := hrel
        have HBQ := hide (HBR.out.trans (hbq.mono HBR.out.size))
        have HQ := hide hbq
        have HAq := hide (HAr.out.trans (hbq.mono HAr.out.size))
        have b0 := (HB0.out.later HBQ.out).cell 0
        have bl := (HB0.out.later HBQ.out).lt
        simp at b0
        clear hbq
        by_cases hlk : k < i
        · have d9 : decide ((k : Int) < (i : Int)) = true := decide_eq_true (by omega)
          obtain ⟨y, hy⟩ : ∃ y, b.hs[k]? = some y := ⟨_, List.getElem?_eq_getElem (by omega)⟩
          have hne := HHN.out k i y _ hlk hy HX.out
          obtain ⟨hb2, ho2, he, hbl2, hat⟩ := (HH.out.below HAq.out).here hy
          simp only [Option.some.injEq, Addr.mk.injEq] at he
          obtain ⟨rfl, rfl, -⟩ := he
          obtain ⟨hb3, ho3, he, hbl3, hat2⟩ := (HH.out.below HAq.out).here HX.out
          simp only [Option.some.injEq, Addr.mk.injEq] at he
          obtain ⟨rfl, rfl, -⟩ := he
          obtain ⟨q0, q1, q2⟩ := hat.host
          obtain ⟨r0, r1, r2⟩ := hat2.host
          have hk3 : (0 : Int) ≤ (k : Int) := by omega
          have hk4 : (k : Int) < (b.hs.length : Int) := by omega
          have f1 : (y.id == xi) = false := beq_eq_false_iff_ne.2 hne
          clear hat hat2 hy hne q1 q2 r1 r2
          go_upto_region 11 with fail
          go_quiet (fail)
          go_wp2_with fail
          go_roundw
          case rel => exact ⟨k + 1, by omega, by go_num, below_drewN HQ.out _⟩
          case measure => simp [intOf]; omega
        · have d9 : decide ((k : Int) < (i : Int)) = false := decide_eq_false (by omega)
          go_wp2_with fail
          go_roundw
          case rel => exact ⟨i + 1, by omega, by go_num, HBQ.out⟩
          case measure => simp [intOf]; omega
    · obtain rfl : i = b.hs.length := by omega
      have b2 := (HB0.out.later HBR.out).cell 2
      have b3 := (HB0.out.later HBR.out).cell 3
      simp at b2 b3
      have h1 := fun W => rNum_any b.tu W
      have h2 := fun W => One_any b.nx W
      rw [HTU.out] at h1
      rw [HNX.out] at h2
      have H1 := hide h1
      have H2 := hide h2
      clear h1 h2
      go_upto_region 15 with (first
        | (go_at_call 27; refine (H1.out _).mono ?_; rintro e w1 ⟨rfl, hw⟩; rw [hw]; clear hw)
        | (go_at_call 26; refine (H2.out _).mono ?_; rintro e w1 ⟨rfl, hw⟩; rw [hw]; clear hw))
      clear b0 b2 b3 bl hlt hi
      have HBr := hide (HB0.out.later HBR.out)
      have HRr := hide (HR0.out.later HBR.out)
      have HPO := hide (PartsOf_any b (.slice ah b.hs.length ch) (.slice as_ b.sl.length cs) wr (HS.out.below HAr.out) hln2)
      unfold bdV at HPO
      go_upto_region 16 with (first
        | (refine wpList_load_blk HBr.out Try.underlying27 rfl Try.sizeBoard rfl rfl rfl ?_)
        | (go_at_call 29; refine HPO.out.mono ?_; rintro e w3 ⟨v3, rfl, hp3, hb3⟩; have HP3 := hide hp3; have HB3 := hide hb3; clear hp3 hb3)
        | (go_at_call 28; refine (PartsFault_any v3 (parts b.sl) w3 HP3.out).mono ?_; rw [HPT.out]; rintro e w4 ⟨rfl, hb4⟩; have HB4 := hide (HB3.out.trans (hb4.mono HB3.out.size)); clear hb4; unfold flt))
      have hbT := below_allocG w4 (.cells #[.int .i64 0, .int .i64 0] 30)
      have hbX := HB4.out.trans (hbT.mono HB4.out.size)
      have HB5 := hide (HBr.out.later hbX)
      have HR5 := hide (HRr.out.later hbX)
      have HA5 := hide (HAr.out.trans (hbX.mono HAr.out.size))
      have HT5 := hide (Blk.new w4 30 #[.int .i64 0, .int .i64 0])
      generalize hwX : w4.alloc (.cells #[.int .i64 0, .int .i64 0] 30) = X5 at HB5 HR5 HA5 HT5 ⊢
      clear hwX hbT hbX HB3 HB4 HP3 HBr HRr HPO
      have t0 := HT5.out.cell 0
      have tl := HT5.out.lt
      simp at t0
      go_upto_region 18 with fail
      clear t0 tl HT5
      go_wp2_with fail
      go_loopw [6] (fun iv wq => ∃ k : Nat, k ≤ b.sl.length ∧ iv = .int .i64 k ∧ Below X5.heap.size X5 wq)
        (fun iv _ => b.sl.length - (intOf iv).toNat)
      case atStart => exact ⟨0, by omega, rfl, Below.refl _ _⟩
      case round =>
        obtain ⟨k, hk, rfl, hbq⟩ := hrel
        have HQ := hide hbq
        have HAq := hide (HA5.out.trans (hbq.mono HA5.out.size))
        have HBq := hide (HB5.out.later hbq)
        have HRq := hide (HR5.out.later hbq)
        have b1 := HBq.out.cell 1
        have bl := HBq.out.lt
        simp at b1
        clear hbq
        by_cases hlk : k < b.sl.length
        · have HSC := hide (SlotCode_fine b (.slice ah b.hs.length ch) (.slice as_ b.sl.length cs) k wr HF.out hlk (HH.out.below HAq.out) (HS.out.below HAq.out))
          unfold bdV at HSC
          go_wp2_with (first
            | (refine wpList_load_blk HBq.out Try.underlying27 rfl Try.sizeBoard rfl rfl rfl ?_)
            | (go_at_call 30; refine HSC.out.mono ?_; rintro e w6 ⟨rfl, hb6⟩; have HB6 := hide (HQ.out.trans (hb6.mono HQ.out.size)); clear hb6))
          go_roundw
          case rel => exact ⟨k + 1, by omega, by go_num, HB6.out⟩
          case measure => simp [intOf]; omega
        · obtain rfl : k = b.sl.length := by omega
          go_wp2_with (refine wpList_store_blk rfl rfl rfl rfl HRq.out rfl Try.sizeFaultA rfl ?_; intro w8 hQ8 hg8; have HQ8 := hide hQ8; have HA8 := hide (below_grownO HAq.out hg8 (fun k hk => by cases hk; omega) HAq.out.size); clear hQ8 hg8)
          refine bodyPost_ret (v := .agg #[.int .i64 0, .int .i64 0]) (results1_cell Try.results15 rfl (run_loadVar_blk HQ8.out Try.underlying30 rfl Try.sizeFaultA)) rfl ?_
          exact ⟨rfl, HA8.out⟩

end Go.Proofs.Ytnbifobdkjkjlaa
