/-
  Texts joined: LawCrash.
-/
import Derived.Test.YtdodajalejfbiadMWalCrash15
/-
  The walk over the law WalCrash.
-/
namespace Go.Proofs.Ytdodajalejfbiad
open Go.RowKit

set_option maxRecDepth 100000 in
set_option maxHeartbeats 8000000 in
theorem walCrash_any (u : Value) (first : Int) (y : Value) (n : Int) (ls : List (List Cl)) (ys : List Bool) (w : World) (hu : RdL w u ls) (hf : -9223372036854775808 ≤ first ∧ first ≤ 9223372036854775807) (hy : Rd w y (ys.map Value.bool)) (_hn : -9223372036854775808 ≤ n ∧ n ≤ 9223372036854775807) (_hss : ∀ l ∈ ls, l.length ≤ 2199023255552) :
    Calls Try.prog 8 #[u, .int .i64 first, y, .int .i64 n] w fun e w' => e = .returned (.bool true) ∧ Below w.heap.size w w' := by
  obtain ⟨uo, ucap, huu, hc1, hc2⟩ := hu.shape
  subst huu
  unfold maxLen at hc2
  obtain ⟨yo, ycap, hyy, hd1, hd2⟩ := hy.shape
  rw [List.length_map] at hd1 hyy
  subst hyy
  unfold maxLen at hd2
  clear _hss
  go_enter Try.func8, Try.ntmps8
  go_wp2_with fail
  refine (walBegun_any _).mono ?_
  rintro e w1 ⟨rfl, hbw1⟩
  have hsz1 := hbw1.size
  by_cases hg1 : 200 < ls.length
  · go_wp2_with fail
    go_ret
    exact ⟨rfl, hbw1⟩
  by_cases hg2 : first < 1
  · go_wp2_with fail
    go_ret
    exact ⟨rfl, hbw1⟩
  by_cases hg3 : 999999000 < first
  · go_wp2_with fail
    go_ret
    exact ⟨rfl, hbw1⟩
  go_wp2_with fail
  go_loopw [9, 11, 12] (fun o s i wr => ∃ (j S K : Nat) (ns : List Nt) (A : List UInt8) (ps : List (Int × Value)) (dv : Value), j ≤ ls.length ∧ i = .int .i64 j ∧ s = .int .i64 S ∧ CrS first ns A K S ∧ ns.length ≤ j ∧ NtP w ps ns ∧ wr.ownsRow (w1.heap.size + 1) 41 2 o ns.length (nn ps) ∧ Bk wr w1.heap.size 58 #[dv, .int .i64 K] ∧ Rd wr dv (bc A) ∧ Off o dv ∧ New (w1.heap.size + 1) dv ∧ Below w1.heap.size w1 wr)
    (fun _ _ i _ => ls.length - (intOf i).toNat)
  case atStart => exact ⟨0, 0, 0, [], [], [], .slice none 0 0, by omega, rfl, rfl, CrS.start _, Nat.le_refl _, NtP.nil _, World.ownsRow_nil _ _ _ _, Bk.new _ _ _, Rd.nil _, Off.none _, New.nil _, below_alloc' _ _⟩
  case round =>
    obtain ⟨j, S, K, ns, A, ps, dv, hj, rfl, rfl, hC, hnj, hP, hown, hD, hdv, hoff, hdn, hbel⟩ := hrel
    have hbw := hbw1.trans (hbel.mono hsz1)
    have hszr := hbel.size
    obtain ⟨oo, ocap, hoo⟩ := owns2_shape hown
    subst hoo
    obtain ⟨dvo, dcap, hdd, _, _⟩ := hdv.shape
    rw [bc_length] at hdd
    subst hdd
    have hk1 := hC.kept
    have hk2 := hC.l
    have hk3 := hC.s
    have d0 := hD.cell 0
    have d1 := hD.cell 1
    have dl := hD.lt
    simp at d0 d1
    have HC := hide hC
    have HP := hide hP
    clear hC hP
    by_cases hlt : j < ls.length
    case neg =>
      have hjl : ¬ (j : Int) < (ls.length : Int) := by omega
      have hns : ns.length ≤ 200 := by omega
      have hkk0 : ¬ (K : Int) < 0 := by omega
      have hkk1 : ¬ (A.length : Int) < (K : Int) := by omega
      obtain ⟨p, hp⟩ : ∃ p : Nat, IntKind.u64.wrap n = (p : Int) := ⟨(IntKind.u64.wrap n).toNat, by rw [IntKind.wrap_u64]; omega⟩
      obtain ⟨M, hM⟩ : ∃ M : Nat, A.length - K + 1 = M := ⟨_, rfl⟩
      have hMi : (A.length : Int) - (K : Int) + 1 = (M : Int) := by omega
      have hM0 : 1 ≤ M := by omega
      have hq : p % M < M := Nat.mod_lt _ hM0
      have hpq : (p : Int) % ((A.length : Int) - (K : Int) + 1) = ((p % M : Nat) : Int) := by rw [hMi]; simp
      have hpt : Int.tmod (p : Int) ((A.length : Int) - (K : Int) + 1) = ((p % M : Nat) : Int) := by rw [hMi, Int.ofNat_tmod]
      have hM3 : ¬ (A.length : Int) - (K : Int) + 1 = 0 := by omega
      have hW1 : IntKind.i64.wrap ((A.length : Int) - (K : Int)) = (A.length : Int) - (K : Int) := by rw [IntKind.wrap_i64]; omega
      have hW2 : IntKind.i64.wrap ((A.length : Int) - (K : Int) + 1) = (A.length : Int) - (K : Int) + 1 := by rw [IntKind.wrap_i64]; omega
      have hM1 : IntKind.u64.wrap ((A.length : Int) - (K : Int) + 1) = (A.length : Int) - (K : Int) + 1 := by rw [IntKind.wrap_u64]; omega
      generalize p % M = q at *
      have hqA : K + q ≤ A.length := by omega
      have HQA := hide hqA
      have hq9 : q ≤ 60000 := by omega
      have hqw : IntKind.i64.wrap (q : Int) = (q : Int) := by rw [IntKind.wrap_i64]; omega
      have hqu : IntKind.u64.wrap (q : Int) = (q : Int) := by rw [IntKind.wrap_u64]; omega
      clear hM hqA hq hMi hM0
      go_upto_region 23 with fail
      have hall : ∀ W, Below wr.heap.size wr W → Rd W (.slice dvo A.length dcap) (bc A) ∧ Bk W w1.heap.size 58 #[.slice dvo A.length dcap, .int .i64 K] :=
        fun W h => ⟨hdv.below h, hD.below h hD.lt⟩
      have HALL := hide hall
      have HTR := hide (@crashR_in A K q HC.out.check HQA.out)
      have HLQ := hide (show (A.take (K + q)).length = K + q by rw [List.length_take]; have := HQA.out; omega)
      have HOWN := hide hown
      have HD := hide hD
      have HBEL := hide hbel
      clear hall
      go_cut [16] (fun pF wy => ∃ zF : Nat, pF = .pointer (some ⟨zF, 0, none⟩) ∧ CrCut w1 28 58 41 (.slice oo ns.length ocap) ns.length ps (A.take (K + q)) ((K : Int) + (q : Int)) zF wy)
      case first =>
        clear hD hdv hown hbel hbw hoff hdn hu hy hc1 hc2 hd1 hd2 hf _hn hg1 hg2 hg3 hj hnj hszr hk3 HC HP hlt hjl hns hkk0 hkk1 HQA
        have hS0 : (fun W : World => W.cell? ⟨w1.heap.size, 0, none⟩ = some (.slice dvo A.length dcap) ∧ W.cell? ⟨w1.heap.size, 1, none⟩ = some (.int .i64 K)) wr.drew := ⟨d0, d1⟩
        have hkeep : ∀ W, Below wr.heap.size wr W → (fun W : World => W.cell? ⟨w1.heap.size, 0, none⟩ = some (.slice dvo A.length dcap) ∧ W.cell? ⟨w1.heap.size, 1, none⟩ = some (.int .i64 K)) W := fun W h => ⟨(HALL.out W h).2.cell 0, (HALL.out W h).2.cell 1⟩
        have HKEEP := hide hkeep
        clear hkeep
        refine wp_region_noPanic ?_
        refine AnyX.region (S := fun W => W.cell? ⟨w1.heap.size, 0, none⟩ = some (.slice dvo A.length dcap) ∧ W.cell? ⟨w1.heap.size, 1, none⟩ = some (.int .i64 K)) (s := 18) (by kernel_rfl) ?_
        refine AnyX.takeL (i := 0) (v := ?v0) (by simp only [List.getElem?_toArray, List.getElem?_cons_zero]; rfl) (by kernel_rfl) (by kernel_rfl) (by kernel_rfl) (by kernel_rfl) (by kernel_rfl) (fun _ _ _ h => h) (by rfl) ?y0 hS0 ?r0
        case y0 => (intro W hSw; (try dsimp only at hSw); go_simp; first | done | with_reducible rfl)
        try simp only [Act.put, List.setIfInBounds_toArray, List.set_cons_zero, List.set_cons_succ]
        refine AnyX.takeP (i := 1) (v := ?v1) (by simp only [List.getElem?_toArray, List.getElem?_cons_zero, List.getElem?_cons_succ]; rfl) (by kernel_rfl) (by kernel_rfl) (by kernel_rfl) (by kernel_rfl) (fun _ _ _ h => h) (by rfl) ?y1 hS0 ?r1
        case y1 => (intro W; go_simp; first | done | with_reducible rfl)
        try simp only [Act.put, List.setIfInBounds_toArray, List.set_cons_zero, List.set_cons_succ]
        refine AnyX.takeP (i := 2) (v := ?v2) (by simp only [List.getElem?_toArray, List.getElem?_cons_zero, List.getElem?_cons_succ]; rfl) (by kernel_rfl) (by kernel_rfl) (by kernel_rfl) (by kernel_rfl) (fun _ _ _ h => h) (by rfl) ?y2 hS0 ?r2
        case y2 => (intro W; go_simp; first | done | with_reducible rfl)
        try simp only [Act.put, List.setIfInBounds_toArray, List.set_cons_zero, List.set_cons_succ]
        refine AnyX.takeP (i := 3) (v := ?v3) (by simp only [List.getElem?_toArray, List.getElem?_cons_zero, List.getElem?_cons_succ]; rfl) (by kernel_rfl) (by kernel_rfl) (by kernel_rfl) (by kernel_rfl) (fun _ _ _ h => h) (by rfl) ?y3 hS0 ?r3
        case y3 => (intro W; go_simp; first | done | with_reducible rfl)
        try simp only [Act.put, List.setIfInBounds_toArray, List.set_cons_zero, List.set_cons_succ]
        refine AnyX.takeL (i := 4) (v := ?v4) (by simp only [List.getElem?_toArray, List.getElem?_cons_zero, List.getElem?_cons_succ]; rfl) (by kernel_rfl) (by kernel_rfl) (by kernel_rfl) (by kernel_rfl) (by kernel_rfl) (fun _ _ _ h => h) (by rfl) ?y4 hS0 ?r4
        case y4 => (intro W hSw; (try dsimp only at hSw); go_simp; first | done | with_reducible rfl)
        try simp only [Act.put, List.setIfInBounds_toArray, List.set_cons_zero, List.set_cons_succ]
        refine AnyX.takeP (i := 5) (v := ?v5) (by simp only [List.getElem?_toArray, List.getElem?_cons_zero, List.getElem?_cons_succ]; rfl) (by kernel_rfl) (by kernel_rfl) (by kernel_rfl) (by kernel_rfl) (fun _ _ _ h => h) (by rfl) ?y5 hS0 ?r5
        case y5 => (intro W; go_simp; first | done | with_reducible rfl)
        try simp only [Act.put, List.setIfInBounds_toArray, List.set_cons_zero, List.set_cons_succ]
        refine AnyX.takeP (i := 6) (v := ?v6) (by simp only [List.getElem?_toArray, List.getElem?_cons_zero, List.getElem?_cons_succ]; rfl) (by kernel_rfl) (by kernel_rfl) (by kernel_rfl) (by kernel_rfl) (fun _ _ _ h => h) (by rfl) ?y6 hS0 ?r6
        case y6 => (intro W; go_simp; first | done | with_reducible rfl)
        try simp only [Act.put, List.setIfInBounds_toArray, List.set_cons_zero, List.set_cons_succ]
        refine AnyX.takeL (i := 7) (v := ?v7) (by simp only [List.getElem?_toArray, List.getElem?_cons_zero, List.getElem?_cons_succ]; rfl) (by kernel_rfl) (by kernel_rfl) (by kernel_rfl) (by kernel_rfl) (by kernel_rfl) (fun _ _ _ h => h) (by rfl) ?y7 hS0 ?r7
        case y7 => (intro W hSw; (try dsimp only at hSw); go_simp; first | done | with_reducible rfl)
        try simp only [Act.put, List.setIfInBounds_toArray, List.set_cons_zero, List.set_cons_succ]
        refine AnyX.takeP (i := 8) (v := ?v8) (by simp only [List.getElem?_toArray, List.getElem?_cons_zero, List.getElem?_cons_succ]; rfl) (by kernel_rfl) (by kernel_rfl) (by kernel_rfl) (by kernel_rfl) (fun _ _ _ h => h) (by rfl) ?y8 hS0 ?r8
        case y8 => (intro W; go_simp; first | done | with_reducible rfl)
        try simp only [Act.put, List.setIfInBounds_toArray, List.set_cons_zero, List.set_cons_succ]
        refine AnyX.takeP (i := 9) (v := ?v9) (by simp only [List.getElem?_toArray, List.getElem?_cons_zero, List.getElem?_cons_succ]; rfl) (by kernel_rfl) (by kernel_rfl) (by kernel_rfl) (by kernel_rfl) (fun _ _ _ h => h) (by rfl) ?y9 hS0 ?r9
        case y9 => (intro W; go_simp; first | done | with_reducible rfl)
        try simp only [Act.put, List.setIfInBounds_toArray, List.set_cons_zero, List.set_cons_succ]
        refine AnyX.takeP (i := 10) (v := ?v10) (by simp only [List.getElem?_toArray, List.getElem?_cons_zero, List.getElem?_cons_succ]; rfl) (by kernel_rfl) (by kernel_rfl) (by kernel_rfl) (by kernel_rfl) (fun _ _ _ h => h) (by rfl) ?y10 hS0 ?r10
        case y10 => (intro W; go_simp; first | done | with_reducible rfl)
        try simp only [Act.put, List.setIfInBounds_toArray, List.set_cons_zero, List.set_cons_succ]
        refine AnyX.takeP (i := 11) (v := ?v11) (by simp only [List.getElem?_toArray, List.getElem?_cons_zero, List.getElem?_cons_succ]; rfl) (by kernel_rfl) (by kernel_rfl) (by kernel_rfl) (by kernel_rfl) (fun _ _ _ h => h) (by rfl) ?y11 hS0 ?r11
        case y11 => (intro W; go_simp; first | done | with_reducible rfl)
        try simp only [Act.put, List.setIfInBounds_toArray, List.set_cons_zero, List.set_cons_succ]
        refine AnyX.takeP (i := 12) (v := ?v12) (by simp only [List.getElem?_toArray, List.getElem?_cons_zero, List.getElem?_cons_succ]; rfl) (by kernel_rfl) (by kernel_rfl) (by kernel_rfl) (by kernel_rfl) (fun _ _ _ h => h) (by rfl) ?y12 hS0 ?r12
        case y12 => (intro W; go_simp; first | done | with_reducible rfl)
        try simp only [Act.put, List.setIfInBounds_toArray, List.set_cons_zero, List.set_cons_succ]
        refine AnyX.next (rs := [13, 17]) (by kernel_rfl) (by simp) ?_
        refine NextX.cons (i := 13) (by simp only [List.getElem?_toArray, List.getElem?_cons_zero, List.getElem?_cons_succ]; rfl) (fun Kc hK => ?_) (NextX.cons (i := 17) (by simp only [List.getElem?_toArray, List.getElem?_cons_zero, List.getElem?_cons_succ]; rfl) (fun Kc hK => ?_) NextX.nil)
        · go_simp
          go_at_call 51
          refine (Crash_any _ A K q _ (by exact (HALL.out _ (by go_grown)).1)).mono ?_
          rw [HTR.out]
          rintro e w3 ⟨v3, rfl, hr3, hb3, hn3⟩
          simp only [dsk, flt]
          obtain ⟨ao3, cap3, hv3, _, _⟩ := hr3.shape
          rw [bc_length, HLQ.out] at hv3
          subst hv3
          have hbr3 : Below wr.heap.size wr w3 := Below.trans (by go_grown) (hb3.mono (by simp))
          have hz3 := hbr3.size
          have hS3 := HKEEP.out _ hbr3
          have k0 := (HALL.out _ hbr3).2.cell 0
          have k1 := (HALL.out _ hbr3).2.cell 1
          have k2 := (HALL.out _ hbr3).2.frozen 0
          have k3 := (HALL.out _ hbr3).2.frozen 1
          have k4 := (HALL.out _ hbr3).2.lt
          simp at k0 k1
          have hn5 : New wr.heap.size (.slice ao3 (K + q) cap3) := hn3.mono (by simp)
          go_wp2_with fail
          refine hK.out _ _ (fun _ => hS3) ?_
          clear hK Kc
          try simp only [Act.put, List.setIfInBounds_toArray, List.set_cons_zero, List.set_cons_succ]
          refine AnyX.takeP (i := 14) (v := ?v14) (by simp only [List.getElem?_toArray, List.getElem?_cons_zero, List.getElem?_cons_succ]; rfl) (by kernel_rfl) (by kernel_rfl) (by kernel_rfl) (by kernel_rfl) (fun _ _ _ h => h) (by rfl) ?y14 hS3 ?r14
          case y14 => (intro W; go_simp; first | done | with_reducible rfl)
          try simp only [Act.put, List.setIfInBounds_toArray, List.set_cons_zero, List.set_cons_succ]
          refine AnyX.takeP (i := 15) (v := ?v15) (by simp only [List.getElem?_toArray, List.getElem?_cons_zero, List.getElem?_cons_succ]; rfl) (by kernel_rfl) (by kernel_rfl) (by kernel_rfl) (by kernel_rfl) (fun _ _ _ h => h) (by rfl) ?y15 hS3 ?r15
          case y15 => (intro W; go_simp; first | done | with_reducible rfl)
          try simp only [Act.put, List.setIfInBounds_toArray, List.set_cons_zero, List.set_cons_succ]
          refine AnyX.takeP (i := 16) (v := ?v16) (by simp only [List.getElem?_toArray, List.getElem?_cons_zero, List.getElem?_cons_succ]; rfl) (by kernel_rfl) (by kernel_rfl) (by kernel_rfl) (by kernel_rfl) (fun _ _ _ h => h) (by rfl) ?y16 hS3 ?r16
          case y16 => (intro W; go_simp; first | done | with_reducible rfl)
          try simp only [Act.put, List.setIfInBounds_toArray, List.set_cons_zero, List.set_cons_succ]
          refine AnyX.next (rs := [17]) (by kernel_rfl) (by simp) ?_
          refine NextX.cons (i := 17) (by simp only [List.getElem?_toArray, List.getElem?_cons_zero, List.getElem?_cons_succ]; rfl) (fun Kc hK => ?_) NextX.nil
          go_simp
          refine hK.out _ _ (fun _ => HKEEP.out _ (hbr3.alloc hz3 _)) ?_
          clear hK Kc
          try simp only [Act.put, List.setIfInBounds_toArray, List.set_cons_zero, List.set_cons_succ]
          refine AnyX.next (rs := [18]) (by kernel_rfl) (by simp) ?_
          refine NextX.cons (i := 18) (by simp only [List.getElem?_toArray, List.getElem?_cons_zero, List.getElem?_cons_succ]; rfl) (fun Kc hK => ?_) NextX.nil
          go_simp
          refine hK.out _ _ (past (by kernel_rfl)) ?_
          clear hK Kc
          try simp only [Act.put, List.setIfInBounds_toArray, List.set_cons_zero, List.set_cons_succ]
          refine AnyX.next (rs := [19]) (by kernel_rfl) (by simp) ?_
          refine NextX.cons (i := 19) (by simp only [List.getElem?_toArray, List.getElem?_cons_zero, List.getElem?_cons_succ]; rfl) (fun Kc hK => ?_) NextX.nil
          go_simp
          refine hK.out _ _ (past (by kernel_rfl)) ?_
          clear hK Kc
          try simp only [Act.put, List.setIfInBounds_toArray, List.set_cons_zero, List.set_cons_succ]
          refine AnyX.done (by kernel_rfl) ?_ _
          refine NoPanic.normal ?_
          go_wp2_with fail
          go_meet
          case rel => exact ⟨_, rfl, crB HOWN.out hbr3 HD.out HBEL.out hr3 HLQ.out.symm hn5⟩
        · go_simp
          refine hK.out _ _ (fun _ => HKEEP.out _ (by go_grown)) ?_
          clear hK Kc
          try simp only [Act.put, List.setIfInBounds_toArray, List.set_cons_zero, List.set_cons_succ]
          refine AnyX.next (rs := [13]) (by kernel_rfl) (by simp) ?_
          refine NextX.cons (i := 13) (by simp only [List.getElem?_toArray, List.getElem?_cons_zero, List.getElem?_cons_succ]; rfl) (fun Kc hK => ?_) NextX.nil
          go_simp
          go_at_call 51
          refine (Crash_any _ A K q _ (by exact (HALL.out _ (by go_grown)).1)).mono ?_
          rw [HTR.out]
          rintro e w3 ⟨v3, rfl, hr3, hb3, hn3⟩
          simp only [dsk, flt]
          obtain ⟨ao3, cap3, hv3, _, _⟩ := hr3.shape
          rw [bc_length, HLQ.out] at hv3
          subst hv3
          have hbr3 : Below wr.heap.size wr w3 := Below.trans (by go_grown) (hb3.mono (by simp))
          have hz3 := hbr3.size
          have hS3 := HKEEP.out _ hbr3
          have k0 := (HALL.out _ hbr3).2.cell 0
          have k1 := (HALL.out _ hbr3).2.cell 1
          have k2 := (HALL.out _ hbr3).2.frozen 0
          have k3 := (HALL.out _ hbr3).2.frozen 1
          have k4 := (HALL.out _ hbr3).2.lt
          simp at k0 k1
          have tF := Bk.below (w := (wr.alloc (.cells #[.int .i64 0, .int .i64 0] 28)).drew) (by exact (show Bk (wr.alloc (.cells #[.int .i64 0, .int .i64 0] 28)) wr.heap.size 28 #[.int .i64 0, .int .i64 0] from Bk.new _ _ _)) hb3 (by simp)
          have hn4 : New (wr.heap.size + 1) (.slice ao3 (K + q) cap3) := hn3.mono (by simp)
          have t0 := tF.cell 0
          have t1 := tF.cell 1
          have t2 := tF.frozen 0
          have t3 := tF.frozen 1
          have t4 := tF.lt
          simp at t0 t1
          go_wp2_with fail
          refine hK.out _ _ (fun _ => hS3) ?_
          clear hK Kc
          try simp only [Act.put, List.setIfInBounds_toArray, List.set_cons_zero, List.set_cons_succ]
          refine AnyX.takeP (i := 14) (v := ?vb14) (by simp only [List.getElem?_toArray, List.getElem?_cons_zero, List.getElem?_cons_succ]; rfl) (by kernel_rfl) (by kernel_rfl) (by kernel_rfl) (by kernel_rfl) (fun _ _ _ h => h) (by rfl) ?yb14 hS3 ?rb14
          case yb14 => (intro W; go_simp; first | done | with_reducible rfl)
          try simp only [Act.put, List.setIfInBounds_toArray, List.set_cons_zero, List.set_cons_succ]
          refine AnyX.takeP (i := 15) (v := ?vb15) (by simp only [List.getElem?_toArray, List.getElem?_cons_zero, List.getElem?_cons_succ]; rfl) (by kernel_rfl) (by kernel_rfl) (by kernel_rfl) (by kernel_rfl) (fun _ _ _ h => h) (by rfl) ?yb15 hS3 ?rb15
          case yb15 => (intro W; go_simp; first | done | with_reducible rfl)
          try simp only [Act.put, List.setIfInBounds_toArray, List.set_cons_zero, List.set_cons_succ]
          refine AnyX.takeP (i := 16) (v := ?vb16) (by simp only [List.getElem?_toArray, List.getElem?_cons_zero, List.getElem?_cons_succ]; rfl) (by kernel_rfl) (by kernel_rfl) (by kernel_rfl) (by kernel_rfl) (fun _ _ _ h => h) (by rfl) ?yb16 hS3 ?rb16
          case yb16 => (intro W; go_simp; first | done | with_reducible rfl)
          try simp only [Act.put, List.setIfInBounds_toArray, List.set_cons_zero, List.set_cons_succ]
          refine AnyX.next (rs := [18]) (by kernel_rfl) (by simp) ?_
          refine NextX.cons (i := 18) (by simp only [List.getElem?_toArray, List.getElem?_cons_zero, List.getElem?_cons_succ]; rfl) (fun Kc hK => ?_) NextX.nil
          go_simp
          refine hK.out _ _ (past (by kernel_rfl)) ?_
          clear hK Kc
          try simp only [Act.put, List.setIfInBounds_toArray, List.set_cons_zero, List.set_cons_succ]
          refine AnyX.next (rs := [19]) (by kernel_rfl) (by simp) ?_
          refine NextX.cons (i := 19) (by simp only [List.getElem?_toArray, List.getElem?_cons_zero, List.getElem?_cons_succ]; rfl) (fun Kc hK => ?_) NextX.nil
          go_simp
          refine hK.out _ _ (past (by kernel_rfl)) ?_
          clear hK Kc
          try simp only [Act.put, List.setIfInBounds_toArray, List.set_cons_zero, List.set_cons_succ]
          refine AnyX.done (by kernel_rfl) ?_ _
          refine NoPanic.normal ?_
          go_wp2_with fail
          go_meet
          case rel => exact ⟨_, rfl, crA HOWN.out hbr3 HD.out HBEL.out tF hr3 HLQ.out.symm hn4⟩
      case rest =>
        clear hD hdv hown hbel hbw hoff hdn HOWN HD HBEL HALL HTR d0 d1 dl
        obtain ⟨zF, rfl, ao3, cap3, hF, hD, hcv, hown, hzF, hoffF, hbel⟩ := hcut
        rename World => wy
        obtain ⟨j', G, hj1, hj2, hRP, hCG⟩ := HC.out.crash (by omega) HQA.out
        rw [Int.natCast_add] at hRP
        have hlk : (ns.take j').length = j' := by rw [List.length_take]; omega
        have hgl := hCG.l
        have HRP := hide hRP
        have HCG := hide hCG
        have HLK := hide hlk
        rw [HLQ.out] at hD hcv
        clear hRP hCG hlk
        have d0 := hD.cell 0
        have d1 := hD.cell 1
        have dl := hD.lt
        have f0 := hF.cell 0
        have fl := hF.lt
        simp at d0 d1 f0
        go_wp2_with fail
        refine (Replay_any _ (A.take (K + q)) ((K : Int) + (q : Int)) _ hcv).mono ?_
        rw [HRP.out]
        rintro e w3 ⟨vg, lg, rfl, hrg, hlg, hb3, hn3⟩
        simp only at hrg hlg ⊢
        obtain ⟨go, gcap, hvg, _, _⟩ := hrg.shape
        obtain ⟨lo, lcap, hlv, hl4, hl5⟩ := hlg.shape
        rw [bc_length] at hvg
        rw [HLK.out] at hlv
        subst hvg hlv
        have hD3 := hD.below hb3 hD.lt
        have hF3 := hF.below hb3 hF.lt
        have hown3 := owns_below hown hb3
        have hbel3 := hbel.trans (hb3.mono hbel.size)
        have hz3 := hb3.size
        have hoffD := off_low hown (B := w1.heap.size) (by omega)
        unfold dsk fltC
        clear hD hF hown hbel hcv hb3 d0 d1 dl f0
        have d0 := hD3.cell 0
        have d1 := hD3.cell 1
        have d2 := hD3.frozen 0
        have d3 := hD3.frozen 1
        have dl := hD3.lt
        have f0 := hF3.cell 0
        have f1 := hF3.cell 1
        have f2 := hF3.frozen 0
        have f3 := hF3.frozen 1
        have fl3 := hF3.lt
        simp at d0 d1 f0 f1
        go_upto_region 27 with fail
        have hne : w1.heap.size ≠ zF := by omega
        have hD4 := (hD3.sets (.slice go G.length gcap) (.int .i64 G.length)).far2 (C := zF) hne (.int .i64 0) (.int .i64 0)
        have hF4' := hF3.far2 (C := w1.heap.size) (fun e => hne e.symm) (.slice go G.length gcap) (.int .i64 G.length)
        have hF4 := hF4'.sets (.int .i64 0) (.int .i64 0)
        have hown4 := owns_low2 (owns_low2 hown3 hoffD (.slice go G.length gcap) (.int .i64 G.length)) hoffF (.int .i64 0) (.int .i64 0)
        have hrg4 := (hrg.new2 hn3 (C := w1.heap.size) (by omega) (.slice go G.length gcap) (.int .i64 G.length)).new2 hn3 (C := zF) (by omega) (.int .i64 0) (.int .i64 0)
        have hlg4 := (hlg.setT2 hD3 (.slice go G.length gcap) G.length).setT2 hF4' (.int .i64 0) 0
        have hbel4 := below_store2 (below_store2 hbel3 (C := w1.heap.size) (Nat.le_refl _) (.slice go G.length gcap) (.int .i64 G.length)) (C := zF) (by omega) (.int .i64 0) (.int .i64 0)
        generalize (((w3.setCell ⟨w1.heap.size, 0, none⟩ (.slice go G.length gcap)).setCell ⟨w1.heap.size, 1, none⟩ (.int .i64 G.length)).setCell ⟨zF, 0, none⟩ (.int .i64 0)).setCell ⟨zF, 1, none⟩ (.int .i64 0) = w4 at *
        have HN3 := hide (hn3.mono (B' := zF + 1) (by omega))
        clear d0 d1 d2 d3 dl f0 f1 f2 f3 fl3 hD3 hF3 hF4' hown3 hrg hlg hbel3 hn3 hoffD
        have hbw4 := hbw1.trans (hbel4.mono hsz1)
        have hNS := RdN.ofRow hown4 HP.out hbw4
        obtain ⟨ho4, ho5⟩ := hNS.cap
        have hV8 := hNS.first (hi := j') hj2
        have hlk1 : ¬ (j' : Int) < (S : Int) := by omega
        have hlk2 : ¬ (ns.length : Int) < (j' : Int) := by omega
        have f0 := hF4.cell 0
        have fl4 := hF4.lt
        simp at f0
        go_wp2_with fail
        refine (SameNotes_any _ _ (ns.take j') _ hlg4 hV8).mono ?_
        rintro e w5 ⟨rfl, hb5⟩
        have hD5 := hD4.below hb5 hD4.lt
        have hF5 := hF4.below hb5 hF4.lt
        have hrg5 := hrg4.below hb5
        have hlg5 := hlg4.below hb5
        have hbel5 := hbel4.trans (hb5.mono hbel4.size)
        clear hD4 hF4 hrg4 hlg4 hbel4 hb5 hown4 hbw4 hNS hV8 f0 fl4 hoffF
        have d0 := hD5.cell 0
        have d1 := hD5.cell 1
        have dl := hD5.lt
        simp at d0 d1
        go_wp2_with fail
        refine (oneNote_any _).mono ?_
        rintro e w6 ⟨vx, rfl, hx6, hb6, hn6⟩
        have hD6 := hD5.below hb6 hD5.lt
        have hF6 := hF5.below hb6 hF5.lt
        have hrg6 := hrg5.below hb6
        have hlg6 := hlg5.below hb6
        have hbel6 := hbel5.trans (hb6.mono hbel5.size)
        have hz6 := hb6.size
        have hzF6 := hF6.lt
        obtain ⟨xo, xcap, hxv, _, _⟩ := hx6.shape
        rw [show [cl7].length = 1 from rfl] at hxv
        subst hxv
        unfold ntA
        clear hD5 hF5 hrg5 hlg5 hbel5 hb6 d0 d1 dl
        have hfj : IntKind.i64.wrap (first + (j' : Int)) = first + (j' : Int) := by rw [IntKind.wrap_i64]; omega
        go_upto_region 31 with fail
        have hbA := below_alloc' w6 (.cells #[.int .i64 (first + (j' : Int)), .slice xo 1 xcap] 41)
        have hX := Bk.new w6 41 #[.int .i64 (first + (j' : Int)), .slice xo 1 xcap]
        generalize w6.alloc (.cells #[.int .i64 (first + (j' : Int)), .slice xo 1 xcap] 41) = w7 at *
        have hD7 := hD6.below hbA hD6.lt
        have hF7 := hF6.below hbA hF6.lt
        have hrg7 := hrg6.below hbA
        have hlg7 := hlg6.below hbA
        have hx7 := hx6.below hbA
        have hbel7 := hbel6.trans (hbA.mono hbel6.size)
        clear hD6 hF6 hrg6 hlg6 hx6 hbel6 hbA hn6 hz6
        generalize w6.heap.size = zX at *
        have d0 := hD7.cell 0
        have d1 := hD7.cell 1
        have dl := hD7.lt
        have x0 := hX.cell 0
        have x1 := hX.cell 1
        have xl := hX.lt
        simp at d0 d1 x0 x1
        go_wp2_with fail
        refine (Log_any _ _ G (G.length : Int) (first + (j' : Int)) [cl7] _ hrg7 hx7).mono ?_
        rintro e w8 ⟨ve, rfl, he, hb8, hn8⟩
        have hag := HCG.out.again (by omega) (by rw [HLK.out]; omega)
        rw [HLK.out] at hag
        have hD8 := hD7.below hb8 hD7.lt
        have hF8 := hF7.below hb8 hF7.lt
        have hX8 := hX.below hb8 hX.lt
        have hlg8 := hlg7.below hb8
        have hx8 := hx7.below hb8
        have hbel8 := hbel7.trans (hb8.mono hbel7.size)
        have hbw8 := hbw1.trans (hbel8.mono hsz1)
        have hz8 := hb8.size
        clear hD7 hF7 hX hrg7 hlg7 hx7 hbel7 hb8 d0 d1 dl x0 x1
        have d0 := hD8.cell 0
        have d1 := hD8.cell 1
        have d2 := hD8.frozen 0
        have d3 := hD8.frozen 1
        have dl := hD8.lt
        have f0 := hF8.cell 0
        have f1 := hF8.cell 1
        have f2 := hF8.frozen 0
        have f3 := hF8.frozen 1
        have fl8 := hF8.lt
        simp at d0 d1 f0 f1
        rcases hag with hag | ⟨A2, hag, hC2⟩
        · rw [hag] at he ⊢
          simp only at he ⊢
          obtain ⟨eo, ecap, hve, _, _⟩ := he.shape
          rw [bc_length, show ([] : List UInt8).length = 0 from rfl] at hve
          subst hve
          unfold dsk fltC
          clear hag
          go_wp2_with fail
          go_ret
          exact ⟨rfl, below_store2 (below_store2 hbw8 (by omega) _ _) (by omega) _ _⟩
        rw [hag] at he ⊢
        simp only at he ⊢
        obtain ⟨eo, ecap, hve, _, _⟩ := he.shape
        rw [bc_length] at hve
        subst hve
        unfold dsk fltC
        have hA2 := hC2.l
        have hlx : (ns.take j' ++ [(⟨first + (j' : Int), [cl7]⟩ : Nt)]).length = j' + 1 := by rw [List.length_append, HLK.out]; rfl
        have HWH := hide (hC2.whole (by rw [hlx]; omega))
        have HLX := hide hlx
        clear hag hC2 hlx
        go_upto_region 34 with fail
        have hne : w1.heap.size ≠ zF := by omega
        have hF9' := hF8.far2 (C := w1.heap.size) (fun e => hne e.symm) (.slice eo A2.length ecap) (.int .i64 G.length)
        have hF9 := hF9'.sets (.int .i64 0) (.int .i64 0)
        have hD9 := (hD8.sets (.slice eo A2.length ecap) (.int .i64 G.length)).far2 (C := zF) hne (.int .i64 0) (.int .i64 0)
        have hX9 := (hX8.far2 (C := w1.heap.size) (by omega) (.slice eo A2.length ecap) (.int .i64 G.length)).far2 (C := zF) (by omega) (.int .i64 0) (.int .i64 0)
        have he9 := (he.new2 hn8 (C := w1.heap.size) (by omega) (.slice eo A2.length ecap) (.int .i64 G.length)).new2 hn8 (C := zF) (by omega) (.int .i64 0) (.int .i64 0)
        have hlg9 := (hlg8.setT2 hD8 (.slice eo A2.length ecap) G.length).setT2 hF9' (.int .i64 0) 0
        have hx9 := (hx8.setT2 hD8 (.slice eo A2.length ecap) (.int .i64 G.length)).setT2 hF9' (.int .i64 0) (.int .i64 0)
        have hbel9 := below_store2 (below_store2 hbel8 (C := w1.heap.size) (Nat.le_refl _) (.slice eo A2.length ecap) (.int .i64 G.length)) (C := zF) (by omega) (.int .i64 0) (.int .i64 0)
        generalize (((w8.setCell ⟨w1.heap.size, 0, none⟩ (.slice eo A2.length ecap)).setCell ⟨w1.heap.size, 1, none⟩ (.int .i64 G.length)).setCell ⟨zF, 0, none⟩ (.int .i64 0)).setCell ⟨zF, 1, none⟩ (.int .i64 0) = w9 at *
        clear hD8 hF8 hF9' hX8 he hlg8 hx8 hbel8 hbw8 hn8 d0 d1 d2 d3 dl f0 f1 f2 f3 fl8
        have d0 := hD9.cell 0
        have d1 := hD9.cell 1
        have dl := hD9.lt
        simp at d0 d1
        go_wp2_with fail
        refine (Replay_any _ A2 (G.length : Int) _ he9).mono ?_
        rw [HWH.out]
        rintro e w10 ⟨vz, lm, rfl, hz, hlm, hb10, hn10⟩
        simp only at hz hlm ⊢
        obtain ⟨zo, zcap, hvz, _, _⟩ := hz.shape
        obtain ⟨mo, mcap, hmv, _, _⟩ := hlm.shape
        rw [bc_length] at hvz
        rw [HLX.out] at hmv
        subst hvz hmv
        have hF10 := hF9.below hb10 hF9.lt
        have hX10 := hX9.below hb10 hX9.lt
        have hlg10 := hlg9.below hb10
        have hx10 := hx9.below hb10
        have hbel10 := hbel9.trans (hb10.mono hbel9.size)
        unfold dsk fltC
        clear hD9 hF9 hX9 hlg9 hx9 hbel9 he9 hb10 d0 d1 dl
        have f0 := hF10.cell 0
        have f1 := hF10.cell 1
        have f2 := hF10.frozen 0
        have f3 := hF10.frozen 1
        have fl8 := hF10.lt
        simp at f0 f1
        go_upto_region 35 with fail
        have hF11 := hF10.sets (.int .i64 0) (.int .i64 0)
        have hX11 := hX10.far2 (C := zF) (by omega) (.int .i64 0) (.int .i64 0)
        have hlg11 := hlg10.setT2 hF10 (.int .i64 0) 0
        have hlm11 := hlm.setT2 hF10 (.int .i64 0) 0
        have hx11 := hx10.setT2 hF10 (.int .i64 0) (.int .i64 0)
        have hbel11 := below_store2 hbel10 (C := zF) (by omega) (.int .i64 0) (.int .i64 0)
        generalize (w10.setCell ⟨zF, 0, none⟩ (.int .i64 0)).setCell ⟨zF, 1, none⟩ (.int .i64 0) = w11 at *
        have hbA := below_alloc' w11 (.cells #[.slice zo A2.length zcap, .int .i64 A2.length] 58)
        have hF12 := hF11.below hbA hF11.lt
        have hX12 := hX11.below hbA hX11.lt
        have hlg12 := hlg11.below hbA
        have hlm12 := hlm11.below hbA
        have hx12 := hx11.below hbA
        have hbel12 := hbel11.trans (hbA.mono hbel11.size)
        generalize w11.alloc (.cells #[.slice zo A2.length zcap, .int .i64 A2.length] 58) = w12 at *
        clear hF10 hX10 hlg10 hlm hx10 hbel10 hF11 hX11 hlg11 hlm11 hx11 hbel11 hbA hz hn10 f0 f1 f2 f3 fl8
        generalize w10.heap.size = zZ at *
        have hkeep : ∀ W, Below w12.heap.size w12 W → W.cell? ⟨zF, 0, none⟩ = some (.int .i64 0) ∧ W.cell? ⟨zX, 0, none⟩ = some (.int .i64 (first + (j' : Int))) ∧ W.cell? ⟨zX, 1, none⟩ = some (.slice xo 1 xcap) :=
          fun W h => ⟨(hF12.below h hF12.lt).cell 0, (hX12.below h hX12.lt).cell 0, (hX12.below h hX12.lt).cell 1⟩
        have HKEEP := hide hkeep
        have hrs : ∀ W, Below w12.heap.size w12 W → RdN W (.slice lo j' lcap) (ns.take j') ∧ RdN W (.slice mo (j' + 1) mcap) (ns.take j' ++ [(⟨first + (j' : Int), [cl7]⟩ : Nt)]) ∧ Below w.heap.size w W :=
          fun W h => ⟨hlg12.below h, hlm12.below h, hbw1.trans ((hbel12.trans (h.mono hbel12.size)).mono hsz1)⟩
        have HRS := hide hrs
        have HX12 := hide hx12
        have HLE := hide (show (ns.take j').length ≤ 1100 by rw [HLK.out]; omega)
        have HCE := hide (show ∀ n ∈ ns.take j', n.cells.length ≤ 1000000 from fun n hn => by
          obtain ⟨i, hi, e⟩ := List.getElem_of_mem (List.mem_of_mem_take hn)
          have h1 := HC.out.f i n (by rw [List.getElem?_eq_getElem hi, e])
          have h2 := (noteF_zero h1.1).2.2.2.2.1
          omega)
        have hl9 : j' + 1 ≤ 1000000000 := by omega
        have HL9 := hide hl9
        have fl12 := hF12.lt
        have xl12 := hX12.lt
        clear hkeep hrs hx12 hlg12 hlm12 hbel12 hF12 hX12
        go_region_held3 (fun W => W.cell? ⟨zF, 0, none⟩ = some (.int .i64 0) ∧ W.cell? ⟨zX, 0, none⟩ = some (.int .i64 (first + (j' : Int))) ∧ W.cell? ⟨zX, 1, none⟩ = some (.slice xo 1 xcap)) (exact HKEEP.out _ (by first | exact hb1215 | exact hb1214.alloc hz14 _ | go_grown)) (first
          | (go_at_call 41; have k9 := hRL; refine (SameNotes_any _ _ (ns.take j' ++ [(⟨first + (j' : Int), [cl7]⟩ : Nt)]) _ (by exact (HRS.out _ hb1215).2.1) (by exact k9)).mono ?_; rintro e w16 ⟨rfl, hb16⟩; have hb1216 := hb1215.trans (hb16.mono hb1215.size); have hz16 := hb1216.size)
          | (have k9 := ho14; refine step_append_rd2E (base := w12.heap.size) (cs := ps14) (news := [(first + (j' : Int), .slice xo 1 xcap)]) (by exact k9.alloc _) (by exact Rd2.new w14 (first + (j' : Int)) (.slice xo 1 xcap) 41 rfl) Try.underlying62 Try.infoN41 rfl (by rfl) (by rfl) (by rfl) (by rfl) (by exact HL9.out) (by decide) (by simp <;> omega) ?_; intro v15 w15 ho15 hb15 he15; have hb1215 : Below w12.heap.size w12 w15 := (hb1214.alloc hz14 _).trans hb15; have hz15 := hb1215.size; have hRL := RdN.joined1 (w := w12) (hno14.ext (Ext.alloc _ _ _)) he15 ho15 (k9.alloc _) HX12.out (hb1214.alloc hz14 _); obtain ⟨ao15, cap15, hv15⟩ := owns2_shape ho15; subst hv15)
          | (have k9 := ho14; have k8 := hR14; refine step_append_rd2E (base := w12.heap.size) (cs := ps14) (by exact k9) (by exact k8) Try.underlying62 Try.infoN41 rfl (by rfl) (by rfl) (by rfl) (by rfl) (by exact HL9.out) (by decide) (by exact hz14) ?_; intro v15 w15 ho15 hb15 he15; have hb1215 : Below w12.heap.size w12 w15 := hb1214.trans hb15; have hz15 := hb1215.size; have hRL := RdN.joined1 (w := w12) hno14 he15 ho15 k9 HX12.out hb1214; obtain ⟨ao15, cap15, hv15⟩ := owns2_shape ho15; subst hv15)
          | (go_at_call 44; refine (ownNotes_any _ (ns.take j') _ (by exact (HRS.out _ (by go_grown)).1) HLE.out HCE.out).mono ?_; rintro e w14 ⟨v14, ps14, rfl, ho14b, hno14, hb14⟩; have hb1214 : Below w12.heap.size w12 w14 := Below.trans (by go_grown) (hb14.mono (by simp)); have hz14 := hb1214.size; rw [HLK.out] at ho14b; have ho14 := owns_base' ho14b (base := w12.heap.size) (by simp); obtain ⟨ao14, cap14, hv14⟩ := owns2_shape ho14; subst hv14; clear ho14b; (first | (have hR14 := Rd2.below (w := (w12.alloc (.cells #[.int .i64 (first + (j' : Int)), .slice xo 1 xcap] 41)).drew) (by exact Rd2.new w12 (first + (j' : Int)) (.slice xo 1 xcap) 41 rfl) hb14) | skip)))
        all_goals
          go_wp2_with fail
          go_ret
          exact ⟨by simp, (HRS.out _ hb1216).2.2⟩
    obtain ⟨l, hl⟩ : ∃ l, ls[j]? = some l := ⟨_, List.getElem?_eq_getElem hlt⟩
    obtain ⟨b, off, x, hbo, hb, hck, hrx⟩ := hu.hereW hl
    subst hbo
    obtain ⟨xo, xcap, hxv, _, _⟩ := hrx.shape
    subst hxv
    have hckr : wr.cell? ⟨b, off + j, none⟩ = some (.slice xo l.length xcap) := (hbw.cell (p := ⟨b, off + j, none⟩) (by exact hb)).trans hck
    have hwr : IntKind.i64.wrap (first + (ns.length : Int)) = first + (ns.length : Int) := by rw [IntKind.wrap_i64]; omega
    have hji : (j : Int) < (ls.length : Int) := by omega
    have HU := hide hu
    have HRX := hide hrx
    clear hl hck hu hrx
    go_upto_region 12 with fail
    have hbX := below_alloc' wr (.cells #[.int .i64 (first + (ns.length : Int)), .slice xo l.length xcap] 41)
    have hX := Bk.new wr 41 #[.int .i64 (first + (ns.length : Int)), .slice xo l.length xcap]
    generalize wr.alloc (.cells #[.int .i64 (first + (ns.length : Int)), .slice xo l.length xcap] 41) = w2 at *
    have hD2 := hD.below hbX hD.lt
    have hdv2 := hdv.below hbX
    have hown2 := owns_below hown hbX
    have hbel2 := hbel.trans (hbX.mono hbel.size)
    have hbw2 := hbw.trans (hbX.mono hbw.size)
    have hzX : w1.heap.size < wr.heap.size := dl
    have hz2 := hX.lt
    clear d0 d1 dl hD hdv hown hbel hbw hbX hckr
    generalize wr.heap.size = zX at *
    have d0 := hD2.cell 0
    have d1 := hD2.cell 1
    have dl := hD2.lt
    have x0 := hX.cell 0
    have x1 := hX.cell 1
    simp at d0 d1 x0 x1
    go_wp2_with fail
    refine (Log_any _ _ A K (first + (ns.length : Int)) l _ hdv2 (HRX.out.below hbw2)).mono ?_
    rintro e w3 ⟨ve, rfl, he, hb3, hn3⟩
    have hD3 := hD2.below hb3 hD2.lt
    have hdv3 := hdv2.below hb3
    have hown3 := owns_below hown2 hb3
    have hbel3 := hbel2.trans (hb3.mono hbel2.size)
    have hbw3 := hbw2.trans (hb3.mono hbw2.size)
    have hX3 := hX.below hb3 hX.lt
    have hz3 := hb3.size
    have HO2 := hide hown2
    clear d0 d1 dl x0 x1 hD2 hdv2 hown2 hbel2 hbw2 hX hb3
    rcases HC.out.log l with hbad | ⟨A', hLG, hC'⟩
    · generalize logD A (K : Int) (first + (ns.length : Int)) l = LD at *
      obtain ⟨eb, ek, ec, ea⟩ := LD
      simp only at he hbad ⊢
      obtain ⟨eo, ecap, hve, _, _⟩ := he.shape
      rw [bc_length] at hve
      subst hve
      have hcb : (ec != 0) = true := by simp [hbad]
      unfold dsk fltC
      obtain ⟨hE, hF, hbA⟩ := two_boxesC w3 58 28 #[.slice eo eb.length ecap, .int .i64 ek] #[.int .i64 ec, .int .i64 ea]
      have HE := hide hE
      have HF := hide hF
      have HBA := hide hbA
      clear hE hF hbA
      go_upto_region 13 with fail
      generalize (w3.alloc (.cells #[.slice eo eb.length ecap, .int .i64 ek] 58)).alloc (.cells #[.int .i64 ec, .int .i64 ea] 28) = w4 at *
      have hD4 := hD3.below HBA.out hD3.lt
      have hdv4 := hdv3.below HBA.out
      have hown4 := owns_below hown3 HBA.out
      have hbel4 := hbel3.trans (HBA.out.mono hbel3.size)
      have f0 := HF.out.cell 0
      have fl := HF.out.lt
      simp at f0
      clear hD3 hdv3 hown3 hbel3
      go_wp2_with fail
      go_roundw
      case rel => exact ⟨j + 1, S, K, ns, A, ps, _, by omega, by go_num, rfl, HC.out, by omega, HP.out, hown4, hD4, hdv4, hoff, hdn, hbel4⟩
      case measure => simp [intOf]; omega
    rw [hLG] at he ⊢
    simp only at he ⊢
    have HC' := hide hC'
    have hka := hC'.l
    clear hLG hC'
    obtain ⟨eo, ecap, hve, _, _⟩ := he.shape
    rw [bc_length] at hve
    subst hve
    unfold dsk fltC
    obtain ⟨hE, hF, hbA⟩ := two_boxesC w3 58 28 #[.slice eo A'.length ecap, .int .i64 K] #[.int .i64 0, .int .i64 0]
    have HE := hide hE
    have HF := hide hF
    have HBA := hide hbA
    clear hE hF hbA
    go_upto_region 13 with fail
    generalize (w3.alloc (.cells #[.slice eo A'.length ecap, .int .i64 K] 58)).alloc (.cells #[.int .i64 0, .int .i64 0] 28) = w4 at *
    have hD4 := hD3.below HBA.out hD3.lt
    have hown4 := owns_below hown3 HBA.out
    have hbel4 := hbel3.trans (HBA.out.mono hbel3.size)
    have hX4 := hX3.below HBA.out hX3.lt
    have he4 := he.below HBA.out
    have hE4 := HE.out
    have hF4 := HF.out
    have hz4 := hF4.lt
    clear hD3 hdv3 hown3 hbel3 hX3 he hbw3 HE HF HBA
    have f0 := hF4.cell 0
    have e0 := hE4.cell 0
    have e1 := hE4.cell 1
    have el := hE4.lt
    have d0 := hD4.cell 0
    have d1 := hD4.cell 1
    have d2 := hD4.frozen 0
    have d3 := hD4.frozen 1
    have dl := hD4.lt
    simp at f0 e0 e1 d0 d1
    generalize w3.heap.size = zE at *
    go_upto_region 15 with fail
    have hoffD := off_low hown4 (B := w1.heap.size) (by omega)
    have hD5 := hD4.sets (.slice eo A'.length ecap) (.int .i64 K)
    have hX5 := hX4.far2 (C := w1.heap.size) (by omega) (.slice eo A'.length ecap) (.int .i64 K)
    have hF5 := hF4.far2 (C := w1.heap.size) (by omega) (.slice eo A'.length ecap) (.int .i64 K)
    have hown5 := owns_low2 hown4 hoffD (.slice eo A'.length ecap) (.int .i64 K)
    have he5 := he4.new2 hn3 (C := w1.heap.size) (by omega) (.slice eo A'.length ecap) (.int .i64 K)
    have hbel5 := below_store2 hbel4 (C := w1.heap.size) (Nat.le_refl _) (.slice eo A'.length ecap) (.int .i64 K)
    have hoffE : Off (.slice oo ns.length ocap) (.slice eo A'.length ecap) := Off.ofNew HO2.out hn3 (Nat.le_refl _)
    have hoffF : (Value.slice oo ns.length ocap).ownBlock ≠ some (zE + 1) := off_past HO2.out (by omega)
    generalize (w4.setCell ⟨w1.heap.size, 0, none⟩ (.slice eo A'.length ecap)).setCell ⟨w1.heap.size, 1, none⟩ (.int .i64 K) = w5 at *
    clear hD4 hX4 hF4 hE4 hown4 he4 hbel4 f0 e0 e1 el d0 d1 d2 d3 dl hoff hoffD
    have x0 := hX5.cell 0
    have x1 := hX5.cell 1
    have xl := hX5.lt
    have dl := hD5.lt
    have hb8 : w1.heap.size + 1 ≤ w5.heap.size := dl
    have hl8 : ns.length ≤ 100000000 := by omega
    simp at x0 x1
    go_upto_region 16 with (at_builtin; go_must (refine wpList_append_one2E (w := w5) (q := first + (ns.length : Int)) rfl (by exact hown5) Try.underlying62 Try.infoN41 rfl rfl rfl rfl rfl hl8 (by decide) (by exact hb8) ?_); intro v6 w6 ho6 hb6 he6)
    have hD6 := hD5.below hb6 (Nat.lt_succ_self _)
    have hF6 := hF5.ext he6 hoffF
    have hr6 := he5.ext he6 hoffE
    have hof6 := Off.ext he5 he6 hoffE
    have hoffF6 := he6.apart hF5.lt hoffF
    have hbel6 := hbel5.trans (hb6.mono (by omega))
    have hbw6 := hbw1.trans (hbel6.mono hsz1)
    obtain ⟨oo6, ocap6, hoo6⟩ := owns2_shape ho6
    subst hoo6
    have hP6 := NtP.snoc (n := ⟨first + (ns.length : Int), l⟩) HP.out HRX.out
    have hz6 := hD6.lt
    have hne : (ns ++ [(⟨first + (ns.length : Int), l⟩ : Nt)]).length = ns.length + 1 := by simp
    have HN := hide (hn3.mono (B' := w1.heap.size + 1) (by omega))
    have HP6 := hide hP6
    have HNE := hide hne
    have HOF6 := hide hof6
    clear hD5 hX5 hF5 hown5 he5 hbel5 x0 x1 xl dl hb6 he6 hoffE hoffF hP6 hne hof6 hn3
    by_cases hky : j < ys.length
    case neg =>
      have hkd : ¬ (j : Int) < (ys.length : Int) := by omega
      go_wp2_with fail
      go_roundw
      case rel => exact ⟨j + 1, S, K, _, A', _, _, by omega, by go_num, rfl, HC'.out, by rw [HNE.out]; omega, HP6.out, by rw [HNE.out]; exact ho6, hD6, hr6, HOF6.out, HN.out, hbel6⟩
      case measure => simp [intOf]; omega
    obtain ⟨kb, hkb⟩ : ∃ kb, ys[j]? = some kb := ⟨_, List.getElem?_eq_getElem hky⟩
    obtain ⟨yb, yoff, ycap', hyv, hy1, hy2, hyb, hycell⟩ := hy.pos (by rw [List.length_map]; omega)
    simp only [Value.slice.injEq] at hyv
    obtain ⟨rfl, hy3, hy4⟩ := hyv
    clear hy1 hy2 hy3 hy4
    have hyc : w6.cell? ⟨yb, yoff + j, none⟩ = some (.bool kb) := (hbw6.cell (p := ⟨yb, yoff + j, none⟩) (by exact hyb)).trans (hycell j _ (by rw [List.getElem?_map, hkb]; rfl))
    have hkd : (j : Int) < (ys.length : Int) := by omega
    clear hycell hkb
    cases kb
    · go_wp2_with fail
      go_roundw
      case rel => exact ⟨j + 1, S, K, _, A', _, _, by omega, by go_num, rfl, HC'.out, by rw [HNE.out]; omega, HP6.out, by rw [HNE.out]; exact ho6, hD6, hr6, HOF6.out, HN.out, hbel6⟩
      case measure => simp [intOf]; omega
    have d0 := hD6.cell 0
    have d1 := hD6.cell 1
    have dl := hD6.lt
    simp at d0 d1
    have HTR := hide (@trimR_all A' K HC'.out.check)
    go_wp2_with fail
    refine (Sync_any _ A' K _ hr6).mono ?_
    rw [HTR.out]
    rintro e w7 ⟨vs, rfl, hrs, hb7, hn7⟩
    simp only [dsk, flt]
    obtain ⟨so, scap, hsv, _, _⟩ := hrs.shape
    rw [bc_length] at hsv
    subst hsv
    have hD7 := hD6.below hb7 hD6.lt
    have hF7 := hF6.below hb7 hF6.lt
    have ho7 := owns_below ho6 hb7
    have hbel7 := hbel6.trans (hb7.mono hbel6.size)
    have hz7 := hb7.size
    have HOF7 : Hid (Off (.slice oo6 (ns.length + 1) ocap6) (.slice so A'.length scap)) := hide (Off.ofNew ho6 hn7 (Nat.le_refl _))
    have hoffD := off_low ho6 (B := w1.heap.size) (by omega)
    have hzF := hF6.lt
    have f0 := hF7.cell 0
    have f1 := hF7.cell 1
    have f2 := hF7.frozen 0
    have f3 := hF7.frozen 1
    have fl := hF7.lt
    clear d0 d1 dl hD6 hF6 ho6 hbel6 hr6 hbw6 hyc hb7
    have d0 := hD7.cell 0
    have d1 := hD7.cell 1
    have d2 := hD7.frozen 0
    have d3 := hD7.frozen 1
    have dl := hD7.lt
    simp at f0 f1 d0 d1
    go_upto_region 18 with fail
    have hD8 := (hD7.sets (.slice so A'.length scap) (.int .i64 A'.length)).far2 (C := zE + 1) (by omega) (.int .i64 0) (.int .i64 0)
    have hF8 := (hF7.far2 (C := w1.heap.size) (by omega) (.slice so A'.length scap) (.int .i64 A'.length)).sets (.int .i64 0) (.int .i64 0)
    have ho8 := owns_low2 (owns_low2 ho7 hoffD (.slice so A'.length scap) (.int .i64 A'.length)) hoffF6 (.int .i64 0) (.int .i64 0)
    have hr8 := (hrs.new2 hn7 (C := w1.heap.size) (by omega) (.slice so A'.length scap) (.int .i64 A'.length)).new2 hn7 (C := zE + 1) (by omega) (.int .i64 0) (.int .i64 0)
    have hbel8 := below_store2 (below_store2 hbel7 (C := w1.heap.size) (Nat.le_refl _) (.slice so A'.length scap) (.int .i64 A'.length)) (C := zE + 1) (by omega) (.int .i64 0) (.int .i64 0)
    generalize (((w7.setCell ⟨w1.heap.size, 0, none⟩ (.slice so A'.length scap)).setCell ⟨w1.heap.size, 1, none⟩ (.int .i64 A'.length)).setCell ⟨zE + 1, 0, none⟩ (.int .i64 0)).setCell ⟨zE + 1, 1, none⟩ (.int .i64 0) = w8 at *
    have HN7 := hide (hn7.mono (B' := w1.heap.size + 1) (by omega))
    clear d0 d1 d2 d3 dl f0 f1 f2 f3 fl hD7 hF7 ho7 hrs hbel7 hoffF6 hoffD
    have f0 := hF8.cell 0
    have fl := hF8.lt
    simp at f0
    go_wp2_with fail
    go_roundw
    case rel => exact ⟨j + 1, _, A'.length, _, A', _, _, by omega, by go_num, by rw [HNE.out]; simp, HC'.out.sync, by rw [HNE.out]; omega, HP6.out, by rw [HNE.out]; exact ho8, hD8, hr8, HOF7.out, HN7.out, hbel8⟩
    case measure => simp [intOf]; omega

end Go.Proofs.Ytdodajalejfbiad
