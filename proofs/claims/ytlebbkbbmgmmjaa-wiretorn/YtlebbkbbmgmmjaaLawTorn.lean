/-
  The law WireTorn: its walk.
-/
import Derived.Test.YtlebbkbbmgmmjaaRefB
namespace Go.Proofs.Ytlebbkbbmgmmjaa
open Go.RowKit

theorem owns_pos {w : World} {base : Nat} {e : TypeId} {v : Value} {n : Nat} {xs : List Value} (h : w.ownsRow base e 1 v n xs) (hp : 0 < n) : ∃ g cap, v = .slice (some ⟨g, 0, none⟩) n cap ∧ base ≤ g ∧ n ≤ cap ∧ cap ≤ maxLen := by
  rcases h.2 with ⟨rfl, hn⟩ | ⟨g, cap, cur, rfl, hb, _, hnc, hcm, _⟩
  · omega
  · exact ⟨g, cap, rfl, hb, hnc, hcm⟩

theorem bc_set (l : List UInt8) (j : Nat) (t : UInt8) : (bc l).set j (.int .u8 (t.toNat : Int)) = bc (l.set j t) := by simp [bc, List.map_set]

set_option maxRecDepth 100000 in
set_option maxHeartbeats 2000000 in
theorem wireTorn_any (u : Value) (cut i tb : Int) (l : List (List UInt8)) (w : World) (h1 : RdB w u l) (hcut : -9223372036854775808 ≤ cut ∧ cut ≤ 9223372036854775807) (hi : -9223372036854775808 ≤ i ∧ i ≤ 9223372036854775807) (htb : 0 ≤ tb ∧ tb ≤ 255)
    (hss : ∀ s ∈ l, s.length ≤ 140737488351232) :
    Calls Try.prog 7 #[u, .int .i64 cut, .int .i64 i, .int .u8 tb] w fun e w' => e = .returned (.bool true) ∧ Below w.heap.size w w' := by
  obtain ⟨ao, cap, hu, hc1, hc2, hcell⟩ := h1.open
  subst hu
  unfold maxLen at hc2
  have HSS := hide hss
  have HCU := hide hcut
  have HI := hide hi
  clear hss hcut hi
  go_enter Try.func7, Try.ntmps7
  go_wp2_with fail
  refine (wireBegun_any _).mono ?_
  rintro e w1 ⟨rfl, hbw1⟩
  have hsz1 := hbw1.size
  by_cases hg1 : 200 < l.length
  · go_wp2_with fail
    go_ret
    exact ⟨rfl, hbw1⟩
  go_wp2_with fail
  refine (Frames_any _ l _ (h1.below hbw1) HSS.out).mono ?_
  rintro e w2 ⟨v2, rfl, hr2, hb2, hn2⟩
  have hbw2 : Below w.heap.size w w2 := hbw1.trans (hb2.mono hsz1)
  have hsz2 := hbw2.size
  have hz := @framesR_zero l
  generalize framesR l = N at *
  obtain ⟨nb, nc, na⟩ := N
  have HZ := hide hz
  clear hz
  simp only [flt] at hr2 ⊢
  obtain ⟨bo, bcap, hbv, hbl1, hbl2, hbcell⟩ := hr2.open
  rw [bc_length] at hbv hbl1 hbcell
  subst hbv
  unfold maxLen at hbl2
  by_cases hnc : nc = 0
  case neg =>
    have hncb : (nc != 0) = true := by simp [hnc]
    clear hnc
    go_wp2_with fail
    go_ret
    exact ⟨rfl, by go_grown⟩
  have hncb : (nc != 0) = false := by simp [hnc]
  obtain ⟨hl1, hl2, heq⟩ := HZ.out hnc
  simp only [Prod.mk.injEq] at heq
  obtain ⟨rfl, rfl, rfl⟩ := heq
  clear hnc HZ
  by_cases hcneg : cut < 0
  · go_wp2_with fail
    go_ret
    exact ⟨rfl, by go_grown⟩
  obtain ⟨c, rfl⟩ := Int.eq_ofNat_of_zero_le (show 0 ≤ cut by omega)
  by_cases hcbig : (flatF l).length < c
  · go_wp2_with fail
    go_ret
    exact ⟨rfl, by go_grown⟩
  have hF0 := Fb.new w2 0 0
  have hbA : Below w2.heap.size w2 (w2.alloc (.cells #[.int .i64 0, .int .i64 0] 26)) := (Below.refl _ _).alloc (Nat.le_refl _) _
  have hbwA := hbw2.trans (hbA.mono hsz2)
  have hrA := hr2.below hbA
  have hlA := h1.below hbwA
  have hrlt := hr2.lt
  go_upto_block 0 with fail
  generalize w2.alloc (.cells #[.int .i64 0, .int .i64 0] 26) = wA at *
  go_cut [11, 12] (fun a b wc => wc = wA ∧ ∃ k : Nat, k ≤ l.length ∧ a = .int .i64 k ∧ b = .int .i64 ((flatF (l.take k)).length : Nat) ∧ (flatF (l.take k)).length ≤ c ∧ ∀ h : k < l.length, c < (flatF (l.take k)).length + l[k].length + 6)
  case first =>
    go_wp2_with fail
    go_loop [11, 12] (fun a b => ∃ k : Nat, k ≤ l.length ∧ a = .int .i64 k ∧ b = .int .i64 ((flatF (l.take k)).length : Nat) ∧ (flatF (l.take k)).length ≤ c) (fun a _ => l.length - (intOf a).toNat)
    case atStart => exact ⟨0, by omega, rfl, rfl, by simp [flatF]⟩
    case round =>
      obtain ⟨k, hk, rfl, rfl, hkc⟩ := hrel
      by_cases hlt : k < l.length
      · obtain ⟨b, off, y, rfl, hb, hck, hry⟩ := hcell k hlt
        have hckA : wA.cell? ⟨b, off + k, none⟩ = some y := cell_below hck (hbwA)
        have hs0 := HSS.out l[k] (List.getElem_mem hlt)
        have hsn := flatF_snoc l k hlt
        have hsl := congrArg List.length hsn
        rw [List.length_append, framed_length] at hsl
        obtain ⟨yo, ycap, hy, _, _, _⟩ := hry.open
        rw [bc_length] at hy
        subst hy
        have hend : ∀ h : k < l.length, l[k].length = l[k].length := fun _ => rfl
        clear hcell hck
        have HSL := hide hsl
        clear hsl hsn
        obtain ⟨z, hz⟩ : ∃ z, l[k].length = z := ⟨_, rfl⟩
        rw [hz] at hckA hs0
        have HZ := hide hz
        clear hz hend
        generalize hN : (flatF (l.take k)).length = n0 at *
        have HN := hide hN
        clear hN
        by_cases hfit : (n0 : Int) + z + 6 ≤ c
        · go_wp2_with fail
          go_round
          case rel => exact ⟨k + 1, by omega, by go_num, by rw [HSL.out, HZ.out]; go_num, by rw [HSL.out, HZ.out]; omega⟩
          case measure => simp [intOf]; omega
        · go_wp2_with fail
          go_meet
          case rel => exact ⟨rfl, k, by omega, rfl, by rw [HN.out], by rw [HN.out]; omega, fun _ => by rw [HN.out, HZ.out]; omega⟩
      · go_wp2_with fail
        go_meet
        case rel => exact ⟨rfl, k, by omega, rfl, rfl, hkc, fun h => absurd h hlt⟩
  case rest =>
    obtain ⟨rfl, k, hk, rfl, rfl, hkc, hend⟩ := hcut
    have hopen := torn_cut l c k (by omega) hl2 (by omega) hk hkc hend
    have HEND := hide hend
    have HOP := hide hopen
    clear hend hopen
    have hsl := run_slice_upto (P := Try.prog) Try.underlying23 (by kernel_rfl) Try.info5 bo (flatF l).length bcap c c rfl (by omega)
    have hV := hrA.upto (hi := c) (by omega)
    rw [bc_take] at hV
    generalize sliced bo 0 c bcap 1 = V at hV hsl
    go_wp2_with fail
    refine (Open_any _ _ _ hV).mono ?_
    rintro e w3 ⟨v3, rfl, hr3, hb3⟩
    rw [HOP.out] at hr3 ⊢
    simp only [flt] at hr3 ⊢
    have hF3 := hF0.below hb3
    have hFs := hF0.facts.2.2.2.2
    obtain ⟨f0, f1, g0, g1, gs⟩ := hF3.facts
    have hbw3 := hbwA.trans (hb3.mono hbwA.size)
    have hsz3 := hbw3.size
    have hr23 := hrA.below hb3
    have hsl2 := run_slice_upto (P := Try.prog) Try.underlying50 (by kernel_rfl) Try.info23 ao l.length cap k k rfl (by omega)
    have hbS : Below w.heap.size w ((w3.setCell ⟨w2.heap.size, 0, none⟩ (.int .i64 0)).setCell ⟨w2.heap.size, 1, none⟩ (.int .i64 0)) := (hbw3.setCell (p := ⟨w2.heap.size, 0, none⟩) hsz2 _).setCell (p := ⟨w2.heap.size, 1, none⟩) hsz2 _
    have hV2 := (h1.below hbS).upto (hi := k) hk
    generalize sliced ao 0 k cap 1 = V2 at hV2 hsl2
    have hrS := (hr3.set (p := ⟨w2.heap.size, 0, none⟩) hFs (.int .i64 0)).set (p := ⟨w2.heap.size, 1, none⟩) hFs (.int .i64 0)
    have hFS := hF3.set 0 0
    have hr2S : Rd ((w3.setCell ⟨w2.heap.size, 0, none⟩ (.int .i64 0)).setCell ⟨w2.heap.size, 1, none⟩ (.int .i64 0)) (.slice bo (flatF l).length bcap) (bc (flatF l)) := Rd.setOld hr2 (Rd.setOld hr2 hr23 (p := ⟨w2.heap.size, 0, none⟩) (Nat.le_refl _) _) (p := ⟨w2.heap.size, 1, none⟩) (Nat.le_refl _) _
    go_upto_if 90 with (go_at_call 32; go_must (refine (SameBodies_any _ _ (l.take k) (l.take k) _ hrS.toB hV2).mono ?_; rintro e w4 ⟨rfl, q4, rfl⟩; rw [beq_self_eq_true]))
    have hbG := below_drewN hbS q4
    have hFG : Fb (((w3.setCell ⟨w2.heap.size, 0, none⟩ (.int .i64 0)).setCell ⟨w2.heap.size, 1, none⟩ (.int .i64 0)).drewN q4) w2.heap.size 0 0 := hFS
    have hr2G := hr2S.drewN q4
    generalize ((w3.setCell ⟨w2.heap.size, 0, none⟩ (.int .i64 0)).setCell ⟨w2.heap.size, 1, none⟩ (.int .i64 0)).drewN q4 = wG at *
    clear hrS hFS hr2S hV2 hsl2 hbS hr23 hsz3 hbw3 f0 f1 g0 g1 gs hF3 hb3 hr3 hV hsl HOP HEND hF0 hbA hbwA hrA hlA hkc hk HCU hcneg hcbig hrlt hr2 hFs
    obtain ⟨f0, f1, g0, g1, gs⟩ := hFG.facts
    have hszG := hbG.size
    obtain ⟨t, ht⟩ : ∃ t : UInt8, tb = (t.toNat : Int) := ⟨UInt8.ofNat tb.toNat, by rw [u8_ofNat_toNat _ (by omega)]; omega⟩
    subst ht
    by_cases hineg : i < 0
    · go_wp2_with fail
      go_ret
      exact ⟨rfl, hbG⟩
    obtain ⟨j, rfl⟩ := Int.eq_ofNat_of_zero_le (show 0 ≤ i by omega)
    by_cases hibig : (flatF l).length ≤ j
    · go_wp2_with fail
      go_ret
      exact ⟨rfl, hbG⟩
    have hjl : j < (flatF l).length := by omega
    obtain ⟨b, off, bcap', hbv, _, _, hbb, hbc⟩ := hr2G.pos (by rw [bc_length]; omega)
    rw [bc_length] at hbv
    simp only [Value.slice.injEq] at hbv
    obtain ⟨rfl, _, rfl⟩ := hbv
    obtain ⟨x, hx⟩ : ∃ x, (flatF l)[j]? = some x := ⟨_, List.getElem?_eq_getElem hjl⟩
    have hcj : wG.cell? ⟨b, off + j, none⟩ = some (.int .u8 (x.toNat : Int)) := hbc j _ (by simp [bc, hx])
    have HX := hide hx
    clear hx hbc hbcell
    by_cases hxt : x = t
    · have hxb : ((x.toNat : Int) == (t.toNat : Int)) = true := by simp [hxt]
      clear hxt
      go_wp2_with fail
      go_ret
      exact ⟨rfl, hbG⟩
    have hxb : ((x.toNat : Int) == (t.toNat : Int)) = false := beq_eq_false_iff_ne.2 (fun e => hxt (UInt8.toNat_inj.1 (by omega)))
    have HXT := hide hxt
    clear hxt
    go_wp2_with fail
    go_loop [15, 16] (fun a b => ∃ k : Nat, k < l.length ∧ a = .int .i64 k ∧ b = .int .i64 ((flatF (l.take k)).length : Nat) ∧ (flatF (l.take k)).length ≤ j) (fun a _ => l.length - (intOf a).toNat)
    case atStart =>
      refine ⟨0, ?_, rfl, rfl, by simp [flatF]⟩
      rcases l with _ | ⟨b0, l⟩
      · simp [flatF] at hjl
      · simp
    case round =>
      obtain ⟨m, hm, rfl, rfl, hmj⟩ := hrel
      obtain ⟨b1, off1, y, rfl, hb1, hck, hry⟩ := hcell m hm
      have hckG : wG.cell? ⟨b1, off1 + m, none⟩ = some y := cell_below hck hbG
      have hs0 := HSS.out l[m] (List.getElem_mem hm)
      have hsn := flatF_snoc l m hm
      have hsl := congrArg List.length hsn
      rw [List.length_append, framed_length] at hsl
      obtain ⟨yo, ycap, hy, _, _, _⟩ := hry.open
      rw [bc_length] at hy
      subst hy
      obtain ⟨z, hz⟩ : ∃ z, l[m].length = z := ⟨_, rfl⟩
      have hset := fun h2 h3 hne => torn_set l j m t (by omega) hl2 hm h2 h3 hne
      rw [hz] at hckG hs0 hsl hset
      have hmn : m + 1 = l.length → (flatF l).length = (flatF (l.take (m + 1))).length := fun e => by rw [e, List.take_length]
      have HMN := hide hmn
      have HSL := hide hsl
      have HST := hide hset
      clear hcell hck hsl hsn hz hset hmn
      generalize hN : (flatF (l.take m)).length = n0 at *
      have HN := hide hN
      clear hN
      by_cases hfit : (n0 : Int) + z + 6 ≤ j
      · go_wp2_with fail
        go_round
        case rel =>
          refine ⟨m + 1, ?_, by go_num, by rw [HSL.out]; go_num, by rw [HSL.out]; omega⟩
          by_cases e : m + 1 = l.length
          · have := HMN.out e; have := HSL.out; omega
          · omega
        case measure => simp [intOf]; omega
      · by_cases hhead : j < n0 + 2
        · go_wp2_with fail
          go_ret
          exact ⟨rfl, hbG⟩
        · have hopen := HST.out (by omega) (by omega) (by rw [HX.out]; intro e; exact HXT.out (Option.some.inj e))
          have HOP := hide hopen
          clear hopen
          go_wp2_with fail
          refine (ownBytesO_any _ (flatF l) _ hr2G (by omega)).mono ?_
          rintro e w5 ⟨v5, rfl, ho5, hb5⟩
          obtain ⟨g, cap5, hv5, hg5, hn5, hm5⟩ := owns_pos ho5 (by omega)
          subst hv5
          unfold maxLen at hm5
          have hc5 := ho5.cellAt j (by omega)
          have hz5 := ho5.frozenAt j
          obtain ⟨ho6, hgr6⟩ := ho5.stored j (.int .u8 (t.toNat : Int))
          rw [bc_set] at ho6
          have hold : ∃ x5, w5.cell? ⟨g, j, none⟩ = some x5 := by rw [hc5, List.getElem?_eq_getElem (by rw [bc_length]; exact hjl)]; exact ⟨_, rfl⟩
          obtain ⟨x5, hx5⟩ := hold
          have hF5 := hFG.below hb5
          have hbw5 := hbG.trans (hb5.mono hszG)
          have hF6 : Fb (w5.setCell ⟨g, j, none⟩ (.int .u8 (t.toNat : Int))) w2.heap.size 0 0 := by
            unfold Fb
            rw [heap_setCell_other _ _ _ _ (by show w2.heap.size ≠ g; omega)]
            exact hF5
          have hbw6 : Below w.heap.size w (w5.setCell ⟨g, j, none⟩ (.int .u8 (t.toNat : Int))) := hbw5.setCell (p := ⟨g, j, none⟩) (by show _ ≤ g; omega) _
          have hFs6 : w2.heap.size < (w5.setCell ⟨g, j, none⟩ (.int .u8 (t.toNat : Int))).heap.size := hF6.facts.2.2.2.2
          have hsz6 := hbw6.size
          have hr6 : Rd (w5.setCell ⟨g, j, none⟩ (.int .u8 (t.toNat : Int))) (.slice (some ⟨g, 0, none⟩) (flatF l).length cap5) (bc ((flatF l).set j t)) := Rd.ofOwns ho6
          clear ho6 hgr6 ho5 hc5
          go_wp2_with fail
          refine (Open_any _ _ _ hr6).mono ?_
          rintro e w7 ⟨v7, rfl, hr7, hb7⟩
          rw [HOP.out] at hr7 ⊢
          simp only [flt] at hr7 ⊢
          have hF7 := hF6.below hb7
          obtain ⟨p0, p1, q0, q1, ps⟩ := hF7.facts
          have hbw7 := hbw6.trans (hb7.mono hsz6)
          have hbS : Below w.heap.size w ((w7.setCell ⟨w2.heap.size, 0, none⟩ (.int .i64 0)).setCell ⟨w2.heap.size, 1, none⟩ (.int .i64 0)) := (hbw7.setCell (p := ⟨w2.heap.size, 0, none⟩) hsz2 _).setCell (p := ⟨w2.heap.size, 1, none⟩) hsz2 _
          have hsl2 := run_slice_upto (P := Try.prog) Try.underlying50 (by kernel_rfl) Try.info23 (some ⟨b1, off1, none⟩) l.length cap m m rfl (by omega)
          have hV2 := (h1.below hbS).upto (hi := m) (by omega)
          generalize sliced (some ⟨b1, off1, none⟩) 0 m cap 1 = V2 at hV2 hsl2
          have hrS := (hr7.set (p := ⟨w2.heap.size, 0, none⟩) hFs6 (.int .i64 0)).set (p := ⟨w2.heap.size, 1, none⟩) hFs6 (.int .i64 0)
          go_wp2_with (go_at_call 32; go_must (refine (SameBodies_any _ _ (l.take m) (l.take m) _ hrS.toB hV2).mono ?_; rintro e w8 ⟨rfl, q8, rfl⟩; rw [beq_self_eq_true]))
          go_ret
          exact ⟨rfl, below_drewN hbS q8⟩

end Go.Proofs.Ytlebbkbbmgmmjaa
