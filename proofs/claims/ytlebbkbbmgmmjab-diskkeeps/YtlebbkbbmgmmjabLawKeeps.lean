/-
  The law DiskKeeps: its walk.
-/
import Derived.Test.YtlebbkbbmgmmjabKeepsMath
namespace Go.Proofs.Ytlebbkbbmgmmjab
open Go.RowKit

set_option maxRecDepth 100000 in
set_option maxHeartbeats 2000000 in
theorem diskKeeps_any (u x : Value) (ps : List (List UInt8)) (ms : List Int) (w : World) (h1 : RdB w u ps) (h2 : Rd w x (ic ms)) (hss : ∀ s ∈ ps, s.length ≤ 140737488351232) (hms : ∀ z ∈ ms, -9223372036854775808 ≤ z ∧ z ≤ 9223372036854775807) :
    Calls Try.prog 3 #[u, x] w fun e w' => e = .returned (.bool true) ∧ Below w.heap.size w w' := by
  obtain ⟨ao, cap, hu, hc1, hc2, hcell⟩ := h1.open
  obtain ⟨bo, cbp, hx, hd1, hd2, hdell⟩ := h2.open
  rw [ic_length] at hd1 hx hdell
  subst hu hx
  unfold maxLen at hc2 hd2
  have HSS := hide hss
  have HMS := hide hms
  clear hss hms
  go_enter Try.func3, Try.ntmps3
  go_wp2_with fail
  refine (diskBegun_any _).mono ?_
  rintro e w1 ⟨rfl, hbw1⟩
  have hsz1 := hbw1.size
  by_cases hg1 : 100 < ps.length
  · go_wp2_with fail
    go_ret
    exact ⟨rfl, hbw1⟩
  by_cases hg2 : 200 < ms.length
  · go_wp2_with fail
    go_ret
    exact ⟨rfl, hbw1⟩
  go_wp2_with fail
  go_loopw [6, 7, 8, 9] (fun kp al nx i wr => ∃ (j nn : Nat) (A : List UInt8) (kl : Nat) (dv : Value), j ≤ ms.length ∧ i = .int .i64 j ∧ nn ≤ ps.length ∧ nx = .int .i64 nn ∧ A.length ≤ 60000 ∧ kl ≤ A.length ∧ Tb wr w1.heap.size 27 dv (.int .i64 kl) ∧ Rd wr dv (bc A) ∧ New (w1.heap.size + 1) dv ∧ Rd wr kp (bc (A.take kl)) ∧ New (w1.heap.size + 1) kp ∧ Apart al kp ∧ wr.ownsRow (w1.heap.size + 1) 5 1 al A.length (bc A) ∧ Below w1.heap.size w1 wr)
    (fun _ _ _ i _ => ms.length - (intOf i).toNat)
  case atStart =>
    refine ⟨0, 0, [], 0, .slice none 0 0, by omega, rfl, by omega, rfl, by simp, by simp, ?_, Rd.nil _, New.nil _, Rd.nil _, New.nil _, Apart.nil _, World.ownsRow_nil _ _ _ _, ?_⟩
    · exact Tb.new _ _ _ _
    · exact (Below.refl _ _).alloc (Nat.le_refl _) _
  case round =>
    obtain ⟨j, nn, A, kl, dv, hj, rfl, hnn, rfl, hA, hkl, hD, hdv, hdn, hkp, hkn, hap, hown, hbel⟩ := hrel
    by_cases hlt : j < ms.length
    · obtain ⟨b, off, rfl, hb, hcl⟩ := hdell j hlt
      have hm := HMS.out ms[j] (List.getElem_mem hlt)
      have hck : wr.cell? ⟨b, off + j, none⟩ = some (.int .i64 ms[j]) := by
        rw [hbel.cell (p := ⟨b, off + j, none⟩) (by simp only; omega), hbw1.cell (p := ⟨b, off + j, none⟩) (by exact hb)]
        exact hcl j _ (by simp [ic, hlt])
      clear hcl hdell
      generalize ms[j] = m at *
      have hbw := hbw1.trans (hbel.mono hsz1)
      have hszr : w1.heap.size < wr.heap.size := hD.facts.2.2.2.2
      obtain ⟨dvo, dvc, hdvv, _, _⟩ := hdv.shape
      obtain ⟨kpo, kpc, hkpv, _, _⟩ := hkp.shape
      obtain ⟨alo, alc, halv⟩ := owns_shape hown
      have hlk : (bc (A.take kl)).length = kl := by rw [bc_length, List.length_take]; omega
      rw [bc_length] at hdvv
      rw [hlk] at hkpv
      subst hdvv hkpv halv
      obtain ⟨d0, d1, d2, d3, d4⟩ := hD.facts
      have hok : checkR A (kl : Int) = 0 := checkR_ok (by omega) (by omega) (by omega)
      have HOK := hide hok
      clear hok
      -- the round's two blocks
      have hbC : Below wr.heap.size wr ((wr.alloc (.cells #[.slice dvo A.length dvc, .int .i64 kl] 27)).alloc (.cells #[.int .i64 0, .int .i64 0] 29)) := ((Below.refl _ _).alloc (Nat.le_refl _) _).alloc (by simp) _
      have hE : Tb ((wr.alloc (.cells #[.slice dvo A.length dvc, .int .i64 kl] 27)).alloc (.cells #[.int .i64 0, .int .i64 0] 29)) wr.heap.size 27 (.slice dvo A.length dvc) (.int .i64 kl) := (Tb.new wr _ _ _).below (below_alloc _ _)
      have hF : Tb ((wr.alloc (.cells #[.slice dvo A.length dvc, .int .i64 kl] 27)).alloc (.cells #[.int .i64 0, .int .i64 0] 29)) (wr.heap.size + 1) 29 (.int .i64 0) (.int .i64 0) := by
        have := Tb.new (wr.alloc (.cells #[.slice dvo A.length dvc, .int .i64 kl] 27)) 29 (.int .i64 0) (.int .i64 0)
        simpa using this
      have hszC : ((wr.alloc (.cells #[.slice dvo A.length dvc, .int .i64 kl] 27)).alloc (.cells #[.int .i64 0, .int .i64 0] 29)).heap.size = wr.heap.size + 2 := by simp
      go_upto_region 12 with fail
      have hckc := (hbC.cell (p := ⟨b, off + j, none⟩) (by simp only; omega)).trans hck
      have hDc := hD.below hbC
      have hdvc := hdv.below hbC
      have hkpc := hkp.below hbC
      have howc := owns_below hown hbC
      have hbelc := hbel.trans (hbC.mono (by omega))
      have hbwc := hbw.trans (hbC.mono (by omega))
      have hall : ∀ wE, Below wr.heap.size wr wE → Tb wE w1.heap.size 27 (.slice dvo A.length dvc) (.int .i64 kl) ∧ Rd wE (.slice dvo A.length dvc) (bc A) ∧ Rd wE (.slice kpo kl kpc) (bc (A.take kl)) ∧ wE.ownsRow (w1.heap.size + 1) 5 1 (.slice alo A.length alc) A.length (bc A) ∧ Below w1.heap.size w1 wE ∧ Below w.heap.size w wE :=
        fun wE h => ⟨hD.below h, hdv.below h, hkp.below h, owns_below hown h, hbel.trans (h.mono (by omega)), hbw.trans (h.mono (by omega))⟩
      have hlt0 : ∀ g, (Value.slice alo A.length alc).ownBlock = some g → w1.heap.size + 1 ≤ g ∧ g < wr.heap.size := hown.lt
      have HALL := hide hall
      have HLT := hide hlt0
      have HBC := hide hbC
      clear hall hlt0
      clear hD hdv hkp hbel hbC hck d0 d1 d2 d3 d4 hbw
      have HF := hide hF
      have HE := hide hE
      clear hF hE
      generalize (wr.alloc (.cells #[.slice dvo A.length dvc, .int .i64 kl] 27)).alloc (.cells #[.int .i64 0, .int .i64 0] 29) = wc at *
      have hownz : ∀ v, New wr.heap.size v → Apart (.slice alo A.length alc) v := fun v hv => Apart.new hown hv
      have HOZ := hide hownz
      clear hown hownz
      generalize wr.heap.size = z at *
      obtain ⟨d0, d1, d2, d3, d4⟩ := hDc.facts
      go_upto_if 37 with fail
      go_cut [6, 7, 8] from 24 to 118 (fun kp al nx wE => ∃ (nn' : Nat) (A' : List UInt8) (kl' : Nat) (v' : Value) (c a : Int), nn' ≤ ps.length ∧ nx = .int .i64 nn' ∧ Tb wE z 27 v' (.int .i64 kl') ∧ Tb wE (z + 1) 29 (.int .i64 c) (.int .i64 a) ∧ Tb wE w1.heap.size 27 (.slice dvo A.length dvc) (.int .i64 kl) ∧ Below w1.heap.size w1 wE ∧ New (w1.heap.size + 1) kp ∧ Apart al kp ∧
        ((c ≠ 0 ∧ Rd wE (.slice dvo A.length dvc) (bc A) ∧ Rd wE kp (bc (A.take kl)) ∧ wE.ownsRow (w1.heap.size + 1) 5 1 al A.length (bc A)) ∨
         (c = 0 ∧ A'.length ≤ 60000 ∧ kl' ≤ A'.length ∧ Rd wE v' (bc A') ∧ New (w1.heap.size + 1) v' ∧ Rd wE kp (bc (A'.take kl')) ∧ wE.ownsRow (w1.heap.size + 1) 5 1 al A'.length (bc A'))))
      case first =>
        by_cases hm0 : m < 0
        · by_cases hnp : ps.length ≤ nn
          · go_wp2_with fail
            go_roundw
            case rel => exact ⟨j + 1, nn, A, kl, _, by omega, by go_num, hnn, rfl, hA, hkl, hDc, hdvc, hdn, hkpc, hkn, hap, howc, hbelc⟩
            case measure => simp [intOf]; omega
          · obtain ⟨pb, poff, px, rfl, hpb, hpck, hpr⟩ := hcell nn (by omega)
            have hpl := HSS.out ps[nn] (List.getElem_mem (by omega))
            generalize ps[nn] = p at *
            have hpckr : wc.cell? ⟨pb, poff + nn, none⟩ = some px := by
              rw [hbwc.cell (p := ⟨pb, poff + nn, none⟩) (by exact hpb)]
              exact hpck
            obtain ⟨pxo, pxc, hpv, _, _⟩ := hpr.shape
            rw [bc_length] at hpv
            subst hpv
            clear hcell
            have hprc := hpr.below hbwc
            have HPR := hide hprc
            have HDV := hide hdvc
            have hnl : nn < ps.length := by omega
            by_cases hfit : 60000 < A.length + p.length
            · have HAP := hide (@appendR_much A p kl HOK.out hfit)
              go_upto_region 15 with fail
              go_region_law (refine step_call2 (Append_u _ A kl _ p _ (by exact HDV.out) (by exact HPR.out)) enters10 (by rfl) (by rfl) (by rfl) (by rfl) ?_; rw [HAP.out]; rintro u3 w3 ⟨v3, rfl, hr3, hb3, hn3⟩; simp only [dsk, flt]; obtain ⟨q0, q1, q2, q3, q4⟩ := (Tb.below (w := wc.drew) HE.out hb3).facts; obtain ⟨r0, r1, r2, r3, r4⟩ := (Tb.below (w := wc.drew) HF.out hb3).facts; obtain ⟨ao3, cap3, hv3, _, _⟩ := hr3.shape; rw [bc_length] at hv3; subst hv3)
              all_goals
                have hbc3 : Below wc.heap.size wc w3 := (Below.refl _ _).drew.trans hb3
                obtain ⟨s1, s2, s3, s4, s5⟩ := store_two (z := z) (HBC.out.trans (hbc3.mono (by omega))) (HE.out.below hbc3) (HF.out.below hbc3) (.slice ao3 0 cap3) (.int .i64 0) (.int .i64 9) (.int .i64 0)
                clear q0 q1 q2 q3 q4 r0 r1 r2 r3 r4 hb3 hbc3 hn3 hr3
                generalize (((w3.setCell ⟨z, 0, none⟩ (.slice ao3 0 cap3)).setCell ⟨z, 1, none⟩ (.int .i64 0)).setCell ⟨z + 1, 0, none⟩ (.int .i64 9)).setCell ⟨z + 1, 1, none⟩ (.int .i64 0) = wE at *
                obtain ⟨hD5, hdv5, hkp5, how5, hbl5, hbw5⟩ := HALL.out _ s1
                obtain ⟨r0, r1, r2, r3, r4⟩ := s3.facts
                go_wp2_with fail
                go_meet
                case rel => exact ⟨nn + 1, [], 0, .slice ao3 0 cap3, 9, 0, by omega, by go_num, by simpa using s2, s3, hD5, hbl5, hkn, hap, .inl ⟨by decide, hdv5, hkp5, how5⟩⟩
            · have HAP := hide (@appendR_ok A p kl HOK.out hfit)
              go_upto_region 15 with fail
              go_region_law (refine step_call2 (Append_u _ A kl _ p _ (by exact HDV.out) (by exact HPR.out)) enters10 (by rfl) (by rfl) (by rfl) (by rfl) ?_; rw [HAP.out]; rintro u3 w3 ⟨v3, rfl, hr3, hb3, hn3⟩; simp only [dsk, flt]; obtain ⟨q0, q1, q2, q3, q4⟩ := (Tb.below (w := wc.drew) HE.out hb3).facts; obtain ⟨r0, r1, r2, r3, r4⟩ := (Tb.below (w := wc.drew) HF.out hb3).facts; obtain ⟨ao3, cap3, hv3, _, _⟩ := hr3.shape; rw [bc_length, List.length_append] at hv3; subst hv3)
              all_goals
                have hbc3 : Below wc.heap.size wc w3 := (Below.refl _ _).drew.trans hb3
                obtain ⟨s1, s2, s3, s4, s5⟩ := store_two (z := z) (HBC.out.trans (hbc3.mono (by omega))) (HE.out.below hbc3) (HF.out.below hbc3) (.slice ao3 (A.length + p.length) cap3) (.int .i64 kl) (.int .i64 0) (.int .i64 0)
                have hn4 : New (z + 2) (.slice ao3 (A.length + p.length) cap3) := by rw [← hszC]; exact hn3
                have hr5 := s5 _ _ hr3 hn4
                clear q0 q1 q2 q3 q4 r0 r1 r2 r3 r4 hb3 hbc3 hn3 hr3 s5
                generalize (((w3.setCell ⟨z, 0, none⟩ (.slice ao3 (A.length + p.length) cap3)).setCell ⟨z, 1, none⟩ (.int .i64 kl)).setCell ⟨z + 1, 0, none⟩ (.int .i64 0)).setCell ⟨z + 1, 1, none⟩ (.int .i64 0) = wE at *
                obtain ⟨hD5, hdv5, hkp5, how5, hbl5, hbw5⟩ := HALL.out _ s1
                obtain ⟨r0, r1, r2, r3, r4⟩ := s3.facts
                have hp5 := hpr.below hbw5
                have hpck5 : wE.cell? ⟨pb, poff + nn, none⟩ = some (.slice pxo p.length pxc) := by
                  rw [hbw5.cell (p := ⟨pb, poff + nn, none⟩) (by exact hpb)]
                  exact hpck
                have hal : A.length + (bc p).length ≤ 2000000000000 := by rw [bc_length]; omega
                have hbs5 : w1.heap.size + 1 ≤ wE.heap.size := by have := hD5.facts.2.2.2.2; omega
                clear hdv5
                go_wp2_with (at_builtin; go_must (refine wpList_append_at how5 hp5 Try.underlying25 Try.info5 rfl rfl rfl rfl rfl (bc_one _) hal (by decide) hbs5 ?_); intro v6 w6 ho6 hb6 hg6 hp6)
                go_meet
                case rel =>
                  have hzz := HLT.out
                  have ho7 : w6.ownsRow (w1.heap.size + 1) 5 1 v6 (A ++ p).length (bc (A ++ p)) := by
                    rw [bc_append, List.length_append]
                    simpa [bc_length] using ho6
                  refine ⟨nn + 1, A ++ p, kl, .slice ao3 (A.length + p.length) cap3, 0, 0, by omega, by go_num, s2.grown hg6 ?_, s3.grown hg6 ?_, hD5.grown hg6 ?_, hbl5.trans (hb6.mono (by omega)), hkn, hap.step hkp5 hp6, .inr ⟨rfl, by rw [List.length_append]; omega, by rw [List.length_append]; omega, hr5.apart (HOZ.out _ (hn4.mono (by omega))) hg6, hn4.mono (by omega), ?_, ho7⟩⟩
                  · intro he; have := hzz z he.symm; omega
                  · intro he; have := hzz (z + 1) he.symm; omega
                  · intro he; have := hzz w1.heap.size he.symm; omega
                  · rw [List.take_append_of_le_length hkl]; exact hkp5.apart hap hg6
        · clear hcell
          by_cases hm1 : m = 0
          · subst hm1
            have HTR := hide (@trimR_all A kl HOK.out)
            go_wp2_with fail
            refine (Sync_any _ A kl _ (by exact hdvc)).mono ?_
            rw [HTR.out]
            rintro e w3 ⟨v3, rfl, hr3, hbc3, hn3⟩
            simp only [dsk, flt]
            obtain ⟨q0, q1, q2, q3, q4⟩ := (HE.out.below hbc3).facts
            obtain ⟨r0, r1, r2, r3, r4⟩ := (HF.out.below hbc3).facts
            obtain ⟨ao3, cap3, hv3, _, _⟩ := hr3.shape
            rw [bc_length] at hv3
            subst hv3
            go_upto_region 21 with fail
            obtain ⟨s1, s2, s3, s4, s5⟩ := store_two (z := z) (HBC.out.trans (hbc3.mono (by omega))) (HE.out.below hbc3) (HF.out.below hbc3) (.slice ao3 A.length cap3) (.int .i64 A.length) (.int .i64 0) (.int .i64 0)
            have hn4 : New (z + 2) (.slice ao3 A.length cap3) := by rw [← hszC]; exact hn3
            have hr5 := s5 _ _ hr3 hn4
            clear q0 q1 q2 q3 q4 r0 r1 r2 r3 r4 hbc3 hn3 hr3 s5
            generalize (((w3.setCell ⟨z, 0, none⟩ (.slice ao3 A.length cap3)).setCell ⟨z, 1, none⟩ (.int .i64 A.length)).setCell ⟨z + 1, 0, none⟩ (.int .i64 0)).setCell ⟨z + 1, 1, none⟩ (.int .i64 0) = wE at *
            obtain ⟨hD5, hdv5, hkp5, how5, hbl5, hbw5⟩ := HALL.out _ s1
            obtain ⟨r0, r1, r2, r3, r4⟩ := s3.facts
            go_wp2_with fail
            refine (ownBytes_any _ A _ (Rd.ofOwns how5) (by omega)).mono ?_
            rintro e w6 ⟨v6, rfl, hr6, hb6, hn6⟩
            have hsE := s1.size
            have hDs := hD5.facts.2.2.2.2
            go_wp2_with fail
            go_meet
            case rel => exact ⟨nn, A, A.length, .slice ao3 A.length cap3, 0, 0, hnn, rfl, s2.below hb6, s3.below hb6, hD5.below hb6, hbl5.trans (hb6.mono (by omega)), hn6.mono (by omega), Apart.new how5 hn6, .inr ⟨rfl, hA, Nat.le_refl _, hr5.below hb6, hn4.mono (by omega), by rw [List.take_length]; exact hr6, owns_below how5 hb6⟩⟩
          · obtain ⟨q, rfl⟩ : ∃ q : Nat, m = (q : Int) + 1 := ⟨(m - 1).toNat, by omega⟩
            have hmb : ((q : Int) + 1 == 0) = false := by simp; omega
            by_cases hfit : kl + q ≤ A.length
            · have HTR := hide (@crashR_in A kl q HOK.out hfit)
              have hs7 := run_slice_upto (P := Try.prog) Try.underlying25 (by kernel_rfl) Try.info5 alo A.length alc (kl + q) ((kl : Int) + ((q : Int) + 1) - 1) (by omega) (by have := (Rd.ofOwns howc).len; omega)
              go_wp2_with fail
              refine (Crash_any _ A kl q _ (by exact hdvc)).mono ?_
              rw [HTR.out]
              rintro e w3 ⟨v3, rfl, hr3, hbc3, hn3⟩
              simp only [dsk, flt]
              obtain ⟨q0, q1, q2, q3, q4⟩ := (HE.out.below hbc3).facts
              obtain ⟨r0, r1, r2, r3, r4⟩ := (HF.out.below hbc3).facts
              obtain ⟨ao3, cap3, hv3, _, _⟩ := hr3.shape
              have hlq : (A.take (kl + q)).length = kl + q := by rw [List.length_take]; omega
              rw [bc_length, hlq] at hv3
              subst hv3
              go_upto_region 24 with fail
              obtain ⟨s1, s2, s3, s4, s5⟩ := store_two (z := z) (HBC.out.trans (hbc3.mono (by omega))) (HE.out.below hbc3) (HF.out.below hbc3) (.slice ao3 (kl + q) cap3) (.int .i64 ((kl : Int) + (q : Int))) (.int .i64 0) (.int .i64 0)
              have hn4 : New (z + 2) (.slice ao3 (kl + q) cap3) := by rw [← hszC]; exact hn3
              have hr5 := s5 _ _ hr3 hn4
              clear q0 q1 q2 q3 q4 r0 r1 r2 r3 r4 hbc3 hn3 hr3 s5
              generalize (((w3.setCell ⟨z, 0, none⟩ (.slice ao3 (kl + q) cap3)).setCell ⟨z, 1, none⟩ (.int .i64 ((kl : Int) + (q : Int)))).setCell ⟨z + 1, 0, none⟩ (.int .i64 0)).setCell ⟨z + 1, 1, none⟩ (.int .i64 0) = wE at *
              obtain ⟨hD5, hdv5, hkp5, how5, hbl5, hbw5⟩ := HALL.out _ s1
              obtain ⟨r0, r1, r2, r3, r4⟩ := s3.facts
              obtain ⟨ho6, hob6, hal6⟩ := owns_upto how5 hfit
              rw [hal6] at ho6 hob6 hs7
              rw [bc_take] at ho6
              clear hal6
              go_wp2_with fail
              refine (ownBytes_any _ (A.take (kl + q)) _ (Rd.ofOwns ho6) (by omega)).mono ?_
              rintro e w6 ⟨v6, rfl, hr6, hb6, hn6⟩
              have hsE := s1.size
              have hDs := hD5.facts.2.2.2.2
              go_wp2_with fail
              go_meet
              case rel => exact ⟨nn, A.take (kl + q), kl + q, .slice ao3 (kl + q) cap3, 0, 0, hnn, rfl, by rw [Int.natCast_add]; exact s2.below hb6, s3.below hb6, hD5.below hb6, hbl5.trans (hb6.mono (by omega)), hn6.mono (by omega), Apart.new ho6 hn6, .inr ⟨rfl, by omega, by omega, hr5.below hb6, hn4.mono (by omega), by rw [List.take_of_length_le (by omega)]; exact hr6, by rw [hlq]; exact owns_below ho6 hb6⟩⟩
            · have HTR := hide (@crashR_out A kl q HOK.out (by omega))
              go_wp2_with fail
              refine (Crash_any _ A kl q _ (by exact hdvc)).mono ?_
              rw [HTR.out]
              rintro e w3 ⟨v3, rfl, hr3, hbc3, hn3⟩
              simp only [dsk, flt]
              obtain ⟨q0, q1, q2, q3, q4⟩ := (HE.out.below hbc3).facts
              obtain ⟨r0, r1, r2, r3, r4⟩ := (HF.out.below hbc3).facts
              obtain ⟨ao3, cap3, hv3, _, _⟩ := hr3.shape
              have hv4 : v3 = .slice ao3 0 cap3 := hv3
              clear hv3
              subst hv4
              go_upto_region 24 with fail
              obtain ⟨s1, s2, s3, s4, s5⟩ := store_two (z := z) (HBC.out.trans (hbc3.mono (by omega))) (HE.out.below hbc3) (HF.out.below hbc3) (.slice ao3 0 cap3) (.int .i64 0) (.int .i64 3) (.int .i64 (-1))
              clear q0 q1 q2 q3 q4 r0 r1 r2 r3 r4 hbc3 hn3 hr3 s5
              generalize (((w3.setCell ⟨z, 0, none⟩ (.slice ao3 0 cap3)).setCell ⟨z, 1, none⟩ (.int .i64 0)).setCell ⟨z + 1, 0, none⟩ (.int .i64 3)).setCell ⟨z + 1, 1, none⟩ (.int .i64 (-1)) = wE at *
              obtain ⟨hD5, hdv5, hkp5, how5, hbl5, hbw5⟩ := HALL.out _ s1
              obtain ⟨r0, r1, r2, r3, r4⟩ := s3.facts
              go_wp2_with fail
              go_meet
              case rel => exact ⟨nn, [], 0, .slice ao3 0 cap3, 3, -1, hnn, rfl, by simpa using s2, s3, hD5, hbl5, hkn, hap, .inl ⟨by decide, hdv5, hkp5, how5⟩⟩
      case rest =>
        clear hckc hDc hdvc hkpc howc hbelc hbwc HF HE HOZ HALL HLT HBC d0 d1 d2 d3 d4 hszC hcell
        obtain ⟨nn', A', kl', v', c, a, hnn', rfl, hTe, hTf, hTd, hbl, hkn', hap', hor⟩ := hcut
        rename World => wE
        obtain ⟨f0, f1, f2, f3, f4⟩ := hTf.facts
        rcases hor with ⟨hc0, hdv', hkp', hown'⟩ | ⟨rfl, hA', hkl', hv', hvn', hkp', hown'⟩
        · have hcb : (c != 0) = true := by simp [hc0]
          have hcb2 : (c == 0) = false := by simp [hc0]
          clear hc0
          go_wp2_with fail
          go_roundw
          case rel => exact ⟨j + 1, nn', A, kl, _, by omega, by go_num, hnn', rfl, hA, hkl, hTd, hdv', hdn, hkp', hkn', hap', hown', hbl⟩
          case measure => simp [intOf]; omega
        · obtain ⟨e0, e1, e2, e3, e4⟩ := hTe.facts
          obtain ⟨d0, d1, d2, d3, d4⟩ := hTd.facts
          obtain ⟨vo, vc, hvv, hvl, hvm⟩ := hv'.shape
          obtain ⟨ko, kc, hkv, _, _⟩ := hkp'.shape
          obtain ⟨lo, lc, hlv⟩ := owns_shape hown'
          have hlk' : (bc (A'.take kl')).length = kl' := by rw [bc_length, List.length_take]; omega
          rw [bc_length] at hvv hvl
          rw [hlk'] at hkv
          subst hvv hkv hlv
          have hTd2 := hTd.set (.slice vo A'.length vc) (.int .i64 kl')
          have hbl2 := (hbl.setCell (p := ⟨w1.heap.size, 0, none⟩) (Nat.le_refl _) (.slice vo A'.length vc)).setCell (p := ⟨w1.heap.size, 1, none⟩) (Nat.le_refl _) (.int .i64 kl')
          have hv2 := (hv'.setNew hvn' (p := ⟨w1.heap.size, 0, none⟩) (by simp) (.slice vo A'.length vc)).setNew hvn' (p := ⟨w1.heap.size, 1, none⟩) (by simp) (.int .i64 kl')
          have hk2 := (hkp'.setNew hkn' (p := ⟨w1.heap.size, 0, none⟩) (by simp) (.slice vo A'.length vc)).setNew hkn' (p := ⟨w1.heap.size, 1, none⟩) (by simp) (.int .i64 kl')
          have ho2 := ownsRow_setCell_below (a := ⟨w1.heap.size, 1, none⟩) (ownsRow_setCell_below (a := ⟨w1.heap.size, 0, none⟩) hown' (by simp) (.slice vo A'.length vc)) (by simp) (.int .i64 kl')
          have hs7 := run_slice_upto (P := Try.prog) Try.underlying25 (by kernel_rfl) Try.info5 vo A'.length vc kl' (kl' : Int) rfl (by omega)
          have hV7 := hv2.upto (hi := kl') (by omega)
          rw [bc_take] at hV7
          generalize Go.sliced vo 0 kl' vc 1 = V7 at hs7 hV7
          have hb1 : (A' == A') = true := by simp
          have hb2 : (A'.take kl' == A'.take kl') = true := by simp
          clear hv' hkp' hown' hbl hTd hTe
          have ho3 := Rd.ofOwns ho2
          go_wp2_with fail
          refine (Same_any _ _ A' A' _ hv2 ho3).mono ?_
          rintro e w9 ⟨rfl, rfl⟩
          go_wp2_with fail
          refine (Same_any _ _ (A'.take kl') (A'.take kl') _ hV7 hk2).mono ?_
          rintro e w9 ⟨rfl, rfl⟩
          go_wp2_with fail
          go_roundw
          case rel => exact ⟨j + 1, nn', A', kl', _, by omega, by go_num, hnn', rfl, hA', hkl', hTd2, hv2, hvn', hk2, hkn', hap', ho2, hbl2⟩
          case measure => simp [intOf]; omega
    · go_wp2_with fail
      go_ret
      exact ⟨rfl, hbw1.trans (hbel.mono hsz1)⟩

end Go.Proofs.Ytlebbkbbmgmmjab
