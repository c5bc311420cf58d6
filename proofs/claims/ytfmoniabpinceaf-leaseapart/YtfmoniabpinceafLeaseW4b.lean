/-
  The walk over lease.Renew: who holds it.
-/
import Derived.Test.YtfmoniabpinceafLeaseW4
namespace Go.Proofs.Ytfmoniabpinceaf
open Go.RowKit
set_option linter.unusedVariables false

set_option maxRecDepth 100000 in
set_option maxHeartbeats 2000000 in
theorem renew_go (hold ep til now span : Int) (w : World) (hck : AskIs ⟨hold, ep, til⟩ hold now span (0, 0)) (hh : HeldIs ⟨hold, ep, til⟩ now true) (hw : IntKind.i64.wrap (now + span) = now + span) (e1 : renewL ⟨hold, ep, til⟩ hold ep now span = muchL ⟨hold, ep, max til (now + span)⟩) (e2 : renewF ⟨hold, ep, til⟩ hold ep now span = muchF ⟨hold, ep, max til (now + span)⟩) :
    Calls Try.prog 22 #[.agg #[.int .i64 hold, .int .i64 ep, .int .i64 til], .int .i64 hold, .int .i64 ep, .int .i64 now, .int .i64 span] w fun e w' => e = .returned (.tuple #[lsV (renewL ⟨hold, ep, til⟩ hold ep now span), flt (renewF ⟨hold, ep, til⟩ hold ep now span)]) ∧ Below w.heap.size w w' := by
  have HCK := hide hck
  have HH := hide hh
  have HE1 := hide e1
  have HE2 := hide e2
  clear hck hh e1 e2
  unfold AskIs at HCK
  unfold HeldIs at HH
  go_enter Try.func22, Try.ntmps22
  go_wp2_with fail
  refine (HCK.out _).mono ?_
  rintro e w1 ⟨rfl, hb1⟩
  have hbw1 := (below_alloc3 w (.cells #[.int .i64 hold, .int .i64 ep, .int .i64 til] 47) (.cells #[.int .i64 0, .int .i64 0, .int .i64 0] 47) (.cells #[.int .i64 0, .int .i64 0] 26)).trans (hb1.mono (by simp; omega))
  have hL := (Blk.at0of3 w (.cells #[.int .i64 0, .int .i64 0, .int .i64 0] 47) (.cells #[.int .i64 0, .int .i64 0] 26) 47 #[.int .i64 hold, .int .i64 ep, .int .i64 til]).later hb1
  have hR := (Blk.at1of3 w (.cells #[.int .i64 hold, .int .i64 ep, .int .i64 til] 47) (.cells #[.int .i64 0, .int .i64 0] 26) 47 #[.int .i64 0, .int .i64 0, .int .i64 0]).later hb1
  have hF := (Blk.at2 w (.cells #[.int .i64 hold, .int .i64 ep, .int .i64 til] 47) (.cells #[.int .i64 0, .int .i64 0, .int .i64 0] 47) 26 #[.int .i64 0, .int .i64 0]).later hb1
  clear hb1
  have lc0 := hL.cell 0
  have lc1 := hL.cell 1
  have lc2 := hL.cell 2
  have lz0 := hL.frozen 0
  have lz1 := hL.frozen 1
  have lz2 := hL.frozen 2
  have ll := hL.lt
  simp at lc0 lc1 lc2
  have rc0 := hR.cell 0
  have rc1 := hR.cell 1
  have rc2 := hR.cell 2
  have rz0 := hR.frozen 0
  have rz1 := hR.frozen 1
  have rz2 := hR.frozen 2
  have rl := hR.lt
  simp at rc0 rc1 rc2
  have fc0 := hF.cell 0
  have fc1 := hF.cell 1
  have fz0 := hF.frozen 0
  have fz1 := hF.frozen 1
  have fl := hF.lt
  simp at fc0 fc1
  unfold flt
  go_wp2_with fail
  refine (HH.out _).mono ?_
  rintro e w2 ⟨rfl, hb2⟩
  have hb12 := (below_allocG w1 (.cells #[.int .i64 0, .int .i64 0] 26)).trans (hb2.mono (by simp))
  have hbw2 := hbw1.trans (hb12.mono hbw1.size)
  have hLw2 := hL.later hb12
  have hRw2 := hR.later hb12
  have hFw2 := hF.later hb12
  clear lc0 lz0 lc1 lz1 lc2 lz2 rc0 rz0 rc1 rz1 rc2 rz2 fc0 fz0 fc1 fz1 ll rl fl
  have lc0 := hLw2.cell 0
  have lc1 := hLw2.cell 1
  have lc2 := hLw2.cell 2
  have lz0 := hLw2.frozen 0
  have lz1 := hLw2.frozen 1
  have lz2 := hLw2.frozen 2
  have ll := hLw2.lt
  simp at lc0 lc1 lc2
  have rc0 := hRw2.cell 0
  have rc1 := hRw2.cell 1
  have rc2 := hRw2.cell 2
  have rz0 := hRw2.frozen 0
  have rz1 := hRw2.frozen 1
  have rz2 := hRw2.frozen 2
  have rl := hRw2.lt
  simp at rc0 rc1 rc2
  have fc0 := hFw2.cell 0
  have fc1 := hFw2.cell 1
  have fz0 := hFw2.frozen 0
  have fz1 := hFw2.frozen 1
  have fl := hFw2.lt
  simp at fc0 fc1
  clear hb2 hb12 hbw1 hL hR hF
  have HM := hide (fun X W => unlessMuch_any ⟨hold, ep, X⟩ W)
  unfold lsV at HM
  have HR2 := hide hRw2
  have HF2 := hide hFw2
  clear rc0 rc1 rc2 rz0 rz1 rz2 rl fc0 fc1 fz0 fz1 fl hRw2 hFw2
  go_wp2_with fail
  all_goals
    refine (HM.out _ _).mono ?_
    rintro e w3 ⟨rfl, hb3⟩
    have hbw3 : Below w.heap.size w w3 := by
      refine Below.trans ?_ (hb3.mono ?_)
      · go_grown
      · have := hbw2.size
        simp
        omega
    have hRw3 := ((HR2.out.other (p := ⟨w.heap.size, 2, none⟩) (by simp) _).later hb3)
    have hFw3 := ((HF2.out.other (p := ⟨w.heap.size, 2, none⟩) (by simp) _).later hb3)
    have rc0 := hRw3.cell 0
    have rc1 := hRw3.cell 1
    have rc2 := hRw3.cell 2
    have rz0 := hRw3.frozen 0
    have rz1 := hRw3.frozen 1
    have rz2 := hRw3.frozen 2
    have rl := hRw3.lt
    simp at rc0 rc1 rc2
    have fc0 := hFw3.cell 0
    have fc1 := hFw3.cell 1
    have fz0 := hFw3.frozen 0
    have fz1 := hFw3.frozen 1
    have fl := hFw3.lt
    simp at fc0 fc1
    clear hb3 hbw2 hLw2 lc0 lc1 lc2 lz0 lz1 lz2 ll hRw3 hFw3
    generalize hML : muchL _ = ML
    generalize hMF : muchF _ = MF
    have HML := hide hML
    have HMF := hide hMF
    clear hML hMF
    obtain ⟨a, b, c⟩ := ML
    obtain ⟨x, y⟩ := MF
    unfold flt
    go_wp2_with fail
    exact bodyPost_ret (v := .tuple #[lsV ⟨a, b, c⟩, flt (x, y)]) (by simp [results, Try.results22, go_sem, flt, lsV, rc0, rc1, rc2, fc0, fc1]) rfl ⟨by rw [HE1.out, HE2.out, ← HML.out, ← HMF.out]; first | rw [show max til (now + span) = til by omega] | rw [show max til (now + span) = now + span by omega], by go_grown⟩

theorem Renew_any (l : Ls) (who epoch now span : Int) (w : World) : Calls Try.prog 22 #[lsV l, .int .i64 who, .int .i64 epoch, .int .i64 now, .int .i64 span] w fun e w' => e = .returned (.tuple #[lsV (renewL l who epoch now span), flt (renewF l who epoch now span)]) ∧ Below w.heap.size w w' := by
  have hck : AskIs l who now span (wishF l who now span) := fun W => askFault_any l who now span W
  have hhl : HeldIs l now (heldB l now) := fun W => isHeld_any l now W
  obtain ⟨hold, ep, til⟩ := l
  by_cases h0 : (wishF ⟨hold, ep, til⟩ who now span).1 ≠ 0
  · obtain ⟨e2, e1⟩ := renewF_bad (ep := epoch) h0
    generalize hS : wishF ⟨hold, ep, til⟩ who now span = S at *
    obtain ⟨x, y⟩ := S
    exact renew_bad hold ep til who epoch now span x y w hck h0 e1 e2
  · have hz := Decidable.not_not.1 h0
    obtain ⟨hok, _, _, hn2, hn3⟩ := wishF_ok hz
    rw [hok] at hck
    by_cases hn : hold ≠ who ∨ ep ≠ epoch
    · obtain ⟨e2, e1⟩ := renewF_none (l := ⟨hold, ep, til⟩) hz hn
      by_cases hq : hold = who
      · subst hq
        exact renew_none1 hold ep til epoch now span w hck (hn.resolve_left (fun h => h rfl)) e1 e2
      · exact renew_none2 hold ep til who epoch now span w hck hq e1 e2
    · cases hh : heldB ⟨hold, ep, til⟩ now
      · obtain ⟨e2, e1⟩ := renewF_stale (l := ⟨hold, ep, til⟩) hz hn hh
        rw [hh] at hhl
        obtain ⟨rfl, rfl⟩ : hold = who ∧ ep = epoch := by omega
        exact renew_stale hold ep til now span w hck hhl e1 e2
      · obtain ⟨e2, e1⟩ := renewF_go (l := ⟨hold, ep, til⟩) hz hn hh
        rw [hh] at hhl
        obtain ⟨rfl, rfl⟩ : hold = who ∧ ep = epoch := by omega
        exact renew_go hold ep til now span w hck hhl (by rw [IntKind.wrap_i64]; omega) e1 e2

end Go.Proofs.Ytfmoniabpinceaf
