/-
  The walk over lease.played: what is wrong ahead of all deeds.
-/
import Derived.Test.YtfmoniabpinceafLeaseC11
import Derived.Deep.WholeRow
import Derived.Deep.RegionLaw
namespace Go.Proofs.Ytfmoniabpinceaf
open Go.RowKit
set_option linter.unusedVariables false

/-- A whole variable is written as it was: a step of a region that draws its order. -/
theorem step_store_same {P : Program} {w : World} {ops : Array Oper} {o : Oper} {a : Act} {K : Act → World → Prop} {Q : Exit → Act → World → Prop} {EE : Prop} {x y : Operand} {B : Nat} {t ty : TypeId} {xs : Array Value}
    (hB : Blk w B t xs) (hi : (P.info? ty).map (·.size) = some xs.size) (h1 : xs.all (·.oneCell') = true) (hgd : o.guard = none) (ho : o.op = .store ty x y) (hx : a.eval x = .pointer (some ⟨B, 0, none⟩)) (hy : a.eval y = .agg xs)
    (h : K (a.put o.dst undef) w) : if Region.wanted o (yielded ops a.tmps) = true then Oper.wp P o a w K Q else EE := by
  have hw : Region.wanted o (yielded ops a.tmps) = true := by simp [Region.wanted, hgd]
  rw [if_pos hw]
  have hr : (Instr.storeAt ty (.pointer (some ⟨B, 0, none⟩)) (.agg xs)).run P w = .ok () (w.setRow B xs) := by
    simp only [Instr.storeAt, Instr.sureAddr, Sem.run_bind, Sem.run_pure, Result.andThen]
    exact run_storeVar_row w B t ty xs xs hB hi rfl h1
  rw [setRow_self w B xs t (0, 0) hB] at hr
  unfold Oper.wp execOp
  simp only [ho, hx, hy, hr, Sem.run_bind, Sem.run_pure, Result.andThen_ok]
  exact h

set_option maxRecDepth 100000 in
set_option maxHeartbeats 4000000 in
theorem played_bad (span clients : Int) (v : Value) (ds : List Dd) (f : Value) (hf : ∃ x y z, f = .func x y z) (w : World) (hv : RdG ddE w v ds) (hp : (playF span clients ds.length).1 ≠ 0) :
    Calls Try.prog 49 #[.int .i64 span, .int .i64 clients, v, f] w fun e w' => e = .returned (.tuple #[ctV noCt (.slice none 0 0) (.slice none 0 0) (.slice none 0 0) (.slice none 0 0), flt (playF span clients ds.length)]) ∧ Below w.heap.size w w' := by
  have hpf := fun W => playFault_any span clients ds.length W
  generalize playF span clients ds.length = S at *
  obtain ⟨x, y⟩ := S
  have hq : (x == 0) = false := beq_eq_false_iff_ne.2 hp
  obtain ⟨ao, cap, rfl, hc1, hc2⟩ := hv.shape
  obtain ⟨fx, fy, fz, rfl⟩ := hf
  unfold flt at hpf
  have HPF := hide hpf
  clear hpf hp hv
  go_enter Try.func49, Try.ntmps49
  go_wp2_with fail
  refine (HPF.out _).mono ?_
  rintro e w1 ⟨rfl, hb1⟩
  have hbw1 := (below_alloc2 w (.cells #[.int .i64 0, .int .i64 0, .int .i64 0, .int .i64 0, .slice none 0 0, .slice none 0 0, .slice none 0 0, .slice none 0 0] 64) (.cells #[.int .i64 0, .int .i64 0] 26)).trans (hb1.mono (by simp; omega))
  have hR1 := (Blk.at0of2 w (.cells #[.int .i64 0, .int .i64 0] 26) 64 #[.int .i64 0, .int .i64 0, .int .i64 0, .int .i64 0, .slice none 0 0, .slice none 0 0, .slice none 0 0, .slice none 0 0]).later hb1
  have hF1 := (Blk.at1 w (.cells #[.int .i64 0, .int .i64 0, .int .i64 0, .int .i64 0, .slice none 0 0, .slice none 0 0, .slice none 0 0, .slice none 0 0] 64) 26 #[.int .i64 0, .int .i64 0]).later hb1
  have rc0 := hR1.cell 0
  have rc1 := hR1.cell 1
  have rc2 := hR1.cell 2
  have rc3 := hR1.cell 3
  have rc4 := hR1.cell 4
  have rc5 := hR1.cell 5
  have rc6 := hR1.cell 6
  have rc7 := hR1.cell 7
  have rz0 := hR1.frozen 0
  have rz1 := hR1.frozen 1
  have rz2 := hR1.frozen 2
  have rz3 := hR1.frozen 3
  have rz4 := hR1.frozen 4
  have rz5 := hR1.frozen 5
  have rz6 := hR1.frozen 6
  have rz7 := hR1.frozen 7
  have rl := hR1.lt
  simp at rc0 rc1 rc2 rc3 rc4 rc5 rc6 rc7
  have fc0 := hF1.cell 0
  have fc1 := hF1.cell 1
  have fz0 := hF1.frozen 0
  have fz1 := hF1.frozen 1
  have fl := hF1.lt
  simp at fc0 fc1
  have HR0 := hide hR1
  have HF0 := hide hF1
  have HRA := hide (hR1.later (below_allocG w1 (.cells #[.int .i64 x, .int .i64 y] 26)))
  have HRB := hide (((hR1.other (p := ⟨w.heap.size + 1, 0, none⟩) (show w.heap.size ≠ w.heap.size + 1 by omega) (.int .i64 x)).other (p := ⟨w.heap.size + 1, 1, none⟩) (show w.heap.size ≠ w.heap.size + 1 by omega) (.int .i64 y)).later (below_allocG _ (.cells #[.int .i64 x, .int .i64 y] 26)))
  have hsz := hbw1.size
  clear hb1 hR1 hF1
  have g0 := fun W (hW : Below (w1.heap.size + 1) (w1.alloc (.cells #[.int .i64 x, .int .i64 y] 26)) W) => (Blk.new w1 26 #[.int .i64 x, .int .i64 y]).below hW (by omega)
  have HKEEP : Hid (∀ W, Below (w1.heap.size + 1) (w1.alloc (.cells #[.int .i64 x, .int .i64 y] 26)) W → W.cell? ⟨w1.heap.size, 0, none⟩ = some (.int .i64 x) ∧ W.cell? ⟨w1.heap.size, 1, none⟩ = some (.int .i64 y)) := hide fun W hW => ⟨(g0 W hW).cell 0, (g0 W hW).cell 1⟩
  clear g0
  go_upto_region 3 with fail
  go_cut [] (fun wc => Blk wc w.heap.size 64 #[.int .i64 0, .int .i64 0, .int .i64 0, .int .i64 0, .slice none 0 0, .slice none 0 0, .slice none 0 0, .slice none 0 0] ∧ Blk wc (w.heap.size + 1) 26 #[.int .i64 x, .int .i64 y] ∧ Below w.heap.size w wc)
  case first =>
    go_region
    all_goals
      have hR9 := ((((((((((HR0.out.set 0 (.int .i64 0)).set 1 (.int .i64 0)).set 2 (.int .i64 0)).set 3 (.int .i64 0)).set 4 (.slice none 0 0)).set 5 (.slice none 0 0)).set 6 (.slice none 0 0)).set 7 (.slice none 0 0)).other (p := ⟨w.heap.size + 1, 0, none⟩) (show w.heap.size ≠ w.heap.size + 1 by omega) (.int .i64 x)).other (p := ⟨w.heap.size + 1, 1, none⟩) (show w.heap.size ≠ w.heap.size + 1 by omega) (.int .i64 y)).later (below_allocG _ (.cells #[.int .i64 x, .int .i64 y] 26))
      simp only [List.setIfInBounds_toArray, List.set_cons_succ, List.set_cons_zero] at hR9
      have hF9 := ((((((((((HF0.out.other (p := ⟨w.heap.size, 0, none⟩) (show w.heap.size + 1 ≠ w.heap.size by omega) (.int .i64 0)).other (p := ⟨w.heap.size, 1, none⟩) (show w.heap.size + 1 ≠ w.heap.size by omega) (.int .i64 0)).other (p := ⟨w.heap.size, 2, none⟩) (show w.heap.size + 1 ≠ w.heap.size by omega) (.int .i64 0)).other (p := ⟨w.heap.size, 3, none⟩) (show w.heap.size + 1 ≠ w.heap.size by omega) (.int .i64 0)).other (p := ⟨w.heap.size, 4, none⟩) (show w.heap.size + 1 ≠ w.heap.size by omega) (.slice none 0 0)).other (p := ⟨w.heap.size, 5, none⟩) (show w.heap.size + 1 ≠ w.heap.size by omega) (.slice none 0 0)).other (p := ⟨w.heap.size, 6, none⟩) (show w.heap.size + 1 ≠ w.heap.size by omega) (.slice none 0 0)).other (p := ⟨w.heap.size, 7, none⟩) (show w.heap.size + 1 ≠ w.heap.size by omega) (.slice none 0 0)).set 0 (.int .i64 x)).set 1 (.int .i64 y)).later (below_allocG _ (.cells #[.int .i64 x, .int .i64 y] 26))
      simp only [List.setIfInBounds_toArray, List.set_cons_succ, List.set_cons_zero] at hF9
      have hb9 : Below w.heap.size w ((((((((((((w1.setCell ⟨w.heap.size, 0, none⟩ (.int .i64 0)).setCell ⟨w.heap.size, 1, none⟩ (.int .i64 0)).setCell ⟨w.heap.size, 2, none⟩ (.int .i64 0)).setCell ⟨w.heap.size, 3, none⟩ (.int .i64 0)).setCell ⟨w.heap.size, 4, none⟩ (.slice none 0 0)).setCell ⟨w.heap.size, 5, none⟩ (.slice none 0 0)).setCell ⟨w.heap.size, 6, none⟩ (.slice none 0 0)).setCell ⟨w.heap.size, 7, none⟩ (.slice none 0 0)).setCell ⟨w.heap.size + 1, 0, none⟩ (.int .i64 x)).setCell ⟨w.heap.size + 1, 1, none⟩ (.int .i64 y)).alloc (.cells #[.int .i64 x, .int .i64 y] 26))) := by go_grown
      clear rc0 rc1 rc2 rc3 rc4 rc5 rc6 rc7 rz0 rz1 rz2 rz3 rz4 rz5 rz6 rz7 rl fc0 fc1 fz0 fz1 fl
      generalize ((((((((((w1.setCell ⟨w.heap.size, 0, none⟩ (.int .i64 0)).setCell ⟨w.heap.size, 1, none⟩ (.int .i64 0)).setCell ⟨w.heap.size, 2, none⟩ (.int .i64 0)).setCell ⟨w.heap.size, 3, none⟩ (.int .i64 0)).setCell ⟨w.heap.size, 4, none⟩ (.slice none 0 0)).setCell ⟨w.heap.size, 5, none⟩ (.slice none 0 0)).setCell ⟨w.heap.size, 6, none⟩ (.slice none 0 0)).setCell ⟨w.heap.size, 7, none⟩ (.slice none 0 0)).setCell ⟨w.heap.size + 1, 0, none⟩ (.int .i64 x)).setCell ⟨w.heap.size + 1, 1, none⟩ (.int .i64 y)).alloc (.cells #[.int .i64 x, .int .i64 y] 26) = wz at hR9 hF9 hb9 ⊢
      go_wp2_with fail
      go_meet
      case rel => exact ⟨hR9, hF9, hb9.drew⟩
  case rest =>
    obtain ⟨hR9, hF9, hb9⟩ := hcut
    clear rc0 rc1 rc2 rc3 rc4 rc5 rc6 rc7 rz0 rz1 rz2 rz3 rz4 rz5 rz6 rz7 rl fc0 fc1 fz0 fz1 fl
    have rc0 := hR9.cell 0
    have rc1 := hR9.cell 1
    have rc2 := hR9.cell 2
    have rc3 := hR9.cell 3
    have rc4 := hR9.cell 4
    have rc5 := hR9.cell 5
    have rc6 := hR9.cell 6
    have rc7 := hR9.cell 7
    have rl := hR9.lt
    have fc0 := hF9.cell 0
    have fc1 := hF9.cell 1
    have fl := hF9.lt
    simp at rc0 rc1 rc2 rc3 rc4 rc5 rc6 rc7 fc0 fc1
    go_wp2_with fail
    exact bodyPost_ret (v := .tuple #[ctV noCt (.slice none 0 0) (.slice none 0 0) (.slice none 0 0) (.slice none 0 0), flt (x, y)]) (by simp [results, Try.results49, go_sem, flt, ctV, noCt, zeroLs, rc0, rc1, rc2, rc3, rc4, rc5, rc6, rc7, fc0, fc1]) rfl ⟨rfl, hb9⟩

end Go.Proofs.Ytfmoniabpinceaf
