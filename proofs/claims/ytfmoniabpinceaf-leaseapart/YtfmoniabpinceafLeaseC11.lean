/-
  The walks over lease.playFault and played.
-/
import Derived.Test.YtfmoniabpinceafLeaseC3
import Derived.Test.YtfmoniabpinceafLeaseW5
import Derived.Laws.MakeOwn
namespace Go.Proofs.Ytfmoniabpinceaf
open Go.RowKit
set_option linter.unusedVariables false

/-- What is wrong ahead of all deeds. -/
def playF (span clients nd : Int) : Int × Int :=
  if (spanF span).1 ≠ 0 then spanF span else if clients < 1 ∨ 8 < clients then (3, -1) else if 2000 < nd then (2, -1) else (0, 0)

theorem playF_ok {span clients nd : Int} (h : (playF span clients nd).1 = 0) : playF span clients nd = (0, 0) ∧ (4 ≤ span ∧ span ≤ 1000000) ∧ (1 ≤ clients ∧ clients ≤ 8) ∧ nd ≤ 2000 := by
  unfold playF at h ⊢
  by_cases h0 : (spanF span).1 ≠ 0
  · rw [if_pos h0] at h; exact absurd h h0
  rw [if_neg h0] at h ⊢
  have hs := (spanF_ok (Decidable.not_not.1 h0)).2
  by_cases h1 : clients < 1 ∨ 8 < clients
  · rw [if_pos h1] at h; cases h
  rw [if_neg h1] at h ⊢
  by_cases h2 : 2000 < nd
  · rw [if_pos h2] at h; cases h
  rw [if_neg h2]
  exact ⟨rfl, hs, by omega, by omega⟩

set_option maxRecDepth 100000 in
set_option maxHeartbeats 1000000 in
theorem playFault_any (span clients nd : Int) (w : World) : Calls Try.prog 63 #[.int .i64 span, .int .i64 clients, .int .i64 nd] w fun e w' => e = .returned (flt (playF span clients nd)) ∧ Below w.heap.size w w' := by
  have hsp := fun W => spanFault_any span W
  have HD : Hid (playF span clients nd = if (spanF span).1 ≠ 0 then spanF span else if clients < 1 ∨ 8 < clients then (3, -1) else if 2000 < nd then (2, -1) else (0, 0)) := hide rfl
  by_cases h0 : (spanF span).1 ≠ 0
  · have HE := hide (HD.out.trans ((if_pos h0).trans (spanF_bad h0)))
    rw [spanF_bad h0] at hsp
    have HSP := hide hsp
    clear hsp h0 HD
    go_enter Try.func63, Try.ntmps63
    go_wp2_with fail
    refine (HSP.out _).mono ?_
    rintro e w1 ⟨rfl, hb1⟩
    have hbw1 := (below_allocG w (.cells #[.int .i64 0, .int .i64 0] 26)).trans (hb1.mono (by simp))
    have hF := (Blk.new w 26 #[.int .i64 0, .int .i64 0]).later hb1
    have fc0 := hF.cell 0
    have fc1 := hF.cell 1
    have fz0 := hF.frozen 0
    have fz1 := hF.frozen 1
    have fl := hF.lt
    simp at fc0 fc1
    have hsz := hbw1.size
    clear hb1
    unfold flt
    go_wp2_with fail
    exact bodyPost_ret (v := flt (3, -3)) (by simp [results, Try.results63, go_sem, flt, fc0, fc1, fl]) rfl ⟨by rw [HE.out], by go_grown⟩
  · have HD := hide (HD.out.trans (if_neg h0))
    rw [(spanF_ok (Decidable.not_not.1 h0)).1] at hsp
    have HSP := hide hsp
    clear hsp h0
    by_cases h1 : clients < 1
    · have HE := hide (HD.out.trans (if_pos (.inl h1)))
      go_enter Try.func63, Try.ntmps63
      go_wp2_with fail
      refine (HSP.out _).mono ?_
      rintro e w1 ⟨rfl, hb1⟩
      have hbw1 := (below_allocG w (.cells #[.int .i64 0, .int .i64 0] 26)).trans (hb1.mono (by simp))
      have hF := (Blk.new w 26 #[.int .i64 0, .int .i64 0]).later hb1
      have fc0 := hF.cell 0
      have fc1 := hF.cell 1
      have fz0 := hF.frozen 0
      have fz1 := hF.frozen 1
      have fl := hF.lt
      simp at fc0 fc1
      have hsz := hbw1.size
      clear hb1
      unfold flt
      go_wp2_with fail
      exact bodyPost_ret (v := flt (3, -1)) (by simp [results, Try.results63, go_sem, flt, fc0, fc1, fl]) rfl ⟨by rw [HE.out], by go_grown⟩
    · by_cases h2 : 8 < clients
      · have HE := hide (HD.out.trans (if_pos (.inr h2)))
        go_enter Try.func63, Try.ntmps63
        go_wp2_with fail
        refine (HSP.out _).mono ?_
        rintro e w1 ⟨rfl, hb1⟩
        have hbw1 := (below_allocG w (.cells #[.int .i64 0, .int .i64 0] 26)).trans (hb1.mono (by simp))
        have hF := (Blk.new w 26 #[.int .i64 0, .int .i64 0]).later hb1
        have fc0 := hF.cell 0
        have fc1 := hF.cell 1
        have fz0 := hF.frozen 0
        have fz1 := hF.frozen 1
        have fl := hF.lt
        simp at fc0 fc1
        have hsz := hbw1.size
        clear hb1
        unfold flt
        go_wp2_with fail
        exact bodyPost_ret (v := flt (3, -1)) (by simp [results, Try.results63, go_sem, flt, fc0, fc1, fl]) rfl ⟨by rw [HE.out], by go_grown⟩
      · have HD := hide (HD.out.trans (if_neg (by omega)))
        by_cases h3 : 2000 < nd
        · have HE := hide (HD.out.trans (if_pos h3))
          go_enter Try.func63, Try.ntmps63
          go_wp2_with fail
          refine (HSP.out _).mono ?_
          rintro e w1 ⟨rfl, hb1⟩
          have hbw1 := (below_allocG w (.cells #[.int .i64 0, .int .i64 0] 26)).trans (hb1.mono (by simp))
          have hF := (Blk.new w 26 #[.int .i64 0, .int .i64 0]).later hb1
          have fc0 := hF.cell 0
          have fc1 := hF.cell 1
          have fz0 := hF.frozen 0
          have fz1 := hF.frozen 1
          have fl := hF.lt
          simp at fc0 fc1
          have hsz := hbw1.size
          clear hb1
          unfold flt
          go_wp2_with fail
          exact bodyPost_ret (v := flt (2, -1)) (by simp [results, Try.results63, go_sem, flt, fc0, fc1, fl]) rfl ⟨by rw [HE.out], by go_grown⟩
        · have HE := hide (HD.out.trans (if_neg h3))
          go_enter Try.func63, Try.ntmps63
          go_wp2_with fail
          refine (HSP.out _).mono ?_
          rintro e w1 ⟨rfl, hb1⟩
          have hbw1 := (below_allocG w (.cells #[.int .i64 0, .int .i64 0] 26)).trans (hb1.mono (by simp))
          have hF := (Blk.new w 26 #[.int .i64 0, .int .i64 0]).later hb1
          have fc0 := hF.cell 0
          have fc1 := hF.cell 1
          have fz0 := hF.frozen 0
          have fz1 := hF.frozen 1
          have fl := hF.lt
          simp at fc0 fc1
          have hsz := hbw1.size
          clear hb1
          unfold flt
          go_wp2_with fail
          exact bodyPost_ret (v := flt (0, 0)) (by simp [results, Try.results63, go_sem, flt, fc0, fc1, fl]) rfl ⟨by rw [HE.out], by go_grown⟩

/-- What is wrong with the first deed that has a fault. -/
def badAt (span : Int) : Ct → List Dd → Nat → Int × Int
  | _, [], _ => (0, 0)
  | c, d :: r, i => if stepC c span d ≠ 0 then (stepC c span d, (i : Int)) else badAt span (doC c span d) r (i + 1)

def playR (span clients : Int) (ds : List Dd) : Int × Int :=
  if (playF span clients ds.length).1 ≠ 0 then playF span clients ds.length else badAt span (court0 clients.toNat) ds 0

theorem badAt_stop {span : Int} {c : Ct} {d : Dd} {r : List Dd} {i : Nat} (h : stepC c span d ≠ 0) : badAt span c (d :: r) i = (stepC c span d, (i : Int)) := by rw [badAt, if_pos h]
theorem badAt_on {span : Int} {c : Ct} {d : Dd} {r : List Dd} {i : Nat} (h : stepC c span d = 0) : badAt span c (d :: r) i = badAt span (doC c span d) r (i + 1) := by rw [badAt, if_neg (by simp [h])]

theorem made_rep (z : Array Value) (v : Value) (h0 : 0 < z.size) (hz : ∀ i, i < z.size → z[i]! = v) (k : Nat) : (madeCells z k).toList = List.replicate k v := by
  apply List.ext_getElem
  · simp [size_madeCells]
  · intro i h1 h2
    simp [madeCells, hz _ (Nat.mod_lt i h0)]

theorem iE_rep (n : Nat) : iE.vs (List.replicate n 0) = List.replicate n (.int .i64 0) := by rw [iE_vs, List.map_replicate]
theorem tE_rep : ∀ n : Nat, tE.vs (List.replicate n ⟨0, 0⟩) = List.replicate (n * 2) (.int .i64 0)
  | 0 => rfl
  | n + 1 => by
    have e : (n + 1) * 2 = n * 2 + 1 + 1 := by omega
    rw [List.replicate_succ, vs_cons, tE_rep n, e, List.replicate_succ, List.replicate_succ]
    rfl

theorem infoInt1 : (Try.prog.info? 3).map (fun i => (i.zero, i.size, i.bytes)) = some (some (.int .i64 0), 1, 8) := by kernel_rfl

theorem infoTr : (Try.prog.info? 80).map (fun i => (i.zero, i.size, i.bytes)) = some (some (.agg #[.int .i64 0, .int .i64 0]), 2, 16) := by kernel_rfl

theorem mkInts (n : Nat) (hn : n ≤ 8) (W : World) : (Instr.makeSlice 57 (.int .i64 n) (.int .i64 n)).run Try.prog W = .ok (.slice (some ⟨W.heap.size, 0, none⟩) n n) (W.alloc (.cells (madeCells #[.int .i64 0] n) 3)) := by
  obtain ⟨i, hi, hz, hs, hb⟩ := info_parts infoInt1
  have := run_make (P := Try.prog) W 57 3 i _ Try.underlying57 hi hz .i64 .i64 n n (by omega) (Int.le_refl _) (by rw [hb]; omega) (by omega)
  rw [hs] at this
  simp only [Int.toNat_natCast, Nat.mul_one] at this
  exact this

theorem mkTrusts (n : Nat) (hn : n ≤ 8) (W : World) : (Instr.makeSlice 60 (.int .i64 n) (.int .i64 n)).run Try.prog W = .ok (.slice (some ⟨W.heap.size, 0, none⟩) n n) (W.alloc (.cells (madeCells #[.int .i64 0, .int .i64 0] (n * 2)) 80)) := by
  obtain ⟨i, hi, hz, hs, hb⟩ := info_parts infoTr
  have := run_make (P := Try.prog) W 60 80 i _ Try.underlying60 hi hz .i64 .i64 n n (by omega) (Int.le_refl _) (by rw [hb]; omega) (by omega)
  rw [hs] at this
  simp only [Int.toNat_natCast] at this
  exact this

/-- A court as a value. -/
def ctV (c : Ct) (vc vt vw vr : Value) : Value := .agg #[.int .i64 c.now, .int .i64 c.lease.hold, .int .i64 c.lease.ep, .int .i64 c.lease.til, vc, vt, vw, vr]

/-- A court's lists, as they read. -/
def CtRd (w : World) (c : Ct) (vc vt vw vr : Value) : Prop := RdG iE w vc c.clocks ∧ RdG tE w vt c.trusts ∧ RdG wsE w vw c.wishes ∧ RdG rpE w vr c.replies

def noCt : Ct := ⟨0, zeroLs, [], [], [], []⟩

/-- The court that is told: nothing, where there is a fault. -/
def playC (span clients : Int) (ds : List Dd) : Ct := if (playR span clients ds).1 = 0 then runC span clients.toNat ds ds.length else noCt

theorem runC_get {span : Int} {n : Nat} {ds : List Dd} {j : Nat} {d : Dd} (h : ds[j]? = some d) : runC span n ds (j + 1) = doC (runC span n ds j) span d := runC_succ h

theorem drop_consD {ds : List Dd} {j : Nat} {d : Dd} (h : ds[j]? = some d) : ds.drop j = d :: ds.drop (j + 1) := by
  obtain ⟨hl, rfl⟩ := List.getElem?_eq_some_iff.1 h
  exact List.drop_eq_getElem_cons hl

theorem zero_one : ∀ i, i < (#[.int .i64 0] : Array Value).size → (#[.int .i64 0] : Array Value)[i]! = .int .i64 0 := by
  intro i hi
  have h : i = 0 := by simpa using hi
  subst h
  rfl

theorem zero_two : ∀ i, i < (#[.int .i64 0, .int .i64 0] : Array Value).size → (#[.int .i64 0, .int .i64 0] : Array Value)[i]! = .int .i64 0 := by
  intro i hi
  have h : i = 0 ∨ i = 1 := by
    simp at hi
    omega
  rcases h with rfl | rfl <;> rfl

/-- The court ahead of all deeds, in memory. -/
theorem ct0_at (w : World) (n : Nat) (hn : n ≤ 8) (span : Int) (V : Nat) (hV : w.heap.size = V) :
    CtAt (((w.alloc (.cells #[.int .i64 0, .int .i64 0, .int .i64 0, .int .i64 0, .slice (some ⟨V + 1, 0, none⟩) n n, .slice (some ⟨V + 1 + 1, 0, none⟩) n n, .slice none 0 0, .slice none 0 0, .int .i64 span] 116)).alloc (.cells (madeCells #[.int .i64 0] n) 3)).alloc (.cells (madeCells #[.int .i64 0, .int .i64 0] (n * 2)) 80)) V span (court0 n) (.slice (some ⟨V + 1, 0, none⟩) n n) (.slice (some ⟨V + 1 + 1, 0, none⟩) n n) (.slice none 0 0) (.slice none 0 0) := by
  subst hV
  have hm : n ≤ maxLen := by unfold maxLen; omega
  refine ⟨?_, ?_, ?_, ?_, ?_⟩
  · exact Blk.at0of3 w _ _ _ _
  · have h := World.ownsRow_lit (base := w.heap.size + 1) (e := 3) (size := 1) (w.alloc (.cells #[.int .i64 0, .int .i64 0, .int .i64 0, .int .i64 0, .slice (some ⟨w.heap.size + 1, 0, none⟩) n n, .slice (some ⟨w.heap.size + 1 + 1, 0, none⟩) n n, .slice none 0 0, .slice none 0 0, .int .i64 span] 116)) (madeCells #[.int .i64 0] n) n (by simp) hm (by simp [size_madeCells])
    rw [made_rep _ (.int .i64 0) (by decide) zero_one, ← iE_rep] at h
    have h2 := owns_below h (below_allocG _ (.cells (madeCells #[.int .i64 0, .int .i64 0] (n * 2)) 80))
    simpa [court0] using h2
  · have h := World.ownsRow_lit (base := w.heap.size + 1) (e := 80) (size := 2) ((w.alloc (.cells #[.int .i64 0, .int .i64 0, .int .i64 0, .int .i64 0, .slice (some ⟨w.heap.size + 1, 0, none⟩) n n, .slice (some ⟨w.heap.size + 1 + 1, 0, none⟩) n n, .slice none 0 0, .slice none 0 0, .int .i64 span] 116)).alloc (.cells (madeCells #[.int .i64 0] n) 3)) (madeCells #[.int .i64 0, .int .i64 0] (n * 2)) n (by simp) hm (by simp [size_madeCells])
    rw [made_rep _ (.int .i64 0) (by decide) zero_two, ← tE_rep] at h
    simpa [court0] using h
  · exact World.ownsRow_nil _ _ _ _
  · exact World.ownsRow_nil _ _ _ _

end Go.Proofs.Ytfmoniabpinceaf
