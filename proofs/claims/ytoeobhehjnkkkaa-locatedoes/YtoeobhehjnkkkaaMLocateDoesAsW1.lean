/-
  Texts joined: AsW1.
-/
import Derived.Test.YtoeobhehjnkkkaaMLocateDoes4
/-
  The walks over package assign's checks.
-/
namespace Go.Proofs.Ytoeobhehjnkkkaa
open Go.RowKit Go.Maps
set_option linter.unusedVariables false

theorem zeroHost (w : World) : (zeroValue 42).run Try.prog w = .ok (.agg #[.int .i64 0, .int .i64 0, .bool false]) w := by kernel_rfl

theorem Try.sizeInt1 : (Try.prog.info? 3).map (·.size) = some 1 := by kernel_rfl
theorem Try.sizeFaultA : (Try.prog.info? 30).map (·.size) = some 2 := by kernel_rfl
theorem Try.sizeBoard : (Try.prog.info? 27).map (·.size) = some 4 := by kernel_rfl
theorem Try.sizeHost : (Try.prog.info? 42).map (·.size) = some 3 := by kernel_rfl
theorem Try.sizeSlot : (Try.prog.info? 46).map (·.size) = some 6 := by kernel_rfl
theorem Try.sizePartA : (Try.prog.info? 44).map (·.size) = some 3 := by kernel_rfl
theorem infoHost : (Try.prog.info? 42).map (fun i => (i.zero, i.size, i.bytes)) = some (some (.agg #[.int .i64 0, .int .i64 0, .bool false]), 3, 24) := by kernel_rfl
theorem infoSlot : (Try.prog.info? 46).map (fun i => (i.zero, i.size, i.bytes)) = some (some (.agg #[.string ⟨#[]⟩, .string ⟨#[]⟩, .int .i64 0, .int .i64 0, .int .i64 0, .int .i64 0]), 6, 64) := by kernel_rfl

/-- A board as a value. -/
def bdV (hv sv : Value) (b : Bd) : Value := .agg #[hv, sv, .int .i64 b.tu, .int .i64 b.nx]

theorem AtG.host {w : World} {b off : Nat} {c : Ho} (h : AtG hoE w b off c) :
    w.cell? ⟨b, off, none⟩ = some (.int .i64 c.id) ∧ w.cell? ⟨b, off + 1, none⟩ = some (.int .i64 c.ep) ∧ w.cell? ⟨b, off + 2, none⟩ = some (.bool c.al) :=
  ⟨h 0 _ rfl, h 1 _ rfl, h 2 _ rfl⟩

theorem AtG.slot {w : World} {b off : Nat} {c : Sl} (h : AtG slE w b off c) :
    w.cell? ⟨b, off, none⟩ = some (.string c.p.fr) ∧ w.cell? ⟨b, off + 1, none⟩ = some (.string c.p.to_) ∧ w.cell? ⟨b, off + 2, none⟩ = some (.int .i64 c.p.id) ∧ w.cell? ⟨b, off + 3, none⟩ = some (.int .i64 c.st) ∧ w.cell? ⟨b, off + 4, none⟩ = some (.int .i64 c.ho) ∧ w.cell? ⟨b, off + 5, none⟩ = some (.int .i64 c.tu) :=
  ⟨h 0 _ rfl, h 1 _ rfl, h 2 _ rfl, h 3 _ rfl, h 4 _ rfl, h 5 _ rfl⟩

set_option maxRecDepth 100000 in
set_option maxHeartbeats 400000 in
theorem isFromOne_any (n : Int) (w : World) : Calls Try.prog 89 #[.int .i64 n] w fun e w' => e = .returned (.bool (oneB n)) ∧ w' = w := by
  by_cases h1 : 0 < n
  · have hd : decide (0 < n) = true := decide_eq_true h1
    have HE := hide (show oneB n = numB n by unfold oneB; simp [h1])
    go_enter Try.func89, Try.ntmps89
    go_wp2_with (go_at_call 98; refine (vIsNum_any _ _).mono ?_; rintro e w' ⟨rfl, rfl⟩)
    go_ret
    exact ⟨by rw [HE.out]; rfl, rfl⟩
  · have hd : decide (0 < n) = false := decide_eq_false h1
    have HE := hide (show oneB n = false by unfold oneB; simp [h1])
    go_enter Try.func89, Try.ntmps89
    go_wp2_with fail
    go_ret
    exact ⟨by rw [HE.out]; rfl, rfl⟩

/-- What is wrong with a board's own numbers. -/
def nmF (b : Bd) : Int × Int := if numB b.tu = false ∨ oneB b.nx = false then (3, -2) else (0, 0)

set_option maxRecDepth 100000 in
set_option maxHeartbeats 1000000 in
theorem numbersFaultA_any (b : Bd) (hv sv : Value) (w : World) (hh : RdG hoE w hv b.hs) (hs : RdG slE w sv b.sl) :
    Calls Try.prog 71 #[bdV hv sv b] w fun e w' => e = .returned (flt (nmF b)) ∧ Below w.heap.size w w' := by
  obtain ⟨ah, ch, rfl, _, _⟩ := hh.shape
  obtain ⟨as_, cs, rfl, _, _⟩ := hs.shape
  clear hh hs
  unfold bdV
  cases h1 : numB b.tu
  · have HE := hide (show nmF b = (3, -2) from if_pos (.inl h1))
    go_enter Try.func71, Try.ntmps71
    go_wp2_with (first
      | (go_at_call 98; refine (vIsNum_any _ _).mono ?_; rintro e w' ⟨rfl, rfl⟩; rw [h1]))
    exact bodyPost_ret (v := flt (3, -2)) (by simp [results, Try.results71, go_sem, flt]) rfl ⟨by rw [HE.out], by go_grown⟩
  cases h2 : oneB b.nx
  · have HE := hide (show nmF b = (3, -2) from if_pos (.inr h2))
    go_enter Try.func71, Try.ntmps71
    go_wp2_with (first
      | (go_at_call 98; refine (vIsNum_any _ _).mono ?_; rintro e w' ⟨rfl, rfl⟩; rw [h1])
      | (go_at_call 89; refine (isFromOne_any _ _).mono ?_; rintro e w' ⟨rfl, rfl⟩; rw [h2]))
    exact bodyPost_ret (v := flt (3, -2)) (by simp [results, Try.results71, go_sem, flt]) rfl ⟨by rw [HE.out], by go_grown⟩
  · have HE := hide (show nmF b = (0, 0) from if_neg (by rw [h1, h2]; simp))
    go_enter Try.func71, Try.ntmps71
    go_wp2_with (first
      | (go_at_call 98; refine (vIsNum_any _ _).mono ?_; rintro e w' ⟨rfl, rfl⟩; rw [h1])
      | (go_at_call 89; refine (isFromOne_any _ _).mono ?_; rintro e w' ⟨rfl, rfl⟩; rw [h2]))
    exact bodyPost_ret (v := flt (0, 0)) (by simp [results, Try.results71, go_sem, flt]) rfl ⟨by rw [HE.out], by go_grown⟩

/-- The map of the first k hosts. -/
def hoM (l : List Ho) (k : Nat) (id : Int) : Option Value := (hoF l k id).map hoE.ag

theorem hoM_zero (l : List Ho) : hoM l 0 = fun _ => none := by
  funext id
  simp [hoM, hoF]

theorem hoM_succ {l : List Ho} {k : Nat} {h : Ho} (hh : l[k]? = some h) (hn : hoAhead l k h.id = false) : hoM l (k + 1) = fun id => if id = h.id then some (hoE.ag h) else hoM l k id := by
  funext id
  unfold hoM
  rw [hoF_succ hh hn]
  split <;> rfl

set_option maxRecDepth 100000 in
set_option maxHeartbeats 4000000 in
theorem hostsByID_any (v : Value) (l : List Ho) (w : World) (hv : RdG hoE w v l) :
    Calls Try.prog 70 #[v] w fun e w' => ∃ m, e = .returned (.tuple #[m, flt (chkH l)]) ∧ Below w.heap.size w w' ∧ ((m = .map none ∧ (chkH l).1 ≠ 0) ∨ (m = .map (some (w.heap.size + 1)) ∧ (chkH l).1 = 0 ∧ MpI w' (w.heap.size + 1) l.length (hoM l l.length))) := by
  obtain ⟨ao, cap, hvv, hc1, hc2⟩ := hv.shape
  subst hvv
  unfold maxLen at hc2
  by_cases hbig : 20 < l.length
  · have HE := hide (show chkH l = (2, -1) by simp [chkH, hbig])
    go_enter Try.func70, Try.ntmps70
    go_wp2_with fail
    exact bodyPost_ret (v := .tuple #[.map none, flt (2, -1)]) (by simp [results, Try.results70, go_sem, flt]) rfl ⟨_, by rw [HE.out], by go_grown, .inl ⟨rfl, by rw [HE.out]; simp⟩⟩
  have HF := hide (show chkH l = chkHGo l l.length 0 by simp [chkH, hbig])
  have hmm := @run_makeMap Try.prog
  have hlen : l.length ≤ 20 := by omega
  go_enter Try.func70, Try.ntmps70
  go_wp2_with fail
  go_loopw [16] (fun i wr => ∃ k : Nat, k ≤ l.length ∧ i = .int .i64 k ∧ chkHGo l (l.length - k) k = chkH l ∧ MpI wr (w.heap.size + 1) k (hoM l k) ∧ Blk wr w.heap.size 30 #[.int .i64 0, .int .i64 0] ∧ Below w.heap.size w wr)
    (fun i _ => l.length - (intOf i).toNat)
  case atStart =>
    refine ⟨0, by omega, rfl, by rw [HF.out]; rfl, ?_, ?_, by go_grown⟩
    · rw [hoM_zero]
      have := MpI.made (w.alloc (.cells #[.int .i64 0, .int .i64 0] 30))
      simpa using this
    · exact (Blk.new w _ _).later (below_allocG _ _)
  case round =>
    obtain ⟨k, hk, rfl, hgo, hmap, hblk, hbel⟩ := hrel
    have HG := hide hgo
    clear hgo
    by_cases hlt : k < l.length
    · obtain ⟨h, hp⟩ : ∃ h, l[k]? = some h := ⟨_, List.getElem?_eq_getElem hlt⟩
      obtain ⟨b, off, rfl, hb, hat⟩ := hv.here hp
      have hbr : b < wr.heap.size := Nat.lt_of_lt_of_le hb hbel.size
      obtain ⟨c0, c1, c2⟩ := (hat.below hbel).host
      have hk1 : (0 : Int) ≤ (k : Int) := by omega
      have hk2 : (k : Int) < (l.length : Int) := by omega
      have hgd : l.getD k zeroHo = h := by rw [List.getD_eq_getElem?_getD, hp]; rfl
      have HC : Hid (codeH l k = if oneB h.id = false ∨ oneB h.ep = false then 3 else if hoAhead l k h.id then 10 else 0) := hide (by simp only [codeH, hgd])
      have HP := hide hp
      have hP1 := Blk.new wr 42 #[.int .i64 h.id, .int .i64 h.ep, .bool h.al]
      have hF1 := hblk.later (below_allocG wr (.cells #[.int .i64 h.id, .int .i64 h.ep, .bool h.al] 42))
      have hM1 := hmap.later (below_allocG wr (.cells #[.int .i64 h.id, .int .i64 h.ep, .bool h.al] 42))
      have hbel1 : Below w.heap.size w (wr.alloc (.cells #[.int .i64 h.id, .int .i64 h.ep, .bool h.al] 42)) := hbel.trans ((below_allocG wr _).mono hbel.size)
      clear hat hp hgd
      cases q1 : oneB h.id
      · have HE := hide (show chkH l = (3, (k : Int)) by
          have h2 : codeH l k = 3 := HC.out.trans (if_pos (.inl q1))
          rw [← HG.out, show l.length - k = l.length - k - 1 + 1 by omega, chkHGo_no (by rw [h2]; decide), h2])
        have f0 := hF1.cell 0
        have f1 := hF1.cell 1
        have g0 := hF1.frozen 0
        have g1 := hF1.frozen 1
        have hfl := hF1.lt
        simp at f0 f1 hfl
        clear hP1 hF1 hM1
        go_wp2_with (go_at_call 89; refine (isFromOne_any _ _).mono ?_; rintro e w' ⟨rfl, rfl⟩; rw [q1])
        exact bodyPost_ret (v := .tuple #[.map none, flt (3, k)]) (by simp [results, Try.results70, go_sem, flt, f0, f1]) rfl ⟨_, by rw [HE.out], by go_grown, .inl ⟨rfl, by rw [HE.out]; simp⟩⟩
      cases q2 : oneB h.ep
      · have HE := hide (show chkH l = (3, (k : Int)) by
          have h2 : codeH l k = 3 := HC.out.trans (if_pos (.inr q2))
          rw [← HG.out, show l.length - k = l.length - k - 1 + 1 by omega, chkHGo_no (by rw [h2]; decide), h2])
        have f0 := hF1.cell 0
        have f1 := hF1.cell 1
        have g0 := hF1.frozen 0
        have g1 := hF1.frozen 1
        have hfl := hF1.lt
        simp at f0 f1 hfl
        clear hP1 hF1 hM1
        go_wp2_with (first
          | (go_at_call_of 89 (Value.int IntKind.i64 h.id); refine (isFromOne_any _ _).mono ?_; rintro e w' ⟨rfl, rfl⟩; rw [q1])
          | (go_at_call_of 89 (Value.int IntKind.i64 h.ep); refine (isFromOne_any _ _).mono ?_; rintro e w' ⟨rfl, rfl⟩; rw [q2]))
        exact bodyPost_ret (v := .tuple #[.map none, flt (3, k)]) (by simp [results, Try.results70, go_sem, flt, f0, f1]) rfl ⟨_, by rw [HE.out], by go_grown, .inl ⟨rfl, by rw [HE.out]; simp⟩⟩
      have hwf : (Lit.int .i64 h.id).wf = true := by
        have := oneB_iff.1 q1
        exact WalkArith.wf_i64 (by omega)
      have HC2 := hide (HC.out.trans (if_neg (by rw [q1, q2]; simp)))
      clear HC
      cases q3 : hoF l k h.id
      case some h2 =>
        have q4 : hoAhead l k h.id = true := by rw [← hoF_some, q3]; rfl
        have HE := hide (show chkH l = (10, (k : Int)) by
          have h2 : codeH l k = 10 := HC2.out.trans (if_pos q4)
          rw [← HG.out, show l.length - k = l.length - k - 1 + 1 by omega, chkHGo_no (by rw [h2]; decide), h2])
        have HL : Hid (hoM l k h.id = some (.agg #[.int .i64 h2.id, .int .i64 h2.ep, .bool h2.al])) := hide (by unfold hoM; rw [q3]; rfl)
        have f0 := hF1.cell 0
        have f1 := hF1.cell 1
        have g0 := hF1.frozen 0
        have g1 := hF1.frozen 1
        have hfl := hF1.lt
        simp at f0 f1 hfl
        have HM1 := hide hM1
        clear hP1 hF1 hM1 q3 q4
        go_wp2_with (first
          | (go_at_call_of 89 (Value.int IntKind.i64 h.id); refine (isFromOne_any _ _).mono ?_; rintro e w' ⟨rfl, rfl⟩; rw [q1])
          | (go_at_call_of 89 (Value.int IntKind.i64 h.ep); refine (isFromOne_any _ _).mono ?_; rintro e w' ⟨rfl, rfl⟩; rw [q2])
          | (at_lookup; refine wpList_lookupI_ok rfl rfl Try.underlying108 (zeroHost _) rfl rfl HM1.out hwf ?_; rw [HL.out]; dsimp only [Option.getD, Option.isSome])
          | go_in)
        exact bodyPost_ret (v := .tuple #[.map none, flt (10, k)]) (by simp [results, Try.results70, go_sem, flt, f0, f1, hfl]) rfl ⟨_, by rw [HE.out], by go_grown, .inl ⟨rfl, by rw [HE.out]; simp⟩⟩
      case none =>
        have q4 : hoAhead l k h.id = false := by rw [← hoF_some, q3]; rfl
        have HE := hide (chkHGo_ok (n := l.length - k - 1) (show codeH l k = 0 from HC2.out.trans (if_neg (by rw [q4]; simp))))
        have HL : Hid (hoM l k h.id = none) := hide (by unfold hoM; rw [q3]; rfl)
        have HN := hide (hoM_succ HP.out q4)
        have hbZ := below_allocG (wr.alloc (.cells #[.int .i64 h.id, .int .i64 h.ep, .bool h.al] 42)) (.cells #[.int .i64 0, .int .i64 0, .bool false] 42)
        have HM1 := hide hM1
        have HM2 := hide (hM1.later hbZ)
        have HF2 := hide (hF1.later hbZ)
        have HB2 := hide (hbel1.trans (hbZ.mono hbel1.size))
        have hP2 := hP1.later hbZ
        have p0 := hP1.cell 0
        have p1 := hP1.cell 1
        have p2 := hP1.cell 2
        have r0 := hP2.cell 0
        have r1 := hP2.cell 1
        have r2 := hP2.cell 2
        simp at p0 p1 p2 r0 r1 r2
        clear hP1 hF1 hM1 hP2 hbZ q3 q4 hmap hblk
        go_wp2_with (first
          | (go_at_call_of 89 (Value.int IntKind.i64 h.id); refine (isFromOne_any _ _).mono ?_; rintro e w' ⟨rfl, rfl⟩; rw [q1])
          | (go_at_call_of 89 (Value.int IntKind.i64 h.ep); refine (isFromOne_any _ _).mono ?_; rintro e w' ⟨rfl, rfl⟩; rw [q2])
          | (at_lookup; refine wpList_lookupI_ok rfl rfl Try.underlying108 (zeroHost _) rfl rfl HM1.out hwf ?_; rw [HL.out]; dsimp only [Option.getD, Option.isSome])
          | (at_mapUpdate; refine wpList_updateI (u := .agg #[.int .i64 h.id, .int .i64 h.ep, .bool h.al]) rfl rfl Try.underlying108 rfl rfl rfl HM2.out (by unfold maxLen; omega) hwf ?_; intro w2 hM3 hg3)
          | go_in)
        have hM4 : MpI w2 (w.heap.size + 1) (k + 1) (hoM l (k + 1)) := by rw [HN.out]; exact hM3
        have hF4 := HF2.out.grown hg3 (by simp)
        have hB4 : Below w.heap.size w w2 := below_grownO HB2.out hg3 (fun j hj => by cases hj; omega) HB2.out.size
        clear hM3 hg3
        go_roundw
        case rel => exact ⟨k + 1, by omega, by go_num, by rw [← HG.out, show l.length - k = l.length - k - 1 + 1 by omega, HE.out]; congr 1, hM4, hF4, hB4⟩
        case measure => simp [intOf]; omega
    · have hz : l.length - k = 0 := by omega
      rw [hz] at HG
      have hke : k = l.length := by omega
      subst hke
      have f0 := hblk.cell 0
      have f1 := hblk.cell 1
      have g0 := hblk.frozen 0
      have g1 := hblk.frozen 1
      have hfl := hblk.lt
      simp at f0 f1
      go_wp2_with fail
      refine bodyPost_ret (v := .tuple #[.map (some (w.heap.size + 1)), flt (0, 0)]) (by simp [results, Try.results70, go_sem, flt, f0, f1]) rfl ⟨_, by rw [← HG.out]; rfl, by go_grown, .inr ⟨rfl, by rw [← HG.out]; rfl, ?_⟩⟩
      exact (hmap.kept (grown_setCell _ w.heap.size 0 (.int .i64 0)) (by simp)).kept (grown_setCell _ w.heap.size 1 (.int .i64 0)) (by simp)

end Go.Proofs.Ytoeobhehjnkkkaa
