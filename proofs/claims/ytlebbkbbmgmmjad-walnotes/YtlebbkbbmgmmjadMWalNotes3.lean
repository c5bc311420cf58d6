/-
  Texts joined: CellW1, CellW2, CellW3, CellW4, CellW5, CellW6, CellMath.
-/
import Derived.Test.YtlebbkbbmgmmjadMWalNotes2
import Derived.Test.YtlebbkbbmgmmjadRows
import Derived.Deep.RegionHeld3
import Derived.Laws.EntriesVeiled
import Derived.Lib.Strings
/-
  The walks over package cell's small functions.
-/
namespace Go.Proofs.Ytlebbkbbmgmmjad
open Go.RowKit

/-- A number that may be a time. -/
def isNumB (n : Int) : Bool := decide (0 ≤ n ∧ n ≤ 1000000000)

set_option maxRecDepth 100000 in
set_option maxHeartbeats 400000 in
theorem isNum_any (n : Int) (w : World) : Calls Try.prog 54 #[.int .i64 n] w fun e w' => e = .returned (.bool (isNumB n)) ∧ w' = w := by
  by_cases h1 : 0 ≤ n
  · have hd : decide (0 ≤ n) = true := by simpa using h1
    go_enter Try.func54, Try.ntmps54
    go_wp2_with fail
    go_ret
    exact ⟨by simp [isNumB, h1], rfl⟩
  · have hd : decide (0 ≤ n) = false := by simpa using h1
    go_enter Try.func54, Try.ntmps54
    go_wp2_with fail
    go_ret
    exact ⟨by simp [isNumB]; omega, rfl⟩

/-- What cmp.Compare tells of texts. -/
def cmpS (a b : ByteArray) : Int := if Op.bytesLess a.toList b.toList then -1 else if a.toList = b.toList then 0 else 1
def cmpI (a b : Int) : Int := if a < b then -1 else if a = b then 0 else 1

set_option maxRecDepth 100000 in
set_option maxHeartbeats 400000 in
theorem isNaNS_any (a : ByteArray) (w : World) : Calls Try.prog 117 #[.string a] w fun e w' => e = .returned (.bool false) ∧ w' = w := by
  have h : (a.toList == a.toList) = true := by simp
  go_enter Try.func117, Try.ntmps117
  go_wp2_with fail
  go_ret
  exact ⟨by simp, rfl⟩

set_option maxRecDepth 100000 in
set_option maxHeartbeats 400000 in
theorem isNaNI_any (a : Int) (w : World) : Calls Try.prog 118 #[.int .i64 a] w fun e w' => e = .returned (.bool false) ∧ w' = w := by
  go_enter Try.func118, Try.ntmps118
  go_wp2_with fail
  go_ret
  exact ⟨by simp, rfl⟩

set_option maxRecDepth 100000 in
set_option maxHeartbeats 400000 in
theorem cmpS_any (a b : ByteArray) (w : World) : Calls Try.prog 97 #[.string a, .string b] w fun e w' => e = .returned (.int .i64 (cmpS a b)) ∧ w' = w := by
  cases h1 : Op.bytesLess a.toList b.toList <;> cases h2 : (a.toList == b.toList)
  all_goals
    go_enter Try.func97, Try.ntmps97
    go_wp2_with (first | (go_at_call 117; refine (isNaNS_any _ _).mono ?_; rintro e w' ⟨rfl, rfl⟩))
    go_ret
    refine ⟨?_, rfl⟩
    first
    | (rw [cmpS, if_pos h1]; rfl)
    | (rw [cmpS, if_neg (by rw [h1]; decide)]; simp only [beq_iff_eq, beq_eq_false_iff_ne] at h2; simp [h2])

set_option maxRecDepth 100000 in
set_option maxHeartbeats 400000 in
theorem cmpI_any (a b : Int) (w : World) : Calls Try.prog 98 #[.int .i64 a, .int .i64 b] w fun e w' => e = .returned (.int .i64 (cmpI a b)) ∧ w' = w := by
  by_cases h1 : a < b
  · go_enter Try.func98, Try.ntmps98
    go_wp2_with (first | (go_at_call 118; refine (isNaNI_any _ _).mono ?_; rintro e w' ⟨rfl, rfl⟩))
    go_ret
    simp [cmpI, h1]
  · by_cases h2 : b < a
    · go_enter Try.func98, Try.ntmps98
      go_wp2_with (first | (go_at_call 118; refine (isNaNI_any _ _).mono ?_; rintro e w' ⟨rfl, rfl⟩))
      go_ret
      simp [cmpI, h1, show ¬ a = b by omega]
    · go_enter Try.func98, Try.ntmps98
      go_wp2_with (first | (go_at_call 118; refine (isNaNI_any _ _).mono ?_; rintro e w' ⟨rfl, rfl⟩))
      go_ret
      simp [cmpI, show a = b by omega]

/-- Below 0: a stands ahead of b. -/
def ordC (a b : Cl) : Int := if cmpS a.row b.row ≠ 0 then cmpS a.row b.row else if cmpS a.col b.col ≠ 0 then cmpS a.col b.col else cmpI b.time a.time

set_option maxRecDepth 100000 in
set_option maxHeartbeats 400000 in
theorem order_any (a b : Cl) (w : World) : Calls Try.prog 63 #[cA a, cA b] w fun e w' => e = .returned (.int .i64 (ordC a b)) ∧ Below w.heap.size w w' := by
  unfold cA
  cases h1 : (cmpS a.row b.row != 0) <;> cases h2 : (cmpS a.col b.col != 0)
  all_goals
    go_enter Try.func63, Try.ntmps63
    go_wp2_with (first | (go_at_call 97; refine (cmpS_any _ _ _).mono ?_; rintro e w' ⟨rfl, rfl⟩) | (go_at_call 98; refine (cmpI_any _ _ _).mono ?_; rintro e w' ⟨rfl, rfl⟩))
    go_ret
    refine ⟨?_, by go_grown⟩
    have h3 := h1
    have h4 := h2
    simp only [bne_iff_ne, bne_eq_false_iff_eq] at h3 h4
    simp [ordC, h3, h4]

/-- What is wrong with a cell. -/
def codeC (c : Cl) : Int :=
  if c.row.toList.isEmpty = true ∨ 40 < (c.row.size : Int) ∨ 40 < (c.col.size : Int) ∨ 200 < (c.val.size : Int) then 8
  else if isNumB c.time = false then 3
  else if c.gone = true ∧ c.val.toList.isEmpty = false then 5 else 0

set_option maxRecDepth 100000 in
set_option maxHeartbeats 400000 in
theorem ownCode_any (c : Cl) (w : World) : Calls Try.prog 62 #[cA c] w fun e w' => e = .returned (.int .i64 (codeC c)) ∧ Below w.heap.size w w' := by
  unfold cA
  have hall : c.row.toList.isEmpty = true ∨ (c.row.toList.isEmpty = false ∧ 40 < (c.row.size : Int)) ∨ (c.row.toList.isEmpty = false ∧ (c.row.size : Int) ≤ 40 ∧ 40 < (c.col.size : Int)) ∨ (c.row.toList.isEmpty = false ∧ (c.row.size : Int) ≤ 40 ∧ (c.col.size : Int) ≤ 40 ∧ 200 < (c.val.size : Int)) ∨ (c.row.toList.isEmpty = false ∧ (c.row.size : Int) ≤ 40 ∧ (c.col.size : Int) ≤ 40 ∧ (c.val.size : Int) ≤ 200) := by
    cases c.row.toList.isEmpty
    · simp only [Bool.false_eq_true, false_or, true_and]
      omega
    · exact .inl rfl
  rcases hall with h0 | ⟨h0, h1⟩ | ⟨h0, h1, h2⟩ | ⟨h0, h1, h2, h3⟩ | ⟨h0, h1, h2, h3⟩
  iterate 4
    · have HE := hide (show codeC c = 8 by unfold codeC; rw [if_pos (by simp only [h0]; simp; try omega)])
      go_enter Try.func62, Try.ntmps62
      go_wp2_with fail
      go_ret
      exact ⟨by rw [HE.out]; rfl, by go_grown⟩
  · have hn : ¬ (c.row.toList.isEmpty = true ∨ 40 < (c.row.size : Int) ∨ 40 < (c.col.size : Int) ∨ 200 < (c.val.size : Int)) := by simp only [h0]; simp; omega
    cases h4 : isNumB c.time
    · have HE := hide (show codeC c = 3 by unfold codeC; rw [if_neg hn, if_pos h4])
      clear hn
      go_enter Try.func62, Try.ntmps62
      go_wp2_with (go_at_call 54; refine (isNum_any _ _).mono ?_; rintro e w' ⟨rfl, rfl⟩; rw [h4])
      go_ret
      exact ⟨by rw [HE.out]; rfl, by go_grown⟩
    · cases h5 : c.gone <;> cases h6 : c.val.toList.isEmpty
      all_goals
        have HE := hide (show codeC c = _ by unfold codeC; rw [if_neg hn, if_neg (by rw [h4]; decide), h5, h6])
        clear hn
        go_enter Try.func62, Try.ntmps62
        go_wp2_with (go_at_call 54; refine (isNum_any _ _).mono ?_; rintro e w' ⟨rfl, rfl⟩; rw [h4])
        go_ret
        exact ⟨by rw [HE.out]; rfl, by go_grown⟩

end Go.Proofs.Ytlebbkbbmgmmjad

/-
  The walks over cell.Check.
-/
namespace Go.Proofs.Ytlebbkbbmgmmjad
open Go.RowKit

theorem cell_belowC {w w' : World} {p : Addr} {v : Value} (h : w.cell? p = some v) (hb : Below w.heap.size w w') : w'.cell? p = some v :=
  (hb.cell (World.block_lt_of_cell? w _ h)).trans h

/-- What Check says of the cell at a number. -/
def codeAt (cs : List Cl) (i : Nat) : Int :=
  match cs[i]? with
  | none => 0
  | some c => if codeC c ≠ 0 then codeC c else if 0 < i ∧ 0 ≤ ordC (cs.getD (i - 1) zeroC) c then 10 else 0

theorem ite_of_decide {p : Prop} [Decidable p] {b : Bool} {x y : Int} (h : decide p = b) : (if p then x else y) = cond b x y := by
  subst h
  by_cases hp : p <;> simp [hp]

theorem codeAt_own {cs : List Cl} {i : Nat} {c : Cl} (hi : cs[i]? = some c) (h : codeC c ≠ 0) : codeAt cs i = codeC c := by
  unfold codeAt; rw [hi]; simp [h]

theorem codeAt_first {cs : List Cl} {c : Cl} (hi : cs[0]? = some c) (h : codeC c = 0) : codeAt cs 0 = 0 := by
  unfold codeAt; rw [hi]; simp [h]

theorem codeAt_later {cs : List Cl} {i : Nat} {c d : Cl} (hi : cs[i + 1]? = some c) (hd : cs[i]? = some d) (h : codeC c = 0) : codeAt cs (i + 1) = if 0 ≤ ordC d c then 10 else 0 := by
  unfold codeAt; rw [hi]; simp [h, hd]

set_option maxRecDepth 100000 in
set_option maxHeartbeats 400000 in
theorem Check1_any (L : Nat) (v : Value) (cs : List Cl) (i : Nat) (w : World) (hL : w.cell? ⟨L, 0, none⟩ = some v) (hv : RdC w v cs) (hi : i < cs.length) :
    Calls Try.prog 61 #[.int .i64 i, .pointer (some ⟨L, 0, none⟩)] w fun e w' => e = .returned (.int .i64 (codeAt cs i)) ∧ Below w.heap.size w w' := by
  obtain ⟨ao, cap, rfl, hc1, hc2, hat⟩ := hv.at
  unfold maxLen at hc2
  obtain ⟨b, off, rfl, hb, hcl⟩ := hat i hi
  obtain ⟨c, hc⟩ : ∃ c, cs[i]? = some c := ⟨_, List.getElem?_eq_getElem hi⟩
  have hci := hcl i hi
  rw [(List.getElem?_eq_some_iff.1 hc).2] at hci
  have HL : Hid (w.cell? ⟨L, 0, none⟩ = some (.slice (some ⟨b, off, none⟩) cs.length cap)) := hL
  by_cases h0 : codeC c = 0
  · by_cases hi0 : i = 0
    · subst hi0
      have HE := hide (codeAt_first hc h0)
      rw [Nat.zero_mul, Nat.add_zero] at hci
      obtain ⟨c0, c1, c2, c3, c4⟩ := hci
      clear hcl hat hv hc
      go_enter Try.func61, Try.ntmps61
      go_wp2_with fail
      refine (ownCode_any c _).mono ?_
      rintro e w1 ⟨rfl, hb1⟩
      rw [h0]
      have hg : decide ((0 : Int) < ((0 : Nat) : Int)) = false := by simp
      go_wp2_with fail
      go_quiet (fail)
      go_wp2_with fail
      go_ret
      exact ⟨by rw [HE.out]; rfl, below_drewN hb1 _⟩
    · obtain ⟨j, hij⟩ : ∃ j, i = j + 1 := ⟨i - 1, by omega⟩
      obtain ⟨d, hd⟩ : ∃ c, cs[j]? = some c := ⟨_, List.getElem?_eq_getElem (by omega)⟩
      have hdi := hcl j (by omega)
      rw [(List.getElem?_eq_some_iff.1 hd).2] at hdi
      have HE : Hid (codeAt cs i = if 0 ≤ ordC d c then 10 else 0) := hide (by rw [hij] at hc ⊢; exact codeAt_later hc hd h0)
      have HC := hide hci
      have HD := hide hdi
      obtain ⟨c0, c1, c2, c3, c4⟩ := hci
      have hj1 : (i : Int) < (cs.length : Int) := by omega
      have hj2 : (0 : Int) ≤ (j : Int) := by omega
      have hj3 : (j : Int) < (cs.length : Int) := by omega
      have hj4 : (0 : Int) ≤ (i : Int) := by omega
      have hw : IntKind.i64.wrap ((i : Int) - 1) = (j : Int) := by rw [IntKind.wrap_i64]; omega
      have hg : decide (0 < i) = true := by simp; omega
      have HIJ := hide hij
      clear hcl hat hv hc hd hdi hij hi0
      go_enter Try.func61, Try.ntmps61
      go_wp2_with fail
      refine (ownCode_any c _).mono ?_
      rintro e w1 ⟨rfl, hb1⟩
      rw [h0]
      obtain ⟨c0, c1, c2, c3, c4⟩ := HC.out.below hb1
      obtain ⟨d0, d1, d2, d3, d4⟩ := HD.out.below hb1
      have hL1 := cell_belowC HL.out hb1
      have hk : ∀ W, Below w1.heap.size w1 W → W.cell? ⟨L, 0, none⟩ = some (.slice (some ⟨b, off, none⟩) cs.length cap) ∧ (W.cell? ⟨b, off + i * 5, none⟩ = some (.string c.row) ∧ W.cell? ⟨b, off + i * 5 + 1, none⟩ = some (.string c.col) ∧ W.cell? ⟨b, off + i * 5 + 2, none⟩ = some (.int .i64 c.time) ∧ W.cell? ⟨b, off + i * 5 + 3, none⟩ = some (.bool c.gone) ∧ W.cell? ⟨b, off + i * 5 + 4, none⟩ = some (.string c.val)) ∧ (W.cell? ⟨b, off + j * 5, none⟩ = some (.string d.row) ∧ W.cell? ⟨b, off + j * 5 + 1, none⟩ = some (.string d.col) ∧ W.cell? ⟨b, off + j * 5 + 2, none⟩ = some (.int .i64 d.time) ∧ W.cell? ⟨b, off + j * 5 + 3, none⟩ = some (.bool d.gone) ∧ W.cell? ⟨b, off + j * 5 + 4, none⟩ = some (.string d.val)) := fun W h => by
        obtain ⟨c0, c1, c2, c3, c4⟩ := (HC.out.below hb1).below h
        obtain ⟨d0, d1, d2, d3, d4⟩ := (HD.out.below hb1).below h
        exact ⟨cell_belowC hL1 h, ⟨c0, c1, c2, c3, c4⟩, d0, d1, d2, d3, d4⟩
      have HK := hide hk
      clear hk
      go_wp2_with fail
      cases h7 : decide (0 ≤ ordC d c)
      all_goals
        have HE2 := hide (show codeAt cs i = _ from HE.out.trans (ite_of_decide h7))
        go_region_held3 (fun W => W.cell? ⟨L, 0, none⟩ = some (.slice (some ⟨b, off, none⟩) cs.length cap) ∧ (W.cell? ⟨b, off + i * 5, none⟩ = some (.string c.row) ∧ W.cell? ⟨b, off + i * 5 + 1, none⟩ = some (.string c.col) ∧ W.cell? ⟨b, off + i * 5 + 2, none⟩ = some (.int .i64 c.time) ∧ W.cell? ⟨b, off + i * 5 + 3, none⟩ = some (.bool c.gone) ∧ W.cell? ⟨b, off + i * 5 + 4, none⟩ = some (.string c.val)) ∧ (W.cell? ⟨b, off + j * 5, none⟩ = some (.string d.row) ∧ W.cell? ⟨b, off + j * 5 + 1, none⟩ = some (.string d.col) ∧ W.cell? ⟨b, off + j * 5 + 2, none⟩ = some (.int .i64 d.time) ∧ W.cell? ⟨b, off + j * 5 + 3, none⟩ = some (.bool d.gone) ∧ W.cell? ⟨b, off + j * 5 + 4, none⟩ = some (.string d.val))) (exact HK.out _ (by go_grown)) (first
          | (go_at_call 63; refine (order_any d c _).mono ?_; rintro e w2 ⟨rfl, hb2⟩; have hb12 : Below w1.heap.size w1 w2 := Below.trans (by go_grown) hb2))
        go_wp2_with fail
        go_ret
        exact ⟨by rw [HE2.out]; rfl, hb1.trans (hb12.mono hb1.size)⟩
  · have hcb : (codeC c != 0) = true := by simp [h0]
    have HE := hide (codeAt_own hc h0)
    obtain ⟨c0, c1, c2, c3, c4⟩ := hci
    clear hcl hat hv hc h0
    go_enter Try.func61, Try.ntmps61
    go_wp2_with fail
    refine (ownCode_any c _).mono ?_
    rintro e w1 ⟨rfl, hb1⟩
    go_wp2_with fail
    go_ret
    exact ⟨by rw [HE.out]; rfl, hb1⟩

end Go.Proofs.Ytlebbkbbmgmmjad

/-
  The walks over cell.Check: the first fault.
-/
namespace Go.Proofs.Ytlebbkbbmgmmjad
open Go.RowKit

/-- The first number from i on whose code is not 0. -/
def firstG (f : Nat → Int) : Nat → Nat → Int × Int
  | 0, _ => (0, 0)
  | m + 1, i => if f i ≠ 0 then (f i, i) else firstG f m (i + 1)

/-- The first fault of n things. -/
def faultR (f : Nat → Int) (n : Nat) : Int × Int := if 1000 < n then (2, 0) else firstG f n 0
/-- What Check says. -/
def checkC (cs : List Cl) : Int × Int := faultR (codeAt cs) cs.length
/-- A fault, as a value. -/
def fltC (p : Int × Int) : Value := .agg #[.int .i64 p.1, .int .i64 p.2]

theorem firstG_hit {f : Nat → Int} {m i : Nat} (h : f i ≠ 0) (hm : 0 < m) : firstG f m i = (f i, (i : Int)) := by
  obtain ⟨m, rfl⟩ : ∃ k, m = k + 1 := ⟨m - 1, by omega⟩
  simp [firstG, h]

theorem firstG_next {f : Nat → Int} {m i : Nat} (h : f i = 0) (hm : 0 < m) : firstG f m i = firstG f (m - 1) (i + 1) := by
  obtain ⟨m, rfl⟩ : ∃ k, m = k + 1 := ⟨m - 1, by omega⟩
  simp [firstG, h]

set_option maxRecDepth 100000 in
set_option maxHeartbeats 400000 in
theorem firstFaultC_any (p v : Value) (cs : List Cl) (f : Nat → Int) (w : World) (hv : RdC w v cs)
    (hcl : ∀ (i : Nat) W, i < cs.length → Below w.heap.size w W → Calls Try.prog 61 #[.int .i64 i, p] W fun e w' => e = .returned (.int .i64 (f i)) ∧ Below W.heap.size W w') :
    Calls Try.prog 60 #[v, .func (.func 61) #[] #[p]] w fun e w' => e = .returned (fltC (faultR f cs.length)) ∧ Below w.heap.size w w' := by
  obtain ⟨ao, cap, rfl, hc1, hc2⟩ := hv.shape
  unfold maxLen at hc2
  have HCL := hide hcl
  clear hcl hv
  by_cases hbig : 1000 < cs.length
  · have HE := hide (show faultR f cs.length = (2, 0) by simp [faultR, hbig])
    go_enter Try.func60, Try.ntmps60
    go_wp2_with fail
    exact bodyPost_ret (v := fltC (2, 0)) (by simp [results, Try.results60, go_sem, fltC]) rfl ⟨by rw [HE.out], by go_grown⟩
  · have HF := hide (show faultR f cs.length = firstG f cs.length 0 by simp [faultR, hbig])
    go_enter Try.func60, Try.ntmps60
    go_wp2_with fail
    go_loopw [13] (fun i wr => ∃ k : Nat, k ≤ cs.length ∧ i = .int .i64 k ∧ firstG f (cs.length - k) k = faultR f cs.length ∧ Below (w.heap.size + 1) (w.alloc (.cells #[.int .i64 0, .int .i64 0] 28)) wr)
      (fun i _ => cs.length - (intOf i).toNat)
    case atStart => exact ⟨0, by omega, rfl, by rw [HF.out]; rfl, Below.refl _ _⟩
    case round =>
      obtain ⟨k, hk, rfl, hgo, hbel⟩ := hrel
      have HG := hide hgo
      clear hgo
      obtain ⟨hf0, hf1, hfr0, hfr1, hsz⟩ := two_later hbel
      have hbf := below_first hbel
      by_cases hlt : k < cs.length
      · go_wp2_with fail
        refine (HCL.out k wr hlt hbf).mono ?_
        rintro e w1 ⟨rfl, hb1⟩
        have hbel1 := hbel.trans (hb1.mono (by omega))
        obtain ⟨gf0, gf1, gfr0, gfr1, gsz⟩ := two_later hbel1
        have hbf1 := below_first hbel1
        by_cases h0 : f k = 0
        · have HE := hide (firstG_next (f := f) (m := cs.length - k) h0 (by omega))
          rw [h0]
          go_wp2_with fail
          go_roundw
          case rel => exact ⟨k + 1, by omega, by go_num, by rw [← HG.out, HE.out]; congr 1, hbel1⟩
          case measure => simp [intOf]; omega
        · have hb : (f k != 0) = true := by simp [h0]
          have HE := hide (firstG_hit (f := f) (m := cs.length - k) h0 (by omega))
          clear h0
          go_wp2_with fail
          exact bodyPost_ret (v := fltC (f k, k)) (by simp [results, Try.results60, go_sem, fltC, gf0, gf1]) rfl ⟨by rw [← HG.out, HE.out], by go_grown⟩
      · have hz : cs.length - k = 0 := by omega
        rw [hz] at HG
        go_wp2_with fail
        exact bodyPost_ret (v := fltC (0, 0)) (by simp [results, Try.results60, go_sem, fltC, hf0, hf1]) rfl ⟨by rw [← HG.out]; rfl, by go_grown⟩


set_option maxRecDepth 100000 in
set_option maxHeartbeats 400000 in
theorem CCheck_any (v : Value) (cs : List Cl) (w : World) (hv : RdC w v cs) :
    Calls Try.prog 17 #[v] w fun e w' => e = .returned (fltC (checkC cs)) ∧ Below w.heap.size w w' := by
  obtain ⟨ao, cap, hvv, hc1, hc2⟩ := hv.shape
  subst hvv
  go_enter Try.func17, Try.ntmps17
  go_wp2_with fail
  have hbC : Below w.heap.size w ((w.alloc (.cells #[.slice ao cs.length cap] 30)).alloc (.cells #[.int .i64 0, .int .i64 0] 28)) := ((Below.refl _ _).alloc (Nat.le_refl _) _).alloc (by simp) _
  have hL : ((w.alloc (.cells #[.slice ao cs.length cap] 30)).alloc (.cells #[.int .i64 0, .int .i64 0] 28)).cell? ⟨w.heap.size, 0, none⟩ = some (.slice ao cs.length cap) := by simp
  have hF : Below (w.heap.size + 2) ((w.alloc (.cells #[.slice ao cs.length cap] 30)).alloc (.cells #[.int .i64 0, .int .i64 0] 28)) ((w.alloc (.cells #[.slice ao cs.length cap] 30)).alloc (.cells #[.int .i64 0, .int .i64 0] 28)) := Below.refl _ _
  have hz : ((w.alloc (.cells #[.slice ao cs.length cap] 30)).alloc (.cells #[.int .i64 0, .int .i64 0] 28)).heap.size = w.heap.size + 2 := by simp
  have f0 : ((w.alloc (.cells #[.slice ao cs.length cap] 30)).alloc (.cells #[.int .i64 0, .int .i64 0] 28)).cell? ⟨w.heap.size + 1, 0, none⟩ = some (.int .i64 0) := by simp
  have f1 : ((w.alloc (.cells #[.slice ao cs.length cap] 30)).alloc (.cells #[.int .i64 0, .int .i64 0] 28)).cell? ⟨w.heap.size + 1, 1, none⟩ = some (.int .i64 0) := by simp
  have g0 : ((w.alloc (.cells #[.slice ao cs.length cap] 30)).alloc (.cells #[.int .i64 0, .int .i64 0] 28)).frozen? ⟨w.heap.size + 1, 0, none⟩ = false := by simp
  have g1 : ((w.alloc (.cells #[.slice ao cs.length cap] 30)).alloc (.cells #[.int .i64 0, .int .i64 0] 28)).frozen? ⟨w.heap.size + 1, 1, none⟩ = false := by simp
  generalize (w.alloc (.cells #[.slice ao cs.length cap] 30)).alloc (.cells #[.int .i64 0, .int .i64 0] 28) = wA at *
  have hvA := hv.below hbC
  refine (firstFaultC_any _ _ cs (codeAt cs) wA hvA (fun i W hi hW => Check1_any _ _ cs i W (cell_belowC hL hW) (hvA.below hW) hi)).mono ?_
  rintro e w1 ⟨rfl, hb1⟩
  have e0 := (hb1.cell (p := ⟨w.heap.size + 1, 0, none⟩) (by simp only; omega)).trans f0
  have e1 := (hb1.cell (p := ⟨w.heap.size + 1, 1, none⟩) (by simp only; omega)).trans f1
  have e2 := (hb1.frozen (p := ⟨w.heap.size + 1, 0, none⟩) (by simp only; omega)).trans g0
  have e3 := (hb1.frozen (p := ⟨w.heap.size + 1, 1, none⟩) (by simp only; omega)).trans g1
  have hbw : Below w.heap.size w w1 := hbC.trans (hb1.mono (by omega))
  have hs1 := hb1.size
  have HE := hide (show checkC cs = faultR (codeAt cs) cs.length from rfl)
  generalize faultR (codeAt cs) cs.length = r at HE ⊢
  obtain ⟨x, y⟩ := r
  unfold fltC
  clear hb1 hbC hL hF f0 f1 g0 g1 hvA hv
  go_wp2_with fail
  exact bodyPost_ret (v := fltC (x, y)) (by simp [results, Try.results17, go_sem, fltC, e0, e1]) rfl ⟨by rw [HE.out], by go_grown⟩

end Go.Proofs.Ytlebbkbbmgmmjad

/-
  The walks over what is seen: package view's functions and those that they answer.
-/
namespace Go.Proofs.Ytlebbkbbmgmmjad
open Go.RowKit

/-- A block of one's own. -/
def Bk (w : World) (B : Nat) (t : TypeId) (xs : Array Value) : Prop := w.heap[B]? = some (.cells xs t (0, 0))

theorem Bk.cell {w : World} {B : Nat} {t : TypeId} {xs : Array Value} (h : Bk w B t xs) (k : Nat) : w.cell? ⟨B, k, none⟩ = xs[k]? := by
  rw [cell_of_row _ _ _ _ _ _ h]

theorem Bk.frozen {w : World} {B : Nat} {t : TypeId} {xs : Array Value} (h : Bk w B t xs) (k : Nat) : w.frozen? ⟨B, k, none⟩ = false := frozen_of_row _ _ _ _ _ h
theorem Bk.lt {w : World} {B : Nat} {t : TypeId} {xs : Array Value} (h : Bk w B t xs) : B < w.heap.size := (Array.getElem?_eq_some_iff.1 h).1
theorem Bk.below {w w' : World} {B C : Nat} {t : TypeId} {xs : Array Value} (h : Bk w B t xs) (hb : Below C w w') (hC : B < C) : Bk w' B t xs := by
  unfold Bk
  rw [hb.block _ hC]
  exact h

theorem Bk.grown {w w' : World} {B : Nat} {o : Option Nat} {t : TypeId} {xs : Array Value} (h : Bk w B t xs) (hg : w.grownBy w' o) (hne : some B ≠ o) : Bk w' B t xs := by
  unfold Bk
  rw [hg.block _ h.lt hne]
  exact h

theorem Bk.new (w : World) (t : TypeId) (xs : Array Value) : Bk (w.alloc (.cells xs t)) w.heap.size t xs := heap_alloc_new _ _
theorem Bk.set {w : World} {B : Nat} {t : TypeId} {xs : Array Value} (h : Bk w B t xs) (k : Nat) (u : Value) : Bk (w.setCell ⟨B, k, none⟩ u) B t (xs.setIfInBounds k u) := by
  unfold Bk
  rw [heap_setCell_same w B k _ _ _ h]

/-- The block of a cell. -/
def ca (c : Cl) : Array Value := #[.string c.row, .string c.col, .int .i64 c.time, .bool c.gone, .string c.val]

theorem Bk.at {w : World} {B : Nat} {t : TypeId} {c : Cl} (h : Bk w B t (ca c)) : At w B 0 c :=
  ⟨h.cell 0, h.cell 1, h.cell 2, h.cell 3, h.cell 4⟩

theorem Bk.facts {w : World} {B : Nat} {t : TypeId} {c : Cl} (h : Bk w B t (ca c)) :
    w.cell? ⟨B, 0, none⟩ = some (.string c.row) ∧ w.cell? ⟨B, 1, none⟩ = some (.string c.col) ∧ w.cell? ⟨B, 2, none⟩ = some (.int .i64 c.time) ∧ w.cell? ⟨B, 3, none⟩ = some (.bool c.gone) ∧ w.cell? ⟨B, 4, none⟩ = some (.string c.val) :=
  ⟨h.cell 0, h.cell 1, h.cell 2, h.cell 3, h.cell 4⟩

theorem Bk.thaw {w : World} {B : Nat} {t : TypeId} {xs : Array Value} (h : Bk w B t xs) :
    w.frozen? ⟨B, 0, none⟩ = false ∧ w.frozen? ⟨B, 1, none⟩ = false ∧ w.frozen? ⟨B, 2, none⟩ = false ∧ w.frozen? ⟨B, 3, none⟩ = false ∧ w.frozen? ⟨B, 4, none⟩ = false :=
  ⟨h.frozen 0, h.frozen 1, h.frozen 2, h.frozen 3, h.frozen 4⟩

/-- A cell stored over another one. -/
theorem Bk.store {w : World} {B : Nat} {t : TypeId} {c d : Cl} (h : Bk w B t (ca d)) :
    Bk (((((w.setCell ⟨B, 0, none⟩ (.string c.row)).setCell ⟨B, 1, none⟩ (.string c.col)).setCell ⟨B, 2, none⟩ (.int .i64 c.time)).setCell ⟨B, 3, none⟩ (.bool c.gone)).setCell ⟨B, 4, none⟩ (.string c.val)) B t (ca c) :=
  ((((h.set 0 _).set 1 _).set 2 _).set 3 _).set 4 _

theorem gb_set {a w : World} {B : Nat} (h : a.grownBy w (some B)) (j : Nat) (u : Value) : a.grownBy (w.setCell ⟨B, j, none⟩ u) (some B) :=
  ⟨h.os, h.tape, h.output, by rw [World.setCell]; simp [h.size], fun k hk hn => (heap_setCell_other w _ k u (fun e => hn (by simp [e]))).trans (h.block k hk hn)⟩

theorem gb_alloc {a w : World} {o : Option Nat} (h : a.grownBy w o) (x : Obj) : a.grownBy (w.alloc x) o :=
  ⟨h.os, h.tape, h.output, by simp; have := h.size; omega, fun k hk hn => (heap_alloc_old w x (Nat.lt_of_lt_of_le hk h.size)).trans (h.block k hk hn)⟩

theorem gb_refl (w : World) (o : Option Nat) : w.grownBy w o := ⟨rfl, rfl, rfl, Nat.le_refl _, fun _ _ _ => rfl⟩

/-- Is c seen, behind one that hides? And which one hides then. -/
def hid (t : Int) (nw c : Cl) : Bool := decide (t < c.time) || (c.row.toList == nw.row.toList && c.col.toList == nw.col.toList)
def seenB (t : Int) (nw c : Cl) : Bool := !hid t nw c && !c.gone
def nextN (t : Int) (nw c : Cl) : Cl := if hid t nw c then nw else c

/-- The state of NewestAt's function: a time, and the one that hides. -/
structure NwSt (w : World) (T : Nat) (t : Int) (nw : Cl) : Prop where
  tB : Bk w T 3 #[.int .i64 t]
  nB : Bk w (T + 1) 91 (ca nw)

/-- NewestAt's function. -/
def nwF (T : Nat) : Value := .func (.func 113) #[] #[.pointer (some ⟨T, 0, none⟩), .pointer (some ⟨T + 1, 0, none⟩)]

theorem NwSt.below {w w' : World} {T C : Nat} {t : Int} {nw : Cl} (h : NwSt w T t nw) (hb : Below C w w') (hC : T + 1 < C) : NwSt w' T t nw :=
  ⟨h.tB.below hb (by omega), h.nB.below hb hC⟩

theorem NwSt.lt {w : World} {T : Nat} {t : Int} {nw : Cl} (h : NwSt w T t nw) : T + 1 < w.heap.size := h.nB.lt

theorem NwSt.grown {w w' : World} {T : Nat} {o : Option Nat} {t : Int} {nw : Cl} (h : NwSt w T t nw) (hg : w.grownBy w' o) (h1 : some T ≠ o) (h2 : some (T + 1) ≠ o) : NwSt w' T t nw :=
  ⟨h.tB.grown hg h1, h.nB.grown hg h2⟩

set_option maxRecDepth 100000 in
set_option maxHeartbeats 400000 in
theorem newestAt_any (t : Int) (w : World) :
    Calls Try.prog 89 #[.int .i64 t] w fun e w' => e = .returned (nwF w.heap.size) ∧ NwSt w' w.heap.size t zeroC ∧ Below w.heap.size w w' ∧ w'.heap.size = w.heap.size + 2 := by
  go_enter Try.func89, Try.ntmps89
  go_wp2_with fail
  go_ret
  refine ⟨rfl, ⟨?_, ?_⟩, by go_grown, by simp⟩
  · exact (Bk.new w 3 #[.int .i64 t]).below (below_alloc' _ _) (by simp)
  · have := Bk.new (w.alloc (.cells #[.int .i64 t] 3)) 91 (ca zeroC)
    rw [show (w.alloc (.cells #[.int .i64 t] 3)).heap.size = w.heap.size + 1 by simp] at this
    exact this

set_option maxRecDepth 100000 in
set_option maxHeartbeats 400000 in
theorem newestAt1_any (t : Int) (c nw : Cl) (T : Nat) (w : World) (hS : NwSt w T t nw) :
    Calls Try.prog 113 #[cA c, .pointer (some ⟨T, 0, none⟩), .pointer (some ⟨T + 1, 0, none⟩)] w fun e w' => e = .returned (.bool (!hid t nw c)) ∧ NwSt w' T t (nextN t nw c) ∧ w.grownBy w' (some (T + 1)) := by
  suffices h : Calls Try.prog 113 #[cA c, .pointer (some ⟨T, 0, none⟩), .pointer (some ⟨T + 1, 0, none⟩)] w fun e w' => e = .returned (.bool (!hid t nw c)) ∧ Bk w' (T + 1) 91 (ca (nextN t nw c)) ∧ w.grownBy w' (some (T + 1)) by
    refine h.mono ?_
    rintro e w' ⟨h1, h2, h3⟩
    exact ⟨h1, ⟨hS.tB.grown h3 (by simp), h2⟩, h3⟩
  unfold cA
  have hT := hS.tB.cell 0
  have hN := hS.nB
  clear hS
  simp at hT
  generalize hNN : T + 1 = N at *
  clear hNN
  obtain ⟨n0, n1, n2, n3, n4⟩ := hN.facts
  obtain ⟨t0, t1, t2, t3, t4⟩ := hN.thaw
  have hlt := hN.lt
  have hTlt := World.block_lt_of_cell? w _ hT
  simp only at hTlt
  have hN1 : Bk (w.alloc (.cells #[.string c.row, .string c.col, .int .i64 c.time, .bool c.gone, .string c.val] 91)) N 91 (ca nw) := hN.below (below_alloc' _ _) hlt
  have hG1 : w.grownBy (w.alloc (.cells #[.string c.row, .string c.col, .int .i64 c.time, .bool c.gone, .string c.val] 91)) (some N) := gb_alloc (gb_refl _ _) _
  have hS0 := hN.store (c := c)
  have hS : Bk ((((((w.setCell ⟨N, 0, none⟩ (.string c.row)).setCell ⟨N, 1, none⟩ (.string c.col)).setCell ⟨N, 2, none⟩ (.int .i64 c.time)).setCell ⟨N, 3, none⟩ (.bool c.gone)).setCell ⟨N, 4, none⟩ (.string c.val)).alloc (.cells #[.string c.row, .string c.col, .int .i64 c.time, .bool c.gone, .string c.val] 91)) N 91 (ca c) := hS0.below (below_alloc' _ _) hS0.lt
  have hG2 := gb_alloc (gb_set (gb_set (gb_set (gb_set (gb_set (gb_refl w (some N)) 0 (.string c.row)) 1 (.string c.col)) 2 (.int .i64 c.time)) 3 (.bool c.gone)) 4 (.string c.val)) (.cells #[.string c.row, .string c.col, .int .i64 c.time, .bool c.gone, .string c.val] 91)
  clear hS0
  have HN1 := hide hN1
  have HG1 := hide hG1
  have HS := hide hS
  have HG2 := hide hG2
  clear hN1 hG1 hS hG2 hN
  by_cases h1 : t < c.time
  · have HE : Hid (hid t nw c = true) := hide (by simp [hid, h1])
    have hd : decide (t < c.time) = true := by simpa using h1
    go_enter Try.func113, Try.ntmps113
    go_wp2_with fail
    go_ret
    exact ⟨by rw [HE.out]; rfl, by rw [nextN, HE.out, if_pos rfl]; exact HN1.out, HG1.out⟩
  · have hd : decide (t < c.time) = false := by simpa using h1
    have h4 : (c.row.toList == nw.row.toList) = true ∧ (c.col.toList == nw.col.toList) = true ∨ (c.row.toList == nw.row.toList) = true ∧ (c.col.toList == nw.col.toList) = false ∨ (c.row.toList == nw.row.toList) = false := by
      cases (c.row.toList == nw.row.toList) <;> cases (c.col.toList == nw.col.toList) <;> simp
    rcases h4 with ⟨h2, h3⟩ | ⟨h2, h3⟩ | h2
    · have HE : Hid (hid t nw c = true) := hide (by unfold hid; rw [hd, h2, h3]; rfl)
      go_enter Try.func113, Try.ntmps113
      go_wp2_with fail
      go_ret
      exact ⟨by rw [HE.out]; rfl, by rw [nextN, HE.out, if_pos rfl]; exact HN1.out, HG1.out⟩
    · have HE : Hid (hid t nw c = false) := hide (by unfold hid; rw [hd, h2, h3]; rfl)
      go_enter Try.func113, Try.ntmps113
      go_wp2_with fail
      go_ret
      exact ⟨by rw [HE.out]; rfl, by rw [nextN, HE.out, if_neg (by decide)]; exact HS.out, HG2.out⟩
    · have HE : Hid (hid t nw c = false) := hide (by unfold hid; rw [hd, h2]; rfl)
      go_enter Try.func113, Try.ntmps113
      go_wp2_with fail
      go_ret
      exact ⟨by rw [HE.out]; rfl, by rw [nextN, HE.out, if_neg (by decide)]; exact HS.out, HG2.out⟩

/-- The state of SeenAt's function. -/
structure SnSt (w : World) (T : Nat) (t : Int) (nw : Cl) : Prop where
  s : NwSt w T t nw
  iB : Bk w (T + 2) 88 #[nwF T]

/-- SeenAt's function. -/
def snF (T : Nat) : Value := .func (.func 116) #[] #[.pointer (some ⟨T + 2, 0, none⟩)]

theorem SnSt.below {w w' : World} {T C : Nat} {t : Int} {nw : Cl} (h : SnSt w T t nw) (hb : Below C w w') (hC : T + 2 < C) : SnSt w' T t nw :=
  ⟨h.s.below hb (by omega), h.iB.below hb hC⟩

theorem SnSt.lt {w : World} {T : Nat} {t : Int} {nw : Cl} (h : SnSt w T t nw) : T + 2 < w.heap.size := h.iB.lt

theorem SnSt.grown {w w' : World} {T : Nat} {o : Option Nat} {t : Int} {nw : Cl} (h : SnSt w T t nw) (hg : w.grownBy w' o) (h1 : some T ≠ o) (h2 : some (T + 1) ≠ o) (h3 : some (T + 2) ≠ o) : SnSt w' T t nw :=
  ⟨h.s.grown hg h1 h2, h.iB.grown hg h3⟩

theorem gb_trans {a b c : World} {o : Option Nat} (h : a.grownBy b o) (k : b.grownBy c o) : a.grownBy c o :=
  ⟨k.os.trans h.os, by have := h.tape; have := k.tape; simp_all, by have := h.output; have := k.output; simp_all, Nat.le_trans h.size k.size, fun j hj hn => (k.block j (Nat.lt_of_lt_of_le hj h.size) hn).trans (h.block j hj hn)⟩

set_option maxRecDepth 100000 in
set_option maxHeartbeats 400000 in
theorem seenAt_any (t : Int) (w : World) :
    Calls Try.prog 94 #[.int .i64 t] w fun e w' => e = .returned (snF w.heap.size) ∧ SnSt w' w.heap.size t zeroC ∧ Below w.heap.size w w' ∧ w'.heap.size = w.heap.size + 3 := by
  go_enter Try.func94, Try.ntmps94
  go_wp2_with fail
  refine (newestAt_any t _).mono ?_
  rintro e w1 ⟨rfl, hs1, hb1, hz1⟩
  have hI : Bk (w1.alloc (.cells #[nwF w.heap.size] 88)) (w.heap.size + 2) 88 #[nwF w.heap.size] := by
    have := Bk.new w1 88 #[nwF w.heap.size]
    rw [hz1] at this
    exact this
  have HS := hide (show SnSt (w1.alloc (.cells #[nwF w.heap.size] 88)) w.heap.size t zeroC from ⟨hs1.below (below_alloc' _ _) hs1.lt, hI⟩)
  have HB := hide (hb1.alloc (by omega) (.cells #[nwF w.heap.size] 88))
  have HZ := hide hz1
  clear hs1 hI hb1 hz1
  unfold nwF
  go_wp2_with fail
  go_ret
  exact ⟨by rw [HZ.out]; rfl, HS.out, HB.out, by have := HZ.out; simp; omega⟩

set_option maxRecDepth 100000 in
set_option maxHeartbeats 400000 in
theorem seenAt1_any (t : Int) (c nw : Cl) (T : Nat) (w : World) (hS : SnSt w T t nw) :
    Calls Try.prog 116 #[cA c, .pointer (some ⟨T + 2, 0, none⟩)] w fun e w' => e = .returned (.bool (seenB t nw c)) ∧ SnSt w' T t (nextN t nw c) ∧ w.grownBy w' (some (T + 1)) := by
  unfold cA
  have i0 := hS.iB.cell 0
  unfold nwF at i0
  simp at i0
  have hlt := hS.lt
  have hS1 := hS.below (below_alloc' w (.cells #[.string c.row, .string c.col, .int .i64 c.time, .bool c.gone, .string c.val] 91)) hlt
  have hC1 : Bk (w.alloc (.cells #[.string c.row, .string c.col, .int .i64 c.time, .bool c.gone, .string c.val] 91)) w.heap.size 91 (ca c) := Bk.new _ _ _
  have hG1 : w.grownBy (w.alloc (.cells #[.string c.row, .string c.col, .int .i64 c.time, .bool c.gone, .string c.val] 91)) (some (T + 1)) := gb_alloc (gb_refl _ _) _
  go_enter Try.func116, Try.ntmps116
  go_wp2_with fail
  refine (newestAt1_any t c nw T _ hS1.s).mono ?_
  rintro e w2 ⟨rfl, hs2, hg2⟩
  have hC2 := hC1.grown hg2 (by simp; omega)
  have HS2 := hide (show SnSt w2 T t (nextN t nw c) from ⟨hs2, hS1.iB.grown hg2 (by simp)⟩)
  have HG2 := hide (gb_trans hG1 hg2)
  obtain ⟨c0, c1, c2, c3, c4⟩ := hC2.facts
  clear hS hS1 hC1 hG1 hs2 hg2 hC2 i0
  cases hq : hid t nw c
  all_goals
    have HE := hide (show seenB t nw c = _ by unfold seenB; rw [hq])
    simp only [Bool.not_true, Bool.not_false]
    go_wp2_with fail
    go_ret
    exact ⟨by rw [HE.out]; rfl, HS2.out, HG2.out⟩

/-- Is a row asked for? -/
def askB (a b row : ByteArray) : Bool := !(Op.bytesLess row.toList a.toList) && (b.toList.isEmpty || Op.bytesLess row.toList b.toList)
/-- An ask as a value. -/
def aA (a b : ByteArray) (t m : Int) : Value := .agg #[.string a, .string b, .int .i64 t, .int .i64 m]

/-- The state of AskedFor's function. -/
structure AkSt (w : World) (A : Nat) (a b : ByteArray) (t m : Int) (nw : Cl) : Prop where
  s : SnSt w (A + 1) t nw
  aB : Bk w A 24 #[.string a, .string b, .int .i64 t, .int .i64 m]
  jB : Bk w (A + 4) 88 #[snF (A + 1)]

/-- AskedFor's function. -/
def akF (A : Nat) : Value := .func (.func 95) #[] #[.pointer (some ⟨A + 4, 0, none⟩), .pointer (some ⟨A, 0, none⟩)]

theorem AkSt.below {w w' : World} {A C : Nat} {a b : ByteArray} {t m : Int} {nw : Cl} (h : AkSt w A a b t m nw) (hb : Below C w w') (hC : A + 4 < C) : AkSt w' A a b t m nw :=
  ⟨h.s.below hb (by omega), h.aB.below hb (by omega), h.jB.below hb hC⟩

theorem AkSt.lt {w : World} {A : Nat} {a b : ByteArray} {t m : Int} {nw : Cl} (h : AkSt w A a b t m nw) : A + 4 < w.heap.size := h.jB.lt

theorem AkSt.grown {w w' : World} {A k : Nat} {a b : ByteArray} {t m : Int} {nw : Cl} (h : AkSt w A a b t m nw) (hg : w.grownBy w' (some k)) (h1 : k < A ∨ A + 4 < k) : AkSt w' A a b t m nw :=
  ⟨h.s.grown hg (by simp; omega) (by simp; omega) (by simp; omega), h.aB.grown hg (by simp; omega), h.jB.grown hg (by simp; omega)⟩

set_option maxRecDepth 100000 in
set_option maxHeartbeats 400000 in
theorem askedFor_any (a b : ByteArray) (t m : Int) (w : World) :
    Calls Try.prog 59 #[aA a b t m] w fun e w' => e = .returned (akF w.heap.size) ∧ AkSt w' w.heap.size a b t m zeroC ∧ Below w.heap.size w w' ∧ w'.heap.size = w.heap.size + 5 := by
  unfold aA
  go_enter Try.func59, Try.ntmps59
  go_wp2_with fail
  have hz0 : (w.alloc (.cells #[.string a, .string b, .int .i64 t, .int .i64 m] 24)).heap.size = w.heap.size + 1 := by simp
  have hA0 := Bk.new w 24 #[.string a, .string b, .int .i64 t, .int .i64 m]
  refine (seenAt_any t _).mono ?_
  rintro e w1 ⟨rfl, hs1, hb1, hz1⟩
  have hA1 := hA0.below hb1 (by simp)
  rw [hz0] at hs1 hb1 hz1 ⊢
  have hbw : Below w.heap.size w w1 := (below_alloc' _ _).trans (hb1.mono (by omega))
  have hJ : Bk (w1.alloc (.cells #[snF (w.heap.size + 1)] 88)) (w.heap.size + 4) 88 #[snF (w.heap.size + 1)] := by
    have := Bk.new w1 88 #[snF (w.heap.size + 1)]
    rw [hz1] at this
    exact this
  have HS := hide (show AkSt (w1.alloc (.cells #[snF (w.heap.size + 1)] 88)) w.heap.size a b t m zeroC from ⟨hs1.below (below_alloc' _ _) hs1.lt, hA1.below (below_alloc' _ _) hA1.lt, hJ⟩)
  have HB := hide (hbw.alloc (by omega) (.cells #[snF (w.heap.size + 1)] 88))
  have HZ := hide hz1
  clear hs1 hJ hb1 hbw hA0 hA1 hz1 hz0
  unfold snF
  go_wp2_with fail
  go_ret
  exact ⟨by rw [HZ.out]; rfl, HS.out, HB.out, by have := HZ.out; simp; omega⟩

set_option maxRecDepth 100000 in
theorem isBetween_any (r a b : ByteArray) (w : World) : Calls Try.prog 96 #[.string r, .string a, .string b] w fun e w' => e = .returned (.bool (askB a b r)) ∧ w' = w := by
  cases h1 : Op.bytesLess r.toList a.toList <;> cases h2 : b.toList.isEmpty <;> cases h3 : Op.bytesLess r.toList b.toList
  all_goals
    go_enter Try.func96, Try.ntmps96
    go_wp2_with fail
    go_ret
    exact ⟨by simp [askB, h1, h2, h3], rfl⟩

set_option maxRecDepth 100000 in
set_option maxHeartbeats 1000000 in
theorem askedFor1_any (a b : ByteArray) (t m : Int) (c nw : Cl) (A : Nat) (w : World) (hS : AkSt w A a b t m nw) :
    Calls Try.prog 95 #[cA c, .pointer (some ⟨A + 4, 0, none⟩), .pointer (some ⟨A, 0, none⟩)] w fun e w' => e = .returned (.bool (seenB t nw c && askB a b c.row)) ∧ AkSt w' A a b t m (nextN t nw c) ∧ w.grownBy w' (some (A + 2)) := by
  unfold cA
  have j0 := hS.jB.cell 0
  unfold snF at j0
  simp at j0
  have hlt := hS.lt
  have hS1 := hS.below (below_alloc' w (.cells #[.string c.row, .string c.col, .int .i64 c.time, .bool c.gone, .string c.val] 91)) hlt
  have hC1 : Bk (w.alloc (.cells #[.string c.row, .string c.col, .int .i64 c.time, .bool c.gone, .string c.val] 91)) w.heap.size 91 (ca c) := Bk.new _ _ _
  have hG1 : w.grownBy (w.alloc (.cells #[.string c.row, .string c.col, .int .i64 c.time, .bool c.gone, .string c.val] 91)) (some (A + 2)) := gb_alloc (gb_refl _ _) _
  go_enter Try.func95, Try.ntmps95
  go_wp2_with fail
  refine (seenAt1_any t c nw (A + 1) _ hS1.s).mono ?_
  rintro e w2 ⟨rfl, hs2, hg2⟩
  have hC2 := hC1.grown hg2 (by simp; omega)
  have hA2 := hS1.aB.grown hg2 (by simp; omega)
  have HS2 := hide (show AkSt w2 A a b t m (nextN t nw c) from ⟨hs2, hA2, hS1.jB.grown hg2 (by simp)⟩)
  have HG2 := hide (gb_trans hG1 hg2)
  obtain ⟨c0, c1, c2, c3, c4⟩ := hC2.facts
  have a0 := hA2.cell 0
  have a1 := hA2.cell 1
  simp at a0 a1
  clear hS hS1 hC1 hG1 hs2 hg2 hC2 j0 hA2
  cases hq : seenB t nw c
  · go_wp2_with fail
    go_ret
    exact ⟨by rw [hq]; rfl, HS2.out, HG2.out⟩
  · go_wp2_with (go_at_call 96; refine (isBetween_any _ _ _ _).mono ?_; rintro e w3 ⟨rfl, rfl⟩)
    go_ret
    exact ⟨by simp [hq], HS2.out, HG2.out⟩

/-- What is wrong with what is asked with. -/
def askFV (t m : Int) : Int × Int := if isNumB t = false then (3, -1) else if m < 0 ∨ 1000 < m then (3, -2) else (0, 0)

set_option maxRecDepth 100000 in
set_option maxHeartbeats 1000000 in
theorem vAskFault_any (a b : ByteArray) (t m : Int) (w : World) :
    Calls Try.prog 57 #[aA a b t m] w fun e w' => e = .returned (fltC (askFV t m)) ∧ Below w.heap.size w w' := by
  unfold aA
  cases hn : isNumB t
  · have HE := hide (show askFV t m = (3, -1) by unfold askFV; rw [if_pos hn])
    go_enter Try.func57, Try.ntmps57
    go_wp2_with (go_at_call 54; refine (isNum_any _ _).mono ?_; rintro e w' ⟨rfl, rfl⟩; rw [hn])
    exact bodyPost_ret (v := fltC (3, -1)) (by simp [results, Try.results57, go_sem, fltC]) rfl ⟨by rw [HE.out], by go_grown⟩
  · by_cases h1 : m < 0
    · have HE := hide (show askFV t m = (3, -2) by unfold askFV; rw [if_neg (by rw [hn]; decide), if_pos (.inl h1)])
      go_enter Try.func57, Try.ntmps57
      go_wp2_with (go_at_call 54; refine (isNum_any _ _).mono ?_; rintro e w' ⟨rfl, rfl⟩; rw [hn])
      exact bodyPost_ret (v := fltC (3, -2)) (by simp [results, Try.results57, go_sem, fltC]) rfl ⟨by rw [HE.out], by go_grown⟩
    · by_cases h2 : 1000 < m
      · have HE := hide (show askFV t m = (3, -2) by unfold askFV; rw [if_neg (by rw [hn]; decide), if_pos (.inr h2)])
        go_enter Try.func57, Try.ntmps57
        go_wp2_with (go_at_call 54; refine (isNum_any _ _).mono ?_; rintro e w' ⟨rfl, rfl⟩; rw [hn])
        exact bodyPost_ret (v := fltC (3, -2)) (by simp [results, Try.results57, go_sem, fltC]) rfl ⟨by rw [HE.out], by go_grown⟩
      · have HE := hide (show askFV t m = (0, 0) by unfold askFV; rw [if_neg (by rw [hn]; decide), if_neg (by omega)])
        go_enter Try.func57, Try.ntmps57
        go_wp2_with (go_at_call 54; refine (isNum_any _ _).mono ?_; rintro e w' ⟨rfl, rfl⟩; rw [hn])
        exact bodyPost_ret (v := fltC (0, 0)) (by simp [results, Try.results57, go_sem, fltC]) rfl ⟨by rw [HE.out], by go_grown⟩

end Go.Proofs.Ytlebbkbbmgmmjad

/-
  The walk over cell.Get.
-/
namespace Go.Proofs.Ytlebbkbbmgmmjad
open Go.RowKit

theorem firstG_zero (f : Nat → Int) : ∀ (m i : Nat), (firstG f m i).1 = 0 → firstG f m i = (0, 0)
  | 0, _, _ => rfl
  | m + 1, i, h => by
    by_cases h0 : f i = 0
    · simp only [firstG, h0, ne_eq, not_true_eq_false, if_false] at h ⊢
      exact firstG_zero f m (i + 1) h
    · simp [firstG, h0] at h

theorem faultR_zero {f : Nat → Int} {n : Nat} (h : (faultR f n).1 = 0) : faultR f n = (0, 0) := by
  unfold faultR at h ⊢
  split at h
  · simp at h
  · rename_i hn
    rw [if_neg hn]
    exact firstG_zero f _ _ h

theorem checkC_zero {cs : List Cl} (h : (checkC cs).1 = 0) : checkC cs = (0, 0) := faultR_zero h

theorem firstG_fine {f : Nat → Int} : ∀ {m i : Nat}, (firstG f m i).1 = 0 → ∀ j, i ≤ j → j < i + m → f j = 0
  | 0, _, _, j, h1, h2 => by omega
  | m + 1, i, h, j, h1, h2 => by
    by_cases h0 : f i = 0
    · simp only [firstG, h0, ne_eq, not_true_eq_false, if_false] at h
      by_cases hj : j = i
      · rw [hj]; exact h0
      · exact firstG_fine h j (by omega) (by omega)
    · simp [firstG, h0] at h

theorem faultR_fine {f : Nat → Int} {n : Nat} (h : (faultR f n).1 = 0) : n ≤ 1000 ∧ ∀ j, j < n → f j = 0 := by
  unfold faultR at h
  split at h
  · simp at h
  · exact ⟨by omega, fun j hj => firstG_fine h j (by omega) (by omega)⟩

/-- What Get finds, behind one that hides. -/
def getGo (t : Int) (row col : ByteArray) : Cl → List Cl → ByteArray × Bool
  | _, [] => (⟨#[]⟩, false)
  | nw, c :: r => if seenB t nw c && (c.row.toList == row.toList) && (c.col.toList == col.toList) then (c.val, true) else getGo t row col (nextN t nw c) r

/-- What Get answers. -/
def getC (cs : List Cl) (row col : ByteArray) (t : Int) : ByteArray × Bool × (Int × Int) :=
  if (checkC cs).1 ≠ 0 then (⟨#[]⟩, false, checkC cs) else if isNumB t = false then (⟨#[]⟩, false, (3, -1)) else ((getGo t row col zeroC cs).1, (getGo t row col zeroC cs).2, (0, 0))

theorem getC_bad {cs : List Cl} {row col : ByteArray} {t : Int} (h : (checkC cs).1 ≠ 0) : getC cs row col t = (⟨#[]⟩, false, checkC cs) := by rw [getC, if_pos h]
theorem getC_range {cs : List Cl} {row col : ByteArray} {t : Int} (h : (checkC cs).1 = 0) (h2 : isNumB t = false) : getC cs row col t = (⟨#[]⟩, false, (3, -1)) := by rw [getC, if_neg (by omega), if_pos h2]
theorem getC_ok {cs : List Cl} {row col : ByteArray} {t : Int} (h : (checkC cs).1 = 0) (h2 : isNumB t = true) : getC cs row col t = ((getGo t row col zeroC cs).1, (getGo t row col zeroC cs).2, (0, 0)) := by rw [getC, if_neg (by omega), if_neg (by rw [h2]; decide)]

theorem getGo_hit {t : Int} {row col : ByteArray} {nw c : Cl} {r : List Cl} (h1 : seenB t nw c = true) (h2 : (c.row.toList == row.toList) = true) (h3 : (c.col.toList == col.toList) = true) : getGo t row col nw (c :: r) = (c.val, true) := by
  simp only [getGo, h1, h2, h3, Bool.and_self, if_true]

theorem getGo_miss {t : Int} {row col : ByteArray} {nw c : Cl} {r : List Cl} (h : (seenB t nw c && (c.row.toList == row.toList) && (c.col.toList == col.toList)) = false) : getGo t row col nw (c :: r) = getGo t row col (nextN t nw c) r := by
  simp only [getGo, h, Bool.false_eq_true, if_false]

theorem drop_consC {cs : List Cl} {k : Nat} (h : k < cs.length) : cs.drop k = cs[k] :: cs.drop (k + 1) := List.drop_eq_getElem_cons h


end Go.Proofs.Ytlebbkbbmgmmjad

/-
  The walk over cell.Scan.
-/
namespace Go.Proofs.Ytlebbkbbmgmmjad
open Go.RowKit

theorem Try.info91 : (Try.prog.info? 91).map (fun i => (i.zero, i.size, i.bytes)) = some (some (.agg #[.string ⟨#[]⟩, .string ⟨#[]⟩, .int .i64 0, .bool false, .string ⟨#[]⟩]), 5, 64) := by kernel_rfl

/-- What Scan collects, behind one that hides. -/
def scanGo (a b : ByteArray) (t m : Int) : Cl → List Cl → List Cl → List Cl
  | _, [], acc => acc
  | nw, c :: r, acc => if seenB t nw c && askB a b c.row && decide ((acc.length : Int) < m) then scanGo a b t m (nextN t nw c) r (acc ++ [c]) else scanGo a b t m (nextN t nw c) r acc

/-- What Scan answers. -/
def scanC (cs : List Cl) (a b : ByteArray) (t m : Int) : List Cl × (Int × Int) :=
  if (checkC cs).1 ≠ 0 then ([], checkC cs) else if isNumB t = false then ([], (3, -1)) else if m < 0 ∨ 1000 < m then ([], (3, -2)) else (scanGo a b t m zeroC cs [], (0, 0))

theorem scanC_bad {cs : List Cl} {a b : ByteArray} {t m : Int} (h : (checkC cs).1 ≠ 0) : scanC cs a b t m = ([], checkC cs) := by rw [scanC, if_pos h]
theorem scanC_time {cs : List Cl} {a b : ByteArray} {t m : Int} (h : (checkC cs).1 = 0) (h2 : isNumB t = false) : scanC cs a b t m = ([], (3, -1)) := by rw [scanC, if_neg (by omega), if_pos h2]
theorem scanC_many {cs : List Cl} {a b : ByteArray} {t m : Int} (h : (checkC cs).1 = 0) (h2 : isNumB t = true) (h3 : m < 0 ∨ 1000 < m) : scanC cs a b t m = ([], (3, -2)) := by rw [scanC, if_neg (by omega), if_neg (by rw [h2]; decide), if_pos h3]
theorem scanC_ok {cs : List Cl} {a b : ByteArray} {t m : Int} (h : (checkC cs).1 = 0) (h2 : isNumB t = true) (h3 : ¬ (m < 0 ∨ 1000 < m)) : scanC cs a b t m = (scanGo a b t m zeroC cs [], (0, 0)) := by rw [scanC, if_neg (by omega), if_neg (by rw [h2]; decide), if_neg h3]

theorem scanGo_hit {a b : ByteArray} {t m : Int} {nw c : Cl} {r acc : List Cl} (h1 : seenB t nw c = true) (h2 : askB a b c.row = true) (h3 : decide ((acc.length : Int) < m) = true) : scanGo a b t m nw (c :: r) acc = scanGo a b t m (nextN t nw c) r (acc ++ [c]) := by
  simp only [scanGo, h1, h2, h3, Bool.and_self, if_true]

theorem scanGo_miss {a b : ByteArray} {t m : Int} {nw c : Cl} {r acc : List Cl} (h : (seenB t nw c && askB a b c.row && decide ((acc.length : Int) < m)) = false) : scanGo a b t m nw (c :: r) acc = scanGo a b t m (nextN t nw c) r acc := by
  simp only [scanGo, h, Bool.false_eq_true, if_false]

theorem Bk.new2 (w : World) (o : Obj) (t : TypeId) (xs : Array Value) : Bk ((w.alloc o).alloc (.cells xs t)) (w.heap.size + 1) t xs := by
  have := Bk.new (w.alloc o) t xs
  rwa [show (w.alloc o).heap.size = w.heap.size + 1 by simp] at this

theorem ownsC_shape {w : World} {base : Nat} {e : TypeId} {v : Value} {n : Nat} {xs : List Value} (h : w.ownsRow base e 5 v n xs) : ∃ ao cap, v = .slice ao n cap := by
  rcases h.2 with ⟨rfl, hn⟩ | ⟨g, cap, cur, rfl, _⟩
  · exact ⟨none, 0, by rw [hn]⟩
  · exact ⟨_, _, rfl⟩

theorem scanGo_full {a b : ByteArray} {t m : Int} : ∀ {cs : List Cl} {nw : Cl} {acc : List Cl}, ¬ (acc.length : Int) < m → scanGo a b t m nw cs acc = acc
  | [], _, _, _ => rfl
  | c :: r, nw, acc, h => by
    rw [scanGo_miss (by rw [show decide ((acc.length : Int) < m) = false by simpa using h, Bool.and_false])]
    exact scanGo_full h

theorem scanC_ask {cs : List Cl} {a b : ByteArray} {t m : Int} (h : (checkC cs).1 = 0) (h2 : (askFV t m).1 ≠ 0) : scanC cs a b t m = ([], askFV t m) := by
  rw [scanC, if_neg (by omega)]
  unfold askFV at h2 ⊢
  split
  · rfl
  · split
    · rfl
    · rename_i h3 h4
      simp [h3, h4] at h2

theorem askFV_zero {t m : Int} (h : (askFV t m).1 = 0) : askFV t m = (0, 0) ∧ isNumB t = true ∧ ¬ (m < 0 ∨ 1000 < m) := by
  unfold askFV at h ⊢
  cases hn : isNumB t
  · simp [hn] at h
  · by_cases hm : m < 0 ∨ 1000 < m
    · simp [hn, hm] at h
    · simp [hm]


end Go.Proofs.Ytlebbkbbmgmmjad

/-
  Plain maths of cells in order: what is seen, found once.
-/
namespace Go.Proofs.Ytlebbkbbmgmmjad
open Go.RowKit

abbrev bl := Op.bytesLess

theorem bl_irrefl : ∀ a : List UInt8, bl a a = false
  | [] => rfl
  | x :: a => by simp [bl, Op.bytesLess]; exact bl_irrefl a

theorem bl_trans : ∀ {a b c : List UInt8}, bl a b = true → bl b c = true → bl a c = true
  | _, [], _, h, _ => by simp [bl, Op.bytesLess] at h
  | _, _ :: _, [], _, h => by simp [bl, Op.bytesLess] at h
  | [], _ :: _, _ :: _, _, _ => rfl
  | x :: a, y :: b, z :: c, h1, h2 => by
    simp only [bl, Op.bytesLess, Bool.or_eq_true, decide_eq_true_eq, Bool.and_eq_true, beq_iff_eq] at h1 h2 ⊢
    rcases h1 with h1 | ⟨rfl, h1⟩
    · rcases h2 with h2 | ⟨rfl, h2⟩
      · exact .inl (UInt8.lt_trans h1 h2)
      · exact .inl h1
    · rcases h2 with h2 | ⟨rfl, h2⟩
      · exact .inl h2
      · exact .inr ⟨rfl, bl_trans h1 h2⟩

theorem bl_asymm {a b : List UInt8} (h : bl a b = true) : bl b a = false := by
  cases hb : bl b a
  · rfl
  · have := bl_trans h hb
    rw [bl_irrefl] at this
    cases this

theorem bl_total : ∀ {a b : List UInt8}, bl a b = false → bl b a = false → a = b
  | [], [], _, _ => rfl
  | [], _ :: _, h, _ => by simp [bl, Op.bytesLess] at h
  | _ :: _, [], _, h => by simp [bl, Op.bytesLess] at h
  | x :: a, y :: b, h1, h2 => by
    simp only [bl, Op.bytesLess, Bool.or_eq_false_iff, decide_eq_false_iff_not, Bool.and_eq_false_iff, beq_eq_false_iff_ne] at h1 h2
    have hxy : x = y := UInt8.toNat_inj.1 (by have := h1.1; have := h2.1; simp only [UInt8.lt_iff_toNat_lt] at *; omega)
    subst hxy
    rw [bl_total (h1.2.resolve_left (by simp)) (h2.2.resolve_left (by simp))]

theorem bl_ne {a b : List UInt8} (h : bl a b = true) : a ≠ b := fun e => by rw [e, bl_irrefl] at h; cases h

/-- A place: a row and a column. -/
abbrev Ky := List UInt8 × List UInt8
def rc (c : Cl) : Ky := (c.row.toList, c.col.toList)
def kl (a b : Ky) : Prop := bl a.1 b.1 = true ∨ (a.1 = b.1 ∧ bl a.2 b.2 = true)

theorem kl_irrefl (a : Ky) : ¬ kl a a := by
  rintro (h | ⟨_, h⟩) <;> rw [bl_irrefl] at h <;> cases h

theorem kl_trans {a b c : Ky} (h1 : kl a b) (h2 : kl b c) : kl a c := by
  rcases h1 with h1 | ⟨e1, h1⟩ <;> rcases h2 with h2 | ⟨e2, h2⟩
  · exact .inl (bl_trans h1 h2)
  · exact .inl (e2 ▸ h1)
  · exact .inl (e1 ▸ h2)
  · exact .inr ⟨e1.trans e2, bl_trans h1 h2⟩

theorem kl_ne {a b : Ky} (h : kl a b) : a ≠ b := fun e => kl_irrefl b (e ▸ h)

theorem kl_total {a b : Ky} (h1 : ¬ kl a b) (h2 : ¬ kl b a) : a = b := by
  have x1 : bl a.1 b.1 = false := by cases h : bl a.1 b.1; rfl; exact absurd (.inl h) h1
  have x2 : bl b.1 a.1 = false := by cases h : bl b.1 a.1; rfl; exact absurd (.inl h) h2
  have e := bl_total x1 x2
  have x3 : bl a.2 b.2 = false := by cases h : bl a.2 b.2; rfl; exact absurd (.inr ⟨e, h⟩) h1
  have x4 : bl b.2 a.2 = false := by cases h : bl b.2 a.2; rfl; exact absurd (.inr ⟨e.symm, h⟩) h2
  exact Prod.ext e (bl_total x3 x4)

theorem cmpS_neg {a b : ByteArray} : cmpS a b < 0 ↔ bl a.toList b.toList = true := by
  unfold cmpS
  cases h : Op.bytesLess a.toList b.toList
  · by_cases e : a.toList = b.toList <;> simp [e, bl, h] at h ⊢ <;> simp [h]
  · simp [bl, h]

theorem cmpS_zero {a b : ByteArray} : cmpS a b = 0 ↔ a.toList = b.toList := by
  unfold cmpS
  by_cases e : a.toList = b.toList
  · have := bl_irrefl b.toList
    simp only [e]
    simp only [bl] at this
    simp [this]
  · simp only [e, if_false]
    split <;> simp

/-- a stands ahead of b. -/
def Lt (a b : Cl) : Prop := kl (rc a) (rc b) ∨ (rc a = rc b ∧ b.time < a.time)

theorem ordC_neg {a b : Cl} : ordC a b < 0 ↔ Lt a b := by
  unfold ordC Lt kl rc
  by_cases h1 : cmpS a.row b.row = 0
  · have e1 := cmpS_zero.1 h1
    by_cases h2 : cmpS a.col b.col = 0
    · have e2 := cmpS_zero.1 h2
      simp only [h1, h2, ne_eq, not_true_eq_false, if_false, e1, e2, bl_irrefl, cmpI]
      simp
      split <;> (try split) <;> omega
    · simp only [h1, ne_eq, not_true_eq_false, if_false, h2, not_false_eq_true, if_true, cmpS_neg, e1, bl_irrefl]
      have : ¬ a.col.toList = b.col.toList := fun e => h2 (cmpS_zero.2 e)
      simp [this]
  · simp only [ne_eq, h1, not_false_eq_true, if_true, cmpS_neg]
    have : ¬ a.row.toList = b.row.toList := fun e => h1 (cmpS_zero.2 e)
    simp [this]

theorem Lt_irrefl (a : Cl) : ¬ Lt a a := by
  rintro (h | ⟨_, h⟩)
  · exact kl_irrefl _ h
  · omega

theorem Lt_trans {a b c : Cl} (h1 : Lt a b) (h2 : Lt b c) : Lt a c := by
  rcases h1 with h1 | ⟨e1, h1⟩ <;> rcases h2 with h2 | ⟨e2, h2⟩
  · exact .inl (kl_trans h1 h2)
  · exact .inl (e2 ▸ h1)
  · exact .inl (e1 ▸ h2)
  · exact .inr ⟨e1.trans e2, by omega⟩

theorem Lt_le {a b : Cl} (h : Lt a b) : kl (rc a) (rc b) ∨ rc a = rc b := h.elim .inl (fun h => .inr h.1)

theorem pw_of_adj : ∀ (cs : List Cl), (∀ i c d, cs[i]? = some c → cs[i + 1]? = some d → Lt c d) → cs.Pairwise Lt
  | [], _ => .nil
  | [c], _ => by simp
  | c :: e :: r, h => by
    have ih := pw_of_adj (e :: r) (fun i x y hx hy => h (i + 1) x y (by simpa using hx) (by simpa using hy))
    have hce : Lt c e := h 0 c e rfl rfl
    refine List.pairwise_cons.2 ⟨fun d hd => ?_, ih⟩
    rcases List.mem_cons.1 hd with rfl | hd
    · exact hce
    · exact Lt_trans hce ((List.pairwise_cons.1 ih).1 d hd)

/-- Cells that Check passes. -/
theorem fine_len {cs : List Cl} (h : (checkC cs).1 = 0) : cs.length ≤ 1000 := (faultR_fine h).1

theorem fine_code {cs : List Cl} (h : (checkC cs).1 = 0) {c : Cl} (hc : c ∈ cs) : codeC c = 0 := by
  obtain ⟨i, hi, e⟩ := List.getElem_of_mem hc
  have h0 := (faultR_fine h).2 i hi
  have hg : cs[i]? = some c := by rw [List.getElem?_eq_getElem hi, e]
  by_cases hz : codeC c = 0
  · exact hz
  · rw [codeAt_own hg hz] at h0
    exact h0

theorem fine_pw {cs : List Cl} (h : (checkC cs).1 = 0) : cs.Pairwise Lt := by
  refine pw_of_adj cs fun i c d hc hd => ?_
  have hi : i + 1 < cs.length := (List.getElem?_eq_some_iff.1 hd).1
  have h0 := (faultR_fine h).2 (i + 1) hi
  rw [codeAt_later hd hc (fine_code h (List.mem_of_getElem? hd))] at h0
  rw [← ordC_neg]
  split at h0
  · simp at h0
  · omega

theorem code_row {c : Cl} (h : codeC c = 0) : c.row.toList ≠ [] := by
  intro e
  unfold codeC at h
  rw [e] at h
  simp at h

theorem kl_zero {c : Cl} (h : codeC c = 0) : kl (rc zeroC) (rc c) := by
  left
  have := code_row h
  have e0 : (rc zeroC).1 = [] := by simp [rc, zeroC, ByteArray.toList_eq]
  rw [e0]
  show bl [] c.row.toList = true
  cases e : c.row.toList with
  | nil => exact absurd e this
  | cons x l => rfl

/-- The cells that are seen, behind one that hides. -/
def visGo (t : Int) : Cl → List Cl → List Cl
  | _, [] => []
  | nw, c :: r => if seenB t nw c then c :: visGo t (nextN t nw c) r else visGo t (nextN t nw c) r
/-- The cells that are seen. -/
def vis (t : Int) (cs : List Cl) : List Cl := visGo t zeroC cs

theorem hid_iff {t : Int} {nw c : Cl} : hid t nw c = true ↔ t < c.time ∨ rc c = rc nw := by
  unfold hid rc
  simp

theorem visGo_sub (t : Int) : ∀ (cs : List Cl) (nw : Cl), (visGo t nw cs).Sublist cs
  | [], _ => .slnil
  | c :: r, nw => by
    unfold visGo
    split
    · exact (visGo_sub t r _).cons_cons c
    · exact (visGo_sub t r _).cons c

theorem visGo_pw (t : Int) : ∀ (cs : List Cl) (nw : Cl), cs.Pairwise Lt → (∀ c ∈ cs, kl (rc nw) (rc c) ∨ rc nw = rc c) →
    (∀ d ∈ visGo t nw cs, kl (rc nw) (rc d)) ∧ (visGo t nw cs).Pairwise (fun a b => kl (rc a) (rc b))
  | [], _, _, _ => ⟨by simp [visGo], .nil⟩
  | c :: r, nw, hp, hn => by
    obtain ⟨hp1, hp2⟩ := List.pairwise_cons.1 hp
    cases hh : hid t nw c
    · have hx : ¬ (t < c.time ∨ rc c = rc nw) := fun h => by rw [hid_iff.2 h] at hh; cases hh
      have hlt : kl (rc nw) (rc c) := (hn c (by simp)).resolve_right (fun e => hx (.inr e.symm))
      have hnx : nextN t nw c = c := by simp [nextN, hh]
      obtain ⟨i1, i2⟩ := visGo_pw t r c hp2 (fun d hd => Lt_le (hp1 d hd))
      unfold visGo
      rw [hnx]
      split
      · refine ⟨fun d hd => ?_, List.pairwise_cons.2 ⟨i1, i2⟩⟩
        rcases List.mem_cons.1 hd with rfl | hd
        · exact hlt
        · exact kl_trans hlt (i1 d hd)
      · exact ⟨fun d hd => kl_trans hlt (i1 d hd), i2⟩
    · have hnx : nextN t nw c = nw := by simp [nextN, hh]
      have hs : seenB t nw c = false := by simp [seenB, hh]
      unfold visGo
      rw [hnx, hs]
      exact visGo_pw t r nw hp2 (fun d hd => hn d (by simp [hd]))

theorem scanGo_eq (a b : ByteArray) (t m : Int) : ∀ (cs : List Cl) (nw : Cl) (acc : List Cl),
    scanGo a b t m nw cs acc = acc ++ ((visGo t nw cs).filter fun c => askB a b c.row).take (m.toNat - acc.length)
  | [], _, acc => by simp [scanGo, visGo]
  | c :: r, nw, acc => by
    unfold visGo
    cases h1 : seenB t nw c
    · rw [scanGo_miss (by rw [h1]; rfl), scanGo_eq a b t m r]
      simp
    · cases h2 : askB a b c.row
      · rw [scanGo_miss (by rw [h1, h2]; rfl), scanGo_eq a b t m r]
        simp [h2]
      · by_cases h3 : (acc.length : Int) < m
        · rw [scanGo_hit h1 h2 (by simpa using h3), scanGo_eq a b t m r]
          simp only [if_true, List.filter_cons, h2, List.length_append, List.length_cons, List.length_nil, List.append_assoc]
          obtain ⟨k, hk⟩ : ∃ k, m.toNat - acc.length = k + 1 := ⟨m.toNat - acc.length - 1, by omega⟩
          rw [hk, show m.toNat - (acc.length + (0 + 1)) = k by omega]
          rfl
        · rw [scanGo_miss (by rw [h1, h2]; simpa using h3), scanGo_eq a b t m r]
          simp [show m.toNat - acc.length = 0 by omega]

/-- Of this place? -/
def isAt (k : Ky) (c : Cl) : Bool := c.row.toList == k.1 && c.col.toList == k.2
theorem isAt_iff {k : Ky} {c : Cl} : isAt k c = true ↔ rc c = k := by
  unfold isAt rc
  rw [Prod.ext_iff]
  simp

theorem getGo_eq (t : Int) (row col : ByteArray) : ∀ (cs : List Cl) (nw : Cl),
    getGo t row col nw cs = match (visGo t nw cs).find? (isAt (row.toList, col.toList)) with
      | some c => (c.val, true)
      | none => (⟨#[]⟩, false)
  | [], _ => rfl
  | c :: r, nw => by
    unfold visGo
    cases h1 : seenB t nw c
    · rw [getGo_miss (by rw [h1]; rfl), getGo_eq t row col r]
      rfl
    · cases h2 : isAt (row.toList, col.toList) c
      · rw [getGo_miss (by rw [h1]; exact h2), getGo_eq t row col r]
        simp [h2]
      · have h3 := h2
        unfold isAt at h3
        rw [Bool.and_eq_true] at h3
        rw [getGo_hit h1 h3.1 h3.2]
        simp [h2]

theorem vis_pw {cs : List Cl} (t : Int) (h : (checkC cs).1 = 0) : (vis t cs).Pairwise (fun a b => kl (rc a) (rc b)) :=
  (visGo_pw t cs zeroC (fine_pw h) (fun _ hc => .inl (kl_zero (fine_code h hc)))).2

/-- In a list in order by places, who is there is found. -/
theorem find_pw : ∀ {l : List Cl}, l.Pairwise (fun a b => kl (rc a) (rc b)) → ∀ {c : Cl}, c ∈ l → l.find? (isAt (rc c)) = some c
  | [], _, _, hc => by simp at hc
  | d :: l, hp, c, hc => by
    obtain ⟨h1, h2⟩ := List.pairwise_cons.1 hp
    rcases List.mem_cons.1 hc with rfl | hc
    · rw [List.find?_cons_of_pos (isAt_iff.2 rfl)]
    · have := h1 c hc
      rw [List.find?_cons_of_neg (by rw [isAt_iff]; exact kl_ne this)]
      exact find_pw h2 hc

/-- Two lists in strict order that have the same are the same. -/
theorem pw_ext {α : Type} {R : α → α → Prop} (hirr : ∀ a, ¬ R a a) (htr : ∀ a b c, R a b → R b c → R a c) : ∀ {l m : List α}, l.Pairwise R → m.Pairwise R → (∀ a, a ∈ l ↔ a ∈ m) → l = m
  | [], [], _, _, _ => rfl
  | [], b :: m, _, _, h => by have := (h b).2 (by simp); simp at this
  | a :: l, [], _, _, h => by have := (h a).1 (by simp); simp at this
  | a :: l, b :: m, hl, hm, h => by
    obtain ⟨l1, l2⟩ := List.pairwise_cons.1 hl
    obtain ⟨m1, m2⟩ := List.pairwise_cons.1 hm
    have hab : a = b := by
      rcases List.mem_cons.1 ((h a).1 (by simp)) with e | ha
      · exact e
      · rcases List.mem_cons.1 ((h b).2 (by simp)) with e | hb
        · exact e.symm
        · exact absurd (htr _ _ _ (m1 a ha) (l1 b hb)) (hirr b)
    subst hab
    rw [pw_ext hirr htr l2 m2 fun x => ?_]
    constructor
    · intro hx
      rcases List.mem_cons.1 ((h x).1 (by simp [hx])) with e | hx'
      · subst e; exact absurd (l1 _ hx) (hirr _)
      · exact hx'
    · intro hx
      rcases List.mem_cons.1 ((h x).2 (by simp [hx])) with e | hx'
      · subst e; exact absurd (m1 _ hx) (hirr _)
      · exact hx'

end Go.Proofs.Ytlebbkbbmgmmjad
