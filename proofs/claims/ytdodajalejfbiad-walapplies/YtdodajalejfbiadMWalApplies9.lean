/-
  Texts joined: WalW3, CellS4, CellB1, CellR1, CellR2, CellR3, ScansMath.
-/
import Derived.Test.YtdodajalejfbiadMWalApplies8
/-
  The walk over slices.BinarySearchFunc at cells.
-/
namespace Go.Proofs.Ytdodajalejfbiad
open Go.RowKit

/-- Is it there? -/
def fndB (o : Option Cl) (c : Cl) : Bool := match o with | none => false | some x => ordC x c == 0

set_option maxRecDepth 100000 in
set_option maxHeartbeats 1000000 in
theorem bsearch_any (v : Value) (cs : List Cl) (c : Cl) (w : World) (hv : RdC w v cs) (hp : cs.Pairwise Lt) (hl : cs.length ≤ 1000000) :
    Calls Try.prog 109 #[v, cA c, .func (.func 63) #[] #[]] w fun e w' => ∃ i : Nat, i ≤ cs.length ∧ e = .returned (.tuple #[.int .i64 i, .bool (fndB cs[i]? c)]) ∧ Below w.heap.size w w' ∧ (∀ x ∈ cs.take i, Lt x c) ∧ (∀ x ∈ cs.drop i, ¬ Lt x c) := by
  obtain ⟨ao, cap, hvv, hc1, hc2⟩ := hv.shape
  subst hvv
  unfold maxLen at hc2
  have HP := hide hp
  clear hp
  unfold cA
  go_enter Try.func109, Try.ntmps109
  go_wp2_with fail
  have hT0 : Bk (w.alloc (.cells #[.string c.row, .string c.col, .int .i64 c.time, .bool c.gone, .string c.val] 91)) w.heap.size 91 (ca c) := Bk.new _ _ _
  have hb0 := below_alloc' w (.cells #[.string c.row, .string c.col, .int .i64 c.time, .bool c.gone, .string c.val] 91)
  have hz0 : (w.alloc (.cells #[.string c.row, .string c.col, .int .i64 c.time, .bool c.gone, .string c.val] 91)).heap.size = w.heap.size + 1 := by simp
  generalize w.alloc (.cells #[.string c.row, .string c.col, .int .i64 c.time, .bool c.gone, .string c.val] 91) = w0 at *
  go_loopw [9, 10, 11] (fun iv jv _ wr => ∃ (i j : Nat), i ≤ j ∧ j ≤ cs.length ∧ iv = .int .i64 i ∧ jv = .int .i64 j ∧ Below w0.heap.size w0 wr ∧ (∀ x ∈ cs.take i, Lt x c) ∧ (∀ x ∈ cs.drop j, ¬ Lt x c))
    (fun iv jv _ _ => (intOf jv).toNat - (intOf iv).toNat)
  case atStart => exact ⟨0, cs.length, by omega, Nat.le_refl _, rfl, rfl, Below.refl _ _, by simp, by simp⟩
  case round =>
    obtain ⟨i, j, hij, hj, rfl, rfl, hbel, hlo, hhi⟩ := hrel
    have HLO := hide hlo
    have HHI := hide hhi
    clear hlo hhi
    have hzr := hbel.size
    have hbw := hb0.trans (hbel.mono (by omega))
    have hTr := hT0.below hbel hT0.lt
    by_cases hlt : i < j
    · obtain ⟨h, hh⟩ : ∃ h : Nat, h = (i + j) / 2 := ⟨_, rfl⟩
      have hh1 : i ≤ h := by omega
      have hh2 : h < j := by omega
      have hlti : (i : Int) < (j : Int) := by omega
      go_upto_region 5 with fail
      rw [show ((i : Int) + (j : Int)) / 2 = ((h : Nat) : Int) by omega]
      obtain ⟨x, hx⟩ : ∃ x, cs[h]? = some x := ⟨_, List.getElem?_eq_getElem (by omega)⟩
      obtain ⟨bb, off, rfl, hbb, hat⟩ := hv.hereD hx
      have hk1 : (0 : Int) ≤ (h : Int) := by omega
      have hk2 : (h : Int) < (cs.length : Int) := by omega
      have hkeep : ∀ W, Below wr.heap.size wr W → (W.cell? ⟨bb, (off + h * 5), none⟩ = some (.string x.row) ∧ W.cell? ⟨bb, (off + h * 5) + 1, none⟩ = some (.string x.col) ∧ W.cell? ⟨bb, (off + h * 5) + 2, none⟩ = some (.int .i64 x.time) ∧ W.cell? ⟨bb, (off + h * 5) + 3, none⟩ = some (.bool x.gone) ∧ W.cell? ⟨bb, (off + h * 5) + 4, none⟩ = some (.string x.val)) ∧ (W.cell? ⟨w.heap.size, 0, none⟩ = some (.string c.row) ∧ W.cell? ⟨w.heap.size, 0 + 1, none⟩ = some (.string c.col) ∧ W.cell? ⟨w.heap.size, 0 + 2, none⟩ = some (.int .i64 c.time) ∧ W.cell? ⟨w.heap.size, 0 + 3, none⟩ = some (.bool c.gone) ∧ W.cell? ⟨w.heap.size, 0 + 4, none⟩ = some (.string c.val)) := fun W hW => by
        obtain ⟨c0, c1, c2, c3, c4⟩ := (hat.below hbw).below hW
        obtain ⟨d0, d1, d2, d3, d4⟩ := (hTr.below hW hTr.lt).at
        exact ⟨⟨c0, c1, c2, c3, c4⟩, d0, d1, d2, d3, d4⟩
      have HK := hide hkeep
      obtain ⟨⟨c0, c1, c2, c3, c4⟩, d0, d1, d2, d3, d4⟩ := hkeep wr (Below.refl _ _)
      have HX := hide hx
      have HH := hide hh
      clear hkeep hat hx hh
      go_region_held3 (fun W => (W.cell? ⟨bb, (off + h * 5), none⟩ = some (.string x.row) ∧ W.cell? ⟨bb, (off + h * 5) + 1, none⟩ = some (.string x.col) ∧ W.cell? ⟨bb, (off + h * 5) + 2, none⟩ = some (.int .i64 x.time) ∧ W.cell? ⟨bb, (off + h * 5) + 3, none⟩ = some (.bool x.gone) ∧ W.cell? ⟨bb, (off + h * 5) + 4, none⟩ = some (.string x.val)) ∧ (W.cell? ⟨w.heap.size, 0, none⟩ = some (.string c.row) ∧ W.cell? ⟨w.heap.size, 0 + 1, none⟩ = some (.string c.col) ∧ W.cell? ⟨w.heap.size, 0 + 2, none⟩ = some (.int .i64 c.time) ∧ W.cell? ⟨w.heap.size, 0 + 3, none⟩ = some (.bool c.gone) ∧ W.cell? ⟨w.heap.size, 0 + 4, none⟩ = some (.string c.val))) (exact HK.out _ (by go_grown)) (first
        | (go_at_call 63; refine (order_any x c _).mono ?_; rintro e w2 ⟨rfl, hb2⟩; have hb12 : Below wr.heap.size wr w2 := Below.trans (by go_grown) hb2; have hbel2 : Below w0.heap.size w0 w2 := hbel.trans (hb12.mono hzr)))
      all_goals
        by_cases ho : ordC x c < 0
        · go_wp2_with fail
          go_roundw
          case rel =>
            refine ⟨h + 1, j, by omega, hj, by go_num, rfl, hbel2, fun y hy => ?_, HHI.out⟩
            have hxc := ordC_neg.1 ho
            obtain ⟨k, hk, e⟩ := List.getElem_of_mem hy
            rw [List.length_take] at hk
            rw [List.getElem_take] at e
            by_cases hkh : k = h
            · subst hkh
              have : cs[k] = x := by have := HX.out; rw [List.getElem?_eq_getElem (by omega)] at this; exact Option.some.inj this
              rw [← e, this]
              exact hxc
            · have h1 := List.pairwise_iff_getElem.1 HP.out k h (by omega) (by omega) (by omega)
              have : cs[h] = x := by have := HX.out; rw [List.getElem?_eq_getElem (by omega)] at this; exact Option.some.inj this
              rw [this, e] at h1
              exact Lt_trans h1 hxc
          case measure => simp [intOf]; omega
        · go_wp2_with fail
          go_roundw
          case rel =>
            refine ⟨i, h, hh1, by omega, rfl, rfl, hbel2, HLO.out, fun y hy hlt9 => ?_⟩
            obtain ⟨k, hk, e⟩ := List.getElem_of_mem hy
            rw [List.length_drop] at hk
            rw [List.getElem_drop] at e
            have hxx : cs[h] = x := by have := HX.out; rw [List.getElem?_eq_getElem (by omega)] at this; exact Option.some.inj this
            by_cases hk0 : k = 0
            · subst hk0
              simp only [Nat.add_zero] at e
              rw [hxx] at e
              subst e
              exact ho (ordC_neg.2 hlt9)
            · have h1 := List.pairwise_iff_getElem.1 HP.out h (h + k) (by omega) (by omega) (by omega)
              rw [hxx, e] at h1
              exact ho (ordC_neg.2 (Lt_trans h1 hlt9))
          case measure => simp [intOf]; omega
    · have hlti : ¬ (i : Int) < (j : Int) := by omega
      have hie : i = j := by omega
      subst hie
      by_cases hin : i < cs.length
      · obtain ⟨x, hx⟩ : ∃ x, cs[i]? = some x := ⟨_, List.getElem?_eq_getElem hin⟩
        obtain ⟨bb, off, rfl, hbb, hat⟩ := hv.hereD hx
        have hk1 : (0 : Int) ≤ (i : Int) := by omega
        have hk2 : (i : Int) < (cs.length : Int) := by omega
        have hkeep : ∀ W, Below wr.heap.size wr W → (W.cell? ⟨bb, (off + i * 5), none⟩ = some (.string x.row) ∧ W.cell? ⟨bb, (off + i * 5) + 1, none⟩ = some (.string x.col) ∧ W.cell? ⟨bb, (off + i * 5) + 2, none⟩ = some (.int .i64 x.time) ∧ W.cell? ⟨bb, (off + i * 5) + 3, none⟩ = some (.bool x.gone) ∧ W.cell? ⟨bb, (off + i * 5) + 4, none⟩ = some (.string x.val)) ∧ (W.cell? ⟨w.heap.size, 0, none⟩ = some (.string c.row) ∧ W.cell? ⟨w.heap.size, 0 + 1, none⟩ = some (.string c.col) ∧ W.cell? ⟨w.heap.size, 0 + 2, none⟩ = some (.int .i64 c.time) ∧ W.cell? ⟨w.heap.size, 0 + 3, none⟩ = some (.bool c.gone) ∧ W.cell? ⟨w.heap.size, 0 + 4, none⟩ = some (.string c.val)) := fun W hW => by
          obtain ⟨c0, c1, c2, c3, c4⟩ := (hat.below hbw).below hW
          obtain ⟨d0, d1, d2, d3, d4⟩ := (hTr.below hW hTr.lt).at
          exact ⟨⟨c0, c1, c2, c3, c4⟩, d0, d1, d2, d3, d4⟩
        have HK := hide hkeep
        obtain ⟨⟨c0, c1, c2, c3, c4⟩, d0, d1, d2, d3, d4⟩ := hkeep wr (Below.refl _ _)
        have HX := hide hx
        clear hkeep hat hx
        go_upto_region 8 with fail
        go_region_held3 (fun W => (W.cell? ⟨bb, (off + i * 5), none⟩ = some (.string x.row) ∧ W.cell? ⟨bb, (off + i * 5) + 1, none⟩ = some (.string x.col) ∧ W.cell? ⟨bb, (off + i * 5) + 2, none⟩ = some (.int .i64 x.time) ∧ W.cell? ⟨bb, (off + i * 5) + 3, none⟩ = some (.bool x.gone) ∧ W.cell? ⟨bb, (off + i * 5) + 4, none⟩ = some (.string x.val)) ∧ (W.cell? ⟨w.heap.size, 0, none⟩ = some (.string c.row) ∧ W.cell? ⟨w.heap.size, 0 + 1, none⟩ = some (.string c.col) ∧ W.cell? ⟨w.heap.size, 0 + 2, none⟩ = some (.int .i64 c.time) ∧ W.cell? ⟨w.heap.size, 0 + 3, none⟩ = some (.bool c.gone) ∧ W.cell? ⟨w.heap.size, 0 + 4, none⟩ = some (.string c.val))) (exact HK.out _ (by go_grown)) (first
          | (go_at_call 63; refine (order_any x c _).mono ?_; rintro e w2 ⟨rfl, hb2⟩; have hb12 : Below wr.heap.size wr w2 := Below.trans (by go_grown) hb2; have hbw2 : Below w.heap.size w w2 := hbw.trans (hb12.mono (by omega))))
        all_goals
          go_wp2_with fail
          exact bodyPost_ret (v := .tuple #[.int .i64 i, .bool (ordC x c == 0)]) (by simp [results, Try.results109, go_sem]) rfl ⟨i, hj, by rw [HX.out]; rfl, hbw2, HLO.out, HHI.out⟩
      · have hie : i = cs.length := by omega
        subst hie
        have hlt9 : decide ((cs.length : Int) < (cs.length : Int)) = false := by simp
        go_wp2_with fail
        go_region
        all_goals
          go_wp2_with fail
          exact bodyPost_ret (v := .tuple #[.int .i64 cs.length, .bool false]) (by simp [results, Try.results109, go_sem]) rfl ⟨cs.length, Nat.le_refl _, by simp [fndB], by first | exact hbw | exact hbw.drew, HLO.out, HHI.out⟩

end Go.Proofs.Ytdodajalejfbiad

/-
  The walks over cell.merged and cell.Sort.
-/
namespace Go.Proofs.Ytdodajalejfbiad
open Go.RowKit

theorem RdL.part {w : World} {ao : Option Addr} {n cap h : Nat} {ls : List (List Cl)} (hr : RdL w (.slice ao n cap) ls) (hh : h ≤ n) :
    RdL w (Go.sliced ao 0 h cap 1) (ls.take h) ∧ RdL w (Go.sliced ao h n cap 1) (ls.drop h) := by
  obtain ⟨vs, h1, h2, h3, h4⟩ := hr
  refine ⟨⟨vs.take h, h1.upto hh, by simp [h2], fun u hu => h3 u (List.mem_of_mem_take hu), fun i u l hu hl => ?_⟩, ⟨vs.drop h, h1.from hh, by simp [h2], fun u hu => h3 u (List.mem_of_mem_drop hu), fun i u l hu hl => ?_⟩⟩
  · rw [List.getElem?_take] at hu hl
    split at hu
    · rename_i hi
      rw [if_pos hi] at hl
      exact h4 i u l hu hl
    · cases hu
  · rw [List.getElem?_drop] at hu hl
    exact h4 _ u l hu hl

theorem RdL.below {w w' : World} {v : Value} {ls : List (List Cl)} (h : RdL w v ls) (hb : Below w.heap.size w w') : RdL w' v ls := by
  obtain ⟨vs, h1, h2, h3, h4⟩ := h
  exact ⟨vs, h1.below hb, h2, h3, fun i u l hu hl => (h4 i u l hu hl).below hb⟩

theorem RdL.shape {w : World} {v : Value} {ls : List (List Cl)} (h : RdL w v ls) : ∃ ao cap, v = .slice ao ls.length cap ∧ ls.length ≤ cap ∧ cap ≤ maxLen := by
  obtain ⟨vs, h1, h2, h3, h4⟩ := h
  obtain ⟨ao, cap, hv, h5, h6⟩ := h1.shape
  rw [h2] at hv h5
  exact ⟨ao, cap, hv, h5, h6⟩


/-- The faults that Sort tells. -/
def sortF (cs : List Cl) : Int × Int := faultR (fun i => codeC (cs.getD i zeroC)) cs.length


end Go.Proofs.Ytdodajalejfbiad

/-
  The walks beneath the laws of cells: the example, copies.
-/
namespace Go.Proofs.Ytdodajalejfbiad
open Go.RowKit

def verC : List Cl := [⟨⟨#[114]⟩, ⟨#[99]⟩, 2, false, ⟨#[98]⟩⟩, ⟨⟨#[114]⟩, ⟨#[99]⟩, 1, false, ⟨#[97]⟩⟩]

set_option maxRecDepth 100000 in
set_option maxHeartbeats 400000 in
theorem versions_any (w : World) : Calls Try.prog 53 #[] w fun e w' => ∃ v', e = .returned v' ∧ RdC w' v' verC ∧ Below w.heap.size w w' := by
  go_enter Try.func53, Try.ntmps53
  go_wp2_with fail
  go_ret
  refine ⟨_, rfl, ?_, by go_grown⟩
  refine ⟨some ⟨w.heap.size, 0, none⟩, 2, rfl, by decide, by decide, (fun h => by cases h), fun a ha j v hv => ?_⟩
  cases ha
  rw [Addr.add_lit, Nat.zero_add, ← hv]
  refine ((Bk.new w 91 _).cell j).trans ?_
  simp [cc, cv, verC]

theorem getC_ver1 : getC verC ⟨#[114]⟩ ⟨#[99]⟩ 1 = (⟨#[97]⟩, true, (0, 0)) := by decide +kernel
theorem getC_ver0 : getC verC ⟨#[114]⟩ ⟨#[99]⟩ 0 = (⟨#[]⟩, false, (0, 0)) := by decide +kernel


set_option maxRecDepth 100000 in
set_option maxHeartbeats 400000 in
theorem ownCells_any (v : Value) (cs : List Cl) (w : World) (hv : RdC w v cs) (hl : cs.length ≤ 1000000) :
    Calls Try.prog 43 #[v] w fun e w' => ∃ v', e = .returned v' ∧ RdC w' v' cs ∧ Below w.heap.size w w' ∧ New w.heap.size v' := by
  obtain ⟨ao, cap, hvv, hc1, hc2⟩ := hv.shape
  subst hvv
  have hl2 : 0 + cs.length ≤ 1000000000 := by omega
  go_enter Try.func43, Try.ntmps43
  go_wp2_with (at_builtin; go_must (refine wpList_append_rdC (cs := []) (World.ownsRow_nil w w.heap.size 91 5) hv Try.underlying30 Try.info91 rfl rfl rfl rfl rfl hl2 (by decide) (Nat.le_refl _) ?_); intro v1 w1 ho1 hb1 hg1; clear hg1)
  go_ret
  exact ⟨_, rfl, RdC.ofOwns ho1, hb1, New.owns ho1⟩

def manyB (n : Int) : Bool := decide (150 < n ∧ n < 1000 ∨ 2000 < n)

set_option maxRecDepth 100000 in
set_option maxHeartbeats 400000 in
theorem many_any (n : Int) (w : World) : Calls Try.prog 19 #[.int .i64 n] w fun e w' => e = .returned (.bool (manyB n)) ∧ w' = w := by
  have h : n ≤ 150 ∨ 150 < n ∧ n < 1000 ∨ 1000 ≤ n ∧ n ≤ 2000 ∨ 2000 < n := by omega
  rcases h with h | ⟨h, h2⟩ | ⟨h, h2⟩ | h
  · have hd : decide (150 < n) = false := by simp; omega
    have hd2 : decide (2000 < n) = false := by simp; omega
    have HE := hide (show manyB n = false by unfold manyB; simp; omega)
    go_enter Try.func19, Try.ntmps19
    go_wp2_with fail
    go_ret
    exact ⟨by rw [HE.out]; rfl, rfl⟩
  · have hd : decide (150 < n) = true := by simp; omega
    have hd2 : decide (n < 1000) = true := by simp; omega
    have HE := hide (show manyB n = true by unfold manyB; simp; omega)
    go_enter Try.func19, Try.ntmps19
    go_wp2_with fail
    go_ret
    exact ⟨by rw [HE.out]; rfl, rfl⟩
  · have hd : decide (150 < n) = true := by simp; omega
    have hd2 : decide (n < 1000) = false := by simp; omega
    have hd3 : decide (2000 < n) = false := by simp; omega
    have HE := hide (show manyB n = false by unfold manyB; simp; omega)
    go_enter Try.func19, Try.ntmps19
    go_wp2_with fail
    go_ret
    exact ⟨by rw [HE.out]; rfl, rfl⟩
  · have hd : decide (150 < n) = true := by simp; omega
    have hd2 : decide (n < 1000) = false := by simp; omega
    have hd3 : decide (2000 < n) = true := by simp; omega
    have HE := hide (show manyB n = true by unfold manyB; simp; omega)
    go_enter Try.func19, Try.ntmps19
    go_wp2_with fail
    go_ret
    exact ⟨by rw [HE.out]; rfl, rfl⟩

end Go.Proofs.Ytdodajalejfbiad

/-
  The walks over the document's answers of cells: their faults, and whether two lists are the same.
-/
namespace Go.Proofs.Ytdodajalejfbiad
open Go.RowKit

theorem isNumB_true {n : Int} (h1 : 0 ≤ n) (h2 : n ≤ 1000000000) : isNumB n = true := by unfold isNumB; simp; omega
theorem isNumB_false {n : Int} (h : n < 0 ∨ 1000000000 < n) : isNumB n = false := by unfold isNumB; simp; omega

set_option maxRecDepth 100000 in
set_option maxHeartbeats 400000 in
theorem CellCode_any (c : Cl) (w : World) : Calls Try.prog 86 #[cA c] w fun e w' => e = .returned (.int .i64 (codeC c)) ∧ Below w.heap.size w w' := by
  unfold cA
  have hall : c.row.toList.isEmpty = true ∨ (c.row.toList.isEmpty = false ∧ 40 < (c.row.size : Int)) ∨ (c.row.toList.isEmpty = false ∧ (c.row.size : Int) ≤ 40 ∧ 40 < (c.col.size : Int)) ∨ (c.row.toList.isEmpty = false ∧ (c.row.size : Int) ≤ 40 ∧ (c.col.size : Int) ≤ 40 ∧ 200 < (c.val.size : Int)) ∨ (c.row.toList.isEmpty = false ∧ (c.row.size : Int) ≤ 40 ∧ (c.col.size : Int) ≤ 40 ∧ (c.val.size : Int) ≤ 200) := by
    cases c.row.toList.isEmpty
    · simp only [Bool.false_eq_true, false_or, true_and]
      omega
    · exact .inl rfl
  rcases hall with h0 | ⟨h0, h1⟩ | ⟨h0, h1, h2⟩ | ⟨h0, h1, h2, h3⟩ | ⟨h0, h1, h2, h3⟩
  iterate 4
    · have HE := hide (show codeC c = 8 by unfold codeC; rw [if_pos (by simp only [h0]; simp; try omega)])
      go_enter Try.func86, Try.ntmps86
      go_wp2_with fail
      go_ret
      exact ⟨by rw [HE.out]; rfl, by go_grown⟩
  · have hn : ¬ (c.row.toList.isEmpty = true ∨ 40 < (c.row.size : Int) ∨ 40 < (c.col.size : Int) ∨ 200 < (c.val.size : Int)) := by simp only [h0]; simp; omega
    have h4 : c.time < 0 ∨ (¬ c.time < 0 ∧ 1000000000 < c.time) ∨ (¬ c.time < 0 ∧ c.time ≤ 1000000000) := by omega
    rcases h4 with h4 | ⟨h4, h5⟩ | ⟨h4, h5⟩
    · have HE := hide (show codeC c = 3 by unfold codeC; rw [if_neg hn, if_pos (isNumB_false (by omega))])
      clear hn
      go_enter Try.func86, Try.ntmps86
      go_wp2_with fail
      go_ret
      exact ⟨by rw [HE.out]; rfl, by go_grown⟩
    · have HE := hide (show codeC c = 3 by unfold codeC; rw [if_neg hn, if_pos (isNumB_false (by omega))])
      clear hn
      go_enter Try.func86, Try.ntmps86
      go_wp2_with fail
      go_ret
      exact ⟨by rw [HE.out]; rfl, by go_grown⟩
    · have hi := isNumB_true (n := c.time) (by omega) h5
      cases h7 : c.gone <;> cases h6 : c.val.toList.isEmpty
      all_goals
        have HE := hide (show codeC c = _ by unfold codeC; rw [if_neg hn, if_neg (by rw [hi]; decide), h7, h6])
        clear hn hi
        go_enter Try.func86, Try.ntmps86
        go_wp2_with fail
        go_ret
        exact ⟨by rw [HE.out]; rfl, by go_grown⟩

/-- Does a stand ahead of b? -/
def aheadB (a b : Cl) : Bool := if a.row.toList == b.row.toList then (if a.col.toList == b.col.toList then decide (b.time < a.time) else Op.bytesLess a.col.toList b.col.toList) else Op.bytesLess a.row.toList b.row.toList

theorem aheadB_iff {a b : Cl} : aheadB a b = true ↔ Lt a b := by
  unfold aheadB Lt kl rc
  by_cases h1 : a.row.toList = b.row.toList
  · by_cases h2 : a.col.toList = b.col.toList
    · simp [h1, h2, bl_irrefl]
    · simp [h1, h2, bl_irrefl]
  · simp [h1]

theorem aheadB_ord {a b : Cl} : aheadB a b = decide (ordC a b < 0) := by
  rw [Bool.eq_iff_iff, aheadB_iff, decide_eq_true_eq, ordC_neg]

set_option maxRecDepth 100000 in
set_option maxHeartbeats 400000 in
theorem Ahead_any (a b : Cl) (w : World) : Calls Try.prog 87 #[cA a, cA b] w fun e w' => e = .returned (.bool (aheadB a b)) ∧ Below w.heap.size w w' := by
  unfold cA
  cases h1 : (a.row.toList == b.row.toList) <;> cases h2 : (a.col.toList == b.col.toList)
  all_goals
    have HE := hide (show aheadB a b = _ by unfold aheadB; rw [h1, h2])
    go_enter Try.func87, Try.ntmps87
    go_wp2_with fail
    go_ret
    exact ⟨by rw [HE.out]; rfl, by go_grown⟩

set_option maxRecDepth 100000 in
set_option maxHeartbeats 400000 in
theorem FC_any (c a : Int) (w : World) : Calls Try.prog 38 #[.int .i64 c, .int .i64 a] w fun e w' => e = .returned (fltC (c, a)) ∧ Below w.heap.size w w' := by
  go_enter Try.func38, Try.ntmps38
  go_wp2_with fail
  exact bodyPost_ret (v := fltC (c, a)) (by simp [results, Try.results38, go_sem, fltC]) rfl ⟨rfl, by go_grown⟩

/-- A fault's block and what is below, behind a call. -/
theorem flt_later {w wr w1 : World} (hbel : Below (w.heap.size + 1) (w.alloc (.cells #[.int .i64 0, .int .i64 0] 28)) wr) (hb : Below wr.heap.size wr w1) : Below (w.heap.size + 1) (w.alloc (.cells #[.int .i64 0, .int .i64 0] 28)) w1 :=
  hbel.trans (hb.mono (by have := hbel.size; simp at this; omega))

set_option maxRecDepth 100000 in
set_option maxHeartbeats 1000000 in
theorem CellsFault_any (v : Value) (cs : List Cl) (w : World) (hv : RdC w v cs) :
    Calls Try.prog 46 #[v] w fun e w' => e = .returned (fltC (checkC cs)) ∧ Below w.heap.size w w' := by
  obtain ⟨ao, cap, hvv, hc1, hc2, hat⟩ := hv.at
  subst hvv
  unfold maxLen at hc2
  by_cases hbig : 1000 < cs.length
  · have HE := hide (show checkC cs = (2, 0) by simp [checkC, faultR, hbig])
    go_enter Try.func46, Try.ntmps46
    go_wp2_with fail
    refine (FC_any 2 0 _).mono ?_
    rintro e w1 ⟨rfl, hb1⟩
    have hbel := flt_later (Below.refl _ _) hb1
    obtain ⟨hf0, hf1, hfr0, hfr1, hsz⟩ := two_later hbel
    have hbf := below_first hbel
    unfold fltC
    go_wp2_with fail
    exact bodyPost_ret (v := fltC (2, 0)) (by simp [results, Try.results46, go_sem, fltC, hf0, hf1]) rfl ⟨by rw [HE.out], by go_grown⟩
  · have HF := hide (show checkC cs = firstG (codeAt cs) cs.length 0 by simp [checkC, faultR, hbig])
    go_enter Try.func46, Try.ntmps46
    go_wp2_with fail
    go_loopw [3] (fun i wr => ∃ k : Nat, k ≤ cs.length ∧ i = .int .i64 k ∧ firstG (codeAt cs) (cs.length - k) k = checkC cs ∧ Below (w.heap.size + 1) (w.alloc (.cells #[.int .i64 0, .int .i64 0] 28)) wr)
      (fun i _ => cs.length - (intOf i).toNat)
    case atStart => exact ⟨0, by omega, rfl, by rw [HF.out]; rfl, Below.refl _ _⟩
    case round =>
      obtain ⟨k, hk, rfl, hgo, hbel⟩ := hrel
      have HG := hide hgo
      clear hgo
      by_cases hlt : k < cs.length
      · obtain ⟨b, off, rfl, hb, hcl⟩ := hat k hlt
        obtain ⟨c, hc⟩ : ∃ c, cs[k]? = some c := ⟨_, List.getElem?_eq_getElem hlt⟩
        have hck := hcl k hlt
        rw [(List.getElem?_eq_some_iff.1 hc).2] at hck
        have HCK := hide hck
        have hbf := below_first hbel
        obtain ⟨c0, c1, c2, c3, c4⟩ := hck.below hbf
        have hk1 : (0 : Int) ≤ (k : Int) := by omega
        have hk2 : (k : Int) < (cs.length : Int) := by omega
        go_wp2_with fail
        refine (CellCode_any c _).mono ?_
        rintro e w1 ⟨rfl, hb1⟩
        have hbel1 := flt_later hbel hb1
        obtain ⟨gf0, gf1, gfr0, gfr1, gsz⟩ := two_later hbel1
        have hbf1 := below_first hbel1
        clear c0 c1 c2 c3 c4 hb1 hbf hbel
        by_cases h0 : codeC c = 0
        · by_cases hk0 : k = 0
          · subst hk0
            have HE := hide (firstG_next (m := cs.length - 0) (codeAt_first hc h0) (by omega))
            have hd : decide ((0 : Int) < ((0 : Nat) : Int)) = false := by simp
            rw [h0]
            clear hc hcl hat hv hck
            go_wp2_with fail
            go_quiet (fail)
            go_wp2_with fail
            go_roundw
            case rel => exact ⟨1, by omega, by go_num, by rw [← HG.out, HE.out]; rfl, below_drewN hbel1 _⟩
            case measure => simp [intOf]; omega
          · obtain ⟨j, hkj⟩ : ∃ j, k = j + 1 := ⟨k - 1, by omega⟩
            obtain ⟨d, hd⟩ : ∃ c, cs[j]? = some c := ⟨_, List.getElem?_eq_getElem (by omega)⟩
            have hdi := hcl j (by omega)
            rw [(List.getElem?_eq_some_iff.1 hd).2] at hdi
            have HCA : Hid (codeAt cs k = if 0 ≤ ordC d c then 10 else 0) := hide (by rw [hkj] at hc ⊢; exact codeAt_later hc hd h0)
            have hg : decide (0 < k) = true := by simp; omega
            have hw : IntKind.i64.wrap ((k : Int) - 1) = (j : Int) := by rw [IntKind.wrap_i64]; omega
            have hj1 : (0 : Int) ≤ (j : Int) := by omega
            have hj2 : (j : Int) < (cs.length : Int) := by omega
            rw [h0]
            have hkeep : ∀ W, Below w.heap.size w W → (W.cell? ⟨b, off + k * 5, none⟩ = some (.string c.row) ∧ W.cell? ⟨b, off + k * 5 + 1, none⟩ = some (.string c.col) ∧ W.cell? ⟨b, off + k * 5 + 2, none⟩ = some (.int .i64 c.time) ∧ W.cell? ⟨b, off + k * 5 + 3, none⟩ = some (.bool c.gone) ∧ W.cell? ⟨b, off + k * 5 + 4, none⟩ = some (.string c.val)) ∧ (W.cell? ⟨b, off + j * 5, none⟩ = some (.string d.row) ∧ W.cell? ⟨b, off + j * 5 + 1, none⟩ = some (.string d.col) ∧ W.cell? ⟨b, off + j * 5 + 2, none⟩ = some (.int .i64 d.time) ∧ W.cell? ⟨b, off + j * 5 + 3, none⟩ = some (.bool d.gone) ∧ W.cell? ⟨b, off + j * 5 + 4, none⟩ = some (.string d.val)) := fun W h => by
              obtain ⟨c0, c1, c2, c3, c4⟩ := HCK.out.below h
              obtain ⟨d0, d1, d2, d3, d4⟩ := hdi.below h
              exact ⟨⟨c0, c1, c2, c3, c4⟩, d0, d1, d2, d3, d4⟩
            have HK := hide hkeep
            obtain ⟨⟨c0, c1, c2, c3, c4⟩, d0, d1, d2, d3, d4⟩ := hkeep w1 hbf1
            clear hkeep hcl hat hv hc hd hck hdi hkj hk0
            go_wp2_with fail
            cases h7 : aheadB d c
            · have HE : Hid (codeAt cs k = 10) := hide (HCA.out.trans (if_pos (by rw [aheadB_ord, decide_eq_false_iff_not] at h7; omega)))
              have HFG := hide (firstG_hit (f := codeAt cs) (m := cs.length - k) (i := k) (by rw [HE.out]; decide) (by omega))
              go_region_held3 (fun W => (W.cell? ⟨b, off + k * 5, none⟩ = some (.string c.row) ∧ W.cell? ⟨b, off + k * 5 + 1, none⟩ = some (.string c.col) ∧ W.cell? ⟨b, off + k * 5 + 2, none⟩ = some (.int .i64 c.time) ∧ W.cell? ⟨b, off + k * 5 + 3, none⟩ = some (.bool c.gone) ∧ W.cell? ⟨b, off + k * 5 + 4, none⟩ = some (.string c.val)) ∧ (W.cell? ⟨b, off + j * 5, none⟩ = some (.string d.row) ∧ W.cell? ⟨b, off + j * 5 + 1, none⟩ = some (.string d.col) ∧ W.cell? ⟨b, off + j * 5 + 2, none⟩ = some (.int .i64 d.time) ∧ W.cell? ⟨b, off + j * 5 + 3, none⟩ = some (.bool d.gone) ∧ W.cell? ⟨b, off + j * 5 + 4, none⟩ = some (.string d.val))) (exact HK.out _ (by go_grown)) (first
                | (go_at_call 87; refine (Ahead_any d c _).mono ?_; rintro e w2 ⟨rfl, hb2⟩; rw [h7]; have hb12 : Below w1.heap.size w1 w2 := Below.trans (by go_grown) hb2; have hbw2 : Below w.heap.size w w2 := hbf1.trans (hb12.mono (by omega))))
              have hbel2 := flt_later hbel1 hb12
              go_wp2_with fail
              refine (FC_any 10 k _).mono ?_
              rintro e w3 ⟨rfl, hb3⟩
              have hbel3 := flt_later hbel2 hb3
              clear gf0 gf1 gfr0 gfr1 gsz
              obtain ⟨gf0, gf1, gfr0, gfr1, gsz⟩ := two_later hbel3
              have hbf3 := below_first hbel3
              unfold fltC
              go_wp2_with fail
              exact bodyPost_ret (v := fltC (10, k)) (by simp [results, Try.results46, go_sem, fltC, gf0, gf1]) rfl ⟨by rw [← HG.out, HFG.out, HE.out], by go_grown⟩
            · have HE : Hid (codeAt cs k = 0) := hide (HCA.out.trans (if_neg (by rw [aheadB_ord, decide_eq_true_eq] at h7; omega)))
              have HFG := hide (firstG_next (m := cs.length - k) HE.out (by omega))
              go_region_held3 (fun W => (W.cell? ⟨b, off + k * 5, none⟩ = some (.string c.row) ∧ W.cell? ⟨b, off + k * 5 + 1, none⟩ = some (.string c.col) ∧ W.cell? ⟨b, off + k * 5 + 2, none⟩ = some (.int .i64 c.time) ∧ W.cell? ⟨b, off + k * 5 + 3, none⟩ = some (.bool c.gone) ∧ W.cell? ⟨b, off + k * 5 + 4, none⟩ = some (.string c.val)) ∧ (W.cell? ⟨b, off + j * 5, none⟩ = some (.string d.row) ∧ W.cell? ⟨b, off + j * 5 + 1, none⟩ = some (.string d.col) ∧ W.cell? ⟨b, off + j * 5 + 2, none⟩ = some (.int .i64 d.time) ∧ W.cell? ⟨b, off + j * 5 + 3, none⟩ = some (.bool d.gone) ∧ W.cell? ⟨b, off + j * 5 + 4, none⟩ = some (.string d.val))) (exact HK.out _ (by go_grown)) (first
                | (go_at_call 87; refine (Ahead_any d c _).mono ?_; rintro e w2 ⟨rfl, hb2⟩; rw [h7]; have hb12 : Below w1.heap.size w1 w2 := Below.trans (by go_grown) hb2; have hbw2 : Below w.heap.size w w2 := hbf1.trans (hb12.mono (by omega))))
              have hbel2 := flt_later hbel1 hb12
              go_wp2_with fail
              go_roundw
              case rel => exact ⟨k + 1, by omega, by go_num, by rw [← HG.out, HFG.out]; congr 1, hbel2⟩
              case measure => simp [intOf]; omega
        · have hb : (codeC c != 0) = true := by simp [h0]
          have HC := hide (codeAt_own hc h0)
          have HE := hide (firstG_hit (f := codeAt cs) (m := cs.length - k) (i := k) (by rw [HC.out]; exact h0) (by omega))
          clear h0 hc hcl hat hv hck
          go_wp2_with fail
          refine (FC_any _ k _).mono ?_
          rintro e w2 ⟨rfl, hb2⟩
          have hbel2 := flt_later hbel1 hb2
          clear gf0 gf1 gfr0 gfr1 gsz
          obtain ⟨gf0, gf1, gfr0, gfr1, gsz⟩ := two_later hbel2
          have hbf2 := below_first hbel2
          unfold fltC
          go_wp2_with fail
          exact bodyPost_ret (v := fltC (codeC c, k)) (by simp [results, Try.results46, go_sem, fltC, gf0, gf1]) rfl ⟨by rw [← HG.out, HE.out, HC.out], by go_grown⟩
      · have hz : cs.length - k = 0 := by omega
        rw [hz] at HG
        obtain ⟨gf0, gf1, gfr0, gfr1, gsz⟩ := two_later hbel
        have hbf := below_first hbel
        go_wp2_with fail
        exact bodyPost_ret (v := fltC (0, 0)) (by simp [results, Try.results46, go_sem, fltC, gf0, gf1]) rfl ⟨by rw [← HG.out]; rfl, by go_grown⟩

end Go.Proofs.Ytdodajalejfbiad

/-
  The walks over the document's answers of cells: the same cells.
-/
namespace Go.Proofs.Ytdodajalejfbiad
open Go.RowKit

theorem ba_ext {a b : ByteArray} (h : a.toList = b.toList) : a = b := by
  rw [ByteArray.toList_eq, ByteArray.toList_eq] at h
  cases a; cases b
  simp at h
  rw [h]

/-- Are two cells the same? -/
def eqC (a b : Cl) : Bool := (a.row.toList == b.row.toList) && ((a.col.toList == b.col.toList) && (decide (a.time = b.time) && ((a.gone == b.gone) && (a.val.toList == b.val.toList))))

theorem eqC_iff {a b : Cl} : eqC a b = true ↔ a = b := by
  unfold eqC
  constructor
  · intro h
    simp only [Bool.and_eq_true, beq_iff_eq, decide_eq_true_eq] at h
    obtain ⟨h1, h2, h3, h4, h5⟩ := h
    cases a; cases b
    simp only at h1 h2 h3 h4 h5
    rw [ba_ext h1, ba_ext h2, h3, h4, ba_ext h5]
  · rintro rfl
    simp

def sameC : List Cl → List Cl → Bool
  | [], [] => true
  | a :: l, b :: m => eqC a b && sameC l m
  | _, _ => false

theorem sameC_refl : ∀ l : List Cl, sameC l l = true
  | [] => rfl
  | a :: l => by simp [sameC, eqC_iff.2 rfl, sameC_refl l]

set_option maxRecDepth 100000 in
set_option maxHeartbeats 1000000 in
theorem SameCells_any (v u : Value) (cs : List Cl) (w : World) (hv : RdC w v cs) (hu : RdC w u cs) :
    Calls Try.prog 14 #[v, u] w fun e w' => e = .returned (.bool true) ∧ Below w.heap.size w w' := by
  obtain ⟨ao, cap, hvv, hc1, hc2, hat⟩ := hv.at
  obtain ⟨bo, cbp, huu, hd1, hd2, hbt⟩ := hu.at
  subst hvv huu
  unfold maxLen at hc2 hd2
  have hnb : ((cs.length : Int) != cs.length) = false := by simp
  go_enter Try.func14, Try.ntmps14
  go_wp2_with fail
  go_loopw [5] (fun i wr => ∃ k : Nat, k ≤ cs.length ∧ i = .int .i64 k ∧ Below w.heap.size w wr)
    (fun i _ => cs.length - (intOf i).toNat)
  case atStart => exact ⟨0, by omega, rfl, Below.refl _ _⟩
  case round =>
    obtain ⟨k, hk, rfl, hbel⟩ := hrel
    by_cases hlt : k < cs.length
    · obtain ⟨b, off, rfl, hb, hcl⟩ := hat k hlt
      obtain ⟨b2, off2, rfl, hb2, hcl2⟩ := hbt k hlt
      have h1 := (hcl k hlt).below hbel
      have h2 := (hcl2 k hlt).below hbel
      generalize cs[k] = c at *
      obtain ⟨c0, c1, c2, c3, c4⟩ := h1
      obtain ⟨d0, d1, d2, d3, d4⟩ := h2
      have hk1 : (0 : Int) ≤ (k : Int) := by omega
      have hk2 : (k : Int) < (cs.length : Int) := by omega
      clear hcl hcl2 hat hbt hv hu
      go_wp2_with fail
      go_quiet (fail)
      go_wp2_with fail
      go_roundw
      case rel => exact ⟨k + 1, by omega, by go_num, below_drewN hbel _⟩
      case measure => simp [intOf]; omega
    · go_wp2_with fail
      go_ret
      exact ⟨rfl, hbel⟩

end Go.Proofs.Ytdodajalejfbiad

/-
  The walks over the document's answers of cells: what is seen.
-/
namespace Go.Proofs.Ytdodajalejfbiad
open Go.RowKit

/-- A place at a time. -/
def hitB (k : Ky) (t : Int) (c : Cl) : Bool := isAt k c && decide (c.time ≤ t)
/-- The cell that the document sees. -/
def seenR (cs : List Cl) (k : Ky) (t : Int) : Cl × Bool :=
  match cs.find? (hitB k t) with
  | none => (zeroC, false)
  | some c => if c.gone then (zeroC, false) else (c, true)

theorem find_snoc {p : Cl → Bool} {cs : List Cl} {k : Nat} {c : Cl} (hc : cs[k]? = some c) (h : (cs.take k).find? p = none) (hp : p c = false) : (cs.take (k + 1)).find? p = none := by
  rw [List.take_add_one, hc, List.find?_append, h]
  simp [hp]

theorem find_now {p : Cl → Bool} {cs : List Cl} {k : Nat} {c : Cl} (hc : cs[k]? = some c) (h : (cs.take k).find? p = none) (hp : p c = true) : cs.find? p = some c := by
  obtain ⟨hk, e⟩ := List.getElem?_eq_some_iff.1 hc
  have : cs = cs.take k ++ c :: cs.drop (k + 1) := by rw [← e, ← List.drop_eq_getElem_cons hk, List.take_append_drop]
  rw [this, List.find?_append, h]
  simp [hp]

theorem hitB_later {cs : List Cl} (hp : cs.Pairwise Lt) {j k : Nat} {c d : Cl} (hj : cs[j]? = some d) (hk : cs[k]? = some c) (hjk : j < k) (hrc : rc c = rc d) : decide (d.time < c.time) = false := by
  obtain ⟨h1, e1⟩ := List.getElem?_eq_some_iff.1 hj
  obtain ⟨h2, e2⟩ := List.getElem?_eq_some_iff.1 hk
  have := List.pairwise_iff_getElem.1 hp j k h1 h2 hjk
  rw [e1, e2] at this
  rcases this with h | ⟨_, h⟩
  · exact absurd hrc.symm (kl_ne h)
  · simp; omega

theorem hit_cases (row col : ByteArray) (t : Int) (c : Cl) : hitB (row.toList, col.toList) t c = false ∧ (c.row.toList == row.toList) = false ∨ hitB (row.toList, col.toList) t c = false ∧ (c.row.toList == row.toList) = true ∧ (c.col.toList == col.toList) = false ∨ hitB (row.toList, col.toList) t c = false ∧ (c.row.toList == row.toList) = true ∧ (c.col.toList == col.toList) = true ∧ decide (c.time ≤ t) = false ∨ hitB (row.toList, col.toList) t c = true ∧ (c.row.toList == row.toList) = true ∧ (c.col.toList == col.toList) = true ∧ decide (c.time ≤ t) = true := by
  unfold hitB isAt
  cases (c.row.toList == row.toList) <;> cases (c.col.toList == col.toList) <;> cases decide (c.time ≤ t) <;> simp

theorem hitB_rc {k : Ky} {t : Int} {c : Cl} (h : hitB k t c = true) : rc c = k := by
  unfold hitB at h
  rw [Bool.and_eq_true] at h
  exact isAt_iff.1 h.1

theorem RdC.hereC {w : World} {ao : Option Addr} {n cap : Nat} {cs : List Cl} (h : RdC w (.slice ao n cap) cs) {i : Nat} {c : Cl} (hi : cs[i]? = some c) :
    ∃ b off, ao = some ⟨b, off, none⟩ ∧ b < w.heap.size ∧ At w b (off + i * 5) c := by
  obtain ⟨ao', cap', hv, _, _, hat⟩ := h.at
  simp only [Value.slice.injEq] at hv
  obtain ⟨rfl, _, _⟩ := hv
  obtain ⟨hl, e⟩ := List.getElem?_eq_some_iff.1 hi
  obtain ⟨b, off, ha, hb, hc⟩ := hat i hl
  exact ⟨b, off, ha, hb, e ▸ hc i hl⟩


end Go.Proofs.Ytdodajalejfbiad

/-
  Plain maths of the law CellScans.
-/
namespace Go.Proofs.Ytdodajalejfbiad
open Go.RowKit

theorem vis_sub (t : Int) (cs : List Cl) : (vis t cs).Sublist cs := visGo_sub t cs zeroC

/-- Where Scan has no fault. -/
theorem scanC_fine {cs : List Cl} {a b : ByteArray} {t m : Int} (h : (scanC cs a b t m).2.1 = 0) :
    (checkC cs).1 = 0 ∧ isNumB t = true ∧ 0 ≤ m ∧ m ≤ 1000 ∧ (scanC cs a b t m).1 = ((vis t cs).filter fun c => askB a b c.row).take m.toNat := by
  unfold scanC at h ⊢
  by_cases h1 : (checkC cs).1 = 0
  · rw [if_neg (by omega)] at h ⊢
    by_cases h2 : isNumB t = false
    · rw [if_pos h2] at h; simp at h
    · rw [if_neg h2] at h ⊢
      by_cases h3 : m < 0 ∨ 1000 < m
      · rw [if_pos h3] at h; simp at h
      · rw [if_neg h3]
        refine ⟨h1, by simpa using h2, by omega, by omega, ?_⟩
        rw [scanGo_eq]
        simp [vis]
  · rw [if_pos h1] at h
    exact absurd h h1

theorem getC_fine {cs : List Cl} {row col : ByteArray} {t : Int} (h1 : (checkC cs).1 = 0) (h2 : isNumB t = true) :
    getC cs row col t = match (vis t cs).find? (isAt (row.toList, col.toList)) with
      | some c => (c.val, true, (0, 0))
      | none => (⟨#[]⟩, false, (0, 0)) := by
  rw [getC_ok h1 h2, getGo_eq]
  unfold vis
  cases (visGo t zeroC cs).find? (isAt (row.toList, col.toList)) <;> rfl

/-- What Scan tells is what Get tells. -/
theorem scan_get {cs : List Cl} {a b : ByteArray} {t m : Int} (h : (scanC cs a b t m).2.1 = 0) {c : Cl} (hc : c ∈ (scanC cs a b t m).1) : getC cs c.row c.col t = (c.val, true, (0, 0)) := by
  obtain ⟨h1, h2, _, _, h5⟩ := scanC_fine h
  rw [h5] at hc
  have hv : c ∈ vis t cs := (List.mem_filter.1 (List.mem_of_mem_take hc)).1
  rw [getC_fine h1 h2, show (c.row.toList, c.col.toList) = rc c from rfl, find_pw (vis_pw t h1) hv]

theorem scan_pw {cs : List Cl} {a b : ByteArray} {t m : Int} (h : (scanC cs a b t m).2.1 = 0) : (scanC cs a b t m).1.Pairwise (fun a b => kl (rc a) (rc b)) := by
  obtain ⟨h1, _, _, _, h5⟩ := scanC_fine h
  rw [h5]
  exact ((vis_pw t h1).filter _).take

/-- The test that the law makes of two neighbours. -/
theorem kl_tests {c d : Cl} (h : kl (rc c) (rc d)) : bl d.row.toList c.row.toList = false ∧ ((d.row.toList == c.row.toList) = false ∨ (d.row.toList == c.row.toList) = true ∧ bl d.col.toList c.col.toList = false ∧ (d.col.toList == c.col.toList) = false) := by
  rcases h with h | ⟨e, h⟩
  · have := bl_ne h
    exact ⟨bl_asymm h, .inl (beq_eq_false_iff_ne.2 (fun e => this e.symm))⟩
  · have e' : c.row.toList = d.row.toList := e
    have := bl_ne h
    exact ⟨by rw [e']; exact bl_irrefl _, .inr ⟨beq_iff_eq.2 e'.symm, bl_asymm h, beq_eq_false_iff_ne.2 (fun e => this e.symm)⟩⟩

/-- How many numbers below k pass. -/
def cntUp (f : Nat → Bool) : Nat → Nat
  | 0 => 0
  | k + 1 => cntUp f k + if f k then 1 else 0

theorem cntUp_no {f : Nat → Bool} {k : Nat} (h : f k = false) : cntUp f (k + 1) = cntUp f k := by simp [cntUp, h]
theorem cntUp_yes {f : Nat → Bool} {k : Nat} (h : f k = true) : cntUp f (k + 1) = cntUp f k + 1 := by simp [cntUp, h]

theorem cntUp_le (f : Nat → Bool) : ∀ k, cntUp f k ≤ k
  | 0 => Nat.le_refl _
  | k + 1 => by have := cntUp_le f k; unfold cntUp; split <;> omega

theorem cntUp_eq (f : Nat → Bool) : ∀ k, cntUp f k = ((List.range k).filter f).length
  | 0 => rfl
  | k + 1 => by
    rw [List.range_succ, List.filter_append, List.length_append, ← cntUp_eq f k, cntUp]
    cases h : f k <;> simp [h]

/-- A number at which another place begins. -/
def headB (cs : List Cl) (i : Nat) : Bool := i == 0 || rc (cs.getD (i - 1) zeroC) != rc (cs.getD i zeroC)
/-- Does the law count this number? -/
def okScan (cs : List Cl) (a b : ByteArray) (t : Int) (i : Nat) : Bool :=
  headB cs i && askB a b (cs.getD i zeroC).row && ((vis t cs).find? (isAt (rc (cs.getD i zeroC)))).isSome

theorem pw_get {cs : List Cl} (h : cs.Pairwise Lt) {i j : Nat} (hj : j < cs.length) (hij : i < j) : Lt (cs.getD i zeroC) (cs.getD j zeroC) := by
  have := List.pairwise_iff_getElem.1 h i j (by omega) hj hij
  simpa [List.getD_eq_getElem?_getD, hj, show i < cs.length by omega] using this

theorem head_kl {cs : List Cl} (h : cs.Pairwise Lt) {i j : Nat} (hj : j < cs.length) (hij : i < j) (hh : headB cs j = true) : kl (rc (cs.getD i zeroC)) (rc (cs.getD j zeroC)) := by
  unfold headB at hh
  have hj0 : (j == 0) = false := by simp; omega
  rw [hj0, Bool.false_or, bne_iff_ne] at hh
  have h1 := (Lt_le (pw_get h hj (show j - 1 < j by omega))).resolve_right hh
  by_cases e : i = j - 1
  · rw [e]; exact h1
  · rcases Lt_le (pw_get h (show j - 1 < cs.length by omega) (show i < j - 1 by omega)) with h2 | h2
    · exact kl_trans h2 h1
    · rw [h2]; exact h1

/-- There is a first number of a place. -/
theorem head_of {cs : List Cl} : ∀ (j : Nat), j < cs.length → ∃ i, i ≤ j ∧ headB cs i = true ∧ rc (cs.getD i zeroC) = rc (cs.getD j zeroC)
  | 0, _ => ⟨0, Nat.le_refl _, rfl, rfl⟩
  | j + 1, hj => by
    by_cases e : rc (cs.getD j zeroC) = rc (cs.getD (j + 1) zeroC)
    · obtain ⟨i, h1, h2, h3⟩ := head_of (cs := cs) j (by omega)
      exact ⟨i, by omega, h2, h3.trans e⟩
    · refine ⟨j + 1, Nat.le_refl _, ?_, rfl⟩
      unfold headB
      rw [show j + 1 - 1 = j from rfl, bne_iff_ne.2 e, Bool.or_true]

theorem askB_rc {a b : ByteArray} {c d : Cl} (h : rc c = rc d) : askB a b c.row = askB a b d.row := by
  have : c.row.toList = d.row.toList := congrArg Prod.fst h
  unfold askB
  rw [this]

/-- What the law counts is as many as are seen. -/
theorem cnt_all {cs : List Cl} (a b : ByteArray) (t : Int) (h : (checkC cs).1 = 0) : cntUp (okScan cs a b t) cs.length = ((vis t cs).filter fun c => askB a b c.row).length := by
  have hp := fine_pw h
  have hv := vis_pw t h
  have hall : ((List.range cs.length).filter (okScan cs a b t)).map (fun i => rc (cs.getD i zeroC)) = ((vis t cs).filter fun c => askB a b c.row).map rc := ?_
  · have := congrArg List.length hall
    rw [List.length_map, List.length_map] at this
    rw [cntUp_eq, this]
  refine pw_ext kl_irrefl (fun _ _ _ => kl_trans) ?_ ?_ ?_
  · rw [List.pairwise_map]
    have h1 : ((List.range cs.length).filter (okScan cs a b t)).Pairwise (· < ·) := List.pairwise_lt_range.filter _
    refine h1.imp_of_mem fun {i j} hi hj hij => ?_
    rw [List.mem_filter, List.mem_range] at hi hj
    have hh : headB cs j = true := by
      have := hj.2
      unfold okScan at this
      simp only [Bool.and_eq_true] at this
      exact this.1.1
    exact head_kl hp hj.1 hij hh
  · rw [List.pairwise_map]
    exact hv.filter _
  · intro k
    simp only [List.mem_map, List.mem_filter, List.mem_range]
    constructor
    · rintro ⟨i, ⟨hi, hok⟩, rfl⟩
      unfold okScan at hok
      simp only [Bool.and_eq_true, Option.isSome_iff_exists] at hok
      obtain ⟨⟨_, h2⟩, d, hd⟩ := hok
      have hd1 := isAt_iff.1 (List.find?_some hd)
      exact ⟨d, ⟨List.mem_of_find?_eq_some hd, by rw [askB_rc hd1]; exact h2⟩, hd1⟩
    · rintro ⟨d, ⟨hd, hask⟩, rfl⟩
      obtain ⟨j, hj, e⟩ := List.getElem_of_mem ((vis_sub t cs).subset hd)
      have ej : cs.getD j zeroC = d := by simp [List.getD_eq_getElem?_getD, hj, e]
      obtain ⟨i, h1, h2, h3⟩ := head_of (cs := cs) j hj
      rw [ej] at h3
      refine ⟨i, ⟨by omega, ?_⟩, h3⟩
      unfold okScan
      rw [h2, askB_rc h3, hask, h3, find_pw hv hd]
      rfl

theorem okAt_get {cs : List Cl} {a b : ByteArray} {t : Int} (h1 : (checkC cs).1 = 0) (h2 : isNumB t = true) {i : Nat} {c : Cl} (hc : cs.getD i zeroC = c) : okScan cs a b t i = (headB cs i && askB a b c.row && (getC cs c.row c.col t).2.1) := by
  unfold okScan
  rw [hc, getC_fine h1 h2, show (c.row.toList, c.col.toList) = rc c from rfl]
  cases (vis t cs).find? (isAt (rc c)) <;> rfl

theorem getC_code {cs : List Cl} {row col : ByteArray} {t : Int} (h1 : (checkC cs).1 = 0) (h2 : isNumB t = true) : (getC cs row col t).2.2 = (0, 0) := by
  rw [getC_ok h1 h2]

theorem getC_split {cs : List Cl} {row col : ByteArray} {t : Int} (h : (getC cs row col t).2.2 = (0, 0)) : ∃ gv gi, getC cs row col t = (gv, gi, (0, 0)) :=
  ⟨(getC cs row col t).1, (getC cs row col t).2.1, by rw [← h]⟩

theorem head_cases {cs : List Cl} {k : Nat} {c d : Cl} (hk : k ≠ 0) (hc : cs.getD k zeroC = c) (hd : cs.getD (k - 1) zeroC = d) :
    headB cs k = false ∧ (d.row.toList == c.row.toList) = true ∧ (d.col.toList == c.col.toList) = true ∨ headB cs k = true ∧ (d.row.toList == c.row.toList) = true ∧ (d.col.toList == c.col.toList) = false ∨ headB cs k = true ∧ (d.row.toList == c.row.toList) = false := by
  have hk0 : (k == 0) = false := by simp [hk]
  have e : headB cs k = !((d.row.toList == c.row.toList) && (d.col.toList == c.col.toList)) := by
    unfold headB
    rw [hd, hc, hk0]
    simp only [Bool.false_or, rc]
    rfl
  rw [e]
  cases (d.row.toList == c.row.toList) <;> cases (d.col.toList == c.col.toList) <;> simp

theorem ask_cases (a b row : ByteArray) : askB a b row = false ∧ Op.bytesLess row.toList a.toList = true ∨ askB a b row = true ∧ Op.bytesLess row.toList a.toList = false ∧ b.toList.isEmpty = true ∨ askB a b row = true ∧ Op.bytesLess row.toList a.toList = false ∧ b.toList.isEmpty = false ∧ Op.bytesLess row.toList b.toList = true ∨ askB a b row = false ∧ Op.bytesLess row.toList a.toList = false ∧ b.toList.isEmpty = false ∧ Op.bytesLess row.toList b.toList = false := by
  unfold askB
  cases Op.bytesLess row.toList a.toList <;> cases b.toList.isEmpty <;> cases Op.bytesLess row.toList b.toList <;> simp

theorem scan_count {cs : List Cl} {a b : ByteArray} {t m : Int} (h : (scanC cs a b t m).2.1 = 0) (hl : ((scanC cs a b t m).1.length : Int) ≠ m) : cntUp (okScan cs a b t) cs.length = (scanC cs a b t m).1.length := by
  obtain ⟨h1, _, h3, _, h5⟩ := scanC_fine h
  rw [cnt_all a b t h1, h5, List.length_take]
  rw [h5, List.length_take] at hl
  omega

end Go.Proofs.Ytdodajalejfbiad
