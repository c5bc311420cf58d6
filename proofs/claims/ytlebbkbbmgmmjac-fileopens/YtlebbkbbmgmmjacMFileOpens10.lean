/-
  Texts joined: CellR4, AsksMath, FileMath4, FileW10, FileR6, FileR1, FileR2.
-/
import Derived.Test.YtlebbkbbmgmmjacMFileOpens9
/-
  The walks over the document's answers of cells: scans.
-/
namespace Go.Proofs.Ytlebbkbbmgmmjac
open Go.RowKit

/-- What is wrong with an ask. -/
def askF (t m : Int) : Int × Int := if isNumB t = false then (3, -1) else if m < 0 ∨ 1000 < m then (3, -2) else (0, 0)

set_option maxRecDepth 100000 in
set_option maxHeartbeats 1000000 in
theorem AskFault_any (a b : ByteArray) (t m : Int) (w : World) :
    Calls Try.prog 39 #[aA a b t m] w fun e w' => e = .returned (fltC (askF t m)) ∧ Below w.heap.size w w' := by
  unfold aA
  have hall : t < 0 ∨ (¬ t < 0 ∧ 1000000000 < t) ∨ (¬ t < 0 ∧ t ≤ 1000000000 ∧ m < 0) ∨ (¬ t < 0 ∧ t ≤ 1000000000 ∧ ¬ m < 0 ∧ 1000 < m) ∨ (¬ t < 0 ∧ t ≤ 1000000000 ∧ ¬ m < 0 ∧ m ≤ 1000) := by omega
  have hR0 := Bk.new2 w (.cells #[.string a, .string b, .int .i64 t, .int .i64 m] 66) 26 #[.int .i64 0, .int .i64 0]
  have hbC : Below w.heap.size w ((w.alloc (.cells #[.string a, .string b, .int .i64 t, .int .i64 m] 66)).alloc (.cells #[.int .i64 0, .int .i64 0] 26)) := (below_alloc' _ _).trans ((below_alloc' _ _).mono (by simp))
  have HR0 := hide hR0
  have HBC := hide hbC
  clear hR0 hbC
  rcases hall with h1 | ⟨h1, h2⟩ | ⟨h1, h2, h3⟩ | ⟨h1, h2, h3, h4⟩ | ⟨h1, h2, h3, h4⟩
  iterate 2
    · have HE : Hid (askF t m = (3, -1)) := hide (by unfold askF; rw [if_pos (isNumB_false (by omega))])
      go_enter Try.func39, Try.ntmps39
      go_wp2_with fail
      refine (FC_any 3 (-1) _).mono ?_
      rintro e w1 ⟨rfl, hb1⟩
      have hR1 := HR0.out.below hb1 (by simp)
      have hbw := HBC.out.trans (hb1.mono (by simp; omega))
      have r0 := hR1.cell 0
      have r1 := hR1.cell 1
      have r2 := hR1.frozen 0
      have r3 := hR1.frozen 1
      have hsr := hR1.lt
      simp at r0 r1
      unfold fltC
      go_wp2_with fail
      exact bodyPost_ret (v := fltC (3, -1)) (by simp [results, Try.results39, go_sem, fltC, r0, r1]) rfl ⟨by rw [HE.out], by go_grown⟩
  iterate 2
    · have HE : Hid (askF t m = (3, -2)) := hide (by unfold askF; rw [if_neg (by rw [isNumB_true (by omega) (by omega)]; decide), if_pos (by omega)])
      go_enter Try.func39, Try.ntmps39
      go_wp2_with fail
      refine (FC_any 3 (-2) _).mono ?_
      rintro e w1 ⟨rfl, hb1⟩
      have hR1 := HR0.out.below hb1 (by simp)
      have hbw := HBC.out.trans (hb1.mono (by simp; omega))
      have r0 := hR1.cell 0
      have r1 := hR1.cell 1
      have r2 := hR1.frozen 0
      have r3 := hR1.frozen 1
      have hsr := hR1.lt
      simp at r0 r1
      unfold fltC
      go_wp2_with fail
      exact bodyPost_ret (v := fltC (3, -2)) (by simp [results, Try.results39, go_sem, fltC, r0, r1]) rfl ⟨by rw [HE.out], by go_grown⟩
  · have HE : Hid (askF t m = (0, 0)) := hide (by unfold askF; rw [if_neg (by rw [isNumB_true (by omega) (by omega)]; decide), if_neg (by omega)])
    go_enter Try.func39, Try.ntmps39
    go_wp2_with fail
    exact bodyPost_ret (v := fltC (0, 0)) (by simp [results, Try.results39, go_sem, fltC]) rfl ⟨by rw [HE.out], by go_grown⟩

/-- Does the document's scan take this cell? -/
def takeB (cs : List Cl) (a b : ByteArray) (t : Int) (c : Cl) : Bool := askB a b c.row && ((seenR cs (rc c) t).2 && eqC (seenR cs (rc c) t).1 c)
/-- What the document scans. -/
def scannedR (cs : List Cl) (a b : ByteArray) (t m : Int) : List Cl := (cs.filter (takeB cs a b t)).take m.toNat

theorem filter_snoc {p : Cl → Bool} {cs : List Cl} {k : Nat} {c : Cl} (hc : cs[k]? = some c) : (cs.take (k + 1)).filter p = (cs.take k).filter p ++ if p c then [c] else [] := by
  rw [List.take_add_one, hc, List.filter_append]
  simp [List.filter_cons]

theorem scanned_end {cs : List Cl} {p : Cl → Bool} {k : Nat} {m : Int} (h : k = cs.length ∨ m ≤ ((cs.take k).filter p).length) (h2 : (((cs.take k).filter p).length : Int) ≤ m) : (cs.filter p).take m.toNat = (cs.take k).filter p := by
  have e : cs.filter p = (cs.take k).filter p ++ (cs.drop k).filter p := by rw [← List.filter_append, List.take_append_drop]
  rcases h with h | h
  · subst h
    rw [List.take_length] at h2 ⊢
    rw [List.take_of_length_le (by omega)]
  · rw [e, List.take_append, List.take_of_length_le (by omega), show m.toNat - ((cs.take k).filter p).length = 0 by omega, List.take_zero, List.append_nil]

theorem eqC_cases (d c : Cl) : eqC d c = true ∧ d = c ∨ eqC d c = false ∧ ((d.row.toList == c.row.toList) = false ∨ (d.row.toList == c.row.toList) = true ∧ (d.col.toList == c.col.toList) = false ∨ (d.row.toList == c.row.toList) = true ∧ (d.col.toList == c.col.toList) = true ∧ (d.time == c.time) = false ∨ (d.row.toList == c.row.toList) = true ∧ (d.col.toList == c.col.toList) = true ∧ (d.time == c.time) = true ∧ (d.gone == c.gone) = false ∨ (d.row.toList == c.row.toList) = true ∧ (d.col.toList == c.col.toList) = true ∧ (d.time == c.time) = true ∧ (d.gone == c.gone) = true ∧ (d.val.toList == c.val.toList) = false) := by
  cases h : eqC d c
  · right
    refine ⟨rfl, ?_⟩
    unfold eqC at h
    revert h
    cases (d.row.toList == c.row.toList) <;> cases (d.col.toList == c.col.toList) <;> cases h3 : (d.time == c.time) <;> cases (d.gone == c.gone) <;> cases (d.val.toList == c.val.toList) <;> simp_all
  · exact .inl ⟨rfl, eqC_iff.1 h⟩

set_option maxRecDepth 100000 in
set_option maxHeartbeats 2000000 in
theorem Scanned_any (v : Value) (cs : List Cl) (a b : ByteArray) (t m : Int) (w : World) (hv : RdC w v cs) (hp : cs.Pairwise Lt) (hm0 : 0 ≤ m) (hl : cs.length ≤ 1000) :
    Calls Try.prog 41 #[v, aA a b t m] w fun e w' => ∃ v', e = .returned v' ∧ RdC w' v' (scannedR cs a b t m) ∧ Below w.heap.size w w' := by
  obtain ⟨ao, cap, hvv, hc1, hc2⟩ := hv.shape
  subst hvv
  unfold maxLen at hc2
  unfold aA
  have HP := hide hp
  clear hp
  go_enter Try.func41, Try.ntmps41
  go_wp2_with fail
  have hA0 := Bk.new w 66 #[.string a, .string b, .int .i64 t, .int .i64 m]
  have hbC := below_alloc' w (.cells #[.string a, .string b, .int .i64 t, .int .i64 m] 66)
  generalize w.alloc (.cells #[.string a, .string b, .int .i64 t, .int .i64 m] 66) = wA at *
  have hvA := hv.below hbC
  have hsA := hA0.lt
  clear hv
  go_loopw [5, 6] (fun o i wr => ∃ (k : Nat) (acc : List Cl), k ≤ cs.length ∧ i = .int .i64 k ∧ acc = (cs.take k).filter (takeB cs a b t) ∧ acc.length ≤ k ∧ (acc.length : Int) ≤ m ∧ wr.ownsRow wA.heap.size 53 5 o acc.length (cc acc) ∧ Below wA.heap.size wA wr)
    (fun _ i _ => cs.length - (intOf i).toNat)
  case atStart => exact ⟨0, [], by omega, rfl, by simp, by simp, by simp; omega, World.ownsRow_nil _ _ _ _, Below.refl _ _⟩
  case round =>
    obtain ⟨k, acc, hk, rfl, hacc, hak, ham, hown, hbel⟩ := hrel
    have HACC := hide hacc
    clear hacc
    have hzr := hbel.size
    obtain ⟨ao2, cap2, hv2⟩ := ownsC_shape hown
    subst hv2
    have hbw : Below w.heap.size w wr := hbC.trans (hbel.mono (by omega))
    obtain ⟨a0, a1, a2, a3⟩ : wr.cell? ⟨w.heap.size, 0, none⟩ = some (.string a) ∧ wr.cell? ⟨w.heap.size, 1, none⟩ = some (.string b) ∧ wr.cell? ⟨w.heap.size, 2, none⟩ = some (.int .i64 t) ∧ wr.cell? ⟨w.heap.size, 3, none⟩ = some (.int .i64 m) := ⟨(hA0.below hbel hsA).cell 0, (hA0.below hbel hsA).cell 1, (hA0.below hbel hsA).cell 2, (hA0.below hbel hsA).cell 3⟩
    by_cases hlt : k < cs.length ∧ (acc.length : Int) < m
    · obtain ⟨hlt1, hlt2⟩ := hlt
      obtain ⟨c, hc⟩ : ∃ c, cs[k]? = some c := ⟨_, List.getElem?_eq_getElem hlt1⟩
      obtain ⟨bb, off, rfl, hb, hck⟩ := hvA.hereC hc
      obtain ⟨c0, c1, c2, c3, c4⟩ := hck.below hbel
      have hk1 : (0 : Int) ≤ (k : Int) := by omega
      have hk2 : (k : Int) < (cs.length : Int) := by omega
      have hd1 : decide ((k : Int) < (cs.length : Int)) = true := by simp; omega
      have hd2 : decide (k < cs.length) = true := by simp; omega
      have HS := hide (filter_snoc (p := takeB cs a b t) hc)
      clear hc hck
      have hsw : w.heap.size < wr.heap.size := by omega
      have hC1 : Bk (wr.alloc (.cells #[.string c.row, .string c.col, .int .i64 c.time, .bool c.gone, .string c.val] 53)) wr.heap.size 53 (ca c) := Bk.new _ _ _
      have hbe1 : Below wA.heap.size wA (wr.alloc (.cells #[.string c.row, .string c.col, .int .i64 c.time, .bool c.gone, .string c.val] 53)) := hbel.alloc hzr _
      have how1 := hown.alloc (.cells #[.string c.row, .string c.col, .int .i64 c.time, .bool c.gone, .string c.val] 53)
      have hA1 := hA0.below hbe1 hsA
      have HC1 := hide hC1
      have HBE1 := hide hbe1
      have HOW1 := hide how1
      have HA1 := hide hA1
      clear hC1 hbe1 how1 hA1 hown hbel hbw
      have hask4 := ask_cases a b c.row
      rcases hask4 with ⟨h0, h1⟩ | ⟨h0, h1, h2⟩ | ⟨h0, h1, h2, h3⟩ | ⟨h0, h1, h2, h3⟩
      case inl | inr.inr.inr =>
        have HT : Hid (takeB cs a b t c = false) := hide (by unfold takeB; rw [h0]; rfl)
        clear h0
        go_wp2_with fail
        go_roundw
        case rel => exact ⟨k + 1, acc, by omega, by go_num, by rw [HS.out, HT.out, ← HACC.out]; simp, by omega, ham, HOW1.out, HBE1.out⟩
        case measure => simp [intOf]; omega
      all_goals
        have HT : Hid (takeB cs a b t c = ((seenR cs (c.row.toList, c.col.toList) t).2 && eqC (seenR cs (c.row.toList, c.col.toList) t).1 c)) := hide (by unfold takeB; rw [h0]; rfl)
        clear h0
        go_wp2_with fail
        refine (SeenCell_any _ cs c.row c.col t _ (hvA.below HBE1.out) HP.out).mono ?_
        rintro e w2 ⟨rfl, hb2⟩
        have HQ : ∃ d ok, seenR cs (c.row.toList, c.col.toList) t = (d, ok) := ⟨_, _, rfl⟩
        obtain ⟨d, ok, hq⟩ := HQ
        rw [hq] at HT ⊢
        clear hq
        simp only at HT ⊢
        have how2 := owns_below HOW1.out hb2
        have hbe2 : Below wA.heap.size wA w2 := HBE1.out.trans (hb2.mono (by simp; omega))
        have hz2 := hb2.size
        have hlt8 : wr.heap.size < w2.heap.size := by simp at hz2; omega
        have hlt9 : w.heap.size < w2.heap.size := by omega
        have hA2 := HA1.out.below hb2 (by simp; omega)
        obtain ⟨q0, q1, q2, q3, q4⟩ := (HC1.out.below hb2 (by simp)).facts
        clear a0 a1 a2 a3 c0 c1 c2 c3 c4 hb2 hz2
        have a3 := hA2.cell 3
        simp at a3
        have how3 := how2.alloc (.cells #[.string d.row, .string d.col, .int .i64 d.time, .bool d.gone, .string d.val] 53)
        have hbe3 : Below wA.heap.size wA (w2.alloc (.cells #[.string d.row, .string d.col, .int .i64 d.time, .bool d.gone, .string d.val] 53)) := hbe2.alloc (by omega) _
        have hb8 : wA.heap.size ≤ (w2.alloc (.cells #[.string d.row, .string d.col, .int .i64 d.time, .bool d.gone, .string d.val] 53)).heap.size := by simp; omega
        have HOW3 := hide how3
        have HBE3 := hide hbe3
        have HB8 := hide hb8
        clear how3 hbe3 hb8 how2 hbe2
        unfold cA
        cases ok
        · go_wp2_with fail
          go_roundw
          case rel => exact ⟨k + 1, acc, by omega, by go_num, by rw [HS.out, HT.out, ← HACC.out]; simp, by omega, ham, HOW3.out, HBE3.out⟩
          case measure => simp [intOf]; omega
        · rcases eqC_cases d c with ⟨h4, rfl⟩ | ⟨h4, h5⟩
          · have HT2 : Hid (takeB cs a b t d = true) := hide (by rw [HT.out, h4]; rfl)
            have hl8 : acc.length ≤ 100000000 := by omega
            clear h4
            go_wp2_with (at_builtin; go_must (refine wpList_append_oneC (c := d) HOW3.out Try.underlying22 Try.info53 rfl rfl rfl rfl (by rw [World.size_alloc]; rfl) hl8 (by decide) HB8.out ?_); intro v4 w4 ho4 hb4 hg4)
            go_roundw
            case rel => exact ⟨k + 1, acc ++ [d], by omega, by go_num, by rw [HS.out, HT2.out, ← HACC.out]; rfl, by simp; omega, by simp; omega, by simpa using ho4, HBE3.out.trans hb4⟩
            case measure => simp [intOf]; omega
          · have HT2 : Hid (takeB cs a b t c = false) := hide (by rw [HT.out, h4]; rfl)
            clear h4
            rcases h5 with h5 | ⟨h5, h6⟩ | ⟨h5, h6, h7⟩ | ⟨h5, h6, h7, h8⟩ | ⟨h5, h6, h7, h8, h9⟩
            all_goals
              go_wp2_with fail
              go_roundw
              case rel => exact ⟨k + 1, acc, by omega, by go_num, by rw [HS.out, HT2.out, ← HACC.out]; simp, by omega, ham, HOW3.out, HBE3.out⟩
              case measure => simp [intOf]; omega
    · have HE : Hid (scannedR cs a b t m = acc) := hide (by rw [HACC.out]; exact scanned_end (by rw [← HACC.out]; omega) (by rw [← HACC.out]; exact ham))
      have h3 : (¬ k < cs.length) ∨ (k < cs.length ∧ ¬ (acc.length : Int) < m) := by omega
      rcases h3 with h3 | ⟨h3, h4⟩
      · have hd1 : decide ((k : Int) < (cs.length : Int)) = false := by simp; omega
        go_wp2_with fail
        go_ret
        exact ⟨_, rfl, by rw [HE.out]; exact RdC.ofOwns hown, hbw⟩
      · have hd1 : decide ((k : Int) < (cs.length : Int)) = true := by simp; omega
        go_wp2_with fail
        go_ret
        exact ⟨_, rfl, by rw [HE.out]; exact RdC.ofOwns hown, hbw⟩

end Go.Proofs.Ytlebbkbbmgmmjac

/-
  Plain maths of the law CellAsks: what the document sees is what is seen.
-/
namespace Go.Proofs.Ytlebbkbbmgmmjac
open Go.RowKit

def unGone : Option Cl → Option Cl
  | none => none
  | some c => if c.gone then none else some c

theorem visGo_find_none (t : Int) (k : Ky) {cs : List Cl} {nw : Cl} (hp : cs.Pairwise Lt) (hn : ∀ c ∈ cs, kl (rc nw) (rc c) ∨ rc nw = rc c) (hk : k = rc nw) : (visGo t nw cs).find? (isAt k) = none := by
  rw [List.find?_eq_none]
  intro d hd h
  have h1 := (visGo_pw t cs nw hp hn).1 d hd
  rw [isAt_iff] at h
  exact kl_ne h1 (by rw [h, hk])

theorem visGo_find (t : Int) (k : Ky) : ∀ (cs : List Cl) (nw : Cl), cs.Pairwise Lt → (∀ c ∈ cs, kl (rc nw) (rc c) ∨ rc nw = rc c) → k ≠ rc nw →
    (visGo t nw cs).find? (isAt k) = unGone (cs.find? (hitB k t))
  | [], _, _, _, _ => rfl
  | c :: r, nw, hp, hn, hk => by
    obtain ⟨hp1, hp2⟩ := List.pairwise_cons.1 hp
    cases hh : hid t nw c
    · have hx : ¬ (t < c.time ∨ rc c = rc nw) := fun h => by rw [hid_iff.2 h] at hh; cases hh
      have hnx : nextN t nw c = c := by simp [nextN, hh]
      have hge : ∀ d ∈ r, kl (rc c) (rc d) ∨ rc c = rc d := fun d hd => Lt_le (hp1 d hd)
      unfold visGo
      rw [hnx]
      by_cases e : k = rc c
      · have hhit : hitB k t c = true := by
          unfold hitB
          rw [isAt_iff.2 e.symm, Bool.true_and, decide_eq_true_eq]
          omega
        rw [List.find?_cons_of_pos hhit]
        cases hg : c.gone
        · rw [if_pos (by simp [seenB, hh, hg]), List.find?_cons_of_pos (isAt_iff.2 e.symm)]
          simp [unGone, hg]
        · rw [if_neg (by simp [seenB, hg]), visGo_find_none t k hp2 hge e]
          simp [unGone, hg]
      · have hat : isAt k c = false := by
          cases h : isAt k c
          · rfl
          · exact absurd (isAt_iff.1 h).symm e
        have hhit : hitB k t c = false := by unfold hitB; rw [hat]; rfl
        rw [List.find?_cons_of_neg (by rw [hhit]; decide), ← visGo_find t k r c hp2 hge e]
        split
        · rw [List.find?_cons_of_neg (by rw [hat]; decide)]
        · rfl
    · have hnx : nextN t nw c = nw := by simp [nextN, hh]
      have hs : seenB t nw c = false := by simp [seenB, hh]
      have hhit : hitB k t c = false := by
        cases h : hitB k t c
        · rfl
        · have h1 := hitB_rc h
          unfold hitB at h
          rw [Bool.and_eq_true, decide_eq_true_eq] at h
          rcases hid_iff.1 hh with h2 | h2
          · omega
          · exact absurd (h1.symm.trans h2) hk
      unfold visGo
      rw [hnx, hs, if_neg (by decide), visGo_find t k r nw hp2 (fun d hd => hn d (by simp [hd])) hk, List.find?_cons_of_neg (by rw [hhit]; decide)]

theorem vis_find {cs : List Cl} (t : Int) (k : Ky) (h : (checkC cs).1 = 0) : (vis t cs).find? (isAt k) = unGone (cs.find? (hitB k t)) := by
  have hz : ∀ c ∈ cs, kl (rc zeroC) (rc c) := fun c hc => kl_zero (fine_code h hc)
  by_cases e : k = rc zeroC
  · unfold vis
    rw [visGo_find_none t k (fine_pw h) (fun c hc => .inl (hz c hc)) e]
    have : cs.find? (hitB k t) = none := by
      rw [List.find?_eq_none]
      intro c hc hh
      exact kl_ne (hz c hc) (by rw [hitB_rc hh, e])
    rw [this]
    rfl
  · exact visGo_find t k cs zeroC (fine_pw h) (fun c hc => .inl (hz c hc)) e

theorem seenR_vis {cs : List Cl} (t : Int) (k : Ky) (h : (checkC cs).1 = 0) : seenR cs k t = match (vis t cs).find? (isAt k) with
    | none => (zeroC, false)
    | some c => (c, true) := by
  rw [vis_find t k h]
  unfold seenR
  cases cs.find? (hitB k t) with
  | none => rfl
  | some c => cases hg : c.gone <;> simp [unGone, hg]

theorem get_seen {cs : List Cl} {row col : ByteArray} {t : Int} (h1 : (checkC cs).1 = 0) (h2 : isNumB t = true) : getC cs row col t = ((seenR cs (row.toList, col.toList) t).1.val, (seenR cs (row.toList, col.toList) t).2, (0, 0)) := by
  rw [getC_fine h1 h2, seenR_vis t _ h1]
  cases (vis t cs).find? (isAt (row.toList, col.toList)) <;> rfl

theorem scanned_vis {cs : List Cl} (a b : ByteArray) (t : Int) (h : (checkC cs).1 = 0) : cs.filter (takeB cs a b t) = (vis t cs).filter fun c => askB a b c.row := by
  have hv := vis_pw t h
  refine pw_ext Lt_irrefl (fun _ _ _ => Lt_trans) ((fine_pw h).filter _) (((fine_pw h).sublist (vis_sub t cs)).filter _) fun c => ?_
  rw [List.mem_filter, List.mem_filter]
  unfold takeB
  rw [seenR_vis t _ h]
  constructor
  · rintro ⟨hc, ht⟩
    rw [Bool.and_eq_true, Bool.and_eq_true] at ht
    obtain ⟨h1, h2, h3⟩ := ht
    cases hf : (vis t cs).find? (isAt (rc c)) with
    | none => rw [hf] at h2; cases h2
    | some d =>
      rw [hf] at h3
      have e := eqC_iff.1 h3
      simp only at e
      subst e
      exact ⟨List.mem_of_find?_eq_some hf, h1⟩
  · rintro ⟨hc, ha⟩
    refine ⟨(vis_sub t cs).subset hc, ?_⟩
    rw [find_pw hv hc, ha]
    simp [eqC_iff.2 rfl]

theorem scan_scanned {cs : List Cl} {a b : ByteArray} {t m : Int} (h : (scanC cs a b t m).2.1 = 0) : (scanC cs a b t m).1 = scannedR cs a b t m := by
  obtain ⟨h1, _, _, _, h5⟩ := scanC_fine h
  rw [h5, scannedR, scanned_vis a b t h1]

/-- The faults of Scan: those of the cells, then those of the ask. -/
theorem scan_fault {cs : List Cl} {a b : ByteArray} {t m : Int} : (scanC cs a b t m).2 = if (checkC cs).1 = 0 then askF t m else checkC cs := by
  unfold scanC askF
  by_cases h1 : (checkC cs).1 = 0
  · rw [if_neg (by omega), if_pos h1]
    by_cases h2 : isNumB t = false
    · rw [if_pos h2, if_pos h2]
    · rw [if_neg h2, if_neg h2]
      split <;> rfl
  · rw [if_pos h1, if_neg h1]

theorem scan_bad {cs : List Cl} {a b : ByteArray} {t m : Int} (h : (scanC cs a b t m).2.1 ≠ 0) : (scanC cs a b t m).1 = [] := by
  unfold scanC at h ⊢
  by_cases h1 : (checkC cs).1 = 0
  · rw [if_neg (by omega)] at h ⊢
    by_cases h2 : isNumB t = false
    · rw [if_pos h2]
    · rw [if_neg h2] at h ⊢
      by_cases h3 : m < 0 ∨ 1000 < m
      · rw [if_pos h3]
      · rw [if_neg h3] at h; simp at h
  · rw [if_pos h1]

end Go.Proofs.Ytlebbkbbmgmmjac

/-
  Files: what the document opens, and how many blocks have to be read: plain mathematics.
-/
namespace Go.Proofs.Ytlebbkbbmgmmjac
open Go.RowKit

theorem un_bodies (f : Nat) : ∀ (bs : List UInt8) (acc : List (List UInt8)) (k : Nat), bs.length ≤ f → (unGo (f + 1) bs acc k).2 ≤ k + bs.length ∧ bodiesGo (f + 1) bs acc = if (unGo (f + 1) bs acc k).2 = k + bs.length then some (unGo (f + 1) bs acc k).1 else none := by
  induction f with
  | zero =>
    intro bs acc k hl
    have h0 : bs = [] := List.length_eq_zero_iff.1 (by omega)
    subst h0
    have hn : frameAt [] = none := by
      cases hn : frameAt [] with
      | none => rfl
      | some b => have := frameAt_len hn; simp at this
    rw [unGo_end hn, bodiesGo_end]
    simp
  | succ f ih =>
    intro bs acc k hl
    cases hn : frameAt bs with
    | none =>
      rw [unGo_end hn]
      by_cases h0 : bs = []
      · subst h0
        rw [bodiesGo_end]
        simp
      · have : 0 < bs.length := List.length_pos_iff.2 h0
        rw [bodiesGo_bad h0 hn, if_neg (by simp only; omega)]
        exact ⟨by simp only; omega, rfl⟩
    | some body =>
      have h1 := frameAt_len hn
      have h0 : bs ≠ [] := by intro e; subst e; simp at h1
      obtain ⟨i1, i2⟩ := ih (bs.drop (body.length + 6)) (acc ++ [body]) (k + (body.length + 6)) (by rw [List.length_drop]; omega)
      rw [unGo_step hn, bodiesGo_step h0 hn]
      rw [List.length_drop, show k + (body.length + 6) + (bs.length - (body.length + 6)) = k + bs.length by omega] at i1 i2
      exact ⟨i1, i2⟩

/-- What the document unframes, and what the code takes for bodies. -/
theorem un_all {bs : List UInt8} (h : (unGo (bs.length + 1) bs [] 0).2 = bs.length) : bodiesR bs = some (unGo (bs.length + 1) bs [] 0).1 := by
  have := (un_bodies bs.length bs [] 0 (Nat.le_refl _)).2
  rw [Nat.zero_add, if_pos h] at this
  exact this

theorem un_part {bs : List UInt8} (h : (unGo (bs.length + 1) bs [] 0).2 ≠ bs.length) : bodiesR bs = none := by
  have := (un_bodies bs.length bs [] 0 (Nat.le_refl _)).2
  rw [Nat.zero_add, if_neg h] at this
  exact this

theorem un_le (bs : List UInt8) : (unGo (bs.length + 1) bs [] 0).2 ≤ bs.length := by
  have := (un_bodies bs.length bs [] 0 (Nat.le_refl _)).1
  omega

theorem bodiesGo_mem : ∀ (f : Nat) (bs : List UInt8) (acc bb : List (List UInt8)), bodiesGo f bs acc = some bb → ∀ b ∈ bb, b ∈ acc ∨ b.length ≤ bs.length
  | 0, _, _, _, h => by simp [bodiesGo] at h
  | f + 1, bs, acc, bb, h => by
    rw [bodiesGo] at h
    split at h
    · simp only [Option.some.injEq] at h; subst h; intro b hb; exact .inl hb
    · split at h
      · cases h
      · rename_i body hb
        have h1 := frameAt_len hb
        intro b hm
        rcases bodiesGo_mem f _ _ _ h b hm with h2 | h2
        · rcases List.mem_append.1 h2 with h2 | h2
          · exact .inl h2
          · simp at h2; subst h2; right; omega
        · right
          rw [List.length_drop] at h2
          omega

theorem bodiesR_mem {bs : List UInt8} {bb : List (List UInt8)} (h : bodiesR bs = some bb) : ∀ b ∈ bb, b.length ≤ bs.length := fun b hb => by
  rcases bodiesGo_mem _ _ _ _ h b hb with h | h
  · simp at h
  · exact h

/-- So many rows stand ahead of a row, and so many do not stand behind it. -/
def lessN (rows : List (List UInt8)) (row : List UInt8) : Nat := rows.countP fun r => bl r row
def leN (rows : List (List UInt8)) (row : List UInt8) : Nat := rows.countP fun r => !bl row r
/-- How many blocks have to be read. -/
def toReadN (rows : List (List UInt8)) (row : List UInt8) : Int := (leN rows row : Int) - ((lessN rows row - 1 : Nat) : Int)

theorem lessN_le (rows : List (List UInt8)) (row : List UInt8) : lessN rows row ≤ rows.length := List.countP_le_length
theorem leN_le (rows : List (List UInt8)) (row : List UInt8) : leN rows row ≤ rows.length := List.countP_le_length

theorem lessN_step {rows : List (List UInt8)} {row r : List UInt8} {k : Nat} (h : rows[k]? = some r) : lessN (rows.take (k + 1)) row = lessN (rows.take k) row + (if bl r row then 1 else 0) := by
  rw [List.take_add_one, h, lessN, List.countP_append]
  cases hb : bl r row <;> simp [hb, lessN]

theorem leN_step {rows : List (List UInt8)} {row r : List UInt8} {k : Nat} (h : rows[k]? = some r) : leN (rows.take (k + 1)) row = leN (rows.take k) row + (if bl row r then 0 else 1) := by
  rw [List.take_add_one, h, leN, List.countP_append]
  cases hb : bl row r <;> simp [hb, leN]

/-- Rows that do not fall. -/
def Rise (rows : List (List UInt8)) : Prop := rows.Pairwise fun a b => bl b a = false

theorem rise_get {rows : List (List UInt8)} {k : Nat} {r x : List UInt8} (hr : Rise rows) (h : rows[k]? = some r) (hx : x ∈ rows.take k) : bl r x = false := by
  obtain ⟨hk, e⟩ := List.getElem?_eq_some_iff.1 h
  obtain ⟨j, hj⟩ := List.getElem?_of_mem hx
  rw [List.getElem?_take] at hj
  split at hj
  · rename_i hjk
    obtain ⟨hj1, e1⟩ := List.getElem?_eq_some_iff.1 hj
    have := List.pairwise_iff_getElem.1 hr j k hj1 hk hjk
    rw [e, e1] at this
    exact this
  · cases hj

theorem lessN_full {rows : List (List UInt8)} {row r : List UInt8} {k : Nat} (hr : Rise rows) (h : rows[k]? = some r) (hl : bl r row = true) : lessN (rows.take k) row = k := by
  have hk := (List.getElem?_eq_some_iff.1 h).1
  have : lessN (rows.take k) row = (rows.take k).length := by
    refine List.countP_eq_length.2 fun x hx => ?_
    have h1 := rise_get hr h hx
    cases h2 : bl x r
    · rw [bl_total h2 h1]
      exact hl
    · exact bl_trans h2 hl
  rw [this, List.length_take]
  omega

theorem leN_full {rows : List (List UInt8)} {row r : List UInt8} {k : Nat} (hr : Rise rows) (h : rows[k]? = some r) (hl : bl row r = false) : leN (rows.take k) row = k := by
  have hk := (List.getElem?_eq_some_iff.1 h).1
  have : leN (rows.take k) row = (rows.take k).length := by
    refine List.countP_eq_length.2 fun x hx => ?_
    have h1 := rise_get hr h hx
    cases h3 : bl row x
    · rfl
    · exfalso
      cases h2 : bl x r
      · rw [bl_total h2 h1] at h3
        rw [h3] at hl
        cases hl
      · rw [bl_trans h3 h2] at hl
        cases hl
  rw [this, List.length_take]
  omega

theorem Lt_row {c d : Cl} (h : Lt c d) : bl d.row.data.toList c.row.data.toList = false := by
  rw [← ba_list, ← ba_list]
  rcases Lt_le h with h | h
  · rcases h with h | ⟨h, _⟩
    · exact bl_asymm h
    · have h : c.row.toList = d.row.toList := h
      rw [h]
      exact bl_irrefl _
  · have h : c.row.toList = d.row.toList := congrArg Prod.fst h
    rw [h]
    exact bl_irrefl _

theorem heads_rise {gs : List (List Cl)} (hp : gs.flatten.Pairwise Lt) (hn : ∀ g ∈ gs, g ≠ []) : Rise (headsB gs) := by
  unfold Rise headsB
  rw [List.pairwise_map]
  refine List.Pairwise.imp_of_mem (fun {a b} ha hb h => ?_) (List.pairwise_flatten.1 hp).2
  cases a with
  | nil => exact absurd rfl (hn _ ha)
  | cons x a =>
    cases b with
    | nil => exact absurd rfl (hn _ hb)
    | cons y b => exact Lt_row (h x (List.mem_cons_self ..) y (List.mem_cons_self ..))

theorem flat_at {gs : List (List Cl)} {k : Nat} {c : Cl} {l : List Cl} (h : gs[k]? = some (c :: l)) : gs.flatten[(gs.take k).flatten.length]? = some c := by
  obtain ⟨hk, e⟩ := List.getElem?_eq_some_iff.1 h
  have : gs = gs.take k ++ (c :: l) :: gs.drop (k + 1) := by rw [← e, ← List.drop_eq_getElem_cons hk, List.take_append_drop]
  generalize gs.take k = a at *
  generalize gs.drop (k + 1) = b at *
  rw [this, List.flatten_append, List.flatten_cons, List.getElem?_append_right (Nat.le_refl _), Nat.sub_self]
  rfl

/-- Where the document's count of blocks stands. -/
def fromN (rows : List (List UInt8)) (row : List UInt8) : Nat := lessN rows row - 1

theorem openF_cases (bs : List UInt8) : ((openF bs).2.1 ≠ 0 ∧ (openF bs).1 = ([], [], [])) ∨ ((openF bs).2 = (0, 0) ∧ (checkC (openF bs).1.1).1 = 0 ∧ (openF bs).1.1.length ≤ 500 ∧ (openF bs).1.2.2 = filtB (openF bs).1.1) := by
  by_cases hb : 60000 < bs.length
  · left
    rw [openF_big hb]
    exact ⟨by decide, rfl⟩
  · cases h1 : piecesR bs with
    | none => left; rw [openF_pieces hb h1]; exact ⟨by decide, rfl⟩
    | some p =>
      obtain ⟨bl, ix, bits⟩ := p
      cases h2 : rixGo ix bl [] with
      | none => left; rw [openF_index hb h1 h2]; exact ⟨by decide, rfl⟩
      | some rows =>
        cases h3 : rbR bl rows with
        | none => left; rw [openF_blocks hb h1 h2 h3]; exact ⟨by decide, rfl⟩
        | some cs =>
          by_cases h4 : bits = filtB cs
          · right
            rw [openF_ok hb h1 h2 h3 h4]
            have hf : cs.length ≤ 500 ∧ (checkC cs).1 = 0 := by
              unfold rbR at h3
              split at h3
              · cases h3
              · split at h3
                · split at h3
                  · simp only [Option.some.injEq] at h3
                    subst h3
                    exact ⟨by assumption, by assumption⟩
                  · cases h3
                · cases h3
            exact ⟨rfl, hf.2, hf.1, h4⟩
          · left
            rw [openF_filter hb h1 h2 h3 h4]
            exact ⟨by decide, rfl⟩

/-- What is not in the filter is not there. -/
theorem seen_none {cs : List Cl} {row col : ByteArray} {t : Int} (hck : (checkC cs).1 = 0) (hn : isNumB t = true) (hh : hasB (filtB cs) row.data.toList = false) : getC cs row col t = (⟨#[]⟩, false, (0, 0)) := by
  have hno : ∀ c ∈ cs, c.row.data.toList ≠ row.data.toList := fun c hc e => by
    have := has_mem hc
    rw [e, hh] at this
    cases this
  unfold getC
  rw [if_neg (by omega), if_neg (by rw [hn]; decide), getGo_eq]
  have hnone : (visGo t zeroC cs).find? (isAt (row.toList, col.toList)) = none := by
    rw [List.find?_eq_none]
    intro c hc
    have hcs := (visGo_sub t cs zeroC).subset hc
    intro hat
    have := isAt_iff.1 hat
    unfold rc at this
    simp only [Prod.mk.injEq] at this
    exact hno c hcs (by rw [← ba_list, ← ba_list]; exact this.1)
  rw [hnone]

end Go.Proofs.Ytlebbkbbmgmmjac

/-
  The walks over file.May and file.Find, of files that are opened without a fault.
-/
namespace Go.Proofs.Ytlebbkbbmgmmjac
open Go.RowKit

theorem Bk.setO9 {w : World} {B : Nat} {t : TypeId} {xs : Array Value} (h : Bk w B t xs) {p : Addr} (hne : B ≠ p.block) (u : Value) : Bk (w.setCell p u) B t xs := by
  unfold Bk
  rw [heap_setCell_other w p _ u hne]
  exact h

set_option maxRecDepth 100000 in
set_option maxHeartbeats 1000000 in
theorem May_ok (v : Value) (bs : List UInt8) (row : ByteArray) (w : World) (cs : List Cl) (rows : List (List UInt8)) (bits : List UInt8) (hO : openF bs = ((cs, rows, bits), (0, 0))) (hrd : Rd w v (bc bs)) (hrow : row.size ≤ 9223372036854775807) (hn1 : 0 < bits.length) (hn2 : bits.length ≤ 1000000) :
    Calls Try.prog 20 #[v, .string row] w fun e w' => e = .returned (.tuple #[.bool (hasB bits row.data.toList), fltC (0, 0)]) ∧ Below w.heap.size w w' := by
  obtain ⟨ao, cap, hv, hc1, hc2⟩ := hrd.shape
  rw [bc_length] at hc1 hv
  subst hv
  have hR0 := Bk.new w 26 #[.int .i64 0, .int .i64 0]
  have hop := opened_any _ bs _ (hrd.alloc (.cells #[.int .i64 0, .int .i64 0] 26))
  rw [hO] at hop
  have HOP := hide hop
  clear hop hO
  go_enter Try.func20, Try.ntmps20
  go_wp2_with fail
  refine HOP.out.mono ?_
  rintro e w1 ⟨o1, n1, c1, o2, n2, c2, o3, n3, c3, rfl, _, _, hF, hb1⟩
  have hR1 := hR0.below hb1 (by simp)
  have hbw1 : Below w.heap.size w w1 := (below_alloc' _ _).trans (hb1.mono (by simp))
  clear hR0 hb1
  unfold fltC
  simp only at hF ⊢
  have hbT := below_alloc' w1 (.cells #[.slice o1 n1 c1, .slice o2 n2 c2, .slice o3 n3 c3] 91)
  have hbF := below_alloc' (w1.alloc (.cells #[.slice o1 n1 c1, .slice o2 n2 c2, .slice o3 n3 c3] 91)) (.cells #[.int .i64 0, .int .i64 0] 26)
  have hbA := hbT.trans (hbF.mono (by simp))
  have hRA := hR1.below hbA hR1.lt
  have hFA := hF.below hbA
  have hbwA := hbw1.trans (hbA.mono hbw1.size)
  clear hbT hbF hR1 hF
  go_wp2_with fail
  generalize (w1.alloc (.cells #[.slice o1 n1 c1, .slice o2 n2 c2, .slice o3 n3 c3] 91)).alloc (.cells #[.int .i64 0, .int .i64 0] 26) = wA at *
  refine (has_any _ bits row _ hFA hn1 hn2 hrow).mono ?_
  rintro e w2 ⟨rfl, hb2⟩
  have hR2 := hRA.below hb2 hRA.lt
  have hbw2 := hbwA.trans (hb2.mono hbwA.size)
  have r0 := hR2.cell 0
  have r1 := hR2.cell 1
  have r2 := hR2.frozen 0
  have r3 := hR2.frozen 1
  have hlt := hR2.lt
  simp at r0 r1
  go_wp2_with fail
  exact bodyPost_ret (v := .tuple #[.bool (hasB bits row.data.toList), fltC (0, 0)]) (by simp [results, Try.results20, go_sem, fltC, r0, r1]) rfl ⟨rfl, by go_grown⟩

set_option maxRecDepth 100000 in
set_option maxHeartbeats 1000000 in
theorem blocksToRead_any (v : Value) (rows : List (List UInt8)) (row : ByteArray) (w : World) (hR : Rd w v (sc rows)) :
    Calls Try.prog 58 #[v, .string row] w fun e w' => (∃ n : Int, e = .returned (.int .i64 n)) ∧ w' = w := by
  obtain ⟨ro, rcap, hrv, he1, he2, hrcell⟩ := hR.open
  rw [sc_length] at hrv he1 hrcell
  subst hrv
  unfold maxLen at he2
  go_enter Try.func58, Try.ntmps58
  go_wp2_with fail
  go_loopw [5, 6, 11] (fun a b i wr => ∃ x y k : Nat, k ≤ rows.length ∧ x ≤ k ∧ y ≤ k ∧ a = .int .i64 x ∧ b = .int .i64 y ∧ i = .int .i64 k ∧ wr = w) (fun _ _ i _ => rows.length - (intOf i).toNat)
  case atStart => exact ⟨0, 0, 0, by omega, by omega, by omega, rfl, rfl, rfl, rfl⟩
  case round =>
    obtain ⟨x, y, k, hk, hx, hy, rfl, rfl, rfl, rfl⟩ := hrel
    by_cases hlt : k < rows.length
    · obtain ⟨b, off, rfl, hb, hcl⟩ := hrcell k hlt
      have hck : wr.cell? ⟨b, off + k, none⟩ = some (.string ⟨rows[k].toArray⟩) := hcl k _ (by simp [sc, hlt])
      generalize rows[k] = r at *
      clear hrcell hcl
      go_wp2_with fail
      all_goals
        go_roundw
        case rel => first | exact ⟨x + 1, y + 1, k + 1, by omega, by omega, by omega, by go_num, by go_num, by go_num, by first | rfl | trivial⟩ | exact ⟨x, y + 1, k + 1, by omega, by omega, by omega, by go_num, by go_num, by go_num, by first | rfl | trivial⟩ | exact ⟨x + 1, y, k + 1, by omega, by omega, by omega, by go_num, by go_num, by go_num, by first | rfl | trivial⟩ | exact ⟨x, y, k + 1, by omega, by omega, by omega, by go_num, by go_num, by go_num, by first | rfl | trivial⟩
        case measure => simp [intOf]; omega
    · have hsp : (x : Int) - 1 < 0 ∨ 0 ≤ (x : Int) - 1 := by omega
      rcases hsp with h1 | h1
      all_goals
        go_wp2_with fail
        go_ret
        exact ⟨⟨_, rfl⟩, rfl⟩

set_option maxRecDepth 100000 in
set_option maxHeartbeats 2000000 in
theorem Find_ok (v : Value) (bs : List UInt8) (row col : ByteArray) (t : Int) (w : World) (cs : List Cl) (rows : List (List UInt8)) (bits : List UInt8) (hO : openF bs = ((cs, rows, bits), (0, 0))) (hrd : Rd w v (bc bs)) (hrow : row.size ≤ 9223372036854775807) (hn1 : 0 < bits.length) (hn2 : bits.length ≤ 1000000) :
    Calls Try.prog 21 #[v, .string row, .string col, .int .i64 t] w fun e w' => ∃ n : Int, e = .returned (.tuple #[.string (findF bs row col t).1, .bool (findF bs row col t).2.1, .int .i64 n, fltC (findF bs row col t).2.2]) ∧ Below w.heap.size w w' := by
  obtain ⟨ao, cap, hv, hc1, hc2⟩ := hrd.shape
  rw [bc_length] at hc1 hv
  subst hv
  have hR0 := Bk.new w 26 #[.int .i64 0, .int .i64 0]
  have hop := opened_any _ bs _ (hrd.alloc (.cells #[.int .i64 0, .int .i64 0] 26))
  have hff : findF bs row col t = if (getC cs row col t).2.2.1 ≠ 0 then (⟨#[]⟩, false, (getC cs row col t).2.2) else if hasB bits row.data.toList = false then (⟨#[]⟩, false, (getC cs row col t).2.2) else ((getC cs row col t).1, (getC cs row col t).2.1, (0, 0)) := by
    unfold findF
    rw [hO]
    simp
  rw [hO] at hop
  have HOP := hide hop
  have HFF := hide hff
  clear hop hO hff
  go_enter Try.func21, Try.ntmps21
  go_wp2_with fail
  refine HOP.out.mono ?_
  rintro e w1 ⟨o1, n1, c1, o2, n2, c2, o3, n3, c3, rfl, hC, hR, hF, hb1⟩
  have hR1 := hR0.below hb1 (by simp)
  have hbw1 : Below w.heap.size w w1 := (below_alloc' _ _).trans (hb1.mono (by simp))
  clear hR0 hb1
  unfold fltC
  simp only at hC hR hF ⊢
  have hbT := below_alloc' w1 (.cells #[.slice o1 n1 c1, .slice o2 n2 c2, .slice o3 n3 c3] 91)
  have hbF := below_alloc' (w1.alloc (.cells #[.slice o1 n1 c1, .slice o2 n2 c2, .slice o3 n3 c3] 91)) (.cells #[.int .i64 0, .int .i64 0] 26)
  have hbA := hbT.trans (hbF.mono (by simp))
  have hTA := (Bk.new w1 91 #[.slice o1 n1 c1, .slice o2 n2 c2, .slice o3 n3 c3]).below hbF (by simp)
  have hFB := Bk.new2 w1 (.cells #[.slice o1 n1 c1, .slice o2 n2 c2, .slice o3 n3 c3] 91) 26 #[.int .i64 0, .int .i64 0]
  have hRA := hR1.below hbA hR1.lt
  have hCA := hC.below hbA
  have hRrA := hR.below hbA
  have hFA := hF.below hbA
  have hbwA := hbw1.trans (hbA.mono hbw1.size)
  have hlR := hR1.lt
  clear hbT hbF hR1 hF hC hR
  go_wp2_with fail
  generalize (w1.alloc (.cells #[.slice o1 n1 c1, .slice o2 n2 c2, .slice o3 n3 c3] 91)).alloc (.cells #[.int .i64 0, .int .i64 0] 26) = wA at *
  have hzT : w.heap.size < w1.heap.size := hlR
  generalize w1.heap.size = zT at *
  have hzF : zT + 1 = zT + 1 := rfl
  generalize hzFe : zT + 1 = zF at *
  have hTF : zT ≠ zF := by omega
  have hRF : w.heap.size ≠ zF := by omega
  have hwF : w.heap.size ≤ zF := by omega
  clear hzF hzFe
  refine (Get_any _ cs row col t _ hCA).mono ?_
  rintro e w2 ⟨rfl, hb2⟩
  have hT2 := hTA.below hb2 hTA.lt
  have hF2 := hFB.below hb2 hFB.lt
  have hR2 := hRA.below hb2 hRA.lt
  have hRr2 := hRrA.below hb2
  have hFl2 := hFA.below hb2
  have hbw2 := hbwA.trans (hb2.mono hbwA.size)
  have hgz := @getC_zero cs row col t
  generalize hG : getC cs row col t = G at *
  obtain ⟨val, is, x, y⟩ := G
  have HGZ : Hid (x = 0 → y = 0) := hide (fun h => by have := (hgz h).1; simp at this; exact this.2)
  clear hG hgz
  simp only at HFF ⊢
  unfold fltC
  have f0 := hF2.cell 0
  have f1 := hF2.cell 1
  have f2 := hF2.frozen 0
  have f3 := hF2.frozen 1
  have hl2 := hF2.lt
  simp at f0 f1
  have hT3 : Bk ((w2.setCell ⟨zF, 0, none⟩ (.int .i64 x)).setCell ⟨zF, 1, none⟩ (.int .i64 y)) zT 91 #[.slice o1 n1 c1, .slice o2 n2 c2, .slice o3 n3 c3] := (hT2.setO9 (by exact hTF) _).setO9 (by exact hTF) _
  have hR3 : Bk ((w2.setCell ⟨zF, 0, none⟩ (.int .i64 x)).setCell ⟨zF, 1, none⟩ (.int .i64 y)) w.heap.size 26 #[.int .i64 0, .int .i64 0] := (hR2.setO9 (by exact hRF) _).setO9 (by exact hRF) _
  have hF3 : Bk ((w2.setCell ⟨zF, 0, none⟩ (.int .i64 x)).setCell ⟨zF, 1, none⟩ (.int .i64 y)) zF 26 #[.int .i64 x, .int .i64 y] := (hF2.set 0 _).set 1 _
  have nF := hFl2.notIn hF2 (fun u hu h => by simp only [bc, List.mem_map] at hu; obtain ⟨s, _, rfl⟩ := hu; simp at h)
  have nR := hRr2.notIn hF2 (fun u hu h => by simp only [sc, List.mem_map] at hu; obtain ⟨s, _, rfl⟩ := hu; simp at h)
  have hg3 := grownT_trans (grownT_set w2 zF 0 (.int .i64 x)) (grownT_set _ zF 1 (.int .i64 y))
  have hFl3 := hFl2.grownT hg3 nF
  have hRr3 := hRr2.grownT hg3 nR
  have hbw3 : Below w.heap.size w ((w2.setCell ⟨zF, 0, none⟩ (.int .i64 x)).setCell ⟨zF, 1, none⟩ (.int .i64 y)) := (hbw2.setCell (by exact hwF) _).setCell (by exact hwF) _
  clear hTA hFB hRA hCA hRrA hFA hbwA hT2 hR2 hRr2 hFl2 hg3 nF nR hb2
  go_upto_region 5 with fail
  generalize (w2.setCell ⟨zF, 0, none⟩ (.int .i64 x)).setCell ⟨zF, 1, none⟩ (.int .i64 y) = w3 at *
  clear f0 f1 f2 f3 hF2 hl2
  have f0 := hF3.cell 0
  have f1 := hF3.cell 1
  have t1 := hT3.cell 1
  have t2 := hT3.cell 2
  have r0 := hR3.cell 0
  have r1 := hR3.cell 1
  have r2 := hR3.frozen 0
  have r3 := hR3.frozen 1
  have hlt := hR3.lt
  simp at f0 f1 t1 t2 r0 r1
  by_cases hx : x = 0
  · have hy := HGZ.out hx
    subst hx hy
    rw [if_neg (by simp)] at HFF
    go_wp2_with fail
    refine (has_any _ bits row _ hFl3 hn1 hn2 hrow).mono ?_
    rintro e w4 ⟨rfl, hb4⟩
    have hF4 := hF3.below hb4 hF3.lt
    have hT4 := hT3.below hb4 hT3.lt
    have hR4 := hR3.below hb4 hR3.lt
    have hRr4 := hRr3.below hb4
    have hbw4 := hbw3.trans (hb4.mono hbw3.size)
    clear f0 f1 t1 t2 r0 r1 r2 r3 hlt
    have f0 := hF4.cell 0
    have f1 := hF4.cell 1
    have t1 := hT4.cell 1
    have r0 := hR4.cell 0
    have r1 := hR4.cell 1
    have r2 := hR4.frozen 0
    have r3 := hR4.frozen 1
    have hlt := hR4.lt
    simp at f0 f1 t1 r0 r1
    cases hh : hasB bits row.data.toList
    · rw [if_pos hh] at HFF
      go_wp2_with fail
      go_region
      all_goals
        go_wp2_with fail
        exact bodyPost_ret (v := .tuple #[.string ⟨#[]⟩, .bool false, .int .i64 0, fltC (0, 0)]) (by simp [results, Try.results21, go_sem, fltC, r0, r1]) rfl ⟨0, by rw [HFF.out], by go_grown⟩
    · rw [if_neg (by rw [hh]; decide)] at HFF
      go_wp2_with fail
      refine (blocksToRead_any _ rows row _ hRr4).mono ?_
      rintro e w5 ⟨⟨n, rfl⟩, rfl⟩
      go_wp2_with fail
      exact bodyPost_ret (v := .tuple #[.string val, .bool is, .int .i64 n, fltC (0, 0)]) (by simp [results, Try.results21, go_sem, fltC, r0, r1]) rfl ⟨n, by rw [HFF.out], by go_grown⟩
  · have hxb : (x == 0) = false := beq_eq_false_iff_ne.2 hx
    have HX := hide hx
    rw [if_pos hx] at HFF
    clear hx
    go_wp2_with fail
    go_region
    all_goals
      go_wp2_with fail
      exact bodyPost_ret (v := .tuple #[.string ⟨#[]⟩, .bool false, .int .i64 0, fltC (x, y)]) (by simp [results, Try.results21, go_sem, fltC, r0, r1]) rfl ⟨0, by rw [HFF.out], by go_grown⟩

end Go.Proofs.Ytlebbkbbmgmmjac

/-
  The walks over file.May and file.Find, of whatever bytes, with the number of blocks.
-/
namespace Go.Proofs.Ytlebbkbbmgmmjac
open Go.RowKit

/-- Two texts stand in one of three ways. -/
theorem three (a b : List UInt8) : (Op.bytesLess a b = true ∧ Op.bytesLess b a = false ∧ (a == b) = false) ∨ (Op.bytesLess a b = false ∧ Op.bytesLess b a = false ∧ (a == b) = true) ∨ (Op.bytesLess a b = false ∧ Op.bytesLess b a = true ∧ (a == b) = false) := by
  cases h1 : bl a b
  · cases h2 : bl b a
    · exact .inr (.inl ⟨h1, h2, beq_iff_eq.2 (bl_total h1 h2)⟩)
    · exact .inr (.inr ⟨h1, h2, beq_eq_false_iff_ne.2 (bl_ne h2).symm⟩)
  · exact .inl ⟨h1, bl_asymm h1, beq_eq_false_iff_ne.2 (bl_ne h1)⟩

/-- What Find answers, of a file that is opened without a fault. -/
def findV (cs : List Cl) (rows : List (List UInt8)) (bits : List UInt8) (row col : ByteArray) (t : Int) : Value :=
  if (getC cs row col t).2.2.1 ≠ 0 then .tuple #[.string ⟨#[]⟩, .bool false, .int .i64 0, fltC (getC cs row col t).2.2]
  else if hasB bits row.data.toList = false then .tuple #[.string ⟨#[]⟩, .bool false, .int .i64 0, fltC (0, 0)]
  else .tuple #[.string (getC cs row col t).1, .bool (getC cs row col t).2.1, .int .i64 (toReadN rows row.toList), fltC (0, 0)]

set_option maxRecDepth 100000 in
set_option maxHeartbeats 1000000 in
theorem blocksToRead_n (v : Value) (rows : List (List UInt8)) (row : ByteArray) (w : World) (hR : Rd w v (sc rows)) :
    Calls Try.prog 58 #[v, .string row] w fun e w' => e = .returned (.int .i64 (toReadN rows row.toList)) ∧ w' = w := by
  obtain ⟨ro, rcap, hrv, he1, he2, hrcell⟩ := hR.open
  rw [sc_length] at hrv he1 hrcell
  subst hrv
  unfold maxLen at he2
  go_enter Try.func58, Try.ntmps58
  go_wp2_with fail
  go_loopw [5, 6, 11] (fun a b i wr => ∃ x y k : Nat, k ≤ rows.length ∧ x ≤ k ∧ y ≤ k ∧ lessN (rows.take k) row.toList = x ∧ leN (rows.take k) row.toList = y ∧ a = .int .i64 x ∧ b = .int .i64 y ∧ i = .int .i64 k ∧ wr = w) (fun _ _ i _ => rows.length - (intOf i).toNat)
  case atStart => exact ⟨0, 0, 0, by omega, by omega, by omega, rfl, rfl, rfl, rfl, rfl, rfl⟩
  case round =>
    obtain ⟨x, y, k, hk, hx, hy, hlx, hly, rfl, rfl, rfl, rfl⟩ := hrel
    have HX := hide hlx
    have HY := hide hly
    clear hlx hly
    by_cases hlt : k < rows.length
    · obtain ⟨b, off, rfl, hb, hcl⟩ := hrcell k hlt
      have hck : wr.cell? ⟨b, off + k, none⟩ = some (.string ⟨rows[k].toArray⟩) := hcl k _ (by simp [sc, hlt])
      have hrk : rows[k]? = some rows[k] := List.getElem?_eq_getElem hlt
      have hs1 := lessN_step (row := row.toList) hrk
      have hs2 := leN_step (row := row.toList) hrk
      rw [HX.out] at hs1
      rw [HY.out] at hs2
      generalize rows[k] = r at *
      clear hrcell hcl hrk
      unfold bl at hs1 hs2
      rcases three r row.toList with ⟨hb1, hb2, hb3⟩ | ⟨hb1, hb2, hb3⟩ | ⟨hb1, hb2, hb3⟩
      all_goals
        rw [hb1] at hs1
        rw [hb2] at hs2
        simp only [Bool.false_eq_true, if_false, if_true] at hs1 hs2
        have HS1 := hide hs1
        have HS2 := hide hs2
        clear hs1 hs2
        go_wp2_with fail
        go_roundw
        case rel => first | exact ⟨x + 1, y + 1, k + 1, by omega, by omega, by omega, HS1.out, HS2.out, by go_num, by go_num, by go_num, by first | rfl | trivial⟩ | exact ⟨x, y + 1, k + 1, by omega, by omega, by omega, HS1.out, HS2.out, by go_num, by go_num, by go_num, by first | rfl | trivial⟩ | exact ⟨x + 1, y, k + 1, by omega, by omega, by omega, HS1.out, HS2.out, by go_num, by go_num, by go_num, by first | rfl | trivial⟩ | exact ⟨x, y, k + 1, by omega, by omega, by omega, HS1.out, HS2.out, by go_num, by go_num, by go_num, by first | rfl | trivial⟩
        case measure => simp [intOf]; omega
    · rw [List.take_of_length_le (by omega)] at HX HY
      have HT : Hid (toReadN rows row.toList = (y : Int) - ((x - 1 : Nat) : Int)) := hide (by unfold toReadN; rw [HX.out, HY.out])
      have hsp : (x : Int) - 1 < 0 ∨ 0 ≤ (x : Int) - 1 := by omega
      rcases hsp with h1 | h1
      all_goals
        go_wp2_with fail
        go_ret
        refine ⟨?_, rfl⟩
        rw [HT.out]
        simp only [Ending.returned.injEq]
        go_num

set_option maxRecDepth 100000 in
set_option maxHeartbeats 1000000 in
theorem May_bad (v : Value) (bs : List UInt8) (row : ByteArray) (w : World) (hx : (openF bs).2.1 ≠ 0) (hrd : Rd w v (bc bs)) :
    Calls Try.prog 20 #[v, .string row] w fun e w' => e = .returned (.tuple #[.bool false, fltC (openF bs).2]) ∧ Below w.heap.size w w' := by
  obtain ⟨ao, cap, hv, hc1, hc2⟩ := hrd.shape
  rw [bc_length] at hc1 hv
  subst hv
  have hR0 := Bk.new w 26 #[.int .i64 0, .int .i64 0]
  have hop := opened_any _ bs _ (hrd.alloc (.cells #[.int .i64 0, .int .i64 0] 26))
  generalize openF bs = OF at *
  obtain ⟨F, x, y⟩ := OF
  simp only at hx hop ⊢
  have HOP := hide hop
  clear hop
  go_enter Try.func20, Try.ntmps20
  go_wp2_with fail
  refine HOP.out.mono ?_
  rintro e w1 ⟨o1, n1, c1, o2, n2, c2, o3, n3, c3, rfl, _, _, _, hb1⟩
  have hR1 := hR0.below hb1 (by simp)
  have hbw1 : Below w.heap.size w w1 := (below_alloc' _ _).trans (hb1.mono (by simp))
  clear hR0 hb1
  unfold fltC
  have hbT := below_alloc' w1 (.cells #[.slice o1 n1 c1, .slice o2 n2 c2, .slice o3 n3 c3] 91)
  have hbF := below_alloc' (w1.alloc (.cells #[.slice o1 n1 c1, .slice o2 n2 c2, .slice o3 n3 c3] 91)) (.cells #[.int .i64 x, .int .i64 y] 26)
  have hbA := hbT.trans (hbF.mono (by simp))
  have hRA := hR1.below hbA hR1.lt
  have hFB := Bk.new2 w1 (.cells #[.slice o1 n1 c1, .slice o2 n2 c2, .slice o3 n3 c3] 91) 26 #[.int .i64 x, .int .i64 y]
  have hbwA := hbw1.trans (hbA.mono hbw1.size)
  have hxb : (x == 0) = false := beq_eq_false_iff_ne.2 hx
  clear hbT hbF hR1
  go_wp2_with fail
  generalize (w1.alloc (.cells #[.slice o1 n1 c1, .slice o2 n2 c2, .slice o3 n3 c3] 91)).alloc (.cells #[.int .i64 x, .int .i64 y] 26) = wA at *
  have r0 := hRA.cell 0
  have r1 := hRA.cell 1
  have r2 := hRA.frozen 0
  have r3 := hRA.frozen 1
  have hlt := hRA.lt
  have f0 := hFB.cell 0
  have f1 := hFB.cell 1
  simp at r0 r1 f0 f1
  go_region
  all_goals
    go_wp2_with fail
    exact bodyPost_ret (v := .tuple #[.bool false, fltC (x, y)]) (by simp [results, Try.results20, go_sem, fltC, r0, r1]) rfl ⟨rfl, by go_grown⟩

set_option maxRecDepth 100000 in
set_option maxHeartbeats 1000000 in
theorem Find_bad (v : Value) (bs : List UInt8) (row col : ByteArray) (t : Int) (w : World) (hx : (openF bs).2.1 ≠ 0) (hrd : Rd w v (bc bs)) :
    Calls Try.prog 21 #[v, .string row, .string col, .int .i64 t] w fun e w' => e = .returned (.tuple #[.string ⟨#[]⟩, .bool false, .int .i64 0, fltC (openF bs).2]) ∧ Below w.heap.size w w' := by
  obtain ⟨ao, cap, hv, hc1, hc2⟩ := hrd.shape
  rw [bc_length] at hc1 hv
  subst hv
  have hR0 := Bk.new w 26 #[.int .i64 0, .int .i64 0]
  have hop := opened_any _ bs _ (hrd.alloc (.cells #[.int .i64 0, .int .i64 0] 26))
  generalize openF bs = OF at *
  obtain ⟨F, x, y⟩ := OF
  simp only at hx hop ⊢
  have HOP := hide hop
  clear hop
  go_enter Try.func21, Try.ntmps21
  go_wp2_with fail
  refine HOP.out.mono ?_
  rintro e w1 ⟨o1, n1, c1, o2, n2, c2, o3, n3, c3, rfl, _, _, _, hb1⟩
  have hR1 := hR0.below hb1 (by simp)
  have hbw1 : Below w.heap.size w w1 := (below_alloc' _ _).trans (hb1.mono (by simp))
  clear hR0 hb1
  unfold fltC
  have hbT := below_alloc' w1 (.cells #[.slice o1 n1 c1, .slice o2 n2 c2, .slice o3 n3 c3] 91)
  have hbF := below_alloc' (w1.alloc (.cells #[.slice o1 n1 c1, .slice o2 n2 c2, .slice o3 n3 c3] 91)) (.cells #[.int .i64 x, .int .i64 y] 26)
  have hbA := hbT.trans (hbF.mono (by simp))
  have hRA := hR1.below hbA hR1.lt
  have hFB := Bk.new2 w1 (.cells #[.slice o1 n1 c1, .slice o2 n2 c2, .slice o3 n3 c3] 91) 26 #[.int .i64 x, .int .i64 y]
  have hbwA := hbw1.trans (hbA.mono hbw1.size)
  have hxb : (x == 0) = false := beq_eq_false_iff_ne.2 hx
  clear hbT hbF hR1
  go_wp2_with fail
  generalize (w1.alloc (.cells #[.slice o1 n1 c1, .slice o2 n2 c2, .slice o3 n3 c3] 91)).alloc (.cells #[.int .i64 x, .int .i64 y] 26) = wA at *
  have r0 := hRA.cell 0
  have r1 := hRA.cell 1
  have r2 := hRA.frozen 0
  have r3 := hRA.frozen 1
  have hlt := hRA.lt
  have f0 := hFB.cell 0
  have f1 := hFB.cell 1
  simp at r0 r1 f0 f1
  go_region
  all_goals
    go_wp2_with fail
    exact bodyPost_ret (v := .tuple #[.string ⟨#[]⟩, .bool false, .int .i64 0, fltC (x, y)]) (by simp [results, Try.results21, go_sem, fltC, r0, r1]) rfl ⟨rfl, by go_grown⟩

set_option maxRecDepth 100000 in
set_option maxHeartbeats 2000000 in
theorem Find_full (v : Value) (bs : List UInt8) (row col : ByteArray) (t : Int) (w : World) (cs : List Cl) (rows : List (List UInt8)) (bits : List UInt8) (hO : openF bs = ((cs, rows, bits), (0, 0))) (hrd : Rd w v (bc bs)) (hrow : row.size ≤ 9223372036854775807) (hn1 : 0 < bits.length) (hn2 : bits.length ≤ 1000000) :
    Calls Try.prog 21 #[v, .string row, .string col, .int .i64 t] w fun e w' => e = .returned (findV cs rows bits row col t) ∧ Below w.heap.size w w' := by
  obtain ⟨ao, cap, hv, hc1, hc2⟩ := hrd.shape
  rw [bc_length] at hc1 hv
  subst hv
  have hR0 := Bk.new w 26 #[.int .i64 0, .int .i64 0]
  have hop := opened_any _ bs _ (hrd.alloc (.cells #[.int .i64 0, .int .i64 0] 26))
  have hff : findV cs rows bits row col t = if (getC cs row col t).2.2.1 ≠ 0 then .tuple #[.string ⟨#[]⟩, .bool false, .int .i64 0, fltC (getC cs row col t).2.2] else if hasB bits row.data.toList = false then .tuple #[.string ⟨#[]⟩, .bool false, .int .i64 0, fltC (0, 0)] else .tuple #[.string (getC cs row col t).1, .bool (getC cs row col t).2.1, .int .i64 (toReadN rows row.toList), fltC (0, 0)] := rfl
  rw [hO] at hop
  have HOP := hide hop
  have HFF := hide hff
  clear hop hO hff
  go_enter Try.func21, Try.ntmps21
  go_wp2_with fail
  refine HOP.out.mono ?_
  rintro e w1 ⟨o1, n1, c1, o2, n2, c2, o3, n3, c3, rfl, hC, hR, hF, hb1⟩
  have hR1 := hR0.below hb1 (by simp)
  have hbw1 : Below w.heap.size w w1 := (below_alloc' _ _).trans (hb1.mono (by simp))
  clear hR0 hb1
  unfold fltC
  simp only at hC hR hF ⊢
  have hbT := below_alloc' w1 (.cells #[.slice o1 n1 c1, .slice o2 n2 c2, .slice o3 n3 c3] 91)
  have hbF := below_alloc' (w1.alloc (.cells #[.slice o1 n1 c1, .slice o2 n2 c2, .slice o3 n3 c3] 91)) (.cells #[.int .i64 0, .int .i64 0] 26)
  have hbA := hbT.trans (hbF.mono (by simp))
  have hTA := (Bk.new w1 91 #[.slice o1 n1 c1, .slice o2 n2 c2, .slice o3 n3 c3]).below hbF (by simp)
  have hFB := Bk.new2 w1 (.cells #[.slice o1 n1 c1, .slice o2 n2 c2, .slice o3 n3 c3] 91) 26 #[.int .i64 0, .int .i64 0]
  have hRA := hR1.below hbA hR1.lt
  have hCA := hC.below hbA
  have hRrA := hR.below hbA
  have hFA := hF.below hbA
  have hbwA := hbw1.trans (hbA.mono hbw1.size)
  have hlR := hR1.lt
  clear hbT hbF hR1 hF hC hR
  go_wp2_with fail
  generalize (w1.alloc (.cells #[.slice o1 n1 c1, .slice o2 n2 c2, .slice o3 n3 c3] 91)).alloc (.cells #[.int .i64 0, .int .i64 0] 26) = wA at *
  have hzT : w.heap.size < w1.heap.size := hlR
  generalize w1.heap.size = zT at *
  have hzF : zT + 1 = zT + 1 := rfl
  generalize hzFe : zT + 1 = zF at *
  have hTF : zT ≠ zF := by omega
  have hRF : w.heap.size ≠ zF := by omega
  have hwF : w.heap.size ≤ zF := by omega
  clear hzF hzFe
  refine (Get_any _ cs row col t _ hCA).mono ?_
  rintro e w2 ⟨rfl, hb2⟩
  have hT2 := hTA.below hb2 hTA.lt
  have hF2 := hFB.below hb2 hFB.lt
  have hR2 := hRA.below hb2 hRA.lt
  have hRr2 := hRrA.below hb2
  have hFl2 := hFA.below hb2
  have hbw2 := hbwA.trans (hb2.mono hbwA.size)
  have hgz := @getC_zero cs row col t
  generalize hG : getC cs row col t = G at *
  obtain ⟨val, is, x, y⟩ := G
  have HGZ : Hid (x = 0 → y = 0) := hide (fun h => by have := (hgz h).1; simp at this; exact this.2)
  clear hG hgz
  simp only at HFF ⊢
  unfold fltC
  have f0 := hF2.cell 0
  have f1 := hF2.cell 1
  have f2 := hF2.frozen 0
  have f3 := hF2.frozen 1
  have hl2 := hF2.lt
  simp at f0 f1
  have hT3 : Bk ((w2.setCell ⟨zF, 0, none⟩ (.int .i64 x)).setCell ⟨zF, 1, none⟩ (.int .i64 y)) zT 91 #[.slice o1 n1 c1, .slice o2 n2 c2, .slice o3 n3 c3] := (hT2.setO9 (by exact hTF) _).setO9 (by exact hTF) _
  have hR3 : Bk ((w2.setCell ⟨zF, 0, none⟩ (.int .i64 x)).setCell ⟨zF, 1, none⟩ (.int .i64 y)) w.heap.size 26 #[.int .i64 0, .int .i64 0] := (hR2.setO9 (by exact hRF) _).setO9 (by exact hRF) _
  have hF3 : Bk ((w2.setCell ⟨zF, 0, none⟩ (.int .i64 x)).setCell ⟨zF, 1, none⟩ (.int .i64 y)) zF 26 #[.int .i64 x, .int .i64 y] := (hF2.set 0 _).set 1 _
  have nF := hFl2.notIn hF2 (fun u hu h => by simp only [bc, List.mem_map] at hu; obtain ⟨s, _, rfl⟩ := hu; simp at h)
  have nR := hRr2.notIn hF2 (fun u hu h => by simp only [sc, List.mem_map] at hu; obtain ⟨s, _, rfl⟩ := hu; simp at h)
  have hg3 := grownT_trans (grownT_set w2 zF 0 (.int .i64 x)) (grownT_set _ zF 1 (.int .i64 y))
  have hFl3 := hFl2.grownT hg3 nF
  have hRr3 := hRr2.grownT hg3 nR
  have hbw3 : Below w.heap.size w ((w2.setCell ⟨zF, 0, none⟩ (.int .i64 x)).setCell ⟨zF, 1, none⟩ (.int .i64 y)) := (hbw2.setCell (by exact hwF) _).setCell (by exact hwF) _
  clear hTA hFB hRA hCA hRrA hFA hbwA hT2 hR2 hRr2 hFl2 hg3 nF nR hb2
  go_upto_region 5 with fail
  generalize (w2.setCell ⟨zF, 0, none⟩ (.int .i64 x)).setCell ⟨zF, 1, none⟩ (.int .i64 y) = w3 at *
  clear f0 f1 f2 f3 hF2 hl2
  have f0 := hF3.cell 0
  have f1 := hF3.cell 1
  have t1 := hT3.cell 1
  have t2 := hT3.cell 2
  have r0 := hR3.cell 0
  have r1 := hR3.cell 1
  have r2 := hR3.frozen 0
  have r3 := hR3.frozen 1
  have hlt := hR3.lt
  simp at f0 f1 t1 t2 r0 r1
  by_cases hx : x = 0
  · have hy := HGZ.out hx
    subst hx hy
    rw [if_neg (by simp)] at HFF
    go_wp2_with fail
    refine (has_any _ bits row _ hFl3 hn1 hn2 hrow).mono ?_
    rintro e w4 ⟨rfl, hb4⟩
    have hF4 := hF3.below hb4 hF3.lt
    have hT4 := hT3.below hb4 hT3.lt
    have hR4 := hR3.below hb4 hR3.lt
    have hRr4 := hRr3.below hb4
    have hbw4 := hbw3.trans (hb4.mono hbw3.size)
    clear f0 f1 t1 t2 r0 r1 r2 r3 hlt
    have f0 := hF4.cell 0
    have f1 := hF4.cell 1
    have t1 := hT4.cell 1
    have r0 := hR4.cell 0
    have r1 := hR4.cell 1
    have r2 := hR4.frozen 0
    have r3 := hR4.frozen 1
    have hlt := hR4.lt
    simp at f0 f1 t1 r0 r1
    cases hh : hasB bits row.data.toList
    · rw [if_pos hh] at HFF
      go_wp2_with fail
      go_region
      all_goals
        go_wp2_with fail
        exact bodyPost_ret (v := .tuple #[.string ⟨#[]⟩, .bool false, .int .i64 0, fltC (0, 0)]) (by simp [results, Try.results21, go_sem, fltC, r0, r1]) rfl ⟨by rw [HFF.out], by go_grown⟩
    · rw [if_neg (by rw [hh]; decide)] at HFF
      go_wp2_with fail
      refine (blocksToRead_n _ rows row _ hRr4).mono ?_
      rintro e w5 ⟨rfl, rfl⟩
      go_wp2_with fail
      exact bodyPost_ret (v := .tuple #[.string val, .bool is, .int .i64 (toReadN rows row.toList), fltC (0, 0)]) (by simp [results, Try.results21, go_sem, fltC, r0, r1]) rfl ⟨by rw [HFF.out], by go_grown⟩
  · have hxb : (x == 0) = false := beq_eq_false_iff_ne.2 hx
    have HX := hide hx
    rw [if_pos hx] at HFF
    clear hx
    go_wp2_with fail
    go_region
    all_goals
      go_wp2_with fail
      exact bodyPost_ret (v := .tuple #[.string ⟨#[]⟩, .bool false, .int .i64 0, fltC (x, y)]) (by simp [results, Try.results21, go_sem, fltC, r0, r1]) rfl ⟨by rw [HFF.out], by go_grown⟩

end Go.Proofs.Ytlebbkbbmgmmjac

/-
  The walks over the document's rows of cells and bits of rows.
-/
namespace Go.Proofs.Ytlebbkbbmgmmjac
open Go.RowKit

set_option maxRecDepth 100000 in
set_option maxHeartbeats 1000000 in
theorem RowsOf_any (v : Value) (cs : List Cl) (w : World) (hv : RdC w v cs) (hl : cs.length ≤ 100000) :
    Calls Try.prog 81 #[v] w fun e w' => ∃ v', e = .returned v' ∧ w'.ownsRow w.heap.size 9 1 v' (rowsU cs).length (sc (rowsU cs)) ∧ Below w.heap.size w w' := by
  obtain ⟨ao, cap, hvv, hc1, hc2⟩ := hv.shape
  subst hvv
  unfold maxLen at hc2
  go_enter Try.func81, Try.ntmps81
  go_wp2_with fail
  go_loopw [3, 4] (fun o i wr => ∃ (k : Nat) (acc : List (List UInt8)), k ≤ cs.length ∧ i = .int .i64 k ∧ acc ++ rowsGo acc.getLast? (cs.drop k) = rowsU cs ∧ acc.length ≤ k ∧ wr.ownsRow w.heap.size 9 1 o acc.length (sc acc) ∧ Below w.heap.size w wr)
    (fun _ i _ => cs.length - (intOf i).toNat)
  case atStart => exact ⟨0, [], by omega, rfl, rfl, by simp, World.ownsRow_nil _ _ _ _, Below.refl _ _⟩
  case round =>
    obtain ⟨k, acc, hk, rfl, hgo, hacc, hown, hbel⟩ := hrel
    have HG := hide hgo
    clear hgo
    have hszr := hbel.size
    obtain ⟨ro, rcap, hrv⟩ := owns_shape hown
    subst hrv
    by_cases hlt : k < cs.length
    · obtain ⟨c, hc⟩ : ∃ c, cs[k]? = some c := ⟨_, List.getElem?_eq_getElem hlt⟩
      have hce : cs[k] = c := (List.getElem?_eq_some_iff.1 hc).2
      have hdr := drop_consC hlt
      rw [hce] at hdr
      rw [hdr] at HG
      obtain ⟨b, off, rfl, hbb, hck⟩ := hv.hereD hc
      obtain ⟨c0, c1, c2, c3, c4⟩ := hck.below hbel
      have hk1 : (0 : Int) ≤ (k : Int) := by omega
      have hk2 : (k : Int) < (cs.length : Int) := by omega
      have hla : (acc ++ [c.row.data.toList]).getLast? = some c.row.data.toList := by simp
      have HLA := hide hla
      clear hla hck hc hce hdr
      by_cases h0 : acc = []
      · subst h0
        have HM := hide (rowsGo_new (p := ([] : List (List UInt8)).getLast?) (c := c) (r := cs.drop (k + 1)) (by simp))
        simp only [List.length_nil] at hown ⊢
        go_wp2_with fail
        go_quiet (fail)
        obtain ⟨e0, e1, e2, e3, e4⟩ : (wr.drewN nq).cell? ⟨b, off + k * 5, none⟩ = some (.string c.row) ∧ True ∧ True ∧ True ∧ True := ⟨c0, trivial, trivial, trivial, trivial⟩
        have hownq : (wr.drewN nq).ownsRow w.heap.size 9 1 (.slice ro 0 rcap) 0 (sc []) := hown
        have hzq : w.heap.size ≤ (wr.drewN nq).heap.size := hszr
        go_wp2_with (at_builtin; go_must (refine wpList_append_one hownq Try.underlying89 Try.infoS9 rfl rfl rfl rfl rfl rfl (by omega) (by decide) hzq ?_); intro v6 w6 ho6 hb6 hg6)
        rw [sc_snocB] at ho6
        go_roundw
        case rel => exact ⟨k + 1, [c.row.data.toList], by omega, by go_num, by rw [← HG.out, HM.out]; rfl, by simp, by simpa using ho6, (below_drewN hbel nq).trans hb6⟩
        case measure => simp [intOf]; omega
      · obtain ⟨j, hj⟩ : ∃ j, acc.length = j + 1 := ⟨acc.length - 1, by have := List.length_pos_iff.2 h0; omega⟩
        obtain ⟨d, hd⟩ : ∃ d, acc[j]? = some d := ⟨_, List.getElem?_eq_getElem (by omega)⟩
        have hgl : acc.getLast? = some d := by rw [List.getLast?_eq_getElem?, hj]; exact hd
        obtain ⟨rb, roff, rc', hrv, _, _, hrb, hrc⟩ := (Rd.ofOwns hown).pos (by rw [sc_length]; omega)
        rw [sc_length] at hrv
        simp only [Value.slice.injEq, true_and] at hrv
        obtain ⟨rfl, rfl⟩ := hrv
        have hd0 : wr.cell? ⟨rb, roff + j, none⟩ = some (.string ⟨d.toArray⟩) := hrc j _ (by simp [sc, hd])
        have hnb : ((acc.length : Int) == 0) = false := beq_eq_false_iff_ne.2 (by omega)
        have hw : IntKind.i64.wrap ((acc.length : Int) - 1) = (j : Int) := by rw [IntKind.wrap_i64]; omega
        have hj1 : (0 : Int) ≤ (j : Int) := by omega
        have hj2 : (j : Int) < (acc.length : Int) := by omega
        have HJ := hide hj
        clear hrc hj hd h0
        by_cases hq : d = c.row.data.toList
        · have hqb : (d == c.row.toList) = true := by rw [ba_list, hq]; simp
          have HM := hide (rowsGo_same (p := acc.getLast?) (c := c) (r := cs.drop (k + 1)) (by rw [hgl, hq]))
          clear hgl hq
          go_wp2_with fail
          go_quiet (fail)
          go_wp2_with fail
          go_roundw
          case rel => exact ⟨k + 1, acc, by omega, by go_num, by rw [← HG.out, HM.out], by omega, hown, below_drewN hbel nq⟩
          case measure => simp [intOf]; omega
        · have hqb : (d == c.row.toList) = false := by rw [ba_list]; exact beq_eq_false_iff_ne.2 hq
          have HM := hide (rowsGo_new (p := acc.getLast?) (c := c) (r := cs.drop (k + 1)) (by rw [hgl]; simpa using hq))
          clear hgl hq
          go_wp2_with fail
          go_quiet (fail)
          obtain ⟨e0, e1⟩ : (wr.drewN nq).cell? ⟨b, off + k * 5, none⟩ = some (.string c.row) ∧ True := ⟨c0, trivial⟩
          have hownq : (wr.drewN nq).ownsRow w.heap.size 9 1 (.slice (some ⟨rb, roff, none⟩) acc.length rcap) acc.length (sc acc) := hown
          have hzq : w.heap.size ≤ (wr.drewN nq).heap.size := hszr
          go_wp2_with (at_builtin; go_must (refine wpList_append_one hownq Try.underlying89 Try.infoS9 rfl rfl rfl rfl rfl rfl (by omega) (by decide) hzq ?_); intro v6 w6 ho6 hb6 hg6)
          rw [sc_snocB] at ho6
          go_roundw
          case rel => exact ⟨k + 1, acc ++ [c.row.data.toList], by omega, by go_num, by rw [← HG.out, HM.out, HLA.out]; simp, by simp; omega, by simpa using ho6, (below_drewN hbel nq).trans hb6⟩
          case measure => simp [intOf]; omega
    · rw [List.drop_eq_nil_of_le (by omega)] at HG
      have hru : acc = rowsU cs := by have := HG.out; simpa [rowsGo] using this
      go_wp2_with fail
      go_ret
      exact ⟨_, rfl, by rw [← hru]; exact hown, hbel⟩

end Go.Proofs.Ytlebbkbbmgmmjac

/-
  The walks over the document's bits of rows.
-/
namespace Go.Proofs.Ytlebbkbbmgmmjac
open Go.RowKit

set_option maxRecDepth 100000 in
set_option maxHeartbeats 1000000 in
theorem Bits_any (row : ByteArray) (m : Nat) (w : World) (hm : 0 < m) (hm2 : m ≤ 1000000) (hl : row.size ≤ 9223372036854775807) :
    Calls Try.prog 61 #[.string row, .int .i64 (8 * (m : Int))] w fun e w' => ∃ v', e = .returned v' ∧ Rd w' v' (ic [(plc row.data.toList m 0 : Int), (plc row.data.toList m 1 : Int), (plc row.data.toList m 2 : Int)]) ∧ Below w.heap.size w w' ∧ New w.heap.size v' := by
  obtain ⟨vo, vc, W, hcv, hW, hbW, hzW⟩ := conv_rd (P := Try.prog) Try.underlying9 Try.underlying24 Try.underlying5 row w hl
  have p0 := plc_int row.data.toList m 0
  have p1 := plc_int row.data.toList m 1
  have p2 := plc_int row.data.toList m 2
  clear hzW
  go_enter Try.func61, Try.ntmps61
  go_wp2_with fail
  refine (RefRest_any _ row.data.toList _ hW).mono ?_
  rintro e w1 ⟨rfl, rfl⟩
  have hcl := crc_lt row.data.toList
  generalize hRw : row.data.toList = R at *
  have HRW := hide hRw
  clear hRw hcv
  have HP0 := hide p0
  have HP1 := hide p1
  have HP2 := hide p2
  clear p0 p1 p2
  have l0 := plc_lt R 0 hm
  have l1 := plc_lt R 1 hm
  have l2 := plc_lt R 2 hm
  generalize hq0 : plc R m 0 = q0 at *
  generalize hq1 : plc R m 1 = q1 at *
  generalize hq2 : plc R m 2 = q2 at *
  have HQ0 := hide hq0
  have HQ1 := hide hq1
  have HQ2 := hide hq2
  clear hq0 hq1 hq2
  have W0 : Hid (wrap64 (q0 : Int) = (q0 : Int)) := hide (by unfold wrap64; omega)
  have W1 : Hid (wrap64 (q1 : Int) = (q1 : Int)) := hide (by unfold wrap64; omega)
  have W2 : Hid (wrap64 (q2 : Int) = (q2 : Int)) := hide (by unfold wrap64; omega)
  generalize crc R = S at *
  have E0 : Hid ((S : Int) % 65536 % (8 * (m : Int)) = (q0 : Int)) := hide (by have := HP0.out; simpa using this)
  have E1 : Hid (((S : Int) % 65536 + (S : Int) / 65536) % (8 * (m : Int)) = (q1 : Int)) := hide (by have := HP1.out; simpa using this)
  have E2 : Hid (((S : Int) % 65536 + 2 * ((S : Int) / 65536)) % (8 * (m : Int)) = (q2 : Int)) := hide (by have := HP2.out; simpa using this)
  clear HP0 HP1 HP2
  have hS1 : (0 : Int) ≤ (S : Int) % 65536 ∧ (S : Int) % 65536 < 65536 := by omega
  have hS2 : (0 : Int) ≤ (S : Int) / 65536 ∧ (S : Int) / 65536 < 65536 := by omega
  have hm8 : (0 : Int) < 8 * (m : Int) := by omega
  go_wp2_with fail
  go_region
  all_goals
    go_wp2_with fail
    go_ret
    refine ⟨.slice (some ⟨w1.heap.size, 0, none⟩) 3 3, rfl, ?_, (hbW.alloc hbW.size _).drew, fun a l c h => by simp only [Value.slice.injEq, Option.some.injEq] at h; rw [← h.1]; exact hbW.size⟩
    rw [E0.out, E1.out, E2.out, W0.out, W1.out, W2.out, HRW.out, HQ0.out, HQ1.out, HQ2.out]
    exact Rd.lits w1 #[.int .i64 (q0 : Int), .int .i64 (q1 : Int), .int .i64 (q2 : Int)] 3 (by simp)

end Go.Proofs.Ytlebbkbbmgmmjac
