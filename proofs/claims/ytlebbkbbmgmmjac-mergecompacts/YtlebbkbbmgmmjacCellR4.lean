/-
  The walks over the document's answers of cells: scans.
-/
import Derived.Test.YtlebbkbbmgmmjacCellR3
import Derived.Test.YtlebbkbbmgmmjacScansMath
namespace Go.Proofs.Ytlebbkbbmgmmjac
open Go.RowKit

/-- What is wrong with an ask. -/
def askF (t m : Int) : Int × Int := if isNumB t = false then (3, -1) else if m < 0 ∨ 1000 < m then (3, -2) else (0, 0)

set_option maxRecDepth 100000 in
set_option maxHeartbeats 1000000 in
theorem AskFault_any (a b : ByteArray) (t m : Int) (w : World) :
    Calls Try.prog 39 #[aA a b t m] w fun e w' => e = .returned (fltC (askF t m)) ∧ Below w.heap.size w w' := by
  unfold aA
  have hall : t < 0 ∨ (¬ t < 0 ∧ 1000000000 < t) ∨ (¬ t < 0 ∧ t ≤ 1000000000 ∧ m < 0) ∨ (¬ t < 0 ∧ t ≤ 1000000000 ∧ ¬ m < 0 ∧ 1000 < m) ∨ (¬ t < 0 ∧ t ≤ 1000000000 ∧ ¬ m < 0 ∧ m ≤ 1000) := by omega
  have hR0 := Bk.new2 w (.cells #[.string a, .string b, .int .i64 t, .int .i64 m] 66) 26 #[.int .i64 0, .int .i64 0]
  have hbC : Below w.heap.size w ((w.alloc (.cells #[.string a, .string b, .int .i64 t, .int .i64 m] 66)).alloc (.cells #[.int .i64 0, .int .i64 0] 26)) := (below_alloc' _ _).trans ((below_alloc' _ _).mono (by simp))
  have HR0 := hide hR0
  have HBC := hide hbC
  clear hR0 hbC
  rcases hall with h1 | ⟨h1, h2⟩ | ⟨h1, h2, h3⟩ | ⟨h1, h2, h3, h4⟩ | ⟨h1, h2, h3, h4⟩
  iterate 2
    · have HE : Hid (askF t m = (3, -1)) := hide (by unfold askF; rw [if_pos (isNumB_false (by omega))])
      go_enter Try.func39, Try.ntmps39
      go_wp2_with fail
      refine (FC_any 3 (-1) _).mono ?_
      rintro e w1 ⟨rfl, hb1⟩
      have hR1 := HR0.out.below hb1 (by simp)
      have hbw := HBC.out.trans (hb1.mono (by simp; omega))
      have r0 := hR1.cell 0
      have r1 := hR1.cell 1
      have r2 := hR1.frozen 0
      have r3 := hR1.frozen 1
      have hsr := hR1.lt
      simp at r0 r1
      unfold fltC
      go_wp2_with fail
      exact bodyPost_ret (v := fltC (3, -1)) (by simp [results, Try.results39, go_sem, fltC, r0, r1]) rfl ⟨by rw [HE.out], by go_grown⟩
  iterate 2
    · have HE : Hid (askF t m = (3, -2)) := hide (by unfold askF; rw [if_neg (by rw [isNumB_true (by omega) (by omega)]; decide), if_pos (by omega)])
      go_enter Try.func39, Try.ntmps39
      go_wp2_with fail
      refine (FC_any 3 (-2) _).mono ?_
      rintro e w1 ⟨rfl, hb1⟩
      have hR1 := HR0.out.below hb1 (by simp)
      have hbw := HBC.out.trans (hb1.mono (by simp; omega))
      have r0 := hR1.cell 0
      have r1 := hR1.cell 1
      have r2 := hR1.frozen 0
      have r3 := hR1.frozen 1
      have hsr := hR1.lt
      simp at r0 r1
      unfold fltC
      go_wp2_with fail
      exact bodyPost_ret (v := fltC (3, -2)) (by simp [results, Try.results39, go_sem, fltC, r0, r1]) rfl ⟨by rw [HE.out], by go_grown⟩
  · have HE : Hid (askF t m = (0, 0)) := hide (by unfold askF; rw [if_neg (by rw [isNumB_true (by omega) (by omega)]; decide), if_neg (by omega)])
    go_enter Try.func39, Try.ntmps39
    go_wp2_with fail
    exact bodyPost_ret (v := fltC (0, 0)) (by simp [results, Try.results39, go_sem, fltC]) rfl ⟨by rw [HE.out], by go_grown⟩

/-- Does the document's scan take this cell? -/
def takeB (cs : List Cl) (a b : ByteArray) (t : Int) (c : Cl) : Bool := askB a b c.row && ((seenR cs (rc c) t).2 && eqC (seenR cs (rc c) t).1 c)
/-- What the document scans. -/
def scannedR (cs : List Cl) (a b : ByteArray) (t m : Int) : List Cl := (cs.filter (takeB cs a b t)).take m.toNat

theorem filter_snoc {p : Cl → Bool} {cs : List Cl} {k : Nat} {c : Cl} (hc : cs[k]? = some c) : (cs.take (k + 1)).filter p = (cs.take k).filter p ++ if p c then [c] else [] := by
  rw [List.take_add_one, hc, List.filter_append]
  simp [List.filter_cons]

theorem scanned_end {cs : List Cl} {p : Cl → Bool} {k : Nat} {m : Int} (h : k = cs.length ∨ m ≤ ((cs.take k).filter p).length) (h2 : (((cs.take k).filter p).length : Int) ≤ m) : (cs.filter p).take m.toNat = (cs.take k).filter p := by
  have e : cs.filter p = (cs.take k).filter p ++ (cs.drop k).filter p := by rw [← List.filter_append, List.take_append_drop]
  rcases h with h | h
  · subst h
    rw [List.take_length] at h2 ⊢
    rw [List.take_of_length_le (by omega)]
  · rw [e, List.take_append, List.take_of_length_le (by omega), show m.toNat - ((cs.take k).filter p).length = 0 by omega, List.take_zero, List.append_nil]

theorem eqC_cases (d c : Cl) : eqC d c = true ∧ d = c ∨ eqC d c = false ∧ ((d.row.toList == c.row.toList) = false ∨ (d.row.toList == c.row.toList) = true ∧ (d.col.toList == c.col.toList) = false ∨ (d.row.toList == c.row.toList) = true ∧ (d.col.toList == c.col.toList) = true ∧ (d.time == c.time) = false ∨ (d.row.toList == c.row.toList) = true ∧ (d.col.toList == c.col.toList) = true ∧ (d.time == c.time) = true ∧ (d.gone == c.gone) = false ∨ (d.row.toList == c.row.toList) = true ∧ (d.col.toList == c.col.toList) = true ∧ (d.time == c.time) = true ∧ (d.gone == c.gone) = true ∧ (d.val.toList == c.val.toList) = false) := by
  cases h : eqC d c
  · right
    refine ⟨rfl, ?_⟩
    unfold eqC at h
    revert h
    cases (d.row.toList == c.row.toList) <;> cases (d.col.toList == c.col.toList) <;> cases h3 : (d.time == c.time) <;> cases (d.gone == c.gone) <;> cases (d.val.toList == c.val.toList) <;> simp_all
  · exact .inl ⟨rfl, eqC_iff.1 h⟩

set_option maxRecDepth 100000 in
set_option maxHeartbeats 2000000 in
theorem Scanned_any (v : Value) (cs : List Cl) (a b : ByteArray) (t m : Int) (w : World) (hv : RdC w v cs) (hp : cs.Pairwise Lt) (hm0 : 0 ≤ m) (hl : cs.length ≤ 1000) :
    Calls Try.prog 41 #[v, aA a b t m] w fun e w' => ∃ v', e = .returned v' ∧ RdC w' v' (scannedR cs a b t m) ∧ Below w.heap.size w w' := by
  obtain ⟨ao, cap, hvv, hc1, hc2⟩ := hv.shape
  subst hvv
  unfold maxLen at hc2
  unfold aA
  have HP := hide hp
  clear hp
  go_enter Try.func41, Try.ntmps41
  go_wp2_with fail
  have hA0 := Bk.new w 66 #[.string a, .string b, .int .i64 t, .int .i64 m]
  have hbC := below_alloc' w (.cells #[.string a, .string b, .int .i64 t, .int .i64 m] 66)
  generalize w.alloc (.cells #[.string a, .string b, .int .i64 t, .int .i64 m] 66) = wA at *
  have hvA := hv.below hbC
  have hsA := hA0.lt
  clear hv
  go_loopw [5, 6] (fun o i wr => ∃ (k : Nat) (acc : List Cl), k ≤ cs.length ∧ i = .int .i64 k ∧ acc = (cs.take k).filter (takeB cs a b t) ∧ acc.length ≤ k ∧ (acc.length : Int) ≤ m ∧ wr.ownsRow wA.heap.size 53 5 o acc.length (cc acc) ∧ Below wA.heap.size wA wr)
    (fun _ i _ => cs.length - (intOf i).toNat)
  case atStart => exact ⟨0, [], by omega, rfl, by simp, by simp, by simp; omega, World.ownsRow_nil _ _ _ _, Below.refl _ _⟩
  case round =>
    obtain ⟨k, acc, hk, rfl, hacc, hak, ham, hown, hbel⟩ := hrel
    have HACC := hide hacc
    clear hacc
    have hzr := hbel.size
    obtain ⟨ao2, cap2, hv2⟩ := ownsC_shape hown
    subst hv2
    have hbw : Below w.heap.size w wr := hbC.trans (hbel.mono (by omega))
    obtain ⟨a0, a1, a2, a3⟩ : wr.cell? ⟨w.heap.size, 0, none⟩ = some (.string a) ∧ wr.cell? ⟨w.heap.size, 1, none⟩ = some (.string b) ∧ wr.cell? ⟨w.heap.size, 2, none⟩ = some (.int .i64 t) ∧ wr.cell? ⟨w.heap.size, 3, none⟩ = some (.int .i64 m) := ⟨(hA0.below hbel hsA).cell 0, (hA0.below hbel hsA).cell 1, (hA0.below hbel hsA).cell 2, (hA0.below hbel hsA).cell 3⟩
    by_cases hlt : k < cs.length ∧ (acc.length : Int) < m
    · obtain ⟨hlt1, hlt2⟩ := hlt
      obtain ⟨c, hc⟩ : ∃ c, cs[k]? = some c := ⟨_, List.getElem?_eq_getElem hlt1⟩
      obtain ⟨bb, off, rfl, hb, hck⟩ := hvA.hereC hc
      obtain ⟨c0, c1, c2, c3, c4⟩ := hck.below hbel
      have hk1 : (0 : Int) ≤ (k : Int) := by omega
      have hk2 : (k : Int) < (cs.length : Int) := by omega
      have hd1 : decide ((k : Int) < (cs.length : Int)) = true := by simp; omega
      have hd2 : decide (k < cs.length) = true := by simp; omega
      have HS := hide (filter_snoc (p := takeB cs a b t) hc)
      clear hc hck
      have hsw : w.heap.size < wr.heap.size := by omega
      have hC1 : Bk (wr.alloc (.cells #[.string c.row, .string c.col, .int .i64 c.time, .bool c.gone, .string c.val] 53)) wr.heap.size 53 (ca c) := Bk.new _ _ _
      have hbe1 : Below wA.heap.size wA (wr.alloc (.cells #[.string c.row, .string c.col, .int .i64 c.time, .bool c.gone, .string c.val] 53)) := hbel.alloc hzr _
      have how1 := hown.alloc (.cells #[.string c.row, .string c.col, .int .i64 c.time, .bool c.gone, .string c.val] 53)
      have hA1 := hA0.below hbe1 hsA
      have HC1 := hide hC1
      have HBE1 := hide hbe1
      have HOW1 := hide how1
      have HA1 := hide hA1
      clear hC1 hbe1 how1 hA1 hown hbel hbw
      have hask4 := ask_cases a b c.row
      rcases hask4 with ⟨h0, h1⟩ | ⟨h0, h1, h2⟩ | ⟨h0, h1, h2, h3⟩ | ⟨h0, h1, h2, h3⟩
      case inl | inr.inr.inr =>
        have HT : Hid (takeB cs a b t c = false) := hide (by unfold takeB; rw [h0]; rfl)
        clear h0
        go_wp2_with fail
        go_roundw
        case rel => exact ⟨k + 1, acc, by omega, by go_num, by rw [HS.out, HT.out, ← HACC.out]; simp, by omega, ham, HOW1.out, HBE1.out⟩
        case measure => simp [intOf]; omega
      all_goals
        have HT : Hid (takeB cs a b t c = ((seenR cs (c.row.toList, c.col.toList) t).2 && eqC (seenR cs (c.row.toList, c.col.toList) t).1 c)) := hide (by unfold takeB; rw [h0]; rfl)
        clear h0
        go_wp2_with fail
        refine (SeenCell_any _ cs c.row c.col t _ (hvA.below HBE1.out) HP.out).mono ?_
        rintro e w2 ⟨rfl, hb2⟩
        have HQ : ∃ d ok, seenR cs (c.row.toList, c.col.toList) t = (d, ok) := ⟨_, _, rfl⟩
        obtain ⟨d, ok, hq⟩ := HQ
        rw [hq] at HT ⊢
        clear hq
        simp only at HT ⊢
        have how2 := owns_below HOW1.out hb2
        have hbe2 : Below wA.heap.size wA w2 := HBE1.out.trans (hb2.mono (by simp; omega))
        have hz2 := hb2.size
        have hlt8 : wr.heap.size < w2.heap.size := by simp at hz2; omega
        have hlt9 : w.heap.size < w2.heap.size := by omega
        have hA2 := HA1.out.below hb2 (by simp; omega)
        obtain ⟨q0, q1, q2, q3, q4⟩ := (HC1.out.below hb2 (by simp)).facts
        clear a0 a1 a2 a3 c0 c1 c2 c3 c4 hb2 hz2
        have a3 := hA2.cell 3
        simp at a3
        have how3 := how2.alloc (.cells #[.string d.row, .string d.col, .int .i64 d.time, .bool d.gone, .string d.val] 53)
        have hbe3 : Below wA.heap.size wA (w2.alloc (.cells #[.string d.row, .string d.col, .int .i64 d.time, .bool d.gone, .string d.val] 53)) := hbe2.alloc (by omega) _
        have hb8 : wA.heap.size ≤ (w2.alloc (.cells #[.string d.row, .string d.col, .int .i64 d.time, .bool d.gone, .string d.val] 53)).heap.size := by simp; omega
        have HOW3 := hide how3
        have HBE3 := hide hbe3
        have HB8 := hide hb8
        clear how3 hbe3 hb8 how2 hbe2
        unfold cA
        cases ok
        · go_wp2_with fail
          go_roundw
          case rel => exact ⟨k + 1, acc, by omega, by go_num, by rw [HS.out, HT.out, ← HACC.out]; simp, by omega, ham, HOW3.out, HBE3.out⟩
          case measure => simp [intOf]; omega
        · rcases eqC_cases d c with ⟨h4, rfl⟩ | ⟨h4, h5⟩
          · have HT2 : Hid (takeB cs a b t d = true) := hide (by rw [HT.out, h4]; rfl)
            have hl8 : acc.length ≤ 100000000 := by omega
            clear h4
            go_wp2_with (at_builtin; go_must (refine wpList_append_oneC (c := d) HOW3.out Try.underlying22 Try.info53 rfl rfl rfl rfl (by rw [World.size_alloc]; rfl) hl8 (by decide) HB8.out ?_); intro v4 w4 ho4 hb4 hg4)
            go_roundw
            case rel => exact ⟨k + 1, acc ++ [d], by omega, by go_num, by rw [HS.out, HT2.out, ← HACC.out]; rfl, by simp; omega, by simp; omega, by simpa using ho4, HBE3.out.trans hb4⟩
            case measure => simp [intOf]; omega
          · have HT2 : Hid (takeB cs a b t c = false) := hide (by rw [HT.out, h4]; rfl)
            clear h4
            rcases h5 with h5 | ⟨h5, h6⟩ | ⟨h5, h6, h7⟩ | ⟨h5, h6, h7, h8⟩ | ⟨h5, h6, h7, h8, h9⟩
            all_goals
              go_wp2_with fail
              go_roundw
              case rel => exact ⟨k + 1, acc, by omega, by go_num, by rw [HS.out, HT2.out, ← HACC.out]; simp, by omega, ham, HOW3.out, HBE3.out⟩
              case measure => simp [intOf]; omega
    · have HE : Hid (scannedR cs a b t m = acc) := hide (by rw [HACC.out]; exact scanned_end (by rw [← HACC.out]; omega) (by rw [← HACC.out]; exact ham))
      have h3 : (¬ k < cs.length) ∨ (k < cs.length ∧ ¬ (acc.length : Int) < m) := by omega
      rcases h3 with h3 | ⟨h3, h4⟩
      · have hd1 : decide ((k : Int) < (cs.length : Int)) = false := by simp; omega
        go_wp2_with fail
        go_ret
        exact ⟨_, rfl, by rw [HE.out]; exact RdC.ofOwns hown, hbw⟩
      · have hd1 : decide ((k : Int) < (cs.length : Int)) = true := by simp; omega
        go_wp2_with fail
        go_ret
        exact ⟨_, rfl, by rw [HE.out]; exact RdC.ofOwns hown, hbw⟩

end Go.Proofs.Ytlebbkbbmgmmjac
