/-
  Texts joined: LoW2.
-/
import Derived.Test.YtoeobhehjnkkkaaMLocateDoesLoW1
/-
  The walks over package locate's having and Look.
-/
namespace Go.Proofs.Ytoeobhehjnkkkaa
open Go.RowKit Go.Maps
set_option linter.unusedVariables false

/-- Which of what is known has a row. -/
def havK (l : List Kn) (row : ByteArray) : Option Nat := idxP (fun k => inB row k.p.fr k.p.to_) l 0

set_option maxRecDepth 100000 in
set_option maxHeartbeats 1000000 in
theorem having1_any (k : Kn) (C : Nat) (row : ByteArray) (w : World) (hC : Blk w C 9 #[.string row]) :
    Calls Try.prog 80 #[knE.ag k, .pointer (some ⟨C, 0, none⟩)] w fun e w' => e = .returned (.bool (inB row k.p.fr k.p.to_)) ∧ Below w.heap.size w w' := by
  rw [show knE.ag k = .agg #[.string k.p.fr, .string k.p.to_, .int .i64 k.p.id, .int .i64 k.ho, .int .i64 k.tu] from rfl]
  have c0 := hC.cell 0
  have cl := hC.lt
  simp at c0
  clear hC
  go_enter Try.func80, Try.ntmps80
  go_wp2_with (go_at_call 81; refine (vIsBetween_any row k.p.fr k.p.to_ _).mono ?_; rintro e w1 ⟨rfl, hw⟩; rw [hw]; clear hw)
  go_ret
  exact ⟨rfl, by go_grown⟩

set_option maxRecDepth 100000 in
set_option maxHeartbeats 1000000 in
theorem IndexKn_any (C : Nat) (row : ByteArray) (v : Value) (l : List Kn) (w : World) (hv : RdG knE w v l) (hC : Blk w C 9 #[.string row]) :
    Calls Try.prog 79 #[v, .func (.func 80) #[] #[.pointer (some ⟨C, 0, none⟩)]] w fun e w' => e = .returned (.int .i64 (posI (havK l row))) ∧ Below w.heap.size w w' := by
  have HV := hide hv
  obtain ⟨ao, cap, rfl, hc1, hc2⟩ := hv.shape
  unfold maxLen at hc2
  have HC := hide hC
  clear hv hC
  go_enter Try.func79, Try.ntmps79
  go_wp2_with fail
  go_loopw [8] (fun iv wr => ∃ (j : Nat), j ≤ l.length ∧ iv = .int .i64 j ∧ idxP (fun k => inB row k.p.fr k.p.to_) (l.drop j) j = havK l row ∧ Below w.heap.size w wr)
    (fun iv _ => l.length - (intOf iv).toNat)
  case atStart => exact ⟨0, by omega, rfl, rfl, Below.refl _ _⟩
  case round =>
    obtain ⟨j, hj, rfl, hgo, hbr⟩ := hrel
    have HG := hide hgo
    have HB := hide hbr
    clear hgo
    by_cases hlt : j < l.length
    · obtain ⟨x, hx⟩ : ∃ x, l[j]? = some x := ⟨_, List.getElem?_eq_getElem hlt⟩
      obtain ⟨b, off, rfl, hb, hat⟩ := HV.out.here hx
      have hbw : b < wr.heap.size := Nat.lt_of_lt_of_le hb hbr.size
      obtain ⟨c0, c1, c2, c3, c4⟩ := (hat.below hbr).known
      have HN := hide (having1_any x C row wr (HC.out.later hbr))
      rw [show knE.ag x = .agg #[.string x.p.fr, .string x.p.to_, .int .i64 x.p.id, .int .i64 x.ho, .int .i64 x.tu] from rfl] at HN
      rw [drop_consI hx] at HG
      have hk1 : (0 : Int) ≤ (j : Int) := by omega
      have hk2 : (j : Int) < (l.length : Int) := by omega
      clear hat hx hbr
      cases hid : inB row x.p.fr x.p.to_
      · have HE := hide ((idxP_no (r := l.drop (j + 1)) (i := j) (f := fun k => inB row k.p.fr k.p.to_) (x := x) hid).symm.trans HG.out)
        rw [hid] at HN
        clear hid
        go_wp2_with (go_at_call 80; refine HN.out.mono ?_; rintro e w1 ⟨rfl, hb1⟩; have HB1 := hide (HB.out.trans (hb1.mono HB.out.size)); clear hb1)
        go_roundw
        case rel => exact ⟨j + 1, by omega, by go_num, HE.out, HB1.out⟩
        case measure => simp [intOf]; omega
      · have HE := hide (HG.out.symm.trans (idxP_yes (by exact hid)))
        rw [hid] at HN
        clear hid
        go_wp2_with (go_at_call 80; refine HN.out.mono ?_; rintro e w1 ⟨rfl, hb1⟩; have HB1 := hide (HB.out.trans (hb1.mono HB.out.size)); clear hb1)
        go_ret
        exact ⟨by rw [HE.out]; rfl, HB1.out⟩
    · have hje : j = l.length := by omega
      subst hje
      rw [List.drop_length] at HG
      have HE := hide HG.out.symm
      clear hbr
      go_wp2_with fail
      go_ret
      exact ⟨by rw [HE.out]; rfl, HB.out⟩

set_option maxRecDepth 100000 in
set_option maxHeartbeats 1000000 in
theorem having_any (v : Value) (l : List Kn) (row : ByteArray) (w : World) (hv : RdG knE w v l) :
    Calls Try.prog 48 #[v, .string row] w fun e w' => e = .returned (.int .i64 (posI (havK l row))) ∧ Below w.heap.size w w' := by
  have hA := below_allocG w (.cells #[.string row] 9)
  have HI := hide (IndexKn_any w.heap.size row v l _ (hv.below hA) (Blk.new w 9 #[.string row]))
  have HA := hide hA
  obtain ⟨ao, cap, rfl, hc1, hc2⟩ := hv.shape
  generalize hW : w.alloc (.cells #[.string row] 9) = W at HI HA
  clear hv hA
  go_enter Try.func48, Try.ntmps48
  go_upto_region 1 with fail
  clear hW
  go_wp2_with (go_at_call 79; refine HI.out.mono ?_; rintro e w1 ⟨rfl, hb1⟩; have HB1 := hide (HA.out.trans (hb1.mono HA.out.size)); clear hb1)
  go_ret
  exact ⟨rfl, HB1.out⟩

/-- What Look tells of what is fine. -/
def lookN (l : List Kn) (row : ByteArray) : Int := match havK l row with | none => 0 | some i => (i : Int)

end Go.Proofs.Ytoeobhehjnkkkaa
