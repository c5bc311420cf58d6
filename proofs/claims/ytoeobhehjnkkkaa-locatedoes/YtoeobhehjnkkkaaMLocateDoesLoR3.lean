/-
  Texts joined: LoR3.
-/
import Derived.Test.YtoeobhehjnkkkaaMLocateDoesLoR2
import Derived.Test.YtoeobhehjnkkkaaMLocateDoesLoW3
import Derived.Test.YtoeobhehjnkkkaaMLocateDoes4
/-
  The walks over the document's Meets and Learnt. (Written by lor3.py.)
-/
namespace Go.Proofs.Ytoeobhehjnkkkaa
open Go.RowKit Go.Maps
set_option linter.unusedVariables false

set_option maxRecDepth 100000 in
set_option maxHeartbeats 1000000 in
theorem Meets_any (a b : Pt) (w : World) : Calls Try.prog 51 #[.agg #[.string a.fr, .string a.to_, .int .i64 a.id], .agg #[.string b.fr, .string b.to_, .int .i64 b.id]] w fun e w' => e = .returned (.bool (meetB a b)) ∧ Below w.heap.size w w' := by
  have HE := hide (show meetB a b = ((a.to_.toList.isEmpty || Op.bytesLess b.fr.toList a.to_.toList) && (b.to_.toList.isEmpty || Op.bytesLess a.fr.toList b.to_.toList)) from rfl)
  cases h1 : a.to_.toList.isEmpty <;> cases h2 : Op.bytesLess b.fr.toList a.to_.toList <;> cases h3 : b.to_.toList.isEmpty <;> cases h4 : Op.bytesLess a.fr.toList b.to_.toList
  all_goals
    rw [h1, h2, h3, h4] at HE
    go_enter Try.func51, Try.ntmps51
    go_wp2_with fail
    go_ret
    exact ⟨by rw [HE.out]; rfl, by go_grown⟩

/-- What the document leaves ahead, and behind. -/
def stayA (k x : Kn) : Bool := !meetB x.p k.p && bLt x.p.fr.toList k.p.fr.toList
def stayB (k x : Kn) : Bool := !meetB x.p k.p && bLt k.p.fr.toList x.p.fr.toList

theorem filt_succ {α : Type} {l : List α} {j : Nat} {x : α} (f : α → Bool) (hx : l[j]? = some x) : (l.take (j + 1)).filter f = (l.take j).filter f ++ if f x = true then [x] else [] := by
  rw [take_succ_of hx, List.filter_append]
  congr 1
  cases h : f x <;> simp [List.filter, h]

/-- What the document's Learnt tells. -/
def lrnD (l : List Kn) (k : Kn) : List Kn := l.filter (stayA k) ++ k :: l.filter (stayB k)

theorem lrnD_eq {l : List Kn} {k : Kn} (hl : ∀ x ∈ l, codeKn x.p = 0) (hk : codeKn k.p = 0) : lrnD l k = lrn l k := by
  unfold lrnD lrn
  congr 1
  · exact List.filter_congr fun x hx => meet_ahead (hl x hx) hk
  · congr 1
    exact List.filter_congr fun x hx => meet_behind (hl x hx) hk

set_option maxRecDepth 100000 in
set_option maxHeartbeats 8000000 in
theorem LearntR_any (v : Value) (l : List Kn) (k : Kn) (w : World) (hv : RdG knE w v l) (hl : l.length ≤ 1000) :
    Calls Try.prog 28 #[v, .agg #[.string k.p.fr, .string k.p.to_, .int .i64 k.p.id, .int .i64 k.ho, .int .i64 k.tu]] w fun e w' => ∃ v', e = .returned v' ∧ w'.ownsRow w.heap.size 61 5 v' (lrnD l k).length (knE.vs (lrnD l k)) ∧ Below w.heap.size w w' := by
  have HV0 := hide hv
  have HD : Hid (lrnD l k = l.filter (stayA k) ++ k :: l.filter (stayB k)) := hide rfl
  have HC0 := hide (Blk.new w 61 #[.string k.p.fr, .string k.p.to_, .int .i64 k.p.id, .int .i64 k.ho, .int .i64 k.tu])
  have HB0 := hide (below_allocG w (.cells #[.string k.p.fr, .string k.p.to_, .int .i64 k.p.id, .int .i64 k.ho, .int .i64 k.tu] 61))
  have HFA := hide (fun j x (hx : l[j]? = some x) => filt_succ (stayA k) hx)
  have HFB := hide (fun j x (hx : l[j]? = some x) => filt_succ (stayB k) hx)
  have HSA : Hid (∀ x, stayA k x = (!meetB x.p k.p && Op.bytesLess x.p.fr.toList k.p.fr.toList)) := hide (fun x => rfl)
  have HSB : Hid (∀ x, stayB k x = (!meetB x.p k.p && (!Op.bytesLess x.p.fr.toList k.p.fr.toList && !(x.p.fr.toList == k.p.fr.toList)))) := hide (fun x => by rw [gtS]; rfl)
  obtain ⟨ao, cap, rfl, hc1, hc2⟩ := hv.shape
  unfold maxLen at hc2
  clear hv
  have HLA := hide (fun j => Nat.le_trans (List.length_filter_le (stayA k) (l.take j)) (show (l.take j).length ≤ 1000 by rw [List.length_take]; omega))
  have HLB := hide (fun j => Nat.le_trans (List.length_filter_le (stayB k) (l.take j)) (show (l.take j).length ≤ 1000 by rw [List.length_take]; omega))
  generalize stayA k = SA at *
  generalize stayB k = SB at *
  generalize hW : w.alloc (.cells #[.string k.p.fr, .string k.p.to_, .int .i64 k.p.id, .int .i64 k.ho, .int .i64 k.tu] 61) = W0 at HC0 HB0
  have HV := hide (HV0.out.below (show Below w.heap.size w W0 from HB0.out))
  go_enter Try.func28, Try.ntmps28
  go_upto_region 1 with fail
  try rw [hW]
  clear hW
  go_wp2_with fail
  go_loopw [5, 6] (fun ov iv wr => ∃ j : Nat, j ≤ l.length ∧ iv = .int .i64 j ∧ wr.ownsRow W0.heap.size 61 5 ov (((l.take j).filter SA)).length (knE.vs (((l.take j).filter SA))) ∧ Below W0.heap.size W0 wr)
    (fun _ iv _ => l.length - (intOf iv).toNat)
  case atStart => exact ⟨0, by omega, rfl, World.ownsRow_nil _ _ _ _, Below.refl _ _⟩
  case round =>
    obtain ⟨j, hj, rfl, hown, hbr⟩ := hrel
    obtain ⟨oo, ocap, rfl⟩ := owns_shapeA hown
    have HCr := hide (HC0.out.later hbr)
    have HBr := hide hbr
    have HO := hide hown
    clear hown
    by_cases hlt : j < l.length
    · obtain ⟨x, hx⟩ : ∃ x, l[j]? = some x := ⟨_, List.getElem?_eq_getElem hlt⟩
      obtain ⟨b, off, rfl, hb, hat⟩ := HV.out.here hx
      have HAT := hide hat
      have hbw : b < wr.heap.size := Nat.lt_of_lt_of_le hb hbr.size
      have hk1 : (0 : Int) ≤ (j : Int) := by omega
      have hk2 : (j : Int) < (l.length : Int) := by omega
      have HP := hide ((congrArg (fun z => z) (HFA.out j x hx)))
      have HLn := hide (show (((l.take j).filter SA)).length ≤ 3000 by have h1 := HLA.out j; have h2 := HLB.out j; simp at *; omega)
      have HSX := hide (HSA.out x)
      generalize hG2 : ((l.take (j + 1)).filter SA) = G2 at *
      generalize hG1 : ((l.take j).filter SA) = G1 at *
      have HG2 := hide hG2
      have HG1 := hide hG1
      have HKEEP := hide (fun (W : World) (hW : Below wr.heap.size wr W) => show (W.cell? ⟨b, off + j * 5, none⟩ = some (.string x.p.fr) ∧ W.cell? ⟨b, off + j * 5 + 1, none⟩ = some (.string x.p.to_) ∧ W.cell? ⟨b, off + j * 5 + 2, none⟩ = some (.int .i64 x.p.id)) ∧ W.cell? ⟨w.heap.size, 0, none⟩ = some (.string k.p.fr) ∧ W.cell? ⟨w.heap.size, 1, none⟩ = some (.string k.p.to_) ∧ W.cell? ⟨w.heap.size, 2, none⟩ = some (.int .i64 k.p.id) by
        obtain ⟨c0, c1, c2, c3, c4⟩ := (HAT.out.below (HBr.out.trans (hW.mono HBr.out.size))).known
        have hk := HCr.out.later hW
        exact ⟨⟨c0, c1, c2⟩, hk.cell 0, hk.cell 1, hk.cell 2⟩)
      have hkl := HCr.out.lt
      clear hat hx hG1 hG2 hbr
      cases hm : meetB x.p k.p
      · cases h4 : Op.bytesLess x.p.fr.toList k.p.fr.toList
        · skip
          rw [hm, h4] at HSX
          have HV2 := hide (show SA x = false from HSX.out)
          rw [HV2.out] at HP
          go_wp2_with fail
          refine wp_region_heldD (S := fun W => (W.cell? ⟨b, off + j * 5, none⟩ = some (.string x.p.fr) ∧ W.cell? ⟨b, off + j * 5 + 1, none⟩ = some (.string x.p.to_) ∧ W.cell? ⟨b, off + j * 5 + 2, none⟩ = some (.int .i64 x.p.id)) ∧ W.cell? ⟨w.heap.size, 0, none⟩ = some (.string k.p.fr) ∧ W.cell? ⟨w.heap.size, 1, none⟩ = some (.string k.p.to_) ∧ W.cell? ⟨w.heap.size, 2, none⟩ = some (.int .i64 k.p.id)) (n := 21) (l := (upB 21 0).toArray) (by kernel_rfl) (by kernel_rfl) (by kernel_rfl) (by kernel_rfl) (HKEEP.out _ (Below.drew (Below.refl _ _))) (fun HNS hHeld => ?_)
          refine wpAnyH_takeD (l' := (upB 21 1).toArray) (i := 0) (fuel := 20) (v := ?v1x0) rfl HNS.out (by kernel_rfl) (by kernel_rfl) (by kernel_rfl) (fun _ _ _ h => h) (by kernel_rfl) ?y1x0 hHeld ?r1x0
          case y1x0 => (intro W hSw; go_simp; first | done | with_reducible rfl)
          try simp only [Act.put, List.setIfInBounds_toArray, List.set_cons_zero, List.set_cons_succ]
          refine wpAnyH_takeD (l' := (upB 21 2).toArray) (i := 1) (fuel := 19) (v := ?v1x1) rfl HNS.out (by kernel_rfl) (by kernel_rfl) (by kernel_rfl) (fun _ _ _ h => h) (by kernel_rfl) ?y1x1 hHeld ?r1x1
          case y1x1 => (intro W hSw; go_simp; first | done | with_reducible rfl)
          try simp only [Act.put, List.setIfInBounds_toArray, List.set_cons_zero, List.set_cons_succ]
          refine wpAnyH_takeD (l' := (upB 21 3).toArray) (i := 2) (fuel := 18) (v := ?v1x2) rfl HNS.out (by kernel_rfl) (by kernel_rfl) (by kernel_rfl) (fun _ _ _ h => h) (by kernel_rfl) ?y1x2 hHeld ?r1x2
          case y1x2 => (intro W hSw; go_simp; first | done | with_reducible rfl)
          try simp only [Act.put, List.setIfInBounds_toArray, List.set_cons_zero, List.set_cons_succ]
          refine wpAnyH_takeD (l' := (upB 21 4).toArray) (i := 3) (fuel := 17) (v := ?v1x3) rfl HNS.out (by kernel_rfl) (by kernel_rfl) (by kernel_rfl) (fun _ _ _ h => h) (by kernel_rfl) ?y1x3 hHeld ?r1x3
          case y1x3 => (intro W hSw; go_simp; first | done | with_reducible rfl)
          try simp only [Act.put, List.setIfInBounds_toArray, List.set_cons_zero, List.set_cons_succ]
          refine wpAnyH_takeD (l' := (upB 21 5).toArray) (i := 4) (fuel := 16) (v := ?v1x4) rfl HNS.out (by kernel_rfl) (by kernel_rfl) (by kernel_rfl) (fun _ _ _ h => h) (by kernel_rfl) ?y1x4 hHeld ?r1x4
          case y1x4 => (intro W hSw; (try dsimp only at hSw); go_simp; first | done | with_reducible rfl)
          try simp only [Act.put, List.setIfInBounds_toArray, List.set_cons_zero, List.set_cons_succ]
          refine wpAnyH_takeD (l' := (upB 21 6).toArray) (i := 5) (fuel := 15) (v := ?v1x5) rfl HNS.out (by kernel_rfl) (by kernel_rfl) (by kernel_rfl) (fun _ _ _ h => h) (by kernel_rfl) ?y1x5 hHeld ?r1x5
          case y1x5 => (intro W hSw; go_simp; first | done | with_reducible rfl)
          try simp only [Act.put, List.setIfInBounds_toArray, List.set_cons_zero, List.set_cons_succ]
          refine wpAnyH_takeD (l' := (upB 21 7).toArray) (i := 6) (fuel := 14) (v := ?v1x6) rfl HNS.out (by kernel_rfl) (by kernel_rfl) (by kernel_rfl) (fun _ _ _ h => h) (by kernel_rfl) ?y1x6 hHeld ?r1x6
          case y1x6 => (intro W hSw; (try dsimp only at hSw); go_simp; first | done | with_reducible rfl)
          try simp only [Act.put, List.setIfInBounds_toArray, List.set_cons_zero, List.set_cons_succ]
          refine wpAnyH_oneD (l' := (upB 21 8).toArray) (i := 7) (fuel := 13) rfl (by kernel_rfl) (by kernel_rfl) (fun Kc hK => ?_)
          go_simp
          go_at_call 51
          refine (Meets_any x.p k.p _).mono ?_
          rw [hm]
          rintro e w1 ⟨rfl, hb1⟩
          have hbq := (Below.drew (Below.refl wr.heap.size wr)).trans (hb1.mono (Nat.le_refl _))
          have HB1 := hide (HBr.out.trans (hbq.mono HBr.out.size))
          have HO1 := hide (owns_laterA HO.out hbq)
          have hHeld1 := HKEEP.out w1 hbq
          clear hb1
          go_wp2_with fail
          refine hK.out _ _ hHeld1 (fun _ => ?_)
          clear hK Kc
          try simp only [Act.put, List.setIfInBounds_toArray, List.set_cons_zero, List.set_cons_succ]
          refine wpAnyH_takeD (l' := (upB 21 9).toArray) (i := 8) (fuel := 12) (v := ?v1x8) rfl HNS.out (by kernel_rfl) (by kernel_rfl) (by kernel_rfl) (fun _ _ _ h => h) (by kernel_rfl) ?y1x8 hHeld1 ?r1x8
          case y1x8 => (intro W hSw; go_simp; first | done | with_reducible rfl)
          try simp only [Act.put, List.setIfInBounds_toArray, List.set_cons_zero, List.set_cons_succ]
          refine wpAnyH_takeD (l' := (upB 21 10).toArray) (i := 9) (fuel := 11) (v := ?v1x9) rfl HNS.out (by kernel_rfl) (by kernel_rfl) (by kernel_rfl) (fun _ _ _ h => h) (by kernel_rfl) ?y1x9 hHeld1 ?r1x9
          case y1x9 => (intro W hSw; go_simp; first | done | with_reducible rfl)
          try simp only [Act.put, List.setIfInBounds_toArray, List.set_cons_zero, List.set_cons_succ]
          refine wpAnyH_takeD (l' := (upB 21 11).toArray) (i := 10) (fuel := 10) (v := ?v1x10) rfl HNS.out (by kernel_rfl) (by kernel_rfl) (by kernel_rfl) (fun _ _ _ h => h) (by kernel_rfl) ?y1x10 hHeld1 ?r1x10
          case y1x10 => (intro W hSw; go_simp; first | done | with_reducible rfl)
          try simp only [Act.put, List.setIfInBounds_toArray, List.set_cons_zero, List.set_cons_succ]
          refine wpAnyH_takeD (l' := (upB 21 12).toArray) (i := 11) (fuel := 9) (v := ?v1x11) rfl HNS.out (by kernel_rfl) (by kernel_rfl) (by kernel_rfl) (fun _ _ _ h => h) (by kernel_rfl) ?y1x11 hHeld1 ?r1x11
          case y1x11 => (intro W hSw; go_simp; first | done | with_reducible rfl)
          try simp only [Act.put, List.setIfInBounds_toArray, List.set_cons_zero, List.set_cons_succ]
          refine wpAnyH_takeD (l' := (upB 21 13).toArray) (i := 12) (fuel := 8) (v := ?v1x12) rfl HNS.out (by kernel_rfl) (by kernel_rfl) (by kernel_rfl) (fun _ _ _ h => h) (by kernel_rfl) ?y1x12 hHeld1 ?r1x12
          case y1x12 => (intro W hSw; go_simp; first | done | with_reducible rfl)
          try simp only [Act.put, List.setIfInBounds_toArray, List.set_cons_zero, List.set_cons_succ]
          refine wpAnyH_takeD (l' := (upB 21 14).toArray) (i := 13) (fuel := 7) (v := ?v1x13) rfl HNS.out (by kernel_rfl) (by kernel_rfl) (by kernel_rfl) (fun _ _ _ h => h) (by kernel_rfl) ?y1x13 hHeld1 ?r1x13
          case y1x13 => (intro W hSw; go_simp; first | done | with_reducible rfl)
          try simp only [Act.put, List.setIfInBounds_toArray, List.set_cons_zero, List.set_cons_succ]
          refine wpAnyH_takeD (l' := (upB 21 15).toArray) (i := 14) (fuel := 6) (v := ?v1x14) rfl HNS.out (by kernel_rfl) (by kernel_rfl) (by kernel_rfl) (fun _ _ _ h => h) (by kernel_rfl) ?y1x14 hHeld1 ?r1x14
          case y1x14 => (intro W hSw; go_simp; first | done | with_reducible rfl)
          try simp only [Act.put, List.setIfInBounds_toArray, List.set_cons_zero, List.set_cons_succ]
          refine wpAnyH_takeD (l' := (upB 21 16).toArray) (i := 15) (fuel := 5) (v := ?v1x15) rfl HNS.out (by kernel_rfl) (by kernel_rfl) (by kernel_rfl) (fun _ _ _ h => h) (by kernel_rfl) ?y1x15 hHeld1 ?r1x15
          case y1x15 => (intro W hSw; (try dsimp only at hSw); go_simp; first | done | with_reducible rfl)
          try simp only [Act.put, List.setIfInBounds_toArray, List.set_cons_zero, List.set_cons_succ]
          refine wpAnyH_takeD (l' := (upB 21 17).toArray) (i := 16) (fuel := 4) (v := ?v1x16) rfl HNS.out (by kernel_rfl) (by kernel_rfl) (by kernel_rfl) (fun _ _ _ h => h) (by kernel_rfl) ?y1x16 hHeld1 ?r1x16
          case y1x16 => (intro W hSw; go_simp; first | done | with_reducible rfl)
          try simp only [Act.put, List.setIfInBounds_toArray, List.set_cons_zero, List.set_cons_succ]
          refine wpAnyH_takeD (l' := (upB 21 18).toArray) (i := 17) (fuel := 3) (v := ?v1x17) rfl HNS.out (by kernel_rfl) (by kernel_rfl) (by kernel_rfl) (fun _ _ _ h => h) (by kernel_rfl) ?y1x17 hHeld1 ?r1x17
          case y1x17 => (intro W hSw; go_simp; first | done | with_reducible rfl)
          try simp only [Act.put, List.setIfInBounds_toArray, List.set_cons_zero, List.set_cons_succ]
          refine wpAnyH_takeD (l' := (upB 21 19).toArray) (i := 18) (fuel := 2) (v := ?v1x18) rfl HNS.out (by kernel_rfl) (by kernel_rfl) (by kernel_rfl) (fun _ _ _ h => h) (by kernel_rfl) ?y1x18 hHeld1 ?r1x18
          case y1x18 => (intro W hSw; (try dsimp only at hSw); go_simp; first | done | with_reducible rfl)
          try simp only [Act.put, List.setIfInBounds_toArray, List.set_cons_zero, List.set_cons_succ]
          refine wpAnyH_takeD (l' := (upB 21 20).toArray) (i := 19) (fuel := 1) (v := ?v1x19) rfl HNS.out (by kernel_rfl) (by kernel_rfl) (by kernel_rfl) (fun _ _ _ h => h) (by kernel_rfl) ?y1x19 hHeld1 ?r1x19
          case y1x19 => (intro W hSw; go_simp; first | done | with_reducible rfl)
          try simp only [Act.put, List.setIfInBounds_toArray, List.set_cons_zero, List.set_cons_succ]
          refine wpAnyH_takeD (l' := (upB 21 21).toArray) (i := 20) (fuel := 0) (v := ?v1x20) rfl HNS.out (by kernel_rfl) (by kernel_rfl) (by kernel_rfl) (fun _ _ _ h => h) (by kernel_rfl) ?y1x20 hHeld1 ?r1x20
          case y1x20 => (intro W hSw; go_simp; first | done | with_reducible rfl)
          try simp only [Act.put, List.setIfInBounds_toArray, List.set_cons_zero, List.set_cons_succ]
          refine wpAnyH_done (by kernel_rfl) ?_ _
          have HP3 := hide (show G2 = G1 from by rw [HP.out, ← HG1.out]; simp)
          go_wp2_with fail
          go_roundw
          case rel => exact ⟨j + 1, by omega, by go_num, by rw [HG2.out, HP3.out]; exact HO1.out, HB1.out⟩
          case measure => simp [intOf]; omega
        · skip
          rw [hm, h4] at HSX
          have HV2 := hide (show SA x = true from HSX.out)
          rw [HV2.out] at HP
          go_wp2_with fail
          refine wp_region_heldD (S := fun W => (W.cell? ⟨b, off + j * 5, none⟩ = some (.string x.p.fr) ∧ W.cell? ⟨b, off + j * 5 + 1, none⟩ = some (.string x.p.to_) ∧ W.cell? ⟨b, off + j * 5 + 2, none⟩ = some (.int .i64 x.p.id)) ∧ W.cell? ⟨w.heap.size, 0, none⟩ = some (.string k.p.fr) ∧ W.cell? ⟨w.heap.size, 1, none⟩ = some (.string k.p.to_) ∧ W.cell? ⟨w.heap.size, 2, none⟩ = some (.int .i64 k.p.id)) (n := 21) (l := (upB 21 0).toArray) (by kernel_rfl) (by kernel_rfl) (by kernel_rfl) (by kernel_rfl) (HKEEP.out _ (Below.drew (Below.refl _ _))) (fun HNS hHeld => ?_)
          refine wpAnyH_takeD (l' := (upB 21 1).toArray) (i := 0) (fuel := 20) (v := ?v2x0) rfl HNS.out (by kernel_rfl) (by kernel_rfl) (by kernel_rfl) (fun _ _ _ h => h) (by kernel_rfl) ?y2x0 hHeld ?r2x0
          case y2x0 => (intro W hSw; go_simp; first | done | with_reducible rfl)
          try simp only [Act.put, List.setIfInBounds_toArray, List.set_cons_zero, List.set_cons_succ]
          refine wpAnyH_takeD (l' := (upB 21 2).toArray) (i := 1) (fuel := 19) (v := ?v2x1) rfl HNS.out (by kernel_rfl) (by kernel_rfl) (by kernel_rfl) (fun _ _ _ h => h) (by kernel_rfl) ?y2x1 hHeld ?r2x1
          case y2x1 => (intro W hSw; go_simp; first | done | with_reducible rfl)
          try simp only [Act.put, List.setIfInBounds_toArray, List.set_cons_zero, List.set_cons_succ]
          refine wpAnyH_takeD (l' := (upB 21 3).toArray) (i := 2) (fuel := 18) (v := ?v2x2) rfl HNS.out (by kernel_rfl) (by kernel_rfl) (by kernel_rfl) (fun _ _ _ h => h) (by kernel_rfl) ?y2x2 hHeld ?r2x2
          case y2x2 => (intro W hSw; go_simp; first | done | with_reducible rfl)
          try simp only [Act.put, List.setIfInBounds_toArray, List.set_cons_zero, List.set_cons_succ]
          refine wpAnyH_takeD (l' := (upB 21 4).toArray) (i := 3) (fuel := 17) (v := ?v2x3) rfl HNS.out (by kernel_rfl) (by kernel_rfl) (by kernel_rfl) (fun _ _ _ h => h) (by kernel_rfl) ?y2x3 hHeld ?r2x3
          case y2x3 => (intro W hSw; go_simp; first | done | with_reducible rfl)
          try simp only [Act.put, List.setIfInBounds_toArray, List.set_cons_zero, List.set_cons_succ]
          refine wpAnyH_takeD (l' := (upB 21 5).toArray) (i := 4) (fuel := 16) (v := ?v2x4) rfl HNS.out (by kernel_rfl) (by kernel_rfl) (by kernel_rfl) (fun _ _ _ h => h) (by kernel_rfl) ?y2x4 hHeld ?r2x4
          case y2x4 => (intro W hSw; (try dsimp only at hSw); go_simp; first | done | with_reducible rfl)
          try simp only [Act.put, List.setIfInBounds_toArray, List.set_cons_zero, List.set_cons_succ]
          refine wpAnyH_takeD (l' := (upB 21 6).toArray) (i := 5) (fuel := 15) (v := ?v2x5) rfl HNS.out (by kernel_rfl) (by kernel_rfl) (by kernel_rfl) (fun _ _ _ h => h) (by kernel_rfl) ?y2x5 hHeld ?r2x5
          case y2x5 => (intro W hSw; go_simp; first | done | with_reducible rfl)
          try simp only [Act.put, List.setIfInBounds_toArray, List.set_cons_zero, List.set_cons_succ]
          refine wpAnyH_takeD (l' := (upB 21 7).toArray) (i := 6) (fuel := 14) (v := ?v2x6) rfl HNS.out (by kernel_rfl) (by kernel_rfl) (by kernel_rfl) (fun _ _ _ h => h) (by kernel_rfl) ?y2x6 hHeld ?r2x6
          case y2x6 => (intro W hSw; (try dsimp only at hSw); go_simp; first | done | with_reducible rfl)
          try simp only [Act.put, List.setIfInBounds_toArray, List.set_cons_zero, List.set_cons_succ]
          refine wpAnyH_oneD (l' := (upB 21 8).toArray) (i := 7) (fuel := 13) rfl (by kernel_rfl) (by kernel_rfl) (fun Kc hK => ?_)
          go_simp
          go_at_call 51
          refine (Meets_any x.p k.p _).mono ?_
          rw [hm]
          rintro e w1 ⟨rfl, hb1⟩
          have hbq := (Below.drew (Below.refl wr.heap.size wr)).trans (hb1.mono (Nat.le_refl _))
          have HB1 := hide (HBr.out.trans (hbq.mono HBr.out.size))
          have HO1 := hide (owns_laterA HO.out hbq)
          have hHeld1 := HKEEP.out w1 hbq
          clear hb1
          go_wp2_with fail
          refine hK.out _ _ hHeld1 (fun _ => ?_)
          clear hK Kc
          try simp only [Act.put, List.setIfInBounds_toArray, List.set_cons_zero, List.set_cons_succ]
          refine wpAnyH_takeD (l' := (upB 21 9).toArray) (i := 8) (fuel := 12) (v := ?v2x8) rfl HNS.out (by kernel_rfl) (by kernel_rfl) (by kernel_rfl) (fun _ _ _ h => h) (by kernel_rfl) ?y2x8 hHeld1 ?r2x8
          case y2x8 => (intro W hSw; go_simp; first | done | with_reducible rfl)
          try simp only [Act.put, List.setIfInBounds_toArray, List.set_cons_zero, List.set_cons_succ]
          refine wpAnyH_takeD (l' := (upB 21 10).toArray) (i := 9) (fuel := 11) (v := ?v2x9) rfl HNS.out (by kernel_rfl) (by kernel_rfl) (by kernel_rfl) (fun _ _ _ h => h) (by kernel_rfl) ?y2x9 hHeld1 ?r2x9
          case y2x9 => (intro W hSw; go_simp; first | done | with_reducible rfl)
          try simp only [Act.put, List.setIfInBounds_toArray, List.set_cons_zero, List.set_cons_succ]
          refine wpAnyH_takeD (l' := (upB 21 11).toArray) (i := 10) (fuel := 10) (v := ?v2x10) rfl HNS.out (by kernel_rfl) (by kernel_rfl) (by kernel_rfl) (fun _ _ _ h => h) (by kernel_rfl) ?y2x10 hHeld1 ?r2x10
          case y2x10 => (intro W hSw; go_simp; first | done | with_reducible rfl)
          try simp only [Act.put, List.setIfInBounds_toArray, List.set_cons_zero, List.set_cons_succ]
          refine wpAnyH_takeD (l' := (upB 21 12).toArray) (i := 11) (fuel := 9) (v := ?v2x11) rfl HNS.out (by kernel_rfl) (by kernel_rfl) (by kernel_rfl) (fun _ _ _ h => h) (by kernel_rfl) ?y2x11 hHeld1 ?r2x11
          case y2x11 => (intro W hSw; go_simp; first | done | with_reducible rfl)
          try simp only [Act.put, List.setIfInBounds_toArray, List.set_cons_zero, List.set_cons_succ]
          refine wpAnyH_takeD (l' := (upB 21 13).toArray) (i := 12) (fuel := 8) (v := ?v2x12) rfl HNS.out (by kernel_rfl) (by kernel_rfl) (by kernel_rfl) (fun _ _ _ h => h) (by kernel_rfl) ?y2x12 hHeld1 ?r2x12
          case y2x12 => (intro W hSw; go_simp; first | done | with_reducible rfl)
          try simp only [Act.put, List.setIfInBounds_toArray, List.set_cons_zero, List.set_cons_succ]
          refine wpAnyH_takeD (l' := (upB 21 14).toArray) (i := 13) (fuel := 7) (v := ?v2x13) rfl HNS.out (by kernel_rfl) (by kernel_rfl) (by kernel_rfl) (fun _ _ _ h => h) (by kernel_rfl) ?y2x13 hHeld1 ?r2x13
          case y2x13 => (intro W hSw; go_simp; first | done | with_reducible rfl)
          try simp only [Act.put, List.setIfInBounds_toArray, List.set_cons_zero, List.set_cons_succ]
          refine wpAnyH_takeD (l' := (upB 21 15).toArray) (i := 14) (fuel := 6) (v := ?v2x14) rfl HNS.out (by kernel_rfl) (by kernel_rfl) (by kernel_rfl) (fun _ _ _ h => h) (by kernel_rfl) ?y2x14 hHeld1 ?r2x14
          case y2x14 => (intro W hSw; go_simp; first | done | with_reducible rfl)
          try simp only [Act.put, List.setIfInBounds_toArray, List.set_cons_zero, List.set_cons_succ]
          refine wpAnyH_takeD (l' := (upB 21 16).toArray) (i := 15) (fuel := 5) (v := ?v2x15) rfl HNS.out (by kernel_rfl) (by kernel_rfl) (by kernel_rfl) (fun _ _ _ h => h) (by kernel_rfl) ?y2x15 hHeld1 ?r2x15
          case y2x15 => (intro W hSw; (try dsimp only at hSw); go_simp; first | done | with_reducible rfl)
          try simp only [Act.put, List.setIfInBounds_toArray, List.set_cons_zero, List.set_cons_succ]
          refine wpAnyH_takeD (l' := (upB 21 17).toArray) (i := 16) (fuel := 4) (v := ?v2x16) rfl HNS.out (by kernel_rfl) (by kernel_rfl) (by kernel_rfl) (fun _ _ _ h => h) (by kernel_rfl) ?y2x16 hHeld1 ?r2x16
          case y2x16 => (intro W hSw; go_simp; first | done | with_reducible rfl)
          try simp only [Act.put, List.setIfInBounds_toArray, List.set_cons_zero, List.set_cons_succ]
          refine wpAnyH_takeD (l' := (upB 21 18).toArray) (i := 17) (fuel := 3) (v := ?v2x17) rfl HNS.out (by kernel_rfl) (by kernel_rfl) (by kernel_rfl) (fun _ _ _ h => h) (by kernel_rfl) ?y2x17 hHeld1 ?r2x17
          case y2x17 => (intro W hSw; go_simp; first | done | with_reducible rfl)
          try simp only [Act.put, List.setIfInBounds_toArray, List.set_cons_zero, List.set_cons_succ]
          refine wpAnyH_takeD (l' := (upB 21 19).toArray) (i := 18) (fuel := 2) (v := ?v2x18) rfl HNS.out (by kernel_rfl) (by kernel_rfl) (by kernel_rfl) (fun _ _ _ h => h) (by kernel_rfl) ?y2x18 hHeld1 ?r2x18
          case y2x18 => (intro W hSw; (try dsimp only at hSw); go_simp; first | done | with_reducible rfl)
          try simp only [Act.put, List.setIfInBounds_toArray, List.set_cons_zero, List.set_cons_succ]
          refine wpAnyH_takeD (l' := (upB 21 20).toArray) (i := 19) (fuel := 1) (v := ?v2x19) rfl HNS.out (by kernel_rfl) (by kernel_rfl) (by kernel_rfl) (fun _ _ _ h => h) (by kernel_rfl) ?y2x19 hHeld1 ?r2x19
          case y2x19 => (intro W hSw; go_simp; first | done | with_reducible rfl)
          try simp only [Act.put, List.setIfInBounds_toArray, List.set_cons_zero, List.set_cons_succ]
          refine wpAnyH_takeD (l' := (upB 21 21).toArray) (i := 20) (fuel := 0) (v := ?v2x20) rfl HNS.out (by kernel_rfl) (by kernel_rfl) (by kernel_rfl) (fun _ _ _ h => h) (by kernel_rfl) ?y2x20 hHeld1 ?r2x20
          case y2x20 => (intro W hSw; go_simp; first | done | with_reducible rfl)
          try simp only [Act.put, List.setIfInBounds_toArray, List.set_cons_zero, List.set_cons_succ]
          refine wpAnyH_done (by kernel_rfl) ?_ _
          have hat1 := HAT.out.below HB1.out
          obtain ⟨c0, c1, c2, c3, c4⟩ := hat1.known
          have hbw1 : b < w1.heap.size := Nat.lt_of_lt_of_le hb HB1.out.size
          have hll := HLn.out
          have hll2 := HB1.out.size
          clear hat1
          have HP3 := hide (show G2 = G1 ++ [x] from by rw [HP.out, ← HG1.out]; simp)
          go_wp2_with (at_builtin; go_must (refine wpList_append_oneG (E := knE) (c := x) HO1.out rfl Try.underlying59 infoKnown rfl rfl rfl rfl rfl (by omega) (by decide) hll2 ?_); intro v2 w2 ho2 hb2 hg2; have HO2 := hide ho2; have HB2 := hide hb2; clear ho2 hb2 hg2)
          clear c0 c1 c2 c3 c4 hbw1 hll hll2 hHeld1 hHeld HNS hbw hkl HKEEP HAT
          go_roundw
          case rel => exact ⟨j + 1, by omega, by go_num, by rw [HG2.out, HP3.out, List.length_append]; exact HO2.out, HB1.out.trans HB2.out⟩
          case measure => simp [intOf]; omega
      · skip
        rw [hm] at HSX
        have HV2 := hide (show SA x = false from HSX.out)
        rw [HV2.out] at HP
        go_wp2_with fail
        refine wp_region_heldD (S := fun W => (W.cell? ⟨b, off + j * 5, none⟩ = some (.string x.p.fr) ∧ W.cell? ⟨b, off + j * 5 + 1, none⟩ = some (.string x.p.to_) ∧ W.cell? ⟨b, off + j * 5 + 2, none⟩ = some (.int .i64 x.p.id)) ∧ W.cell? ⟨w.heap.size, 0, none⟩ = some (.string k.p.fr) ∧ W.cell? ⟨w.heap.size, 1, none⟩ = some (.string k.p.to_) ∧ W.cell? ⟨w.heap.size, 2, none⟩ = some (.int .i64 k.p.id)) (n := 21) (l := (upB 21 0).toArray) (by kernel_rfl) (by kernel_rfl) (by kernel_rfl) (by kernel_rfl) (HKEEP.out _ (Below.drew (Below.refl _ _))) (fun HNS hHeld => ?_)
        refine wpAnyH_takeD (l' := (upB 21 1).toArray) (i := 0) (fuel := 20) (v := ?v3x0) rfl HNS.out (by kernel_rfl) (by kernel_rfl) (by kernel_rfl) (fun _ _ _ h => h) (by kernel_rfl) ?y3x0 hHeld ?r3x0
        case y3x0 => (intro W hSw; go_simp; first | done | with_reducible rfl)
        try simp only [Act.put, List.setIfInBounds_toArray, List.set_cons_zero, List.set_cons_succ]
        refine wpAnyH_takeD (l' := (upB 21 2).toArray) (i := 1) (fuel := 19) (v := ?v3x1) rfl HNS.out (by kernel_rfl) (by kernel_rfl) (by kernel_rfl) (fun _ _ _ h => h) (by kernel_rfl) ?y3x1 hHeld ?r3x1
        case y3x1 => (intro W hSw; go_simp; first | done | with_reducible rfl)
        try simp only [Act.put, List.setIfInBounds_toArray, List.set_cons_zero, List.set_cons_succ]
        refine wpAnyH_takeD (l' := (upB 21 3).toArray) (i := 2) (fuel := 18) (v := ?v3x2) rfl HNS.out (by kernel_rfl) (by kernel_rfl) (by kernel_rfl) (fun _ _ _ h => h) (by kernel_rfl) ?y3x2 hHeld ?r3x2
        case y3x2 => (intro W hSw; go_simp; first | done | with_reducible rfl)
        try simp only [Act.put, List.setIfInBounds_toArray, List.set_cons_zero, List.set_cons_succ]
        refine wpAnyH_takeD (l' := (upB 21 4).toArray) (i := 3) (fuel := 17) (v := ?v3x3) rfl HNS.out (by kernel_rfl) (by kernel_rfl) (by kernel_rfl) (fun _ _ _ h => h) (by kernel_rfl) ?y3x3 hHeld ?r3x3
        case y3x3 => (intro W hSw; go_simp; first | done | with_reducible rfl)
        try simp only [Act.put, List.setIfInBounds_toArray, List.set_cons_zero, List.set_cons_succ]
        refine wpAnyH_takeD (l' := (upB 21 5).toArray) (i := 4) (fuel := 16) (v := ?v3x4) rfl HNS.out (by kernel_rfl) (by kernel_rfl) (by kernel_rfl) (fun _ _ _ h => h) (by kernel_rfl) ?y3x4 hHeld ?r3x4
        case y3x4 => (intro W hSw; (try dsimp only at hSw); go_simp; first | done | with_reducible rfl)
        try simp only [Act.put, List.setIfInBounds_toArray, List.set_cons_zero, List.set_cons_succ]
        refine wpAnyH_takeD (l' := (upB 21 6).toArray) (i := 5) (fuel := 15) (v := ?v3x5) rfl HNS.out (by kernel_rfl) (by kernel_rfl) (by kernel_rfl) (fun _ _ _ h => h) (by kernel_rfl) ?y3x5 hHeld ?r3x5
        case y3x5 => (intro W hSw; go_simp; first | done | with_reducible rfl)
        try simp only [Act.put, List.setIfInBounds_toArray, List.set_cons_zero, List.set_cons_succ]
        refine wpAnyH_takeD (l' := (upB 21 7).toArray) (i := 6) (fuel := 14) (v := ?v3x6) rfl HNS.out (by kernel_rfl) (by kernel_rfl) (by kernel_rfl) (fun _ _ _ h => h) (by kernel_rfl) ?y3x6 hHeld ?r3x6
        case y3x6 => (intro W hSw; (try dsimp only at hSw); go_simp; first | done | with_reducible rfl)
        try simp only [Act.put, List.setIfInBounds_toArray, List.set_cons_zero, List.set_cons_succ]
        refine wpAnyH_oneD (l' := (upB 21 8).toArray) (i := 7) (fuel := 13) rfl (by kernel_rfl) (by kernel_rfl) (fun Kc hK => ?_)
        go_simp
        go_at_call 51
        refine (Meets_any x.p k.p _).mono ?_
        rw [hm]
        rintro e w1 ⟨rfl, hb1⟩
        have hbq := (Below.drew (Below.refl wr.heap.size wr)).trans (hb1.mono (Nat.le_refl _))
        have HB1 := hide (HBr.out.trans (hbq.mono HBr.out.size))
        have HO1 := hide (owns_laterA HO.out hbq)
        have hHeld1 := HKEEP.out w1 hbq
        clear hb1
        go_wp2_with fail
        refine hK.out _ _ hHeld1 (fun _ => ?_)
        clear hK Kc
        try simp only [Act.put, List.setIfInBounds_toArray, List.set_cons_zero, List.set_cons_succ]
        refine wpAnyH_takeD (l' := (upB 21 9).toArray) (i := 8) (fuel := 12) (v := ?v3x8) rfl HNS.out (by kernel_rfl) (by kernel_rfl) (by kernel_rfl) (fun _ _ _ h => h) (by kernel_rfl) ?y3x8 hHeld1 ?r3x8
        case y3x8 => (intro W hSw; go_simp; first | done | with_reducible rfl)
        try simp only [Act.put, List.setIfInBounds_toArray, List.set_cons_zero, List.set_cons_succ]
        refine wpAnyH_takeD (l' := (upB 21 10).toArray) (i := 9) (fuel := 11) (v := ?v3x9) rfl HNS.out (by kernel_rfl) (by kernel_rfl) (by kernel_rfl) (fun _ _ _ h => h) (by kernel_rfl) ?y3x9 hHeld1 ?r3x9
        case y3x9 => (intro W hSw; go_simp; first | done | with_reducible rfl)
        try simp only [Act.put, List.setIfInBounds_toArray, List.set_cons_zero, List.set_cons_succ]
        refine wpAnyH_skipD (l' := (upB 21 11).toArray) (i := 10) (fuel := 10) rfl HNS.out (by kernel_rfl) (by kernel_rfl) (by kernel_rfl) (fun _ _ _ h => h) (by kernel_rfl) hHeld1 ?_
        try simp only [Act.put, List.setIfInBounds_toArray, List.set_cons_zero, List.set_cons_succ]
        refine wpAnyH_skipD (l' := (upB 21 12).toArray) (i := 11) (fuel := 9) rfl HNS.out (by kernel_rfl) (by kernel_rfl) (by kernel_rfl) (fun _ _ _ h => h) (by kernel_rfl) hHeld1 ?_
        try simp only [Act.put, List.setIfInBounds_toArray, List.set_cons_zero, List.set_cons_succ]
        refine wpAnyH_skipD (l' := (upB 21 13).toArray) (i := 12) (fuel := 8) rfl HNS.out (by kernel_rfl) (by kernel_rfl) (by kernel_rfl) (fun _ _ _ h => h) (by kernel_rfl) hHeld1 ?_
        try simp only [Act.put, List.setIfInBounds_toArray, List.set_cons_zero, List.set_cons_succ]
        refine wpAnyH_skipD (l' := (upB 21 14).toArray) (i := 13) (fuel := 7) rfl HNS.out (by kernel_rfl) (by kernel_rfl) (by kernel_rfl) (fun _ _ _ h => h) (by kernel_rfl) hHeld1 ?_
        try simp only [Act.put, List.setIfInBounds_toArray, List.set_cons_zero, List.set_cons_succ]
        refine wpAnyH_skipD (l' := (upB 21 15).toArray) (i := 14) (fuel := 6) rfl HNS.out (by kernel_rfl) (by kernel_rfl) (by kernel_rfl) (fun _ _ _ h => h) (by kernel_rfl) hHeld1 ?_
        try simp only [Act.put, List.setIfInBounds_toArray, List.set_cons_zero, List.set_cons_succ]
        refine wpAnyH_skipD (l' := (upB 21 16).toArray) (i := 15) (fuel := 5) rfl HNS.out (by kernel_rfl) (by kernel_rfl) (by kernel_rfl) (fun _ _ _ h => h) (by kernel_rfl) hHeld1 ?_
        try simp only [Act.put, List.setIfInBounds_toArray, List.set_cons_zero, List.set_cons_succ]
        refine wpAnyH_skipD (l' := (upB 21 17).toArray) (i := 16) (fuel := 4) rfl HNS.out (by kernel_rfl) (by kernel_rfl) (by kernel_rfl) (fun _ _ _ h => h) (by kernel_rfl) hHeld1 ?_
        try simp only [Act.put, List.setIfInBounds_toArray, List.set_cons_zero, List.set_cons_succ]
        refine wpAnyH_skipD (l' := (upB 21 18).toArray) (i := 17) (fuel := 3) rfl HNS.out (by kernel_rfl) (by kernel_rfl) (by kernel_rfl) (fun _ _ _ h => h) (by kernel_rfl) hHeld1 ?_
        try simp only [Act.put, List.setIfInBounds_toArray, List.set_cons_zero, List.set_cons_succ]
        refine wpAnyH_skipD (l' := (upB 21 19).toArray) (i := 18) (fuel := 2) rfl HNS.out (by kernel_rfl) (by kernel_rfl) (by kernel_rfl) (fun _ _ _ h => h) (by kernel_rfl) hHeld1 ?_
        try simp only [Act.put, List.setIfInBounds_toArray, List.set_cons_zero, List.set_cons_succ]
        refine wpAnyH_skipD (l' := (upB 21 20).toArray) (i := 19) (fuel := 1) rfl HNS.out (by kernel_rfl) (by kernel_rfl) (by kernel_rfl) (fun _ _ _ h => h) (by kernel_rfl) hHeld1 ?_
        try simp only [Act.put, List.setIfInBounds_toArray, List.set_cons_zero, List.set_cons_succ]
        refine wpAnyH_takeD (l' := (upB 21 21).toArray) (i := 20) (fuel := 0) (v := ?v3x20) rfl HNS.out (by kernel_rfl) (by kernel_rfl) (by kernel_rfl) (fun _ _ _ h => h) (by kernel_rfl) ?y3x20 hHeld1 ?r3x20
        case y3x20 => (intro W hSw; go_simp; first | done | with_reducible rfl)
        try simp only [Act.put, List.setIfInBounds_toArray, List.set_cons_zero, List.set_cons_succ]
        refine wpAnyH_done (by kernel_rfl) ?_ _
        have HP3 := hide (show G2 = G1 from by rw [HP.out, ← HG1.out]; simp)
        go_wp2_with fail
        go_roundw
        case rel => exact ⟨j + 1, by omega, by go_num, by rw [HG2.out, HP3.out]; exact HO1.out, HB1.out⟩
        case measure => simp [intOf]; omega
    · have hje : j = l.length := by omega
      subst hje
      simp only [List.take_length] at HO ⊢
      have HLn := hide (show (l.filter SA).length ≤ 1000 by have := HLA.out l.length; rwa [List.take_length] at this)
      have hll := HLn.out
      have HK1 := hide HCr.out
      have hsz := hbr.size
      clear hbr
      go_upto_region 9 with (first
        | (refine wpList_load_blk HK1.out Try.underlying61 rfl Try.sizeKnown rfl rfl rfl ?_)
        | (at_builtin; refine wpList_append_oneG (E := knE) (c := k) HO.out rfl Try.underlying59 infoKnown rfl rfl rfl rfl rfl (by omega) (by decide) hsz ?_; intro v3 w3 ho3 hb3 hg3; obtain ⟨o3, k3, rfl⟩ := owns_shapeA ho3; have HO3 := hide ho3; have HB3 := hide (HBr.out.trans hb3); clear ho3 hb3 hg3))
      clear HO HBr HCr HK1 hsz hll
      go_loopw [5, 7] (fun ov iv wr => ∃ j : Nat, j ≤ l.length ∧ iv = .int .i64 j ∧ wr.ownsRow W0.heap.size 61 5 ov (l.filter SA ++ [k] ++ ((l.take j).filter SB)).length (knE.vs (l.filter SA ++ [k] ++ ((l.take j).filter SB))) ∧ Below W0.heap.size W0 wr)
        (fun _ iv _ => l.length - (intOf iv).toNat)
      case atStart => exact ⟨0, by omega, rfl, by simpa using HO3.out, HB3.out⟩
      case round =>
        obtain ⟨j, hj, rfl, hown, hbr⟩ := hrel
        obtain ⟨oo, ocap, rfl⟩ := owns_shapeA hown
        have HCr := hide (HC0.out.later hbr)
        have HBr := hide hbr
        have HO := hide hown
        clear hown
        by_cases hlt : j < l.length
        · obtain ⟨x, hx⟩ : ∃ x, l[j]? = some x := ⟨_, List.getElem?_eq_getElem hlt⟩
          obtain ⟨b, off, rfl, hb, hat⟩ := HV.out.here hx
          have HAT := hide hat
          have hbw : b < wr.heap.size := Nat.lt_of_lt_of_le hb hbr.size
          have hk1 : (0 : Int) ≤ (j : Int) := by omega
          have hk2 : (j : Int) < (l.length : Int) := by omega
          have HP := hide ((congrArg (fun z => l.filter SA ++ [k] ++ z) (HFB.out j x hx)))
          have HLn := hide (show (l.filter SA ++ [k] ++ ((l.take j).filter SB)).length ≤ 3000 by have h1 := HLA.out l.length; have h2 := HLB.out j; simp at *; omega)
          have HSX := hide (HSB.out x)
          generalize hG2 : l.filter SA ++ [k] ++ ((l.take (j + 1)).filter SB) = G2 at *
          generalize hG1 : l.filter SA ++ [k] ++ ((l.take j).filter SB) = G1 at *
          have HG2 := hide hG2
          have HG1 := hide hG1
          have HKEEP := hide (fun (W : World) (hW : Below wr.heap.size wr W) => show (W.cell? ⟨b, off + j * 5, none⟩ = some (.string x.p.fr) ∧ W.cell? ⟨b, off + j * 5 + 1, none⟩ = some (.string x.p.to_) ∧ W.cell? ⟨b, off + j * 5 + 2, none⟩ = some (.int .i64 x.p.id)) ∧ W.cell? ⟨w.heap.size, 0, none⟩ = some (.string k.p.fr) ∧ W.cell? ⟨w.heap.size, 1, none⟩ = some (.string k.p.to_) ∧ W.cell? ⟨w.heap.size, 2, none⟩ = some (.int .i64 k.p.id) by
            obtain ⟨c0, c1, c2, c3, c4⟩ := (HAT.out.below (HBr.out.trans (hW.mono HBr.out.size))).known
            have hk := HCr.out.later hW
            exact ⟨⟨c0, c1, c2⟩, hk.cell 0, hk.cell 1, hk.cell 2⟩)
          have hkl := HCr.out.lt
          clear hat hx hG1 hG2 hbr
          cases hm : meetB x.p k.p
          · cases h4 : Op.bytesLess x.p.fr.toList k.p.fr.toList
            · cases h5 : (x.p.fr.toList == k.p.fr.toList)
              · skip
                rw [hm, h4, h5] at HSX
                have HV2 := hide (show SB x = true from HSX.out)
                rw [HV2.out] at HP
                go_wp2_with fail
                refine wp_region_heldD (S := fun W => (W.cell? ⟨b, off + j * 5, none⟩ = some (.string x.p.fr) ∧ W.cell? ⟨b, off + j * 5 + 1, none⟩ = some (.string x.p.to_) ∧ W.cell? ⟨b, off + j * 5 + 2, none⟩ = some (.int .i64 x.p.id)) ∧ W.cell? ⟨w.heap.size, 0, none⟩ = some (.string k.p.fr) ∧ W.cell? ⟨w.heap.size, 1, none⟩ = some (.string k.p.to_) ∧ W.cell? ⟨w.heap.size, 2, none⟩ = some (.int .i64 k.p.id)) (n := 21) (l := (upB 21 0).toArray) (by kernel_rfl) (by kernel_rfl) (by kernel_rfl) (by kernel_rfl) (HKEEP.out _ (Below.drew (Below.refl _ _))) (fun HNS hHeld => ?_)
                refine wpAnyH_takeD (l' := (upB 21 1).toArray) (i := 0) (fuel := 20) (v := ?v4x0) rfl HNS.out (by kernel_rfl) (by kernel_rfl) (by kernel_rfl) (fun _ _ _ h => h) (by kernel_rfl) ?y4x0 hHeld ?r4x0
                case y4x0 => (intro W hSw; go_simp; first | done | with_reducible rfl)
                try simp only [Act.put, List.setIfInBounds_toArray, List.set_cons_zero, List.set_cons_succ]
                refine wpAnyH_takeD (l' := (upB 21 2).toArray) (i := 1) (fuel := 19) (v := ?v4x1) rfl HNS.out (by kernel_rfl) (by kernel_rfl) (by kernel_rfl) (fun _ _ _ h => h) (by kernel_rfl) ?y4x1 hHeld ?r4x1
                case y4x1 => (intro W hSw; go_simp; first | done | with_reducible rfl)
                try simp only [Act.put, List.setIfInBounds_toArray, List.set_cons_zero, List.set_cons_succ]
                refine wpAnyH_takeD (l' := (upB 21 3).toArray) (i := 2) (fuel := 18) (v := ?v4x2) rfl HNS.out (by kernel_rfl) (by kernel_rfl) (by kernel_rfl) (fun _ _ _ h => h) (by kernel_rfl) ?y4x2 hHeld ?r4x2
                case y4x2 => (intro W hSw; go_simp; first | done | with_reducible rfl)
                try simp only [Act.put, List.setIfInBounds_toArray, List.set_cons_zero, List.set_cons_succ]
                refine wpAnyH_takeD (l' := (upB 21 4).toArray) (i := 3) (fuel := 17) (v := ?v4x3) rfl HNS.out (by kernel_rfl) (by kernel_rfl) (by kernel_rfl) (fun _ _ _ h => h) (by kernel_rfl) ?y4x3 hHeld ?r4x3
                case y4x3 => (intro W hSw; go_simp; first | done | with_reducible rfl)
                try simp only [Act.put, List.setIfInBounds_toArray, List.set_cons_zero, List.set_cons_succ]
                refine wpAnyH_takeD (l' := (upB 21 5).toArray) (i := 4) (fuel := 16) (v := ?v4x4) rfl HNS.out (by kernel_rfl) (by kernel_rfl) (by kernel_rfl) (fun _ _ _ h => h) (by kernel_rfl) ?y4x4 hHeld ?r4x4
                case y4x4 => (intro W hSw; (try dsimp only at hSw); go_simp; first | done | with_reducible rfl)
                try simp only [Act.put, List.setIfInBounds_toArray, List.set_cons_zero, List.set_cons_succ]
                refine wpAnyH_takeD (l' := (upB 21 6).toArray) (i := 5) (fuel := 15) (v := ?v4x5) rfl HNS.out (by kernel_rfl) (by kernel_rfl) (by kernel_rfl) (fun _ _ _ h => h) (by kernel_rfl) ?y4x5 hHeld ?r4x5
                case y4x5 => (intro W hSw; go_simp; first | done | with_reducible rfl)
                try simp only [Act.put, List.setIfInBounds_toArray, List.set_cons_zero, List.set_cons_succ]
                refine wpAnyH_takeD (l' := (upB 21 7).toArray) (i := 6) (fuel := 14) (v := ?v4x6) rfl HNS.out (by kernel_rfl) (by kernel_rfl) (by kernel_rfl) (fun _ _ _ h => h) (by kernel_rfl) ?y4x6 hHeld ?r4x6
                case y4x6 => (intro W hSw; (try dsimp only at hSw); go_simp; first | done | with_reducible rfl)
                try simp only [Act.put, List.setIfInBounds_toArray, List.set_cons_zero, List.set_cons_succ]
                refine wpAnyH_oneD (l' := (upB 21 8).toArray) (i := 7) (fuel := 13) rfl (by kernel_rfl) (by kernel_rfl) (fun Kc hK => ?_)
                go_simp
                go_at_call 51
                refine (Meets_any x.p k.p _).mono ?_
                rw [hm]
                rintro e w1 ⟨rfl, hb1⟩
                have hbq := (Below.drew (Below.refl wr.heap.size wr)).trans (hb1.mono (Nat.le_refl _))
                have HB1 := hide (HBr.out.trans (hbq.mono HBr.out.size))
                have HO1 := hide (owns_laterA HO.out hbq)
                have hHeld1 := HKEEP.out w1 hbq
                clear hb1
                go_wp2_with fail
                refine hK.out _ _ hHeld1 (fun _ => ?_)
                clear hK Kc
                try simp only [Act.put, List.setIfInBounds_toArray, List.set_cons_zero, List.set_cons_succ]
                refine wpAnyH_takeD (l' := (upB 21 9).toArray) (i := 8) (fuel := 12) (v := ?v4x8) rfl HNS.out (by kernel_rfl) (by kernel_rfl) (by kernel_rfl) (fun _ _ _ h => h) (by kernel_rfl) ?y4x8 hHeld1 ?r4x8
                case y4x8 => (intro W hSw; go_simp; first | done | with_reducible rfl)
                try simp only [Act.put, List.setIfInBounds_toArray, List.set_cons_zero, List.set_cons_succ]
                refine wpAnyH_takeD (l' := (upB 21 10).toArray) (i := 9) (fuel := 11) (v := ?v4x9) rfl HNS.out (by kernel_rfl) (by kernel_rfl) (by kernel_rfl) (fun _ _ _ h => h) (by kernel_rfl) ?y4x9 hHeld1 ?r4x9
                case y4x9 => (intro W hSw; go_simp; first | done | with_reducible rfl)
                try simp only [Act.put, List.setIfInBounds_toArray, List.set_cons_zero, List.set_cons_succ]
                refine wpAnyH_takeD (l' := (upB 21 11).toArray) (i := 10) (fuel := 10) (v := ?v4x10) rfl HNS.out (by kernel_rfl) (by kernel_rfl) (by kernel_rfl) (fun _ _ _ h => h) (by kernel_rfl) ?y4x10 hHeld1 ?r4x10
                case y4x10 => (intro W hSw; go_simp; first | done | with_reducible rfl)
                try simp only [Act.put, List.setIfInBounds_toArray, List.set_cons_zero, List.set_cons_succ]
                refine wpAnyH_takeD (l' := (upB 21 12).toArray) (i := 11) (fuel := 9) (v := ?v4x11) rfl HNS.out (by kernel_rfl) (by kernel_rfl) (by kernel_rfl) (fun _ _ _ h => h) (by kernel_rfl) ?y4x11 hHeld1 ?r4x11
                case y4x11 => (intro W hSw; go_simp; first | done | with_reducible rfl)
                try simp only [Act.put, List.setIfInBounds_toArray, List.set_cons_zero, List.set_cons_succ]
                refine wpAnyH_takeD (l' := (upB 21 13).toArray) (i := 12) (fuel := 8) (v := ?v4x12) rfl HNS.out (by kernel_rfl) (by kernel_rfl) (by kernel_rfl) (fun _ _ _ h => h) (by kernel_rfl) ?y4x12 hHeld1 ?r4x12
                case y4x12 => (intro W hSw; go_simp; first | done | with_reducible rfl)
                try simp only [Act.put, List.setIfInBounds_toArray, List.set_cons_zero, List.set_cons_succ]
                refine wpAnyH_takeD (l' := (upB 21 14).toArray) (i := 13) (fuel := 7) (v := ?v4x13) rfl HNS.out (by kernel_rfl) (by kernel_rfl) (by kernel_rfl) (fun _ _ _ h => h) (by kernel_rfl) ?y4x13 hHeld1 ?r4x13
                case y4x13 => (intro W hSw; go_simp; first | done | with_reducible rfl)
                try simp only [Act.put, List.setIfInBounds_toArray, List.set_cons_zero, List.set_cons_succ]
                refine wpAnyH_takeD (l' := (upB 21 15).toArray) (i := 14) (fuel := 6) (v := ?v4x14) rfl HNS.out (by kernel_rfl) (by kernel_rfl) (by kernel_rfl) (fun _ _ _ h => h) (by kernel_rfl) ?y4x14 hHeld1 ?r4x14
                case y4x14 => (intro W hSw; go_simp; first | done | with_reducible rfl)
                try simp only [Act.put, List.setIfInBounds_toArray, List.set_cons_zero, List.set_cons_succ]
                refine wpAnyH_takeD (l' := (upB 21 16).toArray) (i := 15) (fuel := 5) (v := ?v4x15) rfl HNS.out (by kernel_rfl) (by kernel_rfl) (by kernel_rfl) (fun _ _ _ h => h) (by kernel_rfl) ?y4x15 hHeld1 ?r4x15
                case y4x15 => (intro W hSw; (try dsimp only at hSw); go_simp; first | done | with_reducible rfl)
                try simp only [Act.put, List.setIfInBounds_toArray, List.set_cons_zero, List.set_cons_succ]
                refine wpAnyH_takeD (l' := (upB 21 17).toArray) (i := 16) (fuel := 4) (v := ?v4x16) rfl HNS.out (by kernel_rfl) (by kernel_rfl) (by kernel_rfl) (fun _ _ _ h => h) (by kernel_rfl) ?y4x16 hHeld1 ?r4x16
                case y4x16 => (intro W hSw; go_simp; first | done | with_reducible rfl)
                try simp only [Act.put, List.setIfInBounds_toArray, List.set_cons_zero, List.set_cons_succ]
                refine wpAnyH_takeD (l' := (upB 21 18).toArray) (i := 17) (fuel := 3) (v := ?v4x17) rfl HNS.out (by kernel_rfl) (by kernel_rfl) (by kernel_rfl) (fun _ _ _ h => h) (by kernel_rfl) ?y4x17 hHeld1 ?r4x17
                case y4x17 => (intro W hSw; go_simp; first | done | with_reducible rfl)
                try simp only [Act.put, List.setIfInBounds_toArray, List.set_cons_zero, List.set_cons_succ]
                refine wpAnyH_takeD (l' := (upB 21 19).toArray) (i := 18) (fuel := 2) (v := ?v4x18) rfl HNS.out (by kernel_rfl) (by kernel_rfl) (by kernel_rfl) (fun _ _ _ h => h) (by kernel_rfl) ?y4x18 hHeld1 ?r4x18
                case y4x18 => (intro W hSw; (try dsimp only at hSw); go_simp; first | done | with_reducible rfl)
                try simp only [Act.put, List.setIfInBounds_toArray, List.set_cons_zero, List.set_cons_succ]
                refine wpAnyH_takeD (l' := (upB 21 20).toArray) (i := 19) (fuel := 1) (v := ?v4x19) rfl HNS.out (by kernel_rfl) (by kernel_rfl) (by kernel_rfl) (fun _ _ _ h => h) (by kernel_rfl) ?y4x19 hHeld1 ?r4x19
                case y4x19 => (intro W hSw; go_simp; first | done | with_reducible rfl)
                try simp only [Act.put, List.setIfInBounds_toArray, List.set_cons_zero, List.set_cons_succ]
                refine wpAnyH_takeD (l' := (upB 21 21).toArray) (i := 20) (fuel := 0) (v := ?v4x20) rfl HNS.out (by kernel_rfl) (by kernel_rfl) (by kernel_rfl) (fun _ _ _ h => h) (by kernel_rfl) ?y4x20 hHeld1 ?r4x20
                case y4x20 => (intro W hSw; go_simp; first | done | with_reducible rfl)
                try simp only [Act.put, List.setIfInBounds_toArray, List.set_cons_zero, List.set_cons_succ]
                refine wpAnyH_done (by kernel_rfl) ?_ _
                have hat1 := HAT.out.below HB1.out
                obtain ⟨c0, c1, c2, c3, c4⟩ := hat1.known
                have hbw1 : b < w1.heap.size := Nat.lt_of_lt_of_le hb HB1.out.size
                have hll := HLn.out
                have hll2 := HB1.out.size
                clear hat1
                have HP3 := hide (show G2 = G1 ++ [x] from by rw [HP.out, ← HG1.out]; simp)
                go_wp2_with (at_builtin; go_must (refine wpList_append_oneG (E := knE) (c := x) HO1.out rfl Try.underlying59 infoKnown rfl rfl rfl rfl rfl (by omega) (by decide) hll2 ?_); intro v2 w2 ho2 hb2 hg2; have HO2 := hide ho2; have HB2 := hide hb2; clear ho2 hb2 hg2)
                clear c0 c1 c2 c3 c4 hbw1 hll hll2 hHeld1 hHeld HNS hbw hkl HKEEP HAT
                go_roundw
                case rel => exact ⟨j + 1, by omega, by go_num, by rw [HG2.out, HP3.out, List.length_append]; exact HO2.out, HB1.out.trans HB2.out⟩
                case measure => simp [intOf]; omega
              · skip
                rw [hm, h4, h5] at HSX
                have HV2 := hide (show SB x = false from HSX.out)
                rw [HV2.out] at HP
                go_wp2_with fail
                refine wp_region_heldD (S := fun W => (W.cell? ⟨b, off + j * 5, none⟩ = some (.string x.p.fr) ∧ W.cell? ⟨b, off + j * 5 + 1, none⟩ = some (.string x.p.to_) ∧ W.cell? ⟨b, off + j * 5 + 2, none⟩ = some (.int .i64 x.p.id)) ∧ W.cell? ⟨w.heap.size, 0, none⟩ = some (.string k.p.fr) ∧ W.cell? ⟨w.heap.size, 1, none⟩ = some (.string k.p.to_) ∧ W.cell? ⟨w.heap.size, 2, none⟩ = some (.int .i64 k.p.id)) (n := 21) (l := (upB 21 0).toArray) (by kernel_rfl) (by kernel_rfl) (by kernel_rfl) (by kernel_rfl) (HKEEP.out _ (Below.drew (Below.refl _ _))) (fun HNS hHeld => ?_)
                refine wpAnyH_takeD (l' := (upB 21 1).toArray) (i := 0) (fuel := 20) (v := ?v5x0) rfl HNS.out (by kernel_rfl) (by kernel_rfl) (by kernel_rfl) (fun _ _ _ h => h) (by kernel_rfl) ?y5x0 hHeld ?r5x0
                case y5x0 => (intro W hSw; go_simp; first | done | with_reducible rfl)
                try simp only [Act.put, List.setIfInBounds_toArray, List.set_cons_zero, List.set_cons_succ]
                refine wpAnyH_takeD (l' := (upB 21 2).toArray) (i := 1) (fuel := 19) (v := ?v5x1) rfl HNS.out (by kernel_rfl) (by kernel_rfl) (by kernel_rfl) (fun _ _ _ h => h) (by kernel_rfl) ?y5x1 hHeld ?r5x1
                case y5x1 => (intro W hSw; go_simp; first | done | with_reducible rfl)
                try simp only [Act.put, List.setIfInBounds_toArray, List.set_cons_zero, List.set_cons_succ]
                refine wpAnyH_takeD (l' := (upB 21 3).toArray) (i := 2) (fuel := 18) (v := ?v5x2) rfl HNS.out (by kernel_rfl) (by kernel_rfl) (by kernel_rfl) (fun _ _ _ h => h) (by kernel_rfl) ?y5x2 hHeld ?r5x2
                case y5x2 => (intro W hSw; go_simp; first | done | with_reducible rfl)
                try simp only [Act.put, List.setIfInBounds_toArray, List.set_cons_zero, List.set_cons_succ]
                refine wpAnyH_takeD (l' := (upB 21 4).toArray) (i := 3) (fuel := 17) (v := ?v5x3) rfl HNS.out (by kernel_rfl) (by kernel_rfl) (by kernel_rfl) (fun _ _ _ h => h) (by kernel_rfl) ?y5x3 hHeld ?r5x3
                case y5x3 => (intro W hSw; go_simp; first | done | with_reducible rfl)
                try simp only [Act.put, List.setIfInBounds_toArray, List.set_cons_zero, List.set_cons_succ]
                refine wpAnyH_takeD (l' := (upB 21 5).toArray) (i := 4) (fuel := 16) (v := ?v5x4) rfl HNS.out (by kernel_rfl) (by kernel_rfl) (by kernel_rfl) (fun _ _ _ h => h) (by kernel_rfl) ?y5x4 hHeld ?r5x4
                case y5x4 => (intro W hSw; (try dsimp only at hSw); go_simp; first | done | with_reducible rfl)
                try simp only [Act.put, List.setIfInBounds_toArray, List.set_cons_zero, List.set_cons_succ]
                refine wpAnyH_takeD (l' := (upB 21 6).toArray) (i := 5) (fuel := 15) (v := ?v5x5) rfl HNS.out (by kernel_rfl) (by kernel_rfl) (by kernel_rfl) (fun _ _ _ h => h) (by kernel_rfl) ?y5x5 hHeld ?r5x5
                case y5x5 => (intro W hSw; go_simp; first | done | with_reducible rfl)
                try simp only [Act.put, List.setIfInBounds_toArray, List.set_cons_zero, List.set_cons_succ]
                refine wpAnyH_takeD (l' := (upB 21 7).toArray) (i := 6) (fuel := 14) (v := ?v5x6) rfl HNS.out (by kernel_rfl) (by kernel_rfl) (by kernel_rfl) (fun _ _ _ h => h) (by kernel_rfl) ?y5x6 hHeld ?r5x6
                case y5x6 => (intro W hSw; (try dsimp only at hSw); go_simp; first | done | with_reducible rfl)
                try simp only [Act.put, List.setIfInBounds_toArray, List.set_cons_zero, List.set_cons_succ]
                refine wpAnyH_oneD (l' := (upB 21 8).toArray) (i := 7) (fuel := 13) rfl (by kernel_rfl) (by kernel_rfl) (fun Kc hK => ?_)
                go_simp
                go_at_call 51
                refine (Meets_any x.p k.p _).mono ?_
                rw [hm]
                rintro e w1 ⟨rfl, hb1⟩
                have hbq := (Below.drew (Below.refl wr.heap.size wr)).trans (hb1.mono (Nat.le_refl _))
                have HB1 := hide (HBr.out.trans (hbq.mono HBr.out.size))
                have HO1 := hide (owns_laterA HO.out hbq)
                have hHeld1 := HKEEP.out w1 hbq
                clear hb1
                go_wp2_with fail
                refine hK.out _ _ hHeld1 (fun _ => ?_)
                clear hK Kc
                try simp only [Act.put, List.setIfInBounds_toArray, List.set_cons_zero, List.set_cons_succ]
                refine wpAnyH_takeD (l' := (upB 21 9).toArray) (i := 8) (fuel := 12) (v := ?v5x8) rfl HNS.out (by kernel_rfl) (by kernel_rfl) (by kernel_rfl) (fun _ _ _ h => h) (by kernel_rfl) ?y5x8 hHeld1 ?r5x8
                case y5x8 => (intro W hSw; go_simp; first | done | with_reducible rfl)
                try simp only [Act.put, List.setIfInBounds_toArray, List.set_cons_zero, List.set_cons_succ]
                refine wpAnyH_takeD (l' := (upB 21 10).toArray) (i := 9) (fuel := 11) (v := ?v5x9) rfl HNS.out (by kernel_rfl) (by kernel_rfl) (by kernel_rfl) (fun _ _ _ h => h) (by kernel_rfl) ?y5x9 hHeld1 ?r5x9
                case y5x9 => (intro W hSw; go_simp; first | done | with_reducible rfl)
                try simp only [Act.put, List.setIfInBounds_toArray, List.set_cons_zero, List.set_cons_succ]
                refine wpAnyH_takeD (l' := (upB 21 11).toArray) (i := 10) (fuel := 10) (v := ?v5x10) rfl HNS.out (by kernel_rfl) (by kernel_rfl) (by kernel_rfl) (fun _ _ _ h => h) (by kernel_rfl) ?y5x10 hHeld1 ?r5x10
                case y5x10 => (intro W hSw; go_simp; first | done | with_reducible rfl)
                try simp only [Act.put, List.setIfInBounds_toArray, List.set_cons_zero, List.set_cons_succ]
                refine wpAnyH_takeD (l' := (upB 21 12).toArray) (i := 11) (fuel := 9) (v := ?v5x11) rfl HNS.out (by kernel_rfl) (by kernel_rfl) (by kernel_rfl) (fun _ _ _ h => h) (by kernel_rfl) ?y5x11 hHeld1 ?r5x11
                case y5x11 => (intro W hSw; go_simp; first | done | with_reducible rfl)
                try simp only [Act.put, List.setIfInBounds_toArray, List.set_cons_zero, List.set_cons_succ]
                refine wpAnyH_takeD (l' := (upB 21 13).toArray) (i := 12) (fuel := 8) (v := ?v5x12) rfl HNS.out (by kernel_rfl) (by kernel_rfl) (by kernel_rfl) (fun _ _ _ h => h) (by kernel_rfl) ?y5x12 hHeld1 ?r5x12
                case y5x12 => (intro W hSw; go_simp; first | done | with_reducible rfl)
                try simp only [Act.put, List.setIfInBounds_toArray, List.set_cons_zero, List.set_cons_succ]
                refine wpAnyH_takeD (l' := (upB 21 14).toArray) (i := 13) (fuel := 7) (v := ?v5x13) rfl HNS.out (by kernel_rfl) (by kernel_rfl) (by kernel_rfl) (fun _ _ _ h => h) (by kernel_rfl) ?y5x13 hHeld1 ?r5x13
                case y5x13 => (intro W hSw; go_simp; first | done | with_reducible rfl)
                try simp only [Act.put, List.setIfInBounds_toArray, List.set_cons_zero, List.set_cons_succ]
                refine wpAnyH_takeD (l' := (upB 21 15).toArray) (i := 14) (fuel := 6) (v := ?v5x14) rfl HNS.out (by kernel_rfl) (by kernel_rfl) (by kernel_rfl) (fun _ _ _ h => h) (by kernel_rfl) ?y5x14 hHeld1 ?r5x14
                case y5x14 => (intro W hSw; go_simp; first | done | with_reducible rfl)
                try simp only [Act.put, List.setIfInBounds_toArray, List.set_cons_zero, List.set_cons_succ]
                refine wpAnyH_takeD (l' := (upB 21 16).toArray) (i := 15) (fuel := 5) (v := ?v5x15) rfl HNS.out (by kernel_rfl) (by kernel_rfl) (by kernel_rfl) (fun _ _ _ h => h) (by kernel_rfl) ?y5x15 hHeld1 ?r5x15
                case y5x15 => (intro W hSw; (try dsimp only at hSw); go_simp; first | done | with_reducible rfl)
                try simp only [Act.put, List.setIfInBounds_toArray, List.set_cons_zero, List.set_cons_succ]
                refine wpAnyH_takeD (l' := (upB 21 17).toArray) (i := 16) (fuel := 4) (v := ?v5x16) rfl HNS.out (by kernel_rfl) (by kernel_rfl) (by kernel_rfl) (fun _ _ _ h => h) (by kernel_rfl) ?y5x16 hHeld1 ?r5x16
                case y5x16 => (intro W hSw; go_simp; first | done | with_reducible rfl)
                try simp only [Act.put, List.setIfInBounds_toArray, List.set_cons_zero, List.set_cons_succ]
                refine wpAnyH_takeD (l' := (upB 21 18).toArray) (i := 17) (fuel := 3) (v := ?v5x17) rfl HNS.out (by kernel_rfl) (by kernel_rfl) (by kernel_rfl) (fun _ _ _ h => h) (by kernel_rfl) ?y5x17 hHeld1 ?r5x17
                case y5x17 => (intro W hSw; go_simp; first | done | with_reducible rfl)
                try simp only [Act.put, List.setIfInBounds_toArray, List.set_cons_zero, List.set_cons_succ]
                refine wpAnyH_takeD (l' := (upB 21 19).toArray) (i := 18) (fuel := 2) (v := ?v5x18) rfl HNS.out (by kernel_rfl) (by kernel_rfl) (by kernel_rfl) (fun _ _ _ h => h) (by kernel_rfl) ?y5x18 hHeld1 ?r5x18
                case y5x18 => (intro W hSw; (try dsimp only at hSw); go_simp; first | done | with_reducible rfl)
                try simp only [Act.put, List.setIfInBounds_toArray, List.set_cons_zero, List.set_cons_succ]
                refine wpAnyH_takeD (l' := (upB 21 20).toArray) (i := 19) (fuel := 1) (v := ?v5x19) rfl HNS.out (by kernel_rfl) (by kernel_rfl) (by kernel_rfl) (fun _ _ _ h => h) (by kernel_rfl) ?y5x19 hHeld1 ?r5x19
                case y5x19 => (intro W hSw; go_simp; first | done | with_reducible rfl)
                try simp only [Act.put, List.setIfInBounds_toArray, List.set_cons_zero, List.set_cons_succ]
                refine wpAnyH_takeD (l' := (upB 21 21).toArray) (i := 20) (fuel := 0) (v := ?v5x20) rfl HNS.out (by kernel_rfl) (by kernel_rfl) (by kernel_rfl) (fun _ _ _ h => h) (by kernel_rfl) ?y5x20 hHeld1 ?r5x20
                case y5x20 => (intro W hSw; go_simp; first | done | with_reducible rfl)
                try simp only [Act.put, List.setIfInBounds_toArray, List.set_cons_zero, List.set_cons_succ]
                refine wpAnyH_done (by kernel_rfl) ?_ _
                have HP3 := hide (show G2 = G1 from by rw [HP.out, ← HG1.out]; simp)
                go_wp2_with fail
                go_roundw
                case rel => exact ⟨j + 1, by omega, by go_num, by rw [HG2.out, HP3.out]; exact HO1.out, HB1.out⟩
                case measure => simp [intOf]; omega
            · skip
              rw [hm, h4] at HSX
              have HV2 := hide (show SB x = false from HSX.out)
              rw [HV2.out] at HP
              go_wp2_with fail
              refine wp_region_heldD (S := fun W => (W.cell? ⟨b, off + j * 5, none⟩ = some (.string x.p.fr) ∧ W.cell? ⟨b, off + j * 5 + 1, none⟩ = some (.string x.p.to_) ∧ W.cell? ⟨b, off + j * 5 + 2, none⟩ = some (.int .i64 x.p.id)) ∧ W.cell? ⟨w.heap.size, 0, none⟩ = some (.string k.p.fr) ∧ W.cell? ⟨w.heap.size, 1, none⟩ = some (.string k.p.to_) ∧ W.cell? ⟨w.heap.size, 2, none⟩ = some (.int .i64 k.p.id)) (n := 21) (l := (upB 21 0).toArray) (by kernel_rfl) (by kernel_rfl) (by kernel_rfl) (by kernel_rfl) (HKEEP.out _ (Below.drew (Below.refl _ _))) (fun HNS hHeld => ?_)
              refine wpAnyH_takeD (l' := (upB 21 1).toArray) (i := 0) (fuel := 20) (v := ?v6x0) rfl HNS.out (by kernel_rfl) (by kernel_rfl) (by kernel_rfl) (fun _ _ _ h => h) (by kernel_rfl) ?y6x0 hHeld ?r6x0
              case y6x0 => (intro W hSw; go_simp; first | done | with_reducible rfl)
              try simp only [Act.put, List.setIfInBounds_toArray, List.set_cons_zero, List.set_cons_succ]
              refine wpAnyH_takeD (l' := (upB 21 2).toArray) (i := 1) (fuel := 19) (v := ?v6x1) rfl HNS.out (by kernel_rfl) (by kernel_rfl) (by kernel_rfl) (fun _ _ _ h => h) (by kernel_rfl) ?y6x1 hHeld ?r6x1
              case y6x1 => (intro W hSw; go_simp; first | done | with_reducible rfl)
              try simp only [Act.put, List.setIfInBounds_toArray, List.set_cons_zero, List.set_cons_succ]
              refine wpAnyH_takeD (l' := (upB 21 3).toArray) (i := 2) (fuel := 18) (v := ?v6x2) rfl HNS.out (by kernel_rfl) (by kernel_rfl) (by kernel_rfl) (fun _ _ _ h => h) (by kernel_rfl) ?y6x2 hHeld ?r6x2
              case y6x2 => (intro W hSw; go_simp; first | done | with_reducible rfl)
              try simp only [Act.put, List.setIfInBounds_toArray, List.set_cons_zero, List.set_cons_succ]
              refine wpAnyH_takeD (l' := (upB 21 4).toArray) (i := 3) (fuel := 17) (v := ?v6x3) rfl HNS.out (by kernel_rfl) (by kernel_rfl) (by kernel_rfl) (fun _ _ _ h => h) (by kernel_rfl) ?y6x3 hHeld ?r6x3
              case y6x3 => (intro W hSw; go_simp; first | done | with_reducible rfl)
              try simp only [Act.put, List.setIfInBounds_toArray, List.set_cons_zero, List.set_cons_succ]
              refine wpAnyH_takeD (l' := (upB 21 5).toArray) (i := 4) (fuel := 16) (v := ?v6x4) rfl HNS.out (by kernel_rfl) (by kernel_rfl) (by kernel_rfl) (fun _ _ _ h => h) (by kernel_rfl) ?y6x4 hHeld ?r6x4
              case y6x4 => (intro W hSw; (try dsimp only at hSw); go_simp; first | done | with_reducible rfl)
              try simp only [Act.put, List.setIfInBounds_toArray, List.set_cons_zero, List.set_cons_succ]
              refine wpAnyH_takeD (l' := (upB 21 6).toArray) (i := 5) (fuel := 15) (v := ?v6x5) rfl HNS.out (by kernel_rfl) (by kernel_rfl) (by kernel_rfl) (fun _ _ _ h => h) (by kernel_rfl) ?y6x5 hHeld ?r6x5
              case y6x5 => (intro W hSw; go_simp; first | done | with_reducible rfl)
              try simp only [Act.put, List.setIfInBounds_toArray, List.set_cons_zero, List.set_cons_succ]
              refine wpAnyH_takeD (l' := (upB 21 7).toArray) (i := 6) (fuel := 14) (v := ?v6x6) rfl HNS.out (by kernel_rfl) (by kernel_rfl) (by kernel_rfl) (fun _ _ _ h => h) (by kernel_rfl) ?y6x6 hHeld ?r6x6
              case y6x6 => (intro W hSw; (try dsimp only at hSw); go_simp; first | done | with_reducible rfl)
              try simp only [Act.put, List.setIfInBounds_toArray, List.set_cons_zero, List.set_cons_succ]
              refine wpAnyH_oneD (l' := (upB 21 8).toArray) (i := 7) (fuel := 13) rfl (by kernel_rfl) (by kernel_rfl) (fun Kc hK => ?_)
              go_simp
              go_at_call 51
              refine (Meets_any x.p k.p _).mono ?_
              rw [hm]
              rintro e w1 ⟨rfl, hb1⟩
              have hbq := (Below.drew (Below.refl wr.heap.size wr)).trans (hb1.mono (Nat.le_refl _))
              have HB1 := hide (HBr.out.trans (hbq.mono HBr.out.size))
              have HO1 := hide (owns_laterA HO.out hbq)
              have hHeld1 := HKEEP.out w1 hbq
              clear hb1
              go_wp2_with fail
              refine hK.out _ _ hHeld1 (fun _ => ?_)
              clear hK Kc
              try simp only [Act.put, List.setIfInBounds_toArray, List.set_cons_zero, List.set_cons_succ]
              refine wpAnyH_takeD (l' := (upB 21 9).toArray) (i := 8) (fuel := 12) (v := ?v6x8) rfl HNS.out (by kernel_rfl) (by kernel_rfl) (by kernel_rfl) (fun _ _ _ h => h) (by kernel_rfl) ?y6x8 hHeld1 ?r6x8
              case y6x8 => (intro W hSw; go_simp; first | done | with_reducible rfl)
              try simp only [Act.put, List.setIfInBounds_toArray, List.set_cons_zero, List.set_cons_succ]
              refine wpAnyH_takeD (l' := (upB 21 10).toArray) (i := 9) (fuel := 11) (v := ?v6x9) rfl HNS.out (by kernel_rfl) (by kernel_rfl) (by kernel_rfl) (fun _ _ _ h => h) (by kernel_rfl) ?y6x9 hHeld1 ?r6x9
              case y6x9 => (intro W hSw; go_simp; first | done | with_reducible rfl)
              try simp only [Act.put, List.setIfInBounds_toArray, List.set_cons_zero, List.set_cons_succ]
              refine wpAnyH_takeD (l' := (upB 21 11).toArray) (i := 10) (fuel := 10) (v := ?v6x10) rfl HNS.out (by kernel_rfl) (by kernel_rfl) (by kernel_rfl) (fun _ _ _ h => h) (by kernel_rfl) ?y6x10 hHeld1 ?r6x10
              case y6x10 => (intro W hSw; go_simp; first | done | with_reducible rfl)
              try simp only [Act.put, List.setIfInBounds_toArray, List.set_cons_zero, List.set_cons_succ]
              refine wpAnyH_takeD (l' := (upB 21 12).toArray) (i := 11) (fuel := 9) (v := ?v6x11) rfl HNS.out (by kernel_rfl) (by kernel_rfl) (by kernel_rfl) (fun _ _ _ h => h) (by kernel_rfl) ?y6x11 hHeld1 ?r6x11
              case y6x11 => (intro W hSw; go_simp; first | done | with_reducible rfl)
              try simp only [Act.put, List.setIfInBounds_toArray, List.set_cons_zero, List.set_cons_succ]
              refine wpAnyH_takeD (l' := (upB 21 13).toArray) (i := 12) (fuel := 8) (v := ?v6x12) rfl HNS.out (by kernel_rfl) (by kernel_rfl) (by kernel_rfl) (fun _ _ _ h => h) (by kernel_rfl) ?y6x12 hHeld1 ?r6x12
              case y6x12 => (intro W hSw; go_simp; first | done | with_reducible rfl)
              try simp only [Act.put, List.setIfInBounds_toArray, List.set_cons_zero, List.set_cons_succ]
              refine wpAnyH_takeD (l' := (upB 21 14).toArray) (i := 13) (fuel := 7) (v := ?v6x13) rfl HNS.out (by kernel_rfl) (by kernel_rfl) (by kernel_rfl) (fun _ _ _ h => h) (by kernel_rfl) ?y6x13 hHeld1 ?r6x13
              case y6x13 => (intro W hSw; go_simp; first | done | with_reducible rfl)
              try simp only [Act.put, List.setIfInBounds_toArray, List.set_cons_zero, List.set_cons_succ]
              refine wpAnyH_takeD (l' := (upB 21 15).toArray) (i := 14) (fuel := 6) (v := ?v6x14) rfl HNS.out (by kernel_rfl) (by kernel_rfl) (by kernel_rfl) (fun _ _ _ h => h) (by kernel_rfl) ?y6x14 hHeld1 ?r6x14
              case y6x14 => (intro W hSw; go_simp; first | done | with_reducible rfl)
              try simp only [Act.put, List.setIfInBounds_toArray, List.set_cons_zero, List.set_cons_succ]
              refine wpAnyH_takeD (l' := (upB 21 16).toArray) (i := 15) (fuel := 5) (v := ?v6x15) rfl HNS.out (by kernel_rfl) (by kernel_rfl) (by kernel_rfl) (fun _ _ _ h => h) (by kernel_rfl) ?y6x15 hHeld1 ?r6x15
              case y6x15 => (intro W hSw; (try dsimp only at hSw); go_simp; first | done | with_reducible rfl)
              try simp only [Act.put, List.setIfInBounds_toArray, List.set_cons_zero, List.set_cons_succ]
              refine wpAnyH_takeD (l' := (upB 21 17).toArray) (i := 16) (fuel := 4) (v := ?v6x16) rfl HNS.out (by kernel_rfl) (by kernel_rfl) (by kernel_rfl) (fun _ _ _ h => h) (by kernel_rfl) ?y6x16 hHeld1 ?r6x16
              case y6x16 => (intro W hSw; go_simp; first | done | with_reducible rfl)
              try simp only [Act.put, List.setIfInBounds_toArray, List.set_cons_zero, List.set_cons_succ]
              refine wpAnyH_takeD (l' := (upB 21 18).toArray) (i := 17) (fuel := 3) (v := ?v6x17) rfl HNS.out (by kernel_rfl) (by kernel_rfl) (by kernel_rfl) (fun _ _ _ h => h) (by kernel_rfl) ?y6x17 hHeld1 ?r6x17
              case y6x17 => (intro W hSw; go_simp; first | done | with_reducible rfl)
              try simp only [Act.put, List.setIfInBounds_toArray, List.set_cons_zero, List.set_cons_succ]
              refine wpAnyH_takeD (l' := (upB 21 19).toArray) (i := 18) (fuel := 2) (v := ?v6x18) rfl HNS.out (by kernel_rfl) (by kernel_rfl) (by kernel_rfl) (fun _ _ _ h => h) (by kernel_rfl) ?y6x18 hHeld1 ?r6x18
              case y6x18 => (intro W hSw; (try dsimp only at hSw); go_simp; first | done | with_reducible rfl)
              try simp only [Act.put, List.setIfInBounds_toArray, List.set_cons_zero, List.set_cons_succ]
              refine wpAnyH_takeD (l' := (upB 21 20).toArray) (i := 19) (fuel := 1) (v := ?v6x19) rfl HNS.out (by kernel_rfl) (by kernel_rfl) (by kernel_rfl) (fun _ _ _ h => h) (by kernel_rfl) ?y6x19 hHeld1 ?r6x19
              case y6x19 => (intro W hSw; go_simp; first | done | with_reducible rfl)
              try simp only [Act.put, List.setIfInBounds_toArray, List.set_cons_zero, List.set_cons_succ]
              refine wpAnyH_takeD (l' := (upB 21 21).toArray) (i := 20) (fuel := 0) (v := ?v6x20) rfl HNS.out (by kernel_rfl) (by kernel_rfl) (by kernel_rfl) (fun _ _ _ h => h) (by kernel_rfl) ?y6x20 hHeld1 ?r6x20
              case y6x20 => (intro W hSw; go_simp; first | done | with_reducible rfl)
              try simp only [Act.put, List.setIfInBounds_toArray, List.set_cons_zero, List.set_cons_succ]
              refine wpAnyH_done (by kernel_rfl) ?_ _
              have HP3 := hide (show G2 = G1 from by rw [HP.out, ← HG1.out]; simp)
              go_wp2_with fail
              go_roundw
              case rel => exact ⟨j + 1, by omega, by go_num, by rw [HG2.out, HP3.out]; exact HO1.out, HB1.out⟩
              case measure => simp [intOf]; omega
          · skip
            rw [hm] at HSX
            have HV2 := hide (show SB x = false from HSX.out)
            rw [HV2.out] at HP
            go_wp2_with fail
            refine wp_region_heldD (S := fun W => (W.cell? ⟨b, off + j * 5, none⟩ = some (.string x.p.fr) ∧ W.cell? ⟨b, off + j * 5 + 1, none⟩ = some (.string x.p.to_) ∧ W.cell? ⟨b, off + j * 5 + 2, none⟩ = some (.int .i64 x.p.id)) ∧ W.cell? ⟨w.heap.size, 0, none⟩ = some (.string k.p.fr) ∧ W.cell? ⟨w.heap.size, 1, none⟩ = some (.string k.p.to_) ∧ W.cell? ⟨w.heap.size, 2, none⟩ = some (.int .i64 k.p.id)) (n := 21) (l := (upB 21 0).toArray) (by kernel_rfl) (by kernel_rfl) (by kernel_rfl) (by kernel_rfl) (HKEEP.out _ (Below.drew (Below.refl _ _))) (fun HNS hHeld => ?_)
            refine wpAnyH_takeD (l' := (upB 21 1).toArray) (i := 0) (fuel := 20) (v := ?v7x0) rfl HNS.out (by kernel_rfl) (by kernel_rfl) (by kernel_rfl) (fun _ _ _ h => h) (by kernel_rfl) ?y7x0 hHeld ?r7x0
            case y7x0 => (intro W hSw; go_simp; first | done | with_reducible rfl)
            try simp only [Act.put, List.setIfInBounds_toArray, List.set_cons_zero, List.set_cons_succ]
            refine wpAnyH_takeD (l' := (upB 21 2).toArray) (i := 1) (fuel := 19) (v := ?v7x1) rfl HNS.out (by kernel_rfl) (by kernel_rfl) (by kernel_rfl) (fun _ _ _ h => h) (by kernel_rfl) ?y7x1 hHeld ?r7x1
            case y7x1 => (intro W hSw; go_simp; first | done | with_reducible rfl)
            try simp only [Act.put, List.setIfInBounds_toArray, List.set_cons_zero, List.set_cons_succ]
            refine wpAnyH_takeD (l' := (upB 21 3).toArray) (i := 2) (fuel := 18) (v := ?v7x2) rfl HNS.out (by kernel_rfl) (by kernel_rfl) (by kernel_rfl) (fun _ _ _ h => h) (by kernel_rfl) ?y7x2 hHeld ?r7x2
            case y7x2 => (intro W hSw; go_simp; first | done | with_reducible rfl)
            try simp only [Act.put, List.setIfInBounds_toArray, List.set_cons_zero, List.set_cons_succ]
            refine wpAnyH_takeD (l' := (upB 21 4).toArray) (i := 3) (fuel := 17) (v := ?v7x3) rfl HNS.out (by kernel_rfl) (by kernel_rfl) (by kernel_rfl) (fun _ _ _ h => h) (by kernel_rfl) ?y7x3 hHeld ?r7x3
            case y7x3 => (intro W hSw; go_simp; first | done | with_reducible rfl)
            try simp only [Act.put, List.setIfInBounds_toArray, List.set_cons_zero, List.set_cons_succ]
            refine wpAnyH_takeD (l' := (upB 21 5).toArray) (i := 4) (fuel := 16) (v := ?v7x4) rfl HNS.out (by kernel_rfl) (by kernel_rfl) (by kernel_rfl) (fun _ _ _ h => h) (by kernel_rfl) ?y7x4 hHeld ?r7x4
            case y7x4 => (intro W hSw; (try dsimp only at hSw); go_simp; first | done | with_reducible rfl)
            try simp only [Act.put, List.setIfInBounds_toArray, List.set_cons_zero, List.set_cons_succ]
            refine wpAnyH_takeD (l' := (upB 21 6).toArray) (i := 5) (fuel := 15) (v := ?v7x5) rfl HNS.out (by kernel_rfl) (by kernel_rfl) (by kernel_rfl) (fun _ _ _ h => h) (by kernel_rfl) ?y7x5 hHeld ?r7x5
            case y7x5 => (intro W hSw; go_simp; first | done | with_reducible rfl)
            try simp only [Act.put, List.setIfInBounds_toArray, List.set_cons_zero, List.set_cons_succ]
            refine wpAnyH_takeD (l' := (upB 21 7).toArray) (i := 6) (fuel := 14) (v := ?v7x6) rfl HNS.out (by kernel_rfl) (by kernel_rfl) (by kernel_rfl) (fun _ _ _ h => h) (by kernel_rfl) ?y7x6 hHeld ?r7x6
            case y7x6 => (intro W hSw; (try dsimp only at hSw); go_simp; first | done | with_reducible rfl)
            try simp only [Act.put, List.setIfInBounds_toArray, List.set_cons_zero, List.set_cons_succ]
            refine wpAnyH_oneD (l' := (upB 21 8).toArray) (i := 7) (fuel := 13) rfl (by kernel_rfl) (by kernel_rfl) (fun Kc hK => ?_)
            go_simp
            go_at_call 51
            refine (Meets_any x.p k.p _).mono ?_
            rw [hm]
            rintro e w1 ⟨rfl, hb1⟩
            have hbq := (Below.drew (Below.refl wr.heap.size wr)).trans (hb1.mono (Nat.le_refl _))
            have HB1 := hide (HBr.out.trans (hbq.mono HBr.out.size))
            have HO1 := hide (owns_laterA HO.out hbq)
            have hHeld1 := HKEEP.out w1 hbq
            clear hb1
            go_wp2_with fail
            refine hK.out _ _ hHeld1 (fun _ => ?_)
            clear hK Kc
            try simp only [Act.put, List.setIfInBounds_toArray, List.set_cons_zero, List.set_cons_succ]
            refine wpAnyH_takeD (l' := (upB 21 9).toArray) (i := 8) (fuel := 12) (v := ?v7x8) rfl HNS.out (by kernel_rfl) (by kernel_rfl) (by kernel_rfl) (fun _ _ _ h => h) (by kernel_rfl) ?y7x8 hHeld1 ?r7x8
            case y7x8 => (intro W hSw; go_simp; first | done | with_reducible rfl)
            try simp only [Act.put, List.setIfInBounds_toArray, List.set_cons_zero, List.set_cons_succ]
            refine wpAnyH_takeD (l' := (upB 21 10).toArray) (i := 9) (fuel := 11) (v := ?v7x9) rfl HNS.out (by kernel_rfl) (by kernel_rfl) (by kernel_rfl) (fun _ _ _ h => h) (by kernel_rfl) ?y7x9 hHeld1 ?r7x9
            case y7x9 => (intro W hSw; go_simp; first | done | with_reducible rfl)
            try simp only [Act.put, List.setIfInBounds_toArray, List.set_cons_zero, List.set_cons_succ]
            refine wpAnyH_skipD (l' := (upB 21 11).toArray) (i := 10) (fuel := 10) rfl HNS.out (by kernel_rfl) (by kernel_rfl) (by kernel_rfl) (fun _ _ _ h => h) (by kernel_rfl) hHeld1 ?_
            try simp only [Act.put, List.setIfInBounds_toArray, List.set_cons_zero, List.set_cons_succ]
            refine wpAnyH_skipD (l' := (upB 21 12).toArray) (i := 11) (fuel := 9) rfl HNS.out (by kernel_rfl) (by kernel_rfl) (by kernel_rfl) (fun _ _ _ h => h) (by kernel_rfl) hHeld1 ?_
            try simp only [Act.put, List.setIfInBounds_toArray, List.set_cons_zero, List.set_cons_succ]
            refine wpAnyH_skipD (l' := (upB 21 13).toArray) (i := 12) (fuel := 8) rfl HNS.out (by kernel_rfl) (by kernel_rfl) (by kernel_rfl) (fun _ _ _ h => h) (by kernel_rfl) hHeld1 ?_
            try simp only [Act.put, List.setIfInBounds_toArray, List.set_cons_zero, List.set_cons_succ]
            refine wpAnyH_skipD (l' := (upB 21 14).toArray) (i := 13) (fuel := 7) rfl HNS.out (by kernel_rfl) (by kernel_rfl) (by kernel_rfl) (fun _ _ _ h => h) (by kernel_rfl) hHeld1 ?_
            try simp only [Act.put, List.setIfInBounds_toArray, List.set_cons_zero, List.set_cons_succ]
            refine wpAnyH_skipD (l' := (upB 21 15).toArray) (i := 14) (fuel := 6) rfl HNS.out (by kernel_rfl) (by kernel_rfl) (by kernel_rfl) (fun _ _ _ h => h) (by kernel_rfl) hHeld1 ?_
            try simp only [Act.put, List.setIfInBounds_toArray, List.set_cons_zero, List.set_cons_succ]
            refine wpAnyH_skipD (l' := (upB 21 16).toArray) (i := 15) (fuel := 5) rfl HNS.out (by kernel_rfl) (by kernel_rfl) (by kernel_rfl) (fun _ _ _ h => h) (by kernel_rfl) hHeld1 ?_
            try simp only [Act.put, List.setIfInBounds_toArray, List.set_cons_zero, List.set_cons_succ]
            refine wpAnyH_skipD (l' := (upB 21 17).toArray) (i := 16) (fuel := 4) rfl HNS.out (by kernel_rfl) (by kernel_rfl) (by kernel_rfl) (fun _ _ _ h => h) (by kernel_rfl) hHeld1 ?_
            try simp only [Act.put, List.setIfInBounds_toArray, List.set_cons_zero, List.set_cons_succ]
            refine wpAnyH_skipD (l' := (upB 21 18).toArray) (i := 17) (fuel := 3) rfl HNS.out (by kernel_rfl) (by kernel_rfl) (by kernel_rfl) (fun _ _ _ h => h) (by kernel_rfl) hHeld1 ?_
            try simp only [Act.put, List.setIfInBounds_toArray, List.set_cons_zero, List.set_cons_succ]
            refine wpAnyH_skipD (l' := (upB 21 19).toArray) (i := 18) (fuel := 2) rfl HNS.out (by kernel_rfl) (by kernel_rfl) (by kernel_rfl) (fun _ _ _ h => h) (by kernel_rfl) hHeld1 ?_
            try simp only [Act.put, List.setIfInBounds_toArray, List.set_cons_zero, List.set_cons_succ]
            refine wpAnyH_skipD (l' := (upB 21 20).toArray) (i := 19) (fuel := 1) rfl HNS.out (by kernel_rfl) (by kernel_rfl) (by kernel_rfl) (fun _ _ _ h => h) (by kernel_rfl) hHeld1 ?_
            try simp only [Act.put, List.setIfInBounds_toArray, List.set_cons_zero, List.set_cons_succ]
            refine wpAnyH_takeD (l' := (upB 21 21).toArray) (i := 20) (fuel := 0) (v := ?v7x20) rfl HNS.out (by kernel_rfl) (by kernel_rfl) (by kernel_rfl) (fun _ _ _ h => h) (by kernel_rfl) ?y7x20 hHeld1 ?r7x20
            case y7x20 => (intro W hSw; go_simp; first | done | with_reducible rfl)
            try simp only [Act.put, List.setIfInBounds_toArray, List.set_cons_zero, List.set_cons_succ]
            refine wpAnyH_done (by kernel_rfl) ?_ _
            have HP3 := hide (show G2 = G1 from by rw [HP.out, ← HG1.out]; simp)
            go_wp2_with fail
            go_roundw
            case rel => exact ⟨j + 1, by omega, by go_num, by rw [HG2.out, HP3.out]; exact HO1.out, HB1.out⟩
            case measure => simp [intOf]; omega
        · have hje : j = l.length := by omega
          subst hje
          simp only [List.take_length] at HO ⊢
          clear hbr
          go_wp2_with fail
          go_ret
          rw [HD.out, show l.filter SA ++ k :: l.filter SB = l.filter SA ++ [k] ++ l.filter SB by simp]
          exact ⟨_, rfl, owns_base1 HO.out HB0.out.size, HB0.out.trans (HBr.out.mono HB0.out.size)⟩


end Go.Proofs.Ytoeobhehjnkkkaa
