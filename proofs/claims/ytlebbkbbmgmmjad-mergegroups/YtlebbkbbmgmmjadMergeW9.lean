/-
  The walks over the function that merge.counting answers.
-/
import Derived.Test.YtlebbkbbmgmmjadMergeW8
namespace Go.Proofs.Ytlebbkbbmgmmjad
open Go.RowKit

set_option maxRecDepth 100000 in
set_option maxHeartbeats 2000000 in
theorem next_cons (w0 : World) (H : Nat) (c : Cl) (L : List Cl) (w : World) (hN : NxSt w0 w H (c :: L)) :
    Calls Try.prog 92 #[.pointer (some ⟨H, 0, none⟩), .pointer (some ⟨H + 1, 0, none⟩)] w fun e w' => e = .returned (.tuple #[cA c, .bool true]) ∧ NxSt w0 w' H L ∧ remW w' H < remW w H ∧ Gb2 w w' H := by
  obtain ⟨xs0, hs0, told0, hB0, hA0, hP0, hok0, hT0, hR0, hb00, hH0⟩ := hN
  have HR0 := hide hR0
  have HA0 := hide hA0
  have HP0 := hide hP0
  have HOK0 := hide hok0
  have hHw := hT0.lt
  have hHw0 := hB0.lt
  have HB0 := hide (hB0.below (below_alloc' _ (.cells #[.string ⟨#[]⟩, .string ⟨#[]⟩, .int .i64 0, .bool false, .string ⟨#[]⟩] 91)) hHw0)
  have HT0 := hide (hT0.below (below_alloc' _ (.cells #[.string ⟨#[]⟩, .string ⟨#[]⟩, .int .i64 0, .bool false, .string ⟨#[]⟩] 91)) hHw)
  have HRW0 : Hid (remW (w.alloc (.cells #[.string ⟨#[]⟩, .string ⟨#[]⟩, .int .i64 0, .bool false, .string ⟨#[]⟩] 91)) H = remW w H) := hide (remW_gb (heap_alloc_old w _ hHw0))
  have HBW0 := hide (hb00.alloc hb00.size (.cells #[.string ⟨#[]⟩, .string ⟨#[]⟩, .int .i64 0, .bool false, .string ⟨#[]⟩] 91))
  clear hB0 hA0 hP0 hok0 hT0 hR0
  go_enter Try.func92, Try.ntmps92
  go_wp2_with fail
  go_loopw [4] (fun _ wr => ∃ (xs : Array Value) (hs : List Src) (told : Cl), Bk wr H 132 xs ∧ HpAt xs hs ∧ HeapP hs ∧ (∀ s ∈ hs, SOk w0 s) ∧ Bk wr (H + 1) 91 (ca told) ∧ Rem told hs (c :: L) ∧ Below w0.heap.size w0 wr ∧ Bk wr w.heap.size 91 (ca zeroC) ∧ Gb2 w wr H ∧ remW wr H ≤ remW w H)
    (fun _ wr => remW wr H)
  case atStart => exact ⟨xs0, hs0, told0, HB0.out, HA0.out, HP0.out, HOK0.out, HT0.out, HR0.out, HBW0.out, Bk.new _ _ _, (Gb2.refl _ _).alloc _, by rw [HRW0.out]; exact Nat.le_refl _⟩
  case round =>
    obtain ⟨xs, hs, told, hB, hA, hP, hok, hT, hR, hbw, hRB, hg, hrem⟩ := hrel
    have HB := hide hB
    have HA := hide hA
    have HP := hide hP
    have HOK := hide hok
    have HRM := hide hR
    have HT := hide hT
    have HRB := hide hRB
    have HG := hide hg
    have HREM := hide hrem
    have hlw := hRB.lt
    have c40 := (hB.cell 40).trans hA.n
    clear hB hA hP hok hR hT hRB hg hrem HR0 HA0 HP0 HOK0 HB0 HT0 HRW0 HBW0
    cases hs with
    | nil =>
      exact absurd HRM.out.nil (by simp)
    | cons s r =>
      have hne : ∀ o ∈ s :: r, o.cs ≠ [] := fun o ho => (HOK.out o ho).2
      have hmin : ∀ o ∈ s :: r, Le2 s o := fun o ho => by
        obtain ⟨i, hi, e⟩ := List.getElem_of_mem ho
        exact HP.out.min rfl i o (by rw [List.getElem?_eq_getElem hi, e])
      have HNE := hide hne
      have HMIN := hide hmin
      have hd0 : decide (0 < (s :: r).length) = true := by simp
      have hd1 : decide ((0 : Int) < ((s :: r).length : Int)) = true := by simp
      clear hne hmin
      generalize hnl : (s :: r).length = nl at c40 hd0 hd1
      clear hnl
      go_wp2_with fail
      refine (take_any w0 H xs s r _ HB.out HA.out HP.out hbw hH0 HOK.out).mono ?_
      rintro e w2 ⟨rfl, xs2, hs2, hB2, hA2, hP2, hpe, hg2⟩
      have hT2 := HT.out.grown hg2 (by simp)
      have hR2 := HRB.out.grown hg2 (by simp; omega)
      have hbw2 := below_gb hbw hg2 hH0
      have HOK2 : Hid (∀ o ∈ hs2, SOk w0 o) := hide (fun o ho => by
        have hm := hpe.mem_iff.1 ho
        unfold restL at hm
        split at hm
        · exact HOK.out o (by simp [hm])
        · rename_i ht
          rcases List.mem_cons.1 hm with rfl | hm
          · exact (HOK.out s (by simp)).tl ht
          · exact HOK.out o (by simp [hm]))
      have HTOT : Hid (remX xs2 + 1 = remX xs) := hide (by
        rw [remX_hp hA2 (fun o ho => lenV_ok (HOK2.out o ho)), remX_hp HA.out (fun o ho => lenV_ok (HOK.out o ho))]
        exact tot_rest (HNE.out s (by simp)) hpe)
      have HRX : Hid (remW wr H = remX xs) := hide (remW_bk HB.out)
      have HPE := hide hpe
      have HA2 := hide hA2
      have HP2 := hide hP2
      have HG2 := hide (HG.out.trans (Gb2.ofGb hg2))
      have hHw2 := hT2.lt
      have hlw2 := hR2.lt
      clear hpe hA2 hP2 hg2 c40 hbw
      unfold cA
      have hbw3 := hbw2.alloc hbw2.size (.cells #[.string (hd s).row, .string (hd s).col, .int .i64 (hd s).time, .bool (hd s).gone, .string (hd s).val] 91)
      have hB3 := hB2.below (below_alloc' _ (.cells #[.string (hd s).row, .string (hd s).col, .int .i64 (hd s).time, .bool (hd s).gone, .string (hd s).val] 91)) hB2.lt
      have hT3 := hT2.below (below_alloc' _ (.cells #[.string (hd s).row, .string (hd s).col, .int .i64 (hd s).time, .bool (hd s).gone, .string (hd s).val] 91)) hHw2
      have hR3 := hR2.below (below_alloc' _ (.cells #[.string (hd s).row, .string (hd s).col, .int .i64 (hd s).time, .bool (hd s).gone, .string (hd s).val] 91)) hlw2
      have hC3 : Bk (w2.alloc (.cells #[.string (hd s).row, .string (hd s).col, .int .i64 (hd s).time, .bool (hd s).gone, .string (hd s).val] 91)) w2.heap.size 91 (ca (hd s)) := Bk.new _ _ _
      have hG3 := HG2.out.alloc (.cells #[.string (hd s).row, .string (hd s).col, .int .i64 (hd s).time, .bool (hd s).gone, .string (hd s).val] 91)
      obtain ⟨t0, t1, t2, t3, t4⟩ := hT2.facts
      go_wp2_with fail
      refine (order_any told (hd s) _).mono ?_
      rintro e w4 ⟨rfl, hb4⟩
      have hB4 := hB3.below hb4 hB3.lt
      have hT4 := hT3.below hb4 hT3.lt
      have hR4 := hR3.below hb4 hR3.lt
      have hC4 := hC3.below hb4 hC3.lt
      have hG4 := hG3.trans (Gb2.ofBelow hb4)
      have hbw4 : Below w0.heap.size w0 w4 := hbw3.trans (hb4.mono hbw3.size)
      have hHw4 := hT4.lt
      have hlw4 := hR4.lt
      have hlc4 := hC4.lt
      have hlw3 : w.heap.size < w2.heap.size := by omega
      clear hbw2 hbw3 hB3 hT3 hR3 hC3 hG3 hT2 hR2 hB2 hb4 t0 t1 t2 t3 t4
      have HB4 := hide hB4
      have HT4 := hide hT4
      have HR4 := hide hR4
      have HG4 := hide hG4
      have HRX4 : Hid (remW w4 H = remX xs2) := hide (remW_bk hB4)
      by_cases hz : ordC told (hd s) = 0
      · have HSK := hide (HRM.out.skip HNE.out HPE.out (ordC_zero.1 hz))
        rw [hz]
        go_wp2_with fail
        go_roundw
        case rel => exact ⟨xs2, hs2, told, HB4.out, HA2.out, HP2.out, HOK2.out, HT4.out, HSK.out, hbw4, HR4.out, HG4.out, by have h1 := HRX4.out; have h2 := HTOT.out; have h3 := HRX.out; have h4 := HREM.out; omega⟩
        case measure => have h1 := HRX4.out; have h2 := HTOT.out; have h3 := HRX.out; omega
      · have hzb : (ordC told (hd s) != 0) = true := by simp [hz]
        obtain ⟨L2, hL, hR5⟩ := HRM.out.next HNE.out HMIN.out HPE.out (fun h => hz (ordC_zero.2 h))
        simp only [List.cons.injEq] at hL
        obtain ⟨rfl, rfl⟩ := hL
        have HR5 := hide hR5
        clear hR5 hz
        generalize hds : hd s = d at *
        have HDS := hide hds
        clear hds
        have hne1 : w2.heap.size ≠ H + 1 := by omega
        have hne2 : w.heap.size ≠ H + 1 := by omega
        have hnH1 : H ≠ H + 1 := by omega
        have hTT := hT4.store (c := d)
        have hRT := ((((hR4.setP (p := ⟨H + 1, 0, none⟩) hne2 (.string d.row)).setP (p := ⟨H + 1, 1, none⟩) hne2 (.string d.col)).setP (p := ⟨H + 1, 2, none⟩) hne2 (.int .i64 d.time)).setP (p := ⟨H + 1, 3, none⟩) hne2 (.bool d.gone)).setP (p := ⟨H + 1, 4, none⟩) hne2 (.string d.val)
        have hCT := ((((hC4.setP (p := ⟨H + 1, 0, none⟩) hne1 (.string d.row)).setP (p := ⟨H + 1, 1, none⟩) hne1 (.string d.col)).setP (p := ⟨H + 1, 2, none⟩) hne1 (.int .i64 d.time)).setP (p := ⟨H + 1, 3, none⟩) hne1 (.bool d.gone)).setP (p := ⟨H + 1, 4, none⟩) hne1 (.string d.val)
        have hBT := ((((HB4.out.setP (p := ⟨H + 1, 0, none⟩) hnH1 (.string d.row)).setP (p := ⟨H + 1, 1, none⟩) hnH1 (.string d.col)).setP (p := ⟨H + 1, 2, none⟩) hnH1 (.int .i64 d.time)).setP (p := ⟨H + 1, 3, none⟩) hnH1 (.bool d.gone)).setP (p := ⟨H + 1, 4, none⟩) hnH1 (.string d.val)
        have hGT := ((((HG4.out.set 0 (.string d.row)).set 1 (.string d.col)).set 2 (.int .i64 d.time)).set 3 (.bool d.gone)).set 4 (.string d.val)
        have hwT := ((((hbw4.setCell (p := ⟨H + 1, 0, none⟩) (by simp only; omega) (.string d.row)).setCell (p := ⟨H + 1, 1, none⟩) (by simp only; omega) (.string d.col)).setCell (p := ⟨H + 1, 2, none⟩) (by simp only; omega) (.int .i64 d.time)).setCell (p := ⟨H + 1, 3, none⟩) (by simp only; omega) (.bool d.gone)).setCell (p := ⟨H + 1, 4, none⟩) (by simp only; omega) (.string d.val)
        obtain ⟨e0, e1, e2, e3, e4⟩ := hC4.facts
        obtain ⟨t0, t1, t2, t3, t4⟩ := hT4.facts
        obtain ⟨tf0, tf1, tf2, tf3, tf4⟩ := hT4.thaw
        have HTT := hide hTT
        have HRT := hide hRT
        have HCT := hide hCT
        have HBT := hide hBT
        have HGT := hide hGT
        have HWT := hide hwT
        clear hTT hRT hCT hBT hGT hwT hT4 hR4 hB4 hG4 hC4
        go_upto_region 5 with fail
        generalize ((((w4.setCell ⟨H + 1, 0, none⟩ (.string d.row)).setCell ⟨H + 1, 1, none⟩ (.string d.col)).setCell ⟨H + 1, 2, none⟩ (.int .i64 d.time)).setCell ⟨H + 1, 3, none⟩ (.bool d.gone)).setCell ⟨H + 1, 4, none⟩ (.string d.val) = wT at HTT HRT HCT HBT HGT HWT ⊢
        clear e0 e1 e2 e3 e4 t0 t1 t2 t3 t4 tf0 tf1 tf2 tf3 tf4
        obtain ⟨e0, e1, e2, e3, e4⟩ := HCT.out.facts
        obtain ⟨g0, g1, g2, g3, g4⟩ := Bk.facts (c := zeroC) HRT.out
        obtain ⟨k0, k1, k2, k3, k4⟩ := HRT.out.thaw
        simp only [zeroC] at g0 g1 g2 g3 g4
        have hnT : H + 1 ≠ w.heap.size := by omega
        have hnH : H ≠ w.heap.size := by omega
        have HTF := hide (((((HTT.out.setP (p := ⟨w.heap.size, 0, none⟩) hnT (.string d.row)).setP (p := ⟨w.heap.size, 1, none⟩) hnT (.string d.col)).setP (p := ⟨w.heap.size, 2, none⟩) hnT (.int .i64 d.time)).setP (p := ⟨w.heap.size, 3, none⟩) hnT (.bool d.gone)).setP (p := ⟨w.heap.size, 4, none⟩) hnT (.string d.val))
        have HBF := hide (((((HBT.out.setP (p := ⟨w.heap.size, 0, none⟩) hnH (.string d.row)).setP (p := ⟨w.heap.size, 1, none⟩) hnH (.string d.col)).setP (p := ⟨w.heap.size, 2, none⟩) hnH (.int .i64 d.time)).setP (p := ⟨w.heap.size, 3, none⟩) hnH (.bool d.gone)).setP (p := ⟨w.heap.size, 4, none⟩) hnH (.string d.val))
        have HGF := hide (((((HGT.out.past (p := ⟨w.heap.size, 0, none⟩) (Nat.le_refl _) (.string d.row)).past (p := ⟨w.heap.size, 1, none⟩) (Nat.le_refl _) (.string d.col)).past (p := ⟨w.heap.size, 2, none⟩) (Nat.le_refl _) (.int .i64 d.time)).past (p := ⟨w.heap.size, 3, none⟩) (Nat.le_refl _) (.bool d.gone)).past (p := ⟨w.heap.size, 4, none⟩) (Nat.le_refl _) (.string d.val))
        have HWF := hide (((((HWT.out.setCell (p := ⟨w.heap.size, 0, none⟩) hb00.size (.string d.row)).setCell (p := ⟨w.heap.size, 1, none⟩) hb00.size (.string d.col)).setCell (p := ⟨w.heap.size, 2, none⟩) hb00.size (.int .i64 d.time)).setCell (p := ⟨w.heap.size, 3, none⟩) hb00.size (.bool d.gone)).setCell (p := ⟨w.heap.size, 4, none⟩) hb00.size (.string d.val))
        have HRW : Hid (remX xs2 < remW w H) := hide (by have h1 := HTOT.out; have h2 := HRX.out; have h3 := HREM.out; omega)
        go_wp2_with fail
        exact bodyPost_ret (v := .tuple #[cA d, .bool true]) (by simp [results, Try.results92, go_sem, cA, g0, g1, g2, g3, g4]) rfl ⟨by rw [HDS.out], ⟨xs2, hs2, d, HBF.out, HA2.out, HP2.out, HOK2.out, HTF.out, HR5.out, HWF.out, hH0⟩, by rw [remW_bk HBF.out]; exact HRW.out, HGF.out⟩


end Go.Proofs.Ytlebbkbbmgmmjad
