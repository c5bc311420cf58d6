/-
  The walks beneath the laws MergeJoins and MergeCompacts: all together, the closures.
-/
import Derived.Test.YtlebbkbbmgmmjacMergeB2
import Derived.Test.YtlebbkbbmgmmjacGroupsMath
import Derived.Test.YtlebbkbbmgmmjacCellS6
namespace Go.Proofs.Ytlebbkbbmgmmjac
open Go.RowKit

theorem mrg_snoc {L m : List Cl} {k : Nat} {c : Cl} (hL : L.Pairwise Lt) (hm : m.Pairwise Lt) (hc : m[k]? = some c) : mrg (mrg L (m.take k)) [c] = mrg L (m.take (k + 1)) := by
  have hk := (List.getElem?_eq_some_iff.1 hc).1
  have hpt : (m.take k).Pairwise Lt := hm.sublist (List.take_sublist _ _)
  rw [mrg_assoc hL hpt (by simp)]
  congr 1
  rw [List.take_add_one, hc]
  refine mrg_end fun x hx => ?_
  obtain ⟨i, hi, e⟩ := List.getElem_of_mem hx
  rw [List.length_take] at hi
  rw [List.getElem_take] at e
  rw [← e, ← (List.getElem?_eq_some_iff.1 hc).2]
  exact List.pairwise_iff_getElem.1 hm i k (by omega) hk (by omega)

set_option maxRecDepth 100000 in
set_option maxHeartbeats 2000000 in
theorem PutCells_from (v0 v : Value) (L m : List Cl) (w : World) (h0 : RdC w v0 L) (hv : RdC w v m) (hL : L.Pairwise Lt) (hm : m.Pairwise Lt) (hl : L.length + m.length ≤ 100000) :
    Calls Try.prog 68 #[v0, v] w fun e w' => ∃ v', e = .returned v' ∧ RdC w' v' (mrg L m) ∧ Below w.heap.size w w' := by
  obtain ⟨ao0, cap0, hvv0, _, _⟩ := h0.shape
  obtain ⟨ao, cap, hvv, hc1, hc2⟩ := hv.shape
  subst hvv hvv0
  unfold maxLen at hc2
  have HL := hide hL
  have HM := hide hm
  have H0 := hide h0
  clear hL hm h0
  go_enter Try.func68, Try.ntmps68
  go_wp2_with fail
  go_loopw [0, 5] (fun u i wr => ∃ (k : Nat) (acc : List Cl) (uo : Option Addr) (uc : Nat), k ≤ m.length ∧ i = .int .i64 k ∧ u = .slice uo acc.length uc ∧ RdC wr (.slice uo acc.length uc) acc ∧ acc = mrg L (m.take k) ∧ Below w.heap.size w wr)
    (fun _ i _ => m.length - (intOf i).toNat)
  case atStart => exact ⟨0, L, ao0, cap0, by omega, rfl, rfl, H0.out, by rw [List.take_zero, mrg_nil_right], Below.refl _ _⟩
  case round =>
    obtain ⟨k, acc, uo, uc, hk, rfl, rfl, hacc, hsrt, hbel⟩ := hrel
    have HS := hide hsrt
    have hzr := hbel.size
    have hla : acc.length ≤ 100000 := by
      have h1 := mrg_len L (m.take k)
      rw [← hsrt, List.length_take] at h1
      omega
    clear hsrt
    by_cases hlt : k < m.length
    · obtain ⟨c, hc⟩ : ∃ c, m[k]? = some c := ⟨_, List.getElem?_eq_getElem hlt⟩
      obtain ⟨b, off, rfl, _, hck⟩ := hv.hereD hc
      obtain ⟨c0, c1, c2, c3, c4⟩ := hck.below hbel
      have hk1 : (0 : Int) ≤ (k : Int) := by omega
      have hk2 : (k : Int) < (m.length : Int) := by omega
      have HN : Hid (mrg acc [c] = mrg L (m.take (k + 1))) := hide (by rw [HS.out]; exact mrg_snoc HL.out HM.out hc)
      have HP : Hid (acc.Pairwise Lt) := hide (by rw [HS.out]; exact mrg_pw _ _ HL.out (HM.out.sublist (List.take_sublist _ _)))
      clear hc hck
      go_wp2_with fail
      refine (PutCell_any _ acc c _ hacc HP.out hla).mono ?_
      rintro e w1 ⟨v1, rfl, hr1, hb1⟩
      obtain ⟨ao1, cap1, hv1, _, _⟩ := hr1.shape
      subst hv1
      go_wp2_with fail
      go_roundw
      case rel => exact ⟨k + 1, mrg acc [c], _, _, by omega, by go_num, rfl, hr1, HN.out, hbel.trans (hb1.mono hzr)⟩
      case measure => simp [intOf]; omega
    · have HM2 : Hid (acc = mrg L m) := hide (by have := HS.out; rw [List.take_of_length_le (by omega)] at this; exact this)
      go_wp2_with fail
      go_ret
      exact ⟨_, rfl, by rw [← HM2.out]; exact hacc, hbel⟩

theorem joinR_len : ∀ (ls : List (List Cl)), (joinR ls).length ≤ tlen ls
  | [] => by simp [joinR]
  | l :: ls => by
    have h1 := joinR_len ls
    have h2 := mrg_len (joinR ls) l
    simp only [joinR, tlen, List.map_cons, List.sum_cons] at *
    omega

theorem tlen_split (ls : List (List Cl)) (k : Nat) : tlen ls = tlen (ls.take k) + tlen (ls.drop k) := by
  have h : ∀ a b : List (List Cl), tlen (a ++ b) = tlen a + tlen b := fun a b => by simp [tlen]
  have := h (ls.take k) (ls.drop k)
  rwa [List.take_append_drop] at this

theorem tlen_drop (ls : List (List Cl)) (k : Nat) : tlen (ls.drop k) ≤ tlen ls := by
  have := tlen_split ls k
  omega

theorem joinR_drop {ls : List (List Cl)} {k : Nat} {l : List Cl} (h : ls[k]? = some l) : joinR (ls.drop k) = mrg (joinR (ls.drop (k + 1))) l := by
  have hk := (List.getElem?_eq_some_iff.1 h).1
  rw [List.drop_eq_getElem_cons hk, (List.getElem?_eq_some_iff.1 h).2]
  rfl

set_option maxRecDepth 100000 in
set_option maxHeartbeats 2000000 in
theorem together_any (v : Value) (ls : List (List Cl)) (w : World) (hv : RdL w v ls) (hf : ∀ l ∈ ls, l.Pairwise Lt) (hlen : ls.length ≤ 100) (ht : tlen ls ≤ 3000) :
    Calls Try.prog 37 #[v] w fun e w' => ∃ v', e = .returned v' ∧ RdC w' v' (joinR ls) ∧ Below w.heap.size w w' := by
  obtain ⟨ao, cap, hvv, hc1, hc2⟩ := hv.shape
  subst hvv
  unfold maxLen at hc2
  have HF := hide hf
  clear hf
  go_enter Try.func37, Try.ntmps37
  go_wp2_with fail
  go_loopw [3, 4] (fun u i wr => ∃ (k : Nat) (acc : List Cl) (uo : Option Addr) (uc : Nat), k ≤ ls.length ∧ i = .int .i64 k ∧ u = .slice uo acc.length uc ∧ RdC wr (.slice uo acc.length uc) acc ∧ acc = joinR (ls.drop k) ∧ Below w.heap.size w wr)
    (fun _ i _ => (intOf i).toNat)
  case atStart => exact ⟨ls.length, [], none, 0, Nat.le_refl _, rfl, rfl, RdC.nil _, by rw [List.drop_length]; rfl, Below.refl _ _⟩
  case round =>
    obtain ⟨k, acc, uo, uc, hk, rfl, rfl, hacc, hsrt, hbel⟩ := hrel
    have HS := hide hsrt
    have hzr := hbel.size
    clear hsrt
    by_cases hk0 : 0 < k
    · obtain ⟨j, hj⟩ : ∃ j, j = k - 1 := ⟨_, rfl⟩
      obtain ⟨l, hl⟩ : ∃ l, ls[j]? = some l := ⟨_, List.getElem?_eq_getElem (by omega)⟩
      obtain ⟨b, off, u, rfl, hb, hcell, hrc⟩ := hv.here hl
      have hc0 := (hbel.cell (p := ⟨b, off + j, none⟩) hb).trans hcell
      obtain ⟨u1, uc1, huu, _, _⟩ := hrc.shape
      subst huu
      have hw : IntKind.i64.wrap ((k : Int) - 1) = (j : Int) := by rw [IntKind.wrap_i64]; omega
      have hj1 : (0 : Int) ≤ (j : Int) := by omega
      have hj2 : (j : Int) < (ls.length : Int) := by omega
      have hg0 : decide ((0 : Int) < (k : Int)) = true := by simp; omega
      have hg1 : decide (0 < k) = true := by simp; omega
      have hjd : ls.drop k = ls.drop (j + 1) := by rw [hj]; congr 1; omega
      have HN : Hid (mrg acc l = joinR (ls.drop j)) := hide (by rw [HS.out, hjd, joinR_drop hl])
      have HP : Hid (acc.Pairwise Lt) := hide (by rw [HS.out]; exact joinR_pw fun l hl => HF.out l (List.mem_of_mem_drop hl))
      have HPl := hide (HF.out l (List.mem_of_getElem? hl))
      have hla : acc.length + l.length ≤ 100000 := by
        have h1 := joinR_len (ls.drop k)
        have h2 := tlen_drop ls k
        have h3 : l.length ≤ tlen ls := by
          have h4 := tlen_take hl
          have h5 := tlen_split ls (j + 1)
          omega
        rw [← HS.out] at h1
        omega
      have hrl := hrc.below hbel
      have HJ := hide hj
      clear hl hcell hrc hjd hj
      go_wp2_with fail
      refine (PutCells_from _ _ acc l _ hacc hrl HP.out HPl.out hla).mono ?_
      rintro e w1 ⟨v1, rfl, hr1, hb1⟩
      obtain ⟨ao1, cap1, hv1, _, _⟩ := hr1.shape
      subst hv1
      go_wp2_with fail
      go_roundw
      case rel => exact ⟨j, mrg acc l, _, _, by omega, rfl, rfl, hr1, HN.out, hbel.trans (hb1.mono hzr)⟩
      case measure => have := HJ.out; simp [intOf]; omega
    · have hk1 : k = 0 := by omega
      subst hk1
      have HJ : Hid (acc = joinR ls) := hide (by rw [HS.out]; rfl)
      go_wp2_with fail
      go_ret
      exact ⟨_, rfl, by rw [← HJ.out]; exact hacc, hbel⟩

set_option maxRecDepth 100000 in
set_option maxHeartbeats 1000000 in
theorem Joins1_any (L : Nat) (v : Value) (cs : List Cl) (w : World) (hL : w.cell? ⟨L, 0, none⟩ = some v) (hv : RdC w v cs) :
    Calls Try.prog 38 #[.pointer (some ⟨L, 0, none⟩)] w fun e w' => ∃ v', e = .returned v' ∧ RdC w' v' cs ∧ Below w.heap.size w w' := by
  obtain ⟨ao, cap, hu, hc1, hc2⟩ := hv.shape
  subst hu
  go_enter Try.func38, Try.ntmps38
  go_wp2_with fail
  go_ret
  exact ⟨_, rfl, hv, Below.refl _ _⟩

set_option maxRecDepth 100000 in
set_option maxHeartbeats 1000000 in
theorem Joins2_any (L A : Nat) (v : Value) (cs : List Cl) (a b : ByteArray) (t m : Int) (w : World) (hL : w.cell? ⟨L, 0, none⟩ = some v) (hA : Bk w A 66 #[.string a, .string b, .int .i64 t, .int .i64 m]) (hv : RdC w v cs) (hp : cs.Pairwise Lt) (hm0 : 0 ≤ m) (hl : cs.length ≤ 1000) :
    Calls Try.prog 40 #[.pointer (some ⟨L, 0, none⟩), .pointer (some ⟨A, 0, none⟩)] w fun e w' => ∃ v', e = .returned v' ∧ RdC w' v' (scannedR cs a b t m) ∧ Below w.heap.size w w' := by
  obtain ⟨ao, cap, hu, hc1, hc2⟩ := hv.shape
  subst hu
  have a0 := hA.cell 0
  have a1 := hA.cell 1
  have a2 := hA.cell 2
  have a3 := hA.cell 3
  simp at a0 a1 a2 a3
  have HP := hide hp
  clear hp
  go_enter Try.func40, Try.ntmps40
  go_wp2_with fail
  refine (Scanned_any _ cs a b t m _ hv HP.out hm0 hl).mono ?_
  rintro e w1 ⟨v1, rfl, hr1, hb1⟩
  go_wp2_with fail
  go_ret
  exact ⟨_, rfl, hr1, hb1⟩

set_option maxRecDepth 100000 in
set_option maxHeartbeats 1000000 in
theorem cellsAsJ1_true (p1 v : Value) (cs : List Cl) (c a : Int) (w : World) (hv : RdC w v cs) (hbad : c ≠ 0 → cs = [])
    (hcl : c = 0 → ∀ W, Below w.heap.size w W → Calls Try.prog 38 #[p1] W fun e w' => ∃ v', e = .returned v' ∧ RdC w' v' cs ∧ Below W.heap.size W w') :
    Calls Try.prog 23 #[v, fltC (c, a), fltC (c, a), .func (.func 38) #[] #[p1]] w fun e w' => e = .returned (.bool true) ∧ Below w.heap.size w w' := by
  obtain ⟨ao, cap, hu, hc1, hc2⟩ := hv.shape
  subst hu
  unfold fltC
  have hbC : Below w.heap.size w ((w.alloc (.cells #[.int .i64 c, .int .i64 a] 26)).alloc (.cells #[.int .i64 c, .int .i64 a] 26)) := (below_alloc' _ _).trans ((below_alloc' _ _).mono (by simp))
  have HBC := hide hbC
  by_cases hc : c = 0
  · subst hc
    have HCL := hide (hcl rfl)
    clear hcl hbad hbC
    go_enter Try.func23, Try.ntmps23
    go_wp2_with fail
    refine (HCL.out _ HBC.out).mono ?_
    rintro e w1 ⟨v1, rfl, hr1, hb1⟩
    have hbw1 := HBC.out.trans (hb1.mono (by simp; omega))
    go_wp2_with fail
    refine (SameCells_any _ _ cs _ (hv.below hbw1) hr1).mono ?_
    rintro e w2 ⟨rfl, hb2⟩
    have hbw2 := hbw1.trans (hb2.mono hbw1.size)
    go_wp2_with fail
    go_ret
    exact ⟨rfl, hbw2⟩
  · have hcb : (c != 0) = true := by simp [hc]
    have he := hbad hc
    subst he
    clear hcl hbad hc hbC
    go_enter Try.func23, Try.ntmps23
    go_wp2_with fail
    go_ret
    exact ⟨by simp, HBC.out⟩

set_option maxRecDepth 100000 in
set_option maxHeartbeats 1000000 in
theorem cellsAsJ2_true (p1 p2 v : Value) (cs : List Cl) (c a : Int) (w : World) (hv : RdC w v cs) (hbad : c ≠ 0 → cs = [])
    (hcl : c = 0 → ∀ W, Below w.heap.size w W → Calls Try.prog 40 #[p1, p2] W fun e w' => ∃ v', e = .returned v' ∧ RdC w' v' cs ∧ Below W.heap.size W w') :
    Calls Try.prog 23 #[v, fltC (c, a), fltC (c, a), .func (.func 40) #[] #[p1, p2]] w fun e w' => e = .returned (.bool true) ∧ Below w.heap.size w w' := by
  obtain ⟨ao, cap, hu, hc1, hc2⟩ := hv.shape
  subst hu
  unfold fltC
  have hbC : Below w.heap.size w ((w.alloc (.cells #[.int .i64 c, .int .i64 a] 26)).alloc (.cells #[.int .i64 c, .int .i64 a] 26)) := (below_alloc' _ _).trans ((below_alloc' _ _).mono (by simp))
  have HBC := hide hbC
  by_cases hc : c = 0
  · subst hc
    have HCL := hide (hcl rfl)
    clear hcl hbad hbC
    go_enter Try.func23, Try.ntmps23
    go_wp2_with fail
    refine (HCL.out _ HBC.out).mono ?_
    rintro e w1 ⟨v1, rfl, hr1, hb1⟩
    have hbw1 := HBC.out.trans (hb1.mono (by simp; omega))
    go_wp2_with fail
    refine (SameCells_any _ _ cs _ (hv.below hbw1) hr1).mono ?_
    rintro e w2 ⟨rfl, hb2⟩
    have hbw2 := hbw1.trans (hb2.mono hbw1.size)
    go_wp2_with fail
    go_ret
    exact ⟨rfl, hbw2⟩
  · have hcb : (c != 0) = true := by simp [hc]
    have he := hbad hc
    subst he
    clear hcl hbad hc hbC
    go_enter Try.func23, Try.ntmps23
    go_wp2_with fail
    go_ret
    exact ⟨by simp, HBC.out⟩

set_option maxRecDepth 100000 in
set_option maxHeartbeats 1000000 in
theorem cellsAsC1_true (p1 p2 p3 v : Value) (cs : List Cl) (c a : Int) (w : World) (hv : RdC w v cs) (hbad : c ≠ 0 → cs = [])
    (hcl : c = 0 → ∀ W, Below w.heap.size w W → Calls Try.prog 43 #[p1, p2, p3] W fun e w' => ∃ v', e = .returned v' ∧ RdC w' v' cs ∧ Below W.heap.size W w') :
    Calls Try.prog 23 #[v, fltC (c, a), fltC (c, a), .func (.func 43) #[] #[p1, p2, p3]] w fun e w' => e = .returned (.bool true) ∧ Below w.heap.size w w' := by
  obtain ⟨ao, cap, hu, hc1, hc2⟩ := hv.shape
  subst hu
  unfold fltC
  have hbC : Below w.heap.size w ((w.alloc (.cells #[.int .i64 c, .int .i64 a] 26)).alloc (.cells #[.int .i64 c, .int .i64 a] 26)) := (below_alloc' _ _).trans ((below_alloc' _ _).mono (by simp))
  have HBC := hide hbC
  by_cases hc : c = 0
  · subst hc
    have HCL := hide (hcl rfl)
    clear hcl hbad hbC
    go_enter Try.func23, Try.ntmps23
    go_wp2_with fail
    refine (HCL.out _ HBC.out).mono ?_
    rintro e w1 ⟨v1, rfl, hr1, hb1⟩
    have hbw1 := HBC.out.trans (hb1.mono (by simp; omega))
    go_wp2_with fail
    refine (SameCells_any _ _ cs _ (hv.below hbw1) hr1).mono ?_
    rintro e w2 ⟨rfl, hb2⟩
    have hbw2 := hbw1.trans (hb2.mono hbw1.size)
    go_wp2_with fail
    go_ret
    exact ⟨rfl, hbw2⟩
  · have hcb : (c != 0) = true := by simp [hc]
    have he := hbad hc
    subst he
    clear hcl hbad hc hbC
    go_enter Try.func23, Try.ntmps23
    go_wp2_with fail
    go_ret
    exact ⟨by simp, HBC.out⟩

end Go.Proofs.Ytlebbkbbmgmmjac
