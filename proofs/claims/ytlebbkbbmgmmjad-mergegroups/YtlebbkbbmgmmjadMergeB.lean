/-
  The walks beneath the laws of lists made one: the example, sizes, faults.
-/
import Derived.Test.YtlebbkbbmgmmjadMergeW13
import Derived.Test.YtlebbkbbmgmmjadMergeW14
import Derived.Test.YtlebbkbbmgmmjadCellB1
import Derived.Test.YtlebbkbbmgmmjadCellR2
import Derived.Test.YtlebbkbbmgmmjadCellS5
namespace Go.Proofs.Ytlebbkbbmgmmjad
open Go.RowKit

/-- A list of one list. -/
theorem RdL.one {w : World} {u : Value} {l : List Cl} (h : RdC w u l) (t : TypeId) : RdL (w.alloc (.cells #[u] t)) (.slice (some ⟨w.heap.size, 0, none⟩) 1 1) [l] := by
  have h1 := Pcs.snoc (Pcs.nil (w.alloc (.cells #[u] t))) (h.alloc (.cells #[u] t))
  exact ⟨[u], Rd.new w u t, h1.1, h1.2.1, h1.2.2⟩

theorem joinR_one (l : List Cl) : joinR [l] = l := by simp [joinR, mrg]

theorem cmpR_ver : cmpR [verC] 2 false = ([⟨⟨#[114]⟩, ⟨#[99]⟩, 2, false, ⟨#[98]⟩⟩], (0, 0)) := by
  have h1 : (lfR [verC]).1 = 0 := by decide +kernel
  have h2 : jnR [verC] = (verC, (0, 0)) := by rw [jnR_ok h1 (by rw [joinR_one]; decide), joinR_one]
  rw [cmpR_ok (by rw [h2]) (by decide), h2]
  show (compGo 2 false zeroC verC, ((0 : Int), (0 : Int))) = _
  unfold verC
  rw [compGo_hit (by decide +kernel), compGo_miss (by decide +kernel)]
  rfl

set_option maxRecDepth 100000 in
set_option maxHeartbeats 1000000 in
theorem mergeBegun_any (w : World) : Calls Try.prog 9 #[] w fun e w' => e = .returned (.bool true) ∧ Below w.heap.size w w' := by
  go_enter Try.func9, Try.ntmps9
  go_wp2_with fail
  refine (versions_any _).mono ?_
  rintro e w1 ⟨v1, rfl, hr1, hb1⟩
  obtain ⟨ao1, cap1, hv1, _, _⟩ := hr1.shape
  subst hv1
  have hL := RdL.one hr1 30
  have hbL := hb1.alloc hb1.size (.cells #[.slice ao1 verC.length cap1] 30)
  have HL := hide hL
  have HBL := hide hbL
  have hz1 := hb1.size
  clear hL hbL hr1 hb1
  generalize verC.length = n1 at *
  go_wp2_with fail
  refine (Compact_any _ [verC] 2 false _ HL.out).mono ?_
  rintro e w2 ⟨v2, rfl, hr2, hb2, hn2⟩
  rw [cmpR_ver] at hr2 ⊢
  simp only at hr2 ⊢
  have hb02 : Below w.heap.size w w2 := HBL.out.trans (hb2.mono HBL.out.size)
  have hz2 := hb02.size
  obtain ⟨ao2, cap2, hv2, _, _⟩ := hr2.shape
  subst hv2
  have hF2 := Bk.new w2 28 #[.int .i64 0, .int .i64 0]
  have hb03 := hb02.alloc hz2 (.cells #[.int .i64 0, .int .i64 0] 28)
  have hr3 := hr2.alloc (.cells #[.int .i64 0, .int .i64 0] 28)
  have HR3 := hide hr3
  have HB3 := hide hb03
  clear hb2 hn2 hr2 hF2 hr3 hb03 HL HBL
  unfold fltC
  go_wp2_with fail
  refine (versions_any _).mono ?_
  rintro e w4 ⟨v4, rfl, hr4, hb4⟩
  obtain ⟨ao4, cap4, hv4, hd1, hd2⟩ := hr4.shape
  have hl4 : verC.length = 2 := rfl
  rw [hl4] at hv4 hd1
  subst hv4
  have hs4 := run_slice_uptoC (P := Try.prog) Try.underlying30 (by kernel_rfl) Try.info91 ao4 2 cap4 1 1 rfl (by omega)
  have hr5 := hr4.uptoC (hi := 1) (by omega)
  generalize Go.sliced ao4 0 1 cap4 5 = V at hs4 hr5
  obtain ⟨vo, vc, hvv, _, _⟩ := hr5.shape
  subst hvv
  have hr6 := HR3.out.below hb4
  have HR5 := hide hr5
  have HR6 := hide hr6
  have hb05 : Below w.heap.size w w4 := HB3.out.trans (hb4.mono HB3.out.size)
  clear hr4 hr5 hr6 hb4 HR3 HB3
  go_wp2_with fail
  refine (SameCells_any _ _ [⟨⟨#[114]⟩, ⟨#[99]⟩, 2, false, ⟨#[98]⟩⟩] _ HR6.out HR5.out).mono ?_
  rintro e w6 ⟨rfl, hb6⟩
  go_wp2_with fail
  go_ret
  exact ⟨rfl, hb05.trans (hb6.mono hb05.size)⟩

/-- How many cells lists have. -/
def tlen (ls : List (List Cl)) : Nat := (ls.map List.length).sum

theorem tlen_take {ls : List (List Cl)} {k : Nat} {l : List Cl} (h : ls[k]? = some l) : tlen (ls.take (k + 1)) = tlen (ls.take k) + l.length := by
  unfold tlen
  rw [List.take_add_one, h]
  simp

theorem tlen_le {ls : List (List Cl)} {B : Nat} (h : ∀ l ∈ ls, l.length ≤ B) : ∀ k, k ≤ ls.length → tlen (ls.take k) ≤ k * B
  | 0, _ => by simp [tlen]
  | k + 1, hk => by
    have hg : ls[k]? = some (ls[k]'(by omega)) := List.getElem?_eq_getElem (by omega)
    rw [tlen_take hg]
    have h1 := tlen_le h k (by omega)
    have h2 := h _ (List.mem_of_getElem? hg)
    rw [Nat.succ_mul]
    omega

def vastB (ls : List (List Cl)) : Bool := decide (100 < ls.length ∨ 150 < tlen ls ∧ tlen ls < 1000 ∨ 3000 < tlen ls)

theorem vastB_false {ls : List (List Cl)} (h : vastB ls = false) : ls.length ≤ 100 ∧ tlen ls ≤ 3000 := by
  unfold vastB at h
  simp at h
  omega

set_option maxRecDepth 100000 in
set_option maxHeartbeats 1000000 in
theorem vastLists_any (v : Value) (ls : List (List Cl)) (w : World) (hv : RdL w v ls) (hb : ∀ l ∈ ls, l.length ≤ 2199023255552) :
    Calls Try.prog 10 #[v] w fun e w' => e = .returned (.bool (vastB ls)) ∧ Below w.heap.size w w' := by
  obtain ⟨ao, cap, hvv, hc1, hc2⟩ := hv.shape
  subst hvv
  unfold maxLen at hc2
  have HB := hide hb
  clear hb
  by_cases hbig : 100 < ls.length
  · have HE := hide (show vastB ls = true by simp [vastB, hbig])
    go_enter Try.func10, Try.ntmps10
    go_wp2_with fail
    go_loopw [3, 4] (fun n i wr => ∃ (k : Nat) (z : Int), k ≤ ls.length ∧ i = .int .i64 k ∧ n = .int .i64 z ∧ wr = w)
      (fun _ i _ => ls.length - (intOf i).toNat)
    case atStart => exact ⟨0, 0, by omega, rfl, rfl, rfl⟩
    case round =>
      obtain ⟨k, z, hk, rfl, rfl, rfl⟩ := hrel
      by_cases hlt : k < ls.length
      · obtain ⟨l, hl⟩ : ∃ l, ls[k]? = some l := ⟨_, List.getElem?_eq_getElem hlt⟩
        obtain ⟨b, off, u, rfl, hb, hcell, hrc⟩ := hv.here hl
        have hk1 : (0 : Int) ≤ (k : Int) := by omega
        have hk2 : (k : Int) < (ls.length : Int) := by omega
        obtain ⟨uo, uc, huu, _, _⟩ := hrc.shape
        subst huu
        clear hl hrc
        go_wp2_with fail
        go_roundw
        case rel => exact ⟨k + 1, _, by omega, by go_num, rfl, trivial⟩
        case measure => simp [intOf]; omega
      · have hd : decide ((100 : Int) < (ls.length : Int)) = true := by simp; omega
        go_wp2_with fail
        go_ret
        exact ⟨by rw [HE.out]; rfl, Below.refl _ _⟩
  · have hsm : ls.length ≤ 100 := by omega
    go_enter Try.func10, Try.ntmps10
    go_wp2_with fail
    go_loopw [3, 4] (fun n i wr => ∃ (k : Nat), k ≤ ls.length ∧ i = .int .i64 k ∧ n = .int .i64 (tlen (ls.take k)) ∧ wr = w)
      (fun _ i _ => ls.length - (intOf i).toNat)
    case atStart => exact ⟨0, by omega, rfl, by simp [tlen], rfl⟩
    case round =>
      obtain ⟨k, hk, rfl, rfl, rfl⟩ := hrel
      have hT := tlen_le HB.out k hk
      by_cases hlt : k < ls.length
      · obtain ⟨l, hl⟩ : ∃ l, ls[k]? = some l := ⟨_, List.getElem?_eq_getElem hlt⟩
        have hT2 := tlen_take hl
        have hl2 := HB.out l (List.mem_of_getElem? hl)
        generalize hTk : tlen (ls.take k) = T at *
        obtain ⟨b, off, u, rfl, hb, hcell, hrc⟩ := hv.here hl
        have hk1 : (0 : Int) ≤ (k : Int) := by omega
        have hk2 : (k : Int) < (ls.length : Int) := by omega
        obtain ⟨uo, uc, huu, _, _⟩ := hrc.shape
        subst huu
        have hTb : T ≤ 100 * 2199023255552 := Nat.le_trans hT (Nat.mul_le_mul_right _ (by omega))
        have HT2 := hide hT2
        clear hl hrc hT hT2 hTk
        go_wp2_with fail
        go_roundw
        case rel => exact ⟨k + 1, by omega, by go_num, by rw [HT2.out]; go_num, trivial⟩
        case measure => simp [intOf]; omega
      · have hkl : k = ls.length := by omega
        subst hkl
        rw [List.take_length] at *
        have hd : decide ((100 : Int) < (ls.length : Int)) = false := by simp; omega
        have hd0 : decide (100 < ls.length) = false := by simp; omega
        have hTb : tlen ls ≤ 100 * 2199023255552 := Nat.le_trans hT (Nat.mul_le_mul_right _ (by omega))
        have h4 : tlen ls ≤ 150 ∨ 150 < tlen ls ∧ tlen ls < 1000 ∨ 1000 ≤ tlen ls ∧ tlen ls ≤ 3000 ∨ 3000 < tlen ls := by omega
        have hval : ∀ b, (b = true ↔ (150 < tlen ls ∧ tlen ls < 1000 ∨ 3000 < tlen ls)) → vastB ls = b := fun b hb => by
          unfold vastB
          cases b
          · simp at hb ⊢; omega
          · simp at hb ⊢; omega
        have HV := hide hval
        clear hval
        generalize tlen ls = T at *
        rcases h4 with h | ⟨h, h2⟩ | ⟨h, h2⟩ | h
        · have e1 : decide (150 < T) = false := by simp; omega
          have e2 : decide (3000 < T) = false := by simp; omega
          have e3 : decide ((150 : Int) < (T : Int)) = false := by simp; omega
          have e4 : decide ((3000 : Int) < (T : Int)) = false := by simp; omega
          have HE := hide (HV.out false (by simp; omega))
          go_wp2_with fail
          go_ret
          exact ⟨by rw [HE.out]; rfl, Below.refl _ _⟩
        · have e1 : decide (150 < T) = true := by simp; omega
          have e2 : decide (T < 1000) = true := by simp; omega
          have e3 : decide ((150 : Int) < (T : Int)) = true := by simp; omega
          have e4 : decide ((T : Int) < 1000) = true := by simp; omega
          have HE := hide (HV.out true (by simp; omega))
          go_wp2_with fail
          go_ret
          exact ⟨by rw [HE.out]; rfl, Below.refl _ _⟩
        · have e1 : decide (150 < T) = true := by simp; omega
          have e2 : decide (T < 1000) = false := by simp; omega
          have e3 : decide ((150 : Int) < (T : Int)) = true := by simp; omega
          have e4 : decide ((T : Int) < 1000) = false := by simp; omega
          have e5 : decide (3000 < T) = false := by simp; omega
          have e6 : decide ((3000 : Int) < (T : Int)) = false := by simp; omega
          have HE := hide (HV.out false (by simp; omega))
          go_wp2_with fail
          go_ret
          exact ⟨by rw [HE.out]; rfl, Below.refl _ _⟩
        · have e1 : decide (150 < T) = true := by simp; omega
          have e2 : decide (T < 1000) = false := by simp; omega
          have e3 : decide ((150 : Int) < (T : Int)) = true := by simp; omega
          have e4 : decide ((T : Int) < 1000) = false := by simp; omega
          have e5 : decide (3000 < T) = true := by simp; omega
          have e6 : decide ((3000 : Int) < (T : Int)) = true := by simp; omega
          have HE := hide (HV.out true (by simp; omega))
          go_wp2_with fail
          go_ret
          exact ⟨by rw [HE.out]; rfl, Below.refl _ _⟩

end Go.Proofs.Ytlebbkbbmgmmjad
