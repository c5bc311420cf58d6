/-
  The walks over the document's answers of cells: what is seen.
-/
import Derived.Test.YtlebbkbbmgmmjacCellR2
namespace Go.Proofs.Ytlebbkbbmgmmjac
open Go.RowKit

/-- A place at a time. -/
def hitB (k : Ky) (t : Int) (c : Cl) : Bool := isAt k c && decide (c.time ≤ t)
/-- The cell that the document sees. -/
def seenR (cs : List Cl) (k : Ky) (t : Int) : Cl × Bool :=
  match cs.find? (hitB k t) with
  | none => (zeroC, false)
  | some c => if c.gone then (zeroC, false) else (c, true)

theorem find_snoc {p : Cl → Bool} {cs : List Cl} {k : Nat} {c : Cl} (hc : cs[k]? = some c) (h : (cs.take k).find? p = none) (hp : p c = false) : (cs.take (k + 1)).find? p = none := by
  rw [List.take_add_one, hc, List.find?_append, h]
  simp [hp]

theorem find_now {p : Cl → Bool} {cs : List Cl} {k : Nat} {c : Cl} (hc : cs[k]? = some c) (h : (cs.take k).find? p = none) (hp : p c = true) : cs.find? p = some c := by
  obtain ⟨hk, e⟩ := List.getElem?_eq_some_iff.1 hc
  have : cs = cs.take k ++ c :: cs.drop (k + 1) := by rw [← e, ← List.drop_eq_getElem_cons hk, List.take_append_drop]
  rw [this, List.find?_append, h]
  simp [hp]

theorem hitB_later {cs : List Cl} (hp : cs.Pairwise Lt) {j k : Nat} {c d : Cl} (hj : cs[j]? = some d) (hk : cs[k]? = some c) (hjk : j < k) (hrc : rc c = rc d) : decide (d.time < c.time) = false := by
  obtain ⟨h1, e1⟩ := List.getElem?_eq_some_iff.1 hj
  obtain ⟨h2, e2⟩ := List.getElem?_eq_some_iff.1 hk
  have := List.pairwise_iff_getElem.1 hp j k h1 h2 hjk
  rw [e1, e2] at this
  rcases this with h | ⟨_, h⟩
  · exact absurd hrc.symm (kl_ne h)
  · simp; omega

theorem hit_cases (row col : ByteArray) (t : Int) (c : Cl) : hitB (row.toList, col.toList) t c = false ∧ (c.row.toList == row.toList) = false ∨ hitB (row.toList, col.toList) t c = false ∧ (c.row.toList == row.toList) = true ∧ (c.col.toList == col.toList) = false ∨ hitB (row.toList, col.toList) t c = false ∧ (c.row.toList == row.toList) = true ∧ (c.col.toList == col.toList) = true ∧ decide (c.time ≤ t) = false ∨ hitB (row.toList, col.toList) t c = true ∧ (c.row.toList == row.toList) = true ∧ (c.col.toList == col.toList) = true ∧ decide (c.time ≤ t) = true := by
  unfold hitB isAt
  cases (c.row.toList == row.toList) <;> cases (c.col.toList == col.toList) <;> cases decide (c.time ≤ t) <;> simp

theorem hitB_rc {k : Ky} {t : Int} {c : Cl} (h : hitB k t c = true) : rc c = k := by
  unfold hitB at h
  rw [Bool.and_eq_true] at h
  exact isAt_iff.1 h.1

theorem RdC.hereC {w : World} {ao : Option Addr} {n cap : Nat} {cs : List Cl} (h : RdC w (.slice ao n cap) cs) {i : Nat} {c : Cl} (hi : cs[i]? = some c) :
    ∃ b off, ao = some ⟨b, off, none⟩ ∧ b < w.heap.size ∧ At w b (off + i * 5) c := by
  obtain ⟨ao', cap', hv, _, _, hat⟩ := h.at
  simp only [Value.slice.injEq] at hv
  obtain ⟨rfl, _, _⟩ := hv
  obtain ⟨hl, e⟩ := List.getElem?_eq_some_iff.1 hi
  obtain ⟨b, off, ha, hb, hc⟩ := hat i hl
  exact ⟨b, off, ha, hb, e ▸ hc i hl⟩

set_option maxRecDepth 100000 in
set_option maxHeartbeats 2000000 in
theorem SeenCell_any (v : Value) (cs : List Cl) (row col : ByteArray) (t : Int) (w : World) (hv : RdC w v cs) (hp : cs.Pairwise Lt) :
    Calls Try.prog 28 #[v, .string row, .string col, .int .i64 t] w fun e w' => e = .returned (.tuple #[cA (seenR cs (row.toList, col.toList) t).1, .bool (seenR cs (row.toList, col.toList) t).2]) ∧ Below w.heap.size w w' := by
  obtain ⟨ao, cap, hvv, hc1, hc2⟩ := hv.shape
  subst hvv
  unfold maxLen at hc2
  have HP := hide hp
  clear hp
  go_enter Try.func28, Try.ntmps28
  go_wp2_with fail
  have hR0 : Bk (w.alloc (.cells #[.string ⟨#[]⟩, .string ⟨#[]⟩, .int .i64 0, .bool false, .string ⟨#[]⟩] 53)) w.heap.size 53 (ca zeroC) := Bk.new w _ _
  have hbC : Below w.heap.size w (w.alloc (.cells #[.string ⟨#[]⟩, .string ⟨#[]⟩, .int .i64 0, .bool false, .string ⟨#[]⟩] 53)) := below_alloc' _ _
  generalize w.alloc (.cells #[.string ⟨#[]⟩, .string ⟨#[]⟩, .int .i64 0, .bool false, .string ⟨#[]⟩] 53) = wA at *
  have hvA := hv.below hbC
  have hsA := hR0.lt
  clear hv
  go_loopw [10, 11] (fun bst i wr => ∃ k : Nat, k ≤ cs.length ∧ i = .int .i64 k ∧ ((bst = .int .i64 (-1) ∧ (cs.take k).find? (hitB (row.toList, col.toList) t) = none) ∨ (∃ (j : Nat) (d : Cl), bst = .int .i64 j ∧ cs[j]? = some d ∧ j < k ∧ cs.find? (hitB (row.toList, col.toList) t) = some d)) ∧ Below wA.heap.size wA wr)
    (fun _ i _ => cs.length - (intOf i).toNat)
  case atStart => exact ⟨0, by omega, rfl, .inl ⟨rfl, by simp⟩, Below.refl _ _⟩
  case round =>
    obtain ⟨k, hk, rfl, hbst, hbel⟩ := hrel
    have hzr := hbel.size
    by_cases hlt : k < cs.length
    · obtain ⟨c, hc⟩ : ∃ c, cs[k]? = some c := ⟨_, List.getElem?_eq_getElem hlt⟩
      obtain ⟨b, off, rfl, hb, hck⟩ := hvA.hereC hc
      obtain ⟨c0, c1, c2, c3, c4⟩ := hck.below hbel
      have hk1 : (0 : Int) ≤ (k : Int) := by omega
      have hk2 : (k : Int) < (cs.length : Int) := by omega
      have hhit := hit_cases row col t c
      rcases hbst with ⟨rfl, hnone⟩ | ⟨j, d, rfl, hj, hjk, hfnd⟩
      · have HN := hide hnone
        clear hnone
        rcases hhit with ⟨h0, h1⟩ | ⟨h0, h1, h2⟩ | ⟨h0, h1, h2, h3⟩ | ⟨h0, h1, h2, h3⟩
        iterate 3
          · have HF := hide (find_snoc hc HN.out h0)
            clear h0 hc hck
            go_wp2_with fail
            go_quiet (fail)
            go_wp2_with fail
            go_roundw
            case rel => exact ⟨k + 1, by omega, by go_num, .inl ⟨rfl, HF.out⟩, below_drewN hbel _⟩
            case measure => simp [intOf]; omega
        · have HF := hide (find_now hc HN.out h0)
          have HC := hide hc
          clear h0 hc hck
          go_wp2_with fail
          go_quiet (fail)
          go_wp2_with fail
          go_roundw
          case rel => exact ⟨k + 1, by omega, by go_num, .inr ⟨k, c, rfl, HC.out, by omega, HF.out⟩, below_drewN hbel _⟩
          case measure => simp [intOf]; omega
      · have HJ := hide hj
        have HF := hide hfnd
        obtain ⟨b2, off2, he, _, hdk⟩ := hvA.hereC hj
        simp only [Option.some.injEq, Addr.mk.injEq, and_true] at he
        obtain ⟨rfl, rfl⟩ := he
        obtain ⟨d0, d1, d2, d3, d4⟩ := hdk.below hbel
        have hj1 : (0 : Int) ≤ (j : Int) := by omega
        have hj2 : (j : Int) < (cs.length : Int) := by omega
        have hd1 : decide ((j : Int) < 0) = false := by simp
        rcases hhit with ⟨h0, h1⟩ | ⟨h0, h1, h2⟩ | ⟨h0, h1, h2, h3⟩ | ⟨h0, h1, h2, h3⟩
        iterate 3
          · clear h0 hc hck hj hfnd hdk
            go_wp2_with fail
            go_quiet (fail)
            go_wp2_with fail
            go_roundw
            case rel => exact ⟨k + 1, by omega, by go_num, .inr ⟨j, d, rfl, HJ.out, by omega, HF.out⟩, below_drewN hbel _⟩
            case measure => simp [intOf]; omega
        · have h4 := hitB_later HP.out hj hc hjk ((hitB_rc h0).trans (hitB_rc (List.find?_some hfnd)).symm)
          clear h0 hc hck hj hfnd hdk
          go_wp2_with fail
          go_quiet (fail)
          go_wp2_with fail
          go_roundw
          case rel => exact ⟨k + 1, by omega, by go_num, .inr ⟨j, d, rfl, HJ.out, by omega, HF.out⟩, below_drewN hbel _⟩
          case measure => simp [intOf]; omega
    · have hRr := hR0.below hbel hsA
      have hbw : Below w.heap.size w wr := hbC.trans (hbel.mono (by omega))
      obtain ⟨r0, r1, r2, r3, r4⟩ := hRr.facts
      obtain ⟨t0, t1, t2, t3, t4⟩ := hRr.thaw
      have hsr := hRr.lt
      rcases hbst with ⟨rfl, hnone⟩ | ⟨j, d, rfl, hj, hjk, hfnd⟩
      · rw [List.take_of_length_le (by omega)] at hnone
        have HE : Hid (seenR cs (row.toList, col.toList) t = (zeroC, false)) := hide (by unfold seenR; rw [hnone])
        clear hnone
        go_wp2_with fail
        exact bodyPost_ret (v := .tuple #[cA zeroC, .bool false]) (by simp [results, Try.results28, go_sem, cA, zeroC, r0, r1, r2, r3, r4]) rfl ⟨by rw [HE.out], by go_grown⟩
      · obtain ⟨b2, off2, rfl, _, hdk⟩ := hvA.hereC hj
        obtain ⟨d0, d1, d2, d3, d4⟩ := hdk.below hbel
        have hj1 : (0 : Int) ≤ (j : Int) := by omega
        have hj2 : (j : Int) < (cs.length : Int) := by omega
        have hd1 : decide ((j : Int) < 0) = false := by simp
        cases hg : d.gone
        · have HE : Hid (seenR cs (row.toList, col.toList) t = (d, true)) := hide (by unfold seenR; rw [hfnd]; simp [hg])
          clear hfnd hdk hj
          rw [hg] at d3
          go_wp2_with fail
          exact bodyPost_ret (v := .tuple #[cA d, .bool true]) (by simp [results, Try.results28, go_sem, cA, hg, r0, r1, r2, r3, r4]) rfl ⟨by rw [HE.out], by go_grown⟩
        · have HE : Hid (seenR cs (row.toList, col.toList) t = (zeroC, false)) := hide (by unfold seenR; rw [hfnd]; simp [hg])
          clear hfnd hdk hj
          rw [hg] at d3
          go_wp2_with fail
          exact bodyPost_ret (v := .tuple #[cA zeroC, .bool false]) (by simp [results, Try.results28, go_sem, cA, zeroC, r0, r1, r2, r3, r4]) rfl ⟨by rw [HE.out], by go_grown⟩

end Go.Proofs.Ytlebbkbbmgmmjac
