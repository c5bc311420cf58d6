/-
  The walks over the document's bytes of cells: CellBytes.
-/
import Derived.Test.YtlebbkbbmgmmjabRefT
import Derived.Test.YtlebbkbbmgmmjabWritesMath
import Derived.Test.YtlebbkbbmgmmjabCellR2
namespace Go.Proofs.Ytlebbkbbmgmmjab
open Go.RowKit

theorem WrittenS_own (s : ByteArray) (w : World) (hs : s.data.toList.length ≤ 1000000000) :
    Calls Try.prog 67 #[.string s] w fun e w' => ∃ v', e = .returned v' ∧ w'.ownsRow w.heap.size 5 1 v' (txB s).length (bc (txB s)) ∧ Below w.heap.size w w' := by
  have h := Written_own s.data.toList w hs
  rw [ba_data] at h
  exact h

theorem owns_base' {w : World} {base base' : Nat} {e : TypeId} {size : Nat} {v : Value} {n : Nat} {xs : List Value} (h : w.ownsRow base' e size v n xs) (hb : base ≤ base') : w.ownsRow base e size v n xs := by
  refine ⟨h.1, ?_⟩
  rcases h.2 with hn | ⟨g, cap, cur, hv, hg, r⟩
  · exact .inl hn
  · exact .inr ⟨g, cap, cur, hv, Nat.le_trans hb hg, r⟩

theorem txB_len (s : ByteArray) : (txB s).length ≤ 10 + s.data.toList.length := by
  unfold txB
  rw [List.length_append]
  have := encN_length s.data.toList.length
  omega

set_option maxRecDepth 100000 in
set_option maxHeartbeats 1000000 in
theorem CellBytes_any (c : Cl) (w : World) (hc : codeC c = 0) :
    Calls Try.prog 40 #[cA c] w fun e w' => ∃ v', e = .returned v' ∧ Rd w' v' (bc (cellB c)) ∧ Below w.heap.size w w' ∧ New w.heap.size v' := by
  obtain ⟨_, h1, h2, h3, h4, h5⟩ := codeC_parts hc
  have l1 := txB_len c.row
  have l2 := txB_len c.col
  have l3 := txB_len c.val
  obtain ⟨m, hm⟩ := Int.eq_ofNat_of_zero_le h4
  have l4 := encN_length m
  have HM : Hid (c.time.toNat = m) := hide (by rw [hm]; simp)
  have HMT := hide hm
  have hm9 : (m : Int) ≤ 1000000000 := by omega
  have hgn : c.gone = true ∧ encN (goneN c) = [UInt8.ofNat 1] ∨ c.gone = false ∧ encN (goneN c) = [UInt8.ofNat 0] := by unfold goneN; cases c.gone <;> simp <;> rfl
  have HEE : Hid (cellB c = txB c.row ++ (txB c.col ++ (encN c.time.toNat ++ (encN (goneN c) ++ txB c.val)))) := hide rfl
  clear hm hc h4 h5
  unfold cA
  go_enter Try.func40, Try.ntmps40
  go_wp2_with fail
  have hB0 : Bk (w.alloc (.cells #[.string c.row, .string c.col, .int .i64 c.time, .bool c.gone, .string c.val] 52)) w.heap.size 52 (ca c) := Bk.new _ _ _
  have hb0 : Below w.heap.size w (w.alloc (.cells #[.string c.row, .string c.col, .int .i64 c.time, .bool c.gone, .string c.val] 52)) := below_alloc' _ _
  have hz0 : (w.alloc (.cells #[.string c.row, .string c.col, .int .i64 c.time, .bool c.gone, .string c.val] 52)).heap.size = w.heap.size + 1 := by simp
  generalize w.alloc (.cells #[.string c.row, .string c.col, .int .i64 c.time, .bool c.gone, .string c.val] 52) = wA at *
  have hkeep : ∀ W, Below wA.heap.size wA W → W.cell? ⟨w.heap.size, 0, none⟩ = some (.string c.row) ∧ W.cell? ⟨w.heap.size, 1, none⟩ = some (.string c.col) ∧ W.cell? ⟨w.heap.size, 2, none⟩ = some (.int .i64 c.time) ∧ W.cell? ⟨w.heap.size, 3, none⟩ = some (.bool c.gone) ∧ W.cell? ⟨w.heap.size, 4, none⟩ = some (.string c.val) := fun W h => (hB0.below h (by omega)).facts
  have HK := hide hkeep
  obtain ⟨c0, c1, c2, c3, c4⟩ := hkeep wA (Below.refl _ _)
  have hl1 : c.row.data.toList.length ≤ 1000000000 := by omega
  have hl2 : c.col.data.toList.length ≤ 1000000000 := by omega
  have hl3 : (txB c.row).length + (bc (txB c.col)).length ≤ 2000000000000 := by rw [bc_length]; omega
  clear hkeep
  go_region_held3 (fun W => W.cell? ⟨w.heap.size, 0, none⟩ = some (.string c.row) ∧ W.cell? ⟨w.heap.size, 1, none⟩ = some (.string c.col)) (exact ⟨(HK.out _ (by go_grown)).1, (HK.out _ (by go_grown)).2.1⟩) (first
    | (go_at_call 67; refine (WrittenS_own c.row _ hl1).mono ?_; rintro e w1 ⟨v1, rfl, ho1, hb1⟩; have hx1 : Below wA.heap.size wA w1 := Below.trans (by go_grown) hb1; obtain ⟨ao1, cap1, hv1⟩ := owns_shape ho1; subst hv1)
    | (go_at_call 67; refine (WrittenS_own c.col _ hl2).mono ?_; rintro e w2 ⟨v2, rfl, ho2, hb2⟩; have hx2 : Below wA.heap.size wA w2 := Below.trans (by go_grown) (hb2.mono hx1.size); have hq1 := owns_below ho1 hb2; obtain ⟨ao2, cap2, hv2⟩ := owns_shape ho2; subst hv2)
    | (have k9 := hq1; refine step_append_rd k9 (Rd.ofOwns ho2) Try.underlying25 Try.info5 rfl (by rfl) (by rfl) (by rfl) (by rfl) (bc_one _) hl3 (by decide) (by exact hx2.size) ?_; intro v3 w3 ho3 hb3 hg3; have hx3 : Below wA.heap.size wA w3 := hx2.trans hb3; rw [bc_length, ← bc_append, ← List.length_append] at ho3))
  all_goals
    have ho3' : w3.ownsRow wA.heap.size 5 1 v3 (txB c.row ++ txB c.col).length (bc (txB c.row ++ txB c.col)) := ho3
    have hz3 := hx3.size
    clear ho3 hq1 ho1 ho2 hb1 hb2 hx1 hx2 hb3 hg3
    obtain ⟨c0, c1, c2, c3, c4⟩ := HK.out w3 hx3
    have hl4 : (txB c.row ++ txB c.col).length + (bc (encN m)).length ≤ 2000000000000 := by rw [bc_length, List.length_append]; omega
    go_wp2_with fail
    rw [HMT.out]
    refine (Number_any m _ (by omega)).mono ?_
    rintro e w4 ⟨v4, rfl, hr4, hb4, _⟩
    have hx4 : Below wA.heap.size wA w4 := hx3.trans (hb4.mono hz3)
    have ho4 := owns_below ho3' hb4
    have hz4 := hx4.size
    clear ho3' c0 c1 c2 c3 c4
    obtain ⟨ao4, cap4, hv4, _, _⟩ := hr4.shape
    subst hv4
    go_upto_region 3 with (at_builtin; go_must (refine wpList_append_rd ho4 hr4 Try.underlying25 Try.info5 rfl rfl rfl rfl rfl (bc_one _) hl4 (by decide) hz4 ?_); intro v5 w5 ho5 hb5 hg5; clear hg5)
    rw [bc_length, ← bc_append, ← List.length_append] at ho5
    have hx5 := hx4.trans hb5
    have hz5 := hx5.size
    obtain ⟨c0, c1, c2, c3, c4⟩ := HK.out w5 hx5
    have hl5 : (txB c.row ++ txB c.col ++ encN m).length ≤ 1000000000000 := by simp only [List.length_append]; omega
    rcases hgn with ⟨hg, hgn⟩ | ⟨hg, hgn⟩
    · rw [hg] at c3
      have HGN := hide hgn
      clear hgn ho4 hb4 hb5
      go_upto_region 6 with (at_builtin; go_must (refine wpList_append_one ho5 Try.underlying25 Try.info5 rfl rfl rfl rfl rfl rfl hl5 (by decide) hz5 ?_); intro v6 w6 ho6 hb6 hg6; clear hg6)
      rw [bc_snoc _ 1 (by omega) 1 rfl, show (txB c.row ++ txB c.col ++ encN m).length + 1 = (txB c.row ++ txB c.col ++ encN m ++ [UInt8.ofNat 1]).length by simp only [List.length_append, List.length_singleton]] at ho6
      have hx6 := hx5.trans hb6
      have hz6 := hx6.size
      clear c0 c1 c2 c3 c4
      obtain ⟨c0, c1, c2, c3, c4⟩ := HK.out w6 hx6
      go_wp2_with fail
      refine (WrittenS_own c.val _ (by omega)).mono ?_
      rintro e w7 ⟨v7, rfl, ho7, hb7⟩
      have hx7 : Below wA.heap.size wA w7 := hx6.trans (hb7.mono hz6)
      have hq6 := owns_below ho6 hb7
      have hz7 := hx7.size
      have hl6 : (txB c.row ++ txB c.col ++ encN m ++ [UInt8.ofNat 1]).length + (bc (txB c.val)).length ≤ 2000000000000 := by rw [bc_length]; simp only [List.length_append, List.length_singleton]; omega
      obtain ⟨ao7, cap7, hv7⟩ := owns_shape ho7
      subst hv7
      go_wp2_with (at_builtin; go_must (refine wpList_append_rd hq6 (Rd.ofOwns ho7) Try.underlying25 Try.info5 rfl rfl rfl rfl rfl (bc_one _) hl6 (by decide) hz7 ?_); intro v8 w8 ho8 hb8 hg8; clear hg8)
      rw [bc_length, ← bc_append, ← List.length_append] at ho8
      go_ret
      refine ⟨v8, rfl, ?_, hb0.trans ((hx7.trans hb8).mono (by omega)), (New.owns ho8).mono (by omega)⟩
      rw [HEE.out, HM.out, HGN.out]
      have := Rd.ofOwns ho8
      simpa only [List.append_assoc] using this
    · rw [hg] at c3
      have HGN := hide hgn
      clear hgn ho4 hb4 hb5
      go_upto_region 6 with (at_builtin; go_must (refine wpList_append_one ho5 Try.underlying25 Try.info5 rfl rfl rfl rfl rfl rfl hl5 (by decide) hz5 ?_); intro v6 w6 ho6 hb6 hg6; clear hg6)
      rw [bc_snoc _ 0 (by omega) 0 rfl, show (txB c.row ++ txB c.col ++ encN m).length + 1 = (txB c.row ++ txB c.col ++ encN m ++ [UInt8.ofNat 0]).length by simp only [List.length_append, List.length_singleton]] at ho6
      have hx6 := hx5.trans hb6
      have hz6 := hx6.size
      clear c0 c1 c2 c3 c4
      obtain ⟨c0, c1, c2, c3, c4⟩ := HK.out w6 hx6
      go_wp2_with fail
      refine (WrittenS_own c.val _ (by omega)).mono ?_
      rintro e w7 ⟨v7, rfl, ho7, hb7⟩
      have hx7 : Below wA.heap.size wA w7 := hx6.trans (hb7.mono hz6)
      have hq6 := owns_below ho6 hb7
      have hz7 := hx7.size
      have hl6 : (txB c.row ++ txB c.col ++ encN m ++ [UInt8.ofNat 0]).length + (bc (txB c.val)).length ≤ 2000000000000 := by rw [bc_length]; simp only [List.length_append, List.length_singleton]; omega
      obtain ⟨ao7, cap7, hv7⟩ := owns_shape ho7
      subst hv7
      go_wp2_with (at_builtin; go_must (refine wpList_append_rd hq6 (Rd.ofOwns ho7) Try.underlying25 Try.info5 rfl rfl rfl rfl rfl (bc_one _) hl6 (by decide) hz7 ?_); intro v8 w8 ho8 hb8 hg8; clear hg8)
      rw [bc_length, ← bc_append, ← List.length_append] at ho8
      go_ret
      refine ⟨v8, rfl, ?_, hb0.trans ((hx7.trans hb8).mono (by omega)), (New.owns ho8).mono (by omega)⟩
      rw [HEE.out, HM.out, HGN.out]
      have := Rd.ofOwns ho8
      simpa only [List.append_assoc] using this

end Go.Proofs.Ytlebbkbbmgmmjab
