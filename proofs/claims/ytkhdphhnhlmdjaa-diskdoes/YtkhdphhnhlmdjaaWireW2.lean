/-
  The walks over package wire's reader.
-/
import Derived.Test.YtkhdphhnhlmdjaaWireW1
namespace Go.Proofs.Ytkhdphhnhlmdjaa
open Go.RowKit

/-- The reader's block: the bytes, and the place. -/
def Rdr (w : World) (R : Nat) (v : Value) (k : Int) : Prop := w.heap[R]? = some (.cells #[v, .int .i64 k] 82 (0, 0))

theorem Rdr.facts {w : World} {R : Nat} {v : Value} {k : Int} (h : Rdr w R v k) :
    w.cell? ⟨R, 0, none⟩ = some v ∧ w.cell? ⟨R, 1, none⟩ = some (.int .i64 k) ∧ w.frozen? ⟨R, 0, none⟩ = false ∧ w.frozen? ⟨R, 1, none⟩ = false ∧ R < w.heap.size := by
  refine ⟨?_, ?_, frozen_of_row _ _ _ _ _ h, frozen_of_row _ _ _ _ _ h, ?_⟩
  · rw [cell_of_row _ _ _ _ _ _ h]; rfl
  · rw [cell_of_row _ _ _ _ _ _ h]; rfl
  · exact (Array.getElem?_eq_some_iff.1 h).1

theorem Rdr.new (w : World) (o : Obj) (v : Value) (k : Int) : Rdr ((w.alloc o).alloc (.cells #[v, .int .i64 k] 82)) (w.heap.size + 1) v k := by
  have := heap_alloc_new (w.alloc o) (.cells #[v, .int .i64 k] 82)
  simpa [Rdr] using this

theorem Rdr.set {w : World} {R : Nat} {v : Value} {k : Int} (h : Rdr w R v k) (k' : Int) : Rdr (w.setCell ⟨R, 1, none⟩ (.int .i64 k')) R v k' := by
  unfold Rdr
  rw [heap_setCell_same w R 1 _ _ _ h]
  rfl

theorem grown_set (w : World) (R j : Nat) (u : Value) : w.grownBy (w.setCell ⟨R, j, none⟩ u) (some R) :=
  ⟨rfl, rfl, rfl, by simp [World.setCell], fun k _ hk => heap_setCell_other w _ k u (fun e => hk (by simp [e]))⟩

theorem grown_drewN (w : World) (n : Nat) (row : Option Nat) : w.grownBy (w.drewN n) row := ⟨rfl, rfl, rfl, Nat.le_refl _, fun _ _ _ => rfl⟩
theorem World.grownBy.trans {a b c : World} {row : Option Nat} (h : a.grownBy b row) (k : b.grownBy c row) : a.grownBy c row :=
  ⟨k.os.trans h.os, k.tape.trans h.tape, k.output.trans h.output, Nat.le_trans h.size k.size, fun i hi hn => (k.block i (Nat.lt_of_lt_of_le hi h.size) hn).trans (h.block i hi hn)⟩

theorem Rd.grown {w w' : World} {v : Value} {xs : List Value} {R : Nat} (h : Rd w v xs) (hg : w.grownBy w' (some R)) (hR : ∀ a l c, v = .slice (some a) l c → 0 < xs.length → a.block ≠ R) : Rd w' v xs := by
  obtain ⟨ao, cap, hv, h1, h2, h3, h4⟩ := h
  refine ⟨ao, cap, hv, h1, h2, h3, fun a ha j u hu => ?_⟩
  have hc := h4 a ha j u hu
  have hlt := World.block_lt_of_cell? w _ hc
  refine hg.cell hc ?_
  subst ha
  have e : (a.add j).block = a.block := by unfold Addr.add; split <;> rfl
  rw [e]
  intro e
  exact hR a _ _ hv (by have := (List.getElem?_eq_some_iff.1 hu).1; omega) (by simpa using e)

theorem Rd.block_lt {w : World} {a : Addr} {n c : Nat} {xs : List Value} (h : Rd w (.slice (some a) n c) xs) (hp : 0 < xs.length) : a.block < w.heap.size := by
  obtain ⟨b, off, cap, hv, _, _, hb, _⟩ := h.pos hp
  simp only [Value.slice.injEq, Option.some.injEq] at hv
  obtain ⟨rfl, _, _⟩ := hv
  exact hb

set_option maxRecDepth 100000 in
set_option maxHeartbeats 400000 in
theorem left_any (R : Nat) (ao : Option Addr) (n c k : Nat) (w : World) (hr : Rdr w R (.slice ao n c) k) (hk : k ≤ n) (hn : n ≤ 9223372036854775807) :
    Calls Try.prog 61 #[.pointer (some ⟨R, 0, none⟩)] w fun e w' => e = .returned (.int .i64 ((n : Int) - k)) ∧ ∃ q, w' = w.drewN q := by
  obtain ⟨c0, c1, _, _, _⟩ := hr.facts
  go_enter Try.func61, Try.ntmps61
  go_wp2_with fail
  go_quiet (fail)
  go_wp2_with fail
  go_ret
  exact ⟨rfl, _, rfl⟩

set_option maxRecDepth 100000 in
set_option maxHeartbeats 400000 in
theorem done_any (R : Nat) (ao : Option Addr) (n c k : Nat) (w : World) (hr : Rdr w R (.slice ao n c) k) :
    Calls Try.prog 53 #[.pointer (some ⟨R, 0, none⟩)] w fun e w' => e = .returned (.bool ((k : Int) == n)) ∧ ∃ q, w' = w.drewN q := by
  obtain ⟨c0, c1, _, _, _⟩ := hr.facts
  go_enter Try.func53, Try.ntmps53
  go_wp2_with fail
  go_quiet (fail)
  go_wp2_with fail
  go_ret
  exact ⟨rfl, _, rfl⟩

/-- What num answers. -/
def numV : Option (Nat × Nat) → Value
  | none => .tuple #[.int .i64 0, .bool false]
  | some (n, _) => .tuple #[.int .i64 n, .bool true]

def numK : Option (Nat × Nat) → Nat
  | none => 0
  | some (_, k) => k

set_option maxRecDepth 100000 in
set_option maxHeartbeats 400000 in
theorem num_any (R : Nat) (v : Value) (bs : List UInt8) (k : Nat) (w : World) (hrd : Rd w v (bc bs)) (hr : Rdr w R v k) (hk : k ≤ bs.length) :
    Calls Try.prog 54 #[.pointer (some ⟨R, 0, none⟩)] w fun e w' => e = .returned (numV (numAt (bs.drop k))) ∧ Rdr w' R v (k + numK (numAt (bs.drop k)) : Nat) ∧ w.grownBy w' (some R) := by
  obtain ⟨ao, cap, rfl, hc1, hc2, hcell⟩ := hrd.open
  rw [bc_length] at hc1 hcell hr ⊢
  unfold maxLen at hc2
  obtain ⟨c0, c1, f0, f1, hsz⟩ := hr.facts
  have hM : (5 : Int) ≤ (bs.length : Int) - k ∨ (bs.length : Int) - k < 5 := by omega
  rcases hM with hM | hM
  all_goals
    go_enter Try.func54, Try.ntmps54
    go_wp2_with fail
    refine (left_any R ao bs.length cap k w hr hk (by omega)).mono ?_
    rintro e w1 ⟨rfl, q, rfl⟩
    go_wp2_with fail
    go_loopw [4, 10] (fun n i wr => ∃ (j acc : Nat), j ≤ 5 ∧ k + j ≤ bs.length ∧ i = .int .i64 j ∧ n = .int .i64 acc ∧ acc < 128 ^ j ∧ readNum (5 - j) j acc (bs.drop (k + j)) = numAt (bs.drop k) ∧ ∃ q, wr = w.drewN q)
      (fun _ i _ => 5 - (intOf i).toNat)
    case atStart => exact ⟨0, 0, by omega, by omega, rfl, rfl, by omega, rfl, _, rfl⟩
    case round =>
      obtain ⟨j, acc, hj, hkj, rfl, rfl, hacc, hgo, q', rfl⟩ := hrel
      have HG := hide hgo
      have HA := hide hacc
      clear hgo hacc
      by_cases hlt : j < 5 ∧ k + j < bs.length
      · obtain ⟨hl1, hl2⟩ := hlt
        obtain ⟨b, off, rfl, hb, hcl⟩ := hcell (k + j) hl2
        obtain ⟨x, hx⟩ : ∃ x : UInt8, bs[k + j] = x := ⟨_, rfl⟩
        have hck : w.cell? ⟨b, off + (k + j), none⟩ = some (.int .u8 (x.toNat : Int)) := hcl (k + j) _ (by simp [bc, hl2, hx])
        have hxl : x.toNat < 256 := x.toNat_lt
        have HX := hide hx
        clear hx hcl hcell
        go_wp2_with fail
        go_quiet (fail)
        have hval := num_val acc x.toNat j hxl (by omega) HA.out
        have hNb := num_bound acc x.toNat j HA.out
        have hN35 : 128 ^ (j + 1) ≤ 34359738368 := by have := pow128_le j (by omega); rw [Nat.pow_succ]; omega
        have hgo := HG.out
        rw [drop_cons bs (k + j) hl2, HX.out, show 5 - j = (4 - j) + 1 by omega] at hgo
        have hmore := fun h => @readNum_more (4 - j) j acc x (bs.drop (k + j + 1)) h
        have hnone := fun h => @readNum_none (4 - j) j acc x (bs.drop (k + j + 1)) h
        have hsome := fun h => @readNum_some (4 - j) j acc x (bs.drop (k + j + 1)) h
        rw [hgo] at hmore hnone hsome
        generalize acc + x.toNat % 128 * 128 ^ j = N at hval hNb hmore hnone hsome
        have hN : (N : Int) < 34359738368 := by omega
        have HNB := hide hNb
        clear hNb hgo hN35
        by_cases h128 : (128 : Int) ≤ (x.toNat : Int)
        · have HM := hide (hmore (by omega))
          clear hmore hnone hsome
          go_wp2_with fail
          go_roundw
          case rel => exact ⟨j + 1, N, by omega, by omega, by go_num, rfl, HNB.out, by rw [HM.out, show 5 - (j + 1) = 4 - j by omega]; rfl, _, rfl⟩
          case measure => simp [intOf]; omega
        · have hcases : ((((x.toNat : Int) == 0) = true ∧ (0 : Int) < j) ∨ (((x.toNat : Int) == 0) = true ∧ decide (0 < j) = false) ∨ (((x.toNat : Int) == 0) = false)) := by
            by_cases h0 : (x.toNat : Int) = 0
            · by_cases h1 : (0 : Int) < j
              · exact .inl ⟨beq_iff_eq.2 h0, h1⟩
              · exact .inr (.inl ⟨beq_iff_eq.2 h0, decide_eq_false (by omega)⟩)
            · exact .inr (.inr (beq_eq_false_iff_ne.2 h0))
          have hsplit : (1000000000 : Int) < N ∨ (N : Int) ≤ 1000000000 := by omega
          clear hN
          rcases hcases with ⟨hx0, hj0⟩ | ⟨hx0, hj0⟩ | hx0
          · have HM := hide (hnone (by omega) (.inl ⟨by have := beq_iff_eq.1 hx0; omega, by omega⟩))
            clear hmore hnone hsome hsplit
            go_wp2_with fail
            go_ret2
            exact ⟨by rw [HM.out]; rfl, by rw [HM.out]; exact hr, grown_drewN _ _ _⟩
          all_goals
            rcases hsplit with hN10 | hN10
          · have HM := hide (hnone (by omega) (.inr (by omega)))
            clear hmore hnone hsome
            go_wp2_with fail
            go_ret2
            exact ⟨by rw [HM.out]; rfl, by rw [HM.out]; exact hr, grown_drewN _ _ _⟩
          · have HM := hide (hsome (by omega) (by have := of_decide_eq_false hj0; omega))
            clear hmore hnone hsome
            go_wp2_with fail
            go_ret2
            exact ⟨by rw [HM.out]; rfl, by rw [HM.out]; exact Rdr.set (w := w.drewN _) hr _, (grown_drewN _ _ _).trans (grown_set _ _ _ _)⟩
          · have HM := hide (hnone (by omega) (.inr (by omega)))
            clear hmore hnone hsome
            go_wp2_with fail
            go_ret2
            exact ⟨by rw [HM.out]; rfl, by rw [HM.out]; exact hr, grown_drewN _ _ _⟩
          · have HM := hide (hsome (by omega) (by have := beq_eq_false_iff_ne.1 hx0; omega))
            clear hmore hnone hsome
            go_wp2_with fail
            go_ret2
            exact ⟨by rw [HM.out]; rfl, by rw [HM.out]; exact Rdr.set (w := w.drewN _) hr _, (grown_drewN _ _ _).trans (grown_set _ _ _ _)⟩
      · go_wp2_with fail
        go_ret2
        have hnil : readNum (5 - j) j acc (bs.drop (k + j)) = none := by
          by_cases h5 : j = 5
          · subst h5; rfl
          · rw [List.drop_eq_nil_of_le (by omega)]; exact readNum_short
        exact ⟨by rw [← HG.out, hnil]; rfl, by rw [← HG.out, hnil]; exact hr, grown_drewN _ _ _⟩

end Go.Proofs.Ytkhdphhnhlmdjaa
