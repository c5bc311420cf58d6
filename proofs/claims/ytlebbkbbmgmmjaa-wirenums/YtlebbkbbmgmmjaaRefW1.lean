/-
  The walks over the document's small comparisons.
-/
import Derived.Test.YtlebbkbbmgmmjaaWireW1
namespace Go.Proofs.Ytlebbkbbmgmmjaa
open Go.RowKit

set_option maxRecDepth 100000 in
set_option maxHeartbeats 400000 in
theorem Same_any (u v : Value) (xs ys : List UInt8) (w : World) (h1 : Rd w u (bc xs)) (h2 : Rd w v (bc ys)) :
    Calls Try.prog 35 #[u, v] w fun e w' => e = .returned (.bool (xs == ys)) ∧ w' = w := by
  have c1 := run_string_of_rd (P := Try.prog) Try.underlying23 Try.underlying5 Try.underlying9 h1
  have c2 := run_string_of_rd (P := Try.prog) Try.underlying23 Try.underlying5 Try.underlying9 h2
  go_enter Try.func35, Try.ntmps35
  go_wp2_with fail
  go_ret
  exact ⟨rfl, rfl⟩

theorem take_ext {α : Type} {xs ys : List α} {k : Nat} (h : xs.take k = ys.take k) (hx : k < xs.length) (hy : k < ys.length) (e : xs[k] = ys[k]) : xs.take (k + 1) = ys.take (k + 1) := by
  rw [List.take_succ_eq_append_getElem hx, List.take_succ_eq_append_getElem hy, h, e]

theorem beq_of_take {α : Type} [BEq α] [LawfulBEq α] {xs ys : List α} {k : Nat} (h : xs.take k = ys.take k) (hx : xs.length ≤ k) (hy : ys.length ≤ k) : (xs == ys) = true := by
  rw [List.take_of_length_le hx, List.take_of_length_le hy] at h
  exact beq_iff_eq.2 h

theorem beq_no_len {α : Type} [BEq α] [LawfulBEq α] {xs ys : List α} (h : xs.length ≠ ys.length) : (xs == ys) = false :=
  beq_eq_false_iff_ne.2 (fun e => h (by rw [e]))

theorem beq_no_at {α : Type} [BEq α] [LawfulBEq α] {xs ys : List α} {k : Nat} (hx : k < xs.length) (hy : k < ys.length) (h : xs[k] ≠ ys[k]) : (xs == ys) = false :=
  beq_eq_false_iff_ne.2 (fun e => h (by subst e; rfl))

set_option maxRecDepth 100000 in
set_option maxHeartbeats 400000 in
theorem Ints_any (u v : Value) (xs ys : List Int) (w : World) (h1 : Rd w u (ic xs)) (h2 : Rd w v (ic ys)) :
    Calls Try.prog 19 #[u, v] w fun e w' => e = .returned (.bool (xs == ys)) ∧ ∃ q, w' = w.drewN q := by
  obtain ⟨ao, cap, rfl, hc1, hc2, hcell⟩ := h1.open
  obtain ⟨bo, cbp, rfl, hd1, hd2, hdell⟩ := h2.open
  rw [ic_length] at hc1 hcell hd1 hdell
  rw [ic_length, ic_length]
  unfold maxLen at hc2 hd2
  clear h1 h2
  by_cases hl : xs.length = ys.length
  · have hlb : ((xs.length : Int) != (ys.length : Int)) = false := by simp [hl]
    have HL := hide hl
    clear hl
    go_enter Try.func19, Try.ntmps19
    go_wp2_with fail
    go_loopw [5] (fun i wr => ∃ k : Nat, k ≤ xs.length ∧ i = .int .i64 k ∧ xs.take k = ys.take k ∧ ∃ q, wr = w.drewN q) (fun i _ => xs.length - (intOf i).toNat)
    case atStart => exact ⟨0, by omega, rfl, rfl, 0, rfl⟩
    case round =>
      obtain ⟨k, hk, rfl, ht, q, rfl⟩ := hrel
      have HT := hide ht
      clear ht
      by_cases hlt : k < xs.length
      · have hlt2 : k < ys.length := by have := HL.out; omega
        obtain ⟨b, off, rfl, hb, hcl⟩ := hcell k hlt
        obtain ⟨b', off', rfl, hb', hcl'⟩ := hdell k hlt2
        obtain ⟨x, hx⟩ : ∃ x, xs[k] = x := ⟨_, rfl⟩
        obtain ⟨y, hy⟩ : ∃ y, ys[k] = y := ⟨_, rfl⟩
        have hck : w.cell? ⟨b, off + k, none⟩ = some (.int .i64 x) := hcl k _ (by simp [ic, hlt, hx])
        have hck' : w.cell? ⟨b', off' + k, none⟩ = some (.int .i64 y) := hcl' k _ (by simp [ic, hlt2, hy])
        have HX := hide hx
        have HY := hide hy
        clear hx hy hcl hcl' hcell hdell
        by_cases hxy : x = y
        · have hb1 : (x != y) = false := by simp [hxy]
          have HXY := hide hxy
          clear hxy
          go_wp2_with fail
          go_quiet (fail)
          go_wp2_with fail
          go_roundw
          case rel => exact ⟨k + 1, by omega, by go_num, take_ext HT.out hlt hlt2 (by rw [HX.out, HY.out, HXY.out]), _, rfl⟩
          case measure => simp [intOf]; omega
        · have hb1 : (x != y) = true := by simp [hxy]
          have HXY := hide hxy
          clear hxy
          go_wp2_with fail
          go_quiet (fail)
          go_wp2_with fail
          go_ret
          exact ⟨by rw [beq_no_at hlt hlt2 (by rw [HX.out, HY.out]; exact HXY.out)]; rfl, q + nq, drewN_add _ _ _⟩
      · go_wp2_with fail
        go_ret
        exact ⟨by rw [beq_of_take HT.out (by omega) (by have := HL.out; omega)]; rfl, _, rfl⟩
  · have hlb : ((xs.length : Int) != (ys.length : Int)) = true := by simp; omega
    have HL := hide hl
    clear hl
    go_enter Try.func19, Try.ntmps19
    go_wp2_with fail
    go_ret
    exact ⟨by rw [beq_no_len HL.out]; rfl, 0, rfl⟩

set_option maxRecDepth 100000 in
set_option maxHeartbeats 400000 in
theorem SameTexts_any (u v : Value) (xs ys : List (List UInt8)) (w : World) (h1 : Rd w u (sc xs)) (h2 : Rd w v (sc ys)) :
    Calls Try.prog 25 #[u, v] w fun e w' => e = .returned (.bool (xs == ys)) ∧ ∃ q, w' = w.drewN q := by
  obtain ⟨ao, cap, rfl, hc1, hc2, hcell⟩ := h1.open
  obtain ⟨bo, cbp, rfl, hd1, hd2, hdell⟩ := h2.open
  rw [sc_length] at hc1 hcell hd1 hdell
  rw [sc_length, sc_length]
  unfold maxLen at hc2 hd2
  clear h1 h2
  by_cases hl : xs.length = ys.length
  · have hlb : ((xs.length : Int) != (ys.length : Int)) = false := by simp [hl]
    have HL := hide hl
    clear hl
    go_enter Try.func25, Try.ntmps25
    go_wp2_with fail
    go_loopw [5] (fun i wr => ∃ k : Nat, k ≤ xs.length ∧ i = .int .i64 k ∧ xs.take k = ys.take k ∧ ∃ q, wr = w.drewN q) (fun i _ => xs.length - (intOf i).toNat)
    case atStart => exact ⟨0, by omega, rfl, rfl, 0, rfl⟩
    case round =>
      obtain ⟨k, hk, rfl, ht, q, rfl⟩ := hrel
      have HT := hide ht
      clear ht
      by_cases hlt : k < xs.length
      · have hlt2 : k < ys.length := by have := HL.out; omega
        obtain ⟨b, off, rfl, hb, hcl⟩ := hcell k hlt
        obtain ⟨b', off', rfl, hb', hcl'⟩ := hdell k hlt2
        obtain ⟨x, hx⟩ : ∃ x, xs[k] = x := ⟨_, rfl⟩
        obtain ⟨y, hy⟩ : ∃ y, ys[k] = y := ⟨_, rfl⟩
        have hck : w.cell? ⟨b, off + k, none⟩ = some (.string ⟨x.toArray⟩) := hcl k _ (by simp [sc, hlt, hx])
        have hck' : w.cell? ⟨b', off' + k, none⟩ = some (.string ⟨y.toArray⟩) := hcl' k _ (by simp [sc, hlt2, hy])
        have HX := hide hx
        have HY := hide hy
        clear hx hy hcl hcl' hcell hdell
        by_cases hxy : x = y
        · have hb1 : (x == y) = true := by simp [hxy]
          have HXY := hide hxy
          clear hxy
          go_wp2_with fail
          go_quiet (fail)
          go_wp2_with fail
          go_roundw
          case rel => exact ⟨k + 1, by omega, by go_num, take_ext HT.out hlt hlt2 (by rw [HX.out, HY.out, HXY.out]), _, rfl⟩
          case measure => simp [intOf]; omega
        · have hb1 : (x == y) = false := by simp [hxy]
          have HXY := hide hxy
          clear hxy
          go_wp2_with fail
          go_quiet (fail)
          go_wp2_with fail
          go_ret
          exact ⟨by rw [beq_no_at hlt hlt2 (by rw [HX.out, HY.out]; exact HXY.out)]; rfl, q + nq, drewN_add _ _ _⟩
      · go_wp2_with fail
        go_ret
        exact ⟨by rw [beq_of_take HT.out (by omega) (by have := HL.out; omega)]; rfl, _, rfl⟩
  · have hlb : ((xs.length : Int) != (ys.length : Int)) = true := by simp; omega
    have HL := hide hl
    clear hl
    go_enter Try.func25, Try.ntmps25
    go_wp2_with fail
    go_ret
    exact ⟨by rw [beq_no_len HL.out]; rfl, 0, rfl⟩

end Go.Proofs.Ytlebbkbbmgmmjaa
