/-
  The walks over the document's numbers.
-/
import Derived.Test.YtlebbkbbmgmmjabRefMath
import Derived.Test.YtlebbkbbmgmmjabBase2
import Derived.Test.YtlebbkbbmgmmjabRefW1
namespace Go.Proofs.Ytlebbkbbmgmmjab
open Go.RowKit


set_option maxRecDepth 100000 in
set_option maxHeartbeats 400000 in
theorem ownBytes_any (v : Value) (zs : List UInt8) (w : World) (h : Rd w v (bc zs)) (hl : zs.length ≤ 1000000000) :
    Calls Try.prog 12 #[v] w fun e w' => ∃ v', e = .returned v' ∧ Rd w' v' (bc zs) ∧ Below w.heap.size w w' ∧ New w.heap.size v' := by
  go_enter Try.func12, Try.ntmps12
  go_wp2_with (at_builtin; go_must (refine wpList_append_rd (World.ownsRow_nil w w.heap.size 5 1) h Try.underlying25 Try.info5 rfl rfl rfl rfl rfl (bc_one _) (by rw [bc_length]; omega) (by decide) (Nat.le_refl _) ?_); intro v1 w1 ho1 hb1 hg1; clear hg1)
  go_ret
  exact ⟨v1, rfl, Rd.ofOwns ho1, hb1, New.owns ho1⟩

set_option maxRecDepth 100000 in
set_option maxHeartbeats 400000 in
theorem F_any (c a : Int) (w : World) : Calls Try.prog 16 #[.int .i64 c, .int .i64 a] w fun e w' => e = .returned (flt c a) ∧ w' = w.alloc (.cells #[.int .i64 c, .int .i64 a] 29) := by
  go_enter Try.func16, Try.ntmps16
  go_wp2_with fail
  exact bodyPost_ret (v := flt c a) (by simp [results, Try.results16, go_sem, flt]) rfl ⟨rfl, rfl⟩

set_option maxRecDepth 100000 in
set_option maxHeartbeats 400000 in
theorem Number_go (f : Nat) : ∀ (n : Nat) (w : World), n < 128 ^ (f + 1) → (n : Int) ≤ 9223372036854775807 → f ≤ 9 →
    Calls Try.prog 68 #[.int .i64 n] w fun e w' => ∃ v', e = .returned v' ∧ w'.ownsRow w.heap.size 5 1 v' (enc f n).length (bc (enc f n)) ∧ Below w.heap.size w w' := by
  induction f with
  | zero =>
    intro n w hn hn2 _
    have hn1 : (n : Int) < 128 := by simp at hn; omega
    clear hn
    go_enter Try.func68, Try.ntmps68
    go_wp2_with fail
    go_ret
    have ho := World.ownsRow_lit (base := w.heap.size) (size := 1) (e := 5) w #[.int .u8 n] 1 (Nat.le_refl _) (by decide) (by simp)
    refine ⟨_, rfl, ?_, by go_grown⟩
    rw [enc_small _ _ (by omega)]
    simpa [bc, u8_ofNat_toNat n (by omega)] using ho
  | succ f ih =>
    intro n w hn hn2 hf
    have HN := hide hn
    have HI := hide ih
    clear hn ih
    by_cases hs : (n : Int) < 128
    · go_enter Try.func68, Try.ntmps68
      go_wp2_with fail
      go_ret
      have ho := World.ownsRow_lit (base := w.heap.size) (size := 1) (e := 5) w #[.int .u8 n] 1 (Nat.le_refl _) (by decide) (by simp)
      refine ⟨_, rfl, ?_, by go_grown⟩
      rw [enc_small _ _ (by omega)]
      simpa [bc, u8_ofNat_toNat n (by omega)] using ho
    · go_enter Try.func68, Try.ntmps68
      go_wp2_with fail
      rw [show (n : Int) / 128 = ((n / 128 : Nat) : Int) from by omega]
      refine (HI.out (n / 128) _ (by have := HN.out; rw [Nat.pow_succ] at this; omega) (by omega) (by omega)).mono ?_
      rintro e w1 ⟨v1, rfl, ho1, hb1⟩
      have ho := World.ownsRow_lit (base := w.heap.size) (size := 1) (e := 5) w #[.int .u8 ((n : Int) % 128 + 128)] 1 (Nat.le_refl _) (by decide) (by simp)
      have ho2 := owns_below ho hb1
      have hl := enc_length f (n / 128)
      have hsz := hb1.size
      have hbw : Below w.heap.size w w1 := ((Below.refl _ _).alloc (Nat.le_refl _) _).trans (hb1.mono (by simp))
      simp only [World.size_alloc] at hsz
      go_wp2_with (at_builtin; go_must (refine wpList_append_rd ho2 (Rd.ofOwns ho1) Try.underlying25 Try.info5 rfl rfl rfl rfl rfl (bc_one _) (by rw [bc_length]; omega) (by decide) (by omega) ?_); intro v2 w2 ho3 hb3 hg3; clear hg3)
      go_ret
      refine ⟨v2, rfl, ?_, hbw.trans hb3⟩
      rw [enc_big f n (by omega)]
      have e1 : [Value.int .u8 ((n : Int) % 128 + 128)] ++ bc (enc f (n / 128)) = bc (UInt8.ofNat (n % 128 + 128) :: enc f (n / 128)) := by
        simp only [bc, List.map_cons, List.singleton_append, u8_ofNat_toNat (n % 128 + 128) (by omega)]
        congr 2
      rw [← e1, List.length_cons, Nat.add_comm]
      simpa [bc_length] using ho3

theorem Number_any (n : Nat) (w : World) (h : (n : Int) ≤ 9223372036854775807) :
    Calls Try.prog 68 #[.int .i64 n] w fun e w' => ∃ v', e = .returned v' ∧ Rd w' v' (bc (encN n)) ∧ Below w.heap.size w w' ∧ New w.heap.size v' :=
  (Number_go 9 n w (by omega) h (Nat.le_refl _)).mono fun _ _ ⟨v', h1, h2, h3⟩ => ⟨v', h1, Rd.ofOwns h2, h3, New.owns h2⟩

end Go.Proofs.Ytlebbkbbmgmmjab
