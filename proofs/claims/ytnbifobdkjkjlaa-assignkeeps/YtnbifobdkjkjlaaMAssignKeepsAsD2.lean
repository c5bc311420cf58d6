/-
  Texts joined: AsD2.
-/
import Derived.Test.YtnbifobdkjkjlaaMAssignKeepsAsD1
/-
  The walk over idsThere of one host.
-/
namespace Go.Proofs.Ytnbifobdkjkjlaa
open Go.RowKit
set_option linter.unusedVariables false

/-- How a number lies in memory. -/
def inE : En Int 1 where
  v n := [.int .i64 n]
  len _ := rfl
  one n u hu := by
    simp only [List.mem_cons, List.not_mem_nil, or_false] at hu
    subst hu
    rfl
  pos := by decide

theorem infoIn : (Try.prog.info? 3).map (fun i => (i.zero, i.size, i.bytes)) = some (some (.int .i64 0), 1, 8) := by kernel_rfl

set_option maxRecDepth 100000 in
set_option maxHeartbeats 4000000 in
theorem idsThere1_any (hv : Value) (id ep : Int) (w : World) (hh : RdG hoE w hv [⟨id, ep, true⟩]) :
    Calls Try.prog 22 #[hv] w fun e w' => ∃ v', e = .returned v' ∧ w'.ownsRow w.heap.size 3 1 v' 1 (inE.vs [id]) ∧ Below w.heap.size w w' := by
  have HH := hide hh
  obtain ⟨b, c, rfl, hsrc⟩ := hh.addr
  clear hsrc hh
  go_enter Try.func22, Try.ntmps22
  go_wp2_with fail
  go_loopw [3, 5, 8] (fun xv _ iv wr => ∃ k : Nat, k ≤ 1 ∧ iv = .int .i64 k ∧ wr.ownsRow w.heap.size 3 1 xv k (inE.vs ([id].take k)) ∧ Below w.heap.size w wr)
    (fun _ _ iv _ => 1 - (intOf iv).toNat)
  case atStart => exact ⟨0, by omega, rfl, World.ownsRow_nil _ _ _ _, Below.refl _ _⟩
  case round =>
    obtain ⟨k, hk, rfl, hxo, hbr⟩ := hrel
    obtain ⟨xo, xc, rfl⟩ := owns_shapeA hxo
    by_cases hlt : k < 1
    · obtain rfl : k = 0 := by omega
      obtain ⟨hb, ho, he, hbl, hat⟩ := (HH.out.below hbr).here (i := 0) rfl
      simp only [Option.some.injEq] at he
      subst he
      obtain ⟨c0, c1, c2⟩ := hat.host
      simp only [Nat.zero_mul, Nat.add_zero] at c0 c1 c2
      have HB := hide hbr
      have HX := hide hxo
      have hll := hbr.size
      have hbT := below_allocG wr (.cells #[.int .i64 id, .int .i64 ep, .bool true] 42)
      have HB1 := hide (hbr.trans (hbT.mono hbr.size))
      have HX1 := hide (owns_laterA hxo hbT)
      have HH1 := hide (Blk.new wr 42 #[.int .i64 id, .int .i64 ep, .bool true])
      clear hat hxo hbr hbT HB HX
      go_upto_region 5 with fail
      generalize hWX : wr.alloc (.cells #[.int .i64 id, .int .i64 ep, .bool true] 42) = W1 at HB1 HX1 HH1 ⊢
      have h0 := HH1.out.cell 0
      have h2 := HH1.out.cell 2
      have hl := HH1.out.lt
      simp at h0 h2
      have hss := HB1.out.size
      clear hWX c0 c1 c2
      go_wp2_with (at_builtin; refine wpList_append_oneG (E := inE) (c := id) HX1.out rfl Try.underlying63 infoIn rfl rfl rfl rfl rfl (by decide) (by decide) hss ?_; intro v4 w4 ho4 hb4 hg4; have HO4 := hide ho4; have HB4 := hide (HB1.out.trans hb4); clear ho4 hb4 hg4)
      go_roundw
      case rel => exact ⟨1, by omega, by go_num, HO4.out, HB4.out⟩
      case measure => simp [intOf]
    · obtain rfl : k = 1 := by omega
      have HO := hide hxo
      have HB := hide hbr
      clear hxo hbr
      go_wp2_with (go_at_call 48; refine (SortI1_any xo xc wr).mono ?_; rintro e w5 ⟨rfl, hw⟩; rw [hw]; clear hw)
      go_ret
      exact ⟨_, rfl, HO.out, HB.out⟩

end Go.Proofs.Ytnbifobdkjkjlaa
