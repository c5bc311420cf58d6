/-
  Texts joined: AsW14.
-/
import Derived.Test.YtoeobhehjnkkkaaMLocateDoesAsW13
/-
  The walks over Clone of hosts and of slots, and over copied of package assign. (Written by as14.py.)
-/
namespace Go.Proofs.Ytoeobhehjnkkkaa
open Go.RowKit Go.Maps
set_option linter.unusedVariables false

theorem Try.sizeBoardA : (Try.prog.info? 80).map (·.size) = some 4 := by kernel_rfl

theorem owns_base1 {w : World} {b1 b2 : Nat} {e : TypeId} {K : Nat} {v : Value} {n : Nat} {xs : List Value} (h : w.ownsRow b1 e K v n xs) (hb : b2 ≤ b1) : w.ownsRow b2 e K v n xs := by
  refine ⟨h.1, ?_⟩
  rcases h.2 with hn | ⟨g, cap, cur, rfl, hg, r⟩
  · exact .inl hn
  · exact .inr ⟨g, cap, cur, rfl, by omega, r⟩

set_option maxRecDepth 100000 in
set_option maxHeartbeats 1000000 in
theorem CloneH_any {l : List Ho} (v : Value) (w : World) (hv : RdG hoE w v l) (hl : l.length ≤ 1000) :
    Calls Try.prog 74 #[v] w fun e w' => ∃ v', e = .returned v' ∧ w'.ownsRow w.heap.size 42 3 v' l.length (hoE.vs l) ∧ Below w.heap.size w w' := by
  obtain ⟨ao, cap, rfl, hc1, hc2⟩ := hv.shape
  cases ao with
  | none =>
    have hcap : cap = 0 := by
      obtain ⟨ao', cap', e, h1, h2, h3, _⟩ := hv
      simp only [Value.slice.injEq] at e
      obtain ⟨rfl, _, rfl⟩ := e
      exact h3 rfl
    subst hcap
    obtain rfl : l = [] := List.eq_nil_of_length_eq_zero (by omega)
    clear hv
    show Calls Try.prog 74 #[.slice none 0 0] w _
    have heq : ∀ W, (binOp .eql 24 (.slice none 0 0) (.slice none 0 0)).run Try.prog W = .ok (.bool true) W := fun W => by kernel_rfl
    go_enter Try.func74, Try.ntmps74
    go_wp2_with fail
    go_ret
    exact ⟨_, rfl, World.ownsRow_nil _ _ _ _, Below.refl _ _⟩
  | some a =>
    have hl2 : 0 + l.length ≤ 1000000000 := by omega
    have hown : (w.alloc (.cells #[] 42)).ownsRow w.heap.size 42 3 (.slice (some ⟨w.heap.size, 0, none⟩) 0 0) 0 (hoE.vs []) := World.ownsRow_made w #[] 0 (Nat.le_refl _) (by decide) rfl
    have hb8 : w.heap.size ≤ (w.alloc (.cells #[] 42)).heap.size := by simp
    have heq : ∀ W, (binOp .eql 24 (.slice (some a) l.length cap) (.slice none 0 0)).run Try.prog W = .ok (.bool false) W := fun W => Lib.run_eql_slice_nil W _ _ _ _ _ _ _ Try.underlying24
    have HV1 := hide (hv.alloc (.cells #[] 42))
    have HBA := hide (below_allocG w (.cells #[] 42))
    clear hv
    go_enter Try.func74, Try.ntmps74
    go_wp2_with (at_builtin; go_must (refine wpList_append_rdG (E := hoE) (cs := []) hown HV1.out Try.underlying24 infoHost rfl rfl rfl rfl rfl hl2 (by decide) hb8 ?_); intro v1 w1 ho1 hb1 hg1; clear hg1)
    go_ret
    exact ⟨_, rfl, by simpa using ho1, HBA.out.trans hb1⟩

set_option maxRecDepth 100000 in
set_option maxHeartbeats 1000000 in
theorem CloneS_any {l : List Sl} (v : Value) (w : World) (hv : RdG slE w v l) (hl : l.length ≤ 1000) :
    Calls Try.prog 75 #[v] w fun e w' => ∃ v', e = .returned v' ∧ w'.ownsRow w.heap.size 46 6 v' l.length (slE.vs l) ∧ Below w.heap.size w w' := by
  obtain ⟨ao, cap, rfl, hc1, hc2⟩ := hv.shape
  cases ao with
  | none =>
    have hcap : cap = 0 := by
      obtain ⟨ao', cap', e, h1, h2, h3, _⟩ := hv
      simp only [Value.slice.injEq] at e
      obtain ⟨rfl, _, rfl⟩ := e
      exact h3 rfl
    subst hcap
    obtain rfl : l = [] := List.eq_nil_of_length_eq_zero (by omega)
    clear hv
    show Calls Try.prog 75 #[.slice none 0 0] w _
    have heq : ∀ W, (binOp .eql 25 (.slice none 0 0) (.slice none 0 0)).run Try.prog W = .ok (.bool true) W := fun W => by kernel_rfl
    go_enter Try.func75, Try.ntmps75
    go_wp2_with fail
    go_ret
    exact ⟨_, rfl, World.ownsRow_nil _ _ _ _, Below.refl _ _⟩
  | some a =>
    have hl2 : 0 + l.length ≤ 1000000000 := by omega
    have hown : (w.alloc (.cells #[] 46)).ownsRow w.heap.size 46 6 (.slice (some ⟨w.heap.size, 0, none⟩) 0 0) 0 (slE.vs []) := World.ownsRow_made w #[] 0 (Nat.le_refl _) (by decide) rfl
    have hb8 : w.heap.size ≤ (w.alloc (.cells #[] 46)).heap.size := by simp
    have heq : ∀ W, (binOp .eql 25 (.slice (some a) l.length cap) (.slice none 0 0)).run Try.prog W = .ok (.bool false) W := fun W => Lib.run_eql_slice_nil W _ _ _ _ _ _ _ Try.underlying25
    have HV1 := hide (hv.alloc (.cells #[] 46))
    have HBA := hide (below_allocG w (.cells #[] 46))
    clear hv
    go_enter Try.func75, Try.ntmps75
    go_wp2_with (at_builtin; go_must (refine wpList_append_rdG (E := slE) (cs := []) hown HV1.out Try.underlying25 infoSlot rfl rfl rfl rfl rfl hl2 (by decide) hb8 ?_); intro v1 w1 ho1 hb1 hg1; clear hg1)
    go_ret
    exact ⟨_, rfl, by simpa using ho1, HBA.out.trans hb1⟩

set_option maxRecDepth 100000 in
set_option maxHeartbeats 4000000 in
theorem copiedA_any (b : Bd) (hv sv : Value) (w : World) (hh : RdG hoE w hv b.hs) (hs : RdG slE w sv b.sl) (hl1 : b.hs.length ≤ 1000) (hl2 : b.sl.length ≤ 1000) :
    Calls Try.prog 36 #[bdV hv sv b] w fun e w' => ∃ hv' sv', e = .returned (bdV hv' sv' b) ∧ w'.ownsRow w.heap.size 42 3 hv' b.hs.length (hoE.vs b.hs) ∧ w'.ownsRow w.heap.size 46 6 sv' b.sl.length (slE.vs b.sl) ∧ Below w.heap.size w w' := by
  have HH := hide hh
  have HS := hide hs
  obtain ⟨ah, ch, rfl, _, _⟩ := hh.shape
  obtain ⟨as_, cs, rfl, _, _⟩ := hs.shape
  obtain ⟨hB, hR, hA⟩ := two_atA w #[.slice ah b.hs.length ch, .slice as_ b.sl.length cs, .int .i64 b.tu, .int .i64 b.nx] #[.slice none 0 0, .slice none 0 0, .int .i64 0, .int .i64 0] 27 80
  have HB0 := hide hB
  have HR0 := hide hR
  have HA0 := hide hA
  have HL2 := hide hl2
  generalize hW : ((w.alloc (.cells #[.slice ah b.hs.length ch, .slice as_ b.sl.length cs, .int .i64 b.tu, .int .i64 b.nx] 27)).alloc (.cells #[.slice none 0 0, .slice none 0 0, .int .i64 0, .int .i64 0] 80)) = W0 at HB0 HR0 HA0
  have HW := hide hW
  have HC := hide (CloneH_any _ W0 (HH.out.below HA0.out) hl1)
  have b0 := HB0.out.cell 0
  have bl := HB0.out.lt
  simp only [List.getElem?_toArray, List.getElem?_cons_zero] at b0
  clear hh hs hB hR hA hW hl1 hl2
  unfold bdV
  go_enter Try.func36, Try.ntmps36
  go_upto_region 1 with fail
  rw [HW.out]
  clear HW
  go_upto_region 2 with (first
    | (go_at_call 74; refine HC.out.mono ?_; rintro e w1 ⟨v1, rfl, ho1, hb1⟩; obtain ⟨a1, k1, rfl⟩ := owns_shapeA ho1; have HO1 := hide (owns_base1 ho1 HA0.out.size); have HB1 := hide (HB0.out.later hb1); have HR1 := hide (HR0.out.later hb1); have HA1 := hide (HA0.out.trans (hb1.mono HA0.out.size)); clear ho1 hb1)
    | (refine wpList_store_slice (k := 0) rfl rfl rfl rfl HB1.out rfl Try.sizeHosts ?_; intro w2 hB2 hg2; have HB2 := hide (show Blk w2 w.heap.size 27 #[.slice a1 b.hs.length k1, .slice as_ b.sl.length cs, .int .i64 b.tu, .int .i64 b.nx] from hB2); have HR2 := hide (HR1.out.grown hg2 (fun q => by simp at q)); have HO2 := hide (owns_grownO HO1.out hg2 (.inr (owns_off HO1.out HB1.out (by decide)))); have HA2 := hide (below_grownO HA1.out hg2 (fun k hk => by cases hk; omega) HA1.out.size); clear hB2 hg2))
  clear b0 bl
  try dsimp only [Act.put]
  have HC2 := hide (CloneS_any _ w2 (HS.out.below HA2.out) HL2.out)
  have b1 := HB2.out.cell 1
  have bl := HB2.out.lt
  simp only [List.getElem?_toArray, List.getElem?_cons_succ, List.getElem?_cons_zero] at b1
  have hz2 := HA2.out.size
  go_upto_region 3 with (first
    | (go_at_call 75; refine HC2.out.mono ?_; rintro e w3 ⟨v3, rfl, ho3, hb3⟩; obtain ⟨a3, k3, rfl⟩ := owns_shapeA ho3; have HP3 := hide (owns_base1 ho3 hz2); have HB3 := hide (HB2.out.later hb3); have HR3 := hide (HR2.out.later hb3); have HO3 := hide (owns_laterA HO2.out hb3); have HA3 := hide (HA2.out.trans (hb3.mono hz2)); clear ho3 hb3)
    | (refine wpList_store_slice (k := 1) rfl rfl rfl rfl HB3.out rfl Try.sizeSlots ?_; intro w4 hB4 hg4; have HB4 := hide (show Blk w4 w.heap.size 27 #[.slice a1 b.hs.length k1, .slice a3 b.sl.length k3, .int .i64 b.tu, .int .i64 b.nx] from hB4); have HR4 := hide (HR3.out.grown hg4 (fun q => by simp at q)); have HO4 := hide (owns_grownO HO3.out hg4 (.inr (owns_off HO3.out HB3.out (by decide)))); have HP4 := hide (owns_grownO HP3.out hg4 (.inr (owns_off HP3.out HB3.out (by decide)))); have HA4 := hide (below_grownO HA3.out hg4 (fun k hk => by cases hk; omega) HA3.out.size); clear hB4 hg4))
  clear b1 bl
  try dsimp only [Act.put]
  go_wp2_with (first
    | (refine wpList_load_blk HB4.out Try.underlying27 rfl Try.sizeBoard rfl rfl rfl ?_)
    | (refine wpList_store_blk rfl rfl rfl rfl HR4.out rfl Try.sizeBoardA rfl ?_; intro w8 hR8 hg8; have HR8 := hide hR8; have HO8 := hide (owns_grownO HO4.out hg8 (.inr (owns_off HO4.out HR4.out (by decide)))); have HP8 := hide (owns_grownO HP4.out hg8 (.inr (owns_off HP4.out HR4.out (by decide)))); have HA8 := hide (below_grownO HA4.out hg8 (fun k hk => by cases hk; omega) HA4.out.size); clear hR8 hg8))
  refine bodyPost_ret (v := .agg #[.slice a1 b.hs.length k1, .slice a3 b.sl.length k3, .int .i64 b.tu, .int .i64 b.nx]) (results1_cell Try.results36 rfl (run_loadVar_blk HR8.out Try.underlying80 rfl Try.sizeBoardA)) rfl ?_
  exact ⟨_, _, rfl, HO8.out, HP8.out, HA8.out⟩

end Go.Proofs.Ytoeobhehjnkkkaa
