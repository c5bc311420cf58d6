/-
  Texts joined: AsW7.
-/
import Derived.Test.YtoeobhehjnkkkaaMLocateDoesAsW6
/-
  The walks over package assign's heldFault and turnOff.
-/
namespace Go.Proofs.Ytoeobhehjnkkkaa
open Go.RowKit Go.Maps
set_option linter.unusedVariables false

/-- An order. -/
structure Od where
  kind : Int
  id : Int
  ho : Int
  tu : Int
  row : ByteArray

theorem blk_drewN {w : World} {B : Nat} {t : TypeId} {xs : Array Value} (h : Blk w B t xs) (n : Nat) : Blk (w.drewN n) B t xs := h

theorem below_of_drewN {w w' : World} {n : Nat} (h : Below (w.drewN n).heap.size (w.drewN n) w') : Below w.heap.size w w' :=
  (below_drewN (Below.refl w.heap.size w) n).trans h

def odV (o : Od) : Value := .agg #[.int .i64 o.kind, .int .i64 o.id, .int .i64 o.ho, .int .i64 o.tu, .string o.row]

set_option maxRecDepth 100000 in
set_option maxHeartbeats 4000000 in
theorem heldFault_nil (l : List Sl) (sv : Value) (o : Od) (st : Int) (w : World) :
    Calls Try.prog 93 #[elP sv 6 none, odV o, .int .i64 st] w fun e w' => e = .returned (flt (heF l none o.ho o.tu st)) ∧ Below w.heap.size w w' := by
  obtain ⟨hB, hR, hA⟩ := two_atA w #[.int .i64 o.kind, .int .i64 o.id, .int .i64 o.ho, .int .i64 o.tu, .string o.row] #[.int .i64 0, .int .i64 0] 50 30
  have HS := hide (fun W => slotFault_nil l sv st W)
  have HE : Hid (heF l none o.ho o.tu st = slF l none st) := hide rfl
  have HF : Hid (slF l none st = (6, -1)) := hide rfl
  rw [elP_none] at HS ⊢
  have HR0 := hide hR
  have HA0 := hide hA
  generalize hW : ((w.alloc (.cells #[.int .i64 o.kind, .int .i64 o.id, .int .i64 o.ho, .int .i64 o.tu, .string o.row] 50)).alloc (.cells #[.int .i64 0, .int .i64 0] 30)) = W at HR0 HA0
  have HW := hide hW
  clear hB hR hA hW
  unfold odV
  go_enter Try.func93, Try.ntmps93
  go_upto_region 1 with fail
  rw [HW.out]
  go_quiet (fail)
  go_wp2_with (first
    | (go_at_call 92; refine (HS.out _).mono ?_; rintro e w1 ⟨rfl, hb1⟩; have HR1 := hide (Blk.later (w := W) HR0.out (below_of_drewN hb1)); have HA1 := hide (HA0.out.trans ((below_of_drewN (w := W) hb1).mono HA0.out.size)); clear hb1; rw [HF.out]; unfold flt)
    | (refine wpList_store_blk rfl rfl rfl rfl HR1.out rfl Try.sizeFaultA rfl ?_; intro w8 hR8 hg8; have HR8 := hide hR8; have HA8 := hide (below_grownO HA1.out hg8 (fun k hk => by cases hk; omega) HA1.out.size); clear hR8 hg8))
  refine bodyPost_ret (v := .agg #[.int .i64 6, .int .i64 (-1)]) (results1_cell Try.results93 rfl (run_loadVar_blk HR8.out Try.underlying30 rfl Try.sizeFaultA)) rfl ?_
  exact ⟨by rw [HE.out, HF.out]; rfl, HA8.out⟩

set_option maxRecDepth 100000 in
set_option maxHeartbeats 4000000 in
theorem heldFault_some (base : Nat) (l : List Sl) (sv : Value) (k : Nat) (o : Od) (st : Int) (w : World) (h : w.ownsRow base 46 6 sv l.length (slE.vs l)) (hk : k < l.length) :
    Calls Try.prog 93 #[elP sv 6 (some k), odV o, .int .i64 st] w fun e w' => e = .returned (flt (heF l (some k) o.ho o.tu st)) ∧ Below w.heap.size w w' := by
  obtain ⟨hB, hR, hA⟩ := two_atA w #[.int .i64 o.kind, .int .i64 o.id, .int .i64 o.ho, .int .i64 o.tu, .string o.row] #[.int .i64 0, .int .i64 0] 50 30
  have HS := hide (fun W (hW : Below w.heap.size w W) => slotFault_some base l sv k st W (owns_laterA h hW) hk)
  obtain ⟨x, hx⟩ : ∃ x, l[k]? = some x := ⟨_, List.getElem?_eq_getElem hk⟩
  have hgd : l.getD k zeroSl = x := by rw [List.getD_eq_getElem?_getD, hx]; rfl
  obtain ⟨g, cap, rfl, hg1, hg2, hat⟩ := owns_here h hx
  obtain ⟨c0, c1, c2, c3, c4, c5⟩ := (hat.below hA).slot
  have HF : Hid (heF l (some k) o.ho o.tu st = if x.ho ≠ o.ho ∨ x.tu ≠ o.tu then (12, -1) else slF l (some k) st) := hide (by simp only [heF, hgd])
  rw [elP_some] at HS ⊢
  have hgW : g < ((w.alloc (.cells #[.int .i64 o.kind, .int .i64 o.id, .int .i64 o.ho, .int .i64 o.tu, .string o.row] 50)).alloc (.cells #[.int .i64 0, .int .i64 0] 30)).heap.size := Nat.lt_of_lt_of_le hg2 hA.size
  have o2 := hB.cell 2
  have o3 := hB.cell 3
  have ol := hB.lt
  simp only [List.getElem?_toArray, List.getElem?_cons_succ, List.getElem?_cons_zero] at o2 o3
  have HR0 := hide hR
  have HA0 := hide hA
  generalize hW : ((w.alloc (.cells #[.int .i64 o.kind, .int .i64 o.id, .int .i64 o.ho, .int .i64 o.tu, .string o.row] 50)).alloc (.cells #[.int .i64 0, .int .i64 0] 30)) = W at HR0 HA0 c4 c5 o2 o3 ol hgW
  have HW := hide hW
  generalize hSF : slF l (some k) st = SF at HS HF
  obtain ⟨fx, fy⟩ := SF
  clear hB hR hA hW h hat hx hgd c0 c1 c2 c3 hSF
  unfold odV
  unfold flt at HS
  by_cases q1 : x.ho = o.ho
  · have e1 : (x.ho != o.ho) = false := by simp [q1]
    have e1' : (x.ho == o.ho) = true := by simp [q1]
    by_cases q2 : x.tu = o.tu
    · have e2 : (x.tu != o.tu) = false := by simp [q2]
      have e2' : (x.tu == o.tu) = true := by simp [q2]
      have HE := hide (HF.out.trans (if_neg (fun q => q.elim (fun q => q q1) (fun q => q q2))))
      clear q1 q2 HF
      go_enter Try.func93, Try.ntmps93
      go_upto_region 1 with fail
      rw [HW.out]
      go_quiet (fail)
      go_wp2_with (first
        | (go_at_call 92; refine (HS.out _ (below_drewN HA0.out _)).mono ?_; rintro e w1 ⟨rfl, hb1⟩; have HR1 := hide (Blk.later (w := W) HR0.out (below_of_drewN hb1)); have HA1 := hide (HA0.out.trans ((below_of_drewN (w := W) hb1).mono HA0.out.size)); clear hb1)
        | (refine wpList_store_blk rfl rfl rfl rfl HR1.out rfl Try.sizeFaultA rfl ?_; intro w8 hR8 hg8; have HR8 := hide hR8; have HA8 := hide (below_grownO HA1.out hg8 (fun k hk => by cases hk; omega) HA1.out.size); clear hR8 hg8))
      refine bodyPost_ret (v := .agg #[.int .i64 fx, .int .i64 fy]) (results1_cell Try.results93 rfl (run_loadVar_blk HR8.out Try.underlying30 rfl Try.sizeFaultA)) rfl ?_
      exact ⟨by rw [HE.out]; rfl, HA8.out⟩
    · have e2 : (x.tu != o.tu) = true := by simp [q2]
      have e2' : (x.tu == o.tu) = false := beq_eq_false_iff_ne.2 q2
      have HE := hide (HF.out.trans (if_pos (.inr q2)))
      clear q1 q2 HF
      go_enter Try.func93, Try.ntmps93
      go_upto_region 1 with fail
      rw [HW.out]
      go_quiet (fail)
      go_wp2_with (refine wpList_store_blk rfl rfl rfl rfl (show Blk _ _ _ _ from blk_drewN HR0.out _) rfl Try.sizeFaultA rfl ?_; intro w8 hR8 hg8; have HR8 := hide hR8; have HA8 := hide (below_grownO (below_drewN HA0.out _) hg8 (fun k hk => by cases hk; omega) HA0.out.size); clear hR8 hg8)
      refine bodyPost_ret (v := .agg #[.int .i64 12, .int .i64 (-1)]) (results1_cell Try.results93 rfl (run_loadVar_blk HR8.out Try.underlying30 rfl Try.sizeFaultA)) rfl ?_
      exact ⟨by rw [HE.out]; rfl, HA8.out⟩
  · have e1 : (x.ho != o.ho) = true := by simp [q1]
    have e1' : (x.ho == o.ho) = false := beq_eq_false_iff_ne.2 q1
    have HE := hide (HF.out.trans (if_pos (.inl q1)))
    clear q1 HF
    go_enter Try.func93, Try.ntmps93
    go_upto_region 1 with fail
    rw [HW.out]
    go_quiet (fail)
    go_wp2_with (refine wpList_store_blk rfl rfl rfl rfl (show Blk _ _ _ _ from blk_drewN HR0.out _) rfl Try.sizeFaultA rfl ?_; intro w8 hR8 hg8; have HR8 := hide hR8; have HA8 := hide (below_grownO (below_drewN HA0.out _) hg8 (fun k hk => by cases hk; omega) HA0.out.size); clear hR8 hg8)
    refine bodyPost_ret (v := .agg #[.int .i64 12, .int .i64 (-1)]) (results1_cell Try.results93 rfl (run_loadVar_blk HR8.out Try.underlying30 rfl Try.sizeFaultA)) rfl ?_
    exact ⟨by rw [HE.out]; rfl, HA8.out⟩

end Go.Proofs.Ytoeobhehjnkkkaa
