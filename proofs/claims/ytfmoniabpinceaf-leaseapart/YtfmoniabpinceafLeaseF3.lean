/-
  The walks over slices.Clone of ints and the function that Fair hands over.
-/
import Derived.Test.YtfmoniabpinceafLeaseF2
import Derived.Test.YtfmoniabpinceafLeaseC11
import Derived.Lib.SliceRun
import Derived.Deep.RegionLaw
namespace Go.Proofs.Ytfmoniabpinceaf
open Go.RowKit
set_option linter.unusedVariables false

set_option maxRecDepth 100000 in
set_option maxHeartbeats 1000000 in
theorem CloneI_any (v : Value) (zs : List Int) (w : World) (hv : RdG iE w v zs) (hl : zs.length ≤ 1000) (hp : 0 < zs.length) :
    Calls Try.prog 52 #[v] w fun e w' => ∃ v', e = .returned v' ∧ w'.ownsRow w.heap.size 3 1 v' zs.length (iE.vs zs) ∧ Below w.heap.size w w' := by
  obtain ⟨x, hx⟩ : ∃ x, zs[0]? = some x := ⟨_, List.getElem?_eq_getElem hp⟩
  obtain ⟨ao, cap, rfl, hc1, hc2⟩ := hv.shape
  obtain ⟨b, off, rfl, hb, hat⟩ := hv.here hx
  have hl2 : 0 + zs.length ≤ 1000000000 := by omega
  have hown : (w.alloc (.cells #[] 3)).ownsRow w.heap.size 3 1 (.slice (some ⟨w.heap.size, 0, none⟩) 0 0) 0 (iE.vs []) := World.ownsRow_made w #[] 0 (Nat.le_refl _) (by decide) rfl
  have hv1 := hv.alloc (.cells #[] 3)
  have hb8 : w.heap.size ≤ (w.alloc (.cells #[] 3)).heap.size := by simp
  have hbA := below_allocG w (.cells #[] 3)
  have heq : ∀ W, (binOp .eql 57 (.slice (some ⟨b, off, none⟩) zs.length cap) (.slice none 0 0)).run Try.prog W = .ok (.bool false) W := fun W => Lib.run_eql_slice_nil W _ _ _ _ _ _ _ Try.underlying57
  have HV1 := hide hv1
  have HBA := hide hbA
  clear hat hx hv hv1 hbA
  go_enter Try.func52, Try.ntmps52
  go_wp2_with (at_builtin; go_must (refine wpList_append_rdG (E := iE) (cs := []) hown HV1.out Try.underlying57 infoInt1 rfl rfl rfl rfl rfl hl2 (by decide) hb8 ?_); intro v1 w1 ho1 hb1 hg1; clear hg1)
  go_ret
  exact ⟨_, rfl, by simpa using ho1, HBA.out.trans hb1⟩

/-- Moments in memory of one's own: the variable's block, the row, and the clients' clocks of each. -/
structure MoAt (w : World) (M base : Nat) (vc v : Value) (L : List (Int × List Int)) (ps : List Mo) : Prop where
  blk : Blk w M 96 #[v]
  row : w.ownsRow base 99 2 v L.length (mE.vs ps)
  each : ∀ (i : Nat) p m, ps[i]? = some p → L[i]? = some m → p.now = m.1 ∧ w.ownsRow base 3 1 (.slice p.ao p.len p.cap) m.2.length (iE.vs m.2) ∧ (Value.slice p.ao p.len p.cap).ownBlock ≠ vc.ownBlock

theorem MoAt.len {w : World} {M base : Nat} {vc v : Value} {L : List (Int × List Int)} {ps : List Mo} (h : MoAt w M base vc v L ps) : ps.length = L.length := owns_len h.row

theorem MoAt.rdM {w : World} {M base : Nat} {vc v : Value} {L : List (Int × List Int)} {ps : List Mo} (h : MoAt w M base vc v L ps) : RdM w v L :=
  ⟨ps, RdG.ofOwns h.row, h.len, fun i p m hp hm => ⟨(h.each i p m hp hm).1, RdG.ofOwns (h.each i p m hp hm).2.1⟩⟩

theorem owns_frC {w w' : World} {B : Nat} {vc v : Value} (hf : FrC B vc w w') {base : Nat} {e : TypeId} {K n : Nat} {xs : List Value} (h : w.ownsRow base e K v n xs) (h1 : e ≠ 116) (h2 : e ≠ 80) (h3 : e ≠ 105) (h4 : e ≠ 107) (hne : v.ownBlock = none ∨ v.ownBlock ≠ vc.ownBlock) : w'.ownsRow base e K v n xs := by
  refine ⟨h.1, ?_⟩
  rcases h.2 with hn | ⟨g, cap, cur, rfl, hb, hg, r⟩
  · exact .inl hn
  · refine .inr ⟨g, cap, cur, rfl, hb, hf.typ g _ _ _ hg h1 h2 h3 h4 ?_, r⟩
    rcases hne with q | q
    · simp [Value.ownBlock] at q
    · exact q

theorem MoAt.frC {w w' : World} {M base B : Nat} {vc v : Value} {L : List (Int × List Int)} {ps : List Mo} (h : MoAt w M base vc v L ps) (hf : FrC B vc w w') (hM : M < B) (hv : v.ownBlock = none ∨ v.ownBlock ≠ vc.ownBlock) : MoAt w' M base vc v L ps :=
  ⟨h.blk.below hf.low hM, owns_frC hf h.row (by decide) (by decide) (by decide) (by decide) hv, fun i p m hp hm => ⟨(h.each i p m hp hm).1, owns_frC hf (h.each i p m hp hm).2.1 (by decide) (by decide) (by decide) (by decide) (.inr (h.each i p m hp hm).2.2), (h.each i p m hp hm).2.2⟩⟩

theorem infoMo : (Try.prog.info? 99).map (fun i => (i.zero, i.size, i.bytes)) = some (some (.agg #[.int .i64 0, .slice none 0 0]), 2, 32) := by kernel_rfl

/-- A call's step inside a region that draws its order. -/
theorem step_callL {P : Program} {w : World} {ops : Array Oper} {o : Oper} {a : Act} {K : Act → World → Prop} {Q : Exit → Act → World → Prop} {E : Prop} {f : FuncId} {x : Operand} {ats : Array TypeId} {v : Value} {R : Value → World → Prop}
    (hc : Calls P f #[v] w fun e w' => ∃ u, e = .returned u ∧ R u w') (hcf : ∀ args W, (callFunc f args).run P W = .ok (.enter f args) W)
    (hgd : o.guard = none) (ho : o.op = .call { callee := .value (.func f), args := #[x], argTypes := ats }) (hx : a.eval x = v)
    (h : ∀ u w', R u w' → K (a.put o.dst u) w') :
    if Region.wanted o (yielded ops a.tmps) = true then Oper.wp P o a w K Q else E := by
  have hw : Region.wanted o (yielded ops a.tmps) = true := by simp [Region.wanted, hgd]
  rw [if_pos hw]
  have he : execOp a.eval o = callFunc f #[v] := by
    cases o
    simp only at ho
    subst ho
    rw [execOp_call_go]
    simp [hx]
  unfold Oper.wp
  rw [he, hcf, Oper.upon_enter]
  exact hc.mono (by rintro e w' ⟨u, rfl, hr⟩; exact h u w' hr)

theorem enters52 (args : Array Value) (W : World) : (callFunc 52 args).run Try.prog W = .ok (.enter 52 args) W := by kernel_rfl

theorem owns_base {w : World} {b1 b2 : Nat} {e : TypeId} {K : Nat} {v : Value} {n : Nat} {xs : List Value} (h : w.ownsRow b1 e K v n xs) (hb : b2 ≤ b1) : w.ownsRow b2 e K v n xs := by
  refine ⟨h.1, ?_⟩
  rcases h.2 with q | ⟨g, cap, cur, rfl, h1, r⟩
  · exact .inl q
  · exact .inr ⟨g, cap, cur, rfl, Nat.le_trans hb h1, r⟩

theorem fair1_end {w w9 w11 : World} {M base bb vcap cap9 cap11 : Nat} {vc : Value} {vo ao9 ao11 : Option Addr} {L : List (Int × List Int)} {ps : List Mo} {c : Ct} (h : MoAt w M base vc (.slice vo L.length vcap) L ps) (hb : Below w.heap.size w w9)
    (ho9 : w9.ownsRow bb 3 1 (.slice ao9 c.clocks.length cap9) c.clocks.length (iE.vs c.clocks)) (hbb : base ≤ bb) (hne : (Value.slice ao9 c.clocks.length cap9).ownBlock ≠ vc.ownBlock) (o : Obj) (hg : (w9.alloc o).grownBy w11 (Value.slice vo L.length vcap).ownBlock)
    (ho11 : w11.ownsRow base 99 2 (.slice ao11 (L.length + 1) cap11) (L.length + 1) (mE.vs (ps ++ [⟨c.now, ao9, c.clocks.length, cap9⟩]))) (hB11 : Blk w11 M 96 #[.slice vo L.length vcap]) :
    MoAt (w11.setCell ⟨M, 0, none⟩ (.slice ao11 (L.length + 1) cap11)) M base vc (.slice ao11 (L.length + 1) cap11) (L ++ [(c.now, c.clocks)]) (ps ++ [⟨c.now, ao9, c.clocks.length, cap9⟩]) ∧ Kp2 w (w11.setCell ⟨M, 0, none⟩ (.slice ao11 (L.length + 1) cap11)) M (Value.slice vo L.length vcap).ownBlock := by
  have hA : Below w.heap.size w (w9.alloc o) := hb.trans ((below_allocG w9 o).mono hb.size)
  have keep : ∀ {b : Nat} {v : Value} {n : Nat} {xs : List Value}, (w9.alloc o).ownsRow b 3 1 v n xs → (w11.setCell ⟨M, 0, none⟩ (.slice ao11 (L.length + 1) cap11)).ownsRow b 3 1 v n xs := by
    intro b v n xs hv
    have hrow := owns_below (owns_below h.row hb) (below_allocG w9 o)
    have h1 := hv.kept hg (owns_ne hv hrow (by decide))
    exact owns_setOther h1 (p := ⟨M, 0, none⟩) (owns_off h1 hB11 (by decide)) _
  refine ⟨⟨hB11.set 0 _, ?_, fun i p m hp hm => ?_⟩, Kp2.of hA hg M 0 _⟩
  · rw [List.length_append]
    exact owns_setOther ho11 (p := ⟨M, 0, none⟩) (owns_off ho11 hB11 (by decide)) _
  · have hl := h.len
    by_cases hi : i < L.length
    · rw [List.getElem?_append_left (by omega)] at hp hm
      obtain ⟨a1, a2, a3⟩ := h.each i p m hp hm
      exact ⟨a1, keep (owns_below (owns_below a2 hb) (below_allocG w9 o)), a3⟩
    · have hi2 := (List.getElem?_eq_some_iff.1 hm).1
      rw [List.length_append] at hi2
      have e : i = L.length := by simp at hi2; omega
      subst e
      rw [List.getElem?_append_right (by omega), hl, Nat.sub_self] at hp
      rw [List.getElem?_append_right (Nat.le_refl _), Nat.sub_self] at hm
      simp at hp hm
      subst hp hm
      exact ⟨rfl, keep (owns_base (owns_below ho9 (below_allocG w9 o)) hbb), hne⟩

set_option maxRecDepth 100000 in
set_option maxHeartbeats 8000000 in
theorem fair1_any (c : Ct) (vc vt vw vr v : Value) (M base : Nat) (L : List (Int × List Int)) (ps : List Mo) (w : World) (h : MoAt w M base vc v L ps) (hc : RdG iE w vc c.clocks) (hvo : ∃ g cap, vc = .slice (some ⟨g, 0, none⟩) c.clocks.length cap ∧ g < w.heap.size) (hl0 : 0 < c.clocks.length) (hl8 : c.clocks.length ≤ 8) (hL : L.length ≤ 1000000) (hbase : base ≤ w.heap.size) :
    Calls Try.prog 51 #[ctV c vc vt vw vr, .pointer (some ⟨M, 0, none⟩)] w fun e w' => e = .returned (.tuple #[]) ∧ ∃ v' ps', MoAt w' M base vc v' (L ++ [(c.now, c.clocks)]) ps' ∧ Kp2 w w' M v.ownBlock := by
  obtain ⟨g, cap, rfl, hg⟩ := hvo
  have HCL := hide (fun W (hW : Below w.heap.size w W) => CloneI_any _ c.clocks W (hc.below hW) (by omega) hl0)
  have hoff := owns_off h.row h.blk (by decide)
  have hlt := h.row.lt
  obtain ⟨vo, vcap, rfl⟩ := owns_shapeK h.row
  have m0 := h.blk.cell 0
  have mz := h.blk.frozen 0
  have ml := h.blk.lt
  simp at m0
  have HH := hide h
  have HOFF := hide hoff
  have HLT := hide hlt
  have HBASE := hide hbase
  have HNEW : Hid (∀ (W : World) (ao : Option Addr) (n cap : Nat), RdG mE (W.alloc (.cells #[.int .i64 c.now, .slice ao n cap] 99)) (.slice (some ⟨W.heap.size, 0, none⟩) 1 1) [⟨c.now, ao, n, cap⟩]) := hide fun W ao n cap => RdG.newL (E := mE) W [⟨c.now, ao, n, cap⟩] 99 _ rfl (by simp)
  have HL1 : Hid (∀ (ao : Option Addr) (n cap : Nat), L.length + ([⟨c.now, ao, n, cap⟩] : List Mo).length ≤ 1000000000) := hide fun _ _ _ => by simp; omega
  have HROW : Hid (∀ (W : World) (o : Obj), Below w.heap.size w W → (W.alloc o).ownsRow base 99 2 (.slice vo L.length vcap) L.length (mE.vs ps)) := hide fun W o hW => (owns_below HH.out.row hW).alloc o
  have HBS : Hid (∀ (W : World) (o : Obj), Below w.heap.size w W → base ≤ (W.alloc o).heap.size) := hide fun W o hW => Nat.le_trans HBASE.out (Nat.le_trans hW.size (by simp))
  have HMB : Hid (∀ (W w11 : World) (o : Obj), Below w.heap.size w W → (W.alloc o).grownBy w11 (Value.slice vo L.length vcap).ownBlock → Blk w11 M 96 #[.slice vo L.length vcap]) := hide fun W w11 o hW hg => ((HH.out.blk.later hW).later (below_allocG _ _)).grown hg (fun q => HOFF.out q.symm)
  have HBX : Hid (∀ (W w11 : World) (o : Obj), Below (w.heap.size + 1) (w.alloc (.cells #[.int .i64 c.now, .int .i64 c.lease.hold, .int .i64 c.lease.ep, .int .i64 c.lease.til, .slice (some ⟨g, 0, none⟩) c.clocks.length cap, vt, vw, vr] 64)) W → (W.alloc o).grownBy w11 (Value.slice vo L.length vcap).ownBlock → w11.cell? ⟨w.heap.size, 0, none⟩ = some (.int .i64 c.now) ∧ w11.cell? ⟨w.heap.size, 4, none⟩ = some (.slice (some ⟨g, 0, none⟩) c.clocks.length cap)) := hide fun W w11 o hW hg => by
    have q := ((((Blk.new w 64 #[.int .i64 c.now, .int .i64 c.lease.hold, .int .i64 c.lease.ep, .int .i64 c.lease.til, .slice (some ⟨g, 0, none⟩) c.clocks.length cap, vt, vw, vr]).below hW (by omega)).later (below_allocG _ o)).grown hg (fun q => by
      have := (HLT.out _ q.symm).2
      omega))
    exact ⟨q.cell 0, q.cell 4⟩
  have HKEEP : Hid (∀ W, Below (w.heap.size + 1) (w.alloc (.cells #[.int .i64 c.now, .int .i64 c.lease.hold, .int .i64 c.lease.ep, .int .i64 c.lease.til, .slice (some ⟨g, 0, none⟩) c.clocks.length cap, vt, vw, vr] 64)) W → W.cell? ⟨w.heap.size, 0, none⟩ = some (.int .i64 c.now) ∧ W.cell? ⟨w.heap.size, 4, none⟩ = some (.slice (some ⟨g, 0, none⟩) c.clocks.length cap)) := hide fun W hW => by
    have q := (Blk.new w 64 #[.int .i64 c.now, .int .i64 c.lease.hold, .int .i64 c.lease.ep, .int .i64 c.lease.til, .slice (some ⟨g, 0, none⟩) c.clocks.length cap, vt, vw, vr]).below hW (by omega)
    exact ⟨q.cell 0, q.cell 4⟩
  have HK2 : Hid (∀ (W : World) (u : Value), (W.cell? ⟨w.heap.size, 0, none⟩ = some (.int .i64 c.now) ∧ W.cell? ⟨w.heap.size, 4, none⟩ = some (.slice (some ⟨g, 0, none⟩) c.clocks.length cap)) → ((W.setCell ⟨M, 0, none⟩ u).cell? ⟨w.heap.size, 0, none⟩ = some (.int .i64 c.now) ∧ (W.setCell ⟨M, 0, none⟩ u).cell? ⟨w.heap.size, 4, none⟩ = some (.slice (some ⟨g, 0, none⟩) c.clocks.length cap))) := hide fun W u hW => by
    have q : w.heap.size ≠ M := by omega
    exact ⟨(World.cell?_of_block (heap_setCell_other W ⟨M, 0, none⟩ w.heap.size u q)).trans hW.1, (World.cell?_of_block (heap_setCell_other W ⟨M, 0, none⟩ w.heap.size u q)).trans hW.2⟩
  unfold ctV
  clear h hc hoff hlt hbase
  go_enter Try.func51, Try.ntmps51
  go_wp2_with fail
  have b0 := (HKEEP.out _ (Below.refl _ _)).1
  have b4 := (HKEEP.out _ (Below.refl _ _)).2
  go_region_law (first
    | (have k9 := ho9; refine step_append_rdK (E := mE) (cs := ps) (by exact HROW.out w9 _ hb9') (by exact HNEW.out w9 ao9 c.clocks.length cap9) Try.underlying96 infoMo rfl (by rfl) (by rfl) (by rfl) (by rfl) (by exact HL1.out _ _ _) (by decide) (by exact HBS.out w9 _ hb9') ?_; intro v11 w11 ho11 hg11; obtain ⟨ao11, cap11, hv11⟩ := owns_shapeK ho11; subst hv11; have hB11 := HMB.out w9 w11 _ hb9' hg11; have k0 := hB11.cell 0; have k1 := hB11.frozen 0; have k2 := hB11.lt)
    | (refine step_callL (HCL.out _ (by go_grown)) enters52 (by rfl) (by rfl) (by rfl) ?_; rintro v9 w9 ⟨ho9, hb9⟩; obtain ⟨ao9, cap9, hv9⟩ := owns_shapeK ho9; subst hv9; have hb91 : Below (w.heap.size + 1) (w.alloc (.cells #[.int .i64 c.now, .int .i64 c.lease.hold, .int .i64 c.lease.ep, .int .i64 c.lease.til, .slice (some ⟨g, 0, none⟩) c.clocks.length cap, vt, vw, vr] 64)) w9 := Below.trans (by go_grown) (hb9.mono (by simp)); have hb9' : Below w.heap.size w w9 := Below.trans (by go_grown) (hb9.mono (by simp)); have n0 := cell_belowG m0 hb9'; have n1 := Nat.lt_of_lt_of_le ml hb9'.size; obtain ⟨y0, y4⟩ := HKEEP.out w9 hb91; have n2 := World.block_lt_of_cell? w9 _ y0))
  all_goals
    have hne : (Value.slice ao9 c.clocks.length cap9).ownBlock ≠ (Value.slice (some ⟨g, 0, none⟩) c.clocks.length cap).ownBlock := by
      intro q
      have := (ho9.lt g (by rw [q]; rfl)).1
      simp at this
      omega
    refine bodyPost_end (v := .tuple #[]) (by simp [results, Try.results51]) rfl ?_
    exact ⟨rfl, _, _, fair1_end HH.out hb9' ho9 (by have := HBASE.out; simp; omega) hne _ hg11 ho11 hB11⟩

end Go.Proofs.Ytfmoniabpinceaf
