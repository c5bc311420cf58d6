/-
  The walk over cell.runs: lists in order, pieces of the argument.
-/
import Derived.Test.YtlebbkbbmgmmjabCellS2
namespace Go.Proofs.Ytlebbkbbmgmmjab
open Go.RowKit

theorem Try.info43 : (Try.prog.info? 43).map (fun i => (i.zero, i.size, i.bytes)) = some (some (.slice none 0 0), 1, 24) := by kernel_rfl

/-- 'v[lo:hi]' of cells as an operation. -/
theorem run_slice_rdC {P : Program} {t e : TypeId} {z : Value} {bytes : Nat} (ht : P.underlying t = some (.slice e)) (he : P.elem t = e) (hinf : (P.info? e).map (fun i => (i.zero, i.size, i.bytes)) = some (some z, 5, bytes))
    (ao : Option Addr) (n cap lo hi : Nat) (l h : Int) (hl : l = lo) (hh : h = hi) (h1 : lo ≤ hi) (h2 : hi ≤ cap) (W : World) :
    (Instr.slice t (.slice ao n cap) (some (.int .i64 l)) (some (.int .i64 h)) none).run P W = .ok (Go.sliced ao lo hi cap 5) W := by
  obtain ⟨i, hi0, _, hsize, _⟩ := info_parts hinf
  subst hl hh
  rw [run_slice_lh (P := P) W t ao n cap (by rw [he]; exact ht) .i64 .i64 lo hi (by omega) (by omega) (by omega)]
  simp [he, sizeOf, typeInfo, hi0, hsize, Result.andThen]

theorem RdC.sliced {w : World} {ao : Option Addr} {n cap lo hi : Nat} {cs : List Cl} (h : RdC w (.slice ao n cap) cs) (h1 : lo ≤ hi) (h2 : hi ≤ n) : RdC w (Go.sliced ao lo hi cap 5) ((cs.drop lo).take (hi - lo)) := by
  obtain ⟨ao', cap', hv, h3, h4, h5, h6⟩ := h
  simp only [Value.slice.injEq] at hv
  obtain ⟨rfl, rfl, rfl⟩ := hv
  have hl : ((cs.drop lo).take (hi - lo)).length = hi - lo := by simp; omega
  refine ⟨_, cap - lo, by rw [hl]; rfl, by omega, by omega, ?_, ?_⟩
  · intro hn
    split at hn
    · omega
    · rw [Option.map_eq_none_iff] at hn
      have := h5 hn
      omega
  · intro a ha j u hu
    have hj := (List.getElem?_eq_some_iff.1 hu).1
    rw [cc_length, hl] at hj
    rw [← cc_take, ← cc_drop, List.getElem?_take, if_pos (by omega), List.getElem?_drop] at hu
    split at ha
    · omega
    · obtain ⟨a0, e0, rfl⟩ := Option.map_eq_some_iff.1 ha
      have hl2 := (List.getElem?_eq_some_iff.1 hu).1
      have h0 := h6 a0 e0 0 (cc cs)[0] (by simp)
      obtain ⟨b, o, rfl⟩ := add_spot h0
      have := h6 _ e0 (lo * 5 + j) u hu
      simp only [Addr.add_lit] at this ⊢
      rw [Nat.add_assoc]
      exact this

/-- The pieces of a list: each a slice of its own. -/
def RdL (w : World) (v : Value) (ls : List (List Cl)) : Prop := ∃ vs : List Value, Rd w v vs ∧ vs.length = ls.length ∧ (∀ u ∈ vs, u.oneCell' = true) ∧ ∀ (i : Nat) u l, vs[i]? = some u → ls[i]? = some l → RdC w u l

/-- The values of pieces. -/
def Pcs (w : World) (vs : List Value) (ls : List (List Cl)) : Prop := vs.length = ls.length ∧ (∀ u ∈ vs, u.oneCell' = true) ∧ ∀ (i : Nat) u l, vs[i]? = some u → ls[i]? = some l → RdC w u l

theorem Pcs.nil (w : World) : Pcs w [] [] := ⟨rfl, by simp, fun i u l h => by simp at h⟩
theorem Pcs.snoc {w : World} {vs : List Value} {ls : List (List Cl)} (h : Pcs w vs ls) {u : Value} {l : List Cl} (hu : RdC w u l) : Pcs w (vs ++ [u]) (ls ++ [l]) := by
  refine ⟨by simp [h.1], fun x hx => ?_, fun i x y hx hy => ?_⟩
  · rcases List.mem_append.1 hx with hx | hx
    · exact h.2.1 x hx
    · simp at hx
      subst hx
      obtain ⟨_, _, rfl, _⟩ := hu
      rfl
  · by_cases hi : i < vs.length
    · rw [List.getElem?_append_left hi] at hx
      rw [List.getElem?_append_left (by rw [← h.1]; exact hi)] at hy
      exact h.2.2 i x y hx hy
    · have h1 := (List.getElem?_eq_some_iff.1 hx).1
      simp at h1
      have e : i = vs.length := by omega
      subst e
      rw [List.getElem?_append_right (Nat.le_refl _), Nat.sub_self] at hx
      rw [List.getElem?_append_right (by rw [h.1]; exact Nat.le_refl _), h.1, Nat.sub_self] at hy
      simp at hx hy
      subst hx hy
      exact hu

theorem Pcs.below {w w' : World} {vs : List Value} {ls : List (List Cl)} (h : Pcs w vs ls) (hb : Below w.heap.size w w') : Pcs w' vs ls :=
  ⟨h.1, h.2.1, fun i u l hu hl => (h.2.2 i u l hu hl).below hb⟩

/-- The piece from s up to k grows by one. -/
theorem piece_grow {cs : List Cl} {s k : Nat} (h : s ≤ k) {c d : Cl} (hc : cs[k]? = some c) (hd : cs[k + 1]? = some d) (hp : ((cs.drop s).take (k + 1 - s)).Pairwise Lt) (hcd : Lt c d) : ((cs.drop s).take (k + 2 - s)).Pairwise Lt := by
  have e : (cs.drop s).take (k + 2 - s) = (cs.drop s).take (k + 1 - s) ++ [d] := by
    rw [show k + 2 - s = (k + 1 - s) + 1 by omega, List.take_add_one, List.getElem?_drop, show s + (k + 1 - s) = k + 1 by omega, hd]
    rfl
  have e2 : (cs.drop s).take (k + 1 - s) = (cs.drop s).take (k - s) ++ [c] := by
    rw [show k + 1 - s = (k - s) + 1 by omega, List.take_add_one, List.getElem?_drop, show s + (k - s) = k by omega, hc]
    rfl
  rw [e]
  refine List.pairwise_append.2 ⟨hp, by simp, fun x hx y hy => ?_⟩
  simp at hy
  subst hy
  rw [e2] at hx hp
  rcases List.mem_append.1 hx with hx | hx
  · exact Lt_trans ((List.pairwise_append.1 hp).2.2 x hx c (by simp)) hcd
  · simp at hx
    subst hx
    exact hcd

theorem piece_one {cs : List Cl} {k : Nat} : ((cs.drop k).take (k + 1 - k)).Pairwise Lt := by
  rw [show k + 1 - k = 1 by omega]
  cases h : cs.drop k with
  | nil => simp
  | cons x l => simp

theorem piece_join {cs : List Cl} {s k : Nat} (h : s ≤ k) : cs.take s ++ (cs.drop s).take (k - s) = cs.take k := by
  rw [← List.take_add, show s + (k - s) = k by omega]

set_option maxRecDepth 100000 in
set_option maxHeartbeats 2000000 in
theorem runs_any (v : Value) (cs : List Cl) (w : World) (hv : RdC w v cs) (hl : cs.length ≤ 1000) :
    Calls Try.prog 55 #[v] w fun e w' => ∃ v' ls, e = .returned v' ∧ RdL w' v' ls ∧ ls.flatten = cs ∧ (∀ l ∈ ls, l.Pairwise Lt) ∧ ls.length ≤ cs.length ∧ Below w.heap.size w w' := by
  obtain ⟨ao, cap, hvv, hc1, hc2⟩ := hv.shape
  subst hvv
  unfold maxLen at hc2
  go_enter Try.func55, Try.ntmps55
  go_wp2_with fail
  go_loopw [3, 4, 8] (fun o st i wr => ∃ (k s : Nat) (vs : List Value) (ls : List (List Cl)), k ≤ cs.length ∧ i = .int .i64 k ∧ st = .int .i64 s ∧ s ≤ k ∧ (k = cs.length → s = k) ∧ Pcs w vs ls ∧ vs.length ≤ k ∧ ls.flatten = cs.take s ∧ (∀ l ∈ ls, l.Pairwise Lt) ∧ ((cs.drop s).take (k + 1 - s)).Pairwise Lt ∧ wr.ownsRow w.heap.size 43 1 o vs.length vs ∧ Below w.heap.size w wr)
    (fun _ _ i _ => cs.length - (intOf i).toNat)
  case atStart => exact ⟨0, 0, [], [], by omega, rfl, rfl, by omega, fun _ => rfl, Pcs.nil _, by simp, by simp, by simp, piece_one, World.ownsRow_nil _ _ _ _, Below.refl _ _⟩
  case round =>
    obtain ⟨k, s, vs, ls, hk, rfl, rfl, hsk, hend, hpc, hvl, hfl, hpw, hpiece, hown, hbel⟩ := hrel
    have hzr := hbel.size
    by_cases hlt : k < cs.length
    · obtain ⟨j, hj⟩ : ∃ j, j = k + 1 := ⟨_, rfl⟩
      have hw : IntKind.i64.wrap ((k : Int) + 1) = (j : Int) := by rw [IntKind.wrap_i64]; omega
      have hk1 : (0 : Int) ≤ (k : Int) := by omega
      have hk2 : (k : Int) < (cs.length : Int) := by omega
      have hs7 := run_slice_rdC (P := Try.prog) Try.underlying43 (by kernel_rfl) Try.info52 ao cs.length cap s j (s : Int) (j : Int) rfl rfl (by omega) (by omega)
      have hV := hv.sliced (lo := s) (hi := j) (by omega) (by omega)
      have hpp : ((cs.drop s).take (j - s)).Pairwise Lt := by rw [hj]; exact hpiece
      have hfj : ls.flatten ++ (cs.drop s).take (j - s) = cs.take j := by rw [hfl]; exact piece_join (by omega)
      generalize hge : Go.sliced ao s j cap 5 = V at hs7 hV
      clear hge
      obtain ⟨vo, vc, hvv, _, _⟩ := hV.shape
      have hlp : ((cs.drop s).take (j - s)).length = j - s := by simp; omega
      rw [hlp] at hvv
      subst hvv
      have HPC := hide (hpc.snoc hV)
      have HPW := hide hpw
      have HFL := hide hfl
      have HFJ := hide hfj
      have HPP := hide hpp
      have hl8 : vs.length ≤ 1000000000000 := by omega
      have HJ := hide hj
      have hjl : j ≤ cs.length := by omega
      obtain ⟨oo, ocap, hvo⟩ := owns_shape hown
      subst hvo
      by_cases hlast : j = cs.length
      · have hb1 : ((j : Int) == (cs.length : Int)) = true := by simp [hlast]
        have hb2 : (j == cs.length) = true := by simp [hlast]
        clear hlast hfl hpp hfj hpc hpw hV hpiece hend hlp hj
        go_wp2_with fail
        go_quiet (fail)
        go_wp2_with (at_builtin; go_must (refine wpList_append_one hown Try.underlying85 Try.info43 rfl rfl rfl rfl rfl rfl hl8 (by decide) hzr ?_); intro v4 w4 ho4 hb4 hg4; clear hg4)
        go_roundw
        case rel => exact ⟨j, j, _, _, hjl, rfl, rfl, Nat.le_refl _, fun _ => rfl, HPC.out, by have := HJ.out; simp; omega, by rw [List.flatten_append, List.flatten_singleton]; exact HFJ.out, fun l hl => (List.mem_append.1 hl).elim (HPW.out l) (fun h => by simp at h; rw [h]; exact HPP.out), piece_one, by simpa using ho4, (below_drewN hbel _).trans hb4⟩
        case measure => have := HJ.out; simp [intOf]; omega
      · have hb1 : ((j : Int) == (cs.length : Int)) = false := beq_eq_false_iff_ne.2 (by omega)
        have hb2 : (j == cs.length) = false := beq_eq_false_iff_ne.2 hlast
        have hj2 : (j : Int) < (cs.length : Int) := by omega
        have hj1 : (0 : Int) ≤ (j : Int) := by omega
        obtain ⟨c, hc⟩ : ∃ c, cs[k]? = some c := ⟨_, List.getElem?_eq_getElem hlt⟩
        obtain ⟨d, hd⟩ : ∃ d, cs[j]? = some d := ⟨_, List.getElem?_eq_getElem (by omega)⟩
        obtain ⟨b, off, rfl, _, hck⟩ := hv.hereD hc
        obtain ⟨b', off', he, _, hdk⟩ := hv.hereD hd
        simp only [Option.some.injEq, Addr.mk.injEq, and_true] at he
        obtain ⟨rfl, rfl⟩ := he
        have hgrow : Lt c d → ((cs.drop s).take (j + 1 - s)).Pairwise Lt := fun h => by rw [hj] at hd ⊢; exact piece_grow hsk hc hd hpiece h
        have HGROW := hide hgrow
        have HPCS := hide hpc
        have hkeep : ∀ W, Below w.heap.size w W → (W.cell? ⟨b, off + k * 5, none⟩ = some (.string c.row) ∧ W.cell? ⟨b, off + k * 5 + 1, none⟩ = some (.string c.col) ∧ W.cell? ⟨b, off + k * 5 + 2, none⟩ = some (.int .i64 c.time) ∧ W.cell? ⟨b, off + k * 5 + 3, none⟩ = some (.bool c.gone) ∧ W.cell? ⟨b, off + k * 5 + 4, none⟩ = some (.string c.val)) ∧ (W.cell? ⟨b, off + j * 5, none⟩ = some (.string d.row) ∧ W.cell? ⟨b, off + j * 5 + 1, none⟩ = some (.string d.col) ∧ W.cell? ⟨b, off + j * 5 + 2, none⟩ = some (.int .i64 d.time) ∧ W.cell? ⟨b, off + j * 5 + 3, none⟩ = some (.bool d.gone) ∧ W.cell? ⟨b, off + j * 5 + 4, none⟩ = some (.string d.val)) := fun W h => by
          obtain ⟨c0, c1, c2, c3, c4⟩ := hck.below h
          obtain ⟨d0, d1, d2, d3, d4⟩ := hdk.below h
          exact ⟨⟨c0, c1, c2, c3, c4⟩, d0, d1, d2, d3, d4⟩
        have HK := hide hkeep
        obtain ⟨⟨c0, c1, c2, c3, c4⟩, d0, d1, d2, d3, d4⟩ := hkeep wr hbel
        clear hlast hfl hpp hfj hpc hpw hV hpiece hend hlp hj hgrow hkeep hck hdk hc hd
        cases h7 : decide (0 ≤ ordC c d)
        · have HLT := hide (ordC_neg.1 (show ordC c d < 0 by simp at h7; exact h7))
          go_wp2_with fail
          go_region_held3 (fun W => (W.cell? ⟨b, off + k * 5, none⟩ = some (.string c.row) ∧ W.cell? ⟨b, off + k * 5 + 1, none⟩ = some (.string c.col) ∧ W.cell? ⟨b, off + k * 5 + 2, none⟩ = some (.int .i64 c.time) ∧ W.cell? ⟨b, off + k * 5 + 3, none⟩ = some (.bool c.gone) ∧ W.cell? ⟨b, off + k * 5 + 4, none⟩ = some (.string c.val)) ∧ (W.cell? ⟨b, off + j * 5, none⟩ = some (.string d.row) ∧ W.cell? ⟨b, off + j * 5 + 1, none⟩ = some (.string d.col) ∧ W.cell? ⟨b, off + j * 5 + 2, none⟩ = some (.int .i64 d.time) ∧ W.cell? ⟨b, off + j * 5 + 3, none⟩ = some (.bool d.gone) ∧ W.cell? ⟨b, off + j * 5 + 4, none⟩ = some (.string d.val))) (exact HK.out _ (by go_grown)) (first
            | (go_at_call 52; refine (order_any c d _).mono ?_; rintro e w2 ⟨rfl, hb2⟩; have hb12 : Below wr.heap.size wr w2 := Below.trans (by go_grown) hb2; have hbw2 : Below w.heap.size w w2 := hbel.trans (hb12.mono hzr)))
          have how := owns_below hown hb12
          go_wp2_with fail
          go_roundw
          case rel => exact ⟨j, s, vs, ls, hjl, rfl, rfl, by have := HJ.out; omega, fun h => absurd h (by omega), HPCS.out, by have := HJ.out; omega, HFL.out, HPW.out, HGROW.out HLT.out, how, hbw2⟩
          case measure => have := HJ.out; simp [intOf]; omega
        · go_wp2_with fail
          go_region_held3 (fun W => (W.cell? ⟨b, off + k * 5, none⟩ = some (.string c.row) ∧ W.cell? ⟨b, off + k * 5 + 1, none⟩ = some (.string c.col) ∧ W.cell? ⟨b, off + k * 5 + 2, none⟩ = some (.int .i64 c.time) ∧ W.cell? ⟨b, off + k * 5 + 3, none⟩ = some (.bool c.gone) ∧ W.cell? ⟨b, off + k * 5 + 4, none⟩ = some (.string c.val)) ∧ (W.cell? ⟨b, off + j * 5, none⟩ = some (.string d.row) ∧ W.cell? ⟨b, off + j * 5 + 1, none⟩ = some (.string d.col) ∧ W.cell? ⟨b, off + j * 5 + 2, none⟩ = some (.int .i64 d.time) ∧ W.cell? ⟨b, off + j * 5 + 3, none⟩ = some (.bool d.gone) ∧ W.cell? ⟨b, off + j * 5 + 4, none⟩ = some (.string d.val))) (exact HK.out _ (by go_grown)) (first
            | (go_at_call 52; refine (order_any c d _).mono ?_; rintro e w2 ⟨rfl, hb2⟩; have hb12 : Below wr.heap.size wr w2 := Below.trans (by go_grown) hb2; have hbw2 : Below w.heap.size w w2 := hbel.trans (hb12.mono hzr)))
          have how := owns_below hown hb12
          have hz2 := hbw2.size
          go_wp2_with (at_builtin; go_must (refine wpList_append_one how Try.underlying85 Try.info43 rfl rfl rfl rfl rfl rfl hl8 (by decide) hz2 ?_); intro v4 w4 ho4 hb4 hg4; clear hg4)
          go_roundw
          case rel => exact ⟨j, j, _, _, hjl, rfl, rfl, Nat.le_refl _, fun _ => rfl, HPC.out, by have := HJ.out; simp; omega, by rw [List.flatten_append, List.flatten_singleton]; exact HFJ.out, fun l hl => (List.mem_append.1 hl).elim (HPW.out l) (fun h => by simp at h; rw [h]; exact HPP.out), piece_one, by simpa using ho4, hbw2.trans hb4⟩
          case measure => have := HJ.out; simp [intOf]; omega
    · have hkl : k = cs.length := by omega
      have hse := hend hkl
      have hfl2 : ls.flatten = cs := by rw [hfl, hse, hkl, List.take_length]
      have HX := hide (show RdL wr u3 ls from ⟨vs, Rd.ofOwns hown, (hpc.below hbel).1, hpc.2.1, (hpc.below hbel).2.2⟩)
      have HF := hide hfl2
      have HW := hide hpw
      have hll : ls.length ≤ cs.length := by rw [← hpc.1]; omega
      clear hfl hfl2 hpw hpiece hpc hend hse hkl
      go_wp2_with fail
      go_ret
      exact ⟨_, ls, rfl, HX.out, HF.out, HW.out, hll, hbel⟩

end Go.Proofs.Ytlebbkbbmgmmjab
