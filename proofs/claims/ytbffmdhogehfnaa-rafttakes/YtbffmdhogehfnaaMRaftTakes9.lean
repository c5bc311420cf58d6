/-
  Texts joined: RaftU9, RaftU10, RaftU11, EntB, RaftR1, RaftR2, GenH.
-/
import Derived.Test.YtbffmdhogehfnaaMRaftTakes8
import Derived.Deep.RegionHeld3
/-
  The walk over a node's takeAnswer. (Written by ru9.py.)
-/
namespace Go.Proofs.Ytbffmdhogehfnaa
open Go.RowKit Go.Maps
set_option linter.unusedVariables false

set_option maxRecDepth 100000 in
set_option maxHeartbeats 16000000 in
theorem takeAnswer_any (B : Nat) (x : Nd) (lv vv nv hv : Value) (m : Ml) (ev : Value) (lab : Nat → Nat) (w : World) (hm : Nm w lab B x lv vv nv hv) (he0 : Rd0 0 eE w lab ev m.ents) (hf0 : 0 ≤ m.frm) (hfn : m.frm < x.n) (hn7 : x.n ≤ 7) (ha0 : 0 ≤ m.a) (ha1 : m.a ≤ 1000000000) (hll : x.log.length ≤ 1000) (hco : 0 ≤ x.com)
    (hld : x.role = 2 → (x.next.length : Int) = x.n ∧ (x.hav.length : Int) = x.n ∧ (∀ u ∈ x.next, 1 ≤ u ∧ u ≤ x.log.length + 1) ∧ (∀ u ∈ x.hav, 0 ≤ u ∧ u ≤ x.log.length)) :
    Calls Try.prog 77 #[.pointer (some ⟨B, 0, none⟩), mlV m ev] w fun e w' => e = .returned (.tuple #[]) ∧ Nm w' lab B (t4N x m) lv vv nv hv ∧ Chg 0 w w' lab lab (fun i => i ≠ 0) := by
  have HM := hide hm
  have he := he0.1
  have HLD := hide hld
  have HCNT := hide (fun y l1 v1 n1 h1 W (h : Nm W lab B y l1 v1 n1 h1) a b c d e => count_any B y l1 v1 n1 h1 lab W h a b c d e)
  have hlr := hm.nr.rd.log
  obtain ⟨lo1, lc1, hlv, _, _⟩ := hlr.shape
  subst hlv
  obtain ⟨ki, fr, dt, mt, ma, mb, mc, es, ok⟩ := m
  simp only at he hf0 hfn ha0 ha1
  obtain ⟨I, rfl⟩ : ∃ I : Nat, fr = I := ⟨fr.toNat, by omega⟩
  obtain ⟨eo, ec, rfl, he1, he2⟩ := he.shape
  have hW := below_allocG w (.cells #[.int .i64 ki, .int .i64 (I : Int), .int .i64 dt, .int .i64 mt, .int .i64 ma, .int .i64 mb, .int .i64 mc, .slice eo es.length ec, .bool ok] 44)
  have HMB := hide (Blk.new w 44 #[.int .i64 ki, .int .i64 (I : Int), .int .i64 dt, .int .i64 mt, .int .i64 ma, .int .i64 mb, .int .i64 mc, .slice eo es.length ec, .bool ok])
  have HW := hide hW
  have HNB := hide (hm.blk.later hW)
  have HT4 : Hid (t4N x ⟨ki, (I : Int), dt, mt, ma, mb, mc, es, ok⟩ = if x.role ≠ 2 ∨ mt ≠ x.term then x
    else if ok = false then { x with next := x.next.set I (max (min (gI x.next I - 1) (ma + 1)) (gI x.hav I + 1)) }
    else ({ x with hav := x.hav.set I (max (gI x.hav I) (min ma x.log.length)), next := x.next.set I (max (gI x.hav I) (min ma x.log.length) + 1) } : Nd).count) := hide rfl
  generalize t4N x ⟨ki, (I : Int), dt, mt, ma, mb, mc, es, ok⟩ = T1 at HT4 ⊢
  obtain ⟨C, hC⟩ : ∃ C : Bool, C = decide (x.role ≠ 2 ∨ mt ≠ x.term) := ⟨_, rfl⟩
  have HC := hide hC
  have HNUM := hide (And.intro hfn (And.intro hn7 (And.intro ha0 (And.intro ha1 (And.intro hll hco)))))
  unfold mlV mlA
  clear he he0 hlr hm hW hC hf0 hfn hn7 ha0 ha1 hll hco hld
  go_enter Try.func77, Try.ntmps77
  go_upto_region 1 with fail
  generalize hWA : w.alloc (.cells #[.int .i64 ki, .int .i64 (I : Int), .int .i64 dt, .int .i64 mt, .int .i64 ma, .int .i64 mb, .int .i64 mc, .slice eo es.length ec, .bool ok] 44) = A at HW HMB HNB ⊢
  clear hWA
  have p2 := HNB.out.cell 2
  have p5 := HNB.out.cell 5
  have pl := HNB.out.lt
  have m3 := HMB.out.cell 3
  have ml := HMB.out.lt
  simp [ndA] at p2 p5
  simp at m3
  try dsimp only [Act.put]
  go_cut [21] (fun y wc => y = .bool C ∧ Below A.heap.size A wc)
  case first =>
    by_cases h0 : x.role = 2
    case neg =>
      have hq : (x.role != 2) = true := by simp [h0]
      have HQ := hide (show C = true by rw [HC.out]; simp [h0])
      clear h0
      go_quiet (fail)
      go_wp2_with fail
      go_meet
      case rel => exact ⟨by rw [HQ.out] <;> rfl, below_drewN (Below.refl _ _) _⟩
    have hq : (x.role != 2) = false := by simp [h0]
    have HQ := hide (show C = (mt != x.term) by rw [HC.out]; by_cases h : mt = x.term <;> simp [h0, h])
    clear h0
    go_quiet (fail)
    go_wp2_with fail
    go_meet
    case rel => exact ⟨by rw [HQ.out] <;> rfl, below_drewN (Below.refl _ _) _⟩
  case rest =>
  obtain ⟨rfl, hbc⟩ := hcut
  have HBC := hide (HW.out.trans (hbc.mono HW.out.size))
  have HMC := hide (HMB.out.later hbc)
  have HNC := hide (HM.out.below HBC.out)
  have HCH := hide (Chg.below (fun i => i ≠ 0) HM.out.ok HBC.out)
  clear p2 p5 pl m3 ml hbc HMB HNB
  by_cases hc : x.role ≠ 2 ∨ mt ≠ x.term
  · have HE1 := hide (HT4.out.trans (if_pos hc))
    obtain rfl : C = true := by rw [HC.out]; exact decide_eq_true hc
    clear hc
    go_wp2_with fail
    refine bodyPost_ret (v := .tuple #[]) (by simp [results, Try.results77]) rfl ?_
    rw [HE1.out]
    exact ⟨rfl, HNC.out, HCH.out⟩
  have HT5 := hide (HT4.out.trans (if_neg hc))
  obtain rfl : C = false := by rw [HC.out]; exact decide_eq_false hc
  obtain ⟨k1, k2, k3, k4⟩ := HLD.out (Decidable.not_not.1 (fun q => hc (.inl q)))
  have hnum := HNUM.out
  obtain ⟨u, hu⟩ : ∃ u, x.hav[I]? = some u := ⟨_, List.getElem?_eq_getElem (by omega)⟩
  obtain ⟨u2, hu2⟩ : ∃ u, x.next[I]? = some u := ⟨_, List.getElem?_eq_getElem (by omega)⟩
  have b1 := k4 u (List.mem_of_getElem? hu)
  have b2 := k3 u2 (List.mem_of_getElem? hu2)
  have hg1 : gI x.hav I = u := by unfold gI; rw [Int.toNat_natCast, hu]; rfl
  have hg2 : gI x.next I = u2 := by unfold gI; rw [Int.toNat_natCast, hu2]; rfl
  rw [hg1, hg2] at HT5
  obtain ⟨g, gcap, hgv, gl, gc, gz⟩ := HNC.out.hav.atI hu
  obtain ⟨g2, gcap2, hgv2, gl2, gc2, gz2⟩ := HNC.out.nxt.atI hu2
  subst hgv hgv2
  have hi1 : (0 : Int) ≤ (I : Int) := by omega
  have hi2 : (I : Int) < (x.hav.length : Int) := by omega
  have hi3 : (I : Int) < (x.next.length : Int) := by omega
  have HUB := hide (And.intro b1 b2)
  have HUU := hide (And.intro hu hu2)
  have HLL := hide (And.intro k1 k2)
  have p8 := HNC.out.blk.cell 8
  have p9 := HNC.out.blk.cell 9
  have p4 := HNC.out.blk.cell 4
  have pl := HNC.out.blk.lt
  have m1 := HMC.out.cell 1
  have m4 := HMC.out.cell 4
  have m8 := HMC.out.cell 8
  have ml := HMC.out.lt
  simp [ndA] at p8 p9 p4
  simp at m1 m4 m8
  clear hc hnum k1 k2 k3 k4 b1 b2 hg1 hg2 hu hu2
  go_upto_region 2 with fail
  try dsimp only [Act.put]
  go_cut [4, 5] (fun a b wd => a = .pointer (some ⟨g2, I, none⟩) ∧ b = .pointer (some ⟨g, I, none⟩) ∧ Below wc.heap.size wc wd)
  case first =>
    go_quiet (fail)
    go_wp2_with fail
    go_meet
    case rel => exact ⟨by simp, by simp, below_drewN (Below.refl _ _) _⟩
  case rest =>
  obtain ⟨rfl, rfl, hbd⟩ := hcut
  have HND := hide (HNC.out.below hbd)
  have HCD := hide (HCH.out.trans (Chg.below _ HNC.out.ok hbd))
  have HMD := hide (HMC.out.later hbd)
  clear hi2 hi3 p8 p9 p4 pl m1 m4 m8 ml gc gz gc2 gz2 gl gl2 hbd HNC HCH HMC
  obtain ⟨ga, gcapa, hqa, gl, gc, gz⟩ := HND.out.hav.atI HUU.out.1
  simp only [Value.slice.injEq, Option.some.injEq, Addr.mk.injEq] at hqa
  obtain ⟨⟨rfl, _, _⟩, _, rfl⟩ := hqa
  obtain ⟨gb, gcapb, hqb, gl2, gc2, gz2⟩ := HND.out.nxt.atI HUU.out.2
  simp only [Value.slice.injEq, Option.some.injEq, Addr.mk.injEq] at hqb
  obtain ⟨⟨rfl, _, _⟩, _, rfl⟩ := hqb
  have p4 := HND.out.blk.cell 4
  have pl := HND.out.blk.lt
  have m4 := HMD.out.cell 4
  have m8 := HMD.out.cell 8
  have ml := HMD.out.lt
  simp [ndA] at p4
  simp at m4 m8
  have hnum := HNUM.out
  have hub := HUB.out
  have hlen : (x.log.length : Int) ≤ 1000 := by omega
  cases ok
  · have HE1 := hide (HT5.out.trans (if_pos rfl))
    obtain ⟨P1, hP1⟩ : ∃ P1 : Int, P1 = min (u2 - 1) (ma + 1) := ⟨_, rfl⟩
    obtain ⟨nw, hnw⟩ : ∃ nw : Int, nw = max P1 (u + 1) := ⟨_, rfl⟩
    have hw1 : IntKind.i64.wrap (u2 - 1) = u2 - 1 := by rw [IntKind.wrap_i64]; omega
    have hw2 : IntKind.i64.wrap (ma + 1) = ma + 1 := by rw [IntKind.wrap_i64]; omega
    have hw3 : IntKind.i64.wrap (u + 1) = u + 1 := by rw [IntKind.wrap_i64]; omega
    have hmin : ∀ (ts : Array TypeId) (t : TypeId) (W : World), (Builtin.min_ ts t #[.int .i64 (u2 - 1), .int .i64 (ma + 1)]).run Try.prog W = .ok (.int .i64 P1) W := fun ts t W => by rw [run_min_int2, show (if ma + 1 < u2 - 1 then ma + 1 else u2 - 1) = P1 by rw [hP1]; split <;> omega]
    have hmax : ∀ (ts : Array TypeId) (t : TypeId) (W : World), (Builtin.max_ ts t #[.int .i64 P1, .int .i64 (u + 1)]).run Try.prog W = .ok (.int .i64 nw) W := fun ts t W => by rw [run_max_int2, show (if u + 1 > P1 then u + 1 else P1) = nw by rw [hnw]; split <;> omega]
    have HQ1 := hide (show max (min (u2 - 1) (ma + 1)) (u + 1) = nw by rw [hnw, hP1])
    clear hnum hub hP1 hnw hlen
    go_upto_region 4 with fail
    go_region
    all_goals
      obtain ⟨hN7, hC7⟩ := HND.out.setNext I nw
      have hD : Below (wc.setCell ⟨g2, I, none⟩ (.int .i64 nw)).heap.size (wc.setCell ⟨g2, I, none⟩ (.int .i64 nw)) (wc.setCell ⟨g2, I, none⟩ (.int .i64 nw)).drew := Below.drew (Below.refl _ _)
      have HN8 := hide (hN7.below hD)
      have HC8 := hide ((HCD.out.trans (hC7.mono (fun i hi => (by omega : i ≠ 0)))).trans (Chg.below _ hN7.ok hD))
      clear hN7 hC7 hD gc gz gc2 gz2 p4 m4 m8
      generalize (wc.setCell ⟨g2, I, none⟩ (.int .i64 nw)).drew = wz at HN8 HC8 ⊢
      go_wp2_with fail
      refine bodyPost_ret (v := .tuple #[]) (by simp [results, Try.results77]) rfl ?_
      rw [HE1.out, HQ1.out]
      exact ⟨rfl, HN8.out, HC8.out⟩
  · have HE1 := hide (HT5.out.trans (if_neg (by simp)))
    obtain ⟨P1, hP1⟩ : ∃ P1 : Int, P1 = min ma x.log.length := ⟨_, rfl⟩
    obtain ⟨nh, hnh⟩ : ∃ nh : Int, nh = max u P1 := ⟨_, rfl⟩
    have hw1 : IntKind.i64.wrap (nh + 1) = nh + 1 := by rw [IntKind.wrap_i64]; omega
    have hmin : ∀ (ts : Array TypeId) (t : TypeId) (W : World), (Builtin.min_ ts t #[.int .i64 ma, .int .i64 (x.log.length : Int)]).run Try.prog W = .ok (.int .i64 P1) W := fun ts t W => by rw [run_min_int2, show (if (x.log.length : Int) < ma then (x.log.length : Int) else ma) = P1 by rw [hP1]; split <;> omega]
    have hmax : ∀ (ts : Array TypeId) (t : TypeId) (W : World), (Builtin.max_ ts t #[.int .i64 u, .int .i64 P1]).run Try.prog W = .ok (.int .i64 nh) W := fun ts t W => by rw [run_max_int2, show (if P1 > u then P1 else u) = nh by rw [hnh]; split <;> omega]
    have HQ1 := hide (show max u (min ma x.log.length) = nh by rw [hnh, hP1])
    clear hnum hub hP1 hnh hlen
    go_upto_region 5 with fail
    go_region
    all_goals
      obtain ⟨hN7, hC7⟩ := HND.out.setHave I nh
      have hD : Below (wc.setCell ⟨g, I, none⟩ (.int .i64 nh)).heap.size (wc.setCell ⟨g, I, none⟩ (.int .i64 nh)) (wc.setCell ⟨g, I, none⟩ (.int .i64 nh)).drew := Below.drew (Below.refl _ _)
      have HN8 := hide (hN7.below hD)
      have HC8 := hide ((HCD.out.trans (hC7.mono (fun i hi => (by omega : i ≠ 0)))).trans (Chg.below _ hN7.ok hD))
      clear hN7 hC7 hD gc gz gc2 gz2 p4 m4 m8 hmin hmax
      generalize (wc.setCell ⟨g, I, none⟩ (.int .i64 nh)).drew = wz at HN8 HC8 ⊢
      obtain ⟨ga, gcapa, hqa, gl, gc, gz⟩ := HN8.out.hav.atI (k := I) (u := nh) (by rw [List.getElem?_set, if_pos rfl, if_pos (List.getElem?_eq_some_iff.1 HUU.out.1).1])
      simp only [Value.slice.injEq, Option.some.injEq, Addr.mk.injEq] at hqa
      obtain ⟨⟨rfl, _, _⟩, _, rfl⟩ := hqa
      obtain ⟨gb, gcapb, hqb, gl2, gc2, gz2⟩ := HN8.out.nxt.atI HUU.out.2
      simp only [Value.slice.injEq, Option.some.injEq, Addr.mk.injEq] at hqb
      obtain ⟨⟨rfl, _, _⟩, _, rfl⟩ := hqb
      go_upto_region 7 with fail
      obtain ⟨hN9, hC9⟩ := HN8.out.setNext I (nh + 1)
      have HN9 := hide hN9
      have HC9 := hide (HC8.out.trans (hC9.mono (fun i hi => (by omega : i ≠ 0))))
      clear hN9 hC9 gc gz gc2 gz2
      generalize wz.setCell ⟨g2, I, none⟩ (.int .i64 (nh + 1)) = wy at HN9 HC9 ⊢
      have hnum := HNUM.out
      have hll := HLL.out
      have HCO := hide (HCNT.out _ _ _ _ _ _ HN9.out (show 0 ≤ x.n by omega) (show x.n ≤ 1000 by omega) (show x.log.length ≤ 1000 by omega) (by simp; omega) (show 0 ≤ x.com by omega))
      clear hnum hll
      go_wp2_with (go_at_call 67; refine HCO.out.mono ?_; rintro e w9 ⟨rfl, hN9, hC9⟩; have HN10 := hide hN9; have HC10 := hide hC9; clear hN9 hC9)
      refine bodyPost_end (v := .tuple #[]) (by simp [results, Try.results77]) rfl ?_
      rw [HE1.out, HQ1.out]
      exact ⟨rfl, HN10.out, HC9.out.trans (HC10.out.mono (fun i hi => (by omega : i ≠ 0)))⟩

end Go.Proofs.Ytbffmdhogehfnaa

/-
  The walk over a node's take. (Written by ru10.py.)
-/
namespace Go.Proofs.Ytbffmdhogehfnaa
open Go.RowKit Go.Maps
set_option linter.unusedVariables false

theorem hear_fix (x : Nd) (t : Int) : (x.hear t).n = x.n ∧ (x.hear t).id = x.id ∧ (x.hear t).log = x.log ∧ (x.hear t).com = x.com ∧ ((x.hear t).votes = x.votes ∨ (x.hear t).votes = []) ∧ ((x.hear t).role = 2 → x.role = 2 ∧ (x.hear t).next = x.next ∧ (x.hear t).hav = x.hav) := by
  unfold Nd.hear
  split
  · exact ⟨rfl, rfl, rfl, rfl, .inr rfl, fun h => by simp [Nd.follow] at h⟩
  · exact ⟨rfl, rfl, rfl, rfl, .inl rfl, fun h => ⟨h, rfl, rfl⟩⟩

/-- A mail that may come. -/
structure FineM (x : Nd) (m : Ml) : Prop where
  k1 : 1 ≤ m.kind
  k4 : m.kind ≤ 4
  to_ : m.to_ = x.id
  f0 : 0 ≤ m.frm
  fn : m.frm < x.n
  fi : m.frm ≠ x.id
  t1 : 1 ≤ m.term
  t2 : m.term ≤ 1000000000
  a0 : 0 ≤ m.a
  a1 : m.a ≤ 1000000000
  b0 : 0 ≤ m.b
  b1 : m.b ≤ 1000000000
  c0 : 0 ≤ m.c
  c1 : m.c ≤ 1000000000
  br : brgB m = true

theorem takF_ok {x : Nd} {m : Ml} (h : (takF x m).1 = 0) : FineN x ∧ FineM x m := by
  unfold takF at h
  by_cases h1 : (chkN x).1 ≠ 0
  · rw [if_pos h1] at h; exact absurd h h1
  rw [if_neg h1] at h
  by_cases h2 : sentB x m = false ∨ numsB m = false ∨ brgB m = false
  · rw [if_pos h2] at h; simp at h
  simp only [not_or, Bool.not_eq_false] at h2
  obtain ⟨g1, g2, g3⟩ := h2
  unfold sentB at g1
  unfold numsB at g2
  simp only [Bool.and_eq_true, decide_eq_true_eq, Bool.not_eq_true', decide_eq_false_iff_not, wiB_true, numL_iff] at g1 g2
  obtain ⟨⟨a1, a2⟩, a3, ⟨a4, a5⟩, a6⟩ := g1
  obtain ⟨⟨b1, b2⟩, ⟨b3, b4⟩, ⟨b5, b6⟩, b7, b8⟩ := g2
  exact ⟨chkN_fine (Decidable.not_not.1 h1), ⟨a1, a2, a3, a4, by omega, a6, b1, b2, b3, b4, b5, b6, b7, b8, g3⟩⟩

theorem FineM.len {x : Nd} {m : Ml} (h : FineM x m) : m.ents.length ≤ 5 := by
  have h1 := h.br
  unfold brgB at h1
  by_cases h0 : m.ents.length = 0
  · omega
  · rw [if_neg h0] at h1
    simp only [Bool.and_eq_true, decide_eq_true_eq] at h1
    exact h1.2.1

set_option maxRecDepth 100000 in
set_option maxHeartbeats 8000000 in
theorem take_any (B : Nat) (x : Nd) (lv vv nv hv : Value) (m : Ml) (ev : Value) (lab : Nat → Nat) (w : World) (hm : Nm w lab B x lv vv nv hv) (he0 : Rd0 0 eE w lab ev m.ents) (hx : FineN x) (hf : FineM x m) :
    Calls Try.prog 51 #[.pointer (some ⟨B, 0, none⟩), mlV m ev] w fun e w' => TkTo w lab B (x.take m) (x.sends m) e w' := by
  have HM := hide hm
  have HEV := hide he0
  have he := he0.1
  have HHE := hide (fun W t (h : Nm W lab B x lv vv nv hv) => hearOf_any B x t lv vv nv hv lab W h)
  obtain ⟨Y, hY⟩ : ∃ Y, Y = x.hear m.term := ⟨_, rfl⟩
  have hfx := hear_fix x m.term
  rw [← hY] at hfx
  obtain ⟨f1, f2, f3, f4, f5, f6⟩ := hfx
  obtain ⟨sm1, sm2, sm3, sm4⟩ := hx.small
  have hmn := hf.len
  have HT1 : Hid (x.take m = if m.kind = 1 then t1N Y m else if m.kind = 2 then t2N Y m else if m.kind = 3 then t3N Y m else t4N Y m) := hide (by rw [hY]; rfl)
  have HT2 : Hid (x.sends m = if m.kind = 1 then t1M Y m else if m.kind = 2 then t2M Y m else if m.kind = 3 then t3M Y m else []) := hide (by rw [hY]; rfl)
  have HC1 := hide (fun W a b c (h : Nm W lab B Y lv a b c) h2 => takeAsking_any B Y lv a b c m ev lab W h h2 hf.f0 (by have := hf.fn; have := hx.n7; omega))
  have hvl : Y.votes.length ≤ 1000 := by
    rcases f5 with q | q
    · rw [q]; omega
    · rw [q]; exact Nat.zero_le _
  have HC2 := hide (fun W a b c (h : Nm W lab B Y lv a b c) h2 => takeVote_any B Y lv a b c m ev lab W h h2 (by rw [f1]; exact hx.n1) (by rw [f1]; exact hx.n7) (by rw [f2]; exact hx.id0) (by rw [f2, f1]; exact hx.idn) (by rw [f3]; omega) (by rw [f4]; exact hx.c0) hvl)
  have HC3 := hide (fun W a b c (h : Nm W lab B Y lv a b c) h2 => takeEntries_any B Y lv a b c m ev lab W h h2 hf.a0 hf.a1 hf.c0 hf.c1 (by omega) (by rw [f3]; omega) (by rw [f4]; exact hx.c0) (by rw [f4, f3]; exact hx.cl))
  have HC4 := hide (fun W a b c (h : Nm W lab B Y lv a b c) h2 => takeAnswer_any B Y lv a b c m ev lab W h h2 hf.f0 (by rw [f1]; exact hf.fn) (by rw [f1]; exact hx.n7) hf.a0 hf.a1 (by rw [f3]; omega) (by rw [f4]; exact hx.c0) (fun hr => by
    obtain ⟨q1, q2, q3⟩ := f6 hr
    obtain ⟨e1, e2, e3, e4, _⟩ := hx.lens q1
    rw [q2, q3, f1, f3]
    exact ⟨e1, e2, e3, e4⟩))
  have HK := hide (And.intro hf.k1 hf.k4)
  generalize x.take m = T1 at HT1 ⊢
  generalize x.sends m = T2 at HT2 ⊢
  clear hvl f1 f2 f3 f4 f5 f6 sm1 sm2 sm3 sm4 hmn hx hf
  obtain ⟨ki, fr, dt, mt, ma, mb, mc, es, ok⟩ := m
  simp only at he
  obtain ⟨eo, ec, rfl, he1, he2⟩ := he.shape
  have hW := below_allocG w (.cells #[.int .i64 ki, .int .i64 fr, .int .i64 dt, .int .i64 mt, .int .i64 ma, .int .i64 mb, .int .i64 mc, .slice eo es.length ec, .bool ok] 44)
  have HMB := hide (Blk.new w 44 #[.int .i64 ki, .int .i64 fr, .int .i64 dt, .int .i64 mt, .int .i64 ma, .int .i64 mb, .int .i64 mc, .slice eo es.length ec, .bool ok])
  have HW := hide hW
  have HNA := hide (hm.below hW)
  have HYY := hide hY
  simp only at HT1 HT2 HK
  unfold mlV mlA at HC1 HC2 HC3 HC4
  unfold mlV mlA
  dsimp only at HC1 HC2 HC3 HC4
  clear he he0 hm hW hY
  go_enter Try.func51, Try.ntmps51
  go_wp2_with fail
  refine (HHE.out _ mt HNA.out).mono ?_
  rintro e w1 ⟨vv1, nv1, hv1, rfl, hN1, hC1⟩
  rw [show x.hear mt = Y from HYY.out.symm] at hN1
  have HN1 := hide hN1
  have HCC := hide ((Chg.below (fun i => i ≠ 0) HM.out.ok HW.out).trans (hC1.mono (fun i hi => (by omega : i ≠ 0))))
  have HE1 := hide (HEV.out.keep HCC.out (by omega))
  have HM1 := hide (HMB.out.keep hC1 (by rw [HM.out.ok _ (Nat.le_refl _)]; omega))
  have hz1 := HCC.out.size
  have m0 := HM1.out.cell 0
  have ml := HM1.out.lt
  simp at m0
  clear hN1 hC1 HHE HNA HMB
  by_cases h1 : ki = 1
  · have HE2 := hide (HT1.out.trans (if_pos h1))
    have HE3 := hide (HT2.out.trans (if_pos h1))
    have hq : (ki == 1) = true := by simp [h1]
    clear h1
    go_wp2_with (refine wpList_load_blk HM1.out Try.underlying44 rfl Try.sizeMail rfl rfl rfl ?_)
    refine (HC1.out _ _ _ _ HN1.out HE1.out).mono ?_
    rintro e w8 ⟨mv, rfl, hN8, ho8, hC8⟩
    go_wp2_with fail
    go_ret
    rw [HE2.out, HE3.out]
    exact ⟨_, _, _, _, _, _, rfl, hN8, ho8.base hz1, HCC.out.trans (hC8.mono (fun i hi => (by omega : i ≠ 0)))⟩
  have hq1 : (ki == 1) = false := by simp [h1]
  have HT3 := hide (HT1.out.trans (if_neg h1))
  have HT4 := hide (HT2.out.trans (if_neg h1))
  by_cases h2 : ki = 2
  · have HE2 := hide (HT3.out.trans (if_pos h2))
    have HE3 := hide (HT4.out.trans (if_pos h2))
    have hq : (ki == 2) = true := by simp [h2]
    clear h1 h2
    go_wp2_with (refine wpList_load_blk HM1.out Try.underlying44 rfl Try.sizeMail rfl rfl rfl ?_)
    refine (HC2.out _ _ _ _ HN1.out HE1.out).mono ?_
    rintro e w8 ⟨mv, lab8, vv8, nv8, hv8, rfl, hN8, ho8, hC8⟩
    go_wp2_with fail
    go_ret
    rw [HE2.out, HE3.out]
    exact ⟨_, _, _, _, _, _, rfl, hN8, ho8.base hz1, HCC.out.trans hC8⟩
  have hq2 : (ki == 2) = false := by simp [h2]
  have HT5 := hide (HT3.out.trans (if_neg h2))
  have HT6 := hide (HT4.out.trans (if_neg h2))
  by_cases h3 : ki = 3
  · have HE2 := hide (HT5.out.trans (if_pos h3))
    have HE3 := hide (HT6.out.trans (if_pos h3))
    have hq : (ki == 3) = true := by simp [h3]
    clear h1 h2 h3
    go_wp2_with (refine wpList_load_blk HM1.out Try.underlying44 rfl Try.sizeMail rfl rfl rfl ?_)
    refine (HC3.out _ _ _ _ HN1.out HE1.out).mono ?_
    rintro e w8 ⟨mv, lab8, lv8, vv8, nv8, hv8, rfl, hN8, ho8, hC8⟩
    go_wp2_with fail
    go_ret
    rw [HE2.out, HE3.out]
    exact ⟨_, _, _, _, _, _, rfl, hN8, ho8.base hz1, HCC.out.trans hC8⟩
  have hq3 : (ki == 3) = false := by simp [h3]
  have hq4 : (ki == 4) = true := by have := HK.out; simp; omega
  have HE2 := hide (HT5.out.trans (if_neg h3))
  have HE3 := hide (HT6.out.trans (if_neg h3))
  clear h1 h2 h3
  go_wp2_with (refine wpList_load_blk HM1.out Try.underlying44 rfl Try.sizeMail rfl rfl rfl ?_)
  refine (HC4.out _ _ _ _ HN1.out HE1.out).mono ?_
  rintro e w8 ⟨rfl, hN8, hC8⟩
  go_wp2_with fail
  go_ret
  rw [HE2.out, HE3.out]
  exact ⟨_, _, _, _, _, _, rfl, hN8, OwM.nil _ _, HCC.out.trans hC8⟩

end Go.Proofs.Ytbffmdhogehfnaa

/-
  The walk over raft.Take. (Written by ru11.py.)
-/
namespace Go.Proofs.Ytbffmdhogehfnaa
open Go.RowKit Go.Maps
set_option linter.unusedVariables false

def takN (x : Nd) (m : Ml) : Nd := if (takF x m).1 = 0 then x.take m else noNd
def takM (x : Nd) (m : Ml) : List Ml := if (takF x m).1 = 0 then x.sends m else []

theorem Rd0.ofOld {α : Type} {K : Nat} {E : En α K} {w w' : World} {lab : Nat → Nat} {v : Value} {xs : List α} (h : RdG E w v xs) (hb : Below w.heap.size w w') (hl : ∀ g, g < w.heap.size → lab g = 0) : Rd0 0 E w' lab v xs := by
  refine ⟨h.below hb, fun a n c hv hne => hl _ ?_⟩
  obtain ⟨ao, cap, hv', h1, h2, h3, h4⟩ := h
  rw [hv'] at hv
  simp only [Value.slice.injEq] at hv
  have hp : 0 < (E.vs xs).length := by
    rw [vs_length]
    exact Nat.mul_pos (by cases xs with | nil => exact absurd rfl hne | cons _ _ => simp) E.pos
  have hc := h4 a hv.1 0 _ (List.getElem?_eq_getElem hp)
  have hlt := World.block_lt_of_cell? w _ hc
  have e : (a.add 0).block = a.block := by unfold Addr.add; split <;> rfl
  rw [e] at hlt
  exact hlt

theorem four_at (w : World) (xs ys zs us : Array Value) (t1 t2 t3 t4 : TypeId) :
    Blk ((((w.alloc (.cells xs t1)).alloc (.cells ys t2)).alloc (.cells zs t3)).alloc (.cells us t4)) w.heap.size t1 xs ∧ Blk ((((w.alloc (.cells xs t1)).alloc (.cells ys t2)).alloc (.cells zs t3)).alloc (.cells us t4)) (w.heap.size + 1) t2 ys ∧ Blk ((((w.alloc (.cells xs t1)).alloc (.cells ys t2)).alloc (.cells zs t3)).alloc (.cells us t4)) (w.heap.size + 1 + 1) t3 zs ∧ Blk ((((w.alloc (.cells xs t1)).alloc (.cells ys t2)).alloc (.cells zs t3)).alloc (.cells us t4)) (w.heap.size + 1 + 1 + 1) t4 us ∧ Below w.heap.size w ((((w.alloc (.cells xs t1)).alloc (.cells ys t2)).alloc (.cells zs t3)).alloc (.cells us t4)) ∧ w.heap.size + 4 = ((((w.alloc (.cells xs t1)).alloc (.cells ys t2)).alloc (.cells zs t3)).alloc (.cells us t4)).heap.size := by
  have hN := below_allocG (((w.alloc (.cells xs t1)).alloc (.cells ys t2)).alloc (.cells zs t3)) (.cells us t4)
  have h3 := below_alloc3 w (.cells xs t1) (.cells ys t2) (.cells zs t3)
  refine ⟨(Blk.at0of3 _ _ _ _ _).later hN, (Blk.at1of3 _ _ _ _ _).later hN, (Blk.at2of3 _ _ _ _ _).later hN, ?_, h3.trans (hN.mono h3.size), by simp⟩
  have := Blk.new (((w.alloc (.cells xs t1)).alloc (.cells ys t2)).alloc (.cells zs t3)) t4 us
  simpa using this

set_option maxRecDepth 100000 in
set_option maxHeartbeats 8000000 in
theorem Take_any (x : Nd) (lv vv nv hv : Value) (m : Ml) (ev : Value) (w : World) (hx : RdNd w x lv vv nv hv) (hwf : ∀ v ∈ x.votes, WfI v) (he : RdG eE w ev m.ents) :
    Calls Try.prog 23 #[ndV x lv vv nv hv, mlV m ev] w fun e w' => ∃ lv' vv' nv' hv' mv, e = .returned (.tuple #[ndV (takN x m) lv' vv' nv' hv', mv, flt (takF x m)]) ∧ AnsN w' w.heap.size (takN x m) lv' vv' nv' hv' ∧ OwM w' w.heap.size mv (takM x m) ∧ Below w.heap.size w w' := by
  have HOK := hide (@takF_ok x m)
  have HX := hide hx
  have HEV := hide he
  have HZ := hide (takF_z x m)
  have HXT := hide (fun W B lab lv vv nv hv h h2 a b => take_any B x lv vv nv hv m ev lab W h h2 a b)
  obtain ⟨n, id, te, vo, lo, ro, co, vs, ns, hs⟩ := x
  obtain ⟨h1, h2, h3, h4⟩ := hx
  simp only at h1 h2 h3 h4
  obtain ⟨ao, cap, rfl, hc1, hc2⟩ := h1.shape
  obtain ⟨bo, cap2, rfl, hd1, hd2⟩ := h2.shape
  obtain ⟨no, cap3, rfl, _, _⟩ := h3.shape
  obtain ⟨ho, cap4, rfl, _, _⟩ := h4.shape
  obtain ⟨ki, fr, dt, mt, ma, mb, mc, es, ok⟩ := m
  simp only at he
  obtain ⟨eo, ec, rfl, he1, he2⟩ := he.shape
  have hN4 := four_at w #[.int .i64 n, .int .i64 id, .int .i64 te, .int .i64 vo, .slice ao lo.length cap, .int .i64 ro, .int .i64 co, .slice bo vs.length cap2, .slice no ns.length cap3, .slice ho hs.length cap4] #[.int .i64 ki, .int .i64 fr, .int .i64 dt, .int .i64 mt, .int .i64 ma, .int .i64 mb, .int .i64 mc, .slice eo es.length ec, .bool ok] #[.int .i64 0, .int .i64 0, .int .i64 0, .int .i64 0, .slice none 0 0, .int .i64 0, .int .i64 0, .slice none 0 0, .slice none 0 0, .slice none 0 0] #[.int .i64 0, .int .i64 0] 25 44 25 30
  obtain ⟨hP, hM, hR, hQ, hA, hS⟩ := hN4
  have HC1 := hide (takeFault_any ⟨n, id, te, vo, lo, ro, co, vs, ns, hs⟩ _ _ _ _ ⟨ki, fr, dt, mt, ma, mb, mc, es, ok⟩ _ _ (HX.out.below hA) hwf (HEV.out.below hA))
  have HTN : Hid (takN ⟨n, id, te, vo, lo, ro, co, vs, ns, hs⟩ ⟨ki, fr, dt, mt, ma, mb, mc, es, ok⟩ = if (takF ⟨n, id, te, vo, lo, ro, co, vs, ns, hs⟩ ⟨ki, fr, dt, mt, ma, mb, mc, es, ok⟩).1 = 0 then Nd.take ⟨n, id, te, vo, lo, ro, co, vs, ns, hs⟩ ⟨ki, fr, dt, mt, ma, mb, mc, es, ok⟩ else noNd) := hide rfl
  have HTM : Hid (takM ⟨n, id, te, vo, lo, ro, co, vs, ns, hs⟩ ⟨ki, fr, dt, mt, ma, mb, mc, es, ok⟩ = if (takF ⟨n, id, te, vo, lo, ro, co, vs, ns, hs⟩ ⟨ki, fr, dt, mt, ma, mb, mc, es, ok⟩).1 = 0 then Nd.sends ⟨n, id, te, vo, lo, ro, co, vs, ns, hs⟩ ⟨ki, fr, dt, mt, ma, mb, mc, es, ok⟩ else []) := hide rfl
  generalize hK : takF ⟨n, id, te, vo, lo, ro, co, vs, ns, hs⟩ ⟨ki, fr, dt, mt, ma, mb, mc, es, ok⟩ = K at *
  generalize takN ⟨n, id, te, vo, lo, ro, co, vs, ns, hs⟩ ⟨ki, fr, dt, mt, ma, mb, mc, es, ok⟩ = TN at HTN ⊢
  generalize takM ⟨n, id, te, vo, lo, ro, co, vs, ns, hs⟩ ⟨ki, fr, dt, mt, ma, mb, mc, es, ok⟩ = TM at HTM ⊢
  obtain ⟨p, q⟩ := K
  unfold ndV ndA mlV mlA at HC1
  unfold mlV mlA at HXT
  dsimp only at HXT HOK
  unfold ndV ndA mlV mlA
  have HP := hide hP
  have HM := hide hM
  have HR := hide hR
  have HQ := hide hQ
  have HA := hide hA
  have HS := hide hS
  clear h1 h2 h3 h4 he hP hM hR hQ hA hS hK
  go_enter Try.func23, Try.ntmps23
  go_wp2_with (first | (refine wpList_load_blk HP.out Try.underlying25 rfl Try.sizeNode rfl rfl rfl ?_) | (refine wpList_load_blk HM.out Try.underlying44 rfl Try.sizeMail rfl rfl rfl ?_))
  refine HC1.out.mono ?_
  rintro e w1 ⟨rfl, hb1⟩
  have hN := below_allocG w1 (.cells #[.int .i64 p, .int .i64 q] 30)
  have HP1 := hide ((HP.out.later hb1).later hN)
  have HM1 := hide ((HM.out.later hb1).later hN)
  have HR1 := hide ((HR.out.later hb1).later hN)
  have HQ1 := hide ((HQ.out.later hb1).later hN)
  have hAA := HA.out.trans (hb1.mono HA.out.size)
  have HA1 := hide (hAA.trans (hN.mono hAA.size))
  have HS1 := hide (show w.heap.size + 4 ≤ w1.heap.size by have := hb1.size; have := HS.out; omega)
  have hW1 := (Blk.new w1 30 #[.int .i64 p, .int .i64 q])
  have f0 := hW1.cell 0
  have f1 := hW1.cell 1
  simp at f0 f1
  clear hb1 hN hAA hW1 HC1 HP HM HR HQ HA HS
  unfold flt
  have hrq : w.heap.size + 1 + 1 ≠ w.heap.size + 1 + 1 + 1 := by omega
  have hqr : w.heap.size + 1 + 1 + 1 ≠ w.heap.size + 1 + 1 := by omega
  by_cases hp : p ≠ 0
  · have hq : (p == 0) = false := beq_eq_false_iff_ne.2 hp
    have hq2 : (p != 0) = true := by simp [hp]
    have HE := hide (HTN.out.trans (if_neg hp))
    have HE2 := hide (HTM.out.trans (if_neg hp))
    clear hp
    have hfr : w1.heap.size ≠ w.heap.size + 1 + 1 := by have := HS1.out; omega
    have hfq : w1.heap.size ≠ w.heap.size + 1 + 1 + 1 := by have := HS1.out; omega
    have ra0 := HR1.out.cell 0
    have raz0 := HR1.out.frozen 0
    have ra1 := HR1.out.cell 1
    have raz1 := HR1.out.frozen 1
    have ra2 := HR1.out.cell 2
    have raz2 := HR1.out.frozen 2
    have ra3 := HR1.out.cell 3
    have raz3 := HR1.out.frozen 3
    have ra4 := HR1.out.cell 4
    have raz4 := HR1.out.frozen 4
    have ra5 := HR1.out.cell 5
    have raz5 := HR1.out.frozen 5
    have ra6 := HR1.out.cell 6
    have raz6 := HR1.out.frozen 6
    have ra7 := HR1.out.cell 7
    have raz7 := HR1.out.frozen 7
    have ra8 := HR1.out.cell 8
    have raz8 := HR1.out.frozen 8
    have ra9 := HR1.out.cell 9
    have raz9 := HR1.out.frozen 9
    have ral := HR1.out.lt
    simp at ra0 ra1 ra2 ra3 ra4 ra5 ra6 ra7 ra8 ra9
    have qa0 := HQ1.out.cell 0
    have qaz0 := HQ1.out.frozen 0
    have qa1 := HQ1.out.cell 1
    have qaz1 := HQ1.out.frozen 1
    have qal := HQ1.out.lt
    simp at qa0 qa1
    go_wp2_with fail
    go_region
    all_goals
      obtain ⟨hR9, hQ9, hA9, _, _⟩ := setL_two (w := w) (C := w.heap.size) [.int .i64 0, .int .i64 0, .int .i64 0, .int .i64 0, .slice none 0 0, .int .i64 0, .int .i64 0, .slice none 0 0, .slice none 0 0, .slice none 0 0] [.int .i64 p, .int .i64 q] HR1.out HQ1.out hrq rfl rfl HA1.out (by omega) (by omega)
      have HR9 := hide hR9
      have HQ9 := hide hQ9
      have HA9 := hide hA9
      simp only [setL] at HR9 HQ9 HA9
      clear hR9 hQ9 hA9 ra0 raz0 ra1 raz1 ra2 raz2 ra3 raz3 ra4 raz4 ra5 raz5 ra6 raz6 ra7 raz7 ra8 raz8 ra9 raz9 ral qa0 qaz0 qa1 qaz1 qal f0 f1
      generalize (((((((((((((w1.alloc (.cells #[.int .i64 p, .int .i64 q] 30)).setCell ⟨w.heap.size + 1 + 1, 0, none⟩ (.int .i64 0)).setCell ⟨w.heap.size + 1 + 1, 1, none⟩ (.int .i64 0)).setCell ⟨w.heap.size + 1 + 1, 2, none⟩ (.int .i64 0)).setCell ⟨w.heap.size + 1 + 1, 3, none⟩ (.int .i64 0)).setCell ⟨w.heap.size + 1 + 1, 4, none⟩ (.slice none 0 0)).setCell ⟨w.heap.size + 1 + 1, 5, none⟩ (.int .i64 0)).setCell ⟨w.heap.size + 1 + 1, 6, none⟩ (.int .i64 0)).setCell ⟨w.heap.size + 1 + 1, 7, none⟩ (.slice none 0 0)).setCell ⟨w.heap.size + 1 + 1, 8, none⟩ (.slice none 0 0)).setCell ⟨w.heap.size + 1 + 1, 9, none⟩ (.slice none 0 0)).setCell ⟨w.heap.size + 1 + 1 + 1, 0, none⟩ (.int .i64 p)).setCell ⟨w.heap.size + 1 + 1 + 1, 1, none⟩ (.int .i64 q)).drew = wz at HR9 HQ9 HA9 ⊢
      go_wp2_with fail
      refine bodyPost_ret (results3_ctc Try.results23 rfl rfl rfl (run_loadVar_blk HR9.out Try.underlying25 rfl Try.sizeNode) (run_loadVar_blk HQ9.out Try.underlying30 rfl Try.sizeFaultR)) rfl ?_
      rw [HE.out, HE2.out]
      exact ⟨_, _, _, _, _, rfl, AnsN.no _ _, OwM.nil _ _, HA9.out⟩
  obtain rfl : p = 0 := Decidable.not_not.1 hp
  obtain rfl : q = 0 := by have := HZ.out rfl; simpa using this
  have HE := hide (HTN.out.trans (if_pos rfl))
  have HE2 := hide (HTM.out.trans (if_pos rfl))
  obtain ⟨hfine, hfm⟩ := HOK.out rfl
  obtain ⟨sm1, sm2, sm3, sm4⟩ := hfine.small
  have HFI := hide hfine
  have HFM := hide hfm
  clear hp hfine hfm f0 f1
  have HSW := hide (show w.heap.size + 4 ≤ (w1.alloc (.cells #[.int .i64 0, .int .i64 0] 30)).heap.size by have := HS1.out; simp; omega)
  have HCP := hide (copied_any ⟨n, id, te, vo, lo, ro, co, vs, ns, hs⟩ _ _ _ _ _ (HX.out.below HA1.out) (by omega) (by omega) (by omega) (by omega))
  unfold ndV ndA at HCP
  go_upto_region 4 with fail
  generalize hW : w1.alloc (.cells #[.int .i64 0, .int .i64 0] 30) = W at HP1 HM1 HR1 HQ1 HA1 HCP HSW ⊢
  clear hW HS1
  go_wp2_with (refine wpList_load_blk HP1.out Try.underlying25 rfl Try.sizeNode rfl rfl rfl ?_)
  refine HCP.out.mono ?_
  rintro e w2 ⟨lab, lv2, vv2, nv2, hv2, rfl, hnw, hlab, hb2⟩
  obtain ⟨lo2, lc2, hs1⟩ := owns_shapeK hnw.log.1
  obtain ⟨vo2, vc2, hs2⟩ := owns_shapeK hnw.vot.1
  obtain ⟨no2, nc2, hs3⟩ := owns_shapeK hnw.nxt.1
  obtain ⟨ho2, hc2', hs4⟩ := owns_shapeK hnw.hav.1
  subst hs1 hs2 hs3 hs4
  have hlay := hnw.lay
  have hbY := hb2.trans ((below_allocG w2 (.cells (ndA ⟨n, id, te, vo, lo, ro, co, vs, ns, hs⟩ (.slice lo2 lo.length lc2) (.slice vo2 vs.length vc2) (.slice no2 ns.length nc2) (.slice ho2 hs.length hc2')) 52)).mono hb2.size)
  have hlab2 : ∀ g, g < W.heap.size → labTo lab (some w2.heap.size) 5 g = 0 := fun g hg => by
    unfold labTo
    rw [if_neg (fun q => by have := hb2.size; simp at q; omega)]
    exact hlab g hg
  have he2' := Rd0.ofOld (HEV.out.below HA1.out) hbY hlab2
  have HTK := hide (HXT.out _ _ _ _ _ _ _ hlay he2' HFI.out HFM.out)
  have HM2 := hide (HM1.out.later hbY)
  have HLB := hide hlab
  have HB2 := hide hb2
  unfold ndA at HTK HM2
  dsimp only at HTK HM2 ⊢
  clear hnw hlab hb2 hlay HCP hbY hlab2 he2' HXT
  go_wp2_with (refine wpList_load_blk HM2.out Try.underlying44 rfl Try.sizeMail rfl rfl rfl ?_)
  refine HTK.out.mono ?_
  rintro e w3 ⟨mv, lab3, lv3, vv3, nv3, hv3, rfl, hN3, hO3, hC3⟩
  obtain ⟨hbl, hlb3⟩ := laid_below hC3 HLB.out HB2.out.size
  have hb3 := HB2.out.trans hbl
  have HR3 := hide (HR1.out.later hb3)
  have HQ3 := hide (HQ1.out.later hb3)
  have HA3 := hide (HA1.out.trans (hb3.mono HA1.out.size))
  have HAN := hide (hN3.ans hlb3)
  have HO3 := hide (hO3.base (b2 := W.heap.size) (by have := HB2.out.size; simp; omega))
  obtain ⟨lo3, lc3, hs1⟩ := owns_shapeK hN3.log.1
  obtain ⟨vo3, vc3, hs2⟩ := owns_shapeK hN3.vot.1
  obtain ⟨no3, nc3, hs3⟩ := owns_shapeK hN3.nxt.1
  obtain ⟨ho3, hc3', hs4⟩ := owns_shapeK hN3.hav.1
  have HBN := hide hN3.blk
  subst hs1 hs2 hs3 hs4
  generalize Nd.take ⟨n, id, te, vo, lo, ro, co, vs, ns, hs⟩ ⟨ki, fr, dt, mt, ma, mb, mc, es, ok⟩ = S at *
  unfold ndA at HBN
  have hsw := HSW.out
  have hsz3 := hb3.size
  clear hN3 hC3 hO3 hbl hlb3 hb3 HTK HLB
  go_wp2_with (first
    | (refine wpList_load_blk HBN.out Try.underlying25 rfl Try.sizeNode rfl rfl rfl ?_)
    | (refine wpList_store_blk rfl rfl rfl rfl HR3.out rfl Try.sizeNode rfl ?_; intro w4 hR4 hg4; have HR4 := hide hR4; have HG4 := hide hg4; clear hR4 hg4)
    | (refine wpList_store_blk rfl rfl rfl rfl (HQ3.out.grown HG4.out (by simp)) rfl Try.sizeFaultR rfl ?_; intro w5 hQ5 hg5; have HQ9 := hide hQ5; have HG5 := hide hg5; clear hQ5 hg5))
  have HR9 := hide (HR4.out.grown HG5.out (by simp))
  have hA4 := below_grownO HA3.out HG4.out (fun k hk => by cases hk; omega) HA3.out.size
  have hA5 := below_grownO hA4 HG5.out (fun k hk => by cases hk; omega) hA4.size
  have HN9 := hide ((HAN.out.offB HG4.out (by omega)).offB HG5.out (by omega))
  have HO9 := hide ((HO3.out.offB HG4.out (by omega)).offB HG5.out (by omega))
  refine bodyPost_ret (results3_ctc Try.results23 rfl rfl rfl (run_loadVar_blk HR9.out Try.underlying25 rfl Try.sizeNode) (run_loadVar_blk HQ9.out Try.underlying30 rfl Try.sizeFaultR)) rfl ?_
  rw [HE.out, HE2.out]
  exact ⟨_, _, _, _, _, rfl, HN9.out.base (by omega), HO9.out.base (by omega), hA5⟩

end Go.Proofs.Ytbffmdhogehfnaa

/-
  The walks beneath the laws of logs: the example, vastLog.
-/
namespace Go.Proofs.Ytbffmdhogehfnaa
open Go.RowKit
set_option linter.unusedVariables false

def vastE (n : Nat) : Bool := decide (300 < n)

set_option maxRecDepth 100000 in
theorem vastLog_any (ao : Option Addr) (n cap : Nat) (w : World) : Calls Try.prog 21 #[.slice ao n cap] w fun e w' => e = .returned (.bool (vastE n)) ∧ w' = w := by
  go_enter Try.func21, Try.ntmps21
  go_wp2_with fail
  go_ret
  exact ⟨by unfold vastE; first | rfl | (simp; done) | (simp; omega), rfl⟩

def exL : List Et := [⟨1, ⟨#[97]⟩⟩, ⟨1, ⟨#[98]⟩⟩]
def exM : List Et := [⟨2, ⟨#[99]⟩⟩]
def exP : List Et := [⟨1, ⟨#[97]⟩⟩, ⟨2, ⟨#[99]⟩⟩]

theorem ex_x : putX exL 1 1 exM = (0, 0) := by decide +kernel
theorem ex_i : putI exL 1 1 exM = true := by decide +kernel
theorem ex_l : putL exL 1 1 exM = exP := by kernel_rfl


end Go.Proofs.Ytbffmdhogehfnaa

/-
  The walks over the document's Ints, SameNode (of the same) and CopyNode; the law's vastNode. (Written by rr1.py.)
-/
namespace Go.Proofs.Ytbffmdhogehfnaa
open Go.RowKit Go.Maps
set_option linter.unusedVariables false

set_option maxRecDepth 100000 in
set_option maxHeartbeats 1000000 in
theorem Ints_eq (u v : Value) (l : List Int) (w : World) (hu : RdG iE w u l) (hv : RdG iE w v l) :
    Calls Try.prog 39 #[u, v] w fun e w' => e = .returned (.bool true) ∧ Below w.heap.size w w' := by
  have HU := hide hu
  have HV := hide hv
  obtain ⟨ao, cap, rfl, hc1, hc2⟩ := hu.shape
  obtain ⟨bo, cap2, rfl, _, _⟩ := hv.shape
  unfold maxLen at hc2
  clear hu hv
  go_enter Try.func39, Try.ntmps39
  go_wp2_with fail
  go_loopw [5] (fun iv wr => ∃ j : Nat, j ≤ l.length ∧ iv = .int .i64 j ∧ Below w.heap.size w wr)
    (fun iv _ => l.length - (intOf iv).toNat)
  case atStart => exact ⟨0, by omega, rfl, Below.refl _ _⟩
  case round =>
    obtain ⟨j, hj, rfl, hbr⟩ := hrel
    have HBR := hide hbr
    by_cases hlt : j < l.length
    · obtain ⟨r, hr⟩ : ∃ r, l[j]? = some r := ⟨_, List.getElem?_eq_getElem hlt⟩
      obtain ⟨b1, o1, rfl, hb1, q1⟩ := HU.out.hereI hr
      obtain ⟨b2, o2, rfl, hb2, q2⟩ := HV.out.hereI hr
      have s1 := cell_belowG q1 hbr
      have s2 := cell_belowG q2 hbr
      have hk1 : (0 : Int) ≤ (j : Int) := by omega
      have hk2 : (j : Int) < (l.length : Int) := by omega
      have hl1 : b1 < wr.heap.size := Nat.lt_of_lt_of_le hb1 hbr.size
      have hl2 : b2 < wr.heap.size := Nat.lt_of_lt_of_le hb2 hbr.size
      clear q1 q2 hr hbr
      go_wp2_with fail
      go_quiet (fail)
      go_wp2_with fail
      go_roundw
      case rel => exact ⟨j + 1, by omega, by go_num, below_drewN HBR.out _⟩
      case measure => simp [intOf]; omega
    · have hje : j = l.length := by omega
      subst hje
      clear hbr
      go_wp2_with fail
      go_ret
      exact ⟨rfl, HBR.out⟩

set_option maxRecDepth 100000 in
set_option maxHeartbeats 4000000 in
theorem SameNode_eq (x : Nd) (lv vv nv hv lv2 vv2 nv2 hv2 : Value) (w : World) (hx : RdNd w x lv vv nv hv) (hy : RdNd w x lv2 vv2 nv2 hv2) :
    Calls Try.prog 14 #[ndV x lv vv nv hv, ndV x lv2 vv2 nv2 hv2] w fun e w' => e = .returned (.bool true) ∧ Below w.heap.size w w' := by
  obtain ⟨n, id, te, vo, lo, ro, co, vs, ns, hs⟩ := x
  obtain ⟨h1, h2, h3, h4⟩ := hx
  obtain ⟨k1, k2, k3, k4⟩ := hy
  simp only at h1 h2 h3 h4 k1 k2 k3 k4
  obtain ⟨pa1, pc1, rfl, _, _⟩ := h1.shape
  obtain ⟨pa2, pc2, rfl, _, _⟩ := h2.shape
  obtain ⟨pa3, pc3, rfl, _, _⟩ := h3.shape
  obtain ⟨pa4, pc4, rfl, _, _⟩ := h4.shape
  obtain ⟨qa1, qc1, rfl, _, _⟩ := k1.shape
  obtain ⟨qa2, qc2, rfl, _, _⟩ := k2.shape
  obtain ⟨qa3, qc3, rfl, _, _⟩ := k3.shape
  obtain ⟨qa4, qc4, rfl, _, _⟩ := k4.shape
  have hA := below_alloc2 w (.cells #[.int .i64 n, .int .i64 id, .int .i64 te, .int .i64 vo, .slice pa1 lo.length pc1, .int .i64 ro, .int .i64 co, .slice pa2 vs.length pc2, .slice pa3 ns.length pc3, .slice pa4 hs.length pc4] 25) (.cells #[.int .i64 n, .int .i64 id, .int .i64 te, .int .i64 vo, .slice qa1 lo.length qc1, .int .i64 ro, .int .i64 co, .slice qa2 vs.length qc2, .slice qa3 ns.length qc3, .slice qa4 hs.length qc4] 25)
  have HP := hide (Blk.at0of2 w (.cells #[.int .i64 n, .int .i64 id, .int .i64 te, .int .i64 vo, .slice qa1 lo.length qc1, .int .i64 ro, .int .i64 co, .slice qa2 vs.length qc2, .slice qa3 ns.length qc3, .slice qa4 hs.length qc4] 25) 25 #[.int .i64 n, .int .i64 id, .int .i64 te, .int .i64 vo, .slice pa1 lo.length pc1, .int .i64 ro, .int .i64 co, .slice pa2 vs.length pc2, .slice pa3 ns.length pc3, .slice pa4 hs.length pc4])
  have HQ := hide (Blk.at1 w (.cells #[.int .i64 n, .int .i64 id, .int .i64 te, .int .i64 vo, .slice pa1 lo.length pc1, .int .i64 ro, .int .i64 co, .slice pa2 vs.length pc2, .slice pa3 ns.length pc3, .slice pa4 hs.length pc4] 25) 25 #[.int .i64 n, .int .i64 id, .int .i64 te, .int .i64 vo, .slice qa1 lo.length qc1, .int .i64 ro, .int .i64 co, .slice qa2 vs.length qc2, .slice qa3 ns.length qc3, .slice qa4 hs.length qc4])
  have HA := hide hA
  have HS := hide (SameLog_any _ _ lo _ (h1.below hA) (k1.below hA))
  have HI2 := hide (fun W (hW : Below w.heap.size w W) => Ints_eq _ _ vs W (h2.below hW) (k2.below hW))
  have HI3 := hide (fun W (hW : Below w.heap.size w W) => Ints_eq _ _ ns W (h3.below hW) (k3.below hW))
  have HI4 := hide (fun W (hW : Below w.heap.size w W) => Ints_eq _ _ hs W (h4.below hW) (k4.below hW))
  clear h1 h2 h3 h4 k1 k2 k3 k4 hA
  unfold ndV ndA
  go_enter Try.func14, Try.ntmps14
  go_wp2_with fail
  refine HS.out.mono ?_
  rintro e w1 ⟨rfl, hb⟩
  have hP := HP.out.later hb
  have hQ := HQ.out.later hb
  have HP1 := hide hP
  have HQ1 := hide hQ
  have HA1 := hide (HA.out.trans (hb.mono HA.out.size))
  have pl1 := hP.lt
  have ql1 := hQ.lt
  have p7 := hP.cell 7
  have q7 := hQ.cell 7
  simp at p7 q7
  clear hP hQ hb
  go_wp2_with fail
  refine (HI2.out _ HA1.out).mono ?_
  rintro e w2 ⟨rfl, hb⟩
  have hP := HP1.out.later hb
  have hQ := HQ1.out.later hb
  have HP2 := hide hP
  have HQ2 := hide hQ
  have HA2 := hide (HA1.out.trans (hb.mono HA1.out.size))
  have pl2 := hP.lt
  have ql2 := hQ.lt
  have p8 := hP.cell 8
  have q8 := hQ.cell 8
  simp at p8 q8
  clear hP hQ hb
  go_wp2_with fail
  refine (HI3.out _ HA2.out).mono ?_
  rintro e w3 ⟨rfl, hb⟩
  have hP := HP2.out.later hb
  have hQ := HQ2.out.later hb
  have HP3 := hide hP
  have HQ3 := hide hQ
  have HA3 := hide (HA2.out.trans (hb.mono HA2.out.size))
  have pl3 := hP.lt
  have ql3 := hQ.lt
  have p9 := hP.cell 9
  have q9 := hQ.cell 9
  simp at p9 q9
  clear hP hQ hb
  go_wp2_with (go_at_call 39; refine (HI4.out _ HA3.out).mono ?_; rintro e w4 ⟨rfl, hb⟩; have HA4 := hide (HA3.out.trans (hb.mono HA3.out.size)); clear hb)
  go_ret
  exact ⟨rfl, HA4.out⟩

def vastN (x : Nd) : Bool := vastE x.log.length || (decide (100 < x.votes.length) || (decide (100 < x.next.length) || decide (100 < x.hav.length)))

set_option maxRecDepth 100000 in
set_option maxHeartbeats 2000000 in
theorem vastNode_any (x : Nd) (lv vv nv hv : Value) (w : World) (hx : RdNd w x lv vv nv hv) :
    Calls Try.prog 7 #[ndV x lv vv nv hv] w fun e w' => e = .returned (.bool (vastN x)) ∧ Below w.heap.size w w' := by
  obtain ⟨n, id, te, vo, lo, ro, co, vs, ns, hs⟩ := x
  obtain ⟨h1, h2, h3, h4⟩ := hx
  simp only at h1 h2 h3 h4
  obtain ⟨ao, cap, rfl, hc1, hc2⟩ := h1.shape
  obtain ⟨bo, cap2, rfl, hd1, hd2⟩ := h2.shape
  obtain ⟨no, cap3, rfl, _, _⟩ := h3.shape
  obtain ⟨ho, cap4, rfl, _, _⟩ := h4.shape
  have HA := hide (below_allocG w (.cells #[.int .i64 n, .int .i64 id, .int .i64 te, .int .i64 vo, .slice ao lo.length cap, .int .i64 ro, .int .i64 co, .slice bo vs.length cap2, .slice no ns.length cap3, .slice ho hs.length cap4] 25))
  have HF : Hid (vastN ⟨n, id, te, vo, lo, ro, co, vs, ns, hs⟩ = (vastE lo.length || (decide (100 < vs.length) || (decide (100 < ns.length) || decide (100 < hs.length))))) := hide rfl
  unfold ndV ndA
  clear h1 h2 h3 h4
  generalize hV : vastE lo.length = V at *
  have HVV := hide hV
  clear hV
  cases V
  · by_cases h1 : 100 < vs.length
    · have e1 : decide (100 < (vs.length : Int)) = true := decide_eq_true (by omega)
      go_enter Try.func7, Try.ntmps7
      go_wp2_with (go_at_call 21; refine (vastLog_any _ lo.length _ _).mono ?_; rw [HVV.out]; rintro e w1 ⟨rfl, rfl⟩)
      go_ret
      exact ⟨by rw [HF.out, decide_eq_true h1]; rfl, HA.out⟩
    · have e1 : decide (100 < (vs.length : Int)) = false := decide_eq_false (by omega)
      by_cases h2 : 100 < ns.length
      · have e2 : decide (100 < (ns.length : Int)) = true := decide_eq_true (by omega)
        go_enter Try.func7, Try.ntmps7
        go_wp2_with (go_at_call 21; refine (vastLog_any _ lo.length _ _).mono ?_; rw [HVV.out]; rintro e w1 ⟨rfl, rfl⟩)
        go_ret
        exact ⟨by rw [HF.out, decide_eq_true h2, decide_eq_false h1]; rfl, HA.out⟩
      · have e2 : decide (100 < (ns.length : Int)) = false := decide_eq_false (by omega)
        have HD := hide (show decide (100 < (hs.length : Int)) = decide (100 < hs.length) by congr 1; exact propext ⟨fun h => by omega, fun h => by omega⟩)
        go_enter Try.func7, Try.ntmps7
        go_wp2_with (go_at_call 21; refine (vastLog_any _ lo.length _ _).mono ?_; rw [HVV.out]; rintro e w1 ⟨rfl, rfl⟩)
        all_goals
          go_ret
          exact ⟨by rw [HF.out, decide_eq_false h1, decide_eq_false h2, ← HD.out]; first | rfl | simp [*], HA.out⟩
  · go_enter Try.func7, Try.ntmps7
    go_wp2_with (go_at_call 21; refine (vastLog_any _ lo.length _ _).mono ?_; rw [HVV.out]; rintro e w1 ⟨rfl, rfl⟩)
    go_ret
    exact ⟨by rw [HF.out]; rfl, HA.out⟩

end Go.Proofs.Ytbffmdhogehfnaa

/-
  The walk over the document's CopyNode. (Written by rr2.py.)
-/
namespace Go.Proofs.Ytbffmdhogehfnaa
open Go.RowKit Go.Maps
set_option linter.unusedVariables false

set_option maxRecDepth 100000 in
set_option maxHeartbeats 4000000 in
theorem CopyNode_any (x : Nd) (lv vv nv hv : Value) (w : World) (hx : RdNd w x lv vv nv hv) (hl1 : x.log.length ≤ 1000) (hl2 : x.votes.length ≤ 1000) (hl3 : x.next.length ≤ 1000) (hl4 : x.hav.length ≤ 1000) :
    Calls Try.prog 8 #[ndV x lv vv nv hv] w fun e w' => ∃ lab lv' vv' nv' hv', e = .returned (ndV x lv' vv' nv' hv') ∧ Nw w' lab x lv' vv' nv' hv' ∧ (∀ g, g < w.heap.size → lab g = 0) ∧ Below w.heap.size w w' := by
  obtain ⟨n, id, te, vo, lo, ro, co, vs, ns, hs⟩ := x
  obtain ⟨h1, h2, h3, h4⟩ := hx
  simp only at h1 h2 h3 h4
  obtain ⟨ao, cap, rfl, hc1, hc2⟩ := h1.shape
  obtain ⟨bo, cap2, rfl, hd1, hd2⟩ := h2.shape
  obtain ⟨no, cap3, rfl, _, _⟩ := h3.shape
  obtain ⟨ho, cap4, rfl, _, _⟩ := h4.shape
  simp only at hl1 hl2 hl3 hl4
  have hA := below_alloc2 w (.cells #[.int .i64 n, .int .i64 id, .int .i64 te, .int .i64 vo, .slice ao lo.length cap, .int .i64 ro, .int .i64 co, .slice bo vs.length cap2, .slice no ns.length cap3, .slice ho hs.length cap4] 25) (.cells #[.int .i64 0, .int .i64 0, .int .i64 0, .int .i64 0, .slice none 0 0, .int .i64 0, .int .i64 0, .slice none 0 0, .slice none 0 0, .slice none 0 0] 25)
  have hB := Blk.at0of2 w (.cells #[.int .i64 0, .int .i64 0, .int .i64 0, .int .i64 0, .slice none 0 0, .int .i64 0, .int .i64 0, .slice none 0 0, .slice none 0 0, .slice none 0 0] 25) 25 #[.int .i64 n, .int .i64 id, .int .i64 te, .int .i64 vo, .slice ao lo.length cap, .int .i64 ro, .int .i64 co, .slice bo vs.length cap2, .slice no ns.length cap3, .slice ho hs.length cap4]
  have hR := Blk.at1 w (.cells #[.int .i64 n, .int .i64 id, .int .i64 te, .int .i64 vo, .slice ao lo.length cap, .int .i64 ro, .int .i64 co, .slice bo vs.length cap2, .slice no ns.length cap3, .slice ho hs.length cap4] 25) 25 #[.int .i64 0, .int .i64 0, .int .i64 0, .int .i64 0, .slice none 0 0, .int .i64 0, .int .i64 0, .slice none 0 0, .slice none 0 0, .slice none 0 0]
  have hs0 : w.heap.size + 2 ≤ ((w.alloc (.cells #[.int .i64 n, .int .i64 id, .int .i64 te, .int .i64 vo, .slice ao lo.length cap, .int .i64 ro, .int .i64 co, .slice bo vs.length cap2, .slice no ns.length cap3, .slice ho hs.length cap4] 25)).alloc (.cells #[.int .i64 0, .int .i64 0, .int .i64 0, .int .i64 0, .slice none 0 0, .int .i64 0, .int .i64 0, .slice none 0 0, .slice none 0 0, .slice none 0 0] 25)).heap.size := by simp
  unfold ndV ndA
  have HV2 := hide (fun W (hW : Below w.heap.size w W) => h2.below hW)
  have HV3 := hide (fun W (hW : Below w.heap.size w W) => h3.below hW)
  have HV4 := hide (fun W (hW : Below w.heap.size w W) => h4.below hW)
  have HL2 := hide (show 0 + vs.length ≤ 1000000000 by omega)
  have HL3 := hide (show 0 + ns.length ≤ 1000000000 by omega)
  have HL4 := hide (show 0 + hs.length ≤ 1000000000 by omega)
  have HC1 := hide (CopyLog_any _ lo _ (h1.below hA) (by omega))
  go_enter Try.func8, Try.ntmps8
  generalize hA0 : ((w.alloc (.cells #[.int .i64 n, .int .i64 id, .int .i64 te, .int .i64 vo, .slice ao lo.length cap, .int .i64 ro, .int .i64 co, .slice bo vs.length cap2, .slice no ns.length cap3, .slice ho hs.length cap4] 25)).alloc (.cells #[.int .i64 0, .int .i64 0, .int .i64 0, .int .i64 0, .slice none 0 0, .int .i64 0, .int .i64 0, .slice none 0 0, .slice none 0 0, .slice none 0 0] 25)) = A0 at hA hB hR hs0 HC1
  have HA := hide hA
  have HB := hide hB
  have HR := hide hR
  clear h1 h2 h3 h4 hA hB hR
  go_upto_region 1 with fail
  try rw [hA0]
  have b4 := HB.out.cell 4
  have bl := HB.out.lt
  simp at b4
  clear hA0
  go_wp2_with fail
  refine HC1.out.mono ?_
  rintro e w1 ⟨v1, rfl, o1, hb1⟩
  obtain ⟨ao1, ac1, hv1⟩ := owns_shapeK o1
  subst hv1
  have HBc1 := hide (HB.out.later hb1)
  have HRc1 := hide (HR.out.later hb1)
  have HAc1 := hide (HA.out.trans (hb1.mono HA.out.size))
  have HO1c1 := hide o1
  have hz1 := hb1.size
  clear o1 hb1 HC1 b4 bl
  go_upto_region 3 with (first
    | (refine wpList_store_slice (k := 4) rfl rfl rfl rfl HBc1.out rfl Try.sizeEntsR ?_; intro W1 hB hg; have HB1 := hide hB; have HR1 := hide (HRc1.out.grown hg (by simp)); have HA1 := hide (below_grownO HAc1.out hg (fun k hk => by cases hk; omega) HAc1.out.size); have HO11 := hide (owns_offB HO1c1.out hg (by omega)); have zz1 := hg.size; have q7 := hB.cell 7; have ql7 := hB.lt; simp at q7; clear hB hg)
    | (at_builtin; go_must (refine wpList_append_rdG (E := iE) (cs := []) (World.ownsRow_nil W1 W1.heap.size 3 1) (HV2.out _ HA1.out) Try.underlying23 infoIntR rfl rfl rfl rfl rfl HL2.out (by decide) (Nat.le_refl _) ?_); intro v2 u2 o hb hg; rw [List.nil_append, Nat.zero_add] at o; obtain ⟨ao2, ac2, hv2⟩ := owns_shapeK o; subst hv2; have HBc2 := hide (HB1.out.later hb); have HRc2 := hide (HR1.out.later hb); have HAc2 := hide (HA1.out.trans (hb.mono HA1.out.size)); have HO1c2 := hide (owns_later HO11.out hb); have HO2c2 := hide o; have yy2 := hb.size; have LT1 := hide (fun g hg => (HO11.out.lt g hg).2); clear o hb hg)
    | (refine wpList_store_slice (k := 7) rfl rfl rfl rfl HBc2.out rfl Try.sizeIntsR ?_; intro W2 hB hg; have HB2 := hide hB; have HR2 := hide (HRc2.out.grown hg (by simp)); have HA2 := hide (below_grownO HAc2.out hg (fun k hk => by cases hk; omega) HAc2.out.size); have HO12 := hide (owns_offB HO1c2.out hg (by omega)); have HO22 := hide (owns_offB HO2c2.out hg (by omega)); have zz2 := hg.size; have q8 := hB.cell 8; have ql8 := hB.lt; simp at q8; clear hB hg))
  go_upto_region 4 with (first
    | (at_builtin; go_must (refine wpList_append_rdG (E := iE) (cs := []) (World.ownsRow_nil W2 W2.heap.size 3 1) (HV3.out _ HA2.out) Try.underlying23 infoIntR rfl rfl rfl rfl rfl HL3.out (by decide) (Nat.le_refl _) ?_); intro v3 u3 o hb hg; rw [List.nil_append, Nat.zero_add] at o; obtain ⟨ao3, ac3, hv3⟩ := owns_shapeK o; subst hv3; have HBc3 := hide (HB2.out.later hb); have HRc3 := hide (HR2.out.later hb); have HAc3 := hide (HA2.out.trans (hb.mono HA2.out.size)); have HO1c3 := hide (owns_later HO12.out hb); have HO2c3 := hide (owns_later HO22.out hb); have HO3c3 := hide o; have yy3 := hb.size; have LT2 := hide (fun g hg => (HO22.out.lt g hg).2); clear o hb hg)
    | (refine wpList_store_slice (k := 8) rfl rfl rfl rfl HBc3.out rfl Try.sizeIntsR ?_; intro W3 hB hg; have HB3 := hide hB; have HR3 := hide (HRc3.out.grown hg (by simp)); have HA3 := hide (below_grownO HAc3.out hg (fun k hk => by cases hk; omega) HAc3.out.size); have HO13 := hide (owns_offB HO1c3.out hg (by omega)); have HO23 := hide (owns_offB HO2c3.out hg (by omega)); have HO33 := hide (owns_offB HO3c3.out hg (by omega)); have zz3 := hg.size; have q9 := hB.cell 9; have ql9 := hB.lt; simp at q9; clear hB hg))
  go_wp2_with (first
    | (at_builtin; go_must (refine wpList_append_rdG (E := iE) (cs := []) (World.ownsRow_nil W3 W3.heap.size 3 1) (HV4.out _ HA3.out) Try.underlying23 infoIntR rfl rfl rfl rfl rfl HL4.out (by decide) (Nat.le_refl _) ?_); intro v4 u4 o hb hg; rw [List.nil_append, Nat.zero_add] at o; obtain ⟨ao4, ac4, hv4⟩ := owns_shapeK o; subst hv4; have HBc4 := hide (HB3.out.later hb); have HRc4 := hide (HR3.out.later hb); have HAc4 := hide (HA3.out.trans (hb.mono HA3.out.size)); have HO1c4 := hide (owns_later HO13.out hb); have HO2c4 := hide (owns_later HO23.out hb); have HO3c4 := hide (owns_later HO33.out hb); have HO4c4 := hide o; have yy4 := hb.size; have LT3 := hide (fun g hg => (HO33.out.lt g hg).2); clear o hb hg)
    | (refine wpList_store_slice (k := 9) rfl rfl rfl rfl HBc4.out rfl Try.sizeIntsR ?_; intro W4 hB hg; have HB4 := hide hB; have HR4 := hide (HRc4.out.grown hg (by simp)); have HA4 := hide (below_grownO HAc4.out hg (fun k hk => by cases hk; omega) HAc4.out.size); have HO14 := hide (owns_offB HO1c4.out hg (by omega)); have HO24 := hide (owns_offB HO2c4.out hg (by omega)); have HO34 := hide (owns_offB HO3c4.out hg (by omega)); have HO44 := hide (owns_offB HO4c4.out hg (by omega)); have zz4 := hg.size; clear hB hg)
    | (refine wpList_load_blk HB4.out Try.underlying25 rfl Try.sizeNode rfl rfl rfl ?_)
    | (refine wpList_store_blk rfl rfl rfl rfl HR4.out rfl Try.sizeNode rfl ?_; intro W9 hR9 hg9; have HR9 := hide hR9; have HG9 := hide hg9; clear hR9 hg9))
  refine bodyPost_ret (results1_cell Try.results8 rfl (run_loadVar_blk HR9.out Try.underlying25 rfl Try.sizeNode)) rfl ?_
  obtain ⟨lab, hnw, hlab⟩ := rows_label (x := ⟨n, id, te, vo, lo, ro, co, vs, ns, hs⟩) (owns_offB HO14.out HG9.out (by omega)) (owns_offB HO24.out HG9.out (by omega)) (owns_offB HO34.out HG9.out (by omega)) (owns_offB HO44.out HG9.out (by omega)) LT1.out LT2.out LT3.out (by omega) (by omega) (by omega)
  exact ⟨lab, _, _, _, _, rfl, hnw, fun g hg => hlab g (by omega), below_grownO HA4.out HG9.out (fun k hk => by cases hk; omega) HA4.out.size⟩

end Go.Proofs.Ytbffmdhogehfnaa

/-
  Regions that draw their order, step by step: an operation is taken out of the region's list by its place; what is done is told by a list that is written out. Nothing of a program stands here.
-/
namespace Go.Proofs.Ytbffmdhogehfnaa
open Go.RowKit Go.Maps

/-- Of n the first k are done. -/
def upB : Nat → Nat → List Bool
  | 0, _ => []
  | n + 1, 0 => false :: upB n 0
  | n + 1, k + 1 => true :: upB n k

section
variable {P : Program} {ops : Array Oper} {Q : Exit → Act → World → Prop} {md : Region.Mode} {S : World → Prop}

theorem at_of_drop {i : Nat} {oi : Oper} (hi : (ops.toList.drop i).head? = some oi) : ops[i]? = some oi := by
  rw [List.head?_drop] at hi
  simpa using hi

/-- Number i is taken first. -/
theorem wpAnyH_takeD {l l' : Array Bool} {i : Nat} {oi : Oper} {v : Value} {fuel : Nat} {a : Act} {w : World} (hi : (ops.toList.drop i).head? = some oi)
    (hs : Region.noSelect ops = true) (hf : Region.free md ops l i = true) (hr : (Region.ready md ops l).contains i = true) (hl : l.setIfInBounds i true = l')
    (hQ : ∀ c a w, Q (.panic c) (a.put oi.dst v) w → Q (.panic c) a w) (hw : Region.wanted oi (yielded ops a.tmps) = true) (hy : ∀ w, S w → (execOp a.eval oi).run P w = .ok (.value v) w) (hS : S w)
    (h : wpAnyH P md ops Q S fuel l' (a.put oi.dst v) w) : wpAnyH P md ops Q S (fuel + 1) l a w :=
  wpAnyH_take (at_of_drop hi) hs hf hr hQ (.inl ⟨hw, hy⟩) hS (by rw [hl]; exact h)

/-- Number i is not wanted. -/
theorem wpAnyH_skipD {l l' : Array Bool} {i : Nat} {oi : Oper} {fuel : Nat} {a : Act} {w : World} (hi : (ops.toList.drop i).head? = some oi)
    (hs : Region.noSelect ops = true) (hf : Region.free md ops l i = true) (hr : (Region.ready md ops l).contains i = true) (hl : l.setIfInBounds i true = l')
    (hQ : ∀ c a w, Q (.panic c) (a.put oi.dst undef) w → Q (.panic c) a w) (hw : Region.wanted oi (yielded ops a.tmps) = false) (hS : S w)
    (h : wpAnyH P md ops Q S fuel l' (a.put oi.dst undef) w) : wpAnyH P md ops Q S (fuel + 1) l a w :=
  wpAnyH_take (at_of_drop hi) hs hf hr hQ (.inr ⟨hw, rfl⟩) hS (by rw [hl]; exact h)

/-- Number i comes up, and nothing else can. -/
theorem wpAnyH_oneD {l l' : Array Bool} {fuel : Nat} {a : Act} {w : World} {i : Nat} {o : Oper} (hi : (ops.toList.drop i).head? = some o) (hr : Region.ready md ops l = [i]) (hl : l.setIfInBounds i true = l')
    (h : ∀ K' : Act → World → Prop, Shut (∀ a w, S w → (S w → wpAnyH P md ops Q S fuel l' a w) → K' a w) → if Region.wanted o (yielded ops a.tmps) = true then Oper.wp P o a w K' Q else K' (a.put o.dst undef) w) : wpAnyH P md ops Q S (fuel + 1) l a w :=
  wpAnyH_ready hr (by simp) (AllReadyH.cons (at_of_drop hi) (by rw [hl]; exact h) AllReadyH.nil)

/-- The beginning. -/
theorem wp_region_heldD {l : Array Bool} {n id : Nat} {a : Act} {w : World} (hm : P.follows .mixedOrders = true) (hn : ops.size = n) (hl : Array.replicate n false = l) (hs : Region.noSelect ops = true) (hS : S w.drew)
    (h : Hid (Region.noSelect ops = true) → S w.drew → wpAnyH P .any ops Q S n l a w.drew) : (Code.region id ops true).wp P Q a w :=
  wp_region_held_drew hm hS (fun k => by rw [hn, hl]; exact h (hide hs) k)

end
end Go.Proofs.Ytbffmdhogehfnaa
