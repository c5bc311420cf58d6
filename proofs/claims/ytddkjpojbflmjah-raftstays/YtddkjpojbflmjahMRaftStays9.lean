/-
  Texts joined: RaftU9, RaftU10, RaftU11, RaftS3, RaftS1, RaftS2, EntB.
-/
import Derived.Test.YtddkjpojbflmjahMRaftStays8
/-
  The walk over a node's takeAnswer. (Written by ru9.py.)
-/
namespace Go.Proofs.Ytddkjpojbflmjah
open Go.RowKit Go.Maps
set_option linter.unusedVariables false

set_option maxRecDepth 100000 in
set_option maxHeartbeats 16000000 in
theorem takeAnswer_any (B : Nat) (x : Nd) (lv vv nv hv : Value) (m : Ml) (ev : Value) (lab : Nat → Nat) (w : World) (hm : Nm w lab B x lv vv nv hv) (he0 : Rd0 0 eE w lab ev m.ents) (hf0 : 0 ≤ m.frm) (hfn : m.frm < x.n) (hn7 : x.n ≤ 7) (ha0 : 0 ≤ m.a) (ha1 : m.a ≤ 1000000000) (hll : x.log.length ≤ 1000) (hco : 0 ≤ x.com)
    (hld : x.role = 2 → (x.next.length : Int) = x.n ∧ (x.hav.length : Int) = x.n ∧ (∀ u ∈ x.next, 1 ≤ u ∧ u ≤ x.log.length + 1) ∧ (∀ u ∈ x.hav, 0 ≤ u ∧ u ≤ x.log.length)) :
    Calls Try.prog 88 #[.pointer (some ⟨B, 0, none⟩), mlV m ev] w fun e w' => e = .returned (.tuple #[]) ∧ Nm w' lab B (t4N x m) lv vv nv hv ∧ Chg 0 w w' lab lab (fun i => i ≠ 0) := by
  have HM := hide hm
  have he := he0.1
  have HLD := hide hld
  have HCNT := hide (fun y l1 v1 n1 h1 W (h : Nm W lab B y l1 v1 n1 h1) a b c d e => count_any B y l1 v1 n1 h1 lab W h a b c d e)
  have hlr := hm.nr.rd.log
  obtain ⟨lo1, lc1, hlv, _, _⟩ := hlr.shape
  subst hlv
  obtain ⟨ki, fr, dt, mt, ma, mb, mc, es, ok⟩ := m
  simp only at he hf0 hfn ha0 ha1
  obtain ⟨I, rfl⟩ : ∃ I : Nat, fr = I := ⟨fr.toNat, by omega⟩
  obtain ⟨eo, ec, rfl, he1, he2⟩ := he.shape
  have hW := below_allocG w (.cells #[.int .i64 ki, .int .i64 (I : Int), .int .i64 dt, .int .i64 mt, .int .i64 ma, .int .i64 mb, .int .i64 mc, .slice eo es.length ec, .bool ok] 50)
  have HMB := hide (Blk.new w 50 #[.int .i64 ki, .int .i64 (I : Int), .int .i64 dt, .int .i64 mt, .int .i64 ma, .int .i64 mb, .int .i64 mc, .slice eo es.length ec, .bool ok])
  have HW := hide hW
  have HNB := hide (hm.blk.later hW)
  have HT4 : Hid (t4N x ⟨ki, (I : Int), dt, mt, ma, mb, mc, es, ok⟩ = if x.role ≠ 2 ∨ mt ≠ x.term then x
    else if ok = false then { x with next := x.next.set I (max (min (gI x.next I - 1) (ma + 1)) (gI x.hav I + 1)) }
    else ({ x with hav := x.hav.set I (max (gI x.hav I) (min ma x.log.length)), next := x.next.set I (max (gI x.hav I) (min ma x.log.length) + 1) } : Nd).count) := hide rfl
  generalize t4N x ⟨ki, (I : Int), dt, mt, ma, mb, mc, es, ok⟩ = T1 at HT4 ⊢
  obtain ⟨C, hC⟩ : ∃ C : Bool, C = decide (x.role ≠ 2 ∨ mt ≠ x.term) := ⟨_, rfl⟩
  have HC := hide hC
  have HNUM := hide (And.intro hfn (And.intro hn7 (And.intro ha0 (And.intro ha1 (And.intro hll hco)))))
  unfold mlV mlA
  clear he he0 hlr hm hW hC hf0 hfn hn7 ha0 ha1 hll hco hld
  go_enter Try.func88, Try.ntmps88
  go_upto_region 1 with fail
  generalize hWA : w.alloc (.cells #[.int .i64 ki, .int .i64 (I : Int), .int .i64 dt, .int .i64 mt, .int .i64 ma, .int .i64 mb, .int .i64 mc, .slice eo es.length ec, .bool ok] 50) = A at HW HMB HNB ⊢
  clear hWA
  have p2 := HNB.out.cell 2
  have p5 := HNB.out.cell 5
  have pl := HNB.out.lt
  have m3 := HMB.out.cell 3
  have ml := HMB.out.lt
  simp [ndA] at p2 p5
  simp at m3
  try dsimp only [Act.put]
  go_cut [21] (fun y wc => y = .bool C ∧ Below A.heap.size A wc)
  case first =>
    by_cases h0 : x.role = 2
    case neg =>
      have hq : (x.role != 2) = true := by simp [h0]
      have HQ := hide (show C = true by rw [HC.out]; simp [h0])
      clear h0
      go_quiet (fail)
      go_wp2_with fail
      go_meet
      case rel => exact ⟨by rw [HQ.out] <;> rfl, below_drewN (Below.refl _ _) _⟩
    have hq : (x.role != 2) = false := by simp [h0]
    have HQ := hide (show C = (mt != x.term) by rw [HC.out]; by_cases h : mt = x.term <;> simp [h0, h])
    clear h0
    go_quiet (fail)
    go_wp2_with fail
    go_meet
    case rel => exact ⟨by rw [HQ.out] <;> rfl, below_drewN (Below.refl _ _) _⟩
  case rest =>
  obtain ⟨rfl, hbc⟩ := hcut
  have HBC := hide (HW.out.trans (hbc.mono HW.out.size))
  have HMC := hide (HMB.out.later hbc)
  have HNC := hide (HM.out.below HBC.out)
  have HCH := hide (Chg.below (fun i => i ≠ 0) HM.out.ok HBC.out)
  clear p2 p5 pl m3 ml hbc HMB HNB
  by_cases hc : x.role ≠ 2 ∨ mt ≠ x.term
  · have HE1 := hide (HT4.out.trans (if_pos hc))
    obtain rfl : C = true := by rw [HC.out]; exact decide_eq_true hc
    clear hc
    go_wp2_with fail
    refine bodyPost_ret (v := .tuple #[]) (by simp [results, Try.results88]) rfl ?_
    rw [HE1.out]
    exact ⟨rfl, HNC.out, HCH.out⟩
  have HT5 := hide (HT4.out.trans (if_neg hc))
  obtain rfl : C = false := by rw [HC.out]; exact decide_eq_false hc
  obtain ⟨k1, k2, k3, k4⟩ := HLD.out (Decidable.not_not.1 (fun q => hc (.inl q)))
  have hnum := HNUM.out
  obtain ⟨u, hu⟩ : ∃ u, x.hav[I]? = some u := ⟨_, List.getElem?_eq_getElem (by omega)⟩
  obtain ⟨u2, hu2⟩ : ∃ u, x.next[I]? = some u := ⟨_, List.getElem?_eq_getElem (by omega)⟩
  have b1 := k4 u (List.mem_of_getElem? hu)
  have b2 := k3 u2 (List.mem_of_getElem? hu2)
  have hg1 : gI x.hav I = u := by unfold gI; rw [Int.toNat_natCast, hu]; rfl
  have hg2 : gI x.next I = u2 := by unfold gI; rw [Int.toNat_natCast, hu2]; rfl
  rw [hg1, hg2] at HT5
  obtain ⟨g, gcap, hgv, gl, gc, gz⟩ := HNC.out.hav.atI hu
  obtain ⟨g2, gcap2, hgv2, gl2, gc2, gz2⟩ := HNC.out.nxt.atI hu2
  subst hgv hgv2
  have hi1 : (0 : Int) ≤ (I : Int) := by omega
  have hi2 : (I : Int) < (x.hav.length : Int) := by omega
  have hi3 : (I : Int) < (x.next.length : Int) := by omega
  have HUB := hide (And.intro b1 b2)
  have HUU := hide (And.intro hu hu2)
  have HLL := hide (And.intro k1 k2)
  have p8 := HNC.out.blk.cell 8
  have p9 := HNC.out.blk.cell 9
  have p4 := HNC.out.blk.cell 4
  have pl := HNC.out.blk.lt
  have m1 := HMC.out.cell 1
  have m4 := HMC.out.cell 4
  have m8 := HMC.out.cell 8
  have ml := HMC.out.lt
  simp [ndA] at p8 p9 p4
  simp at m1 m4 m8
  clear hc hnum k1 k2 k3 k4 b1 b2 hg1 hg2 hu hu2
  go_upto_region 2 with fail
  try dsimp only [Act.put]
  go_cut [4, 5] (fun a b wd => a = .pointer (some ⟨g2, I, none⟩) ∧ b = .pointer (some ⟨g, I, none⟩) ∧ Below wc.heap.size wc wd)
  case first =>
    go_quiet (fail)
    go_wp2_with fail
    go_meet
    case rel => exact ⟨by simp, by simp, below_drewN (Below.refl _ _) _⟩
  case rest =>
  obtain ⟨rfl, rfl, hbd⟩ := hcut
  have HND := hide (HNC.out.below hbd)
  have HCD := hide (HCH.out.trans (Chg.below _ HNC.out.ok hbd))
  have HMD := hide (HMC.out.later hbd)
  clear hi2 hi3 p8 p9 p4 pl m1 m4 m8 ml gc gz gc2 gz2 gl gl2 hbd HNC HCH HMC
  obtain ⟨ga, gcapa, hqa, gl, gc, gz⟩ := HND.out.hav.atI HUU.out.1
  simp only [Value.slice.injEq, Option.some.injEq, Addr.mk.injEq] at hqa
  obtain ⟨⟨rfl, _, _⟩, _, rfl⟩ := hqa
  obtain ⟨gb, gcapb, hqb, gl2, gc2, gz2⟩ := HND.out.nxt.atI HUU.out.2
  simp only [Value.slice.injEq, Option.some.injEq, Addr.mk.injEq] at hqb
  obtain ⟨⟨rfl, _, _⟩, _, rfl⟩ := hqb
  have p4 := HND.out.blk.cell 4
  have pl := HND.out.blk.lt
  have m4 := HMD.out.cell 4
  have m8 := HMD.out.cell 8
  have ml := HMD.out.lt
  simp [ndA] at p4
  simp at m4 m8
  have hnum := HNUM.out
  have hub := HUB.out
  have hlen : (x.log.length : Int) ≤ 1000 := by omega
  cases ok
  · have HE1 := hide (HT5.out.trans (if_pos rfl))
    obtain ⟨P1, hP1⟩ : ∃ P1 : Int, P1 = min (u2 - 1) (ma + 1) := ⟨_, rfl⟩
    obtain ⟨nw, hnw⟩ : ∃ nw : Int, nw = max P1 (u + 1) := ⟨_, rfl⟩
    have hw1 : IntKind.i64.wrap (u2 - 1) = u2 - 1 := by rw [IntKind.wrap_i64]; omega
    have hw2 : IntKind.i64.wrap (ma + 1) = ma + 1 := by rw [IntKind.wrap_i64]; omega
    have hw3 : IntKind.i64.wrap (u + 1) = u + 1 := by rw [IntKind.wrap_i64]; omega
    have hmin : ∀ (ts : Array TypeId) (t : TypeId) (W : World), (Builtin.min_ ts t #[.int .i64 (u2 - 1), .int .i64 (ma + 1)]).run Try.prog W = .ok (.int .i64 P1) W := fun ts t W => by rw [run_min_int2, show (if ma + 1 < u2 - 1 then ma + 1 else u2 - 1) = P1 by rw [hP1]; split <;> omega]
    have hmax : ∀ (ts : Array TypeId) (t : TypeId) (W : World), (Builtin.max_ ts t #[.int .i64 P1, .int .i64 (u + 1)]).run Try.prog W = .ok (.int .i64 nw) W := fun ts t W => by rw [run_max_int2, show (if u + 1 > P1 then u + 1 else P1) = nw by rw [hnw]; split <;> omega]
    have HQ1 := hide (show max (min (u2 - 1) (ma + 1)) (u + 1) = nw by rw [hnw, hP1])
    clear hnum hub hP1 hnw hlen
    go_upto_region 4 with fail
    go_region
    all_goals
      obtain ⟨hN7, hC7⟩ := HND.out.setNext I nw
      have hD : Below (wc.setCell ⟨g2, I, none⟩ (.int .i64 nw)).heap.size (wc.setCell ⟨g2, I, none⟩ (.int .i64 nw)) (wc.setCell ⟨g2, I, none⟩ (.int .i64 nw)).drew := Below.drew (Below.refl _ _)
      have HN8 := hide (hN7.below hD)
      have HC8 := hide ((HCD.out.trans (hC7.mono (fun i hi => (by omega : i ≠ 0)))).trans (Chg.below _ hN7.ok hD))
      clear hN7 hC7 hD gc gz gc2 gz2 p4 m4 m8
      generalize (wc.setCell ⟨g2, I, none⟩ (.int .i64 nw)).drew = wz at HN8 HC8 ⊢
      go_wp2_with fail
      refine bodyPost_ret (v := .tuple #[]) (by simp [results, Try.results88]) rfl ?_
      rw [HE1.out, HQ1.out]
      exact ⟨rfl, HN8.out, HC8.out⟩
  · have HE1 := hide (HT5.out.trans (if_neg (by simp)))
    obtain ⟨P1, hP1⟩ : ∃ P1 : Int, P1 = min ma x.log.length := ⟨_, rfl⟩
    obtain ⟨nh, hnh⟩ : ∃ nh : Int, nh = max u P1 := ⟨_, rfl⟩
    have hw1 : IntKind.i64.wrap (nh + 1) = nh + 1 := by rw [IntKind.wrap_i64]; omega
    have hmin : ∀ (ts : Array TypeId) (t : TypeId) (W : World), (Builtin.min_ ts t #[.int .i64 ma, .int .i64 (x.log.length : Int)]).run Try.prog W = .ok (.int .i64 P1) W := fun ts t W => by rw [run_min_int2, show (if (x.log.length : Int) < ma then (x.log.length : Int) else ma) = P1 by rw [hP1]; split <;> omega]
    have hmax : ∀ (ts : Array TypeId) (t : TypeId) (W : World), (Builtin.max_ ts t #[.int .i64 u, .int .i64 P1]).run Try.prog W = .ok (.int .i64 nh) W := fun ts t W => by rw [run_max_int2, show (if P1 > u then P1 else u) = nh by rw [hnh]; split <;> omega]
    have HQ1 := hide (show max u (min ma x.log.length) = nh by rw [hnh, hP1])
    clear hnum hub hP1 hnh hlen
    go_upto_region 5 with fail
    go_region
    all_goals
      obtain ⟨hN7, hC7⟩ := HND.out.setHave I nh
      have hD : Below (wc.setCell ⟨g, I, none⟩ (.int .i64 nh)).heap.size (wc.setCell ⟨g, I, none⟩ (.int .i64 nh)) (wc.setCell ⟨g, I, none⟩ (.int .i64 nh)).drew := Below.drew (Below.refl _ _)
      have HN8 := hide (hN7.below hD)
      have HC8 := hide ((HCD.out.trans (hC7.mono (fun i hi => (by omega : i ≠ 0)))).trans (Chg.below _ hN7.ok hD))
      clear hN7 hC7 hD gc gz gc2 gz2 p4 m4 m8 hmin hmax
      generalize (wc.setCell ⟨g, I, none⟩ (.int .i64 nh)).drew = wz at HN8 HC8 ⊢
      obtain ⟨ga, gcapa, hqa, gl, gc, gz⟩ := HN8.out.hav.atI (k := I) (u := nh) (by rw [List.getElem?_set, if_pos rfl, if_pos (List.getElem?_eq_some_iff.1 HUU.out.1).1])
      simp only [Value.slice.injEq, Option.some.injEq, Addr.mk.injEq] at hqa
      obtain ⟨⟨rfl, _, _⟩, _, rfl⟩ := hqa
      obtain ⟨gb, gcapb, hqb, gl2, gc2, gz2⟩ := HN8.out.nxt.atI HUU.out.2
      simp only [Value.slice.injEq, Option.some.injEq, Addr.mk.injEq] at hqb
      obtain ⟨⟨rfl, _, _⟩, _, rfl⟩ := hqb
      go_upto_region 7 with fail
      obtain ⟨hN9, hC9⟩ := HN8.out.setNext I (nh + 1)
      have HN9 := hide hN9
      have HC9 := hide (HC8.out.trans (hC9.mono (fun i hi => (by omega : i ≠ 0))))
      clear hN9 hC9 gc gz gc2 gz2
      generalize wz.setCell ⟨g2, I, none⟩ (.int .i64 (nh + 1)) = wy at HN9 HC9 ⊢
      have hnum := HNUM.out
      have hll := HLL.out
      have HCO := hide (HCNT.out _ _ _ _ _ _ HN9.out (show 0 ≤ x.n by omega) (show x.n ≤ 1000 by omega) (show x.log.length ≤ 1000 by omega) (by simp; omega) (show 0 ≤ x.com by omega))
      clear hnum hll
      go_wp2_with (go_at_call 78; refine HCO.out.mono ?_; rintro e w9 ⟨rfl, hN9, hC9⟩; have HN10 := hide hN9; have HC10 := hide hC9; clear hN9 hC9)
      refine bodyPost_end (v := .tuple #[]) (by simp [results, Try.results88]) rfl ?_
      rw [HE1.out, HQ1.out]
      exact ⟨rfl, HN10.out, HC9.out.trans (HC10.out.mono (fun i hi => (by omega : i ≠ 0)))⟩

end Go.Proofs.Ytddkjpojbflmjah

/-
  The walk over a node's take. (Written by ru10.py.)
-/
namespace Go.Proofs.Ytddkjpojbflmjah
open Go.RowKit Go.Maps
set_option linter.unusedVariables false

theorem hear_fix (x : Nd) (t : Int) : (x.hear t).n = x.n ∧ (x.hear t).id = x.id ∧ (x.hear t).log = x.log ∧ (x.hear t).com = x.com ∧ ((x.hear t).votes = x.votes ∨ (x.hear t).votes = []) ∧ ((x.hear t).role = 2 → x.role = 2 ∧ (x.hear t).next = x.next ∧ (x.hear t).hav = x.hav) := by
  unfold Nd.hear
  split
  · exact ⟨rfl, rfl, rfl, rfl, .inr rfl, fun h => by simp [Nd.follow] at h⟩
  · exact ⟨rfl, rfl, rfl, rfl, .inl rfl, fun h => ⟨h, rfl, rfl⟩⟩

/-- A mail that may come. -/
structure FineM (x : Nd) (m : Ml) : Prop where
  k1 : 1 ≤ m.kind
  k4 : m.kind ≤ 4
  to_ : m.to_ = x.id
  f0 : 0 ≤ m.frm
  fn : m.frm < x.n
  fi : m.frm ≠ x.id
  t1 : 1 ≤ m.term
  t2 : m.term ≤ 1000000000
  a0 : 0 ≤ m.a
  a1 : m.a ≤ 1000000000
  b0 : 0 ≤ m.b
  b1 : m.b ≤ 1000000000
  c0 : 0 ≤ m.c
  c1 : m.c ≤ 1000000000
  br : brgB m = true

theorem takF_ok {x : Nd} {m : Ml} (h : (takF x m).1 = 0) : FineN x ∧ FineM x m := by
  unfold takF at h
  by_cases h1 : (chkN x).1 ≠ 0
  · rw [if_pos h1] at h; exact absurd h h1
  rw [if_neg h1] at h
  by_cases h2 : sentB x m = false ∨ numsB m = false ∨ brgB m = false
  · rw [if_pos h2] at h; simp at h
  simp only [not_or, Bool.not_eq_false] at h2
  obtain ⟨g1, g2, g3⟩ := h2
  unfold sentB at g1
  unfold numsB at g2
  simp only [Bool.and_eq_true, decide_eq_true_eq, Bool.not_eq_true', decide_eq_false_iff_not, wiB_true, numL_iff] at g1 g2
  obtain ⟨⟨a1, a2⟩, a3, ⟨a4, a5⟩, a6⟩ := g1
  obtain ⟨⟨b1, b2⟩, ⟨b3, b4⟩, ⟨b5, b6⟩, b7, b8⟩ := g2
  exact ⟨chkN_fine (Decidable.not_not.1 h1), ⟨a1, a2, a3, a4, by omega, a6, b1, b2, b3, b4, b5, b6, b7, b8, g3⟩⟩

theorem FineM.len {x : Nd} {m : Ml} (h : FineM x m) : m.ents.length ≤ 5 := by
  have h1 := h.br
  unfold brgB at h1
  by_cases h0 : m.ents.length = 0
  · omega
  · rw [if_neg h0] at h1
    simp only [Bool.and_eq_true, decide_eq_true_eq] at h1
    exact h1.2.1

set_option maxRecDepth 100000 in
set_option maxHeartbeats 8000000 in
theorem take_any (B : Nat) (x : Nd) (lv vv nv hv : Value) (m : Ml) (ev : Value) (lab : Nat → Nat) (w : World) (hm : Nm w lab B x lv vv nv hv) (he0 : Rd0 0 eE w lab ev m.ents) (hx : FineN x) (hf : FineM x m) :
    Calls Try.prog 57 #[.pointer (some ⟨B, 0, none⟩), mlV m ev] w fun e w' => TkTo w lab B (x.take m) (x.sends m) e w' := by
  have HM := hide hm
  have HEV := hide he0
  have he := he0.1
  have HHE := hide (fun W t (h : Nm W lab B x lv vv nv hv) => hearOf_any B x t lv vv nv hv lab W h)
  obtain ⟨Y, hY⟩ : ∃ Y, Y = x.hear m.term := ⟨_, rfl⟩
  have hfx := hear_fix x m.term
  rw [← hY] at hfx
  obtain ⟨f1, f2, f3, f4, f5, f6⟩ := hfx
  obtain ⟨sm1, sm2, sm3, sm4⟩ := hx.small
  have hmn := hf.len
  have HT1 : Hid (x.take m = if m.kind = 1 then t1N Y m else if m.kind = 2 then t2N Y m else if m.kind = 3 then t3N Y m else t4N Y m) := hide (by rw [hY]; rfl)
  have HT2 : Hid (x.sends m = if m.kind = 1 then t1M Y m else if m.kind = 2 then t2M Y m else if m.kind = 3 then t3M Y m else []) := hide (by rw [hY]; rfl)
  have HC1 := hide (fun W a b c (h : Nm W lab B Y lv a b c) h2 => takeAsking_any B Y lv a b c m ev lab W h h2 hf.f0 (by have := hf.fn; have := hx.n7; omega))
  have hvl : Y.votes.length ≤ 1000 := by
    rcases f5 with q | q
    · rw [q]; omega
    · rw [q]; exact Nat.zero_le _
  have HC2 := hide (fun W a b c (h : Nm W lab B Y lv a b c) h2 => takeVote_any B Y lv a b c m ev lab W h h2 (by rw [f1]; exact hx.n1) (by rw [f1]; exact hx.n7) (by rw [f2]; exact hx.id0) (by rw [f2, f1]; exact hx.idn) (by rw [f3]; omega) (by rw [f4]; exact hx.c0) hvl)
  have HC3 := hide (fun W a b c (h : Nm W lab B Y lv a b c) h2 => takeEntries_any B Y lv a b c m ev lab W h h2 hf.a0 hf.a1 hf.c0 hf.c1 (by omega) (by rw [f3]; omega) (by rw [f4]; exact hx.c0) (by rw [f4, f3]; exact hx.cl))
  have HC4 := hide (fun W a b c (h : Nm W lab B Y lv a b c) h2 => takeAnswer_any B Y lv a b c m ev lab W h h2 hf.f0 (by rw [f1]; exact hf.fn) (by rw [f1]; exact hx.n7) hf.a0 hf.a1 (by rw [f3]; omega) (by rw [f4]; exact hx.c0) (fun hr => by
    obtain ⟨q1, q2, q3⟩ := f6 hr
    obtain ⟨e1, e2, e3, e4, _⟩ := hx.lens q1
    rw [q2, q3, f1, f3]
    exact ⟨e1, e2, e3, e4⟩))
  have HK := hide (And.intro hf.k1 hf.k4)
  generalize x.take m = T1 at HT1 ⊢
  generalize x.sends m = T2 at HT2 ⊢
  clear hvl f1 f2 f3 f4 f5 f6 sm1 sm2 sm3 sm4 hmn hx hf
  obtain ⟨ki, fr, dt, mt, ma, mb, mc, es, ok⟩ := m
  simp only at he
  obtain ⟨eo, ec, rfl, he1, he2⟩ := he.shape
  have hW := below_allocG w (.cells #[.int .i64 ki, .int .i64 fr, .int .i64 dt, .int .i64 mt, .int .i64 ma, .int .i64 mb, .int .i64 mc, .slice eo es.length ec, .bool ok] 50)
  have HMB := hide (Blk.new w 50 #[.int .i64 ki, .int .i64 fr, .int .i64 dt, .int .i64 mt, .int .i64 ma, .int .i64 mb, .int .i64 mc, .slice eo es.length ec, .bool ok])
  have HW := hide hW
  have HNA := hide (hm.below hW)
  have HYY := hide hY
  simp only at HT1 HT2 HK
  unfold mlV mlA at HC1 HC2 HC3 HC4
  unfold mlV mlA
  dsimp only at HC1 HC2 HC3 HC4
  clear he he0 hm hW hY
  go_enter Try.func57, Try.ntmps57
  go_wp2_with fail
  refine (HHE.out _ mt HNA.out).mono ?_
  rintro e w1 ⟨vv1, nv1, hv1, rfl, hN1, hC1⟩
  rw [show x.hear mt = Y from HYY.out.symm] at hN1
  have HN1 := hide hN1
  have HCC := hide ((Chg.below (fun i => i ≠ 0) HM.out.ok HW.out).trans (hC1.mono (fun i hi => (by omega : i ≠ 0))))
  have HE1 := hide (HEV.out.keep HCC.out (by omega))
  have HM1 := hide (HMB.out.keep hC1 (by rw [HM.out.ok _ (Nat.le_refl _)]; omega))
  have hz1 := HCC.out.size
  have m0 := HM1.out.cell 0
  have ml := HM1.out.lt
  simp at m0
  clear hN1 hC1 HHE HNA HMB
  by_cases h1 : ki = 1
  · have HE2 := hide (HT1.out.trans (if_pos h1))
    have HE3 := hide (HT2.out.trans (if_pos h1))
    have hq : (ki == 1) = true := by simp [h1]
    clear h1
    go_wp2_with (refine wpList_load_blk HM1.out Try.underlying50 rfl Try.sizeMail rfl rfl rfl ?_)
    refine (HC1.out _ _ _ _ HN1.out HE1.out).mono ?_
    rintro e w8 ⟨mv, rfl, hN8, ho8, hC8⟩
    go_wp2_with fail
    go_ret
    rw [HE2.out, HE3.out]
    exact ⟨_, _, _, _, _, _, rfl, hN8, ho8.base hz1, HCC.out.trans (hC8.mono (fun i hi => (by omega : i ≠ 0)))⟩
  have hq1 : (ki == 1) = false := by simp [h1]
  have HT3 := hide (HT1.out.trans (if_neg h1))
  have HT4 := hide (HT2.out.trans (if_neg h1))
  by_cases h2 : ki = 2
  · have HE2 := hide (HT3.out.trans (if_pos h2))
    have HE3 := hide (HT4.out.trans (if_pos h2))
    have hq : (ki == 2) = true := by simp [h2]
    clear h1 h2
    go_wp2_with (refine wpList_load_blk HM1.out Try.underlying50 rfl Try.sizeMail rfl rfl rfl ?_)
    refine (HC2.out _ _ _ _ HN1.out HE1.out).mono ?_
    rintro e w8 ⟨mv, lab8, vv8, nv8, hv8, rfl, hN8, ho8, hC8⟩
    go_wp2_with fail
    go_ret
    rw [HE2.out, HE3.out]
    exact ⟨_, _, _, _, _, _, rfl, hN8, ho8.base hz1, HCC.out.trans hC8⟩
  have hq2 : (ki == 2) = false := by simp [h2]
  have HT5 := hide (HT3.out.trans (if_neg h2))
  have HT6 := hide (HT4.out.trans (if_neg h2))
  by_cases h3 : ki = 3
  · have HE2 := hide (HT5.out.trans (if_pos h3))
    have HE3 := hide (HT6.out.trans (if_pos h3))
    have hq : (ki == 3) = true := by simp [h3]
    clear h1 h2 h3
    go_wp2_with (refine wpList_load_blk HM1.out Try.underlying50 rfl Try.sizeMail rfl rfl rfl ?_)
    refine (HC3.out _ _ _ _ HN1.out HE1.out).mono ?_
    rintro e w8 ⟨mv, lab8, lv8, vv8, nv8, hv8, rfl, hN8, ho8, hC8⟩
    go_wp2_with fail
    go_ret
    rw [HE2.out, HE3.out]
    exact ⟨_, _, _, _, _, _, rfl, hN8, ho8.base hz1, HCC.out.trans hC8⟩
  have hq3 : (ki == 3) = false := by simp [h3]
  have hq4 : (ki == 4) = true := by have := HK.out; simp; omega
  have HE2 := hide (HT5.out.trans (if_neg h3))
  have HE3 := hide (HT6.out.trans (if_neg h3))
  clear h1 h2 h3
  go_wp2_with (refine wpList_load_blk HM1.out Try.underlying50 rfl Try.sizeMail rfl rfl rfl ?_)
  refine (HC4.out _ _ _ _ HN1.out HE1.out).mono ?_
  rintro e w8 ⟨rfl, hN8, hC8⟩
  go_wp2_with fail
  go_ret
  rw [HE2.out, HE3.out]
  exact ⟨_, _, _, _, _, _, rfl, hN8, OwM.nil _ _, HCC.out.trans hC8⟩

end Go.Proofs.Ytddkjpojbflmjah

/-
  The walk over raft.Take. (Written by ru11.py.)
-/
namespace Go.Proofs.Ytddkjpojbflmjah
open Go.RowKit Go.Maps
set_option linter.unusedVariables false

def takN (x : Nd) (m : Ml) : Nd := if (takF x m).1 = 0 then x.take m else noNd
def takM (x : Nd) (m : Ml) : List Ml := if (takF x m).1 = 0 then x.sends m else []

theorem Rd0.ofOld {α : Type} {K : Nat} {E : En α K} {w w' : World} {lab : Nat → Nat} {v : Value} {xs : List α} (h : RdG E w v xs) (hb : Below w.heap.size w w') (hl : ∀ g, g < w.heap.size → lab g = 0) : Rd0 0 E w' lab v xs := by
  refine ⟨h.below hb, fun a n c hv hne => hl _ ?_⟩
  obtain ⟨ao, cap, hv', h1, h2, h3, h4⟩ := h
  rw [hv'] at hv
  simp only [Value.slice.injEq] at hv
  have hp : 0 < (E.vs xs).length := by
    rw [vs_length]
    exact Nat.mul_pos (by cases xs with | nil => exact absurd rfl hne | cons _ _ => simp) E.pos
  have hc := h4 a hv.1 0 _ (List.getElem?_eq_getElem hp)
  have hlt := World.block_lt_of_cell? w _ hc
  have e : (a.add 0).block = a.block := by unfold Addr.add; split <;> rfl
  rw [e] at hlt
  exact hlt

theorem four_at (w : World) (xs ys zs us : Array Value) (t1 t2 t3 t4 : TypeId) :
    Blk ((((w.alloc (.cells xs t1)).alloc (.cells ys t2)).alloc (.cells zs t3)).alloc (.cells us t4)) w.heap.size t1 xs ∧ Blk ((((w.alloc (.cells xs t1)).alloc (.cells ys t2)).alloc (.cells zs t3)).alloc (.cells us t4)) (w.heap.size + 1) t2 ys ∧ Blk ((((w.alloc (.cells xs t1)).alloc (.cells ys t2)).alloc (.cells zs t3)).alloc (.cells us t4)) (w.heap.size + 1 + 1) t3 zs ∧ Blk ((((w.alloc (.cells xs t1)).alloc (.cells ys t2)).alloc (.cells zs t3)).alloc (.cells us t4)) (w.heap.size + 1 + 1 + 1) t4 us ∧ Below w.heap.size w ((((w.alloc (.cells xs t1)).alloc (.cells ys t2)).alloc (.cells zs t3)).alloc (.cells us t4)) ∧ w.heap.size + 4 = ((((w.alloc (.cells xs t1)).alloc (.cells ys t2)).alloc (.cells zs t3)).alloc (.cells us t4)).heap.size := by
  have hN := below_allocG (((w.alloc (.cells xs t1)).alloc (.cells ys t2)).alloc (.cells zs t3)) (.cells us t4)
  have h3 := below_alloc3 w (.cells xs t1) (.cells ys t2) (.cells zs t3)
  refine ⟨(Blk.at0of3 _ _ _ _ _).later hN, (Blk.at1of3 _ _ _ _ _).later hN, (Blk.at2of3 _ _ _ _ _).later hN, ?_, h3.trans (hN.mono h3.size), by simp⟩
  have := Blk.new (((w.alloc (.cells xs t1)).alloc (.cells ys t2)).alloc (.cells zs t3)) t4 us
  simpa using this

set_option maxRecDepth 100000 in
set_option maxHeartbeats 8000000 in
theorem Take_any (x : Nd) (lv vv nv hv : Value) (m : Ml) (ev : Value) (w : World) (hx : RdNd w x lv vv nv hv) (hwf : ∀ v ∈ x.votes, WfI v) (he : RdG eE w ev m.ents) :
    Calls Try.prog 28 #[ndV x lv vv nv hv, mlV m ev] w fun e w' => ∃ lv' vv' nv' hv' mv, e = .returned (.tuple #[ndV (takN x m) lv' vv' nv' hv', mv, flt (takF x m)]) ∧ AnsN w' w.heap.size (takN x m) lv' vv' nv' hv' ∧ OwM w' w.heap.size mv (takM x m) ∧ Below w.heap.size w w' := by
  have HOK := hide (@takF_ok x m)
  have HX := hide hx
  have HEV := hide he
  have HZ := hide (takF_z x m)
  have HXT := hide (fun W B lab lv vv nv hv h h2 a b => take_any B x lv vv nv hv m ev lab W h h2 a b)
  obtain ⟨n, id, te, vo, lo, ro, co, vs, ns, hs⟩ := x
  obtain ⟨h1, h2, h3, h4⟩ := hx
  simp only at h1 h2 h3 h4
  obtain ⟨ao, cap, rfl, hc1, hc2⟩ := h1.shape
  obtain ⟨bo, cap2, rfl, hd1, hd2⟩ := h2.shape
  obtain ⟨no, cap3, rfl, _, _⟩ := h3.shape
  obtain ⟨ho, cap4, rfl, _, _⟩ := h4.shape
  obtain ⟨ki, fr, dt, mt, ma, mb, mc, es, ok⟩ := m
  simp only at he
  obtain ⟨eo, ec, rfl, he1, he2⟩ := he.shape
  have hN4 := four_at w #[.int .i64 n, .int .i64 id, .int .i64 te, .int .i64 vo, .slice ao lo.length cap, .int .i64 ro, .int .i64 co, .slice bo vs.length cap2, .slice no ns.length cap3, .slice ho hs.length cap4] #[.int .i64 ki, .int .i64 fr, .int .i64 dt, .int .i64 mt, .int .i64 ma, .int .i64 mb, .int .i64 mc, .slice eo es.length ec, .bool ok] #[.int .i64 0, .int .i64 0, .int .i64 0, .int .i64 0, .slice none 0 0, .int .i64 0, .int .i64 0, .slice none 0 0, .slice none 0 0, .slice none 0 0] #[.int .i64 0, .int .i64 0] 34 50 34 26
  obtain ⟨hP, hM, hR, hQ, hA, hS⟩ := hN4
  have HC1 := hide (takeFault_any ⟨n, id, te, vo, lo, ro, co, vs, ns, hs⟩ _ _ _ _ ⟨ki, fr, dt, mt, ma, mb, mc, es, ok⟩ _ _ (HX.out.below hA) hwf (HEV.out.below hA))
  have HTN : Hid (takN ⟨n, id, te, vo, lo, ro, co, vs, ns, hs⟩ ⟨ki, fr, dt, mt, ma, mb, mc, es, ok⟩ = if (takF ⟨n, id, te, vo, lo, ro, co, vs, ns, hs⟩ ⟨ki, fr, dt, mt, ma, mb, mc, es, ok⟩).1 = 0 then Nd.take ⟨n, id, te, vo, lo, ro, co, vs, ns, hs⟩ ⟨ki, fr, dt, mt, ma, mb, mc, es, ok⟩ else noNd) := hide rfl
  have HTM : Hid (takM ⟨n, id, te, vo, lo, ro, co, vs, ns, hs⟩ ⟨ki, fr, dt, mt, ma, mb, mc, es, ok⟩ = if (takF ⟨n, id, te, vo, lo, ro, co, vs, ns, hs⟩ ⟨ki, fr, dt, mt, ma, mb, mc, es, ok⟩).1 = 0 then Nd.sends ⟨n, id, te, vo, lo, ro, co, vs, ns, hs⟩ ⟨ki, fr, dt, mt, ma, mb, mc, es, ok⟩ else []) := hide rfl
  generalize hK : takF ⟨n, id, te, vo, lo, ro, co, vs, ns, hs⟩ ⟨ki, fr, dt, mt, ma, mb, mc, es, ok⟩ = K at *
  generalize takN ⟨n, id, te, vo, lo, ro, co, vs, ns, hs⟩ ⟨ki, fr, dt, mt, ma, mb, mc, es, ok⟩ = TN at HTN ⊢
  generalize takM ⟨n, id, te, vo, lo, ro, co, vs, ns, hs⟩ ⟨ki, fr, dt, mt, ma, mb, mc, es, ok⟩ = TM at HTM ⊢
  obtain ⟨p, q⟩ := K
  unfold ndV ndA mlV mlA at HC1
  unfold mlV mlA at HXT
  dsimp only at HXT HOK
  unfold ndV ndA mlV mlA
  have HP := hide hP
  have HM := hide hM
  have HR := hide hR
  have HQ := hide hQ
  have HA := hide hA
  have HS := hide hS
  clear h1 h2 h3 h4 he hP hM hR hQ hA hS hK
  go_enter Try.func28, Try.ntmps28
  go_wp2_with (first | (refine wpList_load_blk HP.out Try.underlying34 rfl Try.sizeNode rfl rfl rfl ?_) | (refine wpList_load_blk HM.out Try.underlying50 rfl Try.sizeMail rfl rfl rfl ?_))
  refine HC1.out.mono ?_
  rintro e w1 ⟨rfl, hb1⟩
  have hN := below_allocG w1 (.cells #[.int .i64 p, .int .i64 q] 26)
  have HP1 := hide ((HP.out.later hb1).later hN)
  have HM1 := hide ((HM.out.later hb1).later hN)
  have HR1 := hide ((HR.out.later hb1).later hN)
  have HQ1 := hide ((HQ.out.later hb1).later hN)
  have hAA := HA.out.trans (hb1.mono HA.out.size)
  have HA1 := hide (hAA.trans (hN.mono hAA.size))
  have HS1 := hide (show w.heap.size + 4 ≤ w1.heap.size by have := hb1.size; have := HS.out; omega)
  have hW1 := (Blk.new w1 26 #[.int .i64 p, .int .i64 q])
  have f0 := hW1.cell 0
  have f1 := hW1.cell 1
  simp at f0 f1
  clear hb1 hN hAA hW1 HC1 HP HM HR HQ HA HS
  unfold flt
  have hrq : w.heap.size + 1 + 1 ≠ w.heap.size + 1 + 1 + 1 := by omega
  have hqr : w.heap.size + 1 + 1 + 1 ≠ w.heap.size + 1 + 1 := by omega
  by_cases hp : p ≠ 0
  · have hq : (p == 0) = false := beq_eq_false_iff_ne.2 hp
    have hq2 : (p != 0) = true := by simp [hp]
    have HE := hide (HTN.out.trans (if_neg hp))
    have HE2 := hide (HTM.out.trans (if_neg hp))
    clear hp
    have hfr : w1.heap.size ≠ w.heap.size + 1 + 1 := by have := HS1.out; omega
    have hfq : w1.heap.size ≠ w.heap.size + 1 + 1 + 1 := by have := HS1.out; omega
    have ra0 := HR1.out.cell 0
    have raz0 := HR1.out.frozen 0
    have ra1 := HR1.out.cell 1
    have raz1 := HR1.out.frozen 1
    have ra2 := HR1.out.cell 2
    have raz2 := HR1.out.frozen 2
    have ra3 := HR1.out.cell 3
    have raz3 := HR1.out.frozen 3
    have ra4 := HR1.out.cell 4
    have raz4 := HR1.out.frozen 4
    have ra5 := HR1.out.cell 5
    have raz5 := HR1.out.frozen 5
    have ra6 := HR1.out.cell 6
    have raz6 := HR1.out.frozen 6
    have ra7 := HR1.out.cell 7
    have raz7 := HR1.out.frozen 7
    have ra8 := HR1.out.cell 8
    have raz8 := HR1.out.frozen 8
    have ra9 := HR1.out.cell 9
    have raz9 := HR1.out.frozen 9
    have ral := HR1.out.lt
    simp at ra0 ra1 ra2 ra3 ra4 ra5 ra6 ra7 ra8 ra9
    have qa0 := HQ1.out.cell 0
    have qaz0 := HQ1.out.frozen 0
    have qa1 := HQ1.out.cell 1
    have qaz1 := HQ1.out.frozen 1
    have qal := HQ1.out.lt
    simp at qa0 qa1
    go_wp2_with fail
    go_region
    all_goals
      obtain ⟨hR9, hQ9, hA9, _, _⟩ := setL_two (w := w) (C := w.heap.size) [.int .i64 0, .int .i64 0, .int .i64 0, .int .i64 0, .slice none 0 0, .int .i64 0, .int .i64 0, .slice none 0 0, .slice none 0 0, .slice none 0 0] [.int .i64 p, .int .i64 q] HR1.out HQ1.out hrq rfl rfl HA1.out (by omega) (by omega)
      have HR9 := hide hR9
      have HQ9 := hide hQ9
      have HA9 := hide hA9
      simp only [setL] at HR9 HQ9 HA9
      clear hR9 hQ9 hA9 ra0 raz0 ra1 raz1 ra2 raz2 ra3 raz3 ra4 raz4 ra5 raz5 ra6 raz6 ra7 raz7 ra8 raz8 ra9 raz9 ral qa0 qaz0 qa1 qaz1 qal f0 f1
      generalize (((((((((((((w1.alloc (.cells #[.int .i64 p, .int .i64 q] 26)).setCell ⟨w.heap.size + 1 + 1, 0, none⟩ (.int .i64 0)).setCell ⟨w.heap.size + 1 + 1, 1, none⟩ (.int .i64 0)).setCell ⟨w.heap.size + 1 + 1, 2, none⟩ (.int .i64 0)).setCell ⟨w.heap.size + 1 + 1, 3, none⟩ (.int .i64 0)).setCell ⟨w.heap.size + 1 + 1, 4, none⟩ (.slice none 0 0)).setCell ⟨w.heap.size + 1 + 1, 5, none⟩ (.int .i64 0)).setCell ⟨w.heap.size + 1 + 1, 6, none⟩ (.int .i64 0)).setCell ⟨w.heap.size + 1 + 1, 7, none⟩ (.slice none 0 0)).setCell ⟨w.heap.size + 1 + 1, 8, none⟩ (.slice none 0 0)).setCell ⟨w.heap.size + 1 + 1, 9, none⟩ (.slice none 0 0)).setCell ⟨w.heap.size + 1 + 1 + 1, 0, none⟩ (.int .i64 p)).setCell ⟨w.heap.size + 1 + 1 + 1, 1, none⟩ (.int .i64 q)).drew = wz at HR9 HQ9 HA9 ⊢
      go_wp2_with fail
      refine bodyPost_ret (results3_ctc Try.results28 rfl rfl rfl (run_loadVar_blk HR9.out Try.underlying34 rfl Try.sizeNode) (run_loadVar_blk HQ9.out Try.underlying26 rfl Try.sizeFaultR)) rfl ?_
      rw [HE.out, HE2.out]
      exact ⟨_, _, _, _, _, rfl, AnsN.no _ _, OwM.nil _ _, HA9.out⟩
  obtain rfl : p = 0 := Decidable.not_not.1 hp
  obtain rfl : q = 0 := by have := HZ.out rfl; simpa using this
  have HE := hide (HTN.out.trans (if_pos rfl))
  have HE2 := hide (HTM.out.trans (if_pos rfl))
  obtain ⟨hfine, hfm⟩ := HOK.out rfl
  obtain ⟨sm1, sm2, sm3, sm4⟩ := hfine.small
  have HFI := hide hfine
  have HFM := hide hfm
  clear hp hfine hfm f0 f1
  have HSW := hide (show w.heap.size + 4 ≤ (w1.alloc (.cells #[.int .i64 0, .int .i64 0] 26)).heap.size by have := HS1.out; simp; omega)
  have HCP := hide (copied_any ⟨n, id, te, vo, lo, ro, co, vs, ns, hs⟩ _ _ _ _ _ (HX.out.below HA1.out) (by omega) (by omega) (by omega) (by omega))
  unfold ndV ndA at HCP
  go_upto_region 4 with fail
  generalize hW : w1.alloc (.cells #[.int .i64 0, .int .i64 0] 26) = W at HP1 HM1 HR1 HQ1 HA1 HCP HSW ⊢
  clear hW HS1
  go_wp2_with (refine wpList_load_blk HP1.out Try.underlying34 rfl Try.sizeNode rfl rfl rfl ?_)
  refine HCP.out.mono ?_
  rintro e w2 ⟨lab, lv2, vv2, nv2, hv2, rfl, hnw, hlab, hb2⟩
  obtain ⟨lo2, lc2, hs1⟩ := owns_shapeK hnw.log.1
  obtain ⟨vo2, vc2, hs2⟩ := owns_shapeK hnw.vot.1
  obtain ⟨no2, nc2, hs3⟩ := owns_shapeK hnw.nxt.1
  obtain ⟨ho2, hc2', hs4⟩ := owns_shapeK hnw.hav.1
  subst hs1 hs2 hs3 hs4
  have hlay := hnw.lay
  have hbY := hb2.trans ((below_allocG w2 (.cells (ndA ⟨n, id, te, vo, lo, ro, co, vs, ns, hs⟩ (.slice lo2 lo.length lc2) (.slice vo2 vs.length vc2) (.slice no2 ns.length nc2) (.slice ho2 hs.length hc2')) 63)).mono hb2.size)
  have hlab2 : ∀ g, g < W.heap.size → labTo lab (some w2.heap.size) 5 g = 0 := fun g hg => by
    unfold labTo
    rw [if_neg (fun q => by have := hb2.size; simp at q; omega)]
    exact hlab g hg
  have he2' := Rd0.ofOld (HEV.out.below HA1.out) hbY hlab2
  have HTK := hide (HXT.out _ _ _ _ _ _ _ hlay he2' HFI.out HFM.out)
  have HM2 := hide (HM1.out.later hbY)
  have HLB := hide hlab
  have HB2 := hide hb2
  unfold ndA at HTK HM2
  dsimp only at HTK HM2 ⊢
  clear hnw hlab hb2 hlay HCP hbY hlab2 he2' HXT
  go_wp2_with (refine wpList_load_blk HM2.out Try.underlying50 rfl Try.sizeMail rfl rfl rfl ?_)
  refine HTK.out.mono ?_
  rintro e w3 ⟨mv, lab3, lv3, vv3, nv3, hv3, rfl, hN3, hO3, hC3⟩
  obtain ⟨hbl, hlb3⟩ := laid_below hC3 HLB.out HB2.out.size
  have hb3 := HB2.out.trans hbl
  have HR3 := hide (HR1.out.later hb3)
  have HQ3 := hide (HQ1.out.later hb3)
  have HA3 := hide (HA1.out.trans (hb3.mono HA1.out.size))
  have HAN := hide (hN3.ans hlb3)
  have HO3 := hide (hO3.base (b2 := W.heap.size) (by have := HB2.out.size; simp; omega))
  obtain ⟨lo3, lc3, hs1⟩ := owns_shapeK hN3.log.1
  obtain ⟨vo3, vc3, hs2⟩ := owns_shapeK hN3.vot.1
  obtain ⟨no3, nc3, hs3⟩ := owns_shapeK hN3.nxt.1
  obtain ⟨ho3, hc3', hs4⟩ := owns_shapeK hN3.hav.1
  have HBN := hide hN3.blk
  subst hs1 hs2 hs3 hs4
  generalize Nd.take ⟨n, id, te, vo, lo, ro, co, vs, ns, hs⟩ ⟨ki, fr, dt, mt, ma, mb, mc, es, ok⟩ = S at *
  unfold ndA at HBN
  have hsw := HSW.out
  have hsz3 := hb3.size
  clear hN3 hC3 hO3 hbl hlb3 hb3 HTK HLB
  go_wp2_with (first
    | (refine wpList_load_blk HBN.out Try.underlying34 rfl Try.sizeNode rfl rfl rfl ?_)
    | (refine wpList_store_blk rfl rfl rfl rfl HR3.out rfl Try.sizeNode rfl ?_; intro w4 hR4 hg4; have HR4 := hide hR4; have HG4 := hide hg4; clear hR4 hg4)
    | (refine wpList_store_blk rfl rfl rfl rfl (HQ3.out.grown HG4.out (by simp)) rfl Try.sizeFaultR rfl ?_; intro w5 hQ5 hg5; have HQ9 := hide hQ5; have HG5 := hide hg5; clear hQ5 hg5))
  have HR9 := hide (HR4.out.grown HG5.out (by simp))
  have hA4 := below_grownO HA3.out HG4.out (fun k hk => by cases hk; omega) HA3.out.size
  have hA5 := below_grownO hA4 HG5.out (fun k hk => by cases hk; omega) hA4.size
  have HN9 := hide ((HAN.out.offB HG4.out (by omega)).offB HG5.out (by omega))
  have HO9 := hide ((HO3.out.offB HG4.out (by omega)).offB HG5.out (by omega))
  refine bodyPost_ret (results3_ctc Try.results28 rfl rfl rfl (run_loadVar_blk HR9.out Try.underlying34 rfl Try.sizeNode) (run_loadVar_blk HQ9.out Try.underlying26 rfl Try.sizeFaultR)) rfl ?_
  rw [HE.out, HE2.out]
  exact ⟨_, _, _, _, _, rfl, HN9.out.base (by omega), HO9.out.base (by omega), hA5⟩

end Go.Proofs.Ytddkjpojbflmjah

/-
  What a node's answer is behind the call that made it, while two new blocks are laid and written. Nothing of a program stands here.
-/
namespace Go.Proofs.Ytddkjpojbflmjah
open Go.RowKit Go.Maps
set_option linter.unusedVariables false

/-- Blocks from base up to what was there stay. -/
def Mid (base : Nat) (w w' : World) : Prop := w.heap.size ≤ w'.heap.size ∧ ∀ k, base ≤ k → k < w.heap.size → w'.heap[k]? = w.heap[k]?

theorem Mid.refl (base : Nat) (w : World) : Mid base w w := ⟨Nat.le_refl _, fun _ _ _ => rfl⟩

theorem Mid.alloc {base : Nat} {w w' : World} (h : Mid base w w') (o : Obj) : Mid base w (w'.alloc o) := by
  have hb := below_allocG w' o
  exact ⟨Nat.le_trans h.1 hb.size, fun k h1 h2 => (hb.block k (Nat.lt_of_lt_of_le h2 h.1)).trans (h.2 k h1 h2)⟩

theorem Mid.grown {base B : Nat} {w w' w2 : World} (h : Mid base w w') (hg : w'.grownBy w2 (some B)) (hB : B < base ∨ w.heap.size ≤ B) : Mid base w w2 :=
  ⟨Nat.le_trans h.1 hg.size, fun k h1 h2 => (hg.block k (Nat.lt_of_lt_of_le h2 h.1) (fun q => by cases q; omega)).trans (h.2 k h1 h2)⟩

theorem RdG.mid {α : Type} {K : Nat} {E : En α K} {w w' : World} {base : Nat} {v : Value} {xs : List α} (h : RdG E w v xs) (hn : New base v) (hk : Mid base w w') : RdG E w' v xs := by
  obtain ⟨ao, cap, hv, h1, h2, h3, h4⟩ := h
  refine ⟨ao, cap, hv, h1, h2, h3, fun a ha j u hu => ?_⟩
  have hc := h4 a ha j u hu
  have hlt := World.block_lt_of_cell? w _ hc
  have e : (a.add j).block = a.block := by unfold Addr.add; split <;> rfl
  have hb := hn a _ _ (by rw [hv, ha])
  rw [← hc]
  exact World.cell?_of_block (hk.2 _ (by rw [e]; exact hb) hlt)

theorem AnsN.mid {w w' : World} {base : Nat} {x : Nd} {lv vv nv hv : Value} (h : AnsN w base x lv vv nv hv) (hk : Mid base w w') : RdNd w' x lv vv nv hv :=
  ⟨h.rd.log.mid h.n1 hk, h.rd.votes.mid h.n2 hk, h.rd.next.mid h.n3 hk, h.rd.hav.mid h.n4 hk⟩

theorem AnsN.midA {w w' : World} {base b2 : Nat} {x : Nd} {lv vv nv hv : Value} (h : AnsN w base x lv vv nv hv) (hk : Mid base w w') (hb : b2 ≤ base) : AnsN w' b2 x lv vv nv hv :=
  ⟨h.mid hk, h.n1.mono hb, h.n2.mono hb, h.n3.mono hb, h.n4.mono hb⟩

theorem OwM.mid {w w' : World} {base : Nat} {v : Value} {ms : List Ml} (h : OwM w base v ms) (hk : Mid base w w') : RdM w' v ms := by
  obtain ⟨fs, h1, h2, h3⟩ := h
  exact ⟨fs, (RdG.ofOwns h1).mid (New.owns h1) hk, h2, fun f hf => (RdG.ofOwns (h3 f hf)).mid (New.owns (h3 f hf)) hk⟩

/-- What is wanted behind: the two blocks, the node's and the mails' rows, what was there. -/
structure R10 (wr : World) (b1 b2 : Nat) (t1 t2 : TypeId) (xs ys : Array Value) (Y : Nd) (lv vv nv hv mv : Value) (SM : List Ml) (fin : World) : Prop where
  g1 : Blk fin b1 t1 xs
  g2 : Blk fin b2 t2 ys
  g5 : AnsN fin wr.heap.size Y lv vv nv hv
  g6 : RdM fin mv SM
  g4 : Below wr.heap.size wr fin
  le : wr.heap.size ≤ b1

section
variable {w5 wr : World} {base b1 b2 : Nat} {t1 t2 : TypeId} {xs ys : Array Value} {Y : Nd} {lv vv nv hv mv : Value} {SM : List Ml}

theorem r10_both {vs us : List Value} (hN : Blk w5 b1 t1 xs) (hF : Blk w5 b2 t2 ys) (hv1 : vs.length = xs.size) (hu : us.length = ys.size) (hne : b1 ≠ b2) (hA : AnsN w5 base Y lv vv nv hv) (hO : OwM w5 base mv SM) (hb : Below wr.heap.size wr w5) (h1 : wr.heap.size ≤ b1) (h2 : wr.heap.size ≤ b2) (k1 : b1 < base) (k2 : b2 < base) :
    R10 wr b1 b2 t1 t2 vs.toArray us.toArray Y lv vv nv hv mv SM (setL (setL w5 b1 0 vs) b2 0 us) := by
  have g1 := setL_grown b1 vs w5 0
  have g2 := setL_grown b2 us (setL w5 b1 0 vs) 0
  have n1 := setL_blk vs w5 0 xs hN (by omega)
  have n2 := setL_blk us (setL w5 b1 0 vs) 0 ys (hF.grown g1 (by simp; omega)) (by omega)
  simp only [List.take_zero, List.nil_append] at n1 n2
  have m : Mid base w5 (setL (setL w5 b1 0 vs) b2 0 us) := ((Mid.refl base w5).grown g1 (.inl k1)).grown g2 (.inl k2)
  have e1 := below_grownO hb g1 (fun k hk => by cases hk; exact h1) hb.size
  exact ⟨n1.grown g2 (by simp; omega), n2, hA.midA m (by omega), hO.mid m, below_grownO e1 g2 (fun k hk => by cases hk; exact h2) e1.size, h1⟩

theorem setL_size (B : Nat) : ∀ (vs : List Value) (w : World) (k : Nat), (setL w B k vs).heap.size = w.heap.size
  | [], w, k => rfl
  | v :: vs, w, k => by rw [setL, setL_size B vs]; simp

theorem r10_oneN {vs : List Value} (hN : Blk w5 b1 t1 xs) (hv1 : vs.length = xs.size) (hA : AnsN w5 base Y lv vv nv hv) (hO : OwM w5 base mv SM) (hb : Below wr.heap.size wr w5) (h1 : wr.heap.size ≤ b1) (k1 : b1 < base) :
    R10 wr b1 w5.heap.size t1 t2 vs.toArray ys Y lv vv nv hv mv SM ((setL w5 b1 0 vs).alloc (.cells ys t2)) := by
  have g1 := setL_grown b1 vs w5 0
  have n1 := setL_blk vs w5 0 xs hN (by omega)
  simp only [List.take_zero, List.nil_append] at n1
  have n2 := Blk.new (setL w5 b1 0 vs) t2 ys
  rw [setL_size] at n2
  have m : Mid base w5 ((setL w5 b1 0 vs).alloc (.cells ys t2)) := ((Mid.refl base w5).grown g1 (.inl k1)).alloc _
  have e1 := below_grownO hb g1 (fun k hk => by cases hk; exact h1) hb.size
  exact ⟨n1.later (below_allocG _ _), n2, hA.midA m (by omega), hO.mid m, e1.trans ((below_allocG _ _).mono e1.size), h1⟩

theorem r10_oneF {us : List Value} (hF : Blk w5 b2 t2 ys) (hu : us.length = ys.size) (hA : AnsN w5 base Y lv vv nv hv) (hO : OwM w5 base mv SM) (hb : Below wr.heap.size wr w5) (h2 : wr.heap.size ≤ b2) (k2 : b2 < base) :
    R10 wr w5.heap.size b2 t1 t2 xs us.toArray Y lv vv nv hv mv SM ((setL w5 b2 0 us).alloc (.cells xs t1)) := by
  have g1 := setL_grown b2 us w5 0
  have n1 := setL_blk us w5 0 ys hF (by omega)
  simp only [List.take_zero, List.nil_append] at n1
  have n2 := Blk.new (setL w5 b2 0 us) t1 xs
  rw [setL_size] at n2
  have m : Mid base w5 ((setL w5 b2 0 us).alloc (.cells xs t1)) := ((Mid.refl base w5).grown g1 (.inl k2)).alloc _
  have e1 := below_grownO hb g1 (fun k hk => by cases hk; exact h2) hb.size
  exact ⟨n2, n1.later (below_allocG _ _), hA.midA m (by omega), hO.mid m, e1.trans ((below_allocG _ _).mono e1.size), hb.size⟩

theorem r10_noneNF (hA : AnsN w5 base Y lv vv nv hv) (hO : OwM w5 base mv SM) (hb : Below wr.heap.size wr w5) (hs : wr.heap.size ≤ base) :
    R10 wr w5.heap.size (w5.heap.size + 1) t1 t2 xs ys Y lv vv nv hv mv SM ((w5.alloc (.cells xs t1)).alloc (.cells ys t2)) := by
  have m : Mid base w5 ((w5.alloc (.cells xs t1)).alloc (.cells ys t2)) := ((Mid.refl base w5).alloc _).alloc _
  exact ⟨Blk.at0of2 w5 _ _ _, Blk.at1 w5 _ _ _, hA.midA m hs, hO.mid m, hb.trans ((below_alloc2 w5 _ _).mono hb.size), hb.size⟩

theorem r10_noneFN (hA : AnsN w5 base Y lv vv nv hv) (hO : OwM w5 base mv SM) (hb : Below wr.heap.size wr w5) (hs : wr.heap.size ≤ base) :
    R10 wr (w5.heap.size + 1) w5.heap.size t1 t2 xs ys Y lv vv nv hv mv SM ((w5.alloc (.cells ys t2)).alloc (.cells xs t1)) := by
  have m : Mid base w5 ((w5.alloc (.cells ys t2)).alloc (.cells xs t1)) := ((Mid.refl base w5).alloc _).alloc _
  have := hb.size
  exact ⟨Blk.at1 w5 _ _ _, Blk.at0of2 w5 _ _ _, hA.midA m hs, hO.mid m, hb.trans ((below_alloc2 w5 _ _).mono hb.size), by omega⟩

end

end Go.Proofs.Ytddkjpojbflmjah

/-
  Plain maths: a node that takes a mail stays one that may be. Nothing of a program stands here.
-/
namespace Go.Proofs.Ytddkjpojbflmjah
open Go.RowKit
set_option linter.unusedVariables false

theorem votes_nil {x : Nd} (hr : x.role ≠ 1) (hv : x.votes = []) : votesB x = true := by
  unfold votesB
  rw [if_neg hr, hv]
  rfl

theorem known_nil {x : Nd} (hr : x.role ≠ 2) (h1 : x.next = []) (h2 : x.hav = []) : knownB x = true := by
  unfold knownB ofB
  rw [if_neg hr, if_neg hr, h1, h2]
  rfl

/-- One that follows. -/
theorem FineN.follow {x : Nd} (h : FineN x) : FineN x.follow :=
  ⟨h.n1, h.n7, h.id0, h.idn, h.t0, h.t1, h.v0, h.vn, by simp [Nd.follow], by simp [Nd.follow], h.c0, h.cl, h.log, h.lt, votes_nil (by simp [Nd.follow]) rfl, known_nil (by simp [Nd.follow]) rfl rfl⟩

theorem FineN.hear {x : Nd} (h : FineN x) {t : Int} (h2 : t ≤ 1000000000) : FineN (x.hear t) := by
  unfold Nd.hear
  split
  · rename_i ht
    have f := h.follow
    have := h.t0
    have := h.lt
    have := h.n1
    exact ⟨f.n1, f.n7, f.id0, f.idn, by simp only; omega, h2, by simp only; omega, by simp only; show (0 : Int) ≤ x.n; omega, f.r0, f.r2, f.c0, f.cl, f.log, by simp only; show lastT x.log ≤ t; omega, f.vo, f.kn⟩
  · exact h

theorem hear_term {x : Nd} {t : Int} : t ≤ (x.hear t).term ∧ x.term ≤ (x.hear t).term ∧ ((x.hear t).term = x.term → x.hear t = x) := by
  unfold Nd.hear
  split
  · simp only
    refine ⟨Int.le_refl _, by omega, fun h => by omega⟩
  · exact ⟨by omega, Int.le_refl _, fun _ => rfl⟩

theorem coGo_ge (x : Nd) : ∀ k, x.com ≤ coGo x k
  | 0 => Int.le_refl _
  | k + 1 => by
    unfold coGo
    split
    · exact Int.le_refl _
    split
    · omega
    · exact coGo_ge x k

theorem coGo_top (x : Nd) : ∀ k : Nat, coGo x k ≤ max x.com k
  | 0 => by unfold coGo; omega
  | k + 1 => by
    unfold coGo
    split
    · omega
    split
    · omega
    · have := coGo_top x k
      omega

theorem FineN.count {x : Nd} (h : FineN x) : FineN x.count := by
  have h1 := coGo_ge x x.log.length
  have h2 := coGo_top x x.log.length
  have := h.c0
  have := h.cl
  exact ⟨h.n1, h.n7, h.id0, h.idn, h.t0, h.t1, h.v0, h.vn, h.r0, h.r2, by show 0 ≤ coGo x x.log.length; omega, by show coGo x x.log.length ≤ x.log.length; omega, h.log, h.lt, h.vo, h.kn⟩

theorem any_none {l : List Int} {a b : Int} (h : ∀ v ∈ l, a ≤ v ∧ v ≤ b) : (l.any fun v => !wiB v a b) = false := by
  rw [List.any_eq_false]
  intro v hv
  rw [wiB_true.2 (h v hv)]
  simp

theorem known_lead {x : Nd} (hr : x.role = 2) (h1 : (x.next.length : Int) = x.n) (h2 : (x.hav.length : Int) = x.n) (h3 : ∀ u ∈ x.next, 1 ≤ u ∧ u ≤ x.log.length + 1) (h4 : ∀ u ∈ x.hav, 0 ≤ u ∧ u ≤ x.log.length) : knownB x = true := by
  unfold knownB ofB
  rw [if_pos hr, if_pos hr, any_none h3, any_none h4]
  simp [h1, h2]

theorem lead_known {x : Nd} (h : FineN x) (hr : x.role = 2) : (x.next.length : Int) = x.n ∧ (x.hav.length : Int) = x.n ∧ (∀ u ∈ x.next, 1 ≤ u ∧ u ≤ x.log.length + 1) ∧ (∀ u ∈ x.hav, 0 ≤ u ∧ u ≤ x.log.length) ∧ x.votes = [] := by
  have h1 := h.kn
  have h2 := h.vo
  unfold knownB ofB at h1
  unfold votesB at h2
  rw [if_pos hr, if_pos hr] at h1
  rw [if_neg (by omega)] at h2
  simp only [Bool.and_eq_true, decide_eq_true_eq, Bool.not_eq_true', List.any_eq_false, Bool.not_eq_false, wiB_true] at h1 h2
  obtain ⟨⟨a1, a2⟩, a3, a4⟩ := h1
  exact ⟨a1, a3, a2, a4, List.eq_nil_of_length_eq_zero h2⟩

theorem mem_setI {l : List Int} {k : Nat} {a u : Int} (h : u ∈ l.set k a) : u ∈ l ∨ u = a := List.mem_or_eq_of_mem_set h

theorem FineN.lead0 {x : Nd} (h : FineN x) : FineN x.lead0 := by
  have := h.n1
  refine ⟨h.n1, h.n7, h.id0, h.idn, h.t0, h.t1, h.v0, h.vn, by simp [Nd.lead0], by simp [Nd.lead0], h.c0, h.cl, h.log, h.lt, votes_nil (by simp [Nd.lead0]) rfl, known_lead rfl ?_ ?_ ?_ ?_⟩
  · show ((List.replicate x.n.toNat ((x.log.length : Int) + 1)).length : Int) = x.n
    rw [List.length_replicate]; omega
  · show (((List.replicate x.n.toNat (0 : Int)).set x.id.toNat x.log.length).length : Int) = x.n
    rw [List.length_set, List.length_replicate]; omega
  · intro u hu
    have : u = (x.log.length : Int) + 1 := List.eq_of_mem_replicate hu
    show 1 ≤ u ∧ u ≤ (x.log.length : Int) + 1
    omega
  · intro u hu
    show 0 ≤ u ∧ u ≤ (x.log.length : Int)
    rcases mem_setI hu with q | q
    · have := List.eq_of_mem_replicate q; omega
    · omega

theorem FineN.lead {x : Nd} (h : FineN x) : FineN x.lead := h.lead0.count

theorem voGo_snoc {n who : Int} : ∀ (l s : List Int), voGo n s l = true → 0 ≤ who → who < n → ¬ who ∈ s → ¬ who ∈ l → voGo n s (l ++ [who]) = true
  | [], s, _, h0, h1, hs, _ => by
    simp only [List.nil_append, voGo, Bool.and_true, Bool.and_eq_true, wiB_true, Bool.not_eq_true', decide_eq_false_iff_not]
    exact ⟨⟨h0, by omega⟩, hs⟩
  | v :: l, s, h, h0, h1, hs, hl => by
    simp only [voGo, Bool.and_eq_true, List.cons_append] at h ⊢
    refine ⟨h.1, voGo_snoc l (s ++ [v]) h.2 h0 h1 ?_ (fun q => hl (List.mem_cons_of_mem _ q))⟩
    intro q
    rcases List.mem_append.1 q with q | q
    · exact hs q
    · exact hl (by rw [List.mem_singleton.1 q]; exact List.mem_cons_self)

theorem FineN.elect {x : Nd} (h : FineN x) (hr : x.role = 1) {who : Int} (h0 : 0 ≤ who) (h1 : who < x.n) : FineN (x.elect who) := by
  have hvo := h.vo
  unfold votesB at hvo
  rw [if_pos hr] at hvo
  simp only [Bool.and_eq_true, decide_eq_true_eq, Bool.not_eq_true'] at hvo
  obtain ⟨v1, v2, v3⟩ := hvo
  have p1 : voGo x.n [] (putV x.votes who) = true := by
    unfold putV
    split
    · exact v1
    · exact voGo_snoc _ _ v1 h0 h1 (by simp) (by assumption)
  have p2 : x.id ∈ putV x.votes who := by
    unfold putV
    split
    · exact v2
    · exact List.mem_append_left _ v2
  unfold Nd.elect
  split
  · have f : FineN { x.voted who with role := 0, votes := [], next := [], hav := [] } := ⟨h.n1, h.n7, h.id0, h.idn, h.t0, h.t1, h.v0, h.vn, by simp, by simp, h.c0, h.cl, h.log, h.lt, votes_nil (by simp) rfl, known_nil (by simp) rfl rfl⟩
    exact f.lead
  · rename_i q
    refine ⟨h.n1, h.n7, h.id0, h.idn, h.t0, h.t1, h.v0, h.vn, h.r0, h.r2, h.c0, h.cl, h.log, h.lt, ?_, ?_⟩
    · unfold votesB
      rw [if_pos (show (x.voted who).role = 1 from hr)]
      simp only [Bool.and_eq_true, decide_eq_true_eq, Bool.not_eq_true']
      exact ⟨p1, p2, show mostB (putV x.votes who).length x.n = false from Bool.eq_false_iff.2 q⟩
    · have hk := h.kn
      unfold knownB ofB at hk ⊢
      exact hk

theorem elect_com {x : Nd} {who : Int} : x.com ≤ (x.elect who).com ∧ (x.elect who).log = x.log ∧ (x.elect who).term = x.term ∧ (x.elect who).vote = x.vote ∧ (x.elect who).n = x.n ∧ (x.elect who).id = x.id := by
  unfold Nd.elect
  split
  · exact ⟨coGo_ge (x.voted who).lead0 _, rfl, rfl, rfl, rfl, rfl⟩
  · exact ⟨Int.le_refl _, rfl, rfl, rfl, rfl, rfl⟩

/-- What stays of a node. -/
structure Stay (x y : Nd) : Prop where
  fine : FineN y
  n : y.n = x.n
  id : y.id = x.id
  term : x.term ≤ y.term
  vote : y.term = x.term → x.vote ≠ 0 → y.vote = x.vote
  com : x.com ≤ y.com
  log : y.log.take x.com.toNat = x.log.take x.com.toNat

theorem Stay.refl {x : Nd} (h : FineN x) : Stay x x := ⟨h, rfl, rfl, Int.le_refl _, fun _ _ => rfl, Int.le_refl _, rfl⟩

theorem Stay.hear {x y : Nd} {t : Int} (h : Stay (x.hear t) y) (hx : FineN x) : Stay x y := by
  obtain ⟨a1, a2, a3⟩ := hear_term (x := x) (t := t)
  have e1 : (x.hear t).n = x.n ∧ (x.hear t).id = x.id ∧ (x.hear t).com = x.com ∧ (x.hear t).log = x.log := by
    unfold Nd.hear; split <;> exact ⟨rfl, rfl, rfl, rfl⟩
  obtain ⟨b1, b2, b3, b4⟩ := e1
  refine ⟨h.fine, h.n.trans b1, h.id.trans b2, Int.le_trans a2 h.term, fun q hv => ?_, by rw [← b3]; exact h.com, ?_⟩
  · have h5 := h.term
    have : x.hear t = x := a3 (by omega)
    have h6 := h.vote
    rw [this] at h6
    exact h6 q hv
  · have := h.log
    rw [b3, b4] at this
    exact this

end Go.Proofs.Ytddkjpojbflmjah

/-
  Plain maths: what stays of a node that takes a mail, and what it sends. Nothing of a program stands here.
-/
namespace Go.Proofs.Ytddkjpojbflmjah
open Go.RowKit
set_option linter.unusedVariables false

theorem t1_stay {x : Nd} {m : Ml} (h : FineN x) (h0 : 0 ≤ m.frm) (h1 : m.frm < x.n) : Stay x (t1N x m) := by
  unfold t1N
  split
  · rename_i hg
    unfold giveB at hg
    simp only [Bool.and_eq_true, Bool.or_eq_true, decide_eq_true_eq] at hg
    refine ⟨⟨h.n1, h.n7, h.id0, h.idn, h.t0, h.t1, by simp only; omega, by simp only; omega, h.r0, h.r2, h.c0, h.cl, h.log, h.lt, ?_, ?_⟩, rfl, rfl, Int.le_refl _, fun _ hv => ?_, Int.le_refl _, rfl⟩
    · have := h.vo
      unfold votesB at this ⊢
      exact this
    · have := h.kn
      unfold knownB ofB at this ⊢
      exact this
    · rcases hg.2.1 with q | q
      · exact absurd q hv
      · exact q.symm
  · exact Stay.refl h

theorem t2_stay {x : Nd} {m : Ml} (h : FineN x) (h0 : 0 ≤ m.frm) (h1 : m.frm < x.n) : Stay x (t2N x m) := by
  unfold t2N
  split
  · exact Stay.refl h
  · rename_i q
    have hr : x.role = 1 := Decidable.not_not.1 (fun p => q (.inl p))
    obtain ⟨e1, e2, e3, e4, e5, e6⟩ := elect_com (x := x) (who := m.frm)
    exact ⟨h.elect hr h0 h1, e5, e6, by rw [e3]; exact Int.le_refl _, fun _ _ => e4, e1, by rw [e2]⟩

theorem lastT_append {a b : List Et} (h : b ≠ []) : lastT (a ++ b) = lastT b := by
  unfold lastT
  rw [List.getLast?_append]
  cases hb : b.getLast? with
  | none => exact absurd (List.getLast?_eq_none_iff.1 hb) h
  | some e => simp

theorem putGo_last : ∀ (m l : List Et) (k : Nat), lastT (putGo l k m) = lastT l ∨ (m ≠ [] ∧ lastT (putGo l k m) = lastT m)
  | [], l, k => .inl rfl
  | e :: m, l, k => by
    unfold putGo
    split
    · rcases putGo_last m l (k + 1) with q | ⟨q1, q2⟩
      · exact .inl q
      · refine .inr ⟨by simp, q2.trans ?_⟩
        exact (lastT_append (a := [e]) q1).symm
    · exact .inr ⟨by simp, lastT_append (by simp)⟩

theorem FineM.lastE {x : Nd} {m : Ml} (h : FineM x m) : lastT m.ents ≤ m.term := by
  have h1 := h.br
  have := h.t1
  unfold brgB at h1
  by_cases h0 : m.ents.length = 0
  · rw [List.eq_nil_of_length_eq_zero h0]
    show (0 : Int) ≤ _
    omega
  · rw [if_neg h0] at h1
    simp only [Bool.and_eq_true, decide_eq_true_eq] at h1
    exact h1.2.2.2

theorem follow_stay {x : Nd} (h : FineN x) : Stay x x.follow := ⟨h.follow, rfl, rfl, Int.le_refl _, fun _ _ => rfl, Int.le_refl _, rfl⟩

theorem t3_stay {x : Nd} {m : Ml} (h : FineN x) (ha : 0 ≤ m.a) (hc : 0 ≤ m.c) (hl : lastT m.ents ≤ m.term) (hy : m.term ≤ x.term) : Stay x (t3N x m) := by
  unfold t3N
  cases hk : t3K x m with
  | old => exact Stay.refl h
  | leads => exact Stay.refl h
  | none => exact follow_stay h
  | no => exact follow_stay h
  | yes =>
    simp only
    unfold t3K at hk
    by_cases k1 : m.term < x.term
    · rw [if_pos k1] at hk; cases hk
    rw [if_neg k1] at hk
    by_cases k2 : x.role = 2
    · rw [if_pos k2] at hk; cases hk
    rw [if_neg k2] at hk
    by_cases k3 : (putX x.log m.a m.b m.ents).1 ≠ 0
    · rw [if_pos k3] at hk; cases hk
    rw [if_neg k3] at hk
    by_cases k4 : begB (putL x.log m.a m.b m.ents) (x.log.take x.com.toNat) = false
    · rw [if_pos k4] at hk; cases hk
    rw [if_neg k4] at hk
    by_cases k5 : putI x.log m.a m.b m.ents = false
    · rw [if_pos k5] at hk; cases hk
    have k5' : putI x.log m.a m.b m.ents = true := by simpa using k5
    have k4' : begB (putL x.log m.a m.b m.ents) (x.log.take x.com.toNat) = true := by simpa using k4
    unfold putI at k5'
    by_cases g1 : (ptF x.log m.a m.b m.ents).1 ≠ 0
    · rw [if_pos g1] at k5'; cases k5'
    rw [if_neg g1] at k5'
    by_cases g2 : hasE x.log m.a.toNat m.b = false
    · rw [if_pos g2] at k5'; cases k5'
    rw [if_neg g2] at k5'
    by_cases g3 : (outF (putGo x.log m.a.toNat m.ents)).1 ≠ 0
    · rw [if_pos g3] at k5'; cases k5'
    have eL : putL x.log m.a m.b m.ents = putGo x.log m.a.toNat m.ents := by
      unfold putL
      rw [if_neg g1, if_neg g2, if_neg g3]
    rw [eL] at k4' ⊢
    have hle := hasE_le (show hasE x.log m.a.toNat m.b = true by simpa using g2)
    have hge := putGo_ge (m := m.ents) hle
    have hout : (chkE (putGo x.log m.a.toNat m.ents)).1 = 0 := by
      have g3' := Decidable.not_not.1 g3
      unfold outF at g3'
      by_cases g4 : (chkE (putGo x.log m.a.toNat m.ents)).1 = 0 ∨ (chkE (putGo x.log m.a.toNat m.ents)).1 = 2
      · rw [if_pos g4] at g3'; exact g3'
      · rw [if_neg g4] at g3'; simp at g3'
    have hc0 := h.c0
    have hcl := h.cl
    unfold begB at k4'
    simp only [Bool.and_eq_true, decide_eq_true_eq, List.length_take] at k4'
    obtain ⟨b1, b2⟩ := k4'
    rw [Nat.min_eq_left (by omega)] at b1 b2
    have f := h.follow
    refine ⟨⟨f.n1, f.n7, f.id0, f.idn, f.t0, f.t1, f.v0, f.vn, f.r0, f.r2, ?_, ?_, hout, ?_, f.vo, ?_⟩, rfl, rfl, Int.le_refl _, fun _ _ => rfl, ?_, b2⟩
    · show 0 ≤ max x.com (min m.c (m.a + m.ents.length)); omega
    · show max x.com (min m.c (m.a + m.ents.length)) ≤ ((putGo x.log m.a.toNat m.ents).length : Int); omega
    · show lastT (putGo x.log m.a.toNat m.ents) ≤ x.term
      have := h.lt
      rcases putGo_last m.ents x.log m.a.toNat with q | ⟨_, q⟩
      · omega
      · omega
    · exact known_nil (by simp [Nd.follow]) rfl rfl
    · show x.com ≤ max x.com (min m.c (m.a + m.ents.length)); omega

theorem gI_mem {l : List Int} {k : Int} (h0 : 0 ≤ k) (h1 : k < (l.length : Int)) : gI l k ∈ l := by
  unfold gI
  have : k.toNat < l.length := by omega
  rw [List.getElem?_eq_getElem this]
  exact List.getElem_mem this

theorem t4_stay {x : Nd} {m : Ml} (h : FineN x) (h0 : 0 ≤ m.frm) (h1 : m.frm < x.n) (ha : 0 ≤ m.a) : Stay x (t4N x m) := by
  unfold t4N
  split
  · exact Stay.refl h
  rename_i q
  have hr : x.role = 2 := Decidable.not_not.1 (fun p => q (.inl p))
  obtain ⟨k1, k2, k3, k4, k5⟩ := lead_known h hr
  have b1 := k4 _ (gI_mem (k := m.frm) h0 (by omega))
  have b2 := k3 _ (gI_mem (k := m.frm) h0 (by omega))
  split
  · refine ⟨⟨h.n1, h.n7, h.id0, h.idn, h.t0, h.t1, h.v0, h.vn, h.r0, h.r2, h.c0, h.cl, h.log, h.lt, ?_, known_lead hr ?_ k2 ?_ k4⟩, rfl, rfl, Int.le_refl _, fun _ _ => rfl, Int.le_refl _, rfl⟩
    · have := h.vo
      unfold votesB at this ⊢
      exact this
    · simp only [List.length_set]; exact k1
    · intro u hu
      rcases mem_setI hu with p | p
      · exact k3 u p
      · simp only; omega
  · have f : FineN { x with hav := x.hav.set m.frm.toNat (max (gI x.hav m.frm) (min m.a x.log.length)), next := x.next.set m.frm.toNat (max (gI x.hav m.frm) (min m.a x.log.length) + 1) } := by
      refine ⟨h.n1, h.n7, h.id0, h.idn, h.t0, h.t1, h.v0, h.vn, h.r0, h.r2, h.c0, h.cl, h.log, h.lt, ?_, known_lead hr ?_ ?_ ?_ ?_⟩
      · have := h.vo
        unfold votesB at this ⊢
        exact this
      · simp only [List.length_set]; exact k1
      · simp only [List.length_set]; exact k2
      · intro u hu
        rcases mem_setI hu with p | p
        · exact k3 u p
        · simp only; omega
      · intro u hu
        rcases mem_setI hu with p | p
        · exact k4 u p
        · simp only; omega
    exact ⟨f.count, rfl, rfl, Int.le_refl _, fun _ _ => rfl, coGo_ge _ _, rfl⟩

theorem take_stay {x : Nd} {m : Ml} (h : FineN x) (hm : FineM x m) : Stay x (x.take m) := by
  have hY := h.hear hm.t2
  obtain ⟨e1, e2, e3, e4, e5, e6⟩ := hear_fix x m.term
  have h1 : m.frm < (x.hear m.term).n := by rw [e1]; exact hm.fn
  refine Stay.hear (t := m.term) ?_ h
  unfold Nd.take
  split
  · exact t1_stay hY hm.f0 h1
  split
  · exact t2_stay hY hm.f0 h1
  split
  · exact t3_stay hY hm.a0 hm.c0 hm.lastE hear_term.1
  · exact t4_stay hY hm.f0 h1 hm.a0

theorem take_term (x : Nd) (m : Ml) : (x.take m).term = (x.hear m.term).term := by
  unfold Nd.take
  split
  · unfold t1N; split <;> rfl
  split
  · unfold t2N; split
    · rfl
    · exact elect_com.2.2.1
  split
  · unfold t3N; split <;> rfl
  · unfold t4N; split
    · rfl
    split <;> rfl

theorem othGo_mem {id : Int} {f : Nat → Ml} {s : Ml} : ∀ {k : Nat}, s ∈ othGo id f k → ∃ j, j < k ∧ (j : Int) ≠ id ∧ s = f j
  | 0, h => by cases h
  | k + 1, h => by
    unfold othGo at h
    rcases List.mem_append.1 h with h | h
    · obtain ⟨j, h1, h2, h3⟩ := othGo_mem h
      exact ⟨j, by omega, h2, h3⟩
    · split at h
      · cases h
      · rename_i q
        exact ⟨k, by omega, q, List.mem_singleton.1 h⟩

/-- What a mail that is sent keeps to. -/
structure SentM (x y : Nd) (s : Ml) : Prop where
  frm : s.frm = x.id
  to1 : s.to_ ≠ x.id
  to2 : 0 ≤ s.to_
  to3 : s.to_ < x.n
  term : s.term = y.term

theorem ansM_sent {x y Y : Nd} {m s : Ml} {k : Int} {ok : Bool} {a : Int} (hm : FineM x m) (hi : Y.id = x.id) (ht : y.term = Y.term) (h : s ∈ ansM Y m k ok a) : SentM x y s := by
  have := List.mem_singleton.1 h
  subst this
  exact ⟨hi, hm.fi, hm.f0, hm.fn, ht.symm⟩

theorem take_sends {x : Nd} {m s : Ml} (h : FineN x) (hm : FineM x m) (hs : s ∈ x.sends m) : SentM x (x.take m) s := by
  have ht := take_term x m
  obtain ⟨e1, e2, e3, e4, e5, e6⟩ := hear_fix x m.term
  unfold Nd.sends at hs
  split at hs
  · exact ansM_sent hm e2 ht hs
  split at hs
  · unfold t2M at hs
    split at hs
    · cases hs
    split at hs
    · obtain ⟨j, h1, h2, rfl⟩ := othGo_mem hs
      obtain ⟨g1, g2, g3, g4, g5, g6⟩ := elect_com (x := x.hear m.term) (who := m.frm)
      have hn1 := h.n1
      refine ⟨g6.trans e2, by rw [← e2, ← g6]; exact h2, Int.natCast_nonneg _, ?_, ?_⟩
      · show (j : Int) < x.n
        rw [g5, e1] at h1
        omega
      · show ((x.hear m.term).elect m.frm).term = _
        rw [ht, g3]
    · cases hs
  split at hs
  · unfold t3M at hs
    split at hs
    · exact ansM_sent hm e2 ht hs
    · cases hs
    · cases hs
    · exact ansM_sent hm e2 ht hs
    · exact ansM_sent hm e2 ht hs
  · cases hs

end Go.Proofs.Ytddkjpojbflmjah

/-
  The walks beneath the laws of logs: the example, vastLog.
-/
namespace Go.Proofs.Ytddkjpojbflmjah
open Go.RowKit
set_option linter.unusedVariables false

def vastE (n : Nat) : Bool := decide (300 < n)

set_option maxRecDepth 100000 in
theorem vastLog_any (ao : Option Addr) (n cap : Nat) (w : World) : Calls Try.prog 8 #[.slice ao n cap] w fun e w' => e = .returned (.bool (vastE n)) ∧ w' = w := by
  go_enter Try.func8, Try.ntmps8
  go_wp2_with fail
  go_ret
  exact ⟨by unfold vastE; first | rfl | (simp; done) | (simp; omega), rfl⟩

def exL : List Et := [⟨1, ⟨#[97]⟩⟩, ⟨1, ⟨#[98]⟩⟩]
def exM : List Et := [⟨2, ⟨#[99]⟩⟩]
def exP : List Et := [⟨1, ⟨#[97]⟩⟩, ⟨2, ⟨#[99]⟩⟩]

theorem ex_x : putX exL 1 1 exM = (0, 0) := by decide +kernel
theorem ex_i : putI exL 1 1 exM = true := by decide +kernel
theorem ex_l : putL exL 1 1 exM = exP := by kernel_rfl

set_option maxRecDepth 100000 in
set_option maxHeartbeats 1000000 in
theorem entryBegun_any (w : World) : Calls Try.prog 7 #[] w fun e w' => e = .returned (.bool true) ∧ Below w.heap.size w w' := by
  have hA : RdG eE (w.alloc (.cells #[.int .i64 1, .string ⟨#[97]⟩, .int .i64 1, .string ⟨#[98]⟩] 59)) (.slice (some ⟨w.heap.size, 0, none⟩) 2 2) exL := RdG.newL (E := eE) w exL _ _ rfl (by simp [exL])
  have hB : RdG eE ((w.alloc (.cells #[.int .i64 1, .string ⟨#[97]⟩, .int .i64 1, .string ⟨#[98]⟩] 59)).alloc (.cells #[.int .i64 2, .string ⟨#[99]⟩] 59)) (.slice (some ⟨w.heap.size + 1, 0, none⟩) 1 1) exM := by
    have := RdG.newL (E := eE) (w.alloc (.cells #[.int .i64 1, .string ⟨#[97]⟩, .int .i64 1, .string ⟨#[98]⟩] 59)) exM 59 #[.int .i64 2, .string ⟨#[99]⟩] rfl (by simp [exM])
    rw [show exM.length = 1 from rfl] at this
    simpa using this
  have hp := Put_any _ _ exL exM 1 1 _ (hA.alloc (.cells #[.int .i64 2, .string ⟨#[99]⟩] 59)) hB
  rw [ex_x, ex_i, ex_l] at hp
  have HP := hide hp
  have HW := hide (below_alloc2 w (.cells #[.int .i64 1, .string ⟨#[97]⟩, .int .i64 1, .string ⟨#[98]⟩] 59) (.cells #[.int .i64 2, .string ⟨#[99]⟩] 59))
  clear hp hA hB
  go_enter Try.func7, Try.ntmps7
  go_wp2_with fail
  refine HP.out.mono ?_
  rintro e w1 ⟨v1, rfl, hr1, hb1⟩
  have hbw1 : Below w.heap.size w w1 := HW.out.trans (hb1.mono HW.out.size)
  have hs1 := hbw1.size
  obtain ⟨vo, vc, hvo, _, _⟩ := hr1.shape
  subst hvo
  have hW : Below w1.heap.size w1 ((w1.alloc (.cells #[.int .i64 0, .int .i64 0] 26)).alloc (.cells #[.int .i64 1, .string ⟨#[97]⟩, .int .i64 2, .string ⟨#[99]⟩] 59)) := below_alloc2 _ _ _
  have hO : RdG eE ((w1.alloc (.cells #[.int .i64 0, .int .i64 0] 26)).alloc (.cells #[.int .i64 1, .string ⟨#[97]⟩, .int .i64 2, .string ⟨#[99]⟩] 59)) (.slice (some ⟨w1.heap.size + 1, 0, none⟩) 2 2) exP := by
    have := RdG.newL (E := eE) (w1.alloc (.cells #[.int .i64 0, .int .i64 0] 26)) exP 59 #[.int .i64 1, .string ⟨#[97]⟩, .int .i64 2, .string ⟨#[99]⟩] rfl (by simp [exP])
    rw [show exP.length = 2 from rfl] at this
    simpa using this
  have HSM := hide (SameLog_any _ _ _ _ (hr1.below hW) hO)
  have HW2 := hide hW
  clear hW hO hr1
  unfold flt
  go_wp2_with fail
  refine HSM.out.mono ?_
  rintro e w2 ⟨rfl, hb2⟩
  have hb12 : Below w1.heap.size w1 w2 := HW2.out.trans (hb2.mono HW2.out.size)
  have hbw2 := hbw1.trans (hb12.mono hs1)
  go_wp2_with fail
  go_ret
  exact ⟨rfl, hbw2⟩

end Go.Proofs.Ytddkjpojbflmjah
