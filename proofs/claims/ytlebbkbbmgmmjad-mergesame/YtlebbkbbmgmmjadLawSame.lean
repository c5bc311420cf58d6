/-
  The walk over the law MergeSame.
-/
import Derived.Test.YtlebbkbbmgmmjadLawGroups
import Derived.Test.YtlebbkbbmgmmjadSameMath2
namespace Go.Proofs.Ytlebbkbbmgmmjad
open Go.RowKit

theorem Pcs.append {w : World} {vs us : List Value} {ls ms : List (List Cl)} (h : Pcs w vs ls) (k : Pcs w us ms) : Pcs w (vs ++ us) (ls ++ ms) := by
  refine ⟨by simp [h.1, k.1], fun u hu => (List.mem_append.1 hu).elim (h.2.1 u) (k.2.1 u), fun i u l hu hl => ?_⟩
  by_cases hi : i < vs.length
  · rw [List.getElem?_append_left hi] at hu
    rw [List.getElem?_append_left (by rw [← h.1]; exact hi)] at hl
    exact h.2.2 i u l hu hl
  · rw [List.getElem?_append_right (by omega)] at hu
    rw [List.getElem?_append_right (by rw [← h.1]; omega), ← h.1] at hl
    exact k.2.2 _ u l hu hl

theorem run_append_rdE {P : Program} {w : World} {t ty : TypeId} {base : Nat} {e : TypeId} {z : Value} {bytes : Nat} {v : Value} {n : Nat} {xs : List Value} {vx : Value} {news : List Value}
    (hown : w.ownsRow base e 1 v n xs) (hrd : Rd w vx news)
    (ht : P.underlying t = some (.slice e)) (hinf : (P.info? e).map (fun i => (i.zero, i.size, i.bytes)) = some (some z, 1, bytes)) (hzs : z.cells.size = 1) (h1 : ∀ u ∈ news, u.oneCell' = true)
    (h63 : n + news.length ≤ 2000000000000) (hbytes : bytes ≤ 64) (hbase : base ≤ w.heap.size) :
    ∃ v' w', (Builtin.append_ #[t, t] ty #[v, vx]).run P w = .ok v' w' ∧ w'.ownsRow base e 1 v' (n + news.length) (xs ++ news) ∧ Below base w w' ∧ Ext w w' v v' := by
  obtain ⟨i, hi, hz, hsize, hby⟩ := info_parts hinf
  have hlt := hown.lt
  have hbytes' : (n + news.length) * bytes ≤ 2000000000000 * 64 := Nat.mul_le_mul h63 hbytes
  obtain ⟨ao, cap, hvx, h2, h3, h4, h5⟩ := hrd
  subst hvx
  cases ao with
  | none =>
    have hc := h4 rfl
    have hnews : news = [] := List.eq_nil_of_length_eq_zero (by omega)
    subst hnews
    subst hc
    exact ⟨v, w, run_append_owned_none w base t ty e i 1 ht hi v n _ hown, by simpa using hown, Below.refl _ _, Ext.refl _ _⟩
  | some ad =>
    obtain ⟨v', w', hr, ho', hg', _, hat⟩ := run_append_own_at (P := P) w base t ty e i z 1 bytes ht hi hz hsize hby hzs (by decide) v n xs hown ad news.length cap news (by simp) (h5 ad rfl) h1 (by simp [maxLen]; omega) (by omega) hbase
    exact ⟨v', w', hr, ho', (Below.refl _ _).grown hg' hbase (fun k hk => (hlt k hk).1), hg', hat.imp id fun e k hk => by rw [e] at hk; simp at hk; omega⟩

/-- The same as a step of a region that draws its order. -/
theorem step_append_rdE {P : Program} {w : World} {ops : Array Oper} {o : Oper} {a : Act} {K : Act → World → Prop} {Q : Exit → Act → World → Prop} {E : Prop} {s x : Operand} {t : TypeId} {base : Nat} {e : TypeId} {z : Value} {bytes : Nat}
    {v : Value} {n : Nat} {xs : List Value} {vx : Value} {news : List Value}
    (hown : w.ownsRow base e 1 v n xs) (hrd : Rd w vx news)
    (ht : P.underlying t = some (.slice e)) (hinf : (P.info? e).map (fun i => (i.zero, i.size, i.bytes)) = some (some z, 1, bytes)) (hzs : z.cells.size = 1)
    (hgd : o.guard = none) (ho : o.op = .call { callee := .builtin .append, args := #[s, x], argTypes := #[t, t] })
    (hs : a.eval s = v) (hx : a.eval x = vx) (h1 : ∀ u ∈ news, u.oneCell' = true)
    (h63 : n + news.length ≤ 2000000000000) (hbytes : bytes ≤ 64) (hbase : base ≤ w.heap.size)
    (h : ∀ v' w', w'.ownsRow base e 1 v' (n + news.length) (xs ++ news) → Below base w w' → Ext w w' v v' → K (a.put o.dst v') w') :
    if Region.wanted o (yielded ops a.tmps) = true then Oper.wp P o a w K Q else E := by
  have hw : Region.wanted o (yielded ops a.tmps) = true := by simp [Region.wanted, hgd]
  rw [if_pos hw]
  obtain ⟨v', w', hr, h2, h3, h4⟩ := run_append_rdE (ty := o.type) hown hrd ht hinf hzs h1 h63 hbytes hbase
  unfold Oper.wp execOp
  simp only [ho, resolve, invoke, builtin, Sem.run_bind, Sem.run_pure, Result.andThen_ok, List.map_toArray, List.map_cons, List.map_nil, hs, hx, hr]
  exact h v' w' h2 h3 h4

theorem tlen_mem : ∀ {ls : List (List Cl)} {l : List Cl}, l ∈ ls → l.length ≤ tlen ls
  | x :: r, l, h => by
    simp only [tlen, List.map_cons, List.sum_cons]
    rcases List.mem_cons.1 h with rfl | h
    · omega
    · have := tlen_mem h
      simp only [tlen] at this
      omega

/-- A row of lists that others were appended to. -/
theorem RdL.joined {w w' : World} {v v' : Value} {base n : Nat} {e : TypeId} {vs ovs : List Value} {ls os : List (List Cl)} (hp : PcO w v vs ls) (he : Ext w w' v v') (ho : w'.ownsRow base e 1 v' n (vs ++ ovs)) (hq : Pcs w' ovs os) : RdL w' v' (ls ++ os) := by
  have h := (hp.ext he).1.append hq
  exact ⟨vs ++ ovs, Rd.ofOwns ho, h.1, h.2.1, h.2.2⟩

theorem OffC.new {w : World} {v : Value} {cs : List Cl} (h : RdC w v cs) (n c : Nat) : Off (.slice (some ⟨w.heap.size, 0, none⟩) n c) v := by
  intro a l c' hv hl hg
  obtain ⟨ao, cap, hv', h1, h2, h3, h4⟩ := h
  rw [hv] at hv'
  simp only [Value.slice.injEq] at hv'
  obtain ⟨rfl, rfl, rfl⟩ := hv'
  have hpos : 0 < (cc cs).length := by rw [cc_length]; omega
  have hc := h4 a rfl 0 (cc cs)[0] (by simp)
  have hlt := World.block_lt_of_cell? w _ hc
  have hb : (a.add 0).block = a.block := by unfold Addr.add; split <;> rfl
  simp only [Value.ownBlock, Option.some.injEq] at hg
  omega

theorem ownsRow_one (W : World) (u : Value) (e : TypeId) : (W.alloc (.cells #[u] e)).ownsRow W.heap.size e 1 (.slice (some ⟨W.heap.size, 0, none⟩) 1 1) 1 [u] :=
  ⟨by simp, .inr ⟨W.heap.size, 1, #[u], rfl, Nat.le_refl _, heap_alloc_new W _, Nat.le_refl _, by decide, rfl, by simp⟩⟩

set_option maxRecDepth 100000 in
set_option maxHeartbeats 4000000 in
theorem mergeSame_any (v1 v2 : Value) (t0 : Int) (ls os : List (List Cl)) (wh : Bool) (a b : ByteArray) (t m : Int) (w : World) (hv : RdL w v1 ls) (ho : RdL w v2 os) (_ht0 : -9223372036854775808 ≤ t0 ∧ t0 ≤ 9223372036854775807) (hb1 : ∀ l ∈ ls, l.length ≤ 2199023255552) (hb2 : ∀ l ∈ os, l.length ≤ 2199023255552) :
    Calls Try.prog 3 #[v1, v2, .int .i64 t0, .bool wh, aA a b t m] w fun e w' => e = .returned (.bool true) ∧ Below w.heap.size w w' := by
  obtain ⟨ao1, cap1, hvv, hc1, hc2⟩ := hv.shape
  obtain ⟨ao2, cap2, hoo, hd1, hd2⟩ := ho.shape
  subst hvv hoo
  unfold maxLen at hc2 hd2
  have HB1 := hide hb1
  have HB2 := hide hb2
  clear hb1 hb2
  unfold aA
  go_enter Try.func3, Try.ntmps3
  go_wp2_with fail
  have hA0 := Bk.new w 24 #[.string a, .string b, .int .i64 t, .int .i64 m]
  refine (mergeBegun_any _).mono ?_
  rintro e w1 ⟨rfl, hb1⟩
  have hA1 := hA0.below hb1 (by simp)
  have hbw1 : Below w.heap.size w w1 := (below_alloc' _ _).trans (hb1.mono (by simp))
  have hz1 := hbw1.size
  have hv1 := hv.below hbw1
  have ho1 := ho.below hbw1
  clear hA0 hb1
  cases hq1 : vastB ls
  case true =>
    go_wp2_with (go_at_call 10; refine (vastLists_any _ ls _ hv1 HB1.out).mono ?_; rintro e w2 ⟨rfl, hb2⟩; rw [hq1]; have ho2 := ho1.below hb2; have hA2 := hA1.below hb2 hA1.lt)
    go_ret
    exact ⟨rfl, hbw1.trans (hb2.mono hz1)⟩
  cases hq2 : vastB os
  case true =>
    go_wp2_with (first | (go_at_call 10; have k9 := ho2; refine (vastLists_any _ os _ k9 HB2.out).mono ?_; rintro e w3 ⟨rfl, hb3⟩; rw [hq2]; have ho3 := ho2.below hb3; have hA3 := hA2.below hb3 hA2.lt; have a2 : w3.cell? ⟨w.heap.size, 2, none⟩ = some (.int .i64 t) := hA3.cell 2) | (go_at_call 10; refine (vastLists_any _ ls _ hv1 HB1.out).mono ?_; rintro e w2 ⟨rfl, hb2⟩; rw [hq1]; have ho2 := ho1.below hb2; have hA2 := hA1.below hb2 hA1.lt))
    go_ret
    exact ⟨rfl, (hbw1.trans (hb2.mono hz1)).trans (hb3.mono (Nat.le_trans hz1 hb2.size))⟩
  obtain ⟨hl100, hl3000⟩ := vastB_false hq1
  obtain ⟨ho100, ho3000⟩ := vastB_false hq2
  by_cases h19 : 19 < ls.length + os.length
  · have hd : decide ((19 : Int) < (ls.length : Int) + (os.length : Int)) = true := by simp; omega
    go_wp2_with (first | (go_at_call 10; have k9 := ho2; refine (vastLists_any _ os _ k9 HB2.out).mono ?_; rintro e w3 ⟨rfl, hb3⟩; rw [hq2]; have ho3 := ho2.below hb3; have hA3 := hA2.below hb3 hA2.lt; have a2 : w3.cell? ⟨w.heap.size, 2, none⟩ = some (.int .i64 t) := hA3.cell 2) | (go_at_call 10; refine (vastLists_any _ ls _ hv1 HB1.out).mono ?_; rintro e w2 ⟨rfl, hb2⟩; rw [hq1]; have ho2 := ho1.below hb2; have hA2 := hA1.below hb2 hA1.lt))
    go_ret
    exact ⟨rfl, (hbw1.trans (hb2.mono hz1)).trans (hb3.mono (Nat.le_trans hz1 hb2.size))⟩
  have h19d : decide ((19 : Int) < (ls.length : Int) + (os.length : Int)) = false := by simp; omega
  by_cases htt : t < t0
  · have hd : decide (t < t0) = true := by simpa using htt
    go_wp2_with (first | (go_at_call 10; have k9 := ho2; refine (vastLists_any _ os _ k9 HB2.out).mono ?_; rintro e w3 ⟨rfl, hb3⟩; rw [hq2]; have ho3 := ho2.below hb3; have hA3 := hA2.below hb3 hA2.lt; have a2 : w3.cell? ⟨w.heap.size, 2, none⟩ = some (.int .i64 t) := hA3.cell 2) | (go_at_call 10; refine (vastLists_any _ ls _ hv1 HB1.out).mono ?_; rintro e w2 ⟨rfl, hb2⟩; rw [hq1]; have ho2 := ho1.below hb2; have hA2 := hA1.below hb2 hA1.lt))
    go_ret
    exact ⟨rfl, (hbw1.trans (hb2.mono hz1)).trans (hb3.mono (Nat.le_trans hz1 hb2.size))⟩
  have httd : decide (t < t0) = false := by simpa using htt
  generalize hlf : lfR os = rr
  obtain ⟨fx, fy⟩ := rr
  have HLF := hide hlf
  clear hlf
  have hfd : ∀ W : World, (Instr.field 28 (.agg #[.int .i64 fx, .int .i64 fy]) 0).run Try.prog W = .ok (.int .i64 fx) W := fun _ => by kernel_rfl
  by_cases hfx : fx = 0
  case neg =>
    have hcb : (fx != 0) = true := by simp [hfx]
    go_wp2_with (first | (go_at_call 11; refine (lListsFault_any _ os _ ho3).mono ?_; rintro e w4 ⟨rfl, hb4⟩; rw [HLF.out]; unfold fltC) | (go_at_call 10; have k9 := ho2; refine (vastLists_any _ os _ k9 HB2.out).mono ?_; rintro e w3 ⟨rfl, hb3⟩; rw [hq2]; have ho3 := ho2.below hb3; have hA3 := hA2.below hb3 hA2.lt; have a2 : w3.cell? ⟨w.heap.size, 2, none⟩ = some (.int .i64 t) := hA3.cell 2) | (go_at_call 10; refine (vastLists_any _ ls _ hv1 HB1.out).mono ?_; rintro e w2 ⟨rfl, hb2⟩; rw [hq1]; have ho2 := ho1.below hb2; have hA2 := hA1.below hb2 hA1.lt))
    go_ret
    exact ⟨rfl, ((hbw1.trans (hb2.mono hz1)).trans (hb3.mono (Nat.le_trans hz1 hb2.size))).trans (hb4.mono (Nat.le_trans hz1 (Nat.le_trans hb2.size hb3.size)))⟩
  subst hfx
  have hlf0 : (lfR os).1 = 0 := by rw [HLF.out]
  have HLF0 := hide hlf0
  clear hlf0
  go_wp2_with (first | (go_at_call 11; refine (lListsFault_any _ os _ ho3).mono ?_; rintro e w4 ⟨rfl, hb4⟩; rw [HLF.out]; unfold fltC) | (go_at_call 10; have k9 := ho2; refine (vastLists_any _ os _ k9 HB2.out).mono ?_; rintro e w3 ⟨rfl, hb3⟩; rw [hq2]; have ho3 := ho2.below hb3; have hA3 := hA2.below hb3 hA2.lt; have a2 : w3.cell? ⟨w.heap.size, 2, none⟩ = some (.int .i64 t) := hA3.cell 2) | (go_at_call 10; refine (vastLists_any _ ls _ hv1 HB1.out).mono ?_; rintro e w2 ⟨rfl, hb2⟩; rw [hq1]; have ho2 := ho1.below hb2; have hA2 := hA1.below hb2 hA1.lt))
  have hb14 : Below w1.heap.size w1 w4 := (hb2.trans (hb3.mono hb2.size)).trans (hb4.mono (Nat.le_trans hb2.size hb3.size))
  have hA4 := hA1.below hb14 hA1.lt
  have hbw4 : Below w.heap.size w w4 := hbw1.trans (hb14.mono hz1)
  have hz4 := hbw4.size
  have hlA4 := hA4.lt
  clear hb2 hb3 hb4 ho2 ho3 hA2 hA3 a2 hA1 hb14 hv1 ho1 hbw1 hz1 hq1 hq2 h19d httd HLF hfd
  refine (Compact_any _ ls t0 wh _ (hv.below hbw4)).mono ?_
  rintro e w5 ⟨vc, rfl, hrc, hb5, hnc⟩
  have hA5 := hA4.below hb5 hlA4
  have hbw5 : Below w.heap.size w w5 := hbw4.trans (hb5.mono hz4)
  have hz5 := hbw5.size
  have hlA5 := hA5.lt
  obtain ⟨aoc, capc, hvc, _, _⟩ := hrc.shape
  subst hvc
  by_cases hc : (cmpR ls t0 wh).2.1 = 0
  case neg =>
    have hcb : ((cmpR ls t0 wh).2.1 != 0) = true := by simp [hc]
    clear hrc hnc hb5 hc
    generalize (cmpR ls t0 wh).2 = r at *
    obtain ⟨x, y⟩ := r
    simp only at hcb
    unfold fltC
    go_wp2_with fail
    go_ret
    exact ⟨rfl, by go_grown⟩
  obtain ⟨C, e1, e2, e3, e4⟩ := sames hc
  rw [e1] at hrc ⊢
  simp only at hrc ⊢
  obtain ⟨e3a, e3b⟩ := e3 a b t m (by omega)
  have HE2 := hide e2
  have HE3 := hide e3a
  have HE4 := hide (fun hw => e4 os a b t m hw (by omega) HLF0.out (by omega))
  clear e1 e2 e3 e3a e4 hc hb5 hnc
  have HRC := hide hrc
  clear hrc
  generalize hAF : askFV t m = AF at *
  obtain ⟨p, q⟩ := AF
  have HAF := hide hAF
  have HEF := hide e3b
  clear hAF e3b
  have hAx := hA5.below (below_alloc' _ (.cells #[.int .i64 0, .int .i64 0] 28)) hlA5
  have hbx := hbw5.alloc hz5 (.cells #[.int .i64 0, .int .i64 0] 28)
  have HAX := hide hAx
  have HBX := hide hbx
  have a0 := hA5.cell 0
  have a1 := hA5.cell 1
  have a2 := hA5.cell 2
  have a3 := hA5.cell 3
  simp at a0 a1 a2 a3
  clear hAx hbx
  unfold fltC
  go_wp2_with fail
  refine (MScan_any _ ls a b t m _ (hv.below HBX.out)).mono ?_
  rintro e w6 ⟨vx, rfl, hrx, hb6, hnx⟩
  rw [HEF.out]
  have hA6 := HAX.out.below hb6 HAX.out.lt
  have hF12 := (Bk.new w5 28 #[.int .i64 0, .int .i64 0]).below hb6 (by simp)
  have hbw6 : Below w.heap.size w w6 := HBX.out.trans (hb6.mono HBX.out.size)
  have hb56 : Below w5.heap.size w5 w6 := (below_alloc' _ _).trans (hb6.mono (by simp))
  have hz56 := hF12.lt
  have hlA6 := hA6.lt
  obtain ⟨aox, capx, hvx, _, _⟩ := hrx.shape
  subst hvx
  have hAy := (hA6.below (below_alloc' _ (.cells #[.int .i64 p, .int .i64 q] 28)) hlA6).below (below_alloc' _ (.cells #[.slice aoc C.length capc] 30)) (by simp; omega)
  have hF12y := (hF12.below (below_alloc' _ (.cells #[.int .i64 p, .int .i64 q] 28)) hz56).below (below_alloc' _ (.cells #[.slice aoc C.length capc] 30)) (by simp; omega)
  have hF14y := (Bk.new w6 28 #[.int .i64 p, .int .i64 q]).below (below_alloc' _ (.cells #[.slice aoc C.length capc] 30)) (by simp)
  have hrcy := (HRC.out.below hb56).alloc (.cells #[.int .i64 p, .int .i64 q] 28)
  have hLy := RdL.one hrcy 30
  have hzy : (w6.alloc (.cells #[.int .i64 p, .int .i64 q] 28)).heap.size = w6.heap.size + 1 := by simp
  rw [hzy] at hLy
  have hb56y := (hb56.alloc hb56.size (.cells #[.int .i64 p, .int .i64 q] 28)).alloc (by simp; have := hb56.size; omega) (.cells #[.slice aoc C.length capc] 30)
  have hb66y : Below w6.heap.size w6 ((w6.alloc (.cells #[.int .i64 p, .int .i64 q] 28)).alloc (.cells #[.slice aoc C.length capc] 30)) := (below_alloc' _ _).trans ((below_alloc' _ _).mono (by simp))
  have hz6 := hbw6.size
  have hbwy := hbw6.trans (hb66y.mono hz6)
  have HAY := hide hAy
  have HF12 := hide hF12y
  have HF14 := hide hF14y
  have HLY := hide hLy
  have HB56 := hide hb56y
  have HB66 := hide hb66y
  have HBWY := hide hbwy
  have HRX := hide hrx
  have b0 := hA6.cell 0
  have b1 := hA6.cell 1
  have b2 := hA6.cell 2
  have b3 := hA6.cell 3
  simp at b0 b1 b2 b3
  clear hAy hF12y hF14y hrcy hLy hzy hb56y hb66y hbwy hrx hnx hA6 hF12 hb6 hb56 hbw6 HAX HBX a0 a1 a2 a3 hA4 hA5 hbw4
  have HX2 : Hid ((mscR [C] a b t m) = ((mscR ls a b t m).1, (p, q))) := hide (by rw [HE3.out, ← HEF.out])
  generalize (mscR ls a b t m).1 = X at *
  unfold fltC
  go_wp2_with fail
  refine (MScan_any _ [C] a b t m _ HLY.out).mono ?_
  rintro e w7 ⟨vy, rfl, hry, hb7, hny⟩
  rw [HX2.out] at hry ⊢
  simp only at hry ⊢
  obtain ⟨aoy, capy, hvy, _, _⟩ := hry.shape
  subst hvy
  have hA7 := HAY.out.below hb7 HAY.out.lt
  have hF12 := HF12.out.below hb7 HF12.out.lt
  have hF14 := HF14.out.below hb7 HF14.out.lt
  have hb57 : Below w5.heap.size w5 w7 := HB56.out.trans (hb7.mono HB56.out.size)
  have hb67 : Below w6.heap.size w6 w7 := HB66.out.trans (hb7.mono HB66.out.size)
  have hbw7 : Below w.heap.size w w7 := HBWY.out.trans (hb7.mono HBWY.out.size)
  have hz7 := hbw7.size
  have hz57 := hb57.size
  have hz67 := hF14.lt
  have hzA7 := hA7.lt
  have hz12 := hF12.lt
  have hrx7 := HRX.out.below hb67
  have f0 := hF14.cell 0
  have f1 := hF14.cell 1
  simp at f0 f1
  clear hb7 hny HAY HF12 HF14 HLY HB56 HB66 HBWY HRX b0 b1 b2 b3 HX2 HE3 HEF
  by_cases hp : p = 0
  case neg =>
    have hcb : (p != 0) = true := by simp [hp]
    clear hry hrx7 hF12 hF14 hb57 hb67 hA7
    unfold fltC
    go_wp2_with fail
    go_ret
    exact ⟨by simp, by go_grown⟩
  subst hp
  have hq0 : q = 0 := by
    have h := HAF.out
    obtain ⟨h2, _⟩ := askFV_zero (t := t) (m := m) (by rw [h])
    rw [h] at h2
    exact (Prod.mk.injEq _ _ _ _ ▸ h2).2
  subst hq0
  have hAz := hA7.below (below_alloc' _ (.cells #[.int .i64 0, .int .i64 0] 28)) hzA7
  have hF12z := hF12.below (below_alloc' _ (.cells #[.int .i64 0, .int .i64 0] 28)) hz12
  have hF14z := hF14.below (below_alloc' _ (.cells #[.int .i64 0, .int .i64 0] 28)) hz67
  have hF16z := Bk.new w7 28 #[.int .i64 0, .int .i64 0]
  have hryz := hry.alloc (.cells #[.int .i64 0, .int .i64 0] 28)
  have hrxz := hrx7.alloc (.cells #[.int .i64 0, .int .i64 0] 28)
  have hbwz := hbw7.alloc hz7 (.cells #[.int .i64 0, .int .i64 0] 28)
  have hb5z := hb57.alloc hz57 (.cells #[.int .i64 0, .int .i64 0] 28)
  have HAZ := hide hAz
  have HF12 := hide hF12z
  have HF14 := hide hF14z
  have HF16 := hide hF16z
  have HRY := hide hryz
  have HRX := hide hrxz
  have HBWZ := hide hbwz
  have HB5Z := hide hb5z
  clear hAz hF12z hF14z hF16z hryz hrxz hbwz hb5z hA7 hF12 hF14 hry hrx7 hbw7 hb57 hb67
  unfold fltC
  go_wp2_with fail
  refine (SameCells_any _ _ X _ HRX.out HRY.out).mono ?_
  rintro e w8 ⟨rfl, hb8⟩
  have hA8 := HAZ.out.below hb8 HAZ.out.lt
  have hF12 := HF12.out.below hb8 HF12.out.lt
  have hF14 := HF14.out.below hb8 HF14.out.lt
  have hF16 := HF16.out.below hb8 HF16.out.lt
  have hbw8 : Below w.heap.size w w8 := HBWZ.out.trans (hb8.mono HBWZ.out.size)
  have hb58 : Below w5.heap.size w5 w8 := HB5Z.out.trans (hb8.mono HB5Z.out.size)
  have hrc8 := HRC.out.below hb58
  have hLz := RdL.one hrc8 30
  have hF12y := hF12.below (below_alloc' _ (.cells #[.slice aoc C.length capc] 30)) hF12.lt
  have hF14y := hF14.below (below_alloc' _ (.cells #[.slice aoc C.length capc] 30)) hF14.lt
  have hF16y := hF16.below (below_alloc' _ (.cells #[.slice aoc C.length capc] 30)) hF16.lt
  have hAy := hA8.below (below_alloc' _ (.cells #[.slice aoc C.length capc] 30)) hA8.lt
  have hbwy := hbw8.alloc hbw8.size (.cells #[.slice aoc C.length capc] 30)
  have hb5y := hb58.alloc hb58.size (.cells #[.slice aoc C.length capc] 30)
  have hz8 := hF16.lt
  clear hb8 HAZ HF12 HF14 HF16 HRY HRX HBWZ HB5Z hF12 hF14 hF16 hbw8 hb58 hrc8 hA8
  have HLZ := hide hLz
  have HF12 := hide hF12y
  have HF14 := hide hF14y
  have HF16 := hide hF16y
  have HAY := hide hAy
  have HBWY := hide hbwy
  have HB5Y := hide hb5y
  clear hLz hF12y hF14y hF16y hAy hbwy hb5y f0 f1
  go_wp2_with fail
  refine (Compact_any _ [C] t0 wh _ HLZ.out).mono ?_
  rintro e w9 ⟨vd, rfl, hrd, hb9, hnd⟩
  rw [HE2.out] at hrd ⊢
  simp only at hrd ⊢
  obtain ⟨aod, capd, hvd, _, _⟩ := hrd.shape
  subst hvd
  have hF12 := HF12.out.below hb9 HF12.out.lt
  have hF14 := HF14.out.below hb9 HF14.out.lt
  have hF16 := HF16.out.below hb9 HF16.out.lt
  have hA9 := HAY.out.below hb9 HAY.out.lt
  have hbw9 : Below w.heap.size w w9 := HBWY.out.trans (hb9.mono HBWY.out.size)
  have hb59 : Below w5.heap.size w5 w9 := HB5Y.out.trans (hb9.mono HB5Y.out.size)
  have q0 := hF12.cell 0
  have q1 := hF12.cell 1
  have q2 := hF12.frozen 0
  have q3 := hF12.frozen 1
  have hl12 := hF12.lt
  simp at q0 q1
  have hn1 : w6.heap.size ≠ w5.heap.size := by omega
  have hn2 : w7.heap.size ≠ w5.heap.size := by omega
  have hn3 : w.heap.size ≠ w5.heap.size := by omega
  have hF14s := (hF14.setP (p := ⟨w5.heap.size, 0, none⟩) hn1 (.int .i64 0)).setP (p := ⟨w5.heap.size, 1, none⟩) hn1 (.int .i64 0)
  have hF16s := (hF16.setP (p := ⟨w5.heap.size, 0, none⟩) hn2 (.int .i64 0)).setP (p := ⟨w5.heap.size, 1, none⟩) hn2 (.int .i64 0)
  have hAs := (hA9.setP (p := ⟨w5.heap.size, 0, none⟩) hn3 (.int .i64 0)).setP (p := ⟨w5.heap.size, 1, none⟩) hn3 (.int .i64 0)
  have hnd2 : New (w5.heap.size + 1) (.slice aod C.length capd) := hnd.mono (by simp; omega)
  have hrds := (hrd.setNew hnd2 (p := ⟨w5.heap.size, 0, none⟩) (by simp only; omega) (.int .i64 0)).setNew hnd2 (p := ⟨w5.heap.size, 1, none⟩) (by simp only; omega) (.int .i64 0)
  have hbws := (hbw9.setCell (p := ⟨w5.heap.size, 0, none⟩) hz5 (.int .i64 0)).setCell (p := ⟨w5.heap.size, 1, none⟩) hz5 (.int .i64 0)
  have hb5s := (hb59.setCell (p := ⟨w5.heap.size, 0, none⟩) (Nat.le_refl _) (.int .i64 0)).setCell (p := ⟨w5.heap.size, 1, none⟩) (Nat.le_refl _) (.int .i64 0)
  have hrcs := HRC.out.below hb5s
  have HF14s := hide hF14s
  have HF16s := hide hF16s
  have HAS := hide hAs
  have HRDS := hide hrds
  have HBWS := hide hbws
  have HB5S := hide hb5s
  have HRCS := hide hrcs
  clear hF14s hF16s hAs hrds hbws hb5s hrcs hF12 hF14 hF16 hA9 hbw9 hb59 hnd hnd2 hrd hb9 HF12 HF14 HF16 HAY HBWY HB5Y HLZ
  unfold fltC
  go_wp2_with fail
  refine (SameCells_any _ _ C _ HRDS.out HRCS.out).mono ?_
  rintro e w11 ⟨rfl, hb11⟩
  have hA11 := HAS.out.below hb11 HAS.out.lt
  have hF14 := HF14s.out.below hb11 HF14s.out.lt
  have hF16 := HF16s.out.below hb11 HF16s.out.lt
  have hbw11 : Below w.heap.size w w11 := HBWS.out.trans (hb11.mono HBWS.out.size)
  have hb511 : Below w5.heap.size w5 w11 := HB5S.out.trans (hb11.mono HB5S.out.size)
  have hz11 := hbw11.size
  clear hb11 HAS HF14s HF16s HBWS HB5S HRDS HRCS q0 q1 q2 q3
  cases wh
  case true =>
    go_wp2_with fail
    go_ret
    exact ⟨rfl, hbw11⟩
  obtain ⟨E1, E2⟩ := HE4.out rfl trivial
  generalize hX2 : mscR (ls ++ os) a b t m = XX at *
  obtain ⟨X2, fx2, fy2⟩ := XX
  simp only [Prod.mk.injEq] at E2
  obtain ⟨rfl, rfl⟩ := E2
  have HX2 := hide hX2
  have HY2 := hide E1
  clear hX2 E1 HE4
  obtain ⟨ovs, hrO, hlO, honeO, hpO⟩ := ho
  have hkeep : ∀ W, Below (w.heap.size + 1) w11 W → W.cell? ⟨w.heap.size, 0, none⟩ = some (.string a) ∧ W.cell? ⟨w.heap.size, 1, none⟩ = some (.string b) ∧ W.cell? ⟨w.heap.size, 2, none⟩ = some (.int .i64 t) ∧ W.cell? ⟨w.heap.size, 3, none⟩ = some (.int .i64 m) := fun W h =>
    ⟨(hA11.below h (by omega)).cell 0, (hA11.below h (by omega)).cell 1, (hA11.below h (by omega)).cell 2, (hA11.below h (by omega)).cell 3⟩
  have hvl : ∀ W, Below (w.heap.size + 1) w11 W → RdL W (.slice ao1 ls.length cap1) ls := fun W h => hv.below (hbw11.trans (h.mono (by omega)))
  have hw11 : w.heap.size + 1 ≤ w11.heap.size := by have := hA11.lt; omega
  have hro : ∀ W, Below w.heap.size w W → Rd W (.slice ao2 os.length cap2) ovs ∧ Pcs W ovs os := fun W h => ⟨hrO.below h, hlO, honeO, fun i u l hu hl => (hpO i u l hu hl).below h⟩
  have hbm : ∀ l ∈ ls, l.length ≤ 1000000 := fun l hl => Nat.le_trans (tlen_mem hl) (by omega)
  have hl8 : ls.length + ovs.length ≤ 2000000000000 := by omega
  obtain ⟨a0, a1, a2, a3⟩ := hkeep w11 (Below.refl _ _)
  have HKEEP := hide hkeep
  have HVL := hide hvl
  have HRO := hide hro
  have HBM := hide hbm
  have HONE := hide honeO
  have hlF14 := hF14.lt
  have hlF16 := hF16.lt
  have HF14 := hide hF14
  have HF16 := hide hF16
  have HA11 := hide hA11
  have HB511 := hide hb511
  have HLO := hide hlO
  clear hkeep hvl hro hbm honeO hlO hpO hrO hF14 hF16 hA11 hb511
  go_wp2_with fail
  go_region_held3 (fun W => W.cell? ⟨w.heap.size, 0, none⟩ = some (.string a) ∧ W.cell? ⟨w.heap.size, 1, none⟩ = some (.string b) ∧ W.cell? ⟨w.heap.size, 2, none⟩ = some (.int .i64 t) ∧ W.cell? ⟨w.heap.size, 3, none⟩ = some (.int .i64 m)) (exact HKEEP.out _ (by go_grown)) (first
    | (go_at_call 13; have k9 := hRL; refine (MScan_any _ (ls ++ os) a b t m _ (by exact k9)).mono ?_; rintro e w14 ⟨v14, rfl, hr14, hb14, hn14⟩; rw [HX2.out] at hr14 ⊢; unfold fltC; simp only at hr14 ⊢; obtain ⟨ao14, cap14, hv14, _, _⟩ := hr14.shape; subst hv14; have hb1114 := hb1113.trans (hb14.mono hb1113.size); have hk14 := hb1114.mono hw11; have tF := HF14.out.below hb1114 hlF14; have f0 := tF.cell 0; have f1 := tF.cell 1; have f2 := tF.frozen 0; have f3 := tF.frozen 1; have f4 := tF.lt; simp at f0 f1)
    | (have k9 := ho12; refine step_append_rdE (base := w11.heap.size) k9 (by exact (HRO.out w12 hbw12).1) Try.underlying22 Try.info30 rfl (by rfl) (by rfl) (by rfl) (by rfl) HONE.out hl8 (by decide) (by exact hb1112.size) ?_; intro v13 w13 ho13 hb13 he13; have hb1113 : Below w11.heap.size w11 w13 := hb1112.trans hb13; have hk13 := hb1113.mono hw11; have hRL := RdL.joined hp12 he13 ho13 (HRO.out w13 (hbw11.trans (hb1113.mono hz11))).2; obtain ⟨ao13, cap13, hv13⟩ := owns_shape ho13; subst hv13)
    | (go_at_call 15; refine (ownLists_any _ ls _ (by exact HVL.out _ (by go_grown)) hl100 HBM.out).mono ?_; rintro e w12 ⟨v12, rfl, hr12, ⟨vs12, ho12, hp12⟩, hb12⟩; have hb1112 : Below w11.heap.size w11 w12 := Below.trans (by go_grown) hb12; have hk12 := hb1112.mono hw11; have hbw12 := hbw11.trans (hb1112.mono hz11); obtain ⟨ao12, cap12, hv12⟩ := owns_shape ho12; subst hv12))
  have hz1114 := hb1114.size
  have hz13 := hb1113.size
  have hnA : w.heap.size ≠ w6.heap.size := by omega
  have hn76 : w7.heap.size ≠ w6.heap.size := by omega
  have hA15 := ((HA11.out.below hb1114 HA11.out.lt).setP (p := ⟨w6.heap.size, 0, none⟩) hnA (.int .i64 0)).setP (p := ⟨w6.heap.size, 1, none⟩) hnA (.int .i64 0)
  have hF14 := (tF.set 0 (.int .i64 0)).set 1 (.int .i64 0)
  have hF16 := ((HF16.out.below hb1114 hlF16).setP (p := ⟨w6.heap.size, 0, none⟩) hn76 (.int .i64 0)).setP (p := ⟨w6.heap.size, 1, none⟩) hn76 (.int .i64 0)
  have hnx14 : New w11.heap.size (.slice ao14 X2.length cap14) := hn14.mono (by omega)
  have hx15 := (hr14.setNew hnx14 (p := ⟨w6.heap.size, 0, none⟩) hlF14 (.int .i64 0)).setNew hnx14 (p := ⟨w6.heap.size, 1, none⟩) hlF14 (.int .i64 0)
  have hbw15 := ((hbw11.trans (hb1114.mono hz11)).setCell (p := ⟨w6.heap.size, 0, none⟩) (by simp only; omega) (.int .i64 0)).setCell (p := ⟨w6.heap.size, 1, none⟩) (by simp only; omega) (.int .i64 0)
  have hb515 := ((HB511.out.trans (hb1114.mono HB511.out.size)).setCell (p := ⟨w6.heap.size, 0, none⟩) (by simp only; omega) (.int .i64 0)).setCell (p := ⟨w6.heap.size, 1, none⟩) (by simp only; omega) (.int .i64 0)
  have hrc15 := HRC.out.below hb515
  have hz15 : w14.heap.size = ((w14.setCell ⟨w6.heap.size, 0, none⟩ (.int .i64 0)).setCell ⟨w6.heap.size, 1, none⟩ (.int .i64 0)).heap.size := by simp
  have HA15 := hide hA15
  have HF14b := hide hF14
  have HF16b := hide hF16
  have HX15 := hide hx15
  have HBW15 := hide hbw15
  have HRC15 := hide hrc15
  have HZ15 := hide hz15
  have HNX := hide hnx14
  clear hA15 hF14 hF16 hx15 hbw15 hb515 hrc15 hz15 hnx14 tF f0 f1 f2 f3 f4 hr14 hn14 hb14 hb1114 hk14 hb1113 hk13 hb13 he13 ho13 hRL hb1112 hk12 hbw12 hp12 ho12 hr12 hb12 HF14 HF16 HA11 HKEEP HVL a0 a1 a2 a3
  generalize (w14.setCell ⟨w6.heap.size, 0, none⟩ (.int .i64 0)).setCell ⟨w6.heap.size, 1, none⟩ (.int .i64 0) = w15 at HA15 HF14b HF16b HX15 HBW15 HRC15 HZ15 ⊢
  have hz15 := HZ15.out
  have hl715 : w7.heap.size < w15.heap.size := by omega
  have hl615 : w6.heap.size < w15.heap.size := by omega
  have hl15 : w.heap.size + 1 ≤ w15.heap.size := by omega
  have hA715 : w.heap.size + 1 ≤ w7.heap.size := by omega
  clear hz15 HZ15
  have hkeep : ∀ W, Below (w.heap.size + 1) w15 W → W.cell? ⟨w.heap.size, 0, none⟩ = some (.string a) ∧ W.cell? ⟨w.heap.size, 1, none⟩ = some (.string b) ∧ W.cell? ⟨w.heap.size, 2, none⟩ = some (.int .i64 t) ∧ W.cell? ⟨w.heap.size, 3, none⟩ = some (.int .i64 m) := fun W h =>
    ⟨(HA15.out.below h (by omega)).cell 0, (HA15.out.below h (by omega)).cell 1, (HA15.out.below h (by omega)).cell 2, (HA15.out.below h (by omega)).cell 3⟩
  obtain ⟨a0, a1, a2, a3⟩ := hkeep w15 (Below.refl _ _)
  have HKEEP := hide hkeep
  have hbwv := HBW15.out.alloc HBW15.out.size (.cells #[.slice aoc C.length capc] 30)
  have hro15 := (HRO.out _ hbwv).1
  have hpc15 : PcO (w15.alloc (.cells #[.slice aoc C.length capc] 30)) (.slice (some ⟨w15.heap.size, 0, none⟩) 1 1) ([] ++ [.slice aoc C.length capc]) ([] ++ [C]) := PcO.snoc ⟨Pcs.nil _, by simp⟩ (HRC15.out.alloc _) (OffC.new HRC15.out 1 1)
  have hob15 := ownsRow_one w15 (.slice aoc C.length capc) 30
  have hl9 : 1 + ovs.length ≤ 2000000000000 := by have := HLO.out; omega
  have hlv : w15.heap.size ≤ (w15.alloc (.cells #[.slice aoc C.length capc] 30)).heap.size := by simp
  have HRO15 := hide hro15
  have HPC15 := hide hpc15
  have HOB15 := hide hob15
  have HBWV := hide hbwv
  clear hkeep hro15 hpc15 hob15 hbwv
  go_wp2_with fail
  go_region_held3 (fun W => W.cell? ⟨w.heap.size, 0, none⟩ = some (.string a) ∧ W.cell? ⟨w.heap.size, 1, none⟩ = some (.string b) ∧ W.cell? ⟨w.heap.size, 2, none⟩ = some (.int .i64 t) ∧ W.cell? ⟨w.heap.size, 3, none⟩ = some (.int .i64 m)) (exact HKEEP.out _ (by go_grown)) (first
    | (go_at_call 13; have k9 := hRL; refine (MScan_any _ ([C] ++ os) a b t m _ (by exact k9)).mono ?_; rintro e w18 ⟨v18, rfl, hr18, hb18, hn18⟩; rw [HY2.out] at hr18 ⊢; unfold fltC; simp only at hr18 ⊢; obtain ⟨ao18, cap18, hv18, _, _⟩ := hr18.shape; subst hv18; have hb1518 := hb1517.trans (hb18.mono hb1517.size); have hk18 := hb1518.mono hl15; have tF := HF16b.out.below hb1518 hl715; have f0 := tF.cell 0; have f1 := tF.cell 1; have f2 := tF.frozen 0; have f3 := tF.frozen 1; have f4 := tF.lt; simp at f0 f1)
    | (refine step_append_rdE (base := w15.heap.size) (by exact HOB15.out) (by exact HRO15.out) Try.underlying22 Try.info30 rfl (by rfl) (by rfl) (by rfl) (by rfl) HONE.out hl9 (by decide) (by exact hlv) ?_; intro v17 w17 ho17 hb17 he17; have hb1517 : Below w15.heap.size w15 w17 := Below.trans (by go_grown) hb17; have hk17 := hb1517.mono hl15; have hRL := RdL.joined (hp := by exact HPC15.out) he17 ho17 (HRO.out w17 (HBW15.out.trans (hb1517.mono HBW15.out.size))).2; obtain ⟨ao17, cap17, hv17⟩ := owns_shape ho17; subst hv17))
  have hz18 := hb1518.size
  have hz17 := hb1517.size
  have hn67 : w6.heap.size ≠ w7.heap.size := by omega
  have hF14 := ((HF14b.out.below hb1518 HF14b.out.lt).setP (p := ⟨w7.heap.size, 0, none⟩) hn67 (.int .i64 0)).setP (p := ⟨w7.heap.size, 1, none⟩) hn67 (.int .i64 0)
  have hF16 := (tF.set 0 (.int .i64 0)).set 1 (.int .i64 0)
  have hx18 := ((HX15.out.below hb1518).setNew HNX.out (p := ⟨w7.heap.size, 0, none⟩) hlF16 (.int .i64 0)).setNew HNX.out (p := ⟨w7.heap.size, 1, none⟩) hlF16 (.int .i64 0)
  have hny18 : New w15.heap.size (.slice ao18 X2.length cap18) := hn18.mono hz17
  have hy18 := (hr18.setNew hny18 (p := ⟨w7.heap.size, 0, none⟩) hl715 (.int .i64 0)).setNew hny18 (p := ⟨w7.heap.size, 1, none⟩) hl715 (.int .i64 0)
  have hbw18 := ((HBW15.out.trans (hb1518.mono HBW15.out.size)).setCell (p := ⟨w7.heap.size, 0, none⟩) (by simp only; omega) (.int .i64 0)).setCell (p := ⟨w7.heap.size, 1, none⟩) (by simp only; omega) (.int .i64 0)
  have g0 := hF14.cell 0
  have g1 := hF16.cell 0
  simp at g0 g1
  have HX18 := hide hx18
  have HY18 := hide hy18
  have HBW18 := hide hbw18
  clear hF14 hF16 hx18 hy18 hbw18 hny18 tF f0 f1 f2 f3 f4 hr18 hn18 hb18 hb1518 hk18 hb1517 hk17 hb17 he17 ho17 hRL a0 a1 a2 a3 HKEEP HOB15 HPC15 HRO15 HBWV
  generalize (w18.setCell ⟨w7.heap.size, 0, none⟩ (.int .i64 0)).setCell ⟨w7.heap.size, 1, none⟩ (.int .i64 0) = w19 at g0 g1 HX18 HY18 HBW18 ⊢
  go_wp2_with fail
  refine (SameCells_any _ _ X2 _ HX18.out HY18.out).mono ?_
  rintro e w20 ⟨rfl, hb20⟩
  go_wp2_with fail
  go_ret
  exact ⟨rfl, HBW18.out.trans (hb20.mono HBW18.out.size)⟩

end Go.Proofs.Ytlebbkbbmgmmjad
