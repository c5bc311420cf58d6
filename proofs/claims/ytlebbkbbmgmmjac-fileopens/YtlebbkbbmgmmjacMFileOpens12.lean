/-
  Texts joined: FileB, LawFOpens, Frame, FrameC, FrameS.
-/
import Derived.Test.YtlebbkbbmgmmjacMFileOpens11
import Derived.ProofKit
import Derived.OpenShut
import Derived.ShutString
import Derived.ChangeOld
import Derived.Below
import Derived.SliceStrings
import Derived.SizedLaws
import Derived.Deep.Slices
import Derived.Lib.SmallJoins
/-
  The walk over what the laws of files begin with.
-/
namespace Go.Proofs.Ytlebbkbbmgmmjac
open Go.RowKit

/-- 'append(out, xs...)' behind a guard that holds. -/
theorem wpList_append_rdW {P : Program} {w : World} {ops : Array Oper} {rest : List Oper} {o : Oper} {a : Act} {Q : Exit → Act → World → Prop} {s x : Operand} {t : TypeId} {base : Nat} {e : TypeId} {z : Value} {bytes : Nat}
    {v : Value} {n : Nat} {xs : List Value} {vx : Value} {news : List Value}
    (hown : w.ownsRow base e 1 v n xs) (hrd : Rd w vx news)
    (ht : P.underlying t = some (.slice e)) (hinf : (P.info? e).map (fun i => (i.zero, i.size, i.bytes)) = some (some z, 1, bytes)) (hzs : z.cells.size = 1)
    (hw : Region.wanted o (yielded ops a.tmps) = true) (ho : o.op = .call { callee := .builtin .append, args := #[s, x], argTypes := #[t, t] })
    (hs : a.eval s = v) (hx : a.eval x = vx) (h1 : ∀ u ∈ news, u.oneCell' = true)
    (h63 : n + news.length ≤ 2000000000000) (hbytes : bytes ≤ 64) (hbase : base ≤ w.heap.size)
    (h : ∀ v' w', w'.ownsRow base e 1 v' (n + news.length) (xs ++ news) → Below base w w' → wpList P ops Q rest (a.put o.dst v') w') : wpList P ops Q (o :: rest) a w := by
  refine wpList_step fun K hK => ?_
  rw [if_pos hw]
  obtain ⟨v', w', hr, h2, h3, h4⟩ := run_append_rd (ty := o.type) hown hrd ht hinf hzs h1 h63 hbytes hbase
  unfold Oper.wp execOp
  simp only [ho, resolve, invoke, builtin, Sem.run_bind, Sem.run_pure, Result.andThen_ok, List.map_toArray, List.map_cons, List.map_nil, hs, hx, hr]
  exact hK _ _ (h v' w' h2 h3)

theorem make_nil : makeF [] 50 = (framed [] ++ framed [0], (0, 0)) := by decide +kernel
theorem make_ver : (makeF verC 50).2 = (0, 0) ∧ (openF (makeF verC 50).1).2 = (0, 0) ∧ (openF (makeF verC 50).1).1.1.length = 2 := by decide +kernel

set_option maxRecDepth 100000 in
set_option maxHeartbeats 1000000 in
theorem fileBegun_any (w : World) : Calls Try.prog 9 #[] w fun e w' => e = .returned (.bool true) ∧ Below w.heap.size w w' := by
  obtain ⟨hm1, hm2, hm3⟩ := make_ver
  have HM3 := hide hm3
  go_enter Try.func9, Try.ntmps9
  go_wp2_with fail
  refine (Make_any _ [] 50 _ (RdC.nil _)).mono ?_
  rintro e w1 ⟨v1, rfl, hr1, hb1, _⟩
  rw [make_nil] at hr1 ⊢
  simp only at hr1 ⊢
  obtain ⟨o1, c1, hv1, _, _⟩ := hr1.shape
  subst hv1
  unfold fltC
  have hA1 := Bk.new w1 26 #[.int .i64 0, .int .i64 0]
  have hbA : Below w.heap.size w (w1.alloc (.cells #[.int .i64 0, .int .i64 0] 26)) := hb1.alloc hb1.size _
  have hrA := hr1.alloc (.cells #[.int .i64 0, .int .i64 0] 26)
  go_wp2_with fail
  generalize w1.alloc (.cells #[.int .i64 0, .int .i64 0] 26) = wA at *
  generalize w1.heap.size = zA at *
  refine (versions_any _).mono ?_
  rintro e w2 ⟨v2, rfl, hr2, hb2⟩
  go_wp2_with fail
  refine (Make_any _ verC 50 _ hr2).mono ?_
  rintro e w3 ⟨v3, rfl, hr3, hb3, _⟩
  rw [hm1]
  unfold fltC
  generalize hX : (makeF verC 50).1 = X at *
  obtain ⟨o3, c3, hv3, _, _⟩ := hr3.shape
  subst hv3
  have hb23 : Below wA.heap.size wA w3 := hb2.trans (hb3.mono hb2.size)
  have hA3 := hA1.below hb23 hA1.lt
  have hr13 := hrA.below hb23
  have hbw3 : Below w.heap.size w w3 := hbA.trans (hb23.mono hbA.size)
  have hB3 := Bk.new w3 26 #[.int .i64 0, .int .i64 0]
  have hA4 := hA3.below (below_alloc' w3 (.cells #[.int .i64 0, .int .i64 0] 26)) hA3.lt
  have hr14 := hr13.alloc (.cells #[.int .i64 0, .int .i64 0] 26)
  have hr34 := hr3.alloc (.cells #[.int .i64 0, .int .i64 0] 26)
  have hbw4 : Below w.heap.size w (w3.alloc (.cells #[.int .i64 0, .int .i64 0] 26)) := hbw3.alloc hbw3.size _
  clear hb2 hb3 hr2 hA1 hrA hb1 hbA hb23 hA3 hr13 hr3 hr1
  go_wp2_with fail
  generalize w3.alloc (.cells #[.int .i64 0, .int .i64 0] 26) = wB at *
  generalize w3.heap.size = zB at *
  refine (FOpen_any _ X _ hr34).mono ?_
  rintro e w5 ⟨v5, rfl, hr5, hb5⟩
  rw [hm2]
  unfold fltC
  obtain ⟨o5, c5, hv5, _, _⟩ := hr5.shape
  rw [HM3.out] at hv5
  subst hv5
  have hA5 := (hA4.below hb5 hA4.lt).below (below_alloc' w5 (.cells #[.int .i64 0, .int .i64 0] 26)) (hA4.below hb5 hA4.lt).lt
  have hB5 := (hB3.below hb5 hB3.lt).below (below_alloc' w5 (.cells #[.int .i64 0, .int .i64 0] 26)) (hB3.below hb5 hB3.lt).lt
  have hr15 := (hr14.below hb5).alloc (.cells #[.int .i64 0, .int .i64 0] 26)
  have hbw5 : Below w.heap.size w (w5.alloc (.cells #[.int .i64 0, .int .i64 0] 26)) := (hbw4.trans (hb5.mono hbw4.size)).alloc (by have := hb5.size; have := hbw4.size; omega) _
  have a0 := hA5.cell 0
  have b0 := hB5.cell 0
  simp at a0 b0
  clear hA4 hB3 hr14 hr34 hbw4 hr5 hb5 hm1 hm2 hm3 hX
  go_wp2_with fail
  refine (Framed_own _ [] _ (Rd.nil _) (by simp)).mono ?_
  rintro e w6 ⟨v6, rfl, ho6, hb6⟩
  go_wp2_with fail
  have hlit : Rd (w6.alloc (.cells #[.int .u8 0] 5)) (.slice (some ⟨w6.heap.size, 0, none⟩) 1 1) (bc [0]) := Rd.new w6 (.int .u8 0) 5
  refine (Framed_own _ [0] _ hlit (by simp)).mono ?_
  rintro e w7 ⟨v7, rfl, ho7, hb7⟩
  have hb67 : Below w6.heap.size w6 w7 := (below_alloc' w6 _).trans (hb7.mono (by simp))
  have ho67 := owns_below ho6 hb67
  have hl6 : (framed []).length = 6 := framed_length []
  have hl7 : (framed [0]).length = 7 := framed_length [0]
  have hr7 := Rd.ofOwns ho7
  obtain ⟨o7, c7, hv7⟩ := owns_shape ho7
  subst hv7
  generalize w5.alloc (.cells #[.int .i64 0, .int .i64 0] 26) = wC at *
  have hbC7 : Below wC.heap.size wC w7 := hb6.trans (hb67.mono hb6.size)
  have hz7 := hbC7.size
  go_wp2_with (at_builtin; go_must (refine wpList_append_rdW ho67 hr7 Try.underlying24 Try.info5 rfl rfl rfl rfl rfl (bc_one _) (by rw [bc_length, hl6, hl7]; omega) (by decide) hz7 ?_); intro v8 w8 ho8 hb8)
  rw [← bc_append, bc_length, ← List.length_append] at ho8
  have hbC8 := hbC7.trans hb8
  refine (Same_any _ _ (framed [] ++ framed [0]) (framed [] ++ framed [0]) _ (hr15.below hbC8) (Rd.ofOwns ho8)).mono ?_
  rintro e w9 ⟨rfl, rfl⟩
  go_wp2_with fail
  go_ret
  exact ⟨by simp, hbw5.trans (hbC8.mono hbw5.size)⟩

end Go.Proofs.Ytlebbkbbmgmmjac

/-
  The walk over the law FileOpens.
-/
namespace Go.Proofs.Ytlebbkbbmgmmjac
open Go.RowKit

set_option maxRecDepth 100000 in
set_option maxHeartbeats 1000000 in
theorem Opens1_any (L : Nat) (v : Value) (cs : List Cl) (w : World) (hL : w.cell? ⟨L, 0, none⟩ = some v) (hv : RdC w v cs) :
    Calls Try.prog 24 #[.pointer (some ⟨L, 0, none⟩)] w fun e w' => ∃ v', e = .returned v' ∧ RdC w' v' cs ∧ Below w.heap.size w w' := by
  obtain ⟨ao, cap, hu, hc1, hc2⟩ := hv.shape
  subst hu
  go_enter Try.func24, Try.ntmps24
  go_wp2_with fail
  go_ret
  exact ⟨_, rfl, hv, Below.refl _ _⟩

set_option maxRecDepth 100000 in
set_option maxHeartbeats 1000000 in
theorem cellsAsO_true (p1 v : Value) (cs : List Cl) (c a : Int) (w : World) (hv : RdC w v cs) (hbad : c ≠ 0 → cs = [])
    (hcl : c = 0 → ∀ W, Below w.heap.size w W → Calls Try.prog 24 #[p1] W fun e w' => ∃ v', e = .returned v' ∧ RdC w' v' cs ∧ Below W.heap.size W w') :
    Calls Try.prog 23 #[v, fltC (c, a), fltC (c, a), .func (.func 24) #[] #[p1]] w fun e w' => e = .returned (.bool true) ∧ Below w.heap.size w w' := by
  obtain ⟨ao, cap, hu, hc1, hc2⟩ := hv.shape
  subst hu
  unfold fltC
  have hbC : Below w.heap.size w ((w.alloc (.cells #[.int .i64 c, .int .i64 a] 26)).alloc (.cells #[.int .i64 c, .int .i64 a] 26)) := (below_alloc' _ _).trans ((below_alloc' _ _).mono (by simp))
  have HBC := hide hbC
  by_cases hc : c = 0
  · subst hc
    have HCL := hide (hcl rfl)
    clear hcl hbad hbC
    go_enter Try.func23, Try.ntmps23
    go_wp2_with fail
    refine (HCL.out _ HBC.out).mono ?_
    rintro e w1 ⟨v1, rfl, hr1, hb1⟩
    have hbw1 := HBC.out.trans (hb1.mono (by simp; omega))
    go_wp2_with fail
    refine (SameCells_any _ _ cs _ (hv.below hbw1) hr1).mono ?_
    rintro e w2 ⟨rfl, hb2⟩
    have hbw2 := hbw1.trans (hb2.mono hbw1.size)
    go_wp2_with fail
    go_ret
    exact ⟨rfl, hbw2⟩
  · have hcb : (c != 0) = true := by simp [hc]
    have he := hbad hc
    subst he
    clear hcl hbad hc hbC
    go_enter Try.func23, Try.ntmps23
    go_wp2_with fail
    go_ret
    exact ⟨by simp, HBC.out⟩

theorem find_seen {cs : List Cl} {rows : List (List UInt8)} {row col : ByteArray} {t : Int} (hck : (checkC cs).1 = 0) :
    ∃ (fv : ByteArray) (fo : Bool) (fn gx gy : Int), findV cs rows (filtB cs) row col t = .tuple #[.string fv, .bool fo, .int .i64 fn, fltC (gx, gy)] ∧
      ((isNumB t = false ∧ fv = ⟨#[]⟩ ∧ fo = false ∧ fn = 0 ∧ gx = 3 ∧ gy = -1) ∨ (isNumB t = true ∧ gx = 0 ∧ gy = 0 ∧ fv = (seenR cs (row.toList, col.toList) t).1.val ∧ fo = (seenR cs (row.toList, col.toList) t).2 ∧ fn = if hasB (filtB cs) row.data.toList then toReadN rows row.toList else 0)) := by
  unfold findV
  cases hn : isNumB t
  · rw [getC_range hck hn, if_pos (by decide)]
    exact ⟨_, _, _, _, _, rfl, .inl ⟨rfl, rfl, rfl, rfl, rfl, rfl⟩⟩
  · have hs := get_seen (row := row) (col := col) hck hn
    have hz := seen_none (row := row) (col := col) hck hn
    rw [if_neg (by rw [hs]; simp)]
    cases hh : hasB (filtB cs) row.data.toList
    · rw [if_pos rfl]
      have hz' := hz hh
      rw [hs] at hz'
      simp only [Prod.mk.injEq] at hz'
      exact ⟨_, _, _, _, _, rfl, .inr ⟨rfl, rfl, rfl, hz'.1.symm, hz'.2.1.symm, by simp⟩⟩
    · rw [if_neg (by simp), hs]
      exact ⟨_, _, _, _, _, rfl, .inr ⟨rfl, rfl, rfl, rfl, rfl, by simp⟩⟩

theorem filtB_le9 {cs : List Cl} (hl : cs.length ≤ 500) : 0 < (filtB cs).length ∧ (filtB cs).length ≤ 1000000 := by
  rw [filtB_len]
  refine ⟨filtN_pos cs, ?_⟩
  have := rowsGo_len cs none
  unfold filtN rowsU
  omega

theorem num_no {t : Int} (h : isNumB t = false) : t < 0 ∨ (¬ t < 0 ∧ 1000000000 < t) := by
  unfold isNumB at h
  simp at h
  omega

theorem num_yes {t : Int} (h : isNumB t = true) : ¬ t < 0 ∧ ¬ 1000000000 < t := by
  unfold isNumB at h
  simp at h
  omega

set_option maxRecDepth 100000 in
set_option maxHeartbeats 8000000 in
theorem fileOpens_any (v : Value) (t : Int) (bs : List UInt8) (row col : ByteArray) (w : World) (hv : Rd w v (bc bs)) (_ht : -9223372036854775808 ≤ t ∧ t ≤ 9223372036854775807) (hrow : row.size ≤ 9223372036854775807) :
    Calls Try.prog 4 #[v, .string row, .string col, .int .i64 t] w fun e w' => e = .returned (.bool true) ∧ Below w.heap.size w w' := by
  obtain ⟨ao, cap, hvv, hc1, hc2⟩ := hv.shape
  rw [bc_length] at hvv hc1
  subst hvv
  unfold maxLen at hc2
  go_enter Try.func4, Try.ntmps4
  go_wp2_with fail
  refine (fileBegun_any _).mono ?_
  rintro e w1 ⟨rfl, hb1⟩
  by_cases hbig : 100000 < bs.length
  · have hbig' : (100000 : Int) < (bs.length : Int) := by omega
    go_wp2_with fail
    go_ret
    exact ⟨rfl, hb1⟩
  have hbig' : (bs.length : Int) ≤ 100000 := by omega
  go_wp2_with fail
  refine (ownBytes_any _ bs _ (hv.below hb1) (by omega)).mono ?_
  rintro e w2 ⟨v2, rfl, hr2, hb2, -⟩
  have hbw2 := hb1.trans (hb2.mono hb1.size)
  obtain ⟨xo, xcap, hvx, -, -⟩ := hr2.shape
  rw [bc_length] at hvx
  subst hvx
  clear hb1 hb2 hbig
  go_wp2_with fail
  refine (FOpen_any _ bs _ hr2).mono ?_
  rintro e w3 ⟨v3, rfl, hC3, hb3⟩
  have hr3 := hr2.below hb3
  have hbw3 := hbw2.trans (hb3.mono hbw2.size)
  have hOP := fun (W : World) (h : Rd W (.slice ao bs.length cap) (bc bs)) => OpenedFile_any _ bs W h
  clear hr2 hb3 hbw2
  rcases openF_cases bs with ⟨hx, hO1⟩ | ⟨hO2, hck, hl5, hfl⟩
  · have hM := fun (W : World) (h : Rd W (.slice xo bs.length xcap) (bc bs)) => May_bad _ bs row W hx h
    have hFi := fun (W : World) (h : Rd W (.slice xo bs.length xcap) (bc bs)) => Find_bad _ bs row col t W hx h
    generalize openF bs = O at *
    obtain ⟨⟨cs, rows, bits⟩, x, y⟩ := O
    simp only [Prod.mk.injEq] at hx hO1 hM hFi hOP hC3 ⊢
    obtain ⟨rfl, rfl, rfl⟩ := hO1
    have HM := hide hM
    have HFI := hide hFi
    have HOP := hide hOP
    have HX := hide hx
    have hxb : (x == 0) = false := beq_eq_false_iff_ne.2 hx
    have hxb2 : (x != 0) = true := by simp [hx]
    clear hM hFi hOP hx
    obtain ⟨lo, lcap, hv3, -, -⟩ := hC3.shape
    subst hv3
    unfold fltC
    have hA := Bk.new w3 26 #[.int .i64 x, .int .i64 y]
    have hCA := hC3.alloc (.cells #[.int .i64 x, .int .i64 y] 26)
    have hrA := hr3.alloc (.cells #[.int .i64 x, .int .i64 y] 26)
    have hbwA : Below w.heap.size w (w3.alloc (.cells #[.int .i64 x, .int .i64 y] 26)) := hbw3.alloc hbw3.size _
    go_wp2_with fail
    generalize w3.alloc (.cells #[.int .i64 x, .int .i64 y] 26) = wA at *
    generalize w3.heap.size = zA at *
    clear hC3 hr3 hbw3
    refine (HM.out _ hrA).mono ?_
    rintro e w4 ⟨rfl, hb4⟩
    have hA4 := hA.below hb4 hA.lt
    have hC4 := hCA.below hb4
    have hr4 := hrA.below hb4
    have hbw4 := hbwA.trans (hb4.mono hbwA.size)
    clear hA hCA hrA hbwA hb4
    unfold fltC
    have hab := below_alloc' w4 (.cells #[.int .i64 x, .int .i64 y] 26)
    have hB := Bk.new w4 26 #[.int .i64 x, .int .i64 y]
    have hAB := hA4.below hab hA4.lt
    have hCB := hC4.below hab
    have hrB := hr4.below hab
    have hbwB := hbw4.trans (hab.mono hbw4.size)
    clear hab hA4 hC4 hr4
    go_wp2_with fail
    generalize w4.alloc (.cells #[.int .i64 x, .int .i64 y] 26) = wB at *
    generalize w4.heap.size = zB at *
    clear hbw4
    refine (HFI.out _ hrB).mono ?_
    rintro e w5 ⟨rfl, hb5⟩
    have hA5 := hAB.below hb5 hAB.lt
    have hB5 := hB.below hb5 hB.lt
    have hC5 := hCB.below hb5
    have hr5 := hrB.below hb5
    have hbw5 := hbwB.trans (hb5.mono hbwB.size)
    clear hAB hB hCB hrB hbwB hb5
    unfold fltC
    have hab := below_alloc' w5 (.cells #[.int .i64 x, .int .i64 y] 26)
    have hE := Bk.new w5 26 #[.int .i64 x, .int .i64 y]
    have hAC := hA5.below hab hA5.lt
    have hBC := hB5.below hab hB5.lt
    have hCC := hC5.below hab
    have hrC := hr5.below hab
    have hbwC := hbw5.trans (hab.mono hbw5.size)
    clear hab hA5 hB5 hC5 hr5
    go_wp2_with fail
    generalize w5.alloc (.cells #[.int .i64 x, .int .i64 y] 26) = wC at *
    generalize w5.heap.size = zC at *
    clear hbw5
    refine (HOP.out _ (hv.below hbwC)).mono ?_
    rintro e w6 ⟨v6, u6, gs, rfl, hC6, hE6, -, hb6⟩
    have hA6 := hAC.below hb6 hAC.lt
    have hB6 := hBC.below hb6 hBC.lt
    have hE9 := hE.below hb6 hE.lt
    have hL6 := hCC.below hb6
    have hr6 := hrC.below hb6
    have hbw6 := hbwC.trans (hb6.mono hbwC.size)
    clear hAC hBC hE hCC hrC hbwC hb6
    simp only at hC6 ⊢
    obtain ⟨co, ccap, hv6, -, -⟩ := hC6.shape
    subst hv6
    obtain ⟨eo, ecap, hu6, -, -⟩ := hE6.shape
    subst hu6
    unfold fltC
    have hab : Below w6.heap.size w6 ((w6.alloc (.cells #[.slice co ([] : List Cl).length ccap] 22)).alloc (.cells #[.int .i64 x, .int .i64 y] 26)) := (below_alloc' _ _).trans ((below_alloc' _ _).mono (by simp))
    have hW := (Bk.new w6 22 #[.slice co ([] : List Cl).length ccap]).below (below_alloc' _ (.cells #[.int .i64 x, .int .i64 y] 26)) (by simp)
    have hD := Bk.new2 w6 (.cells #[.slice co ([] : List Cl).length ccap] 22) 26 #[.int .i64 x, .int .i64 y]
    have hAD := hA6.below hab hA6.lt
    have hBD := hB6.below hab hB6.lt
    have hED := hE9.below hab hE9.lt
    have hLD := hL6.below hab
    have hrD := hr6.below hab
    have hbwD := hbw6.trans (hab.mono hbw6.size)
    have hzW : w6.heap.size < w6.heap.size + 1 := by omega
    clear hab hA6 hB6 hE9 hL6 hr6
    go_upto_region 10 with fail
    simp only [List.length_nil] at *
    generalize (w6.alloc (.cells #[.slice co 0 ccap] 22)).alloc (.cells #[.int .i64 x, .int .i64 y] 26) = wD at *
    generalize hzD : w6.heap.size + 1 = zD at *
    generalize w6.heap.size = zW at *
    clear hbw6 hzD hzW
    have a0 := hAD.cell 0
    have a1 := hAD.cell 1
    have b0 := hBD.cell 0
    have b1 := hBD.cell 1
    have d0 := hD.cell 0
    have d1 := hD.cell 1
    simp at a0 a1 b0 b1 d0 d1
    go_wp2_with fail
    refine (cellsAsO_true _ _ [] x y _ hLD (fun _ => rfl) (fun h => absurd h HX.out)).mono ?_
    rintro e w7 ⟨rfl, hb7⟩
    have hB7 := hBD.below hb7 hBD.lt
    have hE7 := hED.below hb7 hED.lt
    have hD7 := hD.below hb7 hD.lt
    have hr7 := hrD.below hb7
    have hbw7 := hbwD.trans (hb7.mono hbwD.size)
    clear a0 a1 b0 b1 d0 d1 hAD hBD hED hD hrD hbwD hb7 hLD hW
    have b0 := hB7.cell 0
    have b1 := hB7.cell 1
    have d0 := hD7.cell 0
    have d1 := hD7.cell 1
    have e0 := hE7.cell 0
    have e1 := hE7.cell 1
    simp at b0 b1 d0 d1 e0 e1
    go_wp2_with fail
    refine (Same_any _ _ bs bs _ hr7 (hv.below hbw7)).mono ?_
    rintro e w8 ⟨rfl, rfl⟩
    rw [beq_self_eq_true]
    go_wp2_with fail
    go_ret
    exact ⟨by simp, hbw7⟩
  · obtain ⟨hn1, hn2⟩ := filtB_le9 hl5
    have hM0 := fun (W : World) (cs : List Cl) (rows : List (List UInt8)) (bits : List UInt8) hO (h : Rd W (.slice xo bs.length xcap) (bc bs)) h1 h2 => May_ok _ bs row W cs rows bits hO h hrow h1 h2
    have hFi0 := fun (W : World) (cs : List Cl) (rows : List (List UInt8)) (bits : List UInt8) hO (h : Rd W (.slice xo bs.length xcap) (bc bs)) h1 h2 => Find_full _ bs row col t W cs rows bits hO h hrow h1 h2
    generalize openF bs = O at *
    obtain ⟨⟨cs, rows, bits⟩, x, y⟩ := O
    simp only [Prod.mk.injEq] at hO2 hck hl5 hfl hn1 hn2 hOP hC3 ⊢
    obtain ⟨rfl, rfl⟩ := hO2
    subst hfl
    have hM := fun W h => hM0 W cs rows (filtB cs) rfl h hn1 hn2
    have hFi := fun W h => hFi0 W cs rows (filtB cs) rfl h hn1 hn2
    clear hM0 hFi0
    obtain ⟨fv, fo, fn, gx, gy, hfv, hcase⟩ := @find_seen cs rows row col t hck
    rw [hfv] at hFi
    have hMB := fun (W : World) (u : Value) (h : RdC W u cs) => MayBe_any u cs row W h (by omega) (fun c hc => by rw [ba_size]; have := (codeC_parts (fine_code hck hc)).2.1; omega) hrow
    have hpw := fine_pw hck
    have hSC := fun (W : World) (u : Value) (h : RdC W u cs) => SeenCell_any u cs row col t W h hpw
    generalize hasB (filtB cs) row.data.toList = hb at *
    have HM := hide hM
    have HFI := hide hFi
    have HOP := hide hOP
    have HMB := hide hMB
    have HSC := hide hSC
    have HPW := hide hpw
    have HCS := hide hcase
    clear hM hFi hOP hMB hSC hpw hcase hfv hck hn1 hn2 hl5
    obtain ⟨lo, lcap, hv3, -, -⟩ := hC3.shape
    subst hv3
    unfold fltC
    have hA := Bk.new w3 26 #[.int .i64 0, .int .i64 0]
    have hCA := hC3.alloc (.cells #[.int .i64 0, .int .i64 0] 26)
    have hrA := hr3.alloc (.cells #[.int .i64 0, .int .i64 0] 26)
    have hbwA : Below w.heap.size w (w3.alloc (.cells #[.int .i64 0, .int .i64 0] 26)) := hbw3.alloc hbw3.size _
    go_wp2_with fail
    generalize w3.alloc (.cells #[.int .i64 0, .int .i64 0] 26) = wA at *
    generalize w3.heap.size = zA at *
    clear hC3 hr3 hbw3
    refine (HM.out _ hrA).mono ?_
    rintro e w4 ⟨rfl, hb4⟩
    have hA4 := hA.below hb4 hA.lt
    have hC4 := hCA.below hb4
    have hr4 := hrA.below hb4
    have hbw4 := hbwA.trans (hb4.mono hbwA.size)
    clear hA hCA hrA hbwA hb4
    unfold fltC
    have hab := below_alloc' w4 (.cells #[.int .i64 0, .int .i64 0] 26)
    have hB := Bk.new w4 26 #[.int .i64 0, .int .i64 0]
    have hAB := hA4.below hab hA4.lt
    have hCB := hC4.below hab
    have hrB := hr4.below hab
    have hbwB := hbw4.trans (hab.mono hbw4.size)
    clear hab hA4 hC4 hr4
    go_wp2_with fail
    generalize w4.alloc (.cells #[.int .i64 0, .int .i64 0] 26) = wB at *
    generalize w4.heap.size = zB at *
    clear hbw4
    refine (HFI.out _ hrB).mono ?_
    rintro e w5 ⟨rfl, hb5⟩
    have hA5 := hAB.below hb5 hAB.lt
    have hB5 := hB.below hb5 hB.lt
    have hC5 := hCB.below hb5
    have hr5 := hrB.below hb5
    have hbw5 := hbwB.trans (hb5.mono hbwB.size)
    clear hAB hB hCB hrB hbwB hb5
    unfold fltC
    have hab := below_alloc' w5 (.cells #[.int .i64 gx, .int .i64 gy] 26)
    have hE := Bk.new w5 26 #[.int .i64 gx, .int .i64 gy]
    have hAC := hA5.below hab hA5.lt
    have hBC := hB5.below hab hB5.lt
    have hCC := hC5.below hab
    have hrC := hr5.below hab
    have hbwC := hbw5.trans (hab.mono hbw5.size)
    clear hab hA5 hB5 hC5 hr5
    go_wp2_with fail
    generalize w5.alloc (.cells #[.int .i64 gx, .int .i64 gy] 26) = wC at *
    generalize w5.heap.size = zC at *
    clear hbw5
    refine (HOP.out _ (hv.below hbwC)).mono ?_
    rintro e w6 ⟨v6, u6, gs, rfl, hC6, hE6, hgs0, hb6⟩
    have hgs := hgs0 rfl
    clear hgs0
    simp only at hgs
    have HGS := hide hgs
    have hA6 := hAC.below hb6 hAC.lt
    have hB6 := hBC.below hb6 hBC.lt
    have hE9 := hE.below hb6 hE.lt
    have hL6 := hCC.below hb6
    have hr6 := hrC.below hb6
    have hbw6 := hbwC.trans (hb6.mono hbwC.size)
    clear hAC hBC hE hCC hrC hbwC hb6 hgs
    simp only at hC6 ⊢
    generalize hEe : ic (gs.map fun g => (g.length : Int)) = EE at *
    have HEE := hide hEe
    clear hEe
    obtain ⟨co, ccap, hv6, -, -⟩ := hC6.shape
    subst hv6
    obtain ⟨eo, ecap, hu6, -, -⟩ := hE6.shape
    subst hu6
    unfold fltC
    have hab : Below w6.heap.size w6 ((w6.alloc (.cells #[.slice co cs.length ccap] 22)).alloc (.cells #[.int .i64 0, .int .i64 0] 26)) := (below_alloc' _ _).trans ((below_alloc' _ _).mono (by simp))
    have hW := (Bk.new w6 22 #[.slice co cs.length ccap]).below (below_alloc' _ (.cells #[.int .i64 0, .int .i64 0] 26)) (by simp)
    have hD := Bk.new2 w6 (.cells #[.slice co cs.length ccap] 22) 26 #[.int .i64 0, .int .i64 0]
    have hAD := hA6.below hab hA6.lt
    have hBD := hB6.below hab hB6.lt
    have hED := hE9.below hab hE9.lt
    have hLD := hL6.below hab
    have hrD := hr6.below hab
    have hCD := hC6.below hab
    have hUD := hE6.below hab
    have hbwD := hbw6.trans (hab.mono hbw6.size)
    have hzCD : zC ≠ w6.heap.size + 1 := by have := hE9.lt; omega
    have hzWD : w6.heap.size ≠ w6.heap.size + 1 := by omega
    have hzw : w.heap.size ≤ w6.heap.size + 1 := by have := hbw6.size; omega
    clear hab hA6 hB6 hE9 hL6 hr6 hC6 hE6
    go_upto_region 10 with fail
    generalize (w6.alloc (.cells #[.slice co cs.length ccap] 22)).alloc (.cells #[.int .i64 0, .int .i64 0] 26) = wD at *
    generalize hzD : w6.heap.size + 1 = zD at *
    generalize w6.heap.size = zW at *
    clear hbw6 hzD
    have a0 := hAD.cell 0
    have a1 := hAD.cell 1
    have b0 := hBD.cell 0
    have b1 := hBD.cell 1
    have d0 := hD.cell 0
    have d1 := hD.cell 1
    simp at a0 a1 b0 b1 d0 d1
    have HCL : Hid (∀ W, Below wD.heap.size wD W → Calls Try.prog 24 #[.pointer (some ⟨zW, 0, none⟩)] W fun e w' => ∃ v', e = .returned v' ∧ RdC w' v' cs ∧ Below W.heap.size W w') := hide (fun W h => Opens1_any zW _ cs W ((hW.below h hW.lt).cell 0) (hCD.below h))
    have hCAS := cellsAsO_true (.pointer (some ⟨zW, 0, none⟩)) (.slice lo cs.length lcap) cs 0 0 wD hLD (fun h => absurd rfl h) (fun _ => HCL.out)
    unfold fltC at hCAS
    simp only at hCAS
    have HCAS := hide hCAS
    clear hCAS
    go_wp2_with fail
    refine HCAS.out.mono ?_
    rintro e w7 ⟨rfl, hb7⟩
    have hB7 := hBD.below hb7 hBD.lt
    have hE7 := hED.below hb7 hED.lt
    have hD7 := hD.below hb7 hD.lt
    have hW7 := hW.below hb7 hW.lt
    have hr7 := hrD.below hb7
    have hC7 := hCD.below hb7
    have hU7 := hUD.below hb7
    have hbw7 := hbwD.trans (hb7.mono hbwD.size)
    clear a0 a1 b0 b1 d0 d1 hAD hBD hED hD hrD hbwD hb7 hLD hW hCD hUD HCL
    have b0 := hB7.cell 0
    have b1 := hB7.cell 1
    have d0 := hD7.cell 0
    have d1 := hD7.cell 1
    have e0 := hE7.cell 0
    have e1 := hE7.cell 1
    have q0 := hW7.cell 0
    simp at b0 b1 d0 d1 e0 e1 q0
    go_wp2_with fail
    refine (Same_any _ _ bs bs _ hr7 (hv.below hbw7)).mono ?_
    rintro e w8 ⟨rfl, rfl⟩
    rw [beq_self_eq_true]
    go_wp2_with fail
    refine (HMB.out _ _ hC7).mono ?_
    rintro e w9 ⟨rfl, hb9⟩
    have hE9 := hE7.below hb9 hE7.lt
    have hD9 := hD7.below hb9 hD7.lt
    have hW9 := hW7.below hb9 hW7.lt
    have hC9 := hC7.below hb9
    have hU9 := hU7.below hb9
    have hbw9 := hbw7.trans (hb9.mono hbw7.size)
    clear b0 b1 d0 d1 e0 e1 q0 hB7 hE7 hD7 hW7 hr7 hC7 hU7 hbw7 hb9
    have d0 := hD9.cell 0
    have d1 := hD9.cell 1
    have d2 := hD9.frozen 0
    have d3 := hD9.frozen 1
    have dl := hD9.lt
    have e0 := hE9.cell 0
    have e1 := hE9.cell 1
    have q0 := hW9.cell 0
    simp at d0 d1 e0 e1 q0
    rcases HCS.out with ⟨hn, rfl, rfl, rfl, rfl, rfl⟩ | ⟨hn, rfl, rfl, hfv, hfo, hfn⟩
    · rcases num_no hn with ht | ⟨ht, ht2⟩
      all_goals
        go_wp2_with fail
        refine (FC_any 3 (-1) _).mono ?_
        rintro e w10 ⟨rfl, hb10⟩
        have hE10 := hE9.below hb10 hE9.lt
        have hD10 := hD9.below hb10 hD9.lt
        have hbw10 := hbw9.trans (hb10.mono hbw9.size)
        clear d0 d1 d2 d3 dl e0 e1 q0
        have d0 := hD10.cell 0
        have d1 := hD10.cell 1
        have d2 := hD10.frozen 0
        have d3 := hD10.frozen 1
        have dl := hD10.lt
        have e0 := hE10.cell 0
        have e1 := hE10.cell 1
        simp at d0 d1 e0 e1
        unfold fltC
        go_wp2_with fail
        go_ret
        exact ⟨by simp, (hbw10.setCell (by exact hzw) _).setCell (by exact hzw) _⟩
    · obtain ⟨ht, ht2⟩ := num_yes hn
      have HFV := hide hfv
      have HFO := hide hfo
      have HFN := hide hfn
      clear hfv hfo hfn
      go_wp2_with fail
      refine (HMB.out _ _ hC9).mono ?_
      rintro e w10 ⟨rfl, hb10⟩
      have hW10 := hW9.below hb10 hW9.lt
      have hC10 := hC9.below hb10
      have hU10 := hU9.below hb10
      have hbw10 := hbw9.trans (hb10.mono hbw9.size)
      clear d0 d1 d2 d3 dl e0 e1 q0 hE9 hD9 hW9 hC9 hU9 hbw9 hb10
      have q0 := hW10.cell 0
      simp at q0
      cases hb
      · have hfn : fn = 0 := by rw [HFN.out]; simp
        subst hfn
        go_wp2_with fail
        refine (HSC.out _ _ hC10).mono ?_
        rintro e w11 ⟨rfl, hb11⟩
        have hbw11 := hbw10.trans (hb11.mono hbw10.size)
        have hf1 := HFV.out
        have hf2 := HFO.out
        generalize seenR cs (row.toList, col.toList) t = SR at *
        obtain ⟨c, ok⟩ := SR
        simp only at hf1 hf2
        subst hf1 hf2
        unfold cA
        go_wp2_with fail
        go_ret
        exact ⟨by simp, hbw11.alloc hbw11.size _⟩
      · obtain ⟨hg1, hg2, hg3⟩ := HGS.out
        have hfn : fn = toReadN (headsB gs) row.toList := by rw [HFN.out, hg2]; simp
        have hBF := BlocksFor_any (.slice co cs.length ccap) (.slice eo EE.length ecap) gs row w10 (by rw [← hg1]; exact hC10) (by rw [HEE.out]; exact hU10) (by rw [← hg1]; exact HPW.out) hg3
        generalize toReadN (headsB gs) row.toList = N at *
        subst hfn
        have HBF := hide hBF
        clear hBF hg1 hg2 hg3 HGS HFN
        go_wp2_with fail
        refine HBF.out.mono ?_
        rintro e w11 ⟨rfl, rfl⟩
        go_wp2_with fail
        refine (HSC.out _ _ hC10).mono ?_
        rintro e w12 ⟨rfl, hb12⟩
        have hbw12 := hbw10.trans (hb12.mono hbw10.size)
        have hf1 := HFV.out
        have hf2 := HFO.out
        generalize seenR cs (row.toList, col.toList) t = SR at *
        obtain ⟨c, ok⟩ := SR
        simp only at hf1 hf2
        subst hf1 hf2
        unfold cA
        go_wp2_with fail
        go_ret
        exact ⟨by simp, hbw12.alloc hbw12.size _⟩

end Go.Proofs.Ytlebbkbbmgmmjac

/-
  From the arguments as the row reads them to what the walks ask of them. Nothing of a program stands here.
-/
namespace Go.Proofs.Ytlebbkbbmgmmjac
open Go.ChangeShapes Go.WideShapes Go.ChangeAt Go.RowKit

section
variable {H : Type} {enc : TypeId × Value → H} {P : Program} {W : World}

theorem rd_of_cells {w : World} {a : Addr} {len cap : Nat} {xs : List Value} (hl : xs.length = len) (h1 : len ≤ cap) (h2 : cap ≤ maxLen) (h : ∀ i, i < len → w.cell? (a.add i) = xs[i]?) : Rd w (.slice (some a) len cap) xs := by
  refine ⟨some a, cap, by rw [hl], by omega, h2, (fun h => by cases h), fun b hb j u hu => ?_⟩
  cases hb
  rw [h j (by have := (List.getElem?_eq_some_iff.1 hu).1; omega), hu]

theorem open_ic {t e : TypeId} {a : Option Addr} {len cap : Nat} {d : DataW H} {ps : List MemPlace} (ht : P.underlying t = some (.slice e)) (he : P.underlying e = some (.int .i64)) (hc : P.cellsOf e = 1)
    (h : DataW.Trod enc P W 0 (fun _ => true) true t (.slice a len cap) d ps) : ∃ zs : List Int, Rd W (.slice a len cap) (ic zs) := by
  obtain ⟨fuel, hf⟩ := h
  rcases open_ints ht he hc hf with ⟨hcs, _⟩ | ⟨x, l, c, zs, hcs, _, hl, hm, hz, _, hcell, hwz⟩
  · simp [Value.cells] at hcs
    obtain ⟨rfl, rfl, rfl⟩ := hcs
    exact ⟨[], Rd.nil _⟩
  · simp [Value.cells] at hcs
    obtain ⟨rfl, rfl, rfl⟩ := hcs
    simp at hz
    refine ⟨zs.take len, rd_of_cells (by rw [ic_length, List.length_take]; omega) hl hm fun i hi => ?_⟩
    rw [hcell i (by omega)]
    simp [ic, List.getD, hi, show i < zs.length by omega]

theorem open_bc {t e : TypeId} {a : Option Addr} {len cap fuel : Nat} {d : DataW H} {ps : List MemPlace} (ht : P.underlying t = some (.slice e)) (he : P.underlying e = some (.int .u8)) (hc : P.cellsOf e = 1)
    (hf : DataW.trod enc P W 0 (fun _ => true) true fuel t [.slice a len cap] = some (d, ps)) : ∃ bs : List UInt8, Rd W (.slice a len cap) (bc bs) := by
  rcases open_ints ht he hc hf with ⟨hcs, _⟩ | ⟨x, l, c, zs, hcs, _, hl, hm, hz, _, hcell, hwz⟩
  · simp at hcs
    obtain ⟨rfl, rfl, rfl⟩ := hcs
    exact ⟨[], Rd.nil _⟩
  · simp at hcs
    obtain ⟨rfl, rfl, rfl⟩ := hcs
    simp at hz
    refine ⟨(zs.take len).map fun n => UInt8.ofNat n.toNat, rd_of_cells (by rw [bc_length, List.length_map, List.length_take]; omega) hl hm fun i hi => ?_⟩
    rw [hcell i (by omega)]
    have hi' : i < zs.length := by omega
    have hb := bounds_u8 (hwz zs[i] (List.getElem_mem hi'))
    have e : ((UInt8.ofNat zs[i].toNat).toNat : Int) = zs[i] := by
      simp only [UInt8.toNat_ofNat']
      omega
    simp only [bc, List.getElem?_map, List.getElem?_take, if_pos hi, List.getElem?_eq_getElem hi', Option.map_some, List.getD, Option.getD_some, e]

theorem open_bc' {t e : TypeId} {a : Option Addr} {len cap : Nat} {d : DataW H} {ps : List MemPlace} (ht : P.underlying t = some (.slice e)) (he : P.underlying e = some (.int .u8)) (hc : P.cellsOf e = 1)
    (h : DataW.Trod enc P W 0 (fun _ => true) true t (.slice a len cap) d ps) : ∃ bs : List UInt8, Rd W (.slice a len cap) (bc bs) := by
  obtain ⟨fuel, hf⟩ := h
  exact open_bc ht he hc (by simpa [Value.cells] using hf)

theorem weightsAll_mem {e : TypeId} : ∀ {l : List (DataW H)} {d : DataW H} {n : Nat}, d ∈ l → n ∈ d.weights P e → n ∈ DataW.weightsAll P e l
  | x :: l, d, n, hd, hn => by
    simp only [DataW.weightsAll, List.mem_append]
    rcases List.mem_cons.1 hd with rfl | hd
    · exact .inl hn
    · exact .inr (weightsAll_mem hd hn)

/-- A list of texts; none is longer than the form's reach. -/
theorem open_sc {t e : TypeId} {a : Option Addr} {len cap : Nat} {d : DataW H} {ps : List MemPlace} (ht : P.underlying t = some (.slice e)) (he : P.underlying e = some .string) (hc : P.cellsOf e = 1)
    (h : DataW.Trod enc P W 0 (fun _ => true) true t (.slice a len cap) d ps) (hw : ∀ n ∈ d.weights P t, n ≤ reachBytes) : ∃ ss : List (List UInt8), Rd W (.slice a len cap) (sc ss) ∧ ∀ s ∈ ss, s.length ≤ 140737488351232 := by
  obtain ⟨fuel, hf⟩ := h
  rcases open_strings ht he hc hf with ⟨hcs, _⟩ | ⟨x, l, c, zs, hcs, _, hl, hm, hz, hx, hcell, hwz⟩
  · simp [Value.cells] at hcs
    obtain ⟨rfl, rfl, rfl⟩ := hcs
    exact ⟨[], Rd.nil _, by simp⟩
  · simp [Value.cells] at hcs
    obtain ⟨rfl, rfl, rfl⟩ := hcs
    simp at hz
    simp only [Prod.mk.injEq] at hx
    obtain ⟨rfl, _⟩ := hx
    refine ⟨(zs.take len).map fun s => s.data.toList, rd_of_cells (by rw [sc_length, List.length_map, List.length_take]; omega) hl hm fun i hi => ?_, fun s hs => ?_⟩
    · rw [hcell i (by omega)]
      have hi' : i < zs.length := by omega
      simp only [sc, List.getElem?_map, List.getElem?_take, if_pos hi, List.getElem?_eq_getElem hi', Option.map_some, List.getD, Option.getD_some, Array.toArray_toList]
    · obtain ⟨y, hy, rfl⟩ := List.mem_map.1 hs
      have := hw y.data.toList.length (by
        simp only [DataW.weights, ht, List.mem_cons, List.mem_append]
        refine .inr (.inl (weightsAll_mem (d := .lit (.string y.data.toList)) (List.mem_map.2 ⟨y, hy, rfl⟩) ?_))
        simp [DataW.weights])
      simpa [reachBytes] using this

end
end Go.Proofs.Ytlebbkbbmgmmjac

/-
  From lists of cells, and asks, as the row reads them to what the walks ask of them. Nothing of a program stands here.
-/
namespace Go.Proofs.Ytlebbkbbmgmmjac
open Go.ChangeShapes Go.WideShapes Go.ChangeAt Go.RowKit Go.Joins Go.Deep

section
variable {H : Type} {enc : TypeId × Value → H} {P : Program} {W : World}

theorem choose_list {α : Type} {p : Nat → α → Prop} : ∀ (n : Nat), (∀ i, i < n → ∃ x, p i x) → ∃ l : List α, l.length = n ∧ ∀ i x, l[i]? = some x → p i x
  | 0, _ => ⟨[], rfl, fun i x h => by simp at h⟩
  | n + 1, h => by
    obtain ⟨l, hl, hp⟩ := choose_list n (fun i hi => h i (by omega))
    obtain ⟨x, hx⟩ := h n (by omega)
    refine ⟨l ++ [x], by simp [hl], fun i y hy => ?_⟩
    by_cases hi : i < n
    · rw [List.getElem?_append_left (by omega)] at hy
      exact hp i y hy
    · have hlt := (List.getElem?_eq_some_iff.1 hy).1
      simp at hlt
      have e : i = n := by omega
      subst e
      rw [List.getElem?_append_right (by omega), hl] at hy
      simp at hy
      subst hy
      exact hx

theorem cc_div {cs : List Cl} {j : Nat} {u : Value} (h : (cc cs)[j]? = some u) : ∃ i k c, j = i * 5 + k ∧ k < 5 ∧ cs[i]? = some c ∧ (cv c)[k]? = some u := by
  have hl := (List.getElem?_eq_some_iff.1 h).1
  rw [cc_length] at hl
  have hi : j / 5 < cs.length := by omega
  refine ⟨j / 5, j % 5, cs[j / 5], by omega, by omega, List.getElem?_eq_getElem hi, ?_⟩
  rw [← cc_get cs (j / 5) hi (j % 5) (by omega), ← h]
  congr 1
  omega

/-- A list of cells. -/
theorem open_cells {t e : TypeId} {f0 f1 f2 f3 f4 : Field} {v : Value} {fuel : Nat} {y : DataW H × List MemPlace} (ht : P.underlying t = some (.slice e)) (he : P.underlying e = some (.struct #[f0, f1, f2, f3, f4])) (hone : oneCellFields P #[f0, f1, f2, f3, f4] = true) (hC : P.cellsOf e = 5)
    (h0 : P.underlying f0.type = some .string) (h1 : P.underlying f1.type = some .string) (h2 : P.underlying f2.type = some (.int .i64)) (h3 : P.underlying f3.type = some .bool) (h4 : P.underlying f4.type = some .string)
    (h : DataW.trod enc P W 0 (fun _ => true) true fuel t [v] = some y) : ∃ cs : List Cl, RdC W v cs ∧ ∀ c ∈ cs, -9223372036854775808 ≤ c.time ∧ c.time ≤ 9223372036854775807 := by
  rcases open_slice ht h with ⟨hcs, _⟩ | ⟨a, len, cap, m, n, D, Pl, hcs, hb, hl, hm, hmm, hxx, hx⟩
  · simp only [List.cons.injEq, and_true] at hcs
    subst hcs
    exact ⟨[], RdC.nil _, by simp⟩
  · simp only [List.cons.injEq, and_true] at hcs
    subst hcs
    obtain ⟨o0, k0⟩ := hone_of hone 0 f0 rfl
    obtain ⟨o1, k1⟩ := hone_of hone 1 f1 rfl
    obtain ⟨o2, k2⟩ := hone_of hone 2 f2 rfl
    obtain ⟨o3, k3⟩ := hone_of hone 3 f3 rfl
    obtain ⟨o4, k4⟩ := hone_of hone 4 f4 rfl
    have hlm : len ≤ m := by rw [hmm]; split <;> omega
    have each : ∀ i, i < len → ∃ c : Cl, (∀ k u, (cv c)[k]? = some u → W.cell? (a.add (i * 5 + k)) = some u) ∧ -9223372036854775808 ≤ c.time ∧ c.time ≤ 9223372036854775807 := by
      intro i hi
      obtain ⟨cs', g1, g2⟩ := hx i (by omega)
      rw [hC] at g1
      obtain ⟨_, hlen, hcell⟩ := World.cells?_some g1
      obtain ⟨xs, k, hk, hxy, _, hxl, hf⟩ := DataW.trod_struct he g2
      match xs, hxl, cs', hlen with
      | [y0, y1, y2, y3, y4], _, [v0, v1, v2, v3, v4], _ =>
        have q0 := hf 0 f0 rfl
        have q1 := hf 1 f1 rfl
        have q2 := hf 2 f2 rfl
        have q3 := hf 3 f3 rfl
        have q4 := hf 4 f4 rfl
        simp [o0, o1, o2, o3, o4, k0, k1, k2, k3, k4] at q0 q1 q2 q3 q4
        obtain ⟨s0, e0, _, _⟩ := DataW.trod_string h0 q0
        obtain ⟨s1, e1, _, _⟩ := DataW.trod_string h1 q1
        obtain ⟨s2, e2, _, w2⟩ := DataW.trod_int h2 q2
        obtain ⟨s3, e3, _⟩ := DataW.trod_bool h3 q3
        obtain ⟨s4, e4, _, _⟩ := DataW.trod_string h4 q4
        simp only [List.cons.injEq, and_true] at e0 e1 e2 e3 e4
        subst e0 e1 e2 e3 e4
        refine ⟨⟨s0, s1, s2, s3, s4⟩, fun k u hu => ?_, bounds_i64 w2⟩
        have hk5 : k < 5 := by have := (List.getElem?_eq_some_iff.1 hu).1; simpa [cv] using this
        have := hcell k hk5
        rw [add_add] at this
        rw [this, ← hu]
        rfl
    obtain ⟨cs, hcl, hcp⟩ := choose_list len each
    refine ⟨cs, ⟨some a, cap, by rw [hcl], by omega, hm, (fun h => by cases h), fun b hb' j u hu => ?_⟩, fun c hc => ?_⟩
    · cases hb'
      obtain ⟨i, k, c, rfl, _, hi, hk⟩ := cc_div hu
      exact (hcp i c hi).1 k u hk
    · obtain ⟨i, hi, e⟩ := List.getElem_of_mem hc
      exact (hcp i c (by rw [List.getElem?_eq_getElem hi, e])).2

theorem open_cellsV {t e : TypeId} {f0 f1 f2 f3 f4 : Field} {a : Option Addr} {len cap : Nat} {d : DataW H} {ps : List MemPlace} (ht : P.underlying t = some (.slice e)) (he : P.underlying e = some (.struct #[f0, f1, f2, f3, f4])) (hone : oneCellFields P #[f0, f1, f2, f3, f4] = true) (hC : P.cellsOf e = 5)
    (h0 : P.underlying f0.type = some .string) (h1 : P.underlying f1.type = some .string) (h2 : P.underlying f2.type = some (.int .i64)) (h3 : P.underlying f3.type = some .bool) (h4 : P.underlying f4.type = some .string)
    (h : DataW.Trod enc P W 0 (fun _ => true) true t (.slice a len cap) d ps) : ∃ cs : List Cl, RdC W (.slice a len cap) cs ∧ ∀ c ∈ cs, -9223372036854775808 ≤ c.time ∧ c.time ≤ 9223372036854775807 := by
  obtain ⟨fuel, hf⟩ := h
  exact open_cells ht he hone hC h0 h1 h2 h3 h4 (y := (d, ps)) (by simpa [Value.cells] using hf)

/-- An ask: two texts and two numbers. -/
theorem open_ask {r : Reach} {b0 : Nat} {t : TypeId} {f0 f1 f2 f3 : Field} {v : Value} {d : DataW H} {p : List MemPlace} (hs : P.underlying t = some (.struct #[f0, f1, f2, f3])) (hone : oneCellFields P #[f0, f1, f2, f3] = true) (hC : P.cellsOf t = 4)
    (h0 : P.underlying f0.type = some .string) (h1 : P.underlying f1.type = some .string) (h2 : P.underlying f2.type = some (.int .i64)) (h3 : P.underlying f3.type = some (.int .i64))
    (hv : Value.okWide P W r b0 t v) (h : DataW.Trod enc P W 0 (fun _ => true) true t v d p) :
    ∃ (a b : ByteArray) (x y : Int), v = .agg #[.string a, .string b, .int .i64 x, .int .i64 y] ∧ (-9223372036854775808 ≤ x ∧ x ≤ 9223372036854775807) ∧ -9223372036854775808 ≤ y ∧ y ≤ 9223372036854775807 := by
  obtain ⟨c0, c1, c2, c3, y0, y1, y2, y3, m, rfl, rfl, rfl, hy0, hy1, hy2, hy3⟩ := open_agg4 hs hone hC hv h
  obtain ⟨s0, e0, _, _⟩ := DataW.trod_string h0 hy0
  obtain ⟨s1, e1, _, _⟩ := DataW.trod_string h1 hy1
  obtain ⟨s2, e2, _, w2⟩ := DataW.trod_int h2 hy2
  obtain ⟨s3, e3, _, w3⟩ := DataW.trod_int h3 hy3
  simp only [List.cons.injEq, and_true] at e0 e1 e2 e3
  subst e0 e1 e2 e3
  exact ⟨s0, s1, s2, s3, rfl, bounds_i64 w2, bounds_i64 w3⟩

end
end Go.Proofs.Ytlebbkbbmgmmjac

/-
  Texts that come in: how long they can be.
-/
namespace Go.Proofs.Ytlebbkbbmgmmjac
open Go.ChangeShapes Go.WideShapes Go.ChangeAt Go.RowKit

theorem okWide_stringB {P : Program} {w : World} {base : Nat} {t : TypeId} {v : Value} (ht : P.underlying t = some .string) (h : Value.okWide P w .any base t v) : ∃ s, v = .string s ∧ s.size ≤ 9223372036854775807 := by
  obtain ⟨s, rfl⟩ := okWide_string ht h
  refine ⟨s, rfl, ?_⟩
  simp [Value.okWide, Cell.okWide, Cell.ok, ht] at h
  have h2 : IntKind.i64.max = 9223372036854775807 := rfl
  omega

end Go.Proofs.Ytlebbkbbmgmmjac
