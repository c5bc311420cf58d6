/-
  Texts joined: FileW8, RefT, CellB1, CellR1, CellR2, CellR6, FileR5.
-/
import Derived.Test.YtlebbkbbmgmmjacMFileMakes8
/-
  The walk over file.Make.
-/
namespace Go.Proofs.Ytlebbkbbmgmmjac
open Go.RowKit

theorem flatC_mem_le : ∀ (L : List (List Cl)) (g : List Cl), g ∈ L → (flatC g).length ≤ (flatC L.flatten).length
  | [], _, h => by simp at h
  | x :: L, g, h => by
    rw [List.flatten_cons, flatC_append, List.length_append]
    rcases List.mem_cons.1 h with rfl | h
    · omega
    · have := flatC_mem_le L g h
      omega

theorem flatC_all {cs : List Cl} (h : ∀ c ∈ cs, codeC c = 0) : (flatC cs).length ≤ 330 * cs.length := by
  induction cs with
  | nil => simp [flatC]
  | cons c cs ih =>
    rw [flatC_cons, List.length_append, List.length_cons]
    have := ih (fun d hd => h d (List.mem_cons_of_mem _ hd))
    have := cellB_len (h c (List.mem_cons_self ..))
    omega

theorem chunk_mem {size : Nat} {cs g : List Cl} (h : g ∈ chunks size cs) {c : Cl} (hc : c ∈ g) : c ∈ cs := by
  rw [← chunks_flat size cs]
  exact List.mem_flatten.2 ⟨g, h, hc⟩

theorem indexB_le {gs : List (List Cl)} (h : ∀ g ∈ gs, g ≠ [] ∧ ∀ c ∈ g, codeC c = 0) : (indexB gs).length ≤ 60 * gs.length := by
  induction gs with
  | nil => simp [indexB]
  | cons g gs ih =>
    have e : indexB (g :: gs) = ixB g ++ indexB gs := by simp [indexB]
    rw [e, List.length_append, List.length_cons]
    have := ih (fun x hx => h x (List.mem_cons_of_mem _ hx))
    have h1 := txB_lenF (headRow g)
    have h2 := encN_length (flatC g).length
    have h3 : (headRow g).data.toList.length ≤ 40 := by
      obtain ⟨hn, hc⟩ := h g (List.mem_cons_self ..)
      cases g with
      | nil => exact absurd rfl hn
      | cons c l => exact (codeC_parts (hc c (List.mem_cons_self ..))).2.1
    unfold ixB
    rw [List.length_append]
    omega

theorem fileBB_le {cs : List Cl} {size : Nat} (h : ∀ c ∈ cs, codeC c = 0) (hl : cs.length ≤ 500) : ∀ s ∈ fileBB cs size, s.length ≤ 200000 := by
  intro s hs
  unfold fileBB at hs
  rcases List.mem_append.1 hs with hs | hs
  · obtain ⟨g, hg, rfl⟩ := List.mem_map.1 hs
    have h1 := flatC_mem_le _ _ hg
    rw [chunks_flat] at h1
    have := flatC_all h
    omega
  · simp only [List.mem_cons, List.not_mem_nil, or_false] at hs
    rcases hs with rfl | rfl
    · have h1 := indexB_le (gs := chunks size cs) (fun g hg => ⟨chunkGo_ne size cs [] g hg, fun c hc => h c (chunk_mem hg hc)⟩)
      have := chunks_len size cs
      omega
    · rw [filtB_len]
      unfold filtN
      have := rowsGo_len cs none
      unfold rowsU
      omega

set_option maxRecDepth 100000 in
set_option maxHeartbeats 2000000 in
theorem Make_any (v : Value) (cs : List Cl) (size : Int) (w : World) (hv : RdC w v cs) :
    Calls Try.prog 10 #[v, .int .i64 size] w fun e w' => ∃ v', e = .returned (.tuple #[v', fltC (makeF cs size).2]) ∧ Rd w' v' (bc (makeF cs size).1) ∧ Below w.heap.size w w' ∧ New w.heap.size v' := by
  obtain ⟨ao, cap, hvv, hc1, hc2⟩ := hv.shape
  subst hvv
  unfold maxLen at hc2
  go_enter Try.func10, Try.ntmps10
  go_wp2_with fail
  have hR0 := Bk.new w 26 #[.int .i64 0, .int .i64 0]
  refine (CCheck_any _ cs _ (hv.alloc _)).mono ?_
  rintro e w1 ⟨rfl, hb1⟩
  have hR1 := hR0.below hb1 (by simp)
  have hbw1 : Below w.heap.size w w1 := (below_alloc' _ _).trans (hb1.mono (by simp))
  have hsz1 := hR1.lt
  clear hb1 hR0
  have r0 := hR1.cell 0
  have r1 := hR1.cell 1
  have r2 := hR1.frozen 0
  have r3 := hR1.frozen 1
  simp at r0 r1
  by_cases hc : (checkC cs).1 = 0
  · have hcz := checkC_zero hc
    have HC : Hid (∀ c ∈ cs, codeC c = 0) := hide (fun c h => fine_code hc h)
    rw [hcz]
    unfold fltC
    by_cases h5 : 500 < cs.length
    · have HE := hide (@makeF_many cs size hc h5)
      have h5' : (500 : Int) < (cs.length : Int) := by omega
      clear hcz hc
      go_wp2_with fail
      exact bodyPost_ret (v := .tuple #[.slice none 0 0, fltC (2, -1)]) (by simp [results, Try.results10, go_sem, fltC, r0, r1, hsz1]) rfl ⟨_, by rw [HE.out], by rw [HE.out]; exact Rd.nil _, by go_grown, New.nil _⟩
    · have h5' : (cs.length : Int) ≤ 500 := by omega
      by_cases hs : size < 50 ∨ 4000 < size
      · have HE := hide (@makeF_size cs size hc h5 hs)
        clear hcz hc
        have hs2 : size < 50 ∨ (50 ≤ size ∧ 4000 < size) := by omega
        clear hs
        rcases hs2 with h1 | ⟨h1, h2⟩
        all_goals
          go_wp2_with fail
          exact bodyPost_ret (v := .tuple #[.slice none 0 0, fltC (3, -1)]) (by simp [results, Try.results10, go_sem, fltC, r0, r1, hsz1]) rfl ⟨_, by rw [HE.out], by rw [HE.out]; exact Rd.nil _, by go_grown, New.nil _⟩
      · have HE := hide (@makeF_go cs size hc h5 hs)
        have h1 : 50 ≤ size := by omega
        have h2 : size ≤ 4000 := by omega
        obtain ⟨m, rfl⟩ := Int.eq_ofNat_of_zero_le (show 0 ≤ size by omega)
        rw [Int.toNat_natCast] at HE
        have HLE := hide (@fileBB_le cs m HC.out (by omega))
        clear hcz hc hs
        have hRA : Bk (w1.alloc (.cells #[.int .i64 0, .int .i64 0] 26)) w.heap.size 26 #[.int .i64 0, .int .i64 0] := hR1.below (below_alloc' _ _) hsz1
        have hbwA : Below w.heap.size w (w1.alloc (.cells #[.int .i64 0, .int .i64 0] 26)) := hbw1.trans ((below_alloc' _ _).mono (by omega))
        have hzA : (w1.alloc (.cells #[.int .i64 0, .int .i64 0] 26)).heap.size = w1.heap.size + 1 := by simp
        go_wp2_with fail
        generalize w1.alloc (.cells #[.int .i64 0, .int .i64 0] 26) = wA at *
        refine (blocksOf_any _ cs m _ (hv.below hbwA) (by omega) HC.out (by omega)).mono ?_
        rintro e w2 ⟨vb, vi, us, rfl, hob, hbd, hri, hofb, hofvi, hb2⟩
        have hbw2 : Below w.heap.size w w2 := hbwA.trans (hb2.mono hbwA.size)
        have hR2 := hRA.below hb2 (by omega)
        have hz2 := hb2.size
        obtain ⟨io, icap, hvi, _, _⟩ := hri.shape
        subst hvi
        clear r0 r1 r2 r3 hR1 hRA
        go_wp2_with fail
        refine (filterOf_any _ cs _ (hv.below hbw2) (by omega) (fun c h => by rw [ba_size]; have := (codeC_parts (HC.out c h)).2.1; omega)).mono ?_
        rintro e w3 ⟨vf, rfl, hrf, hb3, hnf⟩
        have hvlt := hob.lt
        have hofvf : Off vb vf := fun a l c hv _ h => by have h1 := (hvlt _ h).2; have h2 := hnf a l c hv; omega
        have hob3 := owns_below hob hb3
        have hbd3 := hbd.below hb3
        have hri3 := hri.below hb3
        have hR3 := hR2.below hb3 (by omega)
        have hbw3 : Below w.heap.size w w3 := hbw2.trans (hb3.mono hbw2.size)
        have hz3 := hb3.size
        clear hob hbd hri hR2 hb2 hb3
        obtain ⟨fo, fcap, hvf, _, _⟩ := hrf.shape
        subst hvf
        have hgl := chunks_len m cs
        go_wp2_with (at_builtin; go_must (refine wpList_append_rdE (hob3.alloc _) (Rd.lits _ _ _ (by simp)) Try.underlying60 Try.info24 rfl rfl rfl rfl rfl (by simp [Value.oneCell']) (by simp; omega) (by decide) (by simp; omega) ?_); intro v4 w4 ho4 hb4 he4)
        have hbA := below_alloc' w3 (.cells #[.slice io (bc (indexB (chunks m cs))).length icap, .slice fo (bc (filtB cs)).length fcap] 24)
        have hbd4 := (hbd3.below hbA).ext he4 hofb
        have hri4 := (hri3.below hbA).ext he4 hofvi
        have hrf4 := (hrf.below hbA).ext he4 hofvf
        have hbw4 : Below w.heap.size w w4 := hbw3.trans ((hbA.mono hbw3.size).trans (hb4.mono (by omega)))
        have hR4 : Bk w4 w.heap.size 26 #[.int .i64 0, .int .i64 0] := (hR3.below hbA hR3.lt).below hb4 (by omega)
        have hB4 : RdB w4 v4 (fileBB cs m) := by
          have h1 := (hbd4.snoc hri4).snoc hrf4
          have h2 := Rd.ofOwns ho4
          unfold fileBB
          rw [List.append_assoc] at h1
          refine Bds.toB (us := us ++ [.slice io (bc (indexB (chunks m cs))).length icap] ++ [.slice fo (bc (filtB cs)).length fcap]) ?_ (by simpa using h2)
          simpa using h1
        clear hbd4 hri4 hrf4 hbd3 hri3 hrf hob3 hofb hofvi hofvf hR3 ho4 he4 hb4 hbA
        refine (Frames_any _ (fileBB cs m) _ hB4 (fun s hs => by have := HLE.out s hs; omega)).mono ?_
        rintro e w5 ⟨v5, rfl, hr5, hb5, hn5⟩
        generalize framesR (fileBB cs m) = FR at *
        obtain ⟨X, fx, fy⟩ := FR
        simp only at hr5 ⊢
        unfold flt
        obtain ⟨xo, xcap, hvx, _, _⟩ := hr5.shape
        rw [bc_length] at hvx
        subst hvx
        have hR5 := hR4.below hb5 hR4.lt
        have hbw5 : Below w.heap.size w w5 := hbw4.trans (hb5.mono hbw4.size)
        have r0 := hR5.cell 0
        have r1 := hR5.cell 1
        have r2 := hR5.frozen 0
        have r3 := hR5.frozen 1
        have hsr := hR5.lt
        have hz4 := hbw4.size
        have hl4 := hR4.lt
        simp at r0 r1
        go_wp2_with fail
        exact bodyPost_ret (v := .tuple #[.slice xo X.length xcap, fltC (fx, fy)]) (by simp [results, Try.results10, go_sem, fltC, r0, r1]) rfl ⟨_, by rw [HE.out], by rw [HE.out]; exact (hr5.setNew hn5 (by exact hl4) _).setNew hn5 (by exact hl4) _, by go_grown, hn5.mono hz4⟩
  · have HE := hide (@makeF_bad cs size hc)
    have hcb : ((checkC cs).1 == 0) = false := beq_eq_false_iff_ne.2 hc
    have hcb2 : ((checkC cs).1 != 0) = true := by simp [hc]
    clear hc
    generalize checkC cs = r at *
    obtain ⟨x, y⟩ := r
    simp only at hcb hcb2
    unfold fltC
    go_wp2_with fail
    go_region
    all_goals
      go_wp2_with fail
      exact bodyPost_ret (v := .tuple #[.slice none 0 0, fltC (x, y)]) (by simp [results, Try.results10, go_sem, fltC, r0, r1, hsz1]) rfl ⟨_, by rw [HE.out], by rw [HE.out]; exact Rd.nil _, by go_grown, New.nil _⟩

end Go.Proofs.Ytlebbkbbmgmmjac

/-
  The walks over the document's texts.
-/
namespace Go.Proofs.Ytlebbkbbmgmmjac
open Go.RowKit

theorem run_append_rd {P : Program} {w : World} {t ty : TypeId} {base : Nat} {e : TypeId} {z : Value} {bytes : Nat}
    {v : Value} {n : Nat} {xs : List Value} {vx : Value} {news : List Value}
    (hown : w.ownsRow base e 1 v n xs) (hrd : Rd w vx news)
    (ht : P.underlying t = some (.slice e)) (hinf : (P.info? e).map (fun i => (i.zero, i.size, i.bytes)) = some (some z, 1, bytes)) (hzs : z.cells.size = 1)
    (h1 : ∀ u ∈ news, u.oneCell' = true) (h63 : n + news.length ≤ 2000000000000) (hbytes : bytes ≤ 64) (hbase : base ≤ w.heap.size) :
    ∃ v' w', (Builtin.append_ #[t, t] ty #[v, vx]).run P w = .ok v' w' ∧ w'.ownsRow base e 1 v' (n + news.length) (xs ++ news) ∧ Below base w w' ∧ w.grownBy w' v.ownBlock := by
  obtain ⟨i, hi, hz, hsize, hby⟩ := info_parts hinf
  have hlt := hown.lt
  have hbytes' : (n + news.length) * bytes ≤ 2000000000000 * 64 := Nat.mul_le_mul h63 hbytes
  obtain ⟨ao, cap, hvx, h2, h3, h4, h5⟩ := hrd
  subst hvx
  cases ao with
  | none =>
    have hc := h4 rfl
    have hnews : news = [] := List.eq_nil_of_length_eq_zero (by omega)
    subst hnews
    subst hc
    exact ⟨v, w, run_append_owned_none w base t ty e i 1 ht hi v n xs hown, by simpa using hown, Below.refl _ _, World.grownBy.refl _ _⟩
  | some ad =>
    obtain ⟨v', w', hr, ho', hg', _⟩ := run_append_own (P := P) w base t ty e i z 1 bytes ht hi hz hsize hby hzs (by decide) v n xs hown ad news.length cap news (by simp) (h5 ad rfl) h1 (by simp [maxLen]; omega) (by omega) hbase
    exact ⟨v', w', hr, ho', (Below.refl _ _).grown hg' hbase (fun k hk => (hlt k hk).1), hg'⟩

/-- The same as a step of a region that draws its order. -/
theorem step_append_rd {P : Program} {w : World} {ops : Array Oper} {o : Oper} {a : Act} {K : Act → World → Prop} {Q : Exit → Act → World → Prop} {E : Prop} {s x : Operand} {t : TypeId} {base : Nat} {e : TypeId} {z : Value} {bytes : Nat}
    {v : Value} {n : Nat} {xs : List Value} {vx : Value} {news : List Value}
    (hown : w.ownsRow base e 1 v n xs) (hrd : Rd w vx news)
    (ht : P.underlying t = some (.slice e)) (hinf : (P.info? e).map (fun i => (i.zero, i.size, i.bytes)) = some (some z, 1, bytes)) (hzs : z.cells.size = 1)
    (hgd : o.guard = none) (ho : o.op = .call { callee := .builtin .append, args := #[s, x], argTypes := #[t, t] })
    (hs : a.eval s = v) (hx : a.eval x = vx) (h1 : ∀ u ∈ news, u.oneCell' = true)
    (h63 : n + news.length ≤ 2000000000000) (hbytes : bytes ≤ 64) (hbase : base ≤ w.heap.size)
    (h : ∀ v' w', w'.ownsRow base e 1 v' (n + news.length) (xs ++ news) → Below base w w' → w.grownBy w' v.ownBlock → K (a.put o.dst v') w') :
    if Region.wanted o (yielded ops a.tmps) = true then Oper.wp P o a w K Q else E := by
  have hw : Region.wanted o (yielded ops a.tmps) = true := by simp [Region.wanted, hgd]
  rw [if_pos hw]
  obtain ⟨v', w', hr, h2, h3, h4⟩ := run_append_rd (ty := o.type) hown hrd ht hinf hzs h1 h63 hbytes hbase
  unfold Oper.wp execOp
  simp only [ho, resolve, invoke, builtin, Sem.run_bind, Sem.run_pure, Result.andThen_ok, List.map_toArray, List.map_cons, List.map_nil, hs, hx, hr]
  exact h v' w' h2 h3 h4

/-- A call of a Go function of one argument, as a step of a region that draws its order. -/
theorem step_call1 {P : Program} {w : World} {ops : Array Oper} {o : Oper} {a : Act} {K : Act → World → Prop} {Q : Exit → Act → World → Prop} {E : Prop} {f : FuncId} {x : Operand} {ats : Array TypeId} {v : Value} {R : Value → World → Prop}
    (hc : Calls P f #[v] w fun e w' => ∃ u, e = .returned u ∧ R u w') (hcf : ∀ args W, (callFunc f args).run P W = .ok (.enter f args) W)
    (hgd : o.guard = none) (ho : o.op = .call { callee := .value (.func f), args := #[x], argTypes := ats }) (hx : a.eval x = v)
    (h : ∀ u w', R u w' → K (a.put o.dst u) w') :
    if Region.wanted o (yielded ops a.tmps) = true then Oper.wp P o a w K Q else E := by
  have hw : Region.wanted o (yielded ops a.tmps) = true := by simp [Region.wanted, hgd]
  rw [if_pos hw]
  have he : execOp a.eval o = callFunc f #[v] := by
    cases o
    simp only at ho
    subst ho
    rw [execOp_call_go]
    simp [hx]
  unfold Oper.wp
  rw [he, hcf, Oper.upon_enter]
  exact hc.mono (by rintro e w' ⟨u, rfl, hr⟩; exact h u w' hr)

theorem enters53 (args : Array Value) (W : World) : (callFunc 53 args).run Try.prog W = .ok (.enter 53 args) W := by kernel_rfl

set_option maxRecDepth 100000 in
set_option maxHeartbeats 400000 in
theorem Written_own (s : List UInt8) (w : World) (hs : s.length ≤ 1000000000) :
    Calls Try.prog 53 #[.string ⟨s.toArray⟩] w fun e w' => ∃ v', e = .returned v' ∧ w'.ownsRow w.heap.size 5 1 v' (encN s.length ++ s).length (bc (encN s.length ++ s)) ∧ Below w.heap.size w w' := by
  go_enter Try.func53, Try.ntmps53
  go_wp2_with fail
  refine (Number_go 9 s.length w (by omega) (by omega) (Nat.le_refl _)).mono ?_
  rintro e w1 ⟨v1, rfl, ho1, hb1⟩
  have hl := enc_length 9 s.length
  have hsz := hb1.size
  go_wp2_with (at_builtin; go_must (refine wpList_append_strE ho1 Try.underlying24 Try.underlying9 Try.info5 rfl rfl rfl rfl (by omega) hsz ?_); intro v2 w2 ho2 hb2 hg2; clear hg2)
  go_ret
  exact ⟨v2, rfl, ho2, hb1.trans hb2⟩

theorem Written_any (s : List UInt8) (w : World) (hs : s.length ≤ 1000000000) :
    Calls Try.prog 53 #[.string ⟨s.toArray⟩] w fun e w' => ∃ v', e = .returned v' ∧ Rd w' v' (bc (encN s.length ++ s)) ∧ Below w.heap.size w w' ∧ New w.heap.size v' :=
  (Written_own s w hs).mono fun _ _ ⟨v', h1, h2, h3⟩ => ⟨v', h1, Rd.ofOwns h2, h3, New.owns h2⟩

/-- What ReadWritten answers, from what is left on. -/
def refTexts : Nat → List UInt8 → List (List UInt8) → List (List UInt8) × Int
  | 0, _, _ => ([], 0)
  | f + 1, bs, acc =>
    if bs = [] then (acc, -1)
    else match textAt bs with
      | none => ([], (acc.length : Int))
      | some (t, k) => refTexts f (bs.drop k) (acc ++ [t])

theorem refTexts_end {f : Nat} {acc : List (List UInt8)} : refTexts (f + 1) [] acc = (acc, -1) := by
  rw [refTexts, if_pos rfl]

theorem refTexts_bad {f : Nat} {bs : List UInt8} {acc : List (List UInt8)} (h : bs ≠ []) (hn : textAt bs = none) : refTexts (f + 1) bs acc = ([], (acc.length : Int)) := by
  rw [refTexts, if_neg h, hn]

theorem refTexts_step {f : Nat} {bs t : List UInt8} {acc : List (List UInt8)} {k : Nat} (h : bs ≠ []) (hn : textAt bs = some (t, k)) : refTexts (f + 1) bs acc = refTexts f (bs.drop k) (acc ++ [t]) := by
  rw [refTexts, if_neg h, hn]

theorem textAt_long {bs : List UInt8} {n k : Nat} (h : numAt bs = some (n, k)) (hl : bs.length < k + n) : textAt bs = none := by
  simp [textAt, h, hl]

theorem textAt_fits {bs : List UInt8} {n k : Nat} (h : numAt bs = some (n, k)) (hl : k + n ≤ bs.length) : textAt bs = some ((bs.drop k).take n, k + n) := by
  simp only [textAt, h]
  rw [if_neg (by omega)]

theorem textAt_no {bs : List UInt8} (h : numAt bs = none) : textAt bs = none := by simp [textAt, h]



end Go.Proofs.Ytlebbkbbmgmmjac

/-
  The walks beneath the laws of cells: the example, copies.
-/
namespace Go.Proofs.Ytlebbkbbmgmmjac
open Go.RowKit

def verC : List Cl := [⟨⟨#[114]⟩, ⟨#[99]⟩, 2, false, ⟨#[98]⟩⟩, ⟨⟨#[114]⟩, ⟨#[99]⟩, 1, false, ⟨#[97]⟩⟩]

set_option maxRecDepth 100000 in
set_option maxHeartbeats 400000 in
theorem versions_any (w : World) : Calls Try.prog 44 #[] w fun e w' => ∃ v', e = .returned v' ∧ RdC w' v' verC ∧ Below w.heap.size w w' := by
  go_enter Try.func44, Try.ntmps44
  go_wp2_with fail
  go_ret
  refine ⟨_, rfl, ?_, by go_grown⟩
  refine ⟨some ⟨w.heap.size, 0, none⟩, 2, rfl, by decide, by decide, (fun h => by cases h), fun a ha j v hv => ?_⟩
  cases ha
  rw [Addr.add_lit, Nat.zero_add, ← hv]
  refine ((Bk.new w 53 _).cell j).trans ?_
  simp [cc, cv, verC]

theorem getC_ver1 : getC verC ⟨#[114]⟩ ⟨#[99]⟩ 1 = (⟨#[97]⟩, true, (0, 0)) := by decide +kernel
theorem getC_ver0 : getC verC ⟨#[114]⟩ ⟨#[99]⟩ 0 = (⟨#[]⟩, false, (0, 0)) := by decide +kernel


set_option maxRecDepth 100000 in
set_option maxHeartbeats 400000 in
theorem ownCells_any (v : Value) (cs : List Cl) (w : World) (hv : RdC w v cs) (hl : cs.length ≤ 1000000) :
    Calls Try.prog 11 #[v] w fun e w' => ∃ v', e = .returned v' ∧ RdC w' v' cs ∧ Below w.heap.size w w' ∧ New w.heap.size v' := by
  obtain ⟨ao, cap, hvv, hc1, hc2⟩ := hv.shape
  subst hvv
  have hl2 : 0 + cs.length ≤ 1000000000 := by omega
  go_enter Try.func11, Try.ntmps11
  go_wp2_with (at_builtin; go_must (refine wpList_append_rdC (cs := []) (World.ownsRow_nil w w.heap.size 53 5) hv Try.underlying22 Try.info53 rfl rfl rfl rfl rfl hl2 (by decide) (Nat.le_refl _) ?_); intro v1 w1 ho1 hb1 hg1; clear hg1)
  go_ret
  exact ⟨_, rfl, RdC.ofOwns ho1, hb1, New.owns ho1⟩

def manyB (n : Int) : Bool := decide (150 < n ∧ n < 1000 ∨ 2000 < n)


end Go.Proofs.Ytlebbkbbmgmmjac

/-
  The walks over the document's answers of cells: their faults, and whether two lists are the same.
-/
namespace Go.Proofs.Ytlebbkbbmgmmjac
open Go.RowKit

theorem isNumB_true {n : Int} (h1 : 0 ≤ n) (h2 : n ≤ 1000000000) : isNumB n = true := by unfold isNumB; simp; omega
theorem isNumB_false {n : Int} (h : n < 0 ∨ 1000000000 < n) : isNumB n = false := by unfold isNumB; simp; omega

set_option maxRecDepth 100000 in
set_option maxHeartbeats 400000 in
theorem CellCode_any (c : Cl) (w : World) : Calls Try.prog 50 #[cA c] w fun e w' => e = .returned (.int .i64 (codeC c)) ∧ Below w.heap.size w w' := by
  unfold cA
  have hall : c.row.toList.isEmpty = true ∨ (c.row.toList.isEmpty = false ∧ 40 < (c.row.size : Int)) ∨ (c.row.toList.isEmpty = false ∧ (c.row.size : Int) ≤ 40 ∧ 40 < (c.col.size : Int)) ∨ (c.row.toList.isEmpty = false ∧ (c.row.size : Int) ≤ 40 ∧ (c.col.size : Int) ≤ 40 ∧ 200 < (c.val.size : Int)) ∨ (c.row.toList.isEmpty = false ∧ (c.row.size : Int) ≤ 40 ∧ (c.col.size : Int) ≤ 40 ∧ (c.val.size : Int) ≤ 200) := by
    cases c.row.toList.isEmpty
    · simp only [Bool.false_eq_true, false_or, true_and]
      omega
    · exact .inl rfl
  rcases hall with h0 | ⟨h0, h1⟩ | ⟨h0, h1, h2⟩ | ⟨h0, h1, h2, h3⟩ | ⟨h0, h1, h2, h3⟩
  iterate 4
    · have HE := hide (show codeC c = 8 by unfold codeC; rw [if_pos (by simp only [h0]; simp; try omega)])
      go_enter Try.func50, Try.ntmps50
      go_wp2_with fail
      go_ret
      exact ⟨by rw [HE.out]; rfl, by go_grown⟩
  · have hn : ¬ (c.row.toList.isEmpty = true ∨ 40 < (c.row.size : Int) ∨ 40 < (c.col.size : Int) ∨ 200 < (c.val.size : Int)) := by simp only [h0]; simp; omega
    have h4 : c.time < 0 ∨ (¬ c.time < 0 ∧ 1000000000 < c.time) ∨ (¬ c.time < 0 ∧ c.time ≤ 1000000000) := by omega
    rcases h4 with h4 | ⟨h4, h5⟩ | ⟨h4, h5⟩
    · have HE := hide (show codeC c = 3 by unfold codeC; rw [if_neg hn, if_pos (isNumB_false (by omega))])
      clear hn
      go_enter Try.func50, Try.ntmps50
      go_wp2_with fail
      go_ret
      exact ⟨by rw [HE.out]; rfl, by go_grown⟩
    · have HE := hide (show codeC c = 3 by unfold codeC; rw [if_neg hn, if_pos (isNumB_false (by omega))])
      clear hn
      go_enter Try.func50, Try.ntmps50
      go_wp2_with fail
      go_ret
      exact ⟨by rw [HE.out]; rfl, by go_grown⟩
    · have hi := isNumB_true (n := c.time) (by omega) h5
      cases h7 : c.gone <;> cases h6 : c.val.toList.isEmpty
      all_goals
        have HE := hide (show codeC c = _ by unfold codeC; rw [if_neg hn, if_neg (by rw [hi]; decide), h7, h6])
        clear hn hi
        go_enter Try.func50, Try.ntmps50
        go_wp2_with fail
        go_ret
        exact ⟨by rw [HE.out]; rfl, by go_grown⟩

/-- Does a stand ahead of b? -/
def aheadB (a b : Cl) : Bool := if a.row.toList == b.row.toList then (if a.col.toList == b.col.toList then decide (b.time < a.time) else Op.bytesLess a.col.toList b.col.toList) else Op.bytesLess a.row.toList b.row.toList

theorem aheadB_iff {a b : Cl} : aheadB a b = true ↔ Lt a b := by
  unfold aheadB Lt kl rc
  by_cases h1 : a.row.toList = b.row.toList
  · by_cases h2 : a.col.toList = b.col.toList
    · simp [h1, h2, bl_irrefl]
    · simp [h1, h2, bl_irrefl]
  · simp [h1]

theorem aheadB_ord {a b : Cl} : aheadB a b = decide (ordC a b < 0) := by
  rw [Bool.eq_iff_iff, aheadB_iff, decide_eq_true_eq, ordC_neg]

set_option maxRecDepth 100000 in
set_option maxHeartbeats 400000 in
theorem Ahead_any (a b : Cl) (w : World) : Calls Try.prog 51 #[cA a, cA b] w fun e w' => e = .returned (.bool (aheadB a b)) ∧ Below w.heap.size w w' := by
  unfold cA
  cases h1 : (a.row.toList == b.row.toList) <;> cases h2 : (a.col.toList == b.col.toList)
  all_goals
    have HE := hide (show aheadB a b = _ by unfold aheadB; rw [h1, h2])
    go_enter Try.func51, Try.ntmps51
    go_wp2_with fail
    go_ret
    exact ⟨by rw [HE.out]; rfl, by go_grown⟩

set_option maxRecDepth 100000 in
set_option maxHeartbeats 400000 in
theorem FC_any (c a : Int) (w : World) : Calls Try.prog 13 #[.int .i64 c, .int .i64 a] w fun e w' => e = .returned (fltC (c, a)) ∧ Below w.heap.size w w' := by
  go_enter Try.func13, Try.ntmps13
  go_wp2_with fail
  exact bodyPost_ret (v := fltC (c, a)) (by simp [results, Try.results13, go_sem, fltC]) rfl ⟨rfl, by go_grown⟩

/-- A fault's block and what is below, behind a call. -/
theorem flt_later {w wr w1 : World} (hbel : Below (w.heap.size + 1) (w.alloc (.cells #[.int .i64 0, .int .i64 0] 26)) wr) (hb : Below wr.heap.size wr w1) : Below (w.heap.size + 1) (w.alloc (.cells #[.int .i64 0, .int .i64 0] 26)) w1 :=
  hbel.trans (hb.mono (by have := hbel.size; simp at this; omega))

set_option maxRecDepth 100000 in
set_option maxHeartbeats 1000000 in
theorem CellsFault_any (v : Value) (cs : List Cl) (w : World) (hv : RdC w v cs) :
    Calls Try.prog 12 #[v] w fun e w' => e = .returned (fltC (checkC cs)) ∧ Below w.heap.size w w' := by
  obtain ⟨ao, cap, hvv, hc1, hc2, hat⟩ := hv.at
  subst hvv
  unfold maxLen at hc2
  by_cases hbig : 1000 < cs.length
  · have HE := hide (show checkC cs = (2, 0) by simp [checkC, faultR, hbig])
    go_enter Try.func12, Try.ntmps12
    go_wp2_with fail
    refine (FC_any 2 0 _).mono ?_
    rintro e w1 ⟨rfl, hb1⟩
    have hbel := flt_later (Below.refl _ _) hb1
    obtain ⟨hf0, hf1, hfr0, hfr1, hsz⟩ := two_later hbel
    have hbf := below_first hbel
    unfold fltC
    go_wp2_with fail
    exact bodyPost_ret (v := fltC (2, 0)) (by simp [results, Try.results12, go_sem, fltC, hf0, hf1]) rfl ⟨by rw [HE.out], by go_grown⟩
  · have HF := hide (show checkC cs = firstG (codeAt cs) cs.length 0 by simp [checkC, faultR, hbig])
    go_enter Try.func12, Try.ntmps12
    go_wp2_with fail
    go_loopw [3] (fun i wr => ∃ k : Nat, k ≤ cs.length ∧ i = .int .i64 k ∧ firstG (codeAt cs) (cs.length - k) k = checkC cs ∧ Below (w.heap.size + 1) (w.alloc (.cells #[.int .i64 0, .int .i64 0] 26)) wr)
      (fun i _ => cs.length - (intOf i).toNat)
    case atStart => exact ⟨0, by omega, rfl, by rw [HF.out]; rfl, Below.refl _ _⟩
    case round =>
      obtain ⟨k, hk, rfl, hgo, hbel⟩ := hrel
      have HG := hide hgo
      clear hgo
      by_cases hlt : k < cs.length
      · obtain ⟨b, off, rfl, hb, hcl⟩ := hat k hlt
        obtain ⟨c, hc⟩ : ∃ c, cs[k]? = some c := ⟨_, List.getElem?_eq_getElem hlt⟩
        have hck := hcl k hlt
        rw [(List.getElem?_eq_some_iff.1 hc).2] at hck
        have HCK := hide hck
        have hbf := below_first hbel
        obtain ⟨c0, c1, c2, c3, c4⟩ := hck.below hbf
        have hk1 : (0 : Int) ≤ (k : Int) := by omega
        have hk2 : (k : Int) < (cs.length : Int) := by omega
        go_wp2_with fail
        refine (CellCode_any c _).mono ?_
        rintro e w1 ⟨rfl, hb1⟩
        have hbel1 := flt_later hbel hb1
        obtain ⟨gf0, gf1, gfr0, gfr1, gsz⟩ := two_later hbel1
        have hbf1 := below_first hbel1
        clear c0 c1 c2 c3 c4 hb1 hbf hbel
        by_cases h0 : codeC c = 0
        · by_cases hk0 : k = 0
          · subst hk0
            have HE := hide (firstG_next (m := cs.length - 0) (codeAt_first hc h0) (by omega))
            have hd : decide ((0 : Int) < ((0 : Nat) : Int)) = false := by simp
            rw [h0]
            clear hc hcl hat hv hck
            go_wp2_with fail
            go_quiet (fail)
            go_wp2_with fail
            go_roundw
            case rel => exact ⟨1, by omega, by go_num, by rw [← HG.out, HE.out]; rfl, below_drewN hbel1 _⟩
            case measure => simp [intOf]; omega
          · obtain ⟨j, hkj⟩ : ∃ j, k = j + 1 := ⟨k - 1, by omega⟩
            obtain ⟨d, hd⟩ : ∃ c, cs[j]? = some c := ⟨_, List.getElem?_eq_getElem (by omega)⟩
            have hdi := hcl j (by omega)
            rw [(List.getElem?_eq_some_iff.1 hd).2] at hdi
            have HCA : Hid (codeAt cs k = if 0 ≤ ordC d c then 10 else 0) := hide (by rw [hkj] at hc ⊢; exact codeAt_later hc hd h0)
            have hg : decide (0 < k) = true := by simp; omega
            have hw : IntKind.i64.wrap ((k : Int) - 1) = (j : Int) := by rw [IntKind.wrap_i64]; omega
            have hj1 : (0 : Int) ≤ (j : Int) := by omega
            have hj2 : (j : Int) < (cs.length : Int) := by omega
            rw [h0]
            have hkeep : ∀ W, Below w.heap.size w W → (W.cell? ⟨b, off + k * 5, none⟩ = some (.string c.row) ∧ W.cell? ⟨b, off + k * 5 + 1, none⟩ = some (.string c.col) ∧ W.cell? ⟨b, off + k * 5 + 2, none⟩ = some (.int .i64 c.time) ∧ W.cell? ⟨b, off + k * 5 + 3, none⟩ = some (.bool c.gone) ∧ W.cell? ⟨b, off + k * 5 + 4, none⟩ = some (.string c.val)) ∧ (W.cell? ⟨b, off + j * 5, none⟩ = some (.string d.row) ∧ W.cell? ⟨b, off + j * 5 + 1, none⟩ = some (.string d.col) ∧ W.cell? ⟨b, off + j * 5 + 2, none⟩ = some (.int .i64 d.time) ∧ W.cell? ⟨b, off + j * 5 + 3, none⟩ = some (.bool d.gone) ∧ W.cell? ⟨b, off + j * 5 + 4, none⟩ = some (.string d.val)) := fun W h => by
              obtain ⟨c0, c1, c2, c3, c4⟩ := HCK.out.below h
              obtain ⟨d0, d1, d2, d3, d4⟩ := hdi.below h
              exact ⟨⟨c0, c1, c2, c3, c4⟩, d0, d1, d2, d3, d4⟩
            have HK := hide hkeep
            obtain ⟨⟨c0, c1, c2, c3, c4⟩, d0, d1, d2, d3, d4⟩ := hkeep w1 hbf1
            clear hkeep hcl hat hv hc hd hck hdi hkj hk0
            go_wp2_with fail
            cases h7 : aheadB d c
            · have HE : Hid (codeAt cs k = 10) := hide (HCA.out.trans (if_pos (by rw [aheadB_ord, decide_eq_false_iff_not] at h7; omega)))
              have HFG := hide (firstG_hit (f := codeAt cs) (m := cs.length - k) (i := k) (by rw [HE.out]; decide) (by omega))
              go_region_held3 (fun W => (W.cell? ⟨b, off + k * 5, none⟩ = some (.string c.row) ∧ W.cell? ⟨b, off + k * 5 + 1, none⟩ = some (.string c.col) ∧ W.cell? ⟨b, off + k * 5 + 2, none⟩ = some (.int .i64 c.time) ∧ W.cell? ⟨b, off + k * 5 + 3, none⟩ = some (.bool c.gone) ∧ W.cell? ⟨b, off + k * 5 + 4, none⟩ = some (.string c.val)) ∧ (W.cell? ⟨b, off + j * 5, none⟩ = some (.string d.row) ∧ W.cell? ⟨b, off + j * 5 + 1, none⟩ = some (.string d.col) ∧ W.cell? ⟨b, off + j * 5 + 2, none⟩ = some (.int .i64 d.time) ∧ W.cell? ⟨b, off + j * 5 + 3, none⟩ = some (.bool d.gone) ∧ W.cell? ⟨b, off + j * 5 + 4, none⟩ = some (.string d.val))) (exact HK.out _ (by go_grown)) (first
                | (go_at_call 51; refine (Ahead_any d c _).mono ?_; rintro e w2 ⟨rfl, hb2⟩; rw [h7]; have hb12 : Below w1.heap.size w1 w2 := Below.trans (by go_grown) hb2; have hbw2 : Below w.heap.size w w2 := hbf1.trans (hb12.mono (by omega))))
              have hbel2 := flt_later hbel1 hb12
              go_wp2_with fail
              refine (FC_any 10 k _).mono ?_
              rintro e w3 ⟨rfl, hb3⟩
              have hbel3 := flt_later hbel2 hb3
              clear gf0 gf1 gfr0 gfr1 gsz
              obtain ⟨gf0, gf1, gfr0, gfr1, gsz⟩ := two_later hbel3
              have hbf3 := below_first hbel3
              unfold fltC
              go_wp2_with fail
              exact bodyPost_ret (v := fltC (10, k)) (by simp [results, Try.results12, go_sem, fltC, gf0, gf1]) rfl ⟨by rw [← HG.out, HFG.out, HE.out], by go_grown⟩
            · have HE : Hid (codeAt cs k = 0) := hide (HCA.out.trans (if_neg (by rw [aheadB_ord, decide_eq_true_eq] at h7; omega)))
              have HFG := hide (firstG_next (m := cs.length - k) HE.out (by omega))
              go_region_held3 (fun W => (W.cell? ⟨b, off + k * 5, none⟩ = some (.string c.row) ∧ W.cell? ⟨b, off + k * 5 + 1, none⟩ = some (.string c.col) ∧ W.cell? ⟨b, off + k * 5 + 2, none⟩ = some (.int .i64 c.time) ∧ W.cell? ⟨b, off + k * 5 + 3, none⟩ = some (.bool c.gone) ∧ W.cell? ⟨b, off + k * 5 + 4, none⟩ = some (.string c.val)) ∧ (W.cell? ⟨b, off + j * 5, none⟩ = some (.string d.row) ∧ W.cell? ⟨b, off + j * 5 + 1, none⟩ = some (.string d.col) ∧ W.cell? ⟨b, off + j * 5 + 2, none⟩ = some (.int .i64 d.time) ∧ W.cell? ⟨b, off + j * 5 + 3, none⟩ = some (.bool d.gone) ∧ W.cell? ⟨b, off + j * 5 + 4, none⟩ = some (.string d.val))) (exact HK.out _ (by go_grown)) (first
                | (go_at_call 51; refine (Ahead_any d c _).mono ?_; rintro e w2 ⟨rfl, hb2⟩; rw [h7]; have hb12 : Below w1.heap.size w1 w2 := Below.trans (by go_grown) hb2; have hbw2 : Below w.heap.size w w2 := hbf1.trans (hb12.mono (by omega))))
              have hbel2 := flt_later hbel1 hb12
              go_wp2_with fail
              go_roundw
              case rel => exact ⟨k + 1, by omega, by go_num, by rw [← HG.out, HFG.out]; congr 1, hbel2⟩
              case measure => simp [intOf]; omega
        · have hb : (codeC c != 0) = true := by simp [h0]
          have HC := hide (codeAt_own hc h0)
          have HE := hide (firstG_hit (f := codeAt cs) (m := cs.length - k) (i := k) (by rw [HC.out]; exact h0) (by omega))
          clear h0 hc hcl hat hv hck
          go_wp2_with fail
          refine (FC_any _ k _).mono ?_
          rintro e w2 ⟨rfl, hb2⟩
          have hbel2 := flt_later hbel1 hb2
          clear gf0 gf1 gfr0 gfr1 gsz
          obtain ⟨gf0, gf1, gfr0, gfr1, gsz⟩ := two_later hbel2
          have hbf2 := below_first hbel2
          unfold fltC
          go_wp2_with fail
          exact bodyPost_ret (v := fltC (codeC c, k)) (by simp [results, Try.results12, go_sem, fltC, gf0, gf1]) rfl ⟨by rw [← HG.out, HE.out, HC.out], by go_grown⟩
      · have hz : cs.length - k = 0 := by omega
        rw [hz] at HG
        obtain ⟨gf0, gf1, gfr0, gfr1, gsz⟩ := two_later hbel
        have hbf := below_first hbel
        go_wp2_with fail
        exact bodyPost_ret (v := fltC (0, 0)) (by simp [results, Try.results12, go_sem, fltC, gf0, gf1]) rfl ⟨by rw [← HG.out]; rfl, by go_grown⟩

end Go.Proofs.Ytlebbkbbmgmmjac

/-
  The walks over the document's answers of cells: the same cells.
-/
namespace Go.Proofs.Ytlebbkbbmgmmjac
open Go.RowKit

theorem ba_ext {a b : ByteArray} (h : a.toList = b.toList) : a = b := by
  rw [ByteArray.toList_eq, ByteArray.toList_eq] at h
  cases a; cases b
  simp at h
  rw [h]

/-- Are two cells the same? -/
def eqC (a b : Cl) : Bool := (a.row.toList == b.row.toList) && ((a.col.toList == b.col.toList) && (decide (a.time = b.time) && ((a.gone == b.gone) && (a.val.toList == b.val.toList))))

theorem eqC_iff {a b : Cl} : eqC a b = true ↔ a = b := by
  unfold eqC
  constructor
  · intro h
    simp only [Bool.and_eq_true, beq_iff_eq, decide_eq_true_eq] at h
    obtain ⟨h1, h2, h3, h4, h5⟩ := h
    cases a; cases b
    simp only at h1 h2 h3 h4 h5
    rw [ba_ext h1, ba_ext h2, h3, h4, ba_ext h5]
  · rintro rfl
    simp

def sameC : List Cl → List Cl → Bool
  | [], [] => true
  | a :: l, b :: m => eqC a b && sameC l m
  | _, _ => false

theorem sameC_refl : ∀ l : List Cl, sameC l l = true
  | [] => rfl
  | a :: l => by simp [sameC, eqC_iff.2 rfl, sameC_refl l]

set_option maxRecDepth 100000 in
set_option maxHeartbeats 1000000 in
theorem SameCells_any (v u : Value) (cs : List Cl) (w : World) (hv : RdC w v cs) (hu : RdC w u cs) :
    Calls Try.prog 18 #[v, u] w fun e w' => e = .returned (.bool true) ∧ Below w.heap.size w w' := by
  obtain ⟨ao, cap, hvv, hc1, hc2, hat⟩ := hv.at
  obtain ⟨bo, cbp, huu, hd1, hd2, hbt⟩ := hu.at
  subst hvv huu
  unfold maxLen at hc2 hd2
  have hnb : ((cs.length : Int) != cs.length) = false := by simp
  go_enter Try.func18, Try.ntmps18
  go_wp2_with fail
  go_loopw [5] (fun i wr => ∃ k : Nat, k ≤ cs.length ∧ i = .int .i64 k ∧ Below w.heap.size w wr)
    (fun i _ => cs.length - (intOf i).toNat)
  case atStart => exact ⟨0, by omega, rfl, Below.refl _ _⟩
  case round =>
    obtain ⟨k, hk, rfl, hbel⟩ := hrel
    by_cases hlt : k < cs.length
    · obtain ⟨b, off, rfl, hb, hcl⟩ := hat k hlt
      obtain ⟨b2, off2, rfl, hb2, hcl2⟩ := hbt k hlt
      have h1 := (hcl k hlt).below hbel
      have h2 := (hcl2 k hlt).below hbel
      generalize cs[k] = c at *
      obtain ⟨c0, c1, c2, c3, c4⟩ := h1
      obtain ⟨d0, d1, d2, d3, d4⟩ := h2
      have hk1 : (0 : Int) ≤ (k : Int) := by omega
      have hk2 : (k : Int) < (cs.length : Int) := by omega
      clear hcl hcl2 hat hbt hv hu
      go_wp2_with fail
      go_quiet (fail)
      go_wp2_with fail
      go_roundw
      case rel => exact ⟨k + 1, by omega, by go_num, below_drewN hbel _⟩
      case measure => simp [intOf]; omega
    · go_wp2_with fail
      go_ret
      exact ⟨rfl, hbel⟩

end Go.Proofs.Ytlebbkbbmgmmjac

/-
  The walks over the document's bytes of cells: CellBytes.
-/
namespace Go.Proofs.Ytlebbkbbmgmmjac
open Go.RowKit

theorem WrittenS_own (s : ByteArray) (w : World) (hs : s.data.toList.length ≤ 1000000000) :
    Calls Try.prog 53 #[.string s] w fun e w' => ∃ v', e = .returned v' ∧ w'.ownsRow w.heap.size 5 1 v' (txB s).length (bc (txB s)) ∧ Below w.heap.size w w' := by
  have h := Written_own s.data.toList w hs
  rw [ba_data] at h
  exact h

theorem owns_base' {w : World} {base base' : Nat} {e : TypeId} {size : Nat} {v : Value} {n : Nat} {xs : List Value} (h : w.ownsRow base' e size v n xs) (hb : base ≤ base') : w.ownsRow base e size v n xs := by
  refine ⟨h.1, ?_⟩
  rcases h.2 with hn | ⟨g, cap, cur, hv, hg, r⟩
  · exact .inl hn
  · exact .inr ⟨g, cap, cur, hv, Nat.le_trans hb hg, r⟩

theorem txB_len (s : ByteArray) : (txB s).length ≤ 10 + s.data.toList.length := by
  unfold txB
  rw [List.length_append]
  have := encN_length s.data.toList.length
  omega

set_option maxRecDepth 100000 in
set_option maxHeartbeats 1000000 in
theorem CellBytes_any (c : Cl) (w : World) (hc : codeC c = 0) :
    Calls Try.prog 52 #[cA c] w fun e w' => ∃ v', e = .returned v' ∧ Rd w' v' (bc (cellB c)) ∧ Below w.heap.size w w' ∧ New w.heap.size v' := by
  obtain ⟨_, h1, h2, h3, h4, h5⟩ := codeC_parts hc
  have l1 := txB_len c.row
  have l2 := txB_len c.col
  have l3 := txB_len c.val
  obtain ⟨m, hm⟩ := Int.eq_ofNat_of_zero_le h4
  have l4 := encN_length m
  have HM : Hid (c.time.toNat = m) := hide (by rw [hm]; simp)
  have HMT := hide hm
  have hm9 : (m : Int) ≤ 1000000000 := by omega
  have hgn : c.gone = true ∧ encN (goneN c) = [UInt8.ofNat 1] ∨ c.gone = false ∧ encN (goneN c) = [UInt8.ofNat 0] := by unfold goneN; cases c.gone <;> simp <;> rfl
  have HEE : Hid (cellB c = txB c.row ++ (txB c.col ++ (encN c.time.toNat ++ (encN (goneN c) ++ txB c.val)))) := hide rfl
  clear hm hc h4 h5
  unfold cA
  go_enter Try.func52, Try.ntmps52
  go_wp2_with fail
  have hB0 : Bk (w.alloc (.cells #[.string c.row, .string c.col, .int .i64 c.time, .bool c.gone, .string c.val] 53)) w.heap.size 53 (ca c) := Bk.new _ _ _
  have hb0 : Below w.heap.size w (w.alloc (.cells #[.string c.row, .string c.col, .int .i64 c.time, .bool c.gone, .string c.val] 53)) := below_alloc' _ _
  have hz0 : (w.alloc (.cells #[.string c.row, .string c.col, .int .i64 c.time, .bool c.gone, .string c.val] 53)).heap.size = w.heap.size + 1 := by simp
  generalize w.alloc (.cells #[.string c.row, .string c.col, .int .i64 c.time, .bool c.gone, .string c.val] 53) = wA at *
  have hkeep : ∀ W, Below wA.heap.size wA W → W.cell? ⟨w.heap.size, 0, none⟩ = some (.string c.row) ∧ W.cell? ⟨w.heap.size, 1, none⟩ = some (.string c.col) ∧ W.cell? ⟨w.heap.size, 2, none⟩ = some (.int .i64 c.time) ∧ W.cell? ⟨w.heap.size, 3, none⟩ = some (.bool c.gone) ∧ W.cell? ⟨w.heap.size, 4, none⟩ = some (.string c.val) := fun W h => (hB0.below h (by omega)).facts
  have HK := hide hkeep
  obtain ⟨c0, c1, c2, c3, c4⟩ := hkeep wA (Below.refl _ _)
  have hl1 : c.row.data.toList.length ≤ 1000000000 := by omega
  have hl2 : c.col.data.toList.length ≤ 1000000000 := by omega
  have hl3 : (txB c.row).length + (bc (txB c.col)).length ≤ 2000000000000 := by rw [bc_length]; omega
  clear hkeep
  go_region_held3 (fun W => W.cell? ⟨w.heap.size, 0, none⟩ = some (.string c.row) ∧ W.cell? ⟨w.heap.size, 1, none⟩ = some (.string c.col)) (exact ⟨(HK.out _ (by go_grown)).1, (HK.out _ (by go_grown)).2.1⟩) (first
    | (go_at_call 53; refine (WrittenS_own c.row _ hl1).mono ?_; rintro e w1 ⟨v1, rfl, ho1, hb1⟩; have hx1 : Below wA.heap.size wA w1 := Below.trans (by go_grown) hb1; obtain ⟨ao1, cap1, hv1⟩ := owns_shape ho1; subst hv1)
    | (go_at_call 53; refine (WrittenS_own c.col _ hl2).mono ?_; rintro e w2 ⟨v2, rfl, ho2, hb2⟩; have hx2 : Below wA.heap.size wA w2 := Below.trans (by go_grown) (hb2.mono hx1.size); have hq1 := owns_below ho1 hb2; obtain ⟨ao2, cap2, hv2⟩ := owns_shape ho2; subst hv2)
    | (have k9 := hq1; refine step_append_rd k9 (Rd.ofOwns ho2) Try.underlying24 Try.info5 rfl (by rfl) (by rfl) (by rfl) (by rfl) (bc_one _) hl3 (by decide) (by exact hx2.size) ?_; intro v3 w3 ho3 hb3 hg3; have hx3 : Below wA.heap.size wA w3 := hx2.trans hb3; rw [bc_length, ← bc_append, ← List.length_append] at ho3))
  all_goals
    have ho3' : w3.ownsRow wA.heap.size 5 1 v3 (txB c.row ++ txB c.col).length (bc (txB c.row ++ txB c.col)) := ho3
    have hz3 := hx3.size
    clear ho3 hq1 ho1 ho2 hb1 hb2 hx1 hx2 hb3 hg3
    obtain ⟨c0, c1, c2, c3, c4⟩ := HK.out w3 hx3
    have hl4 : (txB c.row ++ txB c.col).length + (bc (encN m)).length ≤ 2000000000000 := by rw [bc_length, List.length_append]; omega
    go_wp2_with fail
    rw [HMT.out]
    refine (Number_any m _ (by omega)).mono ?_
    rintro e w4 ⟨v4, rfl, hr4, hb4, _⟩
    have hx4 : Below wA.heap.size wA w4 := hx3.trans (hb4.mono hz3)
    have ho4 := owns_below ho3' hb4
    have hz4 := hx4.size
    clear ho3' c0 c1 c2 c3 c4
    obtain ⟨ao4, cap4, hv4, _, _⟩ := hr4.shape
    subst hv4
    go_upto_region 3 with (at_builtin; go_must (refine wpList_append_rd ho4 hr4 Try.underlying24 Try.info5 rfl rfl rfl rfl rfl (bc_one _) hl4 (by decide) hz4 ?_); intro v5 w5 ho5 hb5 hg5; clear hg5)
    rw [bc_length, ← bc_append, ← List.length_append] at ho5
    have hx5 := hx4.trans hb5
    have hz5 := hx5.size
    obtain ⟨c0, c1, c2, c3, c4⟩ := HK.out w5 hx5
    have hl5 : (txB c.row ++ txB c.col ++ encN m).length ≤ 1000000000000 := by simp only [List.length_append]; omega
    rcases hgn with ⟨hg, hgn⟩ | ⟨hg, hgn⟩
    · rw [hg] at c3
      have HGN := hide hgn
      clear hgn ho4 hb4 hb5
      go_upto_region 6 with (at_builtin; go_must (refine wpList_append_one ho5 Try.underlying24 Try.info5 rfl rfl rfl rfl rfl rfl hl5 (by decide) hz5 ?_); intro v6 w6 ho6 hb6 hg6; clear hg6)
      rw [bc_snoc _ 1 (by omega) 1 rfl, show (txB c.row ++ txB c.col ++ encN m).length + 1 = (txB c.row ++ txB c.col ++ encN m ++ [UInt8.ofNat 1]).length by simp only [List.length_append, List.length_singleton]] at ho6
      have hx6 := hx5.trans hb6
      have hz6 := hx6.size
      clear c0 c1 c2 c3 c4
      obtain ⟨c0, c1, c2, c3, c4⟩ := HK.out w6 hx6
      go_wp2_with fail
      refine (WrittenS_own c.val _ (by omega)).mono ?_
      rintro e w7 ⟨v7, rfl, ho7, hb7⟩
      have hx7 : Below wA.heap.size wA w7 := hx6.trans (hb7.mono hz6)
      have hq6 := owns_below ho6 hb7
      have hz7 := hx7.size
      have hl6 : (txB c.row ++ txB c.col ++ encN m ++ [UInt8.ofNat 1]).length + (bc (txB c.val)).length ≤ 2000000000000 := by rw [bc_length]; simp only [List.length_append, List.length_singleton]; omega
      obtain ⟨ao7, cap7, hv7⟩ := owns_shape ho7
      subst hv7
      go_wp2_with (at_builtin; go_must (refine wpList_append_rd hq6 (Rd.ofOwns ho7) Try.underlying24 Try.info5 rfl rfl rfl rfl rfl (bc_one _) hl6 (by decide) hz7 ?_); intro v8 w8 ho8 hb8 hg8; clear hg8)
      rw [bc_length, ← bc_append, ← List.length_append] at ho8
      go_ret
      refine ⟨v8, rfl, ?_, hb0.trans ((hx7.trans hb8).mono (by omega)), (New.owns ho8).mono (by omega)⟩
      rw [HEE.out, HM.out, HGN.out]
      have := Rd.ofOwns ho8
      simpa only [List.append_assoc] using this
    · rw [hg] at c3
      have HGN := hide hgn
      clear hgn ho4 hb4 hb5
      go_upto_region 6 with (at_builtin; go_must (refine wpList_append_one ho5 Try.underlying24 Try.info5 rfl rfl rfl rfl rfl rfl hl5 (by decide) hz5 ?_); intro v6 w6 ho6 hb6 hg6; clear hg6)
      rw [bc_snoc _ 0 (by omega) 0 rfl, show (txB c.row ++ txB c.col ++ encN m).length + 1 = (txB c.row ++ txB c.col ++ encN m ++ [UInt8.ofNat 0]).length by simp only [List.length_append, List.length_singleton]] at ho6
      have hx6 := hx5.trans hb6
      have hz6 := hx6.size
      clear c0 c1 c2 c3 c4
      obtain ⟨c0, c1, c2, c3, c4⟩ := HK.out w6 hx6
      go_wp2_with fail
      refine (WrittenS_own c.val _ (by omega)).mono ?_
      rintro e w7 ⟨v7, rfl, ho7, hb7⟩
      have hx7 : Below wA.heap.size wA w7 := hx6.trans (hb7.mono hz6)
      have hq6 := owns_below ho6 hb7
      have hz7 := hx7.size
      have hl6 : (txB c.row ++ txB c.col ++ encN m ++ [UInt8.ofNat 0]).length + (bc (txB c.val)).length ≤ 2000000000000 := by rw [bc_length]; simp only [List.length_append, List.length_singleton]; omega
      obtain ⟨ao7, cap7, hv7⟩ := owns_shape ho7
      subst hv7
      go_wp2_with (at_builtin; go_must (refine wpList_append_rd hq6 (Rd.ofOwns ho7) Try.underlying24 Try.info5 rfl rfl rfl rfl rfl (bc_one _) hl6 (by decide) hz7 ?_); intro v8 w8 ho8 hb8 hg8; clear hg8)
      rw [bc_length, ← bc_append, ← List.length_append] at ho8
      go_ret
      refine ⟨v8, rfl, ?_, hb0.trans ((hx7.trans hb8).mono (by omega)), (New.owns ho8).mono (by omega)⟩
      rw [HEE.out, HM.out, HGN.out]
      have := Rd.ofOwns ho8
      simpa only [List.append_assoc] using this

end Go.Proofs.Ytlebbkbbmgmmjac

/-
  The walk over the document's FileOf.
-/
namespace Go.Proofs.Ytlebbkbbmgmmjac
open Go.RowKit

theorem headRow_two (cur : List Cl) (c : Cl) (h : cur ≠ []) : headRow (cur ++ [c]) = headRow cur := by
  cases cur with
  | nil => exact absurd rfl h
  | cons x l => rfl

set_option maxRecDepth 100000 in
set_option maxHeartbeats 4000000 in
theorem FileOf_any (v : Value) (cs : List Cl) (size : Nat) (w : World) (hv : RdC w v cs) (hl : cs.length ≤ 500) (hz : ∀ c ∈ cs, codeC c = 0) (hsz : size ≤ 4000) :
    Calls Try.prog 14 #[v, .int .i64 size] w fun e w' => ∃ v', e = .returned v' ∧ Rd w' v' (bc (flatF (fileBB cs size))) ∧ Below w.heap.size w w' ∧ New w.heap.size v' := by
  obtain ⟨ao, cap, hvv, hc1, hc2⟩ := hv.shape
  subst hvv
  unfold maxLen at hc2
  have HZ := hide hz
  clear hz
  go_enter Try.func14, Try.ntmps14
  go_wp2_with fail
  go_loopw [5, 6, 7, 8, 9] (fun vo vi vc fi i wr => ∃ (k : Nat) (gs : List (List Cl)) (cur : List Cl) (r : ByteArray), k ≤ cs.length ∧ i = .int .i64 k ∧ fi = .string r ∧ gs ++ chunkGo size cur (cs.drop k) = chunks size cs ∧ (k = cs.length → cur = []) ∧ (cur ≠ [] → headRow cur = r) ∧ r.data.toList.length ≤ 40 ∧ (indexB gs).length ≤ 100 * k ∧ (flatF (gs.map flatC)).length ≤ 5000 * k ∧ (flatC cur).length ≤ 4000
      ∧ wr.ownsRow w.heap.size 5 1 vo (flatF (gs.map flatC)).length (bc (flatF (gs.map flatC))) ∧ wr.ownsRow w.heap.size 5 1 vi (indexB gs).length (bc (indexB gs)) ∧ wr.ownsRow w.heap.size 5 1 vc (flatC cur).length (bc (flatC cur)) ∧ (∀ k, vo.ownBlock = some k → vi.ownBlock ≠ some k) ∧ (∀ k, vo.ownBlock = some k → vc.ownBlock ≠ some k) ∧ (∀ k, vi.ownBlock = some k → vc.ownBlock ≠ some k) ∧ Below w.heap.size w wr)
    (fun _ _ _ _ i _ => cs.length - (intOf i).toNat)
  case atStart => exact ⟨0, [], [], ⟨#[]⟩, by simp, rfl, rfl, rfl, fun _ => rfl, fun h => absurd rfl h, by simp, by simp [indexB], by simp [flatF], by simp [flatC], World.ownsRow_nil _ _ _ _, World.ownsRow_nil _ _ _ _, World.ownsRow_nil _ _ _ _, fun k h => by simp [Value.ownBlock] at h, fun k h => by simp [Value.ownBlock] at h, fun k h => by simp [Value.ownBlock] at h, Below.refl _ _⟩
  case round =>
    obtain ⟨k, gs, cur, r, hk, rfl, rfl, hgo, hend, hfst, hr40, hil, hfl, hcl, hoo, hoi, hoc, hs1, hs2, hs3, hbel⟩ := hrel
    have HG := hide hgo
    clear hgo
    have hszr := hbel.size
    by_cases hlt : k < cs.length
    · obtain ⟨c, hc⟩ : ∃ c, cs[k]? = some c := ⟨_, List.getElem?_eq_getElem hlt⟩
      have hce : cs[k] = c := (List.getElem?_eq_some_iff.1 hc).2
      have hcode := HZ.out c (by rw [← hce]; exact List.getElem_mem hlt)
      have hrl := (codeC_parts hcode).2.1
      have hdr := drop_consC hlt
      rw [hce] at hdr
      rw [hdr] at HG
      obtain ⟨b, off, rfl, hbb, hck⟩ := hv.hereD hc
      obtain ⟨c0, c1, c2, c3, c4⟩ := hck.below hbel
      have hk1 : (0 : Int) ≤ (k : Int) := by omega
      have hk2 : (k : Int) < (cs.length : Int) := by omega
      have hclc := cellB_len hcode
      have hfe : flatC (cur ++ [c]) = flatC cur ++ cellB c := by rw [flatC_append]; simp [flatC]
      have hcn := flatC_len cur
      have HR : Hid (headRow (cur ++ [c]) = if cur = [] then c.row else r) := hide (by
        split
        · rename_i h; rw [h]; rfl
        · rename_i h; rw [headRow_two cur c h, hfst h])
      have HEN := hide hend
      obtain ⟨oo, co, hvo⟩ := owns_shape hoo
      obtain ⟨oi, ci, hvi⟩ := owns_shape hoi
      obtain ⟨oc', cc', hvc⟩ := owns_shape hoc
      subst hvo hvi hvc
      have hcb := CellBytes_any c wr hcode
      unfold cA at hcb
      have HCB := hide hcb
      have hrest : cs.drop (k + 1) ≠ [] ↔ k + 1 < cs.length := by
        constructor
        · intro h
          have : 0 < (cs.drop (k + 1)).length := List.length_pos_iff.2 h
          rw [List.length_drop] at this
          omega
        · intro h e
          have := congrArg List.length e
          simp at this
          omega
      have HON := hide (@chunkGo_on size cur c (cs.drop (k + 1)))
      have HCUT := hide (@chunkGo_cut size cur c (cs.drop (k + 1)))
      have HIX := hide (indexB_snoc gs (cur ++ [c]))
      clear hend hfst hdr hce hck hcb hc
      have hcur : (cur = [] ∧ (((flatC cur).length : Int) == 0) = true ∧ headRow (cur ++ [c]) = c.row) ∨ (cur ≠ [] ∧ (((flatC cur).length : Int) == 0) = false ∧ headRow (cur ++ [c]) = r) := by
        by_cases h : cur = []
        · left
          exact ⟨h, by rw [h]; rfl, by have := HR.out; rwa [if_pos h] at this⟩
        · right
          have : 0 < cur.length := List.length_pos_iff.2 h
          exact ⟨h, beq_eq_false_iff_ne.2 (by omega), by have := HR.out; rwa [if_neg h] at this⟩
      clear HR
      rcases hcur with ⟨h0, hb0, hh0⟩ | ⟨h0, hb0, hh0⟩
      all_goals
        have HH0 := hide hh0
        clear hh0 h0
        have hbel0 := hbel
        go_wp2_with fail
        refine HCB.out.mono ?_
        rintro e w2 ⟨v2, rfl, hr2, hb2, _⟩
        obtain ⟨o2, c2', hv2, _, _⟩ := hr2.shape
        rw [bc_length] at hv2
        subst hv2
        have hooA := owns_below hoo hb2
        have hoiA := owns_below hoi hb2
        have hocA := owns_below hoc hb2
        have hbelA := hbel.trans (hb2.mono hszr)
        have hzA := hbelA.size
        clear hoo hoi hoc hbel hb2 HCB c0 c1 c2 c3 c4 hbel0
        have hl63 : (flatC cur).length + (bc (cellB c)).length ≤ 2000000000000 := by rw [bc_length]; omega
        go_upto_region 9 with (at_builtin; go_must (refine wpList_append_rdE hocA hr2 Try.underlying24 Try.info5 rfl rfl rfl rfl rfl (bc_one _) hl63 (by decide) hzA ?_); intro v3 w3 ho3 hb3 he3)
        have ho3' : w3.ownsRow w.heap.size 5 1 v3 (flatC (cur ++ [c])).length (bc (flatC (cur ++ [c]))) := by
          rw [hfe, bc_append, List.length_append, ← bc_length (cellB c)]
          exact ho3
        have hYl : (flatC (cur ++ [c])).length ≤ 4330 := by rw [hfe, List.length_append]; omega
        have hoo3 := owns_ext hooA he3 hs2
        have hoi3 := owns_ext hoiA he3 hs3
        have hs23 := sep_ext hooA he3 hs2
        have hs33 := sep_ext hoiA he3 hs3
        have hbel3 := hbelA.trans hb3
        have hz3 := hbel3.size
        have hcne : cur ++ [c] ≠ [] := by simp
        have HCNE := hide hcne
        clear hooA hoiA hocA hbelA ho3 hb3 he3 hs2 hs3 hzA hr2 hfe hl63 hcne
        generalize cur ++ [c] = CU at *
        obtain ⟨o3, c3, hv3⟩ := owns_shape ho3'
        generalize hY : flatC CU = Y at *
        have HY := hide hY
        clear hY
        subst hv3
        by_cases hcond : Y.length < size ∧ cs.drop (k + 1) ≠ []
        · have HE := hide (HON.out hcond)
          have h1 : (Y.length : Int) < (size : Int) := by omega
          have h3 : k + 1 < cs.length := hrest.1 hcond.2
          have h2 : ((k : Int) == (cs.length : Int) - 1) = false := beq_eq_false_iff_ne.2 (by omega)
          clear hcond hrest HON HCUT
          go_wp2_with fail
          go_roundw
          case rel => exact ⟨k + 1, gs, CU, _, by omega, by go_num, rfl, by rw [← HG.out, HE.out], fun h => by omega, fun _ => HH0.out, by omega, by omega, by omega, by rw [HY.out]; omega, hoo3, hoi3, by rw [HY.out]; exact ho3', hs1, hs23, hs33, hbel3⟩
          case measure => simp [intOf]; omega
        · have HE := hide (HCUT.out hcond)
          have hor : (size : Int) ≤ (Y.length : Int) ∨ ((Y.length : Int) < (size : Int) ∧ ((k : Int) == (cs.length : Int) - 1) = true) := by
            by_cases h1 : Y.length < size
            · right
              have : ¬ k + 1 < cs.length := fun h => hcond ⟨h1, hrest.2 h⟩
              exact ⟨by omega, beq_iff_eq.2 (by omega)⟩
            · left; omega
          clear hcond hrest HON HCUT
          have hfy := framed_length Y
          have hrl2 : (headRow CU).data.toList.length ≤ 1000000000 := by rw [HH0.out]; omega
          have hrl3 : (headRow CU).data.toList.length ≤ 40 := by rw [HH0.out]; omega
          have hw := fun W => WrittenS_own (headRow CU) W hrl2
          rw [HH0.out] at hw
          have HW := hide hw
          clear hw
          have htl := txB_lenF (headRow CU)
          have hel := encN_length Y.length
          have hix : indexB (gs ++ [CU]) = indexB gs ++ txB (headRow CU) ++ encN Y.length := by rw [HIX.out, List.append_assoc]
          have hixl : (indexB (gs ++ [CU])).length = (indexB gs).length + (txB (headRow CU)).length + (encN Y.length).length := by rw [hix, List.length_append, List.length_append]
          have hff : flatF ((gs ++ [CU]).map flatC) = flatF (gs.map flatC) ++ framed Y := by rw [List.map_append, flatF_append, List.map_cons, List.map_nil, HY.out]; simp [flatF]
          have hffl : (flatF ((gs ++ [CU]).map flatC)).length = (flatF (gs.map flatC)).length + (Y.length + 6) := by rw [hff, List.length_append, hfy]
          have HIXX := hide hix
          have HFF := hide hff
          clear hix hff HIX
          rcases hor with h1 | ⟨h1, h2⟩
          all_goals
            go_wp2_with fail
            refine (Framed_own _ Y _ (Rd.ofOwns ho3') (by omega)).mono ?_
            rintro e w4 ⟨v4, rfl, ho4, hb4⟩
            have hoo4 := owns_below hoo3 hb4
            have hoi4 := owns_below hoi3 hb4
            have hoc4 := owns_below ho3' hb4
            have hbel4 := hbel3.trans (hb4.mono hz3)
            have hz4 := hbel4.size
            clear hoo3 hoi3 ho3' hb4 hbel3
            have hl5 : (flatF (gs.map flatC)).length + (bc (framed Y)).length ≤ 2000000000000 := by rw [bc_length]; omega
            go_upto_region 11 with (at_builtin; go_must (refine wpList_append_rdE hoo4 (Rd.ofOwns ho4) Try.underlying24 Try.info5 rfl rfl rfl rfl rfl (bc_one _) hl5 (by decide) hz4 ?_); intro v5 w5 ho5 hb5 he5)
            rw [bc_length, ← bc_append, ← List.length_append, ← HFF.out] at ho5
            have hs1' : ∀ k, (Value.slice oi (indexB gs).length ci).ownBlock = some k → (Value.slice oo (flatF (gs.map flatC)).length co).ownBlock ≠ some k := fun k h h' => hs1 k h' h
            have hs2' : ∀ k, (Value.slice o3 Y.length c3).ownBlock = some k → (Value.slice oo (flatF (gs.map flatC)).length co).ownBlock ≠ some k := fun k h h' => hs23 k h' h
            have hoi5 := owns_ext hoi4 he5 hs1'
            have hs15 := sep_ext hoi4 he5 hs1'
            have hoc5 := owns_ext hoc4 he5 hs2'
            have hs25 := sep_ext hoc4 he5 hs2'
            have hbel5 := hbel4.trans hb5
            have hz5 := hbel5.size
            clear hoo4 hoi4 hoc4 ho4 he5 hb5 hbel4
            go_wp2_with fail
            refine (HW.out _).mono ?_
            rintro e w6 ⟨v6, rfl, ho6, hb6⟩
            have hoo6 := owns_below ho5 hb6
            have hoi6 := owns_below hoi5 hb6
            have hoc6 := owns_below hoc5 hb6
            have hbel6 := hbel5.trans (hb6.mono hz5)
            have hz6 := hbel6.size
            rw [← HH0.out] at ho6
            clear ho5 hoi5 hoc5 hb6 hbel5
            have hl7 : (indexB gs).length + (bc (txB (headRow CU))).length ≤ 2000000000000 := by rw [bc_length]; omega
            go_upto_region 12 with (at_builtin; go_must (refine wpList_append_rdE hoi6 (Rd.ofOwns ho6) Try.underlying24 Try.info5 rfl rfl rfl rfl rfl (bc_one _) hl7 (by decide) hz6 ?_); intro v7 w7 ho7 hb7 he7)
            rw [bc_length, ← bc_append, ← List.length_append] at ho7
            have hs17 : ∀ k, v5.ownBlock = some k → (Value.slice oi (indexB gs).length ci).ownBlock ≠ some k := fun k h h' => hs15 k h' h
            have hs37 : ∀ k, (Value.slice o3 Y.length c3).ownBlock = some k → (Value.slice oi (indexB gs).length ci).ownBlock ≠ some k := fun k h h' => hs33 k h' h
            have hoo7 := owns_ext hoo6 he7 hs17
            have hs18 := sep_ext hoo6 he7 hs17
            have hoc7 := owns_ext hoc6 he7 hs37
            have hs38 := sep_ext hoc6 he7 hs37
            have hbel7 := hbel6.trans hb7
            have hz7 := hbel7.size
            clear hoo6 hoi6 hoc6 ho6 he7 hb7 hbel6
            go_wp2_with fail
            refine (Number_any Y.length _ (by omega)).mono ?_
            rintro e w8 ⟨v8, rfl, hr8, hb8, _⟩
            have hoo8 := owns_below hoo7 hb8
            have hoi8 := owns_below ho7 hb8
            have hoc8 := owns_below hoc7 hb8
            have hbel8 := hbel7.trans (hb8.mono hz7)
            have hz8 := hbel8.size
            clear hoo7 ho7 hoc7 hb8 hbel7
            have hl9 : (indexB gs ++ txB (headRow CU)).length + (bc (encN Y.length)).length ≤ 2000000000000 := by rw [bc_length, List.length_append]; omega
            obtain ⟨o8, c8, hv8, _, _⟩ := hr8.shape
            subst hv8
            go_upto_region 13 with (at_builtin; go_must (refine wpList_append_rdE hoi8 hr8 Try.underlying24 Try.info5 rfl rfl rfl rfl rfl (bc_one _) hl9 (by decide) hz8 ?_); intro v9 w9 ho9 hb9 he9)
            rw [bc_length, ← bc_append, ← List.length_append, ← HIXX.out] at ho9
            have hoo9 := owns_ext hoo8 he9 hs18
            have hs19 := sep_ext hoo8 he9 hs18
            have hbel9 := hbel8.trans hb9
            clear hoo8 hoi8 hoc8 hr8 he9 hb9 hbel8
            go_wp2_with fail
            go_roundw
            case rel => exact ⟨k + 1, gs ++ [CU], [], _, by omega, by go_num, rfl, by rw [← HG.out, HE.out]; simp, fun _ => rfl, fun h => absurd rfl h, by omega, by omega, by omega, by simp [flatC], hoo9, ho9, World.ownsRow_nil _ _ _ _, hs19, fun k _ => by simp [Value.ownBlock], fun k _ => by simp [Value.ownBlock], hbel9⟩
            case measure => simp [intOf]; omega
    · have hke : k = cs.length := by omega
      have hcn := hend hke
      subst hcn
      have HGE : Hid (gs = chunks size cs) := hide (by have := HG.out; rw [List.drop_eq_nil_of_le (by omega), chunkGo, List.append_nil] at this; exact this)
      have HFL := hide (filtB_len cs)
      have HFN : Hid (filtN cs ≤ 501) := hide (by unfold filtN; have : (rowsU cs).length ≤ cs.length := rowsGo_len _ _; omega)
      have hfil := FilterOf_any (.slice ao cs.length cap) cs
      have hbb : flatF (fileBB cs size) = flatF (gs.map flatC) ++ framed (indexB gs) ++ framed (filtB cs) := by
        unfold fileBB
        rw [HGE.out, flatF_append, List.append_assoc]
        simp [flatF]
      have HBB := hide hbb
      clear hke hend HG hbb hcl hoc hs2 hs3
      obtain ⟨oo, co, hvo⟩ := owns_shape hoo
      obtain ⟨oi, ci, hvi⟩ := owns_shape hoi
      subst hvo hvi
      go_wp2_with fail
      refine (Framed_own _ (indexB gs) _ (Rd.ofOwns hoi) (by omega)).mono ?_
      rintro e w4 ⟨v4, rfl, ho4, hb4⟩
      have hoo4 := owns_below hoo hb4
      have hbel4 := hbel.trans (hb4.mono hszr)
      have hz4 := hbel4.size
      have hfi := framed_length (indexB gs)
      have hl5 : (flatF (gs.map flatC)).length + (bc (framed (indexB gs))).length ≤ 2000000000000 := by rw [bc_length]; omega
      go_upto_region 15 with (at_builtin; go_must (refine wpList_append_rdE hoo4 (Rd.ofOwns ho4) Try.underlying24 Try.info5 rfl rfl rfl rfl rfl (bc_one _) hl5 (by decide) hz4 ?_); intro v5 w5 ho5 hb5 he5)
      rw [bc_length, ← bc_append, ← List.length_append] at ho5
      have hbel5 := hbel4.trans hb5
      have hz5 := hbel5.size
      have hl6 : (flatF (gs.map flatC) ++ framed (indexB gs)).length ≤ 3000000 := by rw [List.length_append]; omega
      clear hoo4 ho4 he5 hb5 hb4 hbel4 hoo hoi
      generalize flatF (gs.map flatC) ++ framed (indexB gs) = OUT at *
      have HZR : Hid (∀ c ∈ cs, c.row.size ≤ 1000000) := hide (fun c hc => by have := (codeC_parts (HZ.out c hc)).2.1; rw [ba_size]; omega)
      go_wp2_with fail
      refine (hfil _ (hv.below hbel5) (by omega) HZR.out).mono ?_
      rintro e w6 ⟨v6, rfl, hr6, hb6, _⟩
      have hbel6 := hbel5.trans (hb6.mono hz5)
      have hz6 := hbel6.size
      have ho6 := owns_below ho5 hb6
      have hfl6 : (filtB cs).length ≤ 501 := by rw [HFL.out]; exact HFN.out
      have hff6 := framed_length (filtB cs)
      clear hfil
      go_wp2_with fail
      refine (Framed_own _ (filtB cs) _ hr6 (by omega)).mono ?_
      rintro e w7 ⟨v7, rfl, ho7, hb7⟩
      have hbel7 := hbel6.trans (hb7.mono hz6)
      have hz7 := hbel7.size
      have hoo7 := owns_below ho6 hb7
      have hl8 : OUT.length + (bc (framed (filtB cs))).length ≤ 2000000000000 := by rw [bc_length]; omega
      go_wp2_with (at_builtin; go_must (refine wpList_append_rdE hoo7 (Rd.ofOwns ho7) Try.underlying24 Try.info5 rfl rfl rfl rfl rfl (bc_one _) hl8 (by decide) hz7 ?_); intro v8 w8 ho8 hb8 he8)
      rw [← bc_append, ← HBB.out] at ho8
      go_ret
      exact ⟨_, rfl, Rd.ofOwns ho8, hbel7.trans hb8, New.owns ho8⟩

end Go.Proofs.Ytlebbkbbmgmmjac
