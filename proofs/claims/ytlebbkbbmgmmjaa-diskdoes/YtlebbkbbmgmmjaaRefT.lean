/-
  The walks over the document's texts.
-/
import Derived.Test.YtlebbkbbmgmmjaaLawNums
namespace Go.Proofs.Ytlebbkbbmgmmjaa
open Go.RowKit

theorem run_append_rd {P : Program} {w : World} {t ty : TypeId} {base : Nat} {e : TypeId} {z : Value} {bytes : Nat}
    {v : Value} {n : Nat} {xs : List Value} {vx : Value} {news : List Value}
    (hown : w.ownsRow base e 1 v n xs) (hrd : Rd w vx news)
    (ht : P.underlying t = some (.slice e)) (hinf : (P.info? e).map (fun i => (i.zero, i.size, i.bytes)) = some (some z, 1, bytes)) (hzs : z.cells.size = 1)
    (h1 : ∀ u ∈ news, u.oneCell' = true) (h63 : n + news.length ≤ 2000000000000) (hbytes : bytes ≤ 64) (hbase : base ≤ w.heap.size) :
    ∃ v' w', (Builtin.append_ #[t, t] ty #[v, vx]).run P w = .ok v' w' ∧ w'.ownsRow base e 1 v' (n + news.length) (xs ++ news) ∧ Below base w w' ∧ w.grownBy w' v.ownBlock := by
  obtain ⟨i, hi, hz, hsize, hby⟩ := info_parts hinf
  have hlt := hown.lt
  have hbytes' : (n + news.length) * bytes ≤ 2000000000000 * 64 := Nat.mul_le_mul h63 hbytes
  obtain ⟨ao, cap, hvx, h2, h3, h4, h5⟩ := hrd
  subst hvx
  cases ao with
  | none =>
    have hc := h4 rfl
    have hnews : news = [] := List.eq_nil_of_length_eq_zero (by omega)
    subst hnews
    subst hc
    exact ⟨v, w, run_append_owned_none w base t ty e i 1 ht hi v n xs hown, by simpa using hown, Below.refl _ _, World.grownBy.refl _ _⟩
  | some ad =>
    obtain ⟨v', w', hr, ho', hg', _⟩ := run_append_own (P := P) w base t ty e i z 1 bytes ht hi hz hsize hby hzs (by decide) v n xs hown ad news.length cap news (by simp) (h5 ad rfl) h1 (by simp [maxLen]; omega) (by omega) hbase
    exact ⟨v', w', hr, ho', (Below.refl _ _).grown hg' hbase (fun k hk => (hlt k hk).1), hg'⟩

/-- The same as a step of a region that draws its order. -/
theorem step_append_rd {P : Program} {w : World} {ops : Array Oper} {o : Oper} {a : Act} {K : Act → World → Prop} {Q : Exit → Act → World → Prop} {E : Prop} {s x : Operand} {t : TypeId} {base : Nat} {e : TypeId} {z : Value} {bytes : Nat}
    {v : Value} {n : Nat} {xs : List Value} {vx : Value} {news : List Value}
    (hown : w.ownsRow base e 1 v n xs) (hrd : Rd w vx news)
    (ht : P.underlying t = some (.slice e)) (hinf : (P.info? e).map (fun i => (i.zero, i.size, i.bytes)) = some (some z, 1, bytes)) (hzs : z.cells.size = 1)
    (hgd : o.guard = none) (ho : o.op = .call { callee := .builtin .append, args := #[s, x], argTypes := #[t, t] })
    (hs : a.eval s = v) (hx : a.eval x = vx) (h1 : ∀ u ∈ news, u.oneCell' = true)
    (h63 : n + news.length ≤ 2000000000000) (hbytes : bytes ≤ 64) (hbase : base ≤ w.heap.size)
    (h : ∀ v' w', w'.ownsRow base e 1 v' (n + news.length) (xs ++ news) → Below base w w' → w.grownBy w' v.ownBlock → K (a.put o.dst v') w') :
    if Region.wanted o (yielded ops a.tmps) = true then Oper.wp P o a w K Q else E := by
  have hw : Region.wanted o (yielded ops a.tmps) = true := by simp [Region.wanted, hgd]
  rw [if_pos hw]
  obtain ⟨v', w', hr, h2, h3, h4⟩ := run_append_rd (ty := o.type) hown hrd ht hinf hzs h1 h63 hbytes hbase
  unfold Oper.wp execOp
  simp only [ho, resolve, invoke, builtin, Sem.run_bind, Sem.run_pure, Result.andThen_ok, List.map_toArray, List.map_cons, List.map_nil, hs, hx, hr]
  exact h v' w' h2 h3 h4

/-- A call of a Go function of one argument, as a step of a region that draws its order. -/
theorem step_call1 {P : Program} {w : World} {ops : Array Oper} {o : Oper} {a : Act} {K : Act → World → Prop} {Q : Exit → Act → World → Prop} {E : Prop} {f : FuncId} {x : Operand} {ats : Array TypeId} {v : Value} {R : Value → World → Prop}
    (hc : Calls P f #[v] w fun e w' => ∃ u, e = .returned u ∧ R u w') (hcf : ∀ args W, (callFunc f args).run P W = .ok (.enter f args) W)
    (hgd : o.guard = none) (ho : o.op = .call { callee := .value (.func f), args := #[x], argTypes := ats }) (hx : a.eval x = v)
    (h : ∀ u w', R u w' → K (a.put o.dst u) w') :
    if Region.wanted o (yielded ops a.tmps) = true then Oper.wp P o a w K Q else E := by
  have hw : Region.wanted o (yielded ops a.tmps) = true := by simp [Region.wanted, hgd]
  rw [if_pos hw]
  have he : execOp a.eval o = callFunc f #[v] := by
    cases o
    simp only at ho
    subst ho
    rw [execOp_call_go]
    simp [hx]
  unfold Oper.wp
  rw [he, hcf, Oper.upon_enter]
  exact hc.mono (by rintro e w' ⟨u, rfl, hr⟩; exact h u w' hr)

theorem enters22 (args : Array Value) (W : World) : (callFunc 22 args).run Try.prog W = .ok (.enter 22 args) W := by kernel_rfl

set_option maxRecDepth 100000 in
set_option maxHeartbeats 400000 in
theorem Written_own (s : List UInt8) (w : World) (hs : s.length ≤ 1000000000) :
    Calls Try.prog 22 #[.string ⟨s.toArray⟩] w fun e w' => ∃ v', e = .returned v' ∧ w'.ownsRow w.heap.size 5 1 v' (encN s.length ++ s).length (bc (encN s.length ++ s)) ∧ Below w.heap.size w w' := by
  go_enter Try.func22, Try.ntmps22
  go_wp2_with fail
  refine (Number_go 9 s.length w (by omega) (by omega) (Nat.le_refl _)).mono ?_
  rintro e w1 ⟨v1, rfl, ho1, hb1⟩
  have hl := enc_length 9 s.length
  have hsz := hb1.size
  go_wp2_with (at_builtin; go_must (refine wpList_append_strE ho1 Try.underlying23 Try.underlying9 Try.info5 rfl rfl rfl rfl (by omega) hsz ?_); intro v2 w2 ho2 hb2 hg2; clear hg2)
  go_ret
  exact ⟨v2, rfl, ho2, hb1.trans hb2⟩

theorem Written_any (s : List UInt8) (w : World) (hs : s.length ≤ 1000000000) :
    Calls Try.prog 22 #[.string ⟨s.toArray⟩] w fun e w' => ∃ v', e = .returned v' ∧ Rd w' v' (bc (encN s.length ++ s)) ∧ Below w.heap.size w w' ∧ New w.heap.size v' :=
  (Written_own s w hs).mono fun _ _ ⟨v', h1, h2, h3⟩ => ⟨v', h1, Rd.ofOwns h2, h3, New.owns h2⟩

/-- What ReadWritten answers, from what is left on. -/
def refTexts : Nat → List UInt8 → List (List UInt8) → List (List UInt8) × Int
  | 0, _, _ => ([], 0)
  | f + 1, bs, acc =>
    if bs = [] then (acc, -1)
    else match textAt bs with
      | none => ([], (acc.length : Int))
      | some (t, k) => refTexts f (bs.drop k) (acc ++ [t])

theorem refTexts_end {f : Nat} {acc : List (List UInt8)} : refTexts (f + 1) [] acc = (acc, -1) := by
  rw [refTexts, if_pos rfl]

theorem refTexts_bad {f : Nat} {bs : List UInt8} {acc : List (List UInt8)} (h : bs ≠ []) (hn : textAt bs = none) : refTexts (f + 1) bs acc = ([], (acc.length : Int)) := by
  rw [refTexts, if_neg h, hn]

theorem refTexts_step {f : Nat} {bs t : List UInt8} {acc : List (List UInt8)} {k : Nat} (h : bs ≠ []) (hn : textAt bs = some (t, k)) : refTexts (f + 1) bs acc = refTexts f (bs.drop k) (acc ++ [t]) := by
  rw [refTexts, if_neg h, hn]

theorem textAt_long {bs : List UInt8} {n k : Nat} (h : numAt bs = some (n, k)) (hl : bs.length < k + n) : textAt bs = none := by
  simp [textAt, h, hl]

theorem textAt_fits {bs : List UInt8} {n k : Nat} (h : numAt bs = some (n, k)) (hl : k + n ≤ bs.length) : textAt bs = some ((bs.drop k).take n, k + n) := by
  simp only [textAt, h]
  rw [if_neg (by omega)]

theorem textAt_no {bs : List UInt8} (h : numAt bs = none) : textAt bs = none := by simp [textAt, h]

set_option maxRecDepth 100000 in
set_option maxHeartbeats 400000 in
theorem ReadWritten_any (v : Value) (bs : List UInt8) (w : World) (hrd : Rd w v (bc bs)) (hbl : bs.length ≤ 100000) :
    Calls Try.prog 24 #[v] w fun e w' => ∃ v', e = .returned (.tuple #[v', .int .i64 (refTexts (bs.length + 1) bs []).2]) ∧ Rd w' v' (sc (refTexts (bs.length + 1) bs []).1) ∧ Below w.heap.size w w' ∧ New w.heap.size v' := by
  go_enter Try.func24, Try.ntmps24
  go_wp2_with fail
  go_loopw [0, 4] (fun b o wr => ∃ (ds : List UInt8) (f : Nat) (acc : List (List UInt8)), refTexts (f + 1) ds acc = refTexts (bs.length + 1) bs [] ∧ ds.length ≤ f ∧ acc.length + ds.length ≤ bs.length ∧ Rd w b (bc ds) ∧ wr.ownsRow w.heap.size 9 1 o acc.length (sc acc) ∧ Below w.heap.size w wr)
    (fun b _ _ => lenV b)
  case atStart => exact ⟨bs, bs.length, [], rfl, Nat.le_refl _, by simp, hrd, World.ownsRow_nil _ _ _ _, Below.refl _ _⟩
  case round =>
    obtain ⟨ds, f, acc, hgo, hf, hacc, hr, hown, hbel⟩ := hrel
    have HG := hide hgo
    clear hgo
    obtain ⟨ao, cap, hv, hc1, hc2, _⟩ := hr.open
    rw [bc_length] at hc1 hv
    subst hv
    unfold maxLen at hc2
    have hsz := hbel.size
    by_cases hkl : ds.length = 0
    · obtain rfl : ds = [] := List.eq_nil_of_length_eq_zero hkl
      have HE := hide (@refTexts_end f acc)
      go_wp2_with fail
      go_ret2
      exact ⟨_, by rw [← HG.out, HE.out]; rfl, by rw [← HG.out, HE.out]; exact Rd.ofOwns hown, hbel, New.owns hown⟩
    · have hne : ds ≠ [] := by intro h; rw [h] at hkl; exact hkl rfl
      have HN := hide hne
      clear hne
      have hpos : (0 : Int) < (ds.length : Int) := by omega
      go_wp2_with fail
      refine (NumberAt_any _ ds wr (hr.below hbel)).mono ?_
      rintro e w1 ⟨rfl, hb1⟩
      have hbel1 := hbel.trans (hb1.mono hsz)
      have hown1 := owns_below hown hb1
      have hsz1 := hbel1.size
      cases hn : numAt ds with
      | none =>
        have HE := hide (@refTexts_bad f ds acc HN.out (textAt_no hn))
        clear hn
        obtain ⟨ao2, cap2, hv2⟩ := owns_shape hown1
        subst hv2
        simp only [natV]
        go_wp2_with fail
        go_ret2
        exact ⟨_, by rw [← HG.out, HE.out]; rfl, by rw [← HG.out, HE.out]; exact Rd.nil _, hbel1, New.nil _⟩
      | some p =>
        obtain ⟨n, j⟩ := p
        have hj := numAt_len hn
        have hjb : ((j : Int) == 0) = false := beq_eq_false_iff_ne.2 (by omega)
        by_cases hlong : ds.length < j + n
        · have HE := hide (@refTexts_bad f ds acc HN.out (textAt_long hn hlong))
          clear hn
          obtain ⟨ao2, cap2, hv2⟩ := owns_shape hown1
          subst hv2
          simp only [natV]
          have hg : (ds.length : Int) - (j : Int) < (n : Int) := by omega
          go_wp2_with fail
          go_ret2
          exact ⟨_, by rw [← HG.out, HE.out]; rfl, by rw [← HG.out, HE.out]; exact Rd.nil _, hbel1, New.nil _⟩
        · have HE := hide (@refTexts_step f ds _ acc (j + n) HN.out (textAt_fits hn (by omega)))
          clear hn
          simp only [natV]
          have hsl := run_slice_from (P := Try.prog) Try.underlying23 (by kernel_rfl) Try.info5 ao ds.length cap (j + n) ((j : Int) + n) (by omega) (by omega)
          have hV := hr.from (lo := j + n) (by omega)
          rw [bc_drop] at hV
          have hlv : lenV (sliced ao (j + n) ds.length cap 1) = ds.length - (j + n) := rfl
          generalize sliced ao (j + n) ds.length cap 1 = V at hV hsl hlv
          have HLV := hide hlv
          clear hlv
          have hs2 := (hr.below hbel1).sliced (lo := j) (hi := j + n) (by omega) (by omega)
          rw [show j + n - j = n by omega, bc_drop, bc_take] at hs2
          have hsl2 := run_slice_rd (P := Try.prog) Try.underlying23 (by kernel_rfl) Try.info5 ao ds.length cap j (j + n) j ((j : Int) + n) rfl (by omega) (by omega) (by omega)
          generalize sliced ao j (j + n) cap 1 = V2 at hs2 hsl2
          have hcv := run_string_of_rd (P := Try.prog) Try.underlying23 Try.underlying5 Try.underlying9 hs2
          generalize (ds.drop j).take n = t at *
          go_wp2_with (at_builtin; go_must (refine wpList_append_one hown1 Try.underlying41 Try.info9 rfl rfl rfl rfl rfl rfl (by omega) (by decide) hsz1 ?_); intro v3 w3 ho3 hb3 hg3; clear hg3)
          rw [sc_snoc] at ho3
          go_roundw
          case rel =>
            obtain ⟨f', rfl⟩ : ∃ f', f = f' + 1 := ⟨f - 1, by omega⟩
            refine ⟨ds.drop (j + n), f', acc ++ [t], ?_, by rw [List.length_drop]; omega, by rw [List.length_drop]; simp; omega, hV, by simpa using ho3, hbel1.trans hb3⟩
            rw [← HG.out, HE.out]
          case measure => rw [HLV.out]; simp only [lenV]; omega

set_option maxRecDepth 100000 in
set_option maxHeartbeats 400000 in
theorem bytesAs22_ok (L : Nat) (v x : Value) (xs bs : List UInt8) (w : World) (hc : w.cell? ⟨L, 0, none⟩ = some v) (hrd : Rd w v (bc xs)) (hx : Rd w x (bc bs)) :
    Calls Try.prog 15 #[x, flt 0 0, flt 0 0, .func (.func 23) #[] #[.pointer (some ⟨L, 0, none⟩)]] w fun e w' => e = .returned (.bool (bs == xs)) ∧ Below w.heap.size w w' := by
  have hLs := World.block_lt_of_cell? w _ hc
  simp only at hLs
  simp only [flt]
  go_enter Try.func15, Try.ntmps15
  go_wp2_with (first | (go_at_call 23; go_in) | (go_at_call 35; go_must (refine (Same_any _ _ bs xs _ ((hx.alloc _).alloc _) ((hrd.alloc _).alloc _)).mono ?_; rintro e w2 ⟨rfl, rfl⟩)))
  go_ret
  exact ⟨rfl, by go_grown⟩

end Go.Proofs.Ytlebbkbbmgmmjaa
