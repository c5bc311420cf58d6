/-
  The walks over the document's texts.
-/
import Derived.Test.YtlebbkbbmgmmjabLawNums
namespace Go.Proofs.Ytlebbkbbmgmmjab
open Go.RowKit

theorem run_append_rd {P : Program} {w : World} {t ty : TypeId} {base : Nat} {e : TypeId} {z : Value} {bytes : Nat}
    {v : Value} {n : Nat} {xs : List Value} {vx : Value} {news : List Value}
    (hown : w.ownsRow base e 1 v n xs) (hrd : Rd w vx news)
    (ht : P.underlying t = some (.slice e)) (hinf : (P.info? e).map (fun i => (i.zero, i.size, i.bytes)) = some (some z, 1, bytes)) (hzs : z.cells.size = 1)
    (h1 : ∀ u ∈ news, u.oneCell' = true) (h63 : n + news.length ≤ 2000000000000) (hbytes : bytes ≤ 64) (hbase : base ≤ w.heap.size) :
    ∃ v' w', (Builtin.append_ #[t, t] ty #[v, vx]).run P w = .ok v' w' ∧ w'.ownsRow base e 1 v' (n + news.length) (xs ++ news) ∧ Below base w w' ∧ w.grownBy w' v.ownBlock := by
  obtain ⟨i, hi, hz, hsize, hby⟩ := info_parts hinf
  have hlt := hown.lt
  have hbytes' : (n + news.length) * bytes ≤ 2000000000000 * 64 := Nat.mul_le_mul h63 hbytes
  obtain ⟨ao, cap, hvx, h2, h3, h4, h5⟩ := hrd
  subst hvx
  cases ao with
  | none =>
    have hc := h4 rfl
    have hnews : news = [] := List.eq_nil_of_length_eq_zero (by omega)
    subst hnews
    subst hc
    exact ⟨v, w, run_append_owned_none w base t ty e i 1 ht hi v n xs hown, by simpa using hown, Below.refl _ _, World.grownBy.refl _ _⟩
  | some ad =>
    obtain ⟨v', w', hr, ho', hg', _⟩ := run_append_own (P := P) w base t ty e i z 1 bytes ht hi hz hsize hby hzs (by decide) v n xs hown ad news.length cap news (by simp) (h5 ad rfl) h1 (by simp [maxLen]; omega) (by omega) hbase
    exact ⟨v', w', hr, ho', (Below.refl _ _).grown hg' hbase (fun k hk => (hlt k hk).1), hg'⟩

/-- The same as a step of a region that draws its order. -/
theorem step_append_rd {P : Program} {w : World} {ops : Array Oper} {o : Oper} {a : Act} {K : Act → World → Prop} {Q : Exit → Act → World → Prop} {E : Prop} {s x : Operand} {t : TypeId} {base : Nat} {e : TypeId} {z : Value} {bytes : Nat}
    {v : Value} {n : Nat} {xs : List Value} {vx : Value} {news : List Value}
    (hown : w.ownsRow base e 1 v n xs) (hrd : Rd w vx news)
    (ht : P.underlying t = some (.slice e)) (hinf : (P.info? e).map (fun i => (i.zero, i.size, i.bytes)) = some (some z, 1, bytes)) (hzs : z.cells.size = 1)
    (hgd : o.guard = none) (ho : o.op = .call { callee := .builtin .append, args := #[s, x], argTypes := #[t, t] })
    (hs : a.eval s = v) (hx : a.eval x = vx) (h1 : ∀ u ∈ news, u.oneCell' = true)
    (h63 : n + news.length ≤ 2000000000000) (hbytes : bytes ≤ 64) (hbase : base ≤ w.heap.size)
    (h : ∀ v' w', w'.ownsRow base e 1 v' (n + news.length) (xs ++ news) → Below base w w' → w.grownBy w' v.ownBlock → K (a.put o.dst v') w') :
    if Region.wanted o (yielded ops a.tmps) = true then Oper.wp P o a w K Q else E := by
  have hw : Region.wanted o (yielded ops a.tmps) = true := by simp [Region.wanted, hgd]
  rw [if_pos hw]
  obtain ⟨v', w', hr, h2, h3, h4⟩ := run_append_rd (ty := o.type) hown hrd ht hinf hzs h1 h63 hbytes hbase
  unfold Oper.wp execOp
  simp only [ho, resolve, invoke, builtin, Sem.run_bind, Sem.run_pure, Result.andThen_ok, List.map_toArray, List.map_cons, List.map_nil, hs, hx, hr]
  exact h v' w' h2 h3 h4

/-- A call of a Go function of one argument, as a step of a region that draws its order. -/
theorem step_call1 {P : Program} {w : World} {ops : Array Oper} {o : Oper} {a : Act} {K : Act → World → Prop} {Q : Exit → Act → World → Prop} {E : Prop} {f : FuncId} {x : Operand} {ats : Array TypeId} {v : Value} {R : Value → World → Prop}
    (hc : Calls P f #[v] w fun e w' => ∃ u, e = .returned u ∧ R u w') (hcf : ∀ args W, (callFunc f args).run P W = .ok (.enter f args) W)
    (hgd : o.guard = none) (ho : o.op = .call { callee := .value (.func f), args := #[x], argTypes := ats }) (hx : a.eval x = v)
    (h : ∀ u w', R u w' → K (a.put o.dst u) w') :
    if Region.wanted o (yielded ops a.tmps) = true then Oper.wp P o a w K Q else E := by
  have hw : Region.wanted o (yielded ops a.tmps) = true := by simp [Region.wanted, hgd]
  rw [if_pos hw]
  have he : execOp a.eval o = callFunc f #[v] := by
    cases o
    simp only at ho
    subst ho
    rw [execOp_call_go]
    simp [hx]
  unfold Oper.wp
  rw [he, hcf, Oper.upon_enter]
  exact hc.mono (by rintro e w' ⟨u, rfl, hr⟩; exact h u w' hr)

theorem enters67 (args : Array Value) (W : World) : (callFunc 67 args).run Try.prog W = .ok (.enter 67 args) W := by kernel_rfl

set_option maxRecDepth 100000 in
set_option maxHeartbeats 400000 in
theorem Written_own (s : List UInt8) (w : World) (hs : s.length ≤ 1000000000) :
    Calls Try.prog 67 #[.string ⟨s.toArray⟩] w fun e w' => ∃ v', e = .returned v' ∧ w'.ownsRow w.heap.size 5 1 v' (encN s.length ++ s).length (bc (encN s.length ++ s)) ∧ Below w.heap.size w w' := by
  go_enter Try.func67, Try.ntmps67
  go_wp2_with fail
  refine (Number_go 9 s.length w (by omega) (by omega) (Nat.le_refl _)).mono ?_
  rintro e w1 ⟨v1, rfl, ho1, hb1⟩
  have hl := enc_length 9 s.length
  have hsz := hb1.size
  go_wp2_with (at_builtin; go_must (refine wpList_append_strE ho1 Try.underlying25 Try.underlying9 Try.info5 rfl rfl rfl rfl (by omega) hsz ?_); intro v2 w2 ho2 hb2 hg2; clear hg2)
  go_ret
  exact ⟨v2, rfl, ho2, hb1.trans hb2⟩

theorem Written_any (s : List UInt8) (w : World) (hs : s.length ≤ 1000000000) :
    Calls Try.prog 67 #[.string ⟨s.toArray⟩] w fun e w' => ∃ v', e = .returned v' ∧ Rd w' v' (bc (encN s.length ++ s)) ∧ Below w.heap.size w w' ∧ New w.heap.size v' :=
  (Written_own s w hs).mono fun _ _ ⟨v', h1, h2, h3⟩ => ⟨v', h1, Rd.ofOwns h2, h3, New.owns h2⟩

/-- What ReadWritten answers, from what is left on. -/
def refTexts : Nat → List UInt8 → List (List UInt8) → List (List UInt8) × Int
  | 0, _, _ => ([], 0)
  | f + 1, bs, acc =>
    if bs = [] then (acc, -1)
    else match textAt bs with
      | none => ([], (acc.length : Int))
      | some (t, k) => refTexts f (bs.drop k) (acc ++ [t])

theorem refTexts_end {f : Nat} {acc : List (List UInt8)} : refTexts (f + 1) [] acc = (acc, -1) := by
  rw [refTexts, if_pos rfl]

theorem refTexts_bad {f : Nat} {bs : List UInt8} {acc : List (List UInt8)} (h : bs ≠ []) (hn : textAt bs = none) : refTexts (f + 1) bs acc = ([], (acc.length : Int)) := by
  rw [refTexts, if_neg h, hn]

theorem refTexts_step {f : Nat} {bs t : List UInt8} {acc : List (List UInt8)} {k : Nat} (h : bs ≠ []) (hn : textAt bs = some (t, k)) : refTexts (f + 1) bs acc = refTexts f (bs.drop k) (acc ++ [t]) := by
  rw [refTexts, if_neg h, hn]

theorem textAt_long {bs : List UInt8} {n k : Nat} (h : numAt bs = some (n, k)) (hl : bs.length < k + n) : textAt bs = none := by
  simp [textAt, h, hl]

theorem textAt_fits {bs : List UInt8} {n k : Nat} (h : numAt bs = some (n, k)) (hl : k + n ≤ bs.length) : textAt bs = some ((bs.drop k).take n, k + n) := by
  simp only [textAt, h]
  rw [if_neg (by omega)]

theorem textAt_no {bs : List UInt8} (h : numAt bs = none) : textAt bs = none := by simp [textAt, h]



end Go.Proofs.Ytlebbkbbmgmmjab
