/-
  The walks over the document's sorting: PutCell.
-/
import Derived.Test.YtlebbkbbmgmmjadCellS4
import Derived.Test.YtlebbkbbmgmmjadCellR5
namespace Go.Proofs.Ytlebbkbbmgmmjad
open Go.RowKit

theorem mrg_ahead {c : Cl} : ∀ {p r : List Cl}, (∀ x ∈ p, Lt x c) → mrg (p ++ r) [c] = p ++ mrg r [c]
  | [], r, _ => rfl
  | x :: p, r, h => by
    rw [List.cons_append, mrg_left (ordC_neg.2 (h x (by simp))), mrg_ahead (fun y hy => h y (by simp [hy]))]
    rfl

theorem mrg_end {c : Cl} {l : List Cl} (h : ∀ x ∈ l, Lt x c) : mrg l [c] = l ++ [c] := by
  have := mrg_ahead (r := []) h
  rw [List.append_nil] at this
  rw [this]
  simp [mrg]

theorem mrg_put {c x : Cl} {p r : List Cl} (h : ∀ y ∈ p, Lt y c) (hx : Sm x c) : mrg (p ++ x :: r) [c] = p ++ c :: r := by
  rw [mrg_ahead h, mrg_both (ordC_zero.2 hx), mrg_nil_right]

theorem mrg_ins {c x : Cl} {p r : List Cl} (h : ∀ y ∈ p, Lt y c) (hx : Lt c x) : mrg (p ++ x :: r) [c] = p ++ c :: x :: r := by
  have h1 : ¬ ordC x c < 0 := fun k => Lt_irrefl _ (Lt_trans hx (ordC_neg.1 k))
  have h2 : ordC x c ≠ 0 := fun k => Lt_not_Sm hx (ordC_zero.1 k).symm
  rw [mrg_ahead h, mrg_right (by omega), mrg_nil_right]

theorem set_right (x : Cl) (l : List Value) (j : Nat) (u : Value) : (cv x ++ l).set (j + 5) u = cv x ++ l.set j u := by
  have hl : (cv x).length = 5 := rfl
  rw [List.set_append, hl, if_neg (by omega), Nat.add_sub_cancel]

theorem cc_set : ∀ (cs : List Cl) (k : Nat) (c : Cl), k < cs.length → (((((cc cs).set (k * 5) (.string c.row)).set (k * 5 + 1) (.string c.col)).set (k * 5 + 2) (.int .i64 c.time)).set (k * 5 + 3) (.bool c.gone)).set (k * 5 + 4) (.string c.val) = cc (cs.set k c)
  | [], k, c, h => by simp at h
  | x :: cs, 0, c, _ => by simp [cc_cons, cv]
  | x :: cs, k + 1, c, h => by
    have ih := cc_set cs k c (by simpa using h)
    rw [List.set_cons_succ, cc_cons, cc_cons, ← ih, show (k + 1) * 5 = k * 5 + 5 by omega, set_right, show k * 5 + 5 + 1 = k * 5 + 1 + 5 by omega, set_right, show k * 5 + 5 + 2 = k * 5 + 2 + 5 by omega, set_right, show k * 5 + 5 + 3 = k * 5 + 3 + 5 by omega, set_right, show k * 5 + 5 + 4 = k * 5 + 4 + 5 by omega, set_right]

theorem run_append_rdC {P : Program} {w : World} {t ty : TypeId} {base : Nat} {e : TypeId} {z : Value} {bytes : Nat} {v : Value} {n : Nat} {cs : List Cl} {vx : Value} {news : List Cl}
    (hown : w.ownsRow base e 5 v n (cc cs)) (hrd : RdC w vx news)
    (ht : P.underlying t = some (.slice e)) (hinf : (P.info? e).map (fun i => (i.zero, i.size, i.bytes)) = some (some z, 5, bytes)) (hzs : z.cells.size = 5)
    (h63 : n + news.length ≤ 1000000000) (hbytes : bytes ≤ 64) (hbase : base ≤ w.heap.size) :
    ∃ v' w', (Builtin.append_ #[t, t] ty #[v, vx]).run P w = .ok v' w' ∧ w'.ownsRow base e 5 v' (n + news.length) (cc (cs ++ news)) ∧ Below base w w' ∧ w.grownBy w' v.ownBlock := by
  obtain ⟨i, hi, hz, hsize, hby⟩ := info_parts hinf
  have hlt := hown.lt
  have hbytes' : (n + news.length) * bytes ≤ 1000000000 * 64 := Nat.mul_le_mul h63 hbytes
  obtain ⟨ao, cap, hvx, h2, h3, h4, h5⟩ := hrd
  subst hvx
  cases ao with
  | none =>
    have hc := h4 rfl
    have hnews : news = [] := List.eq_nil_of_length_eq_zero (by omega)
    subst hnews
    subst hc
    exact ⟨v, w, run_append_owned_none w base t ty e i 5 ht hi v n _ hown, by simpa using hown, Below.refl _ _, World.grownBy.refl _ _⟩
  | some ad =>
    obtain ⟨v', w', hr, ho', hg', _⟩ := run_append_own (P := P) w base t ty e i z 5 bytes ht hi hz hsize hby hzs (by decide) v n (cc cs) hown ad news.length cap (cc news) (cc_length _) (h5 ad rfl) (cc_one _) (by simp [maxLen]; omega) (by omega) hbase
    rw [← cc_append] at ho'
    exact ⟨v', w', hr, ho', (Below.refl _ _).grown hg' hbase (fun k hk => (hlt k hk).1), hg'⟩

/-- The same as a step of a region that draws its order. -/
theorem step_append_rdC {P : Program} {w : World} {ops : Array Oper} {o : Oper} {a : Act} {K : Act → World → Prop} {Q : Exit → Act → World → Prop} {E : Prop} {s x : Operand} {t : TypeId} {base : Nat} {e : TypeId} {z : Value} {bytes : Nat}
    {v : Value} {n : Nat} {cs : List Cl} {vx : Value} {news : List Cl}
    (hown : w.ownsRow base e 5 v n (cc cs)) (hrd : RdC w vx news)
    (ht : P.underlying t = some (.slice e)) (hinf : (P.info? e).map (fun i => (i.zero, i.size, i.bytes)) = some (some z, 5, bytes)) (hzs : z.cells.size = 5)
    (hgd : o.guard = none) (ho : o.op = .call { callee := .builtin .append, args := #[s, x], argTypes := #[t, t] })
    (hs : a.eval s = v) (hx : a.eval x = vx)
    (h63 : n + news.length ≤ 1000000000) (hbytes : bytes ≤ 64) (hbase : base ≤ w.heap.size)
    (h : ∀ v' w', w'.ownsRow base e 5 v' (n + news.length) (cc (cs ++ news)) → Below base w w' → w.grownBy w' v.ownBlock → K (a.put o.dst v') w') :
    if Region.wanted o (yielded ops a.tmps) = true then Oper.wp P o a w K Q else E := by
  have hw : Region.wanted o (yielded ops a.tmps) = true := by simp [Region.wanted, hgd]
  rw [if_pos hw]
  obtain ⟨v', w', hr, h2, h3, h4⟩ := run_append_rdC (ty := o.type) hown hrd ht hinf hzs h63 hbytes hbase
  unfold Oper.wp execOp
  simp only [ho, resolve, invoke, builtin, Sem.run_bind, Sem.run_pure, Result.andThen_ok, List.map_toArray, List.map_cons, List.map_nil, hs, hx, hr]
  exact h v' w' h2 h3 h4

theorem RdC.uptoC {w : World} {ao : Option Addr} {n cap hi : Nat} {cs : List Cl} (h : RdC w (.slice ao n cap) cs) (h1 : hi ≤ n) : RdC w (Go.sliced ao 0 hi cap 5) (cs.take hi) := by
  have := h.sliced (Nat.zero_le _) h1
  simpa using this

/-- 'v[:hi]' of cells as an operation. -/
theorem run_slice_uptoC {P : Program} {t e : TypeId} {z : Value} {bytes : Nat} (ht : P.underlying t = some (.slice e)) (he : P.elem t = e) (hinf : (P.info? e).map (fun i => (i.zero, i.size, i.bytes)) = some (some z, 5, bytes))
    (ao : Option Addr) (n cap hi : Nat) (h : Int) (hh : h = hi) (h1 : hi ≤ cap) (W : World) :
    (Instr.slice t (.slice ao n cap) none (some (.int .i64 h)) none).run P W = .ok (Go.sliced ao 0 hi cap 5) W := by
  obtain ⟨i, hi0, _, hsize, _⟩ := info_parts hinf
  subst hh
  rw [run_slice_h (P := P) W t ao n cap (by rw [he]; exact ht) .i64 hi (by omega) (by omega)]
  simp [he, sizeOf, typeInfo, hi0, hsize, Result.andThen]

end Go.Proofs.Ytlebbkbbmgmmjad
