/-
  Slices that lie apart from a row that is appended to; a step of the law DiskKeeps.
-/
import Derived.Test.YtlebbkbbmgmmjabDiskW5
import Derived.Maps.AppendAt
namespace Go.Proofs.Ytlebbkbbmgmmjab
open Go.RowKit

/-- v holds nothing of al's block. -/
def Apart (al v : Value) : Prop := ∀ g, al.ownBlock = some g → ∀ a l c, v = .slice (some a) l c → 0 < l → a.block ≠ g

theorem Apart.nil (v : Value) : Apart (.slice none 0 0) v := fun g h => by simp [Value.ownBlock] at h
theorem Apart.new {w : World} {base : Nat} {e : TypeId} {size n : Nat} {al v : Value} {xs : List Value} (h : w.ownsRow base e size al n xs) (hn : New w.heap.size v) : Apart al v := by
  intro g hg a l c hv _
  have := (h.lt g hg).2
  have := hn a l c hv
  omega

theorem Apart.step {w : World} {al al' v : Value} {xs : List Value} (h : Apart al v) (hr : Rd w v xs) (hp : al'.ownBlock = al.ownBlock ∨ al'.ownBlock = some w.heap.size) : Apart al' v := by
  intro g hg a l c hv hl
  rcases hp with hp | hp
  · exact h g (by rw [← hp]; exact hg) a l c hv hl
  · have hx : 0 < xs.length := by
      subst hv
      have := hr.len.1
      omega
    have := hr.lt a l c hv hx
    rw [hp] at hg
    cases hg
    omega

theorem Rd.apart {w w' : World} {al v : Value} {xs : List Value} (h : Rd w v xs) (ha : Apart al v) (hg : w.grownBy w' al.ownBlock) : Rd w' v xs := by
  obtain ⟨ao, cap, hv, h1, h2, h3, h4⟩ := h
  refine ⟨ao, cap, hv, h1, h2, h3, fun a haa j u hu => ?_⟩
  have e : (a.add j).block = a.block := by unfold Addr.add; split <;> rfl
  refine hg.cell (h4 a haa j u hu) ?_
  rw [e]
  intro he
  exact ha a.block he.symm a _ _ (by rw [hv, haa]) (by have := (List.getElem?_eq_some_iff.1 hu).1; omega) rfl

/-- 'append(out, xs...)', and where it lies then. -/
theorem wpList_append_at {P : Program} {w : World} {ops : Array Oper} {rest : List Oper} {o : Oper} {a : Act} {Q : Exit → Act → World → Prop} {s x : Operand} {t : TypeId} {base : Nat} {e : TypeId} {z : Value} {bytes : Nat}
    {v : Value} {n : Nat} {xs : List Value} {vx : Value} {news : List Value}
    (hown : w.ownsRow base e 1 v n xs) (hrd : Rd w vx news)
    (ht : P.underlying t = some (.slice e)) (hinf : (P.info? e).map (fun i => (i.zero, i.size, i.bytes)) = some (some z, 1, bytes)) (hzs : z.cells.size = 1)
    (hgd : o.guard = none) (ho : o.op = .call { callee := .builtin .append, args := #[s, x], argTypes := #[t, t] })
    (hs : a.eval s = v) (hx : a.eval x = vx) (h1 : ∀ u ∈ news, u.oneCell' = true)
    (h63 : n + news.length ≤ 2000000000000) (hbytes : bytes ≤ 64) (hbase : base ≤ w.heap.size)
    (h : ∀ v' w', w'.ownsRow base e 1 v' (n + news.length) (xs ++ news) → Below base w w' → w.grownBy w' v.ownBlock → (v'.ownBlock = v.ownBlock ∨ v'.ownBlock = some w.heap.size) → wpList P ops Q rest (a.put o.dst v') w') : wpList P ops Q (o :: rest) a w := by
  obtain ⟨i, hi, hz, hsize, hby⟩ := info_parts hinf
  have hlt := hown.lt
  have hbytes' : (n + news.length) * bytes ≤ 2000000000000 * 64 := Nat.mul_le_mul h63 hbytes
  obtain ⟨ao, cap, hvx, h2, h3, h4, h5⟩ := hrd
  cases ao with
  | none =>
    have hc := h4 rfl
    have hnews : news = [] := List.eq_nil_of_length_eq_zero (by omega)
    subst hnews
    subst hc
    refine wpList_append_own_none hgd s x t ho base e i 1 ht hi v n xs hs hown (hx.trans hvx) ?_
    exact h v w (by simpa using hown) (Below.refl _ _) (World.grownBy.refl _ _) (.inl rfl)
  | some ad =>
    refine wpList_append_own_at w hgd s x t ho base e i z 1 bytes ht hi hz hsize hby hzs (by decide) v n xs hs hown ad news.length cap news (hx.trans hvx) (by simp) (h5 ad rfl) h1 (by simp [maxLen]; omega) (by omega) hbase ?_
    intro v' w' ho' hg' _ hp
    exact h v' w' ho' ((Below.refl _ _).grown hg' hbase (fun k hk => (hlt k hk).1)) hg' hp

/-- 'out[:hi]' of a row of one's own. -/
theorem owns_upto {w : World} {base : Nat} {e : TypeId} {ao : Option Addr} {n cap hi : Nat} {xs : List Value} (h : w.ownsRow base e 1 (.slice ao n cap) n xs) (hh : hi ≤ n) :
    w.ownsRow base e 1 (Go.sliced ao 0 hi cap 1) hi (xs.take hi) ∧ (Go.sliced ao 0 hi cap 1).ownBlock = (Value.slice ao n cap).ownBlock ∧ Go.sliced ao 0 hi cap 1 = .slice ao hi cap := by
  have hl : xs.length = n := by simpa using h.1
  have hs : Go.sliced ao 0 hi cap 1 = .slice ao hi cap := by
    rcases h.2 with ⟨hv, hn⟩ | ⟨g, cap', cur, hv, _⟩
    · simp only [Value.slice.injEq] at hv
      obtain ⟨rfl, rfl, rfl⟩ := hv
      have : hi = 0 := by omega
      subst this
      rfl
    · simp only [Value.slice.injEq] at hv
      obtain ⟨rfl, _, rfl⟩ := hv
      unfold Go.sliced
      simp only [Option.map_some, Addr.add_lit, Nat.zero_mul, Nat.add_zero, ite_self, Nat.sub_zero]
  refine ⟨?_, ?_, hs⟩
  rotate_left
  · rw [hs]
    cases ao <;> rfl
  rw [hs]
  refine ⟨by simp; omega, ?_⟩
  · rcases h.2 with ⟨hv, hn⟩ | ⟨g, cap', cur, hv, hb, hg, h1, h2, h3, h4⟩
    · simp only [Value.slice.injEq] at hv
      obtain ⟨rfl, rfl, rfl⟩ := hv
      have : hi = 0 := by omega
      subst this
      exact .inl ⟨rfl, rfl⟩
    · simp only [Value.slice.injEq] at hv
      obtain ⟨rfl, _, rfl⟩ := hv
      refine .inr ⟨g, cap, cur, rfl, hb, hg, by omega, h2, h3, ?_⟩
      rw [← h4, List.take_take, Nat.min_eq_left (by omega), Nat.mul_one]

/-- Two blocks of two cells that a round laid, the second call's results stored in them. -/
theorem store_two {wr w2 : World} {z : Nat} {D F : TypeId} {x y c a : Value} (hb : Below z wr w2) (hT : Tb w2 z D x y) (hU : Tb w2 (z + 1) F c a) (x' y' c' a' : Value) :
    let wE := (((w2.setCell ⟨z, 0, none⟩ x').setCell ⟨z, 1, none⟩ y').setCell ⟨z + 1, 0, none⟩ c').setCell ⟨z + 1, 1, none⟩ a'
    Below z wr wE ∧ Tb wE z D x' y' ∧ Tb wE (z + 1) F c' a' ∧ wE.heap.size = w2.heap.size ∧ ∀ (v : Value) (xs : List Value), Rd w2 v xs → New (z + 2) v → Rd wE v xs := by
  refine ⟨(((hb.setCell (Nat.le_refl _) _).setCell (Nat.le_refl _) _).setCell (by simp) _).setCell (by simp) _, ?_, ?_, by simp, fun v xs h hn => ?_⟩
  · exact ((hT.set x' y').far (by simp) c').far (by simp) a'
  · exact ((hU.far (by simp) x').far (by simp) y').set c' a'
  · exact (((h.setNew hn (by simp) x').setNew hn (by simp) y').setNew hn (by simp) c').setNew hn (by simp) a'

theorem enters10 (args : Array Value) (W : World) : (callFunc 10 args).run Try.prog W = .ok (.enter 10 args) W := by kernel_rfl
theorem Append_u (v : Value) (bs : List UInt8) (k : Int) (x : Value) (ys : List UInt8) (w : World) (h : Rd w v (bc bs)) (hx : Rd w x (bc ys)) :
    Calls Try.prog 10 #[.agg #[v, .int .i64 k], x] w fun e w' => ∃ u, e = .returned u ∧ ∃ v', u = .tuple #[dsk v' (appendR bs k ys).2.1, flt (appendR bs k ys).2.2 0] ∧ Rd w' v' (bc (appendR bs k ys).1) ∧ Below w.heap.size w w' ∧ New w.heap.size v' :=
  (Append_any v bs k x ys w h hx).mono fun _ _ ⟨v', he, r⟩ => ⟨_, he, v', rfl, r⟩

theorem Tb.grown {w w' : World} {B : Nat} {t : TypeId} {x y : Value} {row : Option Nat} (h : Tb w B t x y) (hg : w.grownBy w' row) (hR : some B ≠ row) : Tb w' B t x y := by
  unfold Tb
  rw [hg.block _ h.facts.2.2.2.2 hR]
  exact h

theorem crashR_in {bs : List UInt8} {k q : Nat} (h : checkR bs (k : Int) = 0) (h2 : k + q ≤ bs.length) : crashR bs (k : Int) (q : Int) = (bs.take (k + q), ((k + q : Nat) : Int), 0, 0) := by
  rw [crashR_ok h (by omega) (by omega), show (k : Int) + (q : Int) = ((k + q : Nat) : Int) by omega, trimR_ok h h2]

theorem trimR_all {bs : List UInt8} {k : Int} (h : checkR bs k = 0) : trimR bs k (bs.length : Int) = (bs, (bs.length : Int), 0, 0) := by
  rw [trimR_ok h (Nat.le_refl _), List.take_length]

end Go.Proofs.Ytlebbkbbmgmmjab
