/-
  Texts joined: CellR4, AsksMath, CellR5, CellS5, WalW4, WalW5, CellW7.
-/
import Derived.Test.YtdodajalejfbiadMWalApplies9
import Derived.Lib.Overlaps
import Derived.Lib.AppendZerosOnto
import Derived.Deep.RegionLaw
/-
  The walks over the document's answers of cells: scans.
-/
namespace Go.Proofs.Ytdodajalejfbiad
open Go.RowKit

/-- What is wrong with an ask. -/
def askF (t m : Int) : Int × Int := if isNumB t = false then (3, -1) else if m < 0 ∨ 1000 < m then (3, -2) else (0, 0)


/-- Does the document's scan take this cell? -/
def takeB (cs : List Cl) (a b : ByteArray) (t : Int) (c : Cl) : Bool := askB a b c.row && ((seenR cs (rc c) t).2 && eqC (seenR cs (rc c) t).1 c)
/-- What the document scans. -/
def scannedR (cs : List Cl) (a b : ByteArray) (t m : Int) : List Cl := (cs.filter (takeB cs a b t)).take m.toNat

theorem filter_snoc {p : Cl → Bool} {cs : List Cl} {k : Nat} {c : Cl} (hc : cs[k]? = some c) : (cs.take (k + 1)).filter p = (cs.take k).filter p ++ if p c then [c] else [] := by
  rw [List.take_add_one, hc, List.filter_append]
  simp [List.filter_cons]

theorem scanned_end {cs : List Cl} {p : Cl → Bool} {k : Nat} {m : Int} (h : k = cs.length ∨ m ≤ ((cs.take k).filter p).length) (h2 : (((cs.take k).filter p).length : Int) ≤ m) : (cs.filter p).take m.toNat = (cs.take k).filter p := by
  have e : cs.filter p = (cs.take k).filter p ++ (cs.drop k).filter p := by rw [← List.filter_append, List.take_append_drop]
  rcases h with h | h
  · subst h
    rw [List.take_length] at h2 ⊢
    rw [List.take_of_length_le (by omega)]
  · rw [e, List.take_append, List.take_of_length_le (by omega), show m.toNat - ((cs.take k).filter p).length = 0 by omega, List.take_zero, List.append_nil]

theorem eqC_cases (d c : Cl) : eqC d c = true ∧ d = c ∨ eqC d c = false ∧ ((d.row.toList == c.row.toList) = false ∨ (d.row.toList == c.row.toList) = true ∧ (d.col.toList == c.col.toList) = false ∨ (d.row.toList == c.row.toList) = true ∧ (d.col.toList == c.col.toList) = true ∧ (d.time == c.time) = false ∨ (d.row.toList == c.row.toList) = true ∧ (d.col.toList == c.col.toList) = true ∧ (d.time == c.time) = true ∧ (d.gone == c.gone) = false ∨ (d.row.toList == c.row.toList) = true ∧ (d.col.toList == c.col.toList) = true ∧ (d.time == c.time) = true ∧ (d.gone == c.gone) = true ∧ (d.val.toList == c.val.toList) = false) := by
  cases h : eqC d c
  · right
    refine ⟨rfl, ?_⟩
    unfold eqC at h
    revert h
    cases (d.row.toList == c.row.toList) <;> cases (d.col.toList == c.col.toList) <;> cases h3 : (d.time == c.time) <;> cases (d.gone == c.gone) <;> cases (d.val.toList == c.val.toList) <;> simp_all
  · exact .inl ⟨rfl, eqC_iff.1 h⟩


end Go.Proofs.Ytdodajalejfbiad

/-
  Plain maths of the law CellAsks: what the document sees is what is seen.
-/
namespace Go.Proofs.Ytdodajalejfbiad
open Go.RowKit

def unGone : Option Cl → Option Cl
  | none => none
  | some c => if c.gone then none else some c

theorem visGo_find_none (t : Int) (k : Ky) {cs : List Cl} {nw : Cl} (hp : cs.Pairwise Lt) (hn : ∀ c ∈ cs, kl (rc nw) (rc c) ∨ rc nw = rc c) (hk : k = rc nw) : (visGo t nw cs).find? (isAt k) = none := by
  rw [List.find?_eq_none]
  intro d hd h
  have h1 := (visGo_pw t cs nw hp hn).1 d hd
  rw [isAt_iff] at h
  exact kl_ne h1 (by rw [h, hk])

theorem visGo_find (t : Int) (k : Ky) : ∀ (cs : List Cl) (nw : Cl), cs.Pairwise Lt → (∀ c ∈ cs, kl (rc nw) (rc c) ∨ rc nw = rc c) → k ≠ rc nw →
    (visGo t nw cs).find? (isAt k) = unGone (cs.find? (hitB k t))
  | [], _, _, _, _ => rfl
  | c :: r, nw, hp, hn, hk => by
    obtain ⟨hp1, hp2⟩ := List.pairwise_cons.1 hp
    cases hh : hid t nw c
    · have hx : ¬ (t < c.time ∨ rc c = rc nw) := fun h => by rw [hid_iff.2 h] at hh; cases hh
      have hnx : nextN t nw c = c := by simp [nextN, hh]
      have hge : ∀ d ∈ r, kl (rc c) (rc d) ∨ rc c = rc d := fun d hd => Lt_le (hp1 d hd)
      unfold visGo
      rw [hnx]
      by_cases e : k = rc c
      · have hhit : hitB k t c = true := by
          unfold hitB
          rw [isAt_iff.2 e.symm, Bool.true_and, decide_eq_true_eq]
          omega
        rw [List.find?_cons_of_pos hhit]
        cases hg : c.gone
        · rw [if_pos (by simp [seenB, hh, hg]), List.find?_cons_of_pos (isAt_iff.2 e.symm)]
          simp [unGone, hg]
        · rw [if_neg (by simp [seenB, hg]), visGo_find_none t k hp2 hge e]
          simp [unGone, hg]
      · have hat : isAt k c = false := by
          cases h : isAt k c
          · rfl
          · exact absurd (isAt_iff.1 h).symm e
        have hhit : hitB k t c = false := by unfold hitB; rw [hat]; rfl
        rw [List.find?_cons_of_neg (by rw [hhit]; decide), ← visGo_find t k r c hp2 hge e]
        split
        · rw [List.find?_cons_of_neg (by rw [hat]; decide)]
        · rfl
    · have hnx : nextN t nw c = nw := by simp [nextN, hh]
      have hs : seenB t nw c = false := by simp [seenB, hh]
      have hhit : hitB k t c = false := by
        cases h : hitB k t c
        · rfl
        · have h1 := hitB_rc h
          unfold hitB at h
          rw [Bool.and_eq_true, decide_eq_true_eq] at h
          rcases hid_iff.1 hh with h2 | h2
          · omega
          · exact absurd (h1.symm.trans h2) hk
      unfold visGo
      rw [hnx, hs, if_neg (by decide), visGo_find t k r nw hp2 (fun d hd => hn d (by simp [hd])) hk, List.find?_cons_of_neg (by rw [hhit]; decide)]

theorem vis_find {cs : List Cl} (t : Int) (k : Ky) (h : (checkC cs).1 = 0) : (vis t cs).find? (isAt k) = unGone (cs.find? (hitB k t)) := by
  have hz : ∀ c ∈ cs, kl (rc zeroC) (rc c) := fun c hc => kl_zero (fine_code h hc)
  by_cases e : k = rc zeroC
  · unfold vis
    rw [visGo_find_none t k (fine_pw h) (fun c hc => .inl (hz c hc)) e]
    have : cs.find? (hitB k t) = none := by
      rw [List.find?_eq_none]
      intro c hc hh
      exact kl_ne (hz c hc) (by rw [hitB_rc hh, e])
    rw [this]
    rfl
  · exact visGo_find t k cs zeroC (fine_pw h) (fun c hc => .inl (hz c hc)) e

theorem seenR_vis {cs : List Cl} (t : Int) (k : Ky) (h : (checkC cs).1 = 0) : seenR cs k t = match (vis t cs).find? (isAt k) with
    | none => (zeroC, false)
    | some c => (c, true) := by
  rw [vis_find t k h]
  unfold seenR
  cases cs.find? (hitB k t) with
  | none => rfl
  | some c => cases hg : c.gone <;> simp [unGone, hg]

theorem get_seen {cs : List Cl} {row col : ByteArray} {t : Int} (h1 : (checkC cs).1 = 0) (h2 : isNumB t = true) : getC cs row col t = ((seenR cs (row.toList, col.toList) t).1.val, (seenR cs (row.toList, col.toList) t).2, (0, 0)) := by
  rw [getC_fine h1 h2, seenR_vis t _ h1]
  cases (vis t cs).find? (isAt (row.toList, col.toList)) <;> rfl

theorem scanned_vis {cs : List Cl} (a b : ByteArray) (t : Int) (h : (checkC cs).1 = 0) : cs.filter (takeB cs a b t) = (vis t cs).filter fun c => askB a b c.row := by
  have hv := vis_pw t h
  refine pw_ext Lt_irrefl (fun _ _ _ => Lt_trans) ((fine_pw h).filter _) (((fine_pw h).sublist (vis_sub t cs)).filter _) fun c => ?_
  rw [List.mem_filter, List.mem_filter]
  unfold takeB
  rw [seenR_vis t _ h]
  constructor
  · rintro ⟨hc, ht⟩
    rw [Bool.and_eq_true, Bool.and_eq_true] at ht
    obtain ⟨h1, h2, h3⟩ := ht
    cases hf : (vis t cs).find? (isAt (rc c)) with
    | none => rw [hf] at h2; cases h2
    | some d =>
      rw [hf] at h3
      have e := eqC_iff.1 h3
      simp only at e
      subst e
      exact ⟨List.mem_of_find?_eq_some hf, h1⟩
  · rintro ⟨hc, ha⟩
    refine ⟨(vis_sub t cs).subset hc, ?_⟩
    rw [find_pw hv hc, ha]
    simp [eqC_iff.2 rfl]

theorem scan_scanned {cs : List Cl} {a b : ByteArray} {t m : Int} (h : (scanC cs a b t m).2.1 = 0) : (scanC cs a b t m).1 = scannedR cs a b t m := by
  obtain ⟨h1, _, _, _, h5⟩ := scanC_fine h
  rw [h5, scannedR, scanned_vis a b t h1]

/-- The faults of Scan: those of the cells, then those of the ask. -/
theorem scan_fault {cs : List Cl} {a b : ByteArray} {t m : Int} : (scanC cs a b t m).2 = if (checkC cs).1 = 0 then askF t m else checkC cs := by
  unfold scanC askF
  by_cases h1 : (checkC cs).1 = 0
  · rw [if_neg (by omega), if_pos h1]
    by_cases h2 : isNumB t = false
    · rw [if_pos h2, if_pos h2]
    · rw [if_neg h2, if_neg h2]
      split <;> rfl
  · rw [if_pos h1, if_neg h1]

theorem scan_bad {cs : List Cl} {a b : ByteArray} {t m : Int} (h : (scanC cs a b t m).2.1 ≠ 0) : (scanC cs a b t m).1 = [] := by
  unfold scanC at h ⊢
  by_cases h1 : (checkC cs).1 = 0
  · rw [if_neg (by omega)] at h ⊢
    by_cases h2 : isNumB t = false
    · rw [if_pos h2]
    · rw [if_neg h2] at h ⊢
      by_cases h3 : m < 0 ∨ 1000 < m
      · rw [if_pos h3]
      · rw [if_neg h3] at h; simp at h
  · rw [if_pos h1]

end Go.Proofs.Ytdodajalejfbiad

/-
  The closures of the laws of cells, and the comparison that calls them.
-/
namespace Go.Proofs.Ytdodajalejfbiad
open Go.RowKit




end Go.Proofs.Ytdodajalejfbiad

/-
  The walks over the document's sorting: PutCell.
-/
namespace Go.Proofs.Ytdodajalejfbiad
open Go.RowKit

theorem mrg_ahead {c : Cl} : ∀ {p r : List Cl}, (∀ x ∈ p, Lt x c) → mrg (p ++ r) [c] = p ++ mrg r [c]
  | [], r, _ => rfl
  | x :: p, r, h => by
    rw [List.cons_append, mrg_left (ordC_neg.2 (h x (by simp))), mrg_ahead (fun y hy => h y (by simp [hy]))]
    rfl

theorem mrg_end {c : Cl} {l : List Cl} (h : ∀ x ∈ l, Lt x c) : mrg l [c] = l ++ [c] := by
  have := mrg_ahead (r := []) h
  rw [List.append_nil] at this
  rw [this]
  simp [mrg]

theorem mrg_put {c x : Cl} {p r : List Cl} (h : ∀ y ∈ p, Lt y c) (hx : Sm x c) : mrg (p ++ x :: r) [c] = p ++ c :: r := by
  rw [mrg_ahead h, mrg_both (ordC_zero.2 hx), mrg_nil_right]

theorem mrg_ins {c x : Cl} {p r : List Cl} (h : ∀ y ∈ p, Lt y c) (hx : Lt c x) : mrg (p ++ x :: r) [c] = p ++ c :: x :: r := by
  have h1 : ¬ ordC x c < 0 := fun k => Lt_irrefl _ (Lt_trans hx (ordC_neg.1 k))
  have h2 : ordC x c ≠ 0 := fun k => Lt_not_Sm hx (ordC_zero.1 k).symm
  rw [mrg_ahead h, mrg_right (by omega), mrg_nil_right]

theorem set_right (x : Cl) (l : List Value) (j : Nat) (u : Value) : (cv x ++ l).set (j + 5) u = cv x ++ l.set j u := by
  have hl : (cv x).length = 5 := rfl
  rw [List.set_append, hl, if_neg (by omega), Nat.add_sub_cancel]

theorem cc_set : ∀ (cs : List Cl) (k : Nat) (c : Cl), k < cs.length → (((((cc cs).set (k * 5) (.string c.row)).set (k * 5 + 1) (.string c.col)).set (k * 5 + 2) (.int .i64 c.time)).set (k * 5 + 3) (.bool c.gone)).set (k * 5 + 4) (.string c.val) = cc (cs.set k c)
  | [], k, c, h => by simp at h
  | x :: cs, 0, c, _ => by simp [cc_cons, cv]
  | x :: cs, k + 1, c, h => by
    have ih := cc_set cs k c (by simpa using h)
    rw [List.set_cons_succ, cc_cons, cc_cons, ← ih, show (k + 1) * 5 = k * 5 + 5 by omega, set_right, show k * 5 + 5 + 1 = k * 5 + 1 + 5 by omega, set_right, show k * 5 + 5 + 2 = k * 5 + 2 + 5 by omega, set_right, show k * 5 + 5 + 3 = k * 5 + 3 + 5 by omega, set_right, show k * 5 + 5 + 4 = k * 5 + 4 + 5 by omega, set_right]

theorem run_append_rdC {P : Program} {w : World} {t ty : TypeId} {base : Nat} {e : TypeId} {z : Value} {bytes : Nat} {v : Value} {n : Nat} {cs : List Cl} {vx : Value} {news : List Cl}
    (hown : w.ownsRow base e 5 v n (cc cs)) (hrd : RdC w vx news)
    (ht : P.underlying t = some (.slice e)) (hinf : (P.info? e).map (fun i => (i.zero, i.size, i.bytes)) = some (some z, 5, bytes)) (hzs : z.cells.size = 5)
    (h63 : n + news.length ≤ 1000000000) (hbytes : bytes ≤ 64) (hbase : base ≤ w.heap.size) :
    ∃ v' w', (Builtin.append_ #[t, t] ty #[v, vx]).run P w = .ok v' w' ∧ w'.ownsRow base e 5 v' (n + news.length) (cc (cs ++ news)) ∧ Below base w w' ∧ w.grownBy w' v.ownBlock := by
  obtain ⟨i, hi, hz, hsize, hby⟩ := info_parts hinf
  have hlt := hown.lt
  have hbytes' : (n + news.length) * bytes ≤ 1000000000 * 64 := Nat.mul_le_mul h63 hbytes
  obtain ⟨ao, cap, hvx, h2, h3, h4, h5⟩ := hrd
  subst hvx
  cases ao with
  | none =>
    have hc := h4 rfl
    have hnews : news = [] := List.eq_nil_of_length_eq_zero (by omega)
    subst hnews
    subst hc
    exact ⟨v, w, run_append_owned_none w base t ty e i 5 ht hi v n _ hown, by simpa using hown, Below.refl _ _, World.grownBy.refl _ _⟩
  | some ad =>
    obtain ⟨v', w', hr, ho', hg', _⟩ := run_append_own (P := P) w base t ty e i z 5 bytes ht hi hz hsize hby hzs (by decide) v n (cc cs) hown ad news.length cap (cc news) (cc_length _) (h5 ad rfl) (cc_one _) (by simp [maxLen]; omega) (by omega) hbase
    rw [← cc_append] at ho'
    exact ⟨v', w', hr, ho', (Below.refl _ _).grown hg' hbase (fun k hk => (hlt k hk).1), hg'⟩

/-- The same as a step of a region that draws its order. -/
theorem step_append_rdC {P : Program} {w : World} {ops : Array Oper} {o : Oper} {a : Act} {K : Act → World → Prop} {Q : Exit → Act → World → Prop} {E : Prop} {s x : Operand} {t : TypeId} {base : Nat} {e : TypeId} {z : Value} {bytes : Nat}
    {v : Value} {n : Nat} {cs : List Cl} {vx : Value} {news : List Cl}
    (hown : w.ownsRow base e 5 v n (cc cs)) (hrd : RdC w vx news)
    (ht : P.underlying t = some (.slice e)) (hinf : (P.info? e).map (fun i => (i.zero, i.size, i.bytes)) = some (some z, 5, bytes)) (hzs : z.cells.size = 5)
    (hgd : o.guard = none) (ho : o.op = .call { callee := .builtin .append, args := #[s, x], argTypes := #[t, t] })
    (hs : a.eval s = v) (hx : a.eval x = vx)
    (h63 : n + news.length ≤ 1000000000) (hbytes : bytes ≤ 64) (hbase : base ≤ w.heap.size)
    (h : ∀ v' w', w'.ownsRow base e 5 v' (n + news.length) (cc (cs ++ news)) → Below base w w' → w.grownBy w' v.ownBlock → K (a.put o.dst v') w') :
    if Region.wanted o (yielded ops a.tmps) = true then Oper.wp P o a w K Q else E := by
  have hw : Region.wanted o (yielded ops a.tmps) = true := by simp [Region.wanted, hgd]
  rw [if_pos hw]
  obtain ⟨v', w', hr, h2, h3, h4⟩ := run_append_rdC (ty := o.type) hown hrd ht hinf hzs h63 hbytes hbase
  unfold Oper.wp execOp
  simp only [ho, resolve, invoke, builtin, Sem.run_bind, Sem.run_pure, Result.andThen_ok, List.map_toArray, List.map_cons, List.map_nil, hs, hx, hr]
  exact h v' w' h2 h3 h4

theorem RdC.uptoC {w : World} {ao : Option Addr} {n cap hi : Nat} {cs : List Cl} (h : RdC w (.slice ao n cap) cs) (h1 : hi ≤ n) : RdC w (Go.sliced ao 0 hi cap 5) (cs.take hi) := by
  have := h.sliced (Nat.zero_le _) h1
  simpa using this

/-- 'v[:hi]' of cells as an operation. -/
theorem run_slice_uptoC {P : Program} {t e : TypeId} {z : Value} {bytes : Nat} (ht : P.underlying t = some (.slice e)) (he : P.elem t = e) (hinf : (P.info? e).map (fun i => (i.zero, i.size, i.bytes)) = some (some z, 5, bytes))
    (ao : Option Addr) (n cap hi : Nat) (h : Int) (hh : h = hi) (h1 : hi ≤ cap) (W : World) :
    (Instr.slice t (.slice ao n cap) none (some (.int .i64 h)) none).run P W = .ok (Go.sliced ao 0 hi cap 5) W := by
  obtain ⟨i, hi0, _, hsize, _⟩ := info_parts hinf
  subst hh
  rw [run_slice_h (P := P) W t ao n cap (by rw [he]; exact ht) .i64 hi (by omega) (by omega)]
  simp [he, sizeOf, typeInfo, hi0, hsize, Result.andThen]

end Go.Proofs.Ytdodajalejfbiad

/-
  The walk over slices.Insert at cells, one of them put in.
-/
namespace Go.Proofs.Ytdodajalejfbiad
open Go.RowKit

/-- 'copy' of elements of K places each into a row that is known whole. -/
theorem run_copy_rowK {P : Program} (w : World) (dT sT ty elem : TypeId) (K g o dLen dCap : Nat) (a : Addr) (sLen sCap m : Nat) (cur : Array Value) (t : TypeId) (cs : List Value)
    (hu : P.underlying dT = some (.slice elem)) (hs : (P.info? elem).map (·.size) = some K)
    (hg : w.heap[g]? = some (.cells cur t (0, 0))) (hm : Nat.min sLen dLen = m) (hn : cs.length = m * K)
    (hsrc : ∀ j v, cs[j]? = some v → w.cell? (a.add j) = some v) (hfit : o + cs.length ≤ cur.size) (h1 : ∀ v ∈ cs, v.oneCell' = true) :
    (Builtin.copy_ #[dT, sT] ty #[.slice (some ⟨g, o, none⟩) dLen dCap, .slice (some a) sLen sCap]).run P w =
      .ok (goInt m) (w.setRow g (cur.toList.take o ++ cs ++ cur.toList.drop (o + cs.length)).toArray) := by
  have hl := run_loadCells_list (P := P) w a cs hsrc
  rw [hn] at hl
  have hst := run_storeCells_at P g o t cs 0 cur w hg (by simpa using hfit) h1
  cases hq : P.info? elem with
  | none => simp [hq] at hs
  | some i =>
    have hi : i.size = K := by simpa [hq] using hs
    simp [Builtin.copy_, run_underlying hu, Builtin.lenOf, Builtin.firstCells, sizeOf, typeInfo, hq, hi, hm, hl, hst]

/-- What a copy into a row leaves. -/
structure Cpd (w w' : World) (g : Nat) (t : TypeId) (R : List Value) : Prop where
  row : w'.heap[g]? = some (.cells R.toArray t (0, 0))
  oth : ∀ k, k ≠ g → w'.heap[k]? = w.heap[k]?
  siz : w'.heap.size = w.heap.size
  bel : ∀ B, B ≤ g → Below B w w'

theorem cpd_setRow {w : World} {g : Nat} {cur : Array Value} {t : TypeId} (hg : w.heap[g]? = some (.cells cur t (0, 0))) (R : List Value) : Cpd w (w.setRow g R.toArray) g t R :=
  ⟨setRow_heap w g _ _ t _ hg, fun k hk => setRow_other w g k _ hk, by simp [World.setRow], fun B hB => below_setRow (Below.refl _ _) hB _⟩

theorem wpList_copy_rowK {P : Program} {w : World} {ops : Array Oper} {rest : List Oper} {o : Oper} {a : Act} {Q : Exit → Act → World → Prop} {d s : Operand} {dT sT elem t : TypeId} {K g off dLen dCap sLen sCap m : Nat} {ad : Addr} {cur : Array Value} {cs R : List Value}
    (hu : P.underlying dT = some (.slice elem)) (hsz : (P.info? elem).map (·.size) = some K) (hg : w.heap[g]? = some (.cells cur t (0, 0))) (hm : Nat.min sLen dLen = m) (hn : cs.length = m * K)
    (hsrc : ∀ j v, cs[j]? = some v → w.cell? (ad.add j) = some v) (hfit : off + cs.length ≤ cur.size) (h1 : ∀ v ∈ cs, v.oneCell' = true) (hR : R = cur.toList.take off ++ cs ++ cur.toList.drop (off + cs.length))
    (hgd : o.guard = none) (ho : o.op = .call { callee := .builtin .copy, args := #[d, s], argTypes := #[dT, sT] }) (hd : a.eval d = .slice (some ⟨g, off, none⟩) dLen dCap) (hs : a.eval s = .slice (some ad) sLen sCap)
    (h : ∀ w', Cpd w w' g t R → wpList P ops Q rest (a.put o.dst (goInt m)) w') : wpList P ops Q (o :: rest) a w := by
  refine wpList_plain hgd fun KK hK => ?_
  have hrun := run_copy_rowK (P := P) w dT sT o.type elem K g off dLen dCap ad sLen sCap m cur t cs hu hsz hg hm hn hsrc hfit h1
  rw [← hR] at hrun
  unfold Oper.wp
  simp only [execOp, ho, resolve, invoke, builtin, Sem.run_bind, Sem.run_pure, Result.andThen_ok, List.map_toArray, List.map_cons, List.map_nil, hd, hs, hrun]
  exact hK _ _ (h _ (cpd_setRow hg R))

theorem step_copy_rowK {P : Program} {w : World} {ops : Array Oper} {o : Oper} {a : Act} {KK : Act → World → Prop} {Q : Exit → Act → World → Prop} {E : Prop} {d s : Operand} {dT sT elem t : TypeId} {K g off dLen dCap sLen sCap m : Nat} {ad : Addr} {cur : Array Value} {cs R : List Value}
    (hu : P.underlying dT = some (.slice elem)) (hsz : (P.info? elem).map (·.size) = some K) (hg : w.heap[g]? = some (.cells cur t (0, 0))) (hm : Nat.min sLen dLen = m) (hn : cs.length = m * K)
    (hsrc : ∀ j v, cs[j]? = some v → w.cell? (ad.add j) = some v) (hfit : off + cs.length ≤ cur.size) (h1 : ∀ v ∈ cs, v.oneCell' = true) (hR : R = cur.toList.take off ++ cs ++ cur.toList.drop (off + cs.length))
    (hgd : o.guard = none) (ho : o.op = .call { callee := .builtin .copy, args := #[d, s], argTypes := #[dT, sT] }) (hd : a.eval d = .slice (some ⟨g, off, none⟩) dLen dCap) (hs : a.eval s = .slice (some ad) sLen sCap)
    (h : ∀ w', Cpd w w' g t R → KK (a.put o.dst (goInt m)) w') : if Region.wanted o (yielded ops a.tmps) = true then Oper.wp P o a w KK Q else E := by
  have hw : Region.wanted o (yielded ops a.tmps) = true := by simp [Region.wanted, hgd]
  rw [if_pos hw]
  have hrun := run_copy_rowK (P := P) w dT sT o.type elem K g off dLen dCap ad sLen sCap m cur t cs hu hsz hg hm hn hsrc hfit h1
  rw [← hR] at hrun
  unfold Oper.wp
  simp only [execOp, ho, resolve, invoke, builtin, Sem.run_bind, Sem.run_pure, Result.andThen_ok, List.map_toArray, List.map_cons, List.map_nil, hd, hs, hrun]
  exact h _ (cpd_setRow hg R)

theorem Try.size5 : (Try.prog.info? 91).map (·.size) = some 5 := by kernel_rfl

theorem sliced5 (g lo hi cap : Nat) (h : lo ≠ cap) : Go.sliced (some ⟨g, 0, none⟩) lo hi cap 5 = .slice (some ⟨g, lo * 5, none⟩) (hi - lo) (cap - lo) := by
  unfold Go.sliced
  rw [if_neg (Ne.symm h), Option.map_some, Addr.add_lit, Nat.zero_add]

theorem ca_list (c : Cl) : (ca c).toList = cv c := rfl

set_option maxRecDepth 100000 in
set_option maxHeartbeats 1000000 in
theorem insertEnd_any (v : Value) (cs : List Cl) (c : Cl) (base vb : Nat) (w : World) (hown : w.ownsRow base 91 5 v cs.length (cc cs)) (hb : base ≤ w.heap.size) (hl : cs.length ≤ 1000000) (hvb : RdC w (.slice (some ⟨vb, 0, none⟩) 1 1) [c]) :
    Calls Try.prog 110 #[v, .int .i64 cs.length, .slice (some ⟨vb, 0, none⟩) 1 1] w fun e w' => ∃ v', e = .returned v' ∧ w'.ownsRow base 91 5 v' (cs ++ [c]).length (cc (cs ++ [c])) ∧ Below base w w' := by
  obtain ⟨ao, cap, hv⟩ := ownsC_shape hown
  subst hv
  have hsl := run_slice_fromC (P := Try.prog) Try.underlying30 (by kernel_rfl) Try.info91 ao cs.length cap cs.length cs.length rfl (Nat.le_refl _)
  have hee : ((cs.length : Int) == (cs.length : Int)) = true := by simp
  have hl2 : cs.length + [c].length ≤ 1000000000 := by simp; omega
  go_enter Try.func110, Try.ntmps110
  go_wp2_with (at_builtin; go_must (refine wpList_append_rdC hown hvb Try.underlying30 Try.info91 rfl rfl rfl rfl rfl hl2 (by decide) hb ?_); intro v5 w5 ho5 hb5 hg5; clear hg5)
  all_goals
    go_ret
    exact ⟨_, rfl, by simpa using ho5, hb5⟩

/-- The row behind both copies. -/
theorem row_shift {cur : List Value} {cs : List Cl} {i n cap : Nat} {c : Cl} (hn : cs.length = n) (hc : cur.length = cap * 5) (ht : cur.take (n * 5) = cc cs) (hi : i < n) (hr : n + 1 ≤ cap) :
    (((cur.take ((i + 1) * 5) ++ cc (cs.drop i) ++ cur.drop ((i + 1) * 5 + (cc (cs.drop i)).length)).take (i * 5) ++ cv c ++ (cur.take ((i + 1) * 5) ++ cc (cs.drop i) ++ cur.drop ((i + 1) * 5 + (cc (cs.drop i)).length)).drop (i * 5 + (cv c).length)).take ((n + 1) * 5) = cc (cs.take i ++ c :: cs.drop i)) ∧
    ((cur.take ((i + 1) * 5) ++ cc (cs.drop i) ++ cur.drop ((i + 1) * 5 + (cc (cs.drop i)).length)).take (i * 5) ++ cv c ++ (cur.take ((i + 1) * 5) ++ cc (cs.drop i) ++ cur.drop ((i + 1) * 5 + (cc (cs.drop i)).length)).drop (i * 5 + (cv c).length)).length = cap * 5 := by
  have hcv : (cv c).length = 5 := rfl
  have hdl : (cc (cs.drop i)).length = (n - i) * 5 := by rw [cc_length, List.length_drop, hn]
  have hA : (cur.take ((i + 1) * 5)).length = (i + 1) * 5 := by rw [List.length_take]; omega
  have e1 : (cur.take ((i + 1) * 5) ++ cc (cs.drop i) ++ cur.drop ((i + 1) * 5 + (cc (cs.drop i)).length)).take (i * 5) = cc (cs.take i) := by
    rw [List.append_assoc, List.take_append_of_le_length (by omega), List.take_take, Nat.min_eq_left (by omega), ← cc_take, ← ht, List.take_take, Nat.min_eq_left (by omega)]
  have e2 : (cur.take ((i + 1) * 5) ++ cc (cs.drop i) ++ cur.drop ((i + 1) * 5 + (cc (cs.drop i)).length)).drop (i * 5 + (cv c).length) = cc (cs.drop i) ++ cur.drop ((n + 1) * 5) := by
    rw [hcv, show i * 5 + 5 = (i + 1) * 5 by omega, List.append_assoc, drop_left' hA.symm, hdl]
    congr 2
    omega
  rw [e1, e2]
  have e3 : cc (cs.take i ++ c :: cs.drop i) = cc (cs.take i) ++ cv c ++ cc (cs.drop i) := by rw [cc_append, cc_cons, List.append_assoc]
  have e4 : (cc (cs.take i) ++ cv c ++ cc (cs.drop i)).length = (n + 1) * 5 := by
    rw [List.length_append, List.length_append, hcv, hdl, cc_length, List.length_take, hn]
    omega
  refine ⟨?_, ?_⟩
  · rw [e3, ← List.append_assoc, ← e4, List.take_left]
  · rw [← List.append_assoc, List.length_append, e4, List.length_drop]
    omega

/-- A block of a cell as the source of a copy. -/
theorem src_ca {w : World} {vb : Nat} {t : TypeId} {c : Cl} (h : Bk w vb t (ca c)) : ∀ j v, (cv c)[j]? = some v → w.cell? ((⟨vb, 0, none⟩ : Addr).add j) = some v := by
  intro j v hv
  rw [Addr.add_lit, Nat.zero_add, h.cell, ← hv]
  simp [ca, cv]

set_option maxRecDepth 100000 in
set_option maxHeartbeats 2000000 in
theorem insertShift_any (g cap : Nat) (cur : Array Value) (cs : List Cl) (i : Nat) (c : Cl) (base vb : Nat) (w : World) (hg : w.heap[g]? = some (.cells cur 91 (0, 0))) (hbg : base ≤ g) (hcm : cap ≤ maxLen) (hcs : cur.size = cap * 5) (htk : cur.toList.take (cs.length * 5) = cc cs) (hi : i < cs.length) (hr : cs.length + 1 ≤ cap) (hl : cs.length ≤ 1000000) (hvb : Bk w vb 91 (ca c)) (hne : vb ≠ g) :
    Calls Try.prog 110 #[.slice (some ⟨g, 0, none⟩) cs.length cap, .int .i64 i, .slice (some ⟨vb, 0, none⟩) 1 1] w fun e w' => ∃ v', e = .returned v' ∧ w'.ownsRow base 91 5 v' (cs.length + 1) (cc (cs.take i ++ c :: cs.drop i)) ∧ Below base w w' := by
  unfold maxLen at hcm
  have hs1 := run_slice_fromC (P := Try.prog) Try.underlying30 (by kernel_rfl) Try.info91 (some ⟨g, 0, none⟩) cs.length cap i i rfl (by omega)
  have hs2 := run_slice_uptoC (P := Try.prog) Try.underlying30 (by kernel_rfl) Try.info91 (some ⟨g, 0, none⟩) cs.length cap (cs.length + 1) ((cs.length : Int) + 1) (by simp) hr
  have hs3 := run_slice_fromC (P := Try.prog) Try.underlying30 (by kernel_rfl) Try.info91 (some ⟨g, 0, none⟩) (cs.length + 1) cap (i + 1) ((i : Int) + 1) (by simp) (by omega)
  have hs4 := run_slice_fromC (P := Try.prog) Try.underlying30 (by kernel_rfl) Try.info91 (some ⟨g, 0, none⟩) (cs.length + 1) cap i i rfl (by omega)
  rw [sliced5 _ _ _ _ (by omega)] at hs1 hs2 hs3 hs4
  have hnl : g < w.heap.size := (Array.getElem?_eq_some_iff.1 hg).1
  have hov : ∀ lb cb o, (callFunc 121 #[.slice (some ⟨vb, 0, none⟩) 1 1, .slice (some ⟨g, o, none⟩) lb cb]).run Try.prog w = .ok (.value (.bool false)) w := fun lb cb o => by
    rw [run_callFunc_extern Try.func121 (by kernel_rfl) (by kernel_rfl) (by kernel_rfl) (e := Extern.SlicesOverlaps.overlaps #[30, 30] #[4]) (by kernel_rfl),
      Lib.run_overlaps_apart w 30 4 91 Try.underlying30 5 (fun w => by kernel_rfl) ⟨vb, 0, none⟩ ⟨g, o, none⟩ 1 1 lb cb hne 91 91 5 cur.size (by unfold World.shape?; rw [show w.heap[vb]? = _ from hvb]; rfl) (by unfold World.shape?; rw [hg]) (by omega) (hvb.frozen 0) (hvb.frozen 5)]
    rfl
  have hm1 : Nat.min (cs.length + 1 - i) (cs.length + 1 - (i + 1)) = cs.length - i := by show min (cs.length + 1 - i) (cs.length + 1 - (i + 1)) = _; omega
  have hm2 : Nat.min 1 (cs.length + 1 - i) = 1 := by show min 1 (cs.length + 1 - i) = 1; omega
  have hdl : (cc (cs.drop i)).length = (cs.length - i) * 5 := by rw [cc_length, List.length_drop]
  have hsrc1 : ∀ j v, (cc (cs.drop i))[j]? = some v → w.cell? ((⟨g, i * 5, none⟩ : Addr).add j) = some v := by
    intro j v hv
    have hj := (List.getElem?_eq_some_iff.1 hv).1
    rw [Addr.add_lit, cell_of_row _ _ _ _ _ _ hg, ← hv, ← cc_drop, List.getElem?_drop, ← htk, List.getElem?_take]
    rw [hdl] at hj
    rw [if_pos (by omega)]
    simp
  have hfit1 : (i + 1) * 5 + (cc (cs.drop i)).length ≤ cur.size := by rw [hdl, hcs]; omega
  obtain ⟨R1, hR1⟩ : ∃ R1 : List Value, R1 = cur.toList.take ((i + 1) * 5) ++ cc (cs.drop i) ++ cur.toList.drop ((i + 1) * 5 + (cc (cs.drop i)).length) := ⟨_, rfl⟩
  have hR1l : R1.length = cap * 5 := by
    rw [hR1]
    simp only [List.length_append, List.length_take, List.length_drop, hdl, Array.length_toList, hcs]
    omega
  obtain ⟨R2, hR2⟩ : ∃ R2 : List Value, R2 = R1.take (i * 5) ++ cv c ++ R1.drop (i * 5 + (cv c).length) := ⟨_, rfl⟩
  have HROW := hide (row_shift (c := c) (i := i) (cap := cap) rfl (by rw [Array.length_toList, hcs]) htk hi hr)
  rw [← hR1, ← hR2] at HROW
  have hfit2 : i * 5 + (cv c).length ≤ R1.toArray.size := by
    have : (cv c).length = 5 := rfl
    rw [List.size_toArray, hR1l, this]
    omega
  have HR1 := hide hR1
  have HR2 := hide hR2
  clear hR1 hR2
  have hcvl : (cv c).length = 1 * 5 := rfl
  have hov2 : ∀ (W : World), W = w → ∀ lb cb o, (callFunc 121 #[.slice (some ⟨vb, 0, none⟩) 1 1, .slice (some ⟨g, o, none⟩) lb cb]).run Try.prog W = .ok (.value (.bool false)) W := fun W e lb cb o => by subst e; exact hov lb cb o
  simp only [Nat.zero_mul, Nat.sub_zero] at hs2
  have hone5 : ∀ u ∈ cv c, u.oneCell' = true := by
    intro u hu
    simp only [cv, List.mem_cons, List.not_mem_nil, or_false] at hu
    rcases hu with rfl | rfl | rfl | rfl | rfl <;> rfl
  generalize hO1 : (i + 1) * 5 = O1 at *
  generalize hO2 : i * 5 = O2 at *
  generalize hL1 : cs.length + 1 - (i + 1) = L1 at *
  generalize hL2 : cs.length + 1 - i = L2 at *
  generalize hC1 : cap - (i + 1) = C1 at *
  generalize hC2 : cap - i = C2 at *
  generalize hN1 : cs.length + 1 = n1 at *
  have hz1 : ¬ ((i : Int) = (cs.length : Int)) := by omega
  have hz1b : ((i : Int) == (cs.length : Int)) = false := beq_eq_false_iff_ne.2 hz1
  have hz3 : decide ((cap : Int) < (cs.length : Int) + 1) = false := decide_eq_false (by omega)
  have hw1 : IntKind.i64.wrap ((i : Int) + 1) = (i : Int) + 1 := by rw [IntKind.wrap_i64]; omega
  go_enter Try.func110, Try.ntmps110
  go_wp2_with (simp only [hov])
  go_region_law (refine step_copy_rowK (K := 5) (m := cs.length - i) (cs := cc (cs.drop i)) Try.underlying30 Try.size5 (by exact hg) hm1 hdl (by exact hsrc1) hfit1 (cc_one _) HR1.out rfl rfl (by simp [Act.eval, Act.put] <;> rfl) (by simp [Act.eval, Act.put] <;> rfl) ?_; intro w1 hq1)
  all_goals
    have hvb1 : Bk w1 vb 91 (ca c) := (hq1.oth vb hne).trans hvb
    have HQ1 := hide hq1
    have hrow1 := hq1.row
    have hsrc2 := src_ca hvb1
    clear hq1 hvb1
    obtain ⟨w2, hq2, hcp2⟩ : ∃ w2, Cpd w1 w2 g 91 R2 ∧ (Builtin.copy_ #[30, 30] 3 #[.slice (some ⟨g, O2, none⟩) L2 C2, .slice (some ⟨vb, 0, none⟩) 1 1]).run Try.prog w1 = .ok (goInt (1 : Nat)) w2 := by
      have h9 := run_copy_rowK (P := Try.prog) w1 30 30 3 91 5 g O2 L2 C2 ⟨vb, 0, none⟩ 1 1 1 R1.toArray 91 (cv c) Try.underlying30 Try.size5 hrow1 hm2 hcvl hsrc2 hfit2 hone5
      rw [show R1.toArray.toList = R1 from rfl, ← HR2.out] at h9
      exact ⟨_, cpd_setRow hrow1 R2, h9⟩
    have HQ2 := hide hq2
    clear hq2 hsrc2 hrow1
    go_wp2_with fail
    go_ret
    have hb1 := HQ1.out.bel base hbg
    have hb2 := HQ2.out.bel base hbg
    refine ⟨_, rfl, ⟨?_, .inr ⟨g, cap, R2.toArray, rfl, hbg, HQ2.out.row, by omega, by unfold maxLen; omega, by simpa using HROW.out.2, ?_⟩⟩, ?_⟩
    · have := congrArg List.length HROW.out.1
      rw [← this, List.length_take, HROW.out.2]
      omega
    · have := HROW.out.1
      simpa using this
    · exact Below.trans (by first | exact hb1 | exact Below.trans (Below.drew (Below.refl _ _)) hb1) hb2

theorem zeroCells_length (z : Array Value) (k : Nat) : (Builtin.zeroCells z k).size = k * z.size := by
  simp [Builtin.zeroCells]

/-- The row behind both copies into a new one. -/
theorem row_grow {ROW : List Value} {cs : List Cl} {i n G : Nat} {c : Cl} (hn : cs.length = n) (hc : ROW.length = G * 5) (ht : ROW.take (i * 5) = cc (cs.take i)) (hi : i < n) (hr : n + 1 ≤ G) :
    (((ROW.take (i * 5) ++ cv c ++ ROW.drop (i * 5 + (cv c).length)).take ((i + 1) * 5) ++ cc (cs.drop i) ++ (ROW.take (i * 5) ++ cv c ++ ROW.drop (i * 5 + (cv c).length)).drop ((i + 1) * 5 + (cc (cs.drop i)).length)).take ((n + 1) * 5) = cc (cs.take i ++ c :: cs.drop i)) ∧
    ((ROW.take (i * 5) ++ cv c ++ ROW.drop (i * 5 + (cv c).length)).take ((i + 1) * 5) ++ cc (cs.drop i) ++ (ROW.take (i * 5) ++ cv c ++ ROW.drop (i * 5 + (cv c).length)).drop ((i + 1) * 5 + (cc (cs.drop i)).length)).length = G * 5 ∧
    (ROW.take (i * 5) ++ cv c ++ ROW.drop (i * 5 + (cv c).length)).length = G * 5 := by
  have hcv : (cv c).length = 5 := rfl
  have hdl : (cc (cs.drop i)).length = (n - i) * 5 := by rw [cc_length, List.length_drop, hn]
  have htl : (cc (cs.take i)).length = i * 5 := by rw [cc_length, List.length_take, hn]; omega
  have e1 : (ROW.take (i * 5) ++ cv c ++ ROW.drop (i * 5 + (cv c).length)).take ((i + 1) * 5) = cc (cs.take i) ++ cv c := by
    rw [ht, show (i + 1) * 5 = (cc (cs.take i) ++ cv c).length by rw [List.length_append, htl, hcv]; omega, List.take_left]
  have hl1 : (ROW.take (i * 5) ++ cv c ++ ROW.drop (i * 5 + (cv c).length)).length = G * 5 := by
    simp only [List.length_append, List.length_take, List.length_drop, hcv, hc]
    omega
  have e3 : cc (cs.take i ++ c :: cs.drop i) = cc (cs.take i) ++ cv c ++ cc (cs.drop i) := by rw [cc_append, cc_cons, List.append_assoc]
  have e4 : (cc (cs.take i) ++ cv c ++ cc (cs.drop i)).length = (n + 1) * 5 := by
    rw [List.length_append, List.length_append, hcv, hdl, htl]
    omega
  refine ⟨?_, ?_, hl1⟩
  · rw [e1, e3, ← e4, List.take_left]
  · rw [e1, List.length_append, e4, List.length_drop, hl1, hdl]
    omega

set_option maxRecDepth 100000 in
set_option maxHeartbeats 2000000 in
theorem insertGrow_any (g cap : Nat) (cur : Array Value) (cs : List Cl) (i : Nat) (c : Cl) (base vb : Nat) (w : World) (hg : w.heap[g]? = some (.cells cur 91 (0, 0))) (hbw : base ≤ w.heap.size) (htk : cur.toList.take (cs.length * 5) = cc cs) (hi : i < cs.length) (hnc : cs.length ≤ cap) (hr : cap < cs.length + 1) (hl : cs.length ≤ 1000000) (hvb : Bk w vb 91 (ca c)) :
    Calls Try.prog 110 #[.slice (some ⟨g, 0, none⟩) cs.length cap, .int .i64 i, .slice (some ⟨vb, 0, none⟩) 1 1] w fun e w' => ∃ v', e = .returned v' ∧ w'.ownsRow base 91 5 v' (cs.length + 1) (cc (cs.take i ++ c :: cs.drop i)) ∧ Below base w w' := by
  have hcell : ∀ j v, (cc cs)[j]? = some v → w.cell? ⟨g, j, none⟩ = some v := by
    intro j v hv
    have hj := (List.getElem?_eq_some_iff.1 hv).1
    rw [cc_length] at hj
    rw [cell_of_row _ _ _ _ _ _ hg, ← hv, ← htk, List.getElem?_take, if_pos hj]
    simp
  have hgl : g < w.heap.size := (Array.getElem?_eq_some_iff.1 hg).1
  have hvl := hvb.lt
  obtain ⟨i0, hi0, hz0, hzs, hzb⟩ := info_parts Try.info91
  have hik : i + (cs.length + 1 - i) = cs.length + 1 := by omega
  obtain ⟨G, hG⟩ : ∃ G, G = grownCap w (cs.length + 1) cap 91 := ⟨_, rfl⟩
  have hGn : cs.length + 1 ≤ G := by rw [hG]; exact grownCap_ge w _ _ _
  have hGm : G ≤ maxLen := by rw [hG]; exact grownCap_le_maxLen w _ _ _ (by unfold maxLen; omega)
  have hold : (Builtin.firstCells i0.size i (.slice (some ⟨g, 0, none⟩) i cap)).run Try.prog w.drew = .ok (cc (cs.take i)).toArray w.drew := by
    rw [hzs]
    exact run_firstCells_some w.drew 5 i ⟨g, 0, none⟩ i cap (cc (cs.take i)) (by rw [cc_length, List.length_take]; omega) (fun j v hj => by
      rw [Addr.add_lit, Nat.zero_add]
      rw [← cc_take, List.getElem?_take] at hj
      split at hj
      · exact hcell j v hj
      · cases hj)
  obtain ⟨ROW, hROW⟩ : ∃ ROW : List Value, ROW = ((cc (cs.take i)).toArray ++ Builtin.zeroCells (cA zeroC).cells (cs.length + 1 - i) ++ Builtin.zeroCells (cA zeroC).cells (G - (cs.length + 1))).toList := ⟨_, rfl⟩
  have hz5 : (cA zeroC).cells.size = 5 := rfl
  have hRl : ROW.length = G * 5 := by
    rw [hROW]
    simp only [Array.length_toList, Array.size_append, zeroCells_length, hz5, List.size_toArray, cc_length, List.length_take]
    omega
  have hRt : ROW.take (i * 5) = cc (cs.take i) := by
    have e : i * 5 = (cc (cs.take i)).length := by rw [cc_length, List.length_take]; omega
    rw [hROW, Array.toList_append, Array.toList_append, List.append_assoc, e, List.take_left]
  obtain ⟨w1, hw1⟩ : ∃ w1, w1 = w.drew.alloc (.cells ROW.toArray 91) := ⟨_, rfl⟩
  have hrz : (Builtin.append_ #[30, 3] 30 #[.slice (some ⟨g, 0, none⟩) i cap, .int .i64 ((cs.length : Int) + 1 - (i : Int))]).run Try.prog w = .ok (.slice (some ⟨w.heap.size, 0, none⟩) (cs.length + 1) G) w1 := by
    have h := Lib.run_append_grow_zeros (P := Try.prog) w 30 3 30 91 i0 _ .i64 .i64 Try.underlying30 Try.underlying3 hi0 hz0 (some ⟨g, 0, none⟩) i cap (cc (cs.take i)) hold (cs.length + 1 - i) (by omega) (by omega) (by omega) (by omega) (by rw [hzb]; omega) (by rw [hzb, hik]; exact growslice_fits hr (by omega))
    rw [hik] at h
    rw [show (cs.length : Int) + 1 - (i : Int) = ((cs.length + 1 - i : Nat) : Int) by omega, h, hw1, ← hG, hROW, Array.toArray_toList]
    rfl
  have hrow0 : w1.heap[w.heap.size]? = some (.cells ROW.toArray 91 (0, 0)) := by rw [hw1]; exact heap_alloc_new w.drew _
  have hoth0 : ∀ k, k < w.heap.size → w1.heap[k]? = w.heap[k]? := fun k hk => by rw [hw1]; exact Below.heap_alloc w.drew _ k hk
  have hb01 : Below base w w1 := by rw [hw1]; exact (Below.drew (Below.refl _ _)).alloc hbw _
  obtain ⟨R1, hR1⟩ : ∃ R1 : List Value, R1 = ROW.take (i * 5) ++ cv c ++ ROW.drop (i * 5 + (cv c).length) := ⟨_, rfl⟩
  obtain ⟨R2, hR2⟩ : ∃ R2 : List Value, R2 = R1.take ((i + 1) * 5) ++ cc (cs.drop i) ++ R1.drop ((i + 1) * 5 + (cc (cs.drop i)).length) := ⟨_, rfl⟩
  have hrg := row_grow (c := c) (i := i) (G := G) rfl hRl hRt hi hGn
  rw [← hR1, ← hR2] at hrg
  have hcvl : (cv c).length = 1 * 5 := rfl
  have hdl : (cc (cs.drop i)).length = (cs.length - i) * 5 := by rw [cc_length, List.length_drop]
  have hone5 : ∀ u ∈ cv c, u.oneCell' = true := by
    intro u hu
    simp only [cv, List.mem_cons, List.not_mem_nil, or_false] at hu
    rcases hu with rfl | rfl | rfl | rfl | rfl <;> rfl
  have hm2 : Nat.min 1 (cs.length + 1 - i) = 1 := by show min 1 (cs.length + 1 - i) = 1; omega
  have hm1 : Nat.min (cs.length - i) (cs.length + 1 - (i + 1)) = cs.length - i := by show min (cs.length - i) (cs.length + 1 - (i + 1)) = _; omega
  have hvb1 : Bk w1 vb 91 (ca c) := (hoth0 vb hvl).trans hvb
  obtain ⟨w2, hq2, hcp2⟩ : ∃ w2, Cpd w1 w2 w.heap.size 91 R1 ∧ (Builtin.copy_ #[30, 30] 3 #[.slice (some ⟨w.heap.size, i * 5, none⟩) (cs.length + 1 - i) (G - i), .slice (some ⟨vb, 0, none⟩) 1 1]).run Try.prog w1 = .ok (goInt (1 : Nat)) w2 := by
    have h9 := run_copy_rowK (P := Try.prog) w1 30 30 3 91 5 w.heap.size (i * 5) (cs.length + 1 - i) (G - i) ⟨vb, 0, none⟩ 1 1 1 ROW.toArray 91 (cv c) Try.underlying30 Try.size5 hrow0 hm2 hcvl (src_ca hvb1) (by rw [List.size_toArray, hRl]; have : (cv c).length = 5 := rfl; omega) hone5
    rw [show ROW.toArray.toList = ROW from rfl, ← hR1] at h9
    exact ⟨_, cpd_setRow hrow0 R1, h9⟩
  have hg2 : w2.heap[g]? = some (.cells cur 91 (0, 0)) := (hq2.oth g (by omega)).trans ((hoth0 g hgl).trans hg)
  have hsrc1 : ∀ j v, (cc (cs.drop i))[j]? = some v → w2.cell? ((⟨g, i * 5, none⟩ : Addr).add j) = some v := by
    intro j v hv
    have hj := (List.getElem?_eq_some_iff.1 hv).1
    rw [Addr.add_lit, cell_of_row _ _ _ _ _ _ hg2, ← hv, ← cc_drop, List.getElem?_drop, ← htk, List.getElem?_take]
    rw [hdl] at hj
    rw [if_pos (by omega)]
    simp
  have hfit1 : (i + 1) * 5 + (cc (cs.drop i)).length ≤ R1.toArray.size := by rw [hdl, List.size_toArray, hrg.2.2]; omega
  have hrow2 := hq2.row
  have hb02 : Below base w w2 := hb01.trans (hq2.bel base hbw)
  have hs1 := run_slice_fromC (P := Try.prog) Try.underlying30 (by kernel_rfl) Try.info91 (some ⟨g, 0, none⟩) cs.length cap i i rfl (by omega)
  have hs2 := run_slice_uptoC (P := Try.prog) Try.underlying30 (by kernel_rfl) Try.info91 (some ⟨g, 0, none⟩) cs.length cap i i rfl (by omega)
  have hs3 := run_slice_fromC (P := Try.prog) Try.underlying30 (by kernel_rfl) Try.info91 (some ⟨w.heap.size, 0, none⟩) (cs.length + 1) G (i + 1) ((i : Int) + 1) (by simp) (by omega)
  have hs4 := run_slice_fromC (P := Try.prog) Try.underlying30 (by kernel_rfl) Try.info91 (some ⟨w.heap.size, 0, none⟩) (cs.length + 1) G i i rfl (by omega)
  rw [sliced5 _ _ _ _ (by omega)] at hs1 hs2 hs3 hs4
  simp only [Nat.zero_mul, Nat.sub_zero] at hs2
  have HRG := hide hrg
  have HR2 := hide hR2
  have HB02 := hide hb02
  clear hG hrg hR1 hR2 hROW hRl hRt hw1 hold hq2 hb01 hb02 hoth0 hrow0 hvb1 hcell
  generalize hO1 : (i + 1) * 5 = O1 at *
  generalize hO2 : i * 5 = O2 at *
  generalize hL1 : cs.length + 1 - (i + 1) = L1 at *
  generalize hL2 : cs.length + 1 - i = L2 at *
  generalize hL3 : cs.length - i = L3 at *
  generalize hC1 : G - (i + 1) = C1 at *
  generalize hC2 : G - i = C2 at *
  generalize hC3 : cap - i = C3 at *
  generalize hN1 : cs.length + 1 = n1 at *
  have hz1b : ((i : Int) == (cs.length : Int)) = false := beq_eq_false_iff_ne.2 (by omega)
  have hz3 : decide ((cap : Int) < (cs.length : Int) + 1) = true := decide_eq_true (by omega)
  have hw1 : IntKind.i64.wrap ((i : Int) + 1) = (i : Int) + 1 := by rw [IntKind.wrap_i64]; omega
  go_enter Try.func110, Try.ntmps110
  go_wp2_with (at_builtin; refine Lib.wpList_append_run _ rfl _ _ _ _ rfl _ _ rfl rfl _ _ hrz ?_)
  go_region_law (refine step_copy_rowK (K := 5) (m := L3) (cs := cc (cs.drop i)) Try.underlying30 Try.size5 (by exact hrow2) hm1 hdl (by exact hsrc1) hfit1 (cc_one _) HR2.out rfl rfl (by simp [Act.eval, Act.put] <;> rfl) (by simp [Act.eval, Act.put] <;> rfl) ?_; intro w3 hq3)
  all_goals
    go_wp2_with fail
    go_ret
    have hb3 := hq3.bel base hbw
    refine ⟨_, rfl, ⟨?_, .inr ⟨w.heap.size, G, R2.toArray, rfl, hbw, hq3.row, by omega, hGm, by simpa using HRG.out.2.1, ?_⟩⟩, ?_⟩
    · have := congrArg List.length HRG.out.1
      rw [← this, List.length_take, HRG.out.2.1]
      omega
    · have := HRG.out.1
      simpa using this
    · exact Below.trans HB02.out (by first | exact hb3 | exact Below.trans (Below.drew (Below.refl _ _)) hb3)

end Go.Proofs.Ytdodajalejfbiad

/-
  The walks over wal.putIn and slices.Clone of cells.
-/
namespace Go.Proofs.Ytdodajalejfbiad
open Go.RowKit

/-- Cells that are put in, one behind the other. -/
def putL (l : List Cl) (cs : List Cl) : List Cl := cs.foldl (fun a c => mrg a [c]) l

theorem putL_nil (l : List Cl) : putL l [] = l := rfl
theorem putL_snoc (l cs : List Cl) (c : Cl) : putL l (cs ++ [c]) = mrg (putL l cs) [c] := by simp [putL]
theorem putL_append (l a b : List Cl) : putL l (a ++ b) = putL (putL l a) b := by simp [putL]
theorem putL_pw : ∀ (cs l : List Cl), l.Pairwise Lt → (putL l cs).Pairwise Lt
  | [], _, h => h
  | c :: cs, l, h => by
    show (putL (mrg l [c]) cs).Pairwise Lt
    exact putL_pw cs _ (mrg_pw l [c] h (by simp))
theorem putL_len : ∀ (cs l : List Cl), (putL l cs).length ≤ l.length + cs.length
  | [], l => by simp [putL]
  | c :: cs, l => by
    have h1 := putL_len cs (mrg l [c])
    have h2 := mrg_len l [c]
    have e : putL l (c :: cs) = putL (mrg l [c]) cs := rfl
    rw [e]
    simp only [List.length_cons, List.length_nil] at h2 ⊢
    omega

theorem putL_take {l cs : List Cl} {k : Nat} {c : Cl} (h : cs[k]? = some c) : putL l (cs.take (k + 1)) = mrg (putL l (cs.take k)) [c] := by
  rw [List.take_add_one, h]
  exact putL_snoc _ _ _

/-- A cell that is not there yet is put in at its place. -/
theorem mrg_insert {l : List Cl} {c : Cl} {i : Nat} (hlo : ∀ x ∈ l.take i, Lt x c) (hhi : ∀ x ∈ l.drop i, ¬ Lt x c) (hne : ∀ x, l[i]? = some x → ordC x c ≠ 0) : mrg l [c] = l.take i ++ c :: l.drop i := by
  rcases Nat.lt_or_ge i l.length with h | h
  · have hd := List.drop_eq_getElem_cons h
    have e : l = l.take i ++ l[i] :: l.drop (i + 1) := by rw [← hd, List.take_append_drop]
    have h1 : ¬ Lt l[i] c := hhi _ (by have h9 : l[i] ∈ l[i] :: l.drop (i + 1) := List.mem_cons_self; rwa [← hd] at h9)
    have h2 := hne _ (List.getElem?_eq_getElem h)
    have h3 : Lt c l[i] := by
      by_cases h9 : Lt c l[i]
      · exact h9
      · exact absurd (ordC_zero.2 (Lt_total h1 h9)) h2
    have := mrg_ins (r := l.drop (i + 1)) hlo h3
    rw [← e] at this
    rw [this, ← hd]
  · rw [List.take_of_length_le h, List.drop_eq_nil_of_le h]
    rw [List.take_of_length_le h] at hlo
    exact mrg_end hlo

/-- One that is there is put in its stead. -/
theorem mrg_instead {l : List Cl} {c x : Cl} {i : Nat} (hlo : ∀ y ∈ l.take i, Lt y c) (hx : l[i]? = some x) (h0 : ordC x c = 0) : mrg l [c] = l.set i c := by
  obtain ⟨h, ex⟩ := List.getElem?_eq_some_iff.1 hx
  have hd := List.drop_eq_getElem_cons h
  have e : l = l.take i ++ x :: l.drop (i + 1) := by rw [← ex, ← hd, List.take_append_drop]
  have := mrg_put (r := l.drop (i + 1)) hlo (ordC_zero.1 h0)
  rw [← e] at this
  rw [this, List.set_eq_take_append_cons_drop, if_pos h]

theorem insertC_any (v : Value) (cs : List Cl) (i : Nat) (c : Cl) (base : Nat) (w : World) (hown : w.ownsRow base 91 5 v cs.length (cc cs)) (hb : base ≤ w.heap.size) (hi : i ≤ cs.length) (hl : cs.length ≤ 1000000) :
    Calls Try.prog 110 #[v, .int .i64 i, .slice (some ⟨w.heap.size, 0, none⟩) 1 1] (w.alloc (.cells #[.string c.row, .string c.col, .int .i64 c.time, .bool c.gone, .string c.val] 91)) fun e w' => ∃ v', e = .returned v' ∧ w'.ownsRow base 91 5 v' (cs.take i ++ c :: cs.drop i).length (cc (cs.take i ++ c :: cs.drop i)) ∧ Below base w w' := by
  have hlen : (cs.take i ++ c :: cs.drop i).length = cs.length + 1 := by
    rw [List.length_append, List.length_cons, ← Nat.add_assoc, ← List.length_append, List.take_append_drop]
  rw [hlen]
  have hbA := below_alloc' w (.cells #[.string c.row, .string c.col, .int .i64 c.time, .bool c.gone, .string c.val] 91)
  have hbA' := hbA.mono hb
  have hvb : Bk (w.alloc (.cells #[.string c.row, .string c.col, .int .i64 c.time, .bool c.gone, .string c.val] 91)) w.heap.size 91 (ca c) := Bk.new _ _ _
  have hnew := RdC.new w c 91
  have ho1 := hown.alloc (.cells #[.string c.row, .string c.col, .int .i64 c.time, .bool c.gone, .string c.val] 91)
  have hz1 : base ≤ (w.alloc (.cells #[.string c.row, .string c.col, .int .i64 c.time, .bool c.gone, .string c.val] 91)).heap.size := by simp; omega
  have hlt := hown.lt
  generalize w.alloc (.cells #[.string c.row, .string c.col, .int .i64 c.time, .bool c.gone, .string c.val] 91) = w1 at *
  rcases Nat.lt_or_ge i cs.length with h | h
  · rcases ho1.2 with ⟨_, h0⟩ | ⟨g, cap, cur, rfl, hbg, hg, hnc, hcm, hcs, htk⟩
    · omega
    · have hgl := (hlt g rfl).2
      rcases Nat.lt_or_ge cap (cs.length + 1) with hr | hr
      · exact (insertGrow_any g cap cur cs i c base w.heap.size w1 hg hz1 htk h hnc hr hl hvb).mono fun _ _ ⟨v', h1, h2, h3⟩ => ⟨v', h1, h2, hbA'.trans h3⟩
      · exact (insertShift_any g cap cur cs i c base w.heap.size w1 hg hbg hcm hcs htk h hr hl hvb (by omega)).mono fun _ _ ⟨v', h1, h2, h3⟩ => ⟨v', h1, h2, hbA'.trans h3⟩
  · have e : i = cs.length := by omega
    subst e
    rw [List.take_length, List.drop_length]
    refine (insertEnd_any v cs c base w.heap.size w1 ho1 hz1 hl hnew).mono fun _ _ ⟨v', h1, h2, h3⟩ => ⟨v', h1, ?_, hbA'.trans h3⟩
    simpa using h2

set_option maxRecDepth 100000 in
set_option maxHeartbeats 2000000 in
theorem putIn_any (v u : Value) (cs news : List Cl) (base : Nat) (w : World) (hown : w.ownsRow base 91 5 v cs.length (cc cs)) (hb : base ≤ w.heap.size) (hp : cs.Pairwise Lt) (hl : cs.length + news.length ≤ 1000000) (hu : ∀ W, Below base w W → RdC W u news) :
    Calls Try.prog 85 #[v, u] w fun e w' => ∃ v', e = .returned v' ∧ w'.ownsRow base 91 5 v' (putL cs news).length (cc (putL cs news)) ∧ Below base w w' := by
  obtain ⟨uo, ucap, huu, hd1, hd2⟩ := (hu w (Below.refl _ _)).shape
  subst huu
  unfold maxLen at hd2
  have HU := hide hu
  have HP := hide hp
  clear hu hp
  go_enter Try.func85, Try.ntmps85
  go_wp2_with fail
  go_loopw [0, 11] (fun o iv wr => ∃ (k : Nat), k ≤ news.length ∧ iv = .int .i64 k ∧ wr.ownsRow base 91 5 o (putL cs (news.take k)).length (cc (putL cs (news.take k))) ∧ Below base w wr)
    (fun _ iv _ => news.length - (intOf iv).toNat)
  case atStart => exact ⟨0, by omega, rfl, hown, Below.refl _ _⟩
  case round =>
    obtain ⟨k, hk, rfl, hor, hbel⟩ := hrel
    have hzr : base ≤ wr.heap.size := Nat.le_trans hb hbel.size
    have hll := putL_len (news.take k) cs
    rw [List.length_take] at hll
    have HPL := hide (putL_pw (news.take k) cs HP.out)
    by_cases hlt : k < news.length
    · obtain ⟨c, hc⟩ : ∃ c, news[k]? = some c := ⟨_, List.getElem?_eq_getElem hlt⟩
      have HTK := hide (putL_take (l := cs) hc)
      obtain ⟨bb, off, rfl, hbb, hat⟩ := (HU.out wr hbel).hereD hc
      obtain ⟨c0, c1, c2, c3, c4⟩ := hat
      have hk1 : (0 : Int) ≤ (k : Int) := by omega
      have hk2 : (k : Int) < (news.length : Int) := by omega
      generalize putL cs (news.take k) = acc at *
      obtain ⟨oo, oc, hov⟩ := ownsC_shape hor
      subst hov
      have hT0 : Bk (wr.alloc (.cells #[.string c.row, .string c.col, .int .i64 c.time, .bool c.gone, .string c.val] 91)) wr.heap.size 91 (ca c) := Bk.new _ _ _
      have hb0 := below_alloc' wr (.cells #[.string c.row, .string c.col, .int .i64 c.time, .bool c.gone, .string c.val] 91)
      have HT0 := hide hT0
      have HB0 := hide hb0
      have HLTR := hide hor.lt
      clear hT0 hb0 hc
      go_upto_region 4 with fail
      have hor0 := owns_below hor HB0.out
      generalize wr.alloc (.cells #[.string c.row, .string c.col, .int .i64 c.time, .bool c.gone, .string c.val] 91) = w0 at *
      have hT0 := HT0.out
      have hbel0 := hbel.trans (HB0.out.mono hzr)
      obtain ⟨d0, d1, d2, d3, d4⟩ := hT0.at
      simp only [Nat.zero_add] at d1 d2 d3 d4
      clear c0 c1 c2 c3 c4 hor HB0 HT0 hbel
      go_wp2_with fail
      refine (bsearch_any _ acc c _ (RdC.ofOwns hor0) HPL.out (by omega)).mono ?_
      rintro e w2 ⟨i, hi, rfl, hb2, hlo, hhi⟩
      have hor2 := owns_below hor0 hb2
      have hT2 := hT0.below hb2 hT0.lt
      have hbel2 := hbel0.trans (hb2.mono (Nat.le_trans hb hbel0.size))
      have hz2 : base ≤ w2.heap.size := Nat.le_trans hb hbel2.size
      have HLO := hide hlo
      have HHI := hide hhi
      clear d0 d1 d2 d3 d4 hor0 hT0 hbel0 hb2 hlo hhi
      obtain ⟨d0, d1, d2, d3, d4⟩ := hT2.at
      simp only [Nat.zero_add] at d1 d2 d3 d4
      have hzT := hT2.lt
      have hla : acc.length ≤ 1000000 := by omega
      have hfd : (∃ x, acc[i]? = some x ∧ ordC x c = 0) ∨ (∀ x, acc[i]? = some x → ordC x c ≠ 0) := by
        cases h : acc[i]? with
        | none => exact .inr (fun x hx => by cases hx)
        | some x =>
          by_cases h0 : ordC x c = 0
          · exact .inl ⟨x, rfl, h0⟩
          · exact .inr (fun y hy => by cases hy; exact h0)
      rcases hfd with ⟨x, hx, h0⟩ | hno
      · have hil : i < acc.length := (List.getElem?_eq_some_iff.1 hx).1
        have HE := hide (mrg_instead HLO.out hx h0)
        have hbb : (ordC x c == 0) = true := by simp [h0]
        have hfb : fndB acc[i]? c = true := by rw [hx]; exact hbb
        rw [hfb]
        obtain ⟨g, rfl⟩ : ∃ g, oo = some ⟨g, 0, none⟩ := by
          rcases hor2.2 with ⟨_, h9⟩ | ⟨g, cap4, cur, h9, _⟩
          · omega
          · simp only [Value.slice.injEq] at h9
            exact ⟨g, h9.1⟩
        have hgl := hor2.lt g rfl
        have hgl0 := HLTR.out g rfl
        have hne : wr.heap.size ≠ g := by omega
        obtain ⟨b9, off9, he9, _, hat9⟩ := (RdC.ofOwns hor2).hereD hx
        simp only [Option.some.injEq, Addr.mk.injEq, and_true] at he9
        obtain ⟨rfl, rfl⟩ := he9
        rw [Nat.zero_add] at hat9
        obtain ⟨e0, e1, e2, e3, e4⟩ := hat9
        have r0 := hor2.frozenAt (i * 5)
        have r1 := hor2.frozenAt (i * 5 + 1)
        have r2 := hor2.frozenAt (i * 5 + 2)
        have r3 := hor2.frozenAt (i * 5 + 3)
        have r4 := hor2.frozenAt (i * 5 + 4)
        have s0 := (hor2.stored (i * 5) (.string c.row)).1
        have s1 := (s0.stored (i * 5 + 1) (.string c.col)).1
        have s2 := (s1.stored (i * 5 + 2) (.int .i64 c.time)).1
        have s3 := (s2.stored (i * 5 + 3) (.bool c.gone)).1
        have s4 := (s3.stored (i * 5 + 4) (.string c.val)).1
        rw [cc_set acc i c hil] at s4
        have HS4 := hide s4
        have hb5 := ((((hbel2.setCell (p := ⟨g, i * 5, none⟩) hgl.1 (.string c.row)).setCell (p := ⟨g, i * 5 + 1, none⟩) hgl.1 (.string c.col)).setCell (p := ⟨g, i * 5 + 2, none⟩) hgl.1 (.int .i64 c.time)).setCell (p := ⟨g, i * 5 + 3, none⟩) hgl.1 (.bool c.gone)).setCell (p := ⟨g, i * 5 + 4, none⟩) hgl.1 (.string c.val)
        have HB5 := hide hb5
        have hi1 : (0 : Int) ≤ (i : Int) := by omega
        have hi2 : (i : Int) < (acc.length : Int) := by omega
        clear s0 s1 s2 s3 s4 hb5 hor2 hx h0 hfb hbb
        go_wp2_with fail
        go_roundw
        case rel => exact ⟨k + 1, by omega, by go_num, by rw [HTK.out, HE.out, List.length_set]; exact HS4.out, HB5.out⟩
        case measure => simp [intOf]; omega
      · have HE := hide (mrg_insert HLO.out HHI.out hno)
        have hmf : fndB acc[i]? c = false := by
          cases h : acc[i]? with
          | none => rfl
          | some x => simpa [fndB] using hno x h
        rw [hmf]
        clear hmf hno
        go_wp2_with fail
        refine (insertC_any _ acc i c base _ hor2 hz2 hi hla).mono ?_
        rintro e w3 ⟨v3, rfl, ho3, hb3⟩
        generalize acc.take i ++ c :: acc.drop i = Y at *
        obtain ⟨o3, c3, hv3⟩ := ownsC_shape ho3
        subst hv3
        go_wp2_with fail
        go_roundw
        case rel => exact ⟨k + 1, by omega, by go_num, by rw [HTK.out, HE.out]; exact ho3, hbel2.trans hb3⟩
        case measure => simp [intOf]; omega
    · have hke : k = news.length := by omega
      subst hke
      rw [List.take_length] at hor
      go_wp2_with fail
      go_ret
      exact ⟨_, rfl, hor, hbel⟩

set_option maxRecDepth 100000 in
set_option maxHeartbeats 400000 in
/-- slices.Clone: the row is the call's own. -/
theorem Clone_own (v : Value) (cs : List Cl) (w : World) (hv : RdC w v cs) (hl : cs.length ≤ 1000000) :
    Calls Try.prog 84 #[v] w fun e w' => ∃ v', e = .returned v' ∧ w'.ownsRow w.heap.size 91 5 v' cs.length (cc cs) ∧ Below w.heap.size w w' := by
  obtain ⟨ao, cap, hvv, hc1, hc2, hnil, hcells⟩ := hv
  have hv : RdC w v cs := ⟨ao, cap, hvv, hc1, hc2, hnil, hcells⟩
  subst hvv
  have hl2 : 0 + cs.length ≤ 1000000000 := by omega
  cases ao with
  | none =>
    have hz := hnil rfl
    subst hz
    have he : cs = [] := List.eq_nil_of_length_eq_zero (by omega)
    subst he
    have heq : ∀ W, (binOp .eql 30 (.slice none 0 0) (.slice none 0 0)).run Try.prog W = .ok (.bool true) W := fun W => Lib.run_eql_slice_nil W _ _ none 0 0 0 0 Try.underlying30
    go_enter Try.func84, Try.ntmps84
    go_wp2_with fail
    go_ret
    exact ⟨_, rfl, World.ownsRow_nil _ _ _ _, Below.refl _ _⟩
  | some a =>
    have hown : (w.alloc (.cells #[] 91)).ownsRow w.heap.size 91 5 (.slice (some ⟨w.heap.size, 0, none⟩) 0 0) 0 (cc []) := World.ownsRow_made w #[] 0 (Nat.le_refl _) (by decide) rfl
    have hv1 := hv.alloc (.cells #[] 91)
    have hb8 : w.heap.size ≤ (w.alloc (.cells #[] 91)).heap.size := by simp
    have hbA := below_alloc' w (.cells #[] 91)
    clear hcells hnil
    have heq : ∀ W, (binOp .eql 30 (.slice (some a) cs.length cap) (.slice none 0 0)).run Try.prog W = .ok (.bool false) W := fun W => Lib.run_eql_slice_nil W _ _ (some a) cs.length cap 0 0 Try.underlying30
    go_enter Try.func84, Try.ntmps84
    go_wp2_with (at_builtin; go_must (refine wpList_append_rdC (cs := []) hown hv1 Try.underlying30 Try.info91 rfl rfl rfl rfl rfl hl2 (by decide) hb8 ?_); intro v1 w1 ho1 hb1 hg1; clear hg1)
    go_ret
    exact ⟨_, rfl, by simpa using ho1, hbA.trans hb1⟩

end Go.Proofs.Ytdodajalejfbiad

/-
  The walks over cell.appendCell and cell.Write.
-/
namespace Go.Proofs.Ytdodajalejfbiad
open Go.RowKit

theorem Bk.ext {w w' : World} {B : Nat} {t : TypeId} {xs : Array Value} {v v' : Value} (h : Bk w B t xs) (he : Ext w w' v v') (hne : v.ownBlock ≠ some B) : Bk w' B t xs := by
  unfold Bk
  rw [he.block h.lt hne]
  exact h

theorem AppendStr_any (v : Value) (xs : List UInt8) (s : ByteArray) (base : Nat) (w : World) (hown : w.ownsRow base 5 1 v xs.length (bc xs)) (hb : base ≤ w.heap.size)
    (ht : s.data.toList.length ≤ 1000000000) (hx : xs.length ≤ 1000000000) :
    Calls Try.prog 118 #[v, .string s] w fun e w' => ∃ v', e = .returned v' ∧ w'.ownsRow base 5 1 v' (xs ++ txB s).length (bc (xs ++ txB s)) ∧ Below base w w' ∧ Ext w w' v v' := by
  have h := AppendText_any v xs s.data.toList base w hown hb ht hx
  rw [ba_data] at h
  exact h

set_option maxRecDepth 100000 in
set_option maxHeartbeats 1000000 in
theorem appendCell_any (v : Value) (xs : List UInt8) (c : Cl) (base : Nat) (w : World) (hown : w.ownsRow base 5 1 v xs.length (bc xs)) (hb : base ≤ w.heap.size)
    (hc : codeC c = 0) (hx : xs.length ≤ 100000000) :
    Calls Try.prog 98 #[v, cA c] w fun e w' => ∃ v', e = .returned v' ∧ w'.ownsRow base 5 1 v' (xs ++ cellB c).length (bc (xs ++ cellB c)) ∧ Below base w w' ∧ Ext w w' v v' := by
  obtain ⟨_, h1, h2, h3, h4, h5⟩ := codeC_parts hc
  have hcl := cellB_len hc
  have hlt := hown.lt
  have hne0 : ∀ B, w.heap.size ≤ B → v.ownBlock ≠ some B := fun B hB e => by have := (hlt B e).2; omega
  obtain ⟨m, hm⟩ := Int.eq_ofNat_of_zero_le h4
  have HM : Hid (c.time.toNat = m) := hide (by rw [hm]; simp)
  have HMT := hide hm
  have hm9 : (m : Int) ≤ 1000000000 := by omega
  clear hm
  have hgn : c.gone = true ∧ goneN c = 1 ∨ c.gone = false ∧ goneN c = 0 := by unfold goneN; cases c.gone <;> simp
  unfold cA
  have hB0 : Bk (w.alloc (.cells #[.string c.row, .string c.col, .int .i64 c.time, .bool c.gone, .string c.val] 91)) w.heap.size 91 (ca c) := Bk.new _ _ _
  have ho0 := hown.alloc (.cells #[.string c.row, .string c.col, .int .i64 c.time, .bool c.gone, .string c.val] 91)
  have he0 : Ext w (w.alloc (.cells #[.string c.row, .string c.col, .int .i64 c.time, .bool c.gone, .string c.val] 91)) v v := Ext.alloc _ _ _
  have hs0 : (w.alloc (.cells #[.string c.row, .string c.col, .int .i64 c.time, .bool c.gone, .string c.val] 91)).heap.size = w.heap.size + 1 := by simp
  have HCL : Hid ((xs ++ cellB c).length ≤ 200000000) := hide (by rw [List.length_append]; omega)
  have hee : cellB c = txB c.row ++ (txB c.col ++ (encN c.time.toNat ++ (encN (goneN c) ++ txB c.val))) := rfl
  have HEE := hide hee
  have hl1 : (txB c.row).length ≤ 330 := by rw [hee] at hcl; simp only [List.length_append] at hcl; omega
  have hl2 : (txB c.col).length ≤ 330 := by rw [hee] at hcl; simp only [List.length_append] at hcl; omega
  have hl3 : (encN c.time.toNat).length ≤ 330 := by rw [hee] at hcl; simp only [List.length_append] at hcl; omega
  have hl4 : (encN (goneN c)).length ≤ 330 := by rw [hee] at hcl; simp only [List.length_append] at hcl; omega
  clear hee hcl
  have hbel : ∀ w' v', Ext w w' v v' → Below base w w' := fun w' v' h => h.below hb (fun k hk => (hlt k hk).1)
  go_enter Try.func98, Try.ntmps98
  go_wp2_with fail
  refine (AppendStr_any _ xs c.row base _ ho0 (by rw [hs0]; omega) (by omega) (by omega)).mono ?_
  rintro e w1 ⟨v1, rfl, ho1, hb1, he1⟩
  have hB1 := hB0.ext he1 (hne0 _ (Nat.le_refl _))
  have hn1 := he1.apart hB0.lt (hne0 _ (Nat.le_refl _))
  have hw1 := he0.trans he1
  clear hB0 ho0 he0 hb1
  obtain ⟨c0, c1, c2, c3, c4⟩ := hB1.facts
  go_wp2_with fail
  refine (AppendStr_any _ _ c.col base _ ho1 (by have := hw1.size; omega) (by omega) (by simp only [List.length_append]; omega)).mono ?_
  rintro e w2 ⟨v2, rfl, ho2, hb2, he2⟩
  have hB2 := hB1.ext he2 hn1
  have hn2 := he2.apart hB1.lt hn1
  have hw2 := hw1.trans he2
  clear hB1 ho1 hw1 hb2 hn1 c0 c1 c2 c3 c4
  obtain ⟨c0, c1, c2, c3, c4⟩ := hB2.facts
  go_wp2_with fail
  rw [HMT.out]
  refine (AppendNum_any _ _ m base _ ho2 (by have := hw2.size; omega) (by omega) (by simp only [List.length_append]; omega)).mono ?_
  rintro e w3 ⟨v3, rfl, ho3, hb3, he3⟩
  have hB3 := hB2.ext he3 hn2
  have hn3 := he3.apart hB2.lt hn2
  have hw3 := hw2.trans he3
  rw [← HM.out] at ho3
  clear hB2 ho2 hw2 hb3 hn2 c0 c1 c2 c3 c4
  obtain ⟨c0, c1, c2, c3, c4⟩ := hB3.facts
  rcases hgn with ⟨hg, hgn⟩ | ⟨hg, hgn⟩
  · rw [hg] at c3
    have HGN := hide hgn
    clear hgn
    go_wp2_with fail
    refine (AppendNum_any _ _ 1 base _ ho3 (by have := hw3.size; omega) (by omega) (by simp only [List.length_append]; omega)).mono ?_
    rintro e w4 ⟨v4, rfl, ho4, hb4, he4⟩
    have hB4 := hB3.ext he4 hn3
    have hw4 := hw3.trans he4
    rw [show encN 1 = encN (goneN c) by rw [HGN.out]] at ho4
    clear hB3 ho3 hw3 hb4 hn3 c0 c1 c2 c3 c4
    obtain ⟨c0, c1, c2, c3, c4⟩ := hB4.facts
    go_wp2_with fail
    refine (AppendStr_any _ _ c.val base _ ho4 (by have := hw4.size; omega) (by omega) (by simp only [List.length_append]; omega)).mono ?_
    rintro e w5 ⟨v5, rfl, ho5, hb5, he5⟩
    have hw5 := hw4.trans he5
    go_wp2_with fail
    go_ret
    refine ⟨v5, rfl, ?_, hbel _ _ hw5, hw5⟩
    rw [HEE.out]
    simpa only [List.append_assoc] using ho5
  · rw [hg] at c3
    have HGN := hide hgn
    clear hgn
    go_wp2_with fail
    refine (AppendNum_any _ _ 0 base _ ho3 (by have := hw3.size; omega) (by omega) (by simp only [List.length_append]; omega)).mono ?_
    rintro e w4 ⟨v4, rfl, ho4, hb4, he4⟩
    have hB4 := hB3.ext he4 hn3
    have hw4 := hw3.trans he4
    rw [show encN 0 = encN (goneN c) by rw [HGN.out]] at ho4
    clear hB3 ho3 hw3 hb4 hn3 c0 c1 c2 c3 c4
    obtain ⟨c0, c1, c2, c3, c4⟩ := hB4.facts
    go_wp2_with fail
    refine (AppendStr_any _ _ c.val base _ ho4 (by have := hw4.size; omega) (by omega) (by simp only [List.length_append]; omega)).mono ?_
    rintro e w5 ⟨v5, rfl, ho5, hb5, he5⟩
    have hw5 := hw4.trans he5
    go_wp2_with fail
    go_ret
    refine ⟨v5, rfl, ?_, hbel _ _ hw5, hw5⟩
    rw [HEE.out]
    simpa only [List.append_assoc] using ho5

set_option maxRecDepth 100000 in
set_option maxHeartbeats 1000000 in
theorem CWrite_any (v : Value) (cs : List Cl) (w : World) (hv : RdC w v cs) :
    Calls Try.prog 65 #[v] w fun e w' => ∃ v', e = .returned (.tuple #[v', fltC (writeCR cs).2]) ∧ Rd w' v' (bc (writeCR cs).1) ∧ Below w.heap.size w w' ∧ New w.heap.size v' := by
  obtain ⟨ao, cap, hvv, hc1, hc2, hat⟩ := hv.at
  subst hvv
  unfold maxLen at hc2
  go_enter Try.func65, Try.ntmps65
  go_wp2_with fail
  have hR0 := Bk.new w 28 #[.int .i64 0, .int .i64 0]
  refine (CCheck_any _ cs _ (hv.alloc _)).mono ?_
  rintro e w1 ⟨rfl, hb1⟩
  have hR1 := hR0.below hb1 (by simp)
  have hbw1 : Below w.heap.size w w1 := (below_alloc' _ _).trans (hb1.mono (by simp))
  have hsz1 := hR1.lt
  clear hb1 hR0
  have r0 := hR1.cell 0
  have r1 := hR1.cell 1
  have r2 := hR1.frozen 0
  have r3 := hR1.frozen 1
  simp at r0 r1
  by_cases hc : (checkC cs).1 = 0
  · have hcz := checkC_zero hc
    have HE := hide (@writeCR_go cs hc)
    have HC : Hid (∀ c ∈ cs, codeC c = 0) := hide (fun c h => fine_code hc h)
    rw [hcz]
    unfold fltC
    clear hcz hc
    have hRA : Bk (w1.alloc (.cells #[.int .i64 0, .int .i64 0] 28)) w.heap.size 28 #[.int .i64 0, .int .i64 0] := hR1.below (below_alloc' _ _) hsz1
    have hbwA : Below w.heap.size w (w1.alloc (.cells #[.int .i64 0, .int .i64 0] 28)) := hbw1.trans ((below_alloc' _ _).mono (by omega))
    have hszA : (w1.alloc (.cells #[.int .i64 0, .int .i64 0] 28)).heap.size = w1.heap.size + 1 := by simp
    go_wp2_with fail
    go_loopw [5, 16] (fun o i wr => ∃ (k : Nat) (acc : List UInt8), k ≤ cs.length ∧ i = .int .i64 k ∧ wrGo (cs.drop k) acc = wrGo cs [] ∧ acc.length ≤ 60000 ∧ wr.ownsRow (w1.heap.size + 1) 5 1 o acc.length (bc acc) ∧ Below (w1.heap.size + 1) (w1.alloc (.cells #[.int .i64 0, .int .i64 0] 28)) wr)
      (fun _ i _ => cs.length - (intOf i).toNat)
    case atStart => exact ⟨0, [], by omega, rfl, rfl, by simp, World.ownsRow_nil _ _ _ _, Below.refl _ _⟩
    case round =>
      obtain ⟨k, acc, hk, rfl, hgo, hacc, hown, hbel⟩ := hrel
      have HG := hide hgo
      clear hgo
      have hbw : Below w.heap.size w wr := hbwA.trans (hbel.mono (by omega))
      have hRr := hRA.below hbel (by omega)
      have hszr : w1.heap.size + 1 ≤ wr.heap.size := by have := hbel.size; omega
      by_cases hlt : k < cs.length
      · obtain ⟨bb, off, rfl, hb, hcl⟩ := hat k hlt
        have hck := (hcl k hlt).below hbw
        have hcc := HC.out cs[k] (List.getElem_mem hlt)
        have hdr := drop_consC hlt
        generalize cs[k] = c at *
        rw [hdr] at HG
        obtain ⟨c0, c1, c2, c3, c4⟩ := hck
        clear hcl hat hdr hR1 r0 r1 r2 r3
        go_wp2_with fail
        refine (appendCell_any _ acc c (w1.heap.size + 1) _ (hown.alloc _) (by simp; omega) hcc (by omega)).mono ?_
        rintro e w2 ⟨v2, rfl, ho2, hb2, _⟩
        have hbel2 : Below (w1.heap.size + 1) (w1.alloc (.cells #[.int .i64 0, .int .i64 0] 28)) w2 := (hbel.alloc hszr _).trans hb2
        have hR2 := hRA.below hbel2 (by omega)
        have hbw2 : Below w.heap.size w w2 := hbwA.trans (hbel2.mono (by omega))
        have hmu := @wrGo_much (cs.drop (k + 1)) acc c
        have hst := @wrGo_step (cs.drop (k + 1)) acc c
        generalize acc ++ cellB c = Y at *
        have HMU := hide hmu
        have HST := hide hst
        clear hmu hst
        obtain ⟨ao2, cap2, hv2⟩ := owns_shape ho2
        subst hv2
        have r0 := hR2.cell 0
        have r1 := hR2.cell 1
        have r2 := hR2.frozen 0
        have r3 := hR2.frozen 1
        have hsr := hR2.lt
        simp at r0 r1
        clear hb2 hbel hRr hbw hown c0 c1 c2 c3 c4
        by_cases hm : 60000 < Y.length
        · have HM := hide (HMU.out hm)
          have hm' : (60000 : Int) < (Y.length : Int) := by omega
          clear hm
          go_wp2_with fail
          exact bodyPost_ret (v := .tuple #[.slice none 0 0, fltC (9, 0)]) (by simp [results, Try.results65, go_sem, fltC, r0, r1]) rfl ⟨_, by rw [HE.out, ← HG.out, HM.out], by rw [HE.out, ← HG.out, HM.out]; exact Rd.nil _, by go_grown, New.nil _⟩
        · have HM := hide (HST.out hm)
          have hm' : (Y.length : Int) ≤ 60000 := by omega
          go_wp2_with fail
          go_roundw
          case rel => exact ⟨k + 1, Y, by omega, by go_num, by rw [← HG.out, HM.out], by omega, ho2, hbel2⟩
          case measure => simp [intOf]; omega
      · rw [List.drop_eq_nil_of_le (by omega)] at HG
        clear hR1 r0 r1 r2 r3
        have r0 := hRr.cell 0
        have r1 := hRr.cell 1
        have r2 := hRr.frozen 0
        have r3 := hRr.frozen 1
        have hsr := hRr.lt
        simp at r0 r1
        obtain ⟨ao2, cap2, hv2⟩ := owns_shape hown
        subst hv2
        go_wp2_with fail
        exact bodyPost_ret (v := .tuple #[.slice ao2 acc.length cap2, fltC (0, 0)]) (by simp [results, Try.results65, go_sem, fltC, r0, r1]) rfl ⟨_, by rw [HE.out, ← HG.out]; rfl, by rw [HE.out, ← HG.out]; exact Rd.ofOwns (ownsRow_setCell_below (ownsRow_setCell_below hown (by simp only; omega) _) (by simp only; omega) _), by go_grown, (New.owns hown).mono (by omega)⟩
  · have HE := hide (@writeCR_bad cs hc)
    have hcb : ((checkC cs).1 == 0) = false := beq_eq_false_iff_ne.2 hc
    have hcb2 : ((checkC cs).1 != 0) = true := by simp [hc]
    clear hc hat
    generalize checkC cs = r at *
    obtain ⟨x, y⟩ := r
    simp only at hcb hcb2
    unfold fltC
    go_wp2_with fail
    go_region
    all_goals
      go_wp2_with fail
      exact bodyPost_ret (v := .tuple #[.slice none 0 0, fltC (x, y)]) (by simp [results, Try.results65, go_sem, fltC, r0, r1, hsz1]) rfl ⟨_, by rw [HE.out], by rw [HE.out]; exact Rd.nil _, by go_grown, New.nil _⟩

end Go.Proofs.Ytdodajalejfbiad
