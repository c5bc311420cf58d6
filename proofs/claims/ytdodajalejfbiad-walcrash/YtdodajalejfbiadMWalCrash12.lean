/-
  Texts joined: CellR5, CellS5, WalW4, WalW5, WalW6, WalW7, CellS6.
-/
import Derived.Test.YtdodajalejfbiadMWalCrash11
import Derived.Lib.Overlaps
import Derived.Lib.AppendZerosOnto
import Derived.Deep.RegionLaw
/-
  The closures of the laws of cells, and the comparison that calls them.
-/
namespace Go.Proofs.Ytdodajalejfbiad
open Go.RowKit




end Go.Proofs.Ytdodajalejfbiad

/-
  The walks over the document's sorting: PutCell.
-/
namespace Go.Proofs.Ytdodajalejfbiad
open Go.RowKit

theorem mrg_ahead {c : Cl} : ∀ {p r : List Cl}, (∀ x ∈ p, Lt x c) → mrg (p ++ r) [c] = p ++ mrg r [c]
  | [], r, _ => rfl
  | x :: p, r, h => by
    rw [List.cons_append, mrg_left (ordC_neg.2 (h x (by simp))), mrg_ahead (fun y hy => h y (by simp [hy]))]
    rfl

theorem mrg_end {c : Cl} {l : List Cl} (h : ∀ x ∈ l, Lt x c) : mrg l [c] = l ++ [c] := by
  have := mrg_ahead (r := []) h
  rw [List.append_nil] at this
  rw [this]
  simp [mrg]

theorem mrg_put {c x : Cl} {p r : List Cl} (h : ∀ y ∈ p, Lt y c) (hx : Sm x c) : mrg (p ++ x :: r) [c] = p ++ c :: r := by
  rw [mrg_ahead h, mrg_both (ordC_zero.2 hx), mrg_nil_right]

theorem mrg_ins {c x : Cl} {p r : List Cl} (h : ∀ y ∈ p, Lt y c) (hx : Lt c x) : mrg (p ++ x :: r) [c] = p ++ c :: x :: r := by
  have h1 : ¬ ordC x c < 0 := fun k => Lt_irrefl _ (Lt_trans hx (ordC_neg.1 k))
  have h2 : ordC x c ≠ 0 := fun k => Lt_not_Sm hx (ordC_zero.1 k).symm
  rw [mrg_ahead h, mrg_right (by omega), mrg_nil_right]

theorem set_right (x : Cl) (l : List Value) (j : Nat) (u : Value) : (cv x ++ l).set (j + 5) u = cv x ++ l.set j u := by
  have hl : (cv x).length = 5 := rfl
  rw [List.set_append, hl, if_neg (by omega), Nat.add_sub_cancel]

theorem cc_set : ∀ (cs : List Cl) (k : Nat) (c : Cl), k < cs.length → (((((cc cs).set (k * 5) (.string c.row)).set (k * 5 + 1) (.string c.col)).set (k * 5 + 2) (.int .i64 c.time)).set (k * 5 + 3) (.bool c.gone)).set (k * 5 + 4) (.string c.val) = cc (cs.set k c)
  | [], k, c, h => by simp at h
  | x :: cs, 0, c, _ => by simp [cc_cons, cv]
  | x :: cs, k + 1, c, h => by
    have ih := cc_set cs k c (by simpa using h)
    rw [List.set_cons_succ, cc_cons, cc_cons, ← ih, show (k + 1) * 5 = k * 5 + 5 by omega, set_right, show k * 5 + 5 + 1 = k * 5 + 1 + 5 by omega, set_right, show k * 5 + 5 + 2 = k * 5 + 2 + 5 by omega, set_right, show k * 5 + 5 + 3 = k * 5 + 3 + 5 by omega, set_right, show k * 5 + 5 + 4 = k * 5 + 4 + 5 by omega, set_right]

theorem run_append_rdC {P : Program} {w : World} {t ty : TypeId} {base : Nat} {e : TypeId} {z : Value} {bytes : Nat} {v : Value} {n : Nat} {cs : List Cl} {vx : Value} {news : List Cl}
    (hown : w.ownsRow base e 5 v n (cc cs)) (hrd : RdC w vx news)
    (ht : P.underlying t = some (.slice e)) (hinf : (P.info? e).map (fun i => (i.zero, i.size, i.bytes)) = some (some z, 5, bytes)) (hzs : z.cells.size = 5)
    (h63 : n + news.length ≤ 1000000000) (hbytes : bytes ≤ 64) (hbase : base ≤ w.heap.size) :
    ∃ v' w', (Builtin.append_ #[t, t] ty #[v, vx]).run P w = .ok v' w' ∧ w'.ownsRow base e 5 v' (n + news.length) (cc (cs ++ news)) ∧ Below base w w' ∧ w.grownBy w' v.ownBlock := by
  obtain ⟨i, hi, hz, hsize, hby⟩ := info_parts hinf
  have hlt := hown.lt
  have hbytes' : (n + news.length) * bytes ≤ 1000000000 * 64 := Nat.mul_le_mul h63 hbytes
  obtain ⟨ao, cap, hvx, h2, h3, h4, h5⟩ := hrd
  subst hvx
  cases ao with
  | none =>
    have hc := h4 rfl
    have hnews : news = [] := List.eq_nil_of_length_eq_zero (by omega)
    subst hnews
    subst hc
    exact ⟨v, w, run_append_owned_none w base t ty e i 5 ht hi v n _ hown, by simpa using hown, Below.refl _ _, World.grownBy.refl _ _⟩
  | some ad =>
    obtain ⟨v', w', hr, ho', hg', _⟩ := run_append_own (P := P) w base t ty e i z 5 bytes ht hi hz hsize hby hzs (by decide) v n (cc cs) hown ad news.length cap (cc news) (cc_length _) (h5 ad rfl) (cc_one _) (by simp [maxLen]; omega) (by omega) hbase
    rw [← cc_append] at ho'
    exact ⟨v', w', hr, ho', (Below.refl _ _).grown hg' hbase (fun k hk => (hlt k hk).1), hg'⟩

/-- The same as a step of a region that draws its order. -/
theorem step_append_rdC {P : Program} {w : World} {ops : Array Oper} {o : Oper} {a : Act} {K : Act → World → Prop} {Q : Exit → Act → World → Prop} {E : Prop} {s x : Operand} {t : TypeId} {base : Nat} {e : TypeId} {z : Value} {bytes : Nat}
    {v : Value} {n : Nat} {cs : List Cl} {vx : Value} {news : List Cl}
    (hown : w.ownsRow base e 5 v n (cc cs)) (hrd : RdC w vx news)
    (ht : P.underlying t = some (.slice e)) (hinf : (P.info? e).map (fun i => (i.zero, i.size, i.bytes)) = some (some z, 5, bytes)) (hzs : z.cells.size = 5)
    (hgd : o.guard = none) (ho : o.op = .call { callee := .builtin .append, args := #[s, x], argTypes := #[t, t] })
    (hs : a.eval s = v) (hx : a.eval x = vx)
    (h63 : n + news.length ≤ 1000000000) (hbytes : bytes ≤ 64) (hbase : base ≤ w.heap.size)
    (h : ∀ v' w', w'.ownsRow base e 5 v' (n + news.length) (cc (cs ++ news)) → Below base w w' → w.grownBy w' v.ownBlock → K (a.put o.dst v') w') :
    if Region.wanted o (yielded ops a.tmps) = true then Oper.wp P o a w K Q else E := by
  have hw : Region.wanted o (yielded ops a.tmps) = true := by simp [Region.wanted, hgd]
  rw [if_pos hw]
  obtain ⟨v', w', hr, h2, h3, h4⟩ := run_append_rdC (ty := o.type) hown hrd ht hinf hzs h63 hbytes hbase
  unfold Oper.wp execOp
  simp only [ho, resolve, invoke, builtin, Sem.run_bind, Sem.run_pure, Result.andThen_ok, List.map_toArray, List.map_cons, List.map_nil, hs, hx, hr]
  exact h v' w' h2 h3 h4

theorem RdC.uptoC {w : World} {ao : Option Addr} {n cap hi : Nat} {cs : List Cl} (h : RdC w (.slice ao n cap) cs) (h1 : hi ≤ n) : RdC w (Go.sliced ao 0 hi cap 5) (cs.take hi) := by
  have := h.sliced (Nat.zero_le _) h1
  simpa using this

/-- 'v[:hi]' of cells as an operation. -/
theorem run_slice_uptoC {P : Program} {t e : TypeId} {z : Value} {bytes : Nat} (ht : P.underlying t = some (.slice e)) (he : P.elem t = e) (hinf : (P.info? e).map (fun i => (i.zero, i.size, i.bytes)) = some (some z, 5, bytes))
    (ao : Option Addr) (n cap hi : Nat) (h : Int) (hh : h = hi) (h1 : hi ≤ cap) (W : World) :
    (Instr.slice t (.slice ao n cap) none (some (.int .i64 h)) none).run P W = .ok (Go.sliced ao 0 hi cap 5) W := by
  obtain ⟨i, hi0, _, hsize, _⟩ := info_parts hinf
  subst hh
  rw [run_slice_h (P := P) W t ao n cap (by rw [he]; exact ht) .i64 hi (by omega) (by omega)]
  simp [he, sizeOf, typeInfo, hi0, hsize, Result.andThen]

end Go.Proofs.Ytdodajalejfbiad

/-
  The walk over slices.Insert at cells, one of them put in.
-/
namespace Go.Proofs.Ytdodajalejfbiad
open Go.RowKit

/-- 'copy' of elements of K places each into a row that is known whole. -/
theorem run_copy_rowK {P : Program} (w : World) (dT sT ty elem : TypeId) (K g o dLen dCap : Nat) (a : Addr) (sLen sCap m : Nat) (cur : Array Value) (t : TypeId) (cs : List Value)
    (hu : P.underlying dT = some (.slice elem)) (hs : (P.info? elem).map (·.size) = some K)
    (hg : w.heap[g]? = some (.cells cur t (0, 0))) (hm : Nat.min sLen dLen = m) (hn : cs.length = m * K)
    (hsrc : ∀ j v, cs[j]? = some v → w.cell? (a.add j) = some v) (hfit : o + cs.length ≤ cur.size) (h1 : ∀ v ∈ cs, v.oneCell' = true) :
    (Builtin.copy_ #[dT, sT] ty #[.slice (some ⟨g, o, none⟩) dLen dCap, .slice (some a) sLen sCap]).run P w =
      .ok (goInt m) (w.setRow g (cur.toList.take o ++ cs ++ cur.toList.drop (o + cs.length)).toArray) := by
  have hl := run_loadCells_list (P := P) w a cs hsrc
  rw [hn] at hl
  have hst := run_storeCells_at P g o t cs 0 cur w hg (by simpa using hfit) h1
  cases hq : P.info? elem with
  | none => simp [hq] at hs
  | some i =>
    have hi : i.size = K := by simpa [hq] using hs
    simp [Builtin.copy_, run_underlying hu, Builtin.lenOf, Builtin.firstCells, sizeOf, typeInfo, hq, hi, hm, hl, hst]

/-- What a copy into a row leaves. -/
structure Cpd (w w' : World) (g : Nat) (t : TypeId) (R : List Value) : Prop where
  row : w'.heap[g]? = some (.cells R.toArray t (0, 0))
  oth : ∀ k, k ≠ g → w'.heap[k]? = w.heap[k]?
  siz : w'.heap.size = w.heap.size
  bel : ∀ B, B ≤ g → Below B w w'

theorem cpd_setRow {w : World} {g : Nat} {cur : Array Value} {t : TypeId} (hg : w.heap[g]? = some (.cells cur t (0, 0))) (R : List Value) : Cpd w (w.setRow g R.toArray) g t R :=
  ⟨setRow_heap w g _ _ t _ hg, fun k hk => setRow_other w g k _ hk, by simp [World.setRow], fun B hB => below_setRow (Below.refl _ _) hB _⟩

theorem wpList_copy_rowK {P : Program} {w : World} {ops : Array Oper} {rest : List Oper} {o : Oper} {a : Act} {Q : Exit → Act → World → Prop} {d s : Operand} {dT sT elem t : TypeId} {K g off dLen dCap sLen sCap m : Nat} {ad : Addr} {cur : Array Value} {cs R : List Value}
    (hu : P.underlying dT = some (.slice elem)) (hsz : (P.info? elem).map (·.size) = some K) (hg : w.heap[g]? = some (.cells cur t (0, 0))) (hm : Nat.min sLen dLen = m) (hn : cs.length = m * K)
    (hsrc : ∀ j v, cs[j]? = some v → w.cell? (ad.add j) = some v) (hfit : off + cs.length ≤ cur.size) (h1 : ∀ v ∈ cs, v.oneCell' = true) (hR : R = cur.toList.take off ++ cs ++ cur.toList.drop (off + cs.length))
    (hgd : o.guard = none) (ho : o.op = .call { callee := .builtin .copy, args := #[d, s], argTypes := #[dT, sT] }) (hd : a.eval d = .slice (some ⟨g, off, none⟩) dLen dCap) (hs : a.eval s = .slice (some ad) sLen sCap)
    (h : ∀ w', Cpd w w' g t R → wpList P ops Q rest (a.put o.dst (goInt m)) w') : wpList P ops Q (o :: rest) a w := by
  refine wpList_plain hgd fun KK hK => ?_
  have hrun := run_copy_rowK (P := P) w dT sT o.type elem K g off dLen dCap ad sLen sCap m cur t cs hu hsz hg hm hn hsrc hfit h1
  rw [← hR] at hrun
  unfold Oper.wp
  simp only [execOp, ho, resolve, invoke, builtin, Sem.run_bind, Sem.run_pure, Result.andThen_ok, List.map_toArray, List.map_cons, List.map_nil, hd, hs, hrun]
  exact hK _ _ (h _ (cpd_setRow hg R))

theorem step_copy_rowK {P : Program} {w : World} {ops : Array Oper} {o : Oper} {a : Act} {KK : Act → World → Prop} {Q : Exit → Act → World → Prop} {E : Prop} {d s : Operand} {dT sT elem t : TypeId} {K g off dLen dCap sLen sCap m : Nat} {ad : Addr} {cur : Array Value} {cs R : List Value}
    (hu : P.underlying dT = some (.slice elem)) (hsz : (P.info? elem).map (·.size) = some K) (hg : w.heap[g]? = some (.cells cur t (0, 0))) (hm : Nat.min sLen dLen = m) (hn : cs.length = m * K)
    (hsrc : ∀ j v, cs[j]? = some v → w.cell? (ad.add j) = some v) (hfit : off + cs.length ≤ cur.size) (h1 : ∀ v ∈ cs, v.oneCell' = true) (hR : R = cur.toList.take off ++ cs ++ cur.toList.drop (off + cs.length))
    (hgd : o.guard = none) (ho : o.op = .call { callee := .builtin .copy, args := #[d, s], argTypes := #[dT, sT] }) (hd : a.eval d = .slice (some ⟨g, off, none⟩) dLen dCap) (hs : a.eval s = .slice (some ad) sLen sCap)
    (h : ∀ w', Cpd w w' g t R → KK (a.put o.dst (goInt m)) w') : if Region.wanted o (yielded ops a.tmps) = true then Oper.wp P o a w KK Q else E := by
  have hw : Region.wanted o (yielded ops a.tmps) = true := by simp [Region.wanted, hgd]
  rw [if_pos hw]
  have hrun := run_copy_rowK (P := P) w dT sT o.type elem K g off dLen dCap ad sLen sCap m cur t cs hu hsz hg hm hn hsrc hfit h1
  rw [← hR] at hrun
  unfold Oper.wp
  simp only [execOp, ho, resolve, invoke, builtin, Sem.run_bind, Sem.run_pure, Result.andThen_ok, List.map_toArray, List.map_cons, List.map_nil, hd, hs, hrun]
  exact h _ (cpd_setRow hg R)

theorem Try.size5 : (Try.prog.info? 91).map (·.size) = some 5 := by kernel_rfl

theorem sliced5 (g lo hi cap : Nat) (h : lo ≠ cap) : Go.sliced (some ⟨g, 0, none⟩) lo hi cap 5 = .slice (some ⟨g, lo * 5, none⟩) (hi - lo) (cap - lo) := by
  unfold Go.sliced
  rw [if_neg (Ne.symm h), Option.map_some, Addr.add_lit, Nat.zero_add]

theorem ca_list (c : Cl) : (ca c).toList = cv c := rfl

set_option maxRecDepth 100000 in
set_option maxHeartbeats 1000000 in
theorem insertEnd_any (v : Value) (cs : List Cl) (c : Cl) (base vb : Nat) (w : World) (hown : w.ownsRow base 91 5 v cs.length (cc cs)) (hb : base ≤ w.heap.size) (hl : cs.length ≤ 1000000) (hvb : RdC w (.slice (some ⟨vb, 0, none⟩) 1 1) [c]) :
    Calls Try.prog 110 #[v, .int .i64 cs.length, .slice (some ⟨vb, 0, none⟩) 1 1] w fun e w' => ∃ v', e = .returned v' ∧ w'.ownsRow base 91 5 v' (cs ++ [c]).length (cc (cs ++ [c])) ∧ Below base w w' := by
  obtain ⟨ao, cap, hv⟩ := ownsC_shape hown
  subst hv
  have hsl := run_slice_fromC (P := Try.prog) Try.underlying30 (by kernel_rfl) Try.info91 ao cs.length cap cs.length cs.length rfl (Nat.le_refl _)
  have hee : ((cs.length : Int) == (cs.length : Int)) = true := by simp
  have hl2 : cs.length + [c].length ≤ 1000000000 := by simp; omega
  go_enter Try.func110, Try.ntmps110
  go_wp2_with (at_builtin; go_must (refine wpList_append_rdC hown hvb Try.underlying30 Try.info91 rfl rfl rfl rfl rfl hl2 (by decide) hb ?_); intro v5 w5 ho5 hb5 hg5; clear hg5)
  all_goals
    go_ret
    exact ⟨_, rfl, by simpa using ho5, hb5⟩

/-- The row behind both copies. -/
theorem row_shift {cur : List Value} {cs : List Cl} {i n cap : Nat} {c : Cl} (hn : cs.length = n) (hc : cur.length = cap * 5) (ht : cur.take (n * 5) = cc cs) (hi : i < n) (hr : n + 1 ≤ cap) :
    (((cur.take ((i + 1) * 5) ++ cc (cs.drop i) ++ cur.drop ((i + 1) * 5 + (cc (cs.drop i)).length)).take (i * 5) ++ cv c ++ (cur.take ((i + 1) * 5) ++ cc (cs.drop i) ++ cur.drop ((i + 1) * 5 + (cc (cs.drop i)).length)).drop (i * 5 + (cv c).length)).take ((n + 1) * 5) = cc (cs.take i ++ c :: cs.drop i)) ∧
    ((cur.take ((i + 1) * 5) ++ cc (cs.drop i) ++ cur.drop ((i + 1) * 5 + (cc (cs.drop i)).length)).take (i * 5) ++ cv c ++ (cur.take ((i + 1) * 5) ++ cc (cs.drop i) ++ cur.drop ((i + 1) * 5 + (cc (cs.drop i)).length)).drop (i * 5 + (cv c).length)).length = cap * 5 := by
  have hcv : (cv c).length = 5 := rfl
  have hdl : (cc (cs.drop i)).length = (n - i) * 5 := by rw [cc_length, List.length_drop, hn]
  have hA : (cur.take ((i + 1) * 5)).length = (i + 1) * 5 := by rw [List.length_take]; omega
  have e1 : (cur.take ((i + 1) * 5) ++ cc (cs.drop i) ++ cur.drop ((i + 1) * 5 + (cc (cs.drop i)).length)).take (i * 5) = cc (cs.take i) := by
    rw [List.append_assoc, List.take_append_of_le_length (by omega), List.take_take, Nat.min_eq_left (by omega), ← cc_take, ← ht, List.take_take, Nat.min_eq_left (by omega)]
  have e2 : (cur.take ((i + 1) * 5) ++ cc (cs.drop i) ++ cur.drop ((i + 1) * 5 + (cc (cs.drop i)).length)).drop (i * 5 + (cv c).length) = cc (cs.drop i) ++ cur.drop ((n + 1) * 5) := by
    rw [hcv, show i * 5 + 5 = (i + 1) * 5 by omega, List.append_assoc, drop_left' hA.symm, hdl]
    congr 2
    omega
  rw [e1, e2]
  have e3 : cc (cs.take i ++ c :: cs.drop i) = cc (cs.take i) ++ cv c ++ cc (cs.drop i) := by rw [cc_append, cc_cons, List.append_assoc]
  have e4 : (cc (cs.take i) ++ cv c ++ cc (cs.drop i)).length = (n + 1) * 5 := by
    rw [List.length_append, List.length_append, hcv, hdl, cc_length, List.length_take, hn]
    omega
  refine ⟨?_, ?_⟩
  · rw [e3, ← List.append_assoc, ← e4, List.take_left]
  · rw [← List.append_assoc, List.length_append, e4, List.length_drop]
    omega

/-- A block of a cell as the source of a copy. -/
theorem src_ca {w : World} {vb : Nat} {t : TypeId} {c : Cl} (h : Bk w vb t (ca c)) : ∀ j v, (cv c)[j]? = some v → w.cell? ((⟨vb, 0, none⟩ : Addr).add j) = some v := by
  intro j v hv
  rw [Addr.add_lit, Nat.zero_add, h.cell, ← hv]
  simp [ca, cv]

set_option maxRecDepth 100000 in
set_option maxHeartbeats 2000000 in
theorem insertShift_any (g cap : Nat) (cur : Array Value) (cs : List Cl) (i : Nat) (c : Cl) (base vb : Nat) (w : World) (hg : w.heap[g]? = some (.cells cur 91 (0, 0))) (hbg : base ≤ g) (hcm : cap ≤ maxLen) (hcs : cur.size = cap * 5) (htk : cur.toList.take (cs.length * 5) = cc cs) (hi : i < cs.length) (hr : cs.length + 1 ≤ cap) (hl : cs.length ≤ 1000000) (hvb : Bk w vb 91 (ca c)) (hne : vb ≠ g) :
    Calls Try.prog 110 #[.slice (some ⟨g, 0, none⟩) cs.length cap, .int .i64 i, .slice (some ⟨vb, 0, none⟩) 1 1] w fun e w' => ∃ v', e = .returned v' ∧ w'.ownsRow base 91 5 v' (cs.length + 1) (cc (cs.take i ++ c :: cs.drop i)) ∧ Below base w w' := by
  unfold maxLen at hcm
  have hs1 := run_slice_fromC (P := Try.prog) Try.underlying30 (by kernel_rfl) Try.info91 (some ⟨g, 0, none⟩) cs.length cap i i rfl (by omega)
  have hs2 := run_slice_uptoC (P := Try.prog) Try.underlying30 (by kernel_rfl) Try.info91 (some ⟨g, 0, none⟩) cs.length cap (cs.length + 1) ((cs.length : Int) + 1) (by simp) hr
  have hs3 := run_slice_fromC (P := Try.prog) Try.underlying30 (by kernel_rfl) Try.info91 (some ⟨g, 0, none⟩) (cs.length + 1) cap (i + 1) ((i : Int) + 1) (by simp) (by omega)
  have hs4 := run_slice_fromC (P := Try.prog) Try.underlying30 (by kernel_rfl) Try.info91 (some ⟨g, 0, none⟩) (cs.length + 1) cap i i rfl (by omega)
  rw [sliced5 _ _ _ _ (by omega)] at hs1 hs2 hs3 hs4
  have hnl : g < w.heap.size := (Array.getElem?_eq_some_iff.1 hg).1
  have hov : ∀ lb cb o, (callFunc 121 #[.slice (some ⟨vb, 0, none⟩) 1 1, .slice (some ⟨g, o, none⟩) lb cb]).run Try.prog w = .ok (.value (.bool false)) w := fun lb cb o => by
    rw [run_callFunc_extern Try.func121 (by kernel_rfl) (by kernel_rfl) (by kernel_rfl) (e := Extern.SlicesOverlaps.overlaps #[30, 30] #[4]) (by kernel_rfl),
      Lib.run_overlaps_apart w 30 4 91 Try.underlying30 5 (fun w => by kernel_rfl) ⟨vb, 0, none⟩ ⟨g, o, none⟩ 1 1 lb cb hne 91 91 5 cur.size (by unfold World.shape?; rw [show w.heap[vb]? = _ from hvb]; rfl) (by unfold World.shape?; rw [hg]) (by omega) (hvb.frozen 0) (hvb.frozen 5)]
    rfl
  have hm1 : Nat.min (cs.length + 1 - i) (cs.length + 1 - (i + 1)) = cs.length - i := by show min (cs.length + 1 - i) (cs.length + 1 - (i + 1)) = _; omega
  have hm2 : Nat.min 1 (cs.length + 1 - i) = 1 := by show min 1 (cs.length + 1 - i) = 1; omega
  have hdl : (cc (cs.drop i)).length = (cs.length - i) * 5 := by rw [cc_length, List.length_drop]
  have hsrc1 : ∀ j v, (cc (cs.drop i))[j]? = some v → w.cell? ((⟨g, i * 5, none⟩ : Addr).add j) = some v := by
    intro j v hv
    have hj := (List.getElem?_eq_some_iff.1 hv).1
    rw [Addr.add_lit, cell_of_row _ _ _ _ _ _ hg, ← hv, ← cc_drop, List.getElem?_drop, ← htk, List.getElem?_take]
    rw [hdl] at hj
    rw [if_pos (by omega)]
    simp
  have hfit1 : (i + 1) * 5 + (cc (cs.drop i)).length ≤ cur.size := by rw [hdl, hcs]; omega
  obtain ⟨R1, hR1⟩ : ∃ R1 : List Value, R1 = cur.toList.take ((i + 1) * 5) ++ cc (cs.drop i) ++ cur.toList.drop ((i + 1) * 5 + (cc (cs.drop i)).length) := ⟨_, rfl⟩
  have hR1l : R1.length = cap * 5 := by
    rw [hR1]
    simp only [List.length_append, List.length_take, List.length_drop, hdl, Array.length_toList, hcs]
    omega
  obtain ⟨R2, hR2⟩ : ∃ R2 : List Value, R2 = R1.take (i * 5) ++ cv c ++ R1.drop (i * 5 + (cv c).length) := ⟨_, rfl⟩
  have HROW := hide (row_shift (c := c) (i := i) (cap := cap) rfl (by rw [Array.length_toList, hcs]) htk hi hr)
  rw [← hR1, ← hR2] at HROW
  have hfit2 : i * 5 + (cv c).length ≤ R1.toArray.size := by
    have : (cv c).length = 5 := rfl
    rw [List.size_toArray, hR1l, this]
    omega
  have HR1 := hide hR1
  have HR2 := hide hR2
  clear hR1 hR2
  have hcvl : (cv c).length = 1 * 5 := rfl
  have hov2 : ∀ (W : World), W = w → ∀ lb cb o, (callFunc 121 #[.slice (some ⟨vb, 0, none⟩) 1 1, .slice (some ⟨g, o, none⟩) lb cb]).run Try.prog W = .ok (.value (.bool false)) W := fun W e lb cb o => by subst e; exact hov lb cb o
  simp only [Nat.zero_mul, Nat.sub_zero] at hs2
  have hone5 : ∀ u ∈ cv c, u.oneCell' = true := by
    intro u hu
    simp only [cv, List.mem_cons, List.not_mem_nil, or_false] at hu
    rcases hu with rfl | rfl | rfl | rfl | rfl <;> rfl
  generalize hO1 : (i + 1) * 5 = O1 at *
  generalize hO2 : i * 5 = O2 at *
  generalize hL1 : cs.length + 1 - (i + 1) = L1 at *
  generalize hL2 : cs.length + 1 - i = L2 at *
  generalize hC1 : cap - (i + 1) = C1 at *
  generalize hC2 : cap - i = C2 at *
  generalize hN1 : cs.length + 1 = n1 at *
  have hz1 : ¬ ((i : Int) = (cs.length : Int)) := by omega
  have hz1b : ((i : Int) == (cs.length : Int)) = false := beq_eq_false_iff_ne.2 hz1
  have hz3 : decide ((cap : Int) < (cs.length : Int) + 1) = false := decide_eq_false (by omega)
  have hw1 : IntKind.i64.wrap ((i : Int) + 1) = (i : Int) + 1 := by rw [IntKind.wrap_i64]; omega
  go_enter Try.func110, Try.ntmps110
  go_wp2_with (simp only [hov])
  go_region_law (refine step_copy_rowK (K := 5) (m := cs.length - i) (cs := cc (cs.drop i)) Try.underlying30 Try.size5 (by exact hg) hm1 hdl (by exact hsrc1) hfit1 (cc_one _) HR1.out rfl rfl (by simp [Act.eval, Act.put] <;> rfl) (by simp [Act.eval, Act.put] <;> rfl) ?_; intro w1 hq1)
  all_goals
    have hvb1 : Bk w1 vb 91 (ca c) := (hq1.oth vb hne).trans hvb
    have HQ1 := hide hq1
    have hrow1 := hq1.row
    have hsrc2 := src_ca hvb1
    clear hq1 hvb1
    obtain ⟨w2, hq2, hcp2⟩ : ∃ w2, Cpd w1 w2 g 91 R2 ∧ (Builtin.copy_ #[30, 30] 3 #[.slice (some ⟨g, O2, none⟩) L2 C2, .slice (some ⟨vb, 0, none⟩) 1 1]).run Try.prog w1 = .ok (goInt (1 : Nat)) w2 := by
      have h9 := run_copy_rowK (P := Try.prog) w1 30 30 3 91 5 g O2 L2 C2 ⟨vb, 0, none⟩ 1 1 1 R1.toArray 91 (cv c) Try.underlying30 Try.size5 hrow1 hm2 hcvl hsrc2 hfit2 hone5
      rw [show R1.toArray.toList = R1 from rfl, ← HR2.out] at h9
      exact ⟨_, cpd_setRow hrow1 R2, h9⟩
    have HQ2 := hide hq2
    clear hq2 hsrc2 hrow1
    go_wp2_with fail
    go_ret
    have hb1 := HQ1.out.bel base hbg
    have hb2 := HQ2.out.bel base hbg
    refine ⟨_, rfl, ⟨?_, .inr ⟨g, cap, R2.toArray, rfl, hbg, HQ2.out.row, by omega, by unfold maxLen; omega, by simpa using HROW.out.2, ?_⟩⟩, ?_⟩
    · have := congrArg List.length HROW.out.1
      rw [← this, List.length_take, HROW.out.2]
      omega
    · have := HROW.out.1
      simpa using this
    · exact Below.trans (by first | exact hb1 | exact Below.trans (Below.drew (Below.refl _ _)) hb1) hb2

theorem zeroCells_length (z : Array Value) (k : Nat) : (Builtin.zeroCells z k).size = k * z.size := by
  simp [Builtin.zeroCells]

/-- The row behind both copies into a new one. -/
theorem row_grow {ROW : List Value} {cs : List Cl} {i n G : Nat} {c : Cl} (hn : cs.length = n) (hc : ROW.length = G * 5) (ht : ROW.take (i * 5) = cc (cs.take i)) (hi : i < n) (hr : n + 1 ≤ G) :
    (((ROW.take (i * 5) ++ cv c ++ ROW.drop (i * 5 + (cv c).length)).take ((i + 1) * 5) ++ cc (cs.drop i) ++ (ROW.take (i * 5) ++ cv c ++ ROW.drop (i * 5 + (cv c).length)).drop ((i + 1) * 5 + (cc (cs.drop i)).length)).take ((n + 1) * 5) = cc (cs.take i ++ c :: cs.drop i)) ∧
    ((ROW.take (i * 5) ++ cv c ++ ROW.drop (i * 5 + (cv c).length)).take ((i + 1) * 5) ++ cc (cs.drop i) ++ (ROW.take (i * 5) ++ cv c ++ ROW.drop (i * 5 + (cv c).length)).drop ((i + 1) * 5 + (cc (cs.drop i)).length)).length = G * 5 ∧
    (ROW.take (i * 5) ++ cv c ++ ROW.drop (i * 5 + (cv c).length)).length = G * 5 := by
  have hcv : (cv c).length = 5 := rfl
  have hdl : (cc (cs.drop i)).length = (n - i) * 5 := by rw [cc_length, List.length_drop, hn]
  have htl : (cc (cs.take i)).length = i * 5 := by rw [cc_length, List.length_take, hn]; omega
  have e1 : (ROW.take (i * 5) ++ cv c ++ ROW.drop (i * 5 + (cv c).length)).take ((i + 1) * 5) = cc (cs.take i) ++ cv c := by
    rw [ht, show (i + 1) * 5 = (cc (cs.take i) ++ cv c).length by rw [List.length_append, htl, hcv]; omega, List.take_left]
  have hl1 : (ROW.take (i * 5) ++ cv c ++ ROW.drop (i * 5 + (cv c).length)).length = G * 5 := by
    simp only [List.length_append, List.length_take, List.length_drop, hcv, hc]
    omega
  have e3 : cc (cs.take i ++ c :: cs.drop i) = cc (cs.take i) ++ cv c ++ cc (cs.drop i) := by rw [cc_append, cc_cons, List.append_assoc]
  have e4 : (cc (cs.take i) ++ cv c ++ cc (cs.drop i)).length = (n + 1) * 5 := by
    rw [List.length_append, List.length_append, hcv, hdl, htl]
    omega
  refine ⟨?_, ?_, hl1⟩
  · rw [e1, e3, ← e4, List.take_left]
  · rw [e1, List.length_append, e4, List.length_drop, hl1, hdl]
    omega

set_option maxRecDepth 100000 in
set_option maxHeartbeats 2000000 in
theorem insertGrow_any (g cap : Nat) (cur : Array Value) (cs : List Cl) (i : Nat) (c : Cl) (base vb : Nat) (w : World) (hg : w.heap[g]? = some (.cells cur 91 (0, 0))) (hbw : base ≤ w.heap.size) (htk : cur.toList.take (cs.length * 5) = cc cs) (hi : i < cs.length) (hnc : cs.length ≤ cap) (hr : cap < cs.length + 1) (hl : cs.length ≤ 1000000) (hvb : Bk w vb 91 (ca c)) :
    Calls Try.prog 110 #[.slice (some ⟨g, 0, none⟩) cs.length cap, .int .i64 i, .slice (some ⟨vb, 0, none⟩) 1 1] w fun e w' => ∃ v', e = .returned v' ∧ w'.ownsRow base 91 5 v' (cs.length + 1) (cc (cs.take i ++ c :: cs.drop i)) ∧ Below base w w' := by
  have hcell : ∀ j v, (cc cs)[j]? = some v → w.cell? ⟨g, j, none⟩ = some v := by
    intro j v hv
    have hj := (List.getElem?_eq_some_iff.1 hv).1
    rw [cc_length] at hj
    rw [cell_of_row _ _ _ _ _ _ hg, ← hv, ← htk, List.getElem?_take, if_pos hj]
    simp
  have hgl : g < w.heap.size := (Array.getElem?_eq_some_iff.1 hg).1
  have hvl := hvb.lt
  obtain ⟨i0, hi0, hz0, hzs, hzb⟩ := info_parts Try.info91
  have hik : i + (cs.length + 1 - i) = cs.length + 1 := by omega
  obtain ⟨G, hG⟩ : ∃ G, G = grownCap w (cs.length + 1) cap 91 := ⟨_, rfl⟩
  have hGn : cs.length + 1 ≤ G := by rw [hG]; exact grownCap_ge w _ _ _
  have hGm : G ≤ maxLen := by rw [hG]; exact grownCap_le_maxLen w _ _ _ (by unfold maxLen; omega)
  have hold : (Builtin.firstCells i0.size i (.slice (some ⟨g, 0, none⟩) i cap)).run Try.prog w.drew = .ok (cc (cs.take i)).toArray w.drew := by
    rw [hzs]
    exact run_firstCells_some w.drew 5 i ⟨g, 0, none⟩ i cap (cc (cs.take i)) (by rw [cc_length, List.length_take]; omega) (fun j v hj => by
      rw [Addr.add_lit, Nat.zero_add]
      rw [← cc_take, List.getElem?_take] at hj
      split at hj
      · exact hcell j v hj
      · cases hj)
  obtain ⟨ROW, hROW⟩ : ∃ ROW : List Value, ROW = ((cc (cs.take i)).toArray ++ Builtin.zeroCells (cA zeroC).cells (cs.length + 1 - i) ++ Builtin.zeroCells (cA zeroC).cells (G - (cs.length + 1))).toList := ⟨_, rfl⟩
  have hz5 : (cA zeroC).cells.size = 5 := rfl
  have hRl : ROW.length = G * 5 := by
    rw [hROW]
    simp only [Array.length_toList, Array.size_append, zeroCells_length, hz5, List.size_toArray, cc_length, List.length_take]
    omega
  have hRt : ROW.take (i * 5) = cc (cs.take i) := by
    have e : i * 5 = (cc (cs.take i)).length := by rw [cc_length, List.length_take]; omega
    rw [hROW, Array.toList_append, Array.toList_append, List.append_assoc, e, List.take_left]
  obtain ⟨w1, hw1⟩ : ∃ w1, w1 = w.drew.alloc (.cells ROW.toArray 91) := ⟨_, rfl⟩
  have hrz : (Builtin.append_ #[30, 3] 30 #[.slice (some ⟨g, 0, none⟩) i cap, .int .i64 ((cs.length : Int) + 1 - (i : Int))]).run Try.prog w = .ok (.slice (some ⟨w.heap.size, 0, none⟩) (cs.length + 1) G) w1 := by
    have h := Lib.run_append_grow_zeros (P := Try.prog) w 30 3 30 91 i0 _ .i64 .i64 Try.underlying30 Try.underlying3 hi0 hz0 (some ⟨g, 0, none⟩) i cap (cc (cs.take i)) hold (cs.length + 1 - i) (by omega) (by omega) (by omega) (by omega) (by rw [hzb]; omega) (by rw [hzb, hik]; exact growslice_fits hr (by omega))
    rw [hik] at h
    rw [show (cs.length : Int) + 1 - (i : Int) = ((cs.length + 1 - i : Nat) : Int) by omega, h, hw1, ← hG, hROW, Array.toArray_toList]
    rfl
  have hrow0 : w1.heap[w.heap.size]? = some (.cells ROW.toArray 91 (0, 0)) := by rw [hw1]; exact heap_alloc_new w.drew _
  have hoth0 : ∀ k, k < w.heap.size → w1.heap[k]? = w.heap[k]? := fun k hk => by rw [hw1]; exact Below.heap_alloc w.drew _ k hk
  have hb01 : Below base w w1 := by rw [hw1]; exact (Below.drew (Below.refl _ _)).alloc hbw _
  obtain ⟨R1, hR1⟩ : ∃ R1 : List Value, R1 = ROW.take (i * 5) ++ cv c ++ ROW.drop (i * 5 + (cv c).length) := ⟨_, rfl⟩
  obtain ⟨R2, hR2⟩ : ∃ R2 : List Value, R2 = R1.take ((i + 1) * 5) ++ cc (cs.drop i) ++ R1.drop ((i + 1) * 5 + (cc (cs.drop i)).length) := ⟨_, rfl⟩
  have hrg := row_grow (c := c) (i := i) (G := G) rfl hRl hRt hi hGn
  rw [← hR1, ← hR2] at hrg
  have hcvl : (cv c).length = 1 * 5 := rfl
  have hdl : (cc (cs.drop i)).length = (cs.length - i) * 5 := by rw [cc_length, List.length_drop]
  have hone5 : ∀ u ∈ cv c, u.oneCell' = true := by
    intro u hu
    simp only [cv, List.mem_cons, List.not_mem_nil, or_false] at hu
    rcases hu with rfl | rfl | rfl | rfl | rfl <;> rfl
  have hm2 : Nat.min 1 (cs.length + 1 - i) = 1 := by show min 1 (cs.length + 1 - i) = 1; omega
  have hm1 : Nat.min (cs.length - i) (cs.length + 1 - (i + 1)) = cs.length - i := by show min (cs.length - i) (cs.length + 1 - (i + 1)) = _; omega
  have hvb1 : Bk w1 vb 91 (ca c) := (hoth0 vb hvl).trans hvb
  obtain ⟨w2, hq2, hcp2⟩ : ∃ w2, Cpd w1 w2 w.heap.size 91 R1 ∧ (Builtin.copy_ #[30, 30] 3 #[.slice (some ⟨w.heap.size, i * 5, none⟩) (cs.length + 1 - i) (G - i), .slice (some ⟨vb, 0, none⟩) 1 1]).run Try.prog w1 = .ok (goInt (1 : Nat)) w2 := by
    have h9 := run_copy_rowK (P := Try.prog) w1 30 30 3 91 5 w.heap.size (i * 5) (cs.length + 1 - i) (G - i) ⟨vb, 0, none⟩ 1 1 1 ROW.toArray 91 (cv c) Try.underlying30 Try.size5 hrow0 hm2 hcvl (src_ca hvb1) (by rw [List.size_toArray, hRl]; have : (cv c).length = 5 := rfl; omega) hone5
    rw [show ROW.toArray.toList = ROW from rfl, ← hR1] at h9
    exact ⟨_, cpd_setRow hrow0 R1, h9⟩
  have hg2 : w2.heap[g]? = some (.cells cur 91 (0, 0)) := (hq2.oth g (by omega)).trans ((hoth0 g hgl).trans hg)
  have hsrc1 : ∀ j v, (cc (cs.drop i))[j]? = some v → w2.cell? ((⟨g, i * 5, none⟩ : Addr).add j) = some v := by
    intro j v hv
    have hj := (List.getElem?_eq_some_iff.1 hv).1
    rw [Addr.add_lit, cell_of_row _ _ _ _ _ _ hg2, ← hv, ← cc_drop, List.getElem?_drop, ← htk, List.getElem?_take]
    rw [hdl] at hj
    rw [if_pos (by omega)]
    simp
  have hfit1 : (i + 1) * 5 + (cc (cs.drop i)).length ≤ R1.toArray.size := by rw [hdl, List.size_toArray, hrg.2.2]; omega
  have hrow2 := hq2.row
  have hb02 : Below base w w2 := hb01.trans (hq2.bel base hbw)
  have hs1 := run_slice_fromC (P := Try.prog) Try.underlying30 (by kernel_rfl) Try.info91 (some ⟨g, 0, none⟩) cs.length cap i i rfl (by omega)
  have hs2 := run_slice_uptoC (P := Try.prog) Try.underlying30 (by kernel_rfl) Try.info91 (some ⟨g, 0, none⟩) cs.length cap i i rfl (by omega)
  have hs3 := run_slice_fromC (P := Try.prog) Try.underlying30 (by kernel_rfl) Try.info91 (some ⟨w.heap.size, 0, none⟩) (cs.length + 1) G (i + 1) ((i : Int) + 1) (by simp) (by omega)
  have hs4 := run_slice_fromC (P := Try.prog) Try.underlying30 (by kernel_rfl) Try.info91 (some ⟨w.heap.size, 0, none⟩) (cs.length + 1) G i i rfl (by omega)
  rw [sliced5 _ _ _ _ (by omega)] at hs1 hs2 hs3 hs4
  simp only [Nat.zero_mul, Nat.sub_zero] at hs2
  have HRG := hide hrg
  have HR2 := hide hR2
  have HB02 := hide hb02
  clear hG hrg hR1 hR2 hROW hRl hRt hw1 hold hq2 hb01 hb02 hoth0 hrow0 hvb1 hcell
  generalize hO1 : (i + 1) * 5 = O1 at *
  generalize hO2 : i * 5 = O2 at *
  generalize hL1 : cs.length + 1 - (i + 1) = L1 at *
  generalize hL2 : cs.length + 1 - i = L2 at *
  generalize hL3 : cs.length - i = L3 at *
  generalize hC1 : G - (i + 1) = C1 at *
  generalize hC2 : G - i = C2 at *
  generalize hC3 : cap - i = C3 at *
  generalize hN1 : cs.length + 1 = n1 at *
  have hz1b : ((i : Int) == (cs.length : Int)) = false := beq_eq_false_iff_ne.2 (by omega)
  have hz3 : decide ((cap : Int) < (cs.length : Int) + 1) = true := decide_eq_true (by omega)
  have hw1 : IntKind.i64.wrap ((i : Int) + 1) = (i : Int) + 1 := by rw [IntKind.wrap_i64]; omega
  go_enter Try.func110, Try.ntmps110
  go_wp2_with (at_builtin; refine Lib.wpList_append_run _ rfl _ _ _ _ rfl _ _ rfl rfl _ _ hrz ?_)
  go_region_law (refine step_copy_rowK (K := 5) (m := L3) (cs := cc (cs.drop i)) Try.underlying30 Try.size5 (by exact hrow2) hm1 hdl (by exact hsrc1) hfit1 (cc_one _) HR2.out rfl rfl (by simp [Act.eval, Act.put] <;> rfl) (by simp [Act.eval, Act.put] <;> rfl) ?_; intro w3 hq3)
  all_goals
    go_wp2_with fail
    go_ret
    have hb3 := hq3.bel base hbw
    refine ⟨_, rfl, ⟨?_, .inr ⟨w.heap.size, G, R2.toArray, rfl, hbw, hq3.row, by omega, hGm, by simpa using HRG.out.2.1, ?_⟩⟩, ?_⟩
    · have := congrArg List.length HRG.out.1
      rw [← this, List.length_take, HRG.out.2.1]
      omega
    · have := HRG.out.1
      simpa using this
    · exact Below.trans HB02.out (by first | exact hb3 | exact Below.trans (Below.drew (Below.refl _ _)) hb3)

end Go.Proofs.Ytdodajalejfbiad

/-
  The walks over wal.putIn and slices.Clone of cells.
-/
namespace Go.Proofs.Ytdodajalejfbiad
open Go.RowKit

/-- Cells that are put in, one behind the other. -/
def putL (l : List Cl) (cs : List Cl) : List Cl := cs.foldl (fun a c => mrg a [c]) l

theorem putL_nil (l : List Cl) : putL l [] = l := rfl
theorem putL_snoc (l cs : List Cl) (c : Cl) : putL l (cs ++ [c]) = mrg (putL l cs) [c] := by simp [putL]
theorem putL_append (l a b : List Cl) : putL l (a ++ b) = putL (putL l a) b := by simp [putL]
theorem putL_pw : ∀ (cs l : List Cl), l.Pairwise Lt → (putL l cs).Pairwise Lt
  | [], _, h => h
  | c :: cs, l, h => by
    show (putL (mrg l [c]) cs).Pairwise Lt
    exact putL_pw cs _ (mrg_pw l [c] h (by simp))
theorem putL_len : ∀ (cs l : List Cl), (putL l cs).length ≤ l.length + cs.length
  | [], l => by simp [putL]
  | c :: cs, l => by
    have h1 := putL_len cs (mrg l [c])
    have h2 := mrg_len l [c]
    have e : putL l (c :: cs) = putL (mrg l [c]) cs := rfl
    rw [e]
    simp only [List.length_cons, List.length_nil] at h2 ⊢
    omega

theorem putL_take {l cs : List Cl} {k : Nat} {c : Cl} (h : cs[k]? = some c) : putL l (cs.take (k + 1)) = mrg (putL l (cs.take k)) [c] := by
  rw [List.take_add_one, h]
  exact putL_snoc _ _ _

/-- A cell that is not there yet is put in at its place. -/
theorem mrg_insert {l : List Cl} {c : Cl} {i : Nat} (hlo : ∀ x ∈ l.take i, Lt x c) (hhi : ∀ x ∈ l.drop i, ¬ Lt x c) (hne : ∀ x, l[i]? = some x → ordC x c ≠ 0) : mrg l [c] = l.take i ++ c :: l.drop i := by
  rcases Nat.lt_or_ge i l.length with h | h
  · have hd := List.drop_eq_getElem_cons h
    have e : l = l.take i ++ l[i] :: l.drop (i + 1) := by rw [← hd, List.take_append_drop]
    have h1 : ¬ Lt l[i] c := hhi _ (by have h9 : l[i] ∈ l[i] :: l.drop (i + 1) := List.mem_cons_self; rwa [← hd] at h9)
    have h2 := hne _ (List.getElem?_eq_getElem h)
    have h3 : Lt c l[i] := by
      by_cases h9 : Lt c l[i]
      · exact h9
      · exact absurd (ordC_zero.2 (Lt_total h1 h9)) h2
    have := mrg_ins (r := l.drop (i + 1)) hlo h3
    rw [← e] at this
    rw [this, ← hd]
  · rw [List.take_of_length_le h, List.drop_eq_nil_of_le h]
    rw [List.take_of_length_le h] at hlo
    exact mrg_end hlo

/-- One that is there is put in its stead. -/
theorem mrg_instead {l : List Cl} {c x : Cl} {i : Nat} (hlo : ∀ y ∈ l.take i, Lt y c) (hx : l[i]? = some x) (h0 : ordC x c = 0) : mrg l [c] = l.set i c := by
  obtain ⟨h, ex⟩ := List.getElem?_eq_some_iff.1 hx
  have hd := List.drop_eq_getElem_cons h
  have e : l = l.take i ++ x :: l.drop (i + 1) := by rw [← ex, ← hd, List.take_append_drop]
  have := mrg_put (r := l.drop (i + 1)) hlo (ordC_zero.1 h0)
  rw [← e] at this
  rw [this, List.set_eq_take_append_cons_drop, if_pos h]

theorem insertC_any (v : Value) (cs : List Cl) (i : Nat) (c : Cl) (base : Nat) (w : World) (hown : w.ownsRow base 91 5 v cs.length (cc cs)) (hb : base ≤ w.heap.size) (hi : i ≤ cs.length) (hl : cs.length ≤ 1000000) :
    Calls Try.prog 110 #[v, .int .i64 i, .slice (some ⟨w.heap.size, 0, none⟩) 1 1] (w.alloc (.cells #[.string c.row, .string c.col, .int .i64 c.time, .bool c.gone, .string c.val] 91)) fun e w' => ∃ v', e = .returned v' ∧ w'.ownsRow base 91 5 v' (cs.take i ++ c :: cs.drop i).length (cc (cs.take i ++ c :: cs.drop i)) ∧ Below base w w' := by
  have hlen : (cs.take i ++ c :: cs.drop i).length = cs.length + 1 := by
    rw [List.length_append, List.length_cons, ← Nat.add_assoc, ← List.length_append, List.take_append_drop]
  rw [hlen]
  have hbA := below_alloc' w (.cells #[.string c.row, .string c.col, .int .i64 c.time, .bool c.gone, .string c.val] 91)
  have hbA' := hbA.mono hb
  have hvb : Bk (w.alloc (.cells #[.string c.row, .string c.col, .int .i64 c.time, .bool c.gone, .string c.val] 91)) w.heap.size 91 (ca c) := Bk.new _ _ _
  have hnew := RdC.new w c 91
  have ho1 := hown.alloc (.cells #[.string c.row, .string c.col, .int .i64 c.time, .bool c.gone, .string c.val] 91)
  have hz1 : base ≤ (w.alloc (.cells #[.string c.row, .string c.col, .int .i64 c.time, .bool c.gone, .string c.val] 91)).heap.size := by simp; omega
  have hlt := hown.lt
  generalize w.alloc (.cells #[.string c.row, .string c.col, .int .i64 c.time, .bool c.gone, .string c.val] 91) = w1 at *
  rcases Nat.lt_or_ge i cs.length with h | h
  · rcases ho1.2 with ⟨_, h0⟩ | ⟨g, cap, cur, rfl, hbg, hg, hnc, hcm, hcs, htk⟩
    · omega
    · have hgl := (hlt g rfl).2
      rcases Nat.lt_or_ge cap (cs.length + 1) with hr | hr
      · exact (insertGrow_any g cap cur cs i c base w.heap.size w1 hg hz1 htk h hnc hr hl hvb).mono fun _ _ ⟨v', h1, h2, h3⟩ => ⟨v', h1, h2, hbA'.trans h3⟩
      · exact (insertShift_any g cap cur cs i c base w.heap.size w1 hg hbg hcm hcs htk h hr hl hvb (by omega)).mono fun _ _ ⟨v', h1, h2, h3⟩ => ⟨v', h1, h2, hbA'.trans h3⟩
  · have e : i = cs.length := by omega
    subst e
    rw [List.take_length, List.drop_length]
    refine (insertEnd_any v cs c base w.heap.size w1 ho1 hz1 hl hnew).mono fun _ _ ⟨v', h1, h2, h3⟩ => ⟨v', h1, ?_, hbA'.trans h3⟩
    simpa using h2

set_option maxRecDepth 100000 in
set_option maxHeartbeats 2000000 in
theorem putIn_any (v u : Value) (cs news : List Cl) (base : Nat) (w : World) (hown : w.ownsRow base 91 5 v cs.length (cc cs)) (hb : base ≤ w.heap.size) (hp : cs.Pairwise Lt) (hl : cs.length + news.length ≤ 1000000) (hu : ∀ W, Below base w W → RdC W u news) :
    Calls Try.prog 85 #[v, u] w fun e w' => ∃ v', e = .returned v' ∧ w'.ownsRow base 91 5 v' (putL cs news).length (cc (putL cs news)) ∧ Below base w w' := by
  obtain ⟨uo, ucap, huu, hd1, hd2⟩ := (hu w (Below.refl _ _)).shape
  subst huu
  unfold maxLen at hd2
  have HU := hide hu
  have HP := hide hp
  clear hu hp
  go_enter Try.func85, Try.ntmps85
  go_wp2_with fail
  go_loopw [0, 11] (fun o iv wr => ∃ (k : Nat), k ≤ news.length ∧ iv = .int .i64 k ∧ wr.ownsRow base 91 5 o (putL cs (news.take k)).length (cc (putL cs (news.take k))) ∧ Below base w wr)
    (fun _ iv _ => news.length - (intOf iv).toNat)
  case atStart => exact ⟨0, by omega, rfl, hown, Below.refl _ _⟩
  case round =>
    obtain ⟨k, hk, rfl, hor, hbel⟩ := hrel
    have hzr : base ≤ wr.heap.size := Nat.le_trans hb hbel.size
    have hll := putL_len (news.take k) cs
    rw [List.length_take] at hll
    have HPL := hide (putL_pw (news.take k) cs HP.out)
    by_cases hlt : k < news.length
    · obtain ⟨c, hc⟩ : ∃ c, news[k]? = some c := ⟨_, List.getElem?_eq_getElem hlt⟩
      have HTK := hide (putL_take (l := cs) hc)
      obtain ⟨bb, off, rfl, hbb, hat⟩ := (HU.out wr hbel).hereD hc
      obtain ⟨c0, c1, c2, c3, c4⟩ := hat
      have hk1 : (0 : Int) ≤ (k : Int) := by omega
      have hk2 : (k : Int) < (news.length : Int) := by omega
      generalize putL cs (news.take k) = acc at *
      obtain ⟨oo, oc, hov⟩ := ownsC_shape hor
      subst hov
      have hT0 : Bk (wr.alloc (.cells #[.string c.row, .string c.col, .int .i64 c.time, .bool c.gone, .string c.val] 91)) wr.heap.size 91 (ca c) := Bk.new _ _ _
      have hb0 := below_alloc' wr (.cells #[.string c.row, .string c.col, .int .i64 c.time, .bool c.gone, .string c.val] 91)
      have HT0 := hide hT0
      have HB0 := hide hb0
      have HLTR := hide hor.lt
      clear hT0 hb0 hc
      go_upto_region 4 with fail
      have hor0 := owns_below hor HB0.out
      generalize wr.alloc (.cells #[.string c.row, .string c.col, .int .i64 c.time, .bool c.gone, .string c.val] 91) = w0 at *
      have hT0 := HT0.out
      have hbel0 := hbel.trans (HB0.out.mono hzr)
      obtain ⟨d0, d1, d2, d3, d4⟩ := hT0.at
      simp only [Nat.zero_add] at d1 d2 d3 d4
      clear c0 c1 c2 c3 c4 hor HB0 HT0 hbel
      go_wp2_with fail
      refine (bsearch_any _ acc c _ (RdC.ofOwns hor0) HPL.out (by omega)).mono ?_
      rintro e w2 ⟨i, hi, rfl, hb2, hlo, hhi⟩
      have hor2 := owns_below hor0 hb2
      have hT2 := hT0.below hb2 hT0.lt
      have hbel2 := hbel0.trans (hb2.mono (Nat.le_trans hb hbel0.size))
      have hz2 : base ≤ w2.heap.size := Nat.le_trans hb hbel2.size
      have HLO := hide hlo
      have HHI := hide hhi
      clear d0 d1 d2 d3 d4 hor0 hT0 hbel0 hb2 hlo hhi
      obtain ⟨d0, d1, d2, d3, d4⟩ := hT2.at
      simp only [Nat.zero_add] at d1 d2 d3 d4
      have hzT := hT2.lt
      have hla : acc.length ≤ 1000000 := by omega
      have hfd : (∃ x, acc[i]? = some x ∧ ordC x c = 0) ∨ (∀ x, acc[i]? = some x → ordC x c ≠ 0) := by
        cases h : acc[i]? with
        | none => exact .inr (fun x hx => by cases hx)
        | some x =>
          by_cases h0 : ordC x c = 0
          · exact .inl ⟨x, rfl, h0⟩
          · exact .inr (fun y hy => by cases hy; exact h0)
      rcases hfd with ⟨x, hx, h0⟩ | hno
      · have hil : i < acc.length := (List.getElem?_eq_some_iff.1 hx).1
        have HE := hide (mrg_instead HLO.out hx h0)
        have hbb : (ordC x c == 0) = true := by simp [h0]
        have hfb : fndB acc[i]? c = true := by rw [hx]; exact hbb
        rw [hfb]
        obtain ⟨g, rfl⟩ : ∃ g, oo = some ⟨g, 0, none⟩ := by
          rcases hor2.2 with ⟨_, h9⟩ | ⟨g, cap4, cur, h9, _⟩
          · omega
          · simp only [Value.slice.injEq] at h9
            exact ⟨g, h9.1⟩
        have hgl := hor2.lt g rfl
        have hgl0 := HLTR.out g rfl
        have hne : wr.heap.size ≠ g := by omega
        obtain ⟨b9, off9, he9, _, hat9⟩ := (RdC.ofOwns hor2).hereD hx
        simp only [Option.some.injEq, Addr.mk.injEq, and_true] at he9
        obtain ⟨rfl, rfl⟩ := he9
        rw [Nat.zero_add] at hat9
        obtain ⟨e0, e1, e2, e3, e4⟩ := hat9
        have r0 := hor2.frozenAt (i * 5)
        have r1 := hor2.frozenAt (i * 5 + 1)
        have r2 := hor2.frozenAt (i * 5 + 2)
        have r3 := hor2.frozenAt (i * 5 + 3)
        have r4 := hor2.frozenAt (i * 5 + 4)
        have s0 := (hor2.stored (i * 5) (.string c.row)).1
        have s1 := (s0.stored (i * 5 + 1) (.string c.col)).1
        have s2 := (s1.stored (i * 5 + 2) (.int .i64 c.time)).1
        have s3 := (s2.stored (i * 5 + 3) (.bool c.gone)).1
        have s4 := (s3.stored (i * 5 + 4) (.string c.val)).1
        rw [cc_set acc i c hil] at s4
        have HS4 := hide s4
        have hb5 := ((((hbel2.setCell (p := ⟨g, i * 5, none⟩) hgl.1 (.string c.row)).setCell (p := ⟨g, i * 5 + 1, none⟩) hgl.1 (.string c.col)).setCell (p := ⟨g, i * 5 + 2, none⟩) hgl.1 (.int .i64 c.time)).setCell (p := ⟨g, i * 5 + 3, none⟩) hgl.1 (.bool c.gone)).setCell (p := ⟨g, i * 5 + 4, none⟩) hgl.1 (.string c.val)
        have HB5 := hide hb5
        have hi1 : (0 : Int) ≤ (i : Int) := by omega
        have hi2 : (i : Int) < (acc.length : Int) := by omega
        clear s0 s1 s2 s3 s4 hb5 hor2 hx h0 hfb hbb
        go_wp2_with fail
        go_roundw
        case rel => exact ⟨k + 1, by omega, by go_num, by rw [HTK.out, HE.out, List.length_set]; exact HS4.out, HB5.out⟩
        case measure => simp [intOf]; omega
      · have HE := hide (mrg_insert HLO.out HHI.out hno)
        have hmf : fndB acc[i]? c = false := by
          cases h : acc[i]? with
          | none => rfl
          | some x => simpa [fndB] using hno x h
        rw [hmf]
        clear hmf hno
        go_wp2_with fail
        refine (insertC_any _ acc i c base _ hor2 hz2 hi hla).mono ?_
        rintro e w3 ⟨v3, rfl, ho3, hb3⟩
        generalize acc.take i ++ c :: acc.drop i = Y at *
        obtain ⟨o3, c3, hv3⟩ := ownsC_shape ho3
        subst hv3
        go_wp2_with fail
        go_roundw
        case rel => exact ⟨k + 1, by omega, by go_num, by rw [HTK.out, HE.out]; exact ho3, hbel2.trans hb3⟩
        case measure => simp [intOf]; omega
    · have hke : k = news.length := by omega
      subst hke
      rw [List.take_length] at hor
      go_wp2_with fail
      go_ret
      exact ⟨_, rfl, hor, hbel⟩

set_option maxRecDepth 100000 in
set_option maxHeartbeats 400000 in
/-- slices.Clone: the row is the call's own. -/
theorem Clone_own (v : Value) (cs : List Cl) (w : World) (hv : RdC w v cs) (hl : cs.length ≤ 1000000) :
    Calls Try.prog 84 #[v] w fun e w' => ∃ v', e = .returned v' ∧ w'.ownsRow w.heap.size 91 5 v' cs.length (cc cs) ∧ Below w.heap.size w w' := by
  obtain ⟨ao, cap, hvv, hc1, hc2, hnil, hcells⟩ := hv
  have hv : RdC w v cs := ⟨ao, cap, hvv, hc1, hc2, hnil, hcells⟩
  subst hvv
  have hl2 : 0 + cs.length ≤ 1000000000 := by omega
  cases ao with
  | none =>
    have hz := hnil rfl
    subst hz
    have he : cs = [] := List.eq_nil_of_length_eq_zero (by omega)
    subst he
    have heq : ∀ W, (binOp .eql 30 (.slice none 0 0) (.slice none 0 0)).run Try.prog W = .ok (.bool true) W := fun W => Lib.run_eql_slice_nil W _ _ none 0 0 0 0 Try.underlying30
    go_enter Try.func84, Try.ntmps84
    go_wp2_with fail
    go_ret
    exact ⟨_, rfl, World.ownsRow_nil _ _ _ _, Below.refl _ _⟩
  | some a =>
    have hown : (w.alloc (.cells #[] 91)).ownsRow w.heap.size 91 5 (.slice (some ⟨w.heap.size, 0, none⟩) 0 0) 0 (cc []) := World.ownsRow_made w #[] 0 (Nat.le_refl _) (by decide) rfl
    have hv1 := hv.alloc (.cells #[] 91)
    have hb8 : w.heap.size ≤ (w.alloc (.cells #[] 91)).heap.size := by simp
    have hbA := below_alloc' w (.cells #[] 91)
    clear hcells hnil
    have heq : ∀ W, (binOp .eql 30 (.slice (some a) cs.length cap) (.slice none 0 0)).run Try.prog W = .ok (.bool false) W := fun W => Lib.run_eql_slice_nil W _ _ (some a) cs.length cap 0 0 Try.underlying30
    go_enter Try.func84, Try.ntmps84
    go_wp2_with (at_builtin; go_must (refine wpList_append_rdC (cs := []) hown hv1 Try.underlying30 Try.info91 rfl rfl rfl rfl rfl hl2 (by decide) hb8 ?_); intro v1 w1 ho1 hb1 hg1; clear hg1)
    go_ret
    exact ⟨_, rfl, by simpa using ho1, hbA.trans hb1⟩

end Go.Proofs.Ytdodajalejfbiad

/-
  The walks over wal.notesFault and wal.Apply.
-/
namespace Go.Proofs.Ytdodajalejfbiad
open Go.RowKit

/-- What is wrong with notes. -/
def nfGo : List Nt → Nat → Int × Int
  | [], _ => (0, 0)
  | n :: r, i => if (noteF n.seq n.cells).1 ≠ 0 then ((noteF n.seq n.cells).1, (i : Int)) else nfGo r (i + 1)
def notesF (ns : List Nt) : Int × Int := if 1000 < ns.length then (2, -1) else nfGo ns 0

theorem nfGo_hit {ns : List Nt} {k : Nat} {n : Nt} (h : ns[k]? = some n) (h2 : (noteF n.seq n.cells).1 ≠ 0) : nfGo (ns.drop k) k = ((noteF n.seq n.cells).1, (k : Int)) := by
  obtain ⟨hk, e⟩ := List.getElem?_eq_some_iff.1 h
  rw [List.drop_eq_getElem_cons hk, e, nfGo, if_pos h2]
theorem nfGo_next {ns : List Nt} {k : Nat} {n : Nt} (h : ns[k]? = some n) (h2 : (noteF n.seq n.cells).1 = 0) : nfGo (ns.drop k) k = nfGo (ns.drop (k + 1)) (k + 1) := by
  obtain ⟨hk, e⟩ := List.getElem?_eq_some_iff.1 h
  rw [List.drop_eq_getElem_cons hk, e, nfGo, if_neg (by omega)]
theorem nfGo_zero : ∀ {ns : List Nt} {i : Nat}, (nfGo ns i).1 = 0 → nfGo ns i = (0, 0) ∧ ∀ n ∈ ns, (noteF n.seq n.cells).1 = 0
  | [], _, _ => ⟨rfl, by simp⟩
  | n :: r, i, h => by
    rw [nfGo] at h ⊢
    by_cases h1 : (noteF n.seq n.cells).1 = 0
    · rw [if_neg (by omega)] at h ⊢
      obtain ⟨h2, h3⟩ := nfGo_zero h
      exact ⟨h2, fun m hm => by
        rcases List.mem_cons.1 hm with rfl | hm
        · exact h1
        · exact h3 m hm⟩
    · rw [if_pos h1] at h
      exact absurd h h1
theorem notesF_zero {ns : List Nt} (h : (notesF ns).1 = 0) : notesF ns = (0, 0) ∧ ns.length ≤ 1000 ∧ ∀ n ∈ ns, (noteF n.seq n.cells).1 = 0 := by
  unfold notesF at h ⊢
  by_cases h1 : 1000 < ns.length
  · rw [if_pos h1] at h; simp at h
  · rw [if_neg h1] at h ⊢
    exact ⟨(nfGo_zero h).1, by omega, (nfGo_zero h).2⟩

set_option maxRecDepth 100000 in
set_option maxHeartbeats 1000000 in
theorem notesFault_any (v : Value) (ns : List Nt) (w : World) (hv : RdN w v ns) :
    Calls Try.prog 83 #[v] w fun e w' => e = .returned (fltC (notesF ns)) ∧ Below w.heap.size w w' := by
  obtain ⟨ao, cap, hvv, hc1, hc2⟩ := hv.shape
  subst hvv
  unfold maxLen at hc2
  go_enter Try.func83, Try.ntmps83
  by_cases hbig : 1000 < ns.length
  · have HE : Hid (notesF ns = (2, -1)) := hide (by rw [notesF, if_pos hbig])
    go_wp2_with fail
    exact bodyPost_ret (v := fltC (2, -1)) (by simp [results, Try.results83, go_sem, fltC]) rfl ⟨by rw [HE.out], by go_grown⟩
  have HE : Hid (notesF ns = nfGo ns 0) := hide (by rw [notesF, if_neg hbig])
  have hF0 := Bk.new w 28 #[.int .i64 0, .int .i64 0]
  have hb0 := below_alloc' w (.cells #[.int .i64 0, .int .i64 0] 28)
  have HF0 := hide hF0
  have HB0 := hide hb0
  have hz0 : (w.alloc (.cells #[.int .i64 0, .int .i64 0] 28)).heap.size = w.heap.size + 1 := by simp
  have HZ0 := hide hz0
  clear hF0 hb0 hz0
  go_wp2_with fail
  generalize w.alloc (.cells #[.int .i64 0, .int .i64 0] 28) = w0 at *
  have hF0 := HF0.out
  have hb0 := HB0.out
  have hz0 := HZ0.out
  clear HF0 HB0 HZ0
  go_loopw [12] (fun iv wr => ∃ (k : Nat), k ≤ ns.length ∧ iv = .int .i64 k ∧ nfGo (ns.drop k) k = nfGo ns 0 ∧ Below w0.heap.size w0 wr)
    (fun iv _ => ns.length - (intOf iv).toNat)
  case atStart => exact ⟨0, by omega, rfl, rfl, Below.refl _ _⟩
  case round =>
    obtain ⟨k, hk, rfl, hgo, hbel⟩ := hrel
    have HG := hide hgo
    clear hgo
    have hbw := hb0.trans (hbel.mono (by omega))
    have hzr := hbel.size
    have hFr := hF0.below hbel hF0.lt
    by_cases hlt : k < ns.length
    · obtain ⟨n, hn⟩ : ∃ n, ns[k]? = some n := ⟨_, List.getElem?_eq_getElem hlt⟩
      have HHIT := hide (@nfGo_hit ns k n hn)
      have HNXT := hide (@nfGo_next ns k n hn)
      obtain ⟨bb, off, u, rfl, hbb, k0, k1, hr⟩ := (hv.below hbw).hereD hn
      obtain ⟨s, cs⟩ := n
      simp only at k0 hr HHIT HNXT
      obtain ⟨uo, uc, huu, _, _⟩ := hr.shape
      subst huu
      have hk1 : (0 : Int) ≤ (k : Int) := by omega
      have hk2 : (k : Int) < (ns.length : Int) := by omega
      clear hn
      go_wp2_with fail
      refine (ownFault_any s _ cs _ (hr.alloc _)).mono ?_
      rintro e w2 ⟨rfl, hb2⟩
      have hb12 : Below wr.heap.size wr w2 := (below_alloc' _ _).trans (hb2.mono (by simp))
      have hbel2 := hbel.trans (hb12.mono hzr)
      have hF2 := hF0.below hbel2 hF0.lt
      have hbw2 := hb0.trans (hbel2.mono (by omega))
      have HNZ := hide (@noteF_zero s cs)
      clear k0 k1 hb2 hFr
      have f0 := hF2.cell 0
      have f1 := hF2.cell 1
      have f2 := hF2.frozen 0
      have f3 := hF2.frozen 1
      have hlF := hF2.lt
      simp at f0 f1
      generalize noteF s cs = NF at *
      obtain ⟨nx, ny⟩ := NF
      simp only at HNZ HHIT HNXT
      by_cases hx : nx = 0
      · subst hx
        have hny : ny = 0 := by have := (HNZ.out rfl).1; simpa using this
        subst hny
        have HN1 := hide (HNXT.out rfl)
        clear HHIT HNXT HNZ
        unfold fltC
        go_wp2_with fail
        go_roundw
        case rel => exact ⟨k + 1, by omega, by go_num, by rw [← HN1.out]; exact HG.out, hbel2.alloc (Nat.le_trans hzr hb12.size) _⟩
        case measure => simp [intOf]; omega
      · have HH1 := hide (HHIT.out hx)
        have hcb : (nx == 0) = false := beq_eq_false_iff_ne.2 hx
        have hcb2 : (nx != 0) = true := by simp [hx]
        clear HHIT HNXT HNZ
        unfold fltC
        go_wp2_with fail
        exact bodyPost_ret (v := fltC (nx, k)) (by simp [results, Try.results83, go_sem, fltC, f0, f1, hlF]) rfl ⟨by rw [HE.out, ← HG.out, HH1.out], by go_grown⟩
    · rw [List.drop_eq_nil_of_le (by omega)] at HG
      have f0 := hFr.cell 0
      have f1 := hFr.cell 1
      have f2 := hFr.frozen 0
      have f3 := hFr.frozen 1
      have hlF := hFr.lt
      simp at f0 f1
      go_wp2_with fail
      exact bodyPost_ret (v := fltC (0, 0)) (by simp [results, Try.results83, go_sem, fltC, f0, f1]) rfl ⟨by rw [HE.out, ← HG.out]; rfl, by go_grown⟩

end Go.Proofs.Ytdodajalejfbiad

/-
  The walk over wal.Apply.
-/
namespace Go.Proofs.Ytdodajalejfbiad
open Go.RowKit

theorem mrg_ge (c : Cl) : ∀ (l : List Cl), l.length ≤ (mrg l [c]).length
  | [] => by simp [mrg]
  | x :: l => by
    by_cases h1 : ordC x c < 0
    · rw [mrg_left h1]
      have := mrg_ge c l
      simp only [List.length_cons]
      omega
    · by_cases h2 : ordC x c = 0
      · rw [mrg_both h2, mrg_nil_right]
        simp
      · rw [mrg_right (by omega), mrg_nil_right]
        simp

theorem putL_ge : ∀ (cs l : List Cl), l.length ≤ (putL l cs).length
  | [], _ => Nat.le_refl _
  | c :: cs, l => Nat.le_trans (mrg_ge c l) (putL_ge cs (mrg l [c]))

/-- Notes that are put in, one behind the other. -/
def putN (l : List Cl) (ns : List Nt) : List Cl := ns.foldl (fun a n => putL a n.cells) l

theorem putN_take {l : List Cl} {ns : List Nt} {k : Nat} {n : Nt} (h : ns[k]? = some n) : putN l (ns.take (k + 1)) = putL (putN l (ns.take k)) n.cells := by
  rw [List.take_add_one, h]
  simp [putN]
theorem putN_append (l : List Cl) (a b : List Nt) : putN l (a ++ b) = putN (putN l a) b := by simp [putN]
theorem putN_pw : ∀ (ns : List Nt) (l : List Cl), l.Pairwise Lt → (putN l ns).Pairwise Lt
  | [], _, h => h
  | n :: ns, l, h => putN_pw ns _ (putL_pw n.cells l h)
theorem putN_ge : ∀ (ns : List Nt) (l : List Cl), l.length ≤ (putN l ns).length
  | [], _ => Nat.le_refl _
  | n :: ns, l => Nat.le_trans (putL_ge n.cells l) (putN_ge ns _)
theorem putN_mono {l : List Cl} {ns : List Nt} (k : Nat) : (putN l (ns.take k)).length ≤ (putN l ns).length := by
  have h := putN_ge (ns.drop k) (putN l (ns.take k))
  rwa [← putN_append, List.take_append_drop] at h

/-- What Apply comes to. -/
def applyR (l : List Cl) (ns : List Nt) : List Cl × (Int × Int) :=
  if (checkC l).1 ≠ 0 then ([], checkC l) else if (notesF ns).1 ≠ 0 then ([], notesF ns) else if 1000 < (putN l ns).length then ([], (9, -1)) else (putN l ns, (0, 0))

theorem applyR_cells {l : List Cl} {ns : List Nt} (h : (checkC l).1 ≠ 0) : applyR l ns = ([], checkC l) := by rw [applyR, if_pos h]
theorem applyR_notes {l : List Cl} {ns : List Nt} (h : (checkC l).1 = 0) (h2 : (notesF ns).1 ≠ 0) : applyR l ns = ([], notesF ns) := by rw [applyR, if_neg (by omega), if_pos h2]
theorem applyR_much {l : List Cl} {ns : List Nt} (h : (checkC l).1 = 0) (h2 : (notesF ns).1 = 0) (h3 : 1000 < (putN l ns).length) : applyR l ns = ([], (9, -1)) := by rw [applyR, if_neg (by omega), if_neg (by omega), if_pos h3]
theorem applyR_ok {l : List Cl} {ns : List Nt} (h : (checkC l).1 = 0) (h2 : (notesF ns).1 = 0) (h3 : ¬ 1000 < (putN l ns).length) : applyR l ns = (putN l ns, (0, 0)) := by rw [applyR, if_neg (by omega), if_neg (by omega), if_neg h3]

set_option maxRecDepth 100000 in
set_option maxHeartbeats 2000000 in
theorem Apply_any (v u : Value) (l : List Cl) (ns : List Nt) (w : World) (hv : RdC w v l) (hu : RdN w u ns) :
    Calls Try.prog 45 #[v, u] w fun e w' => ∃ v', e = .returned (.tuple #[v', fltC (applyR l ns).2]) ∧ RdC w' v' (applyR l ns).1 ∧ Below w.heap.size w w' ∧ New w.heap.size v' := by
  obtain ⟨ao, cap, hvv, hc1, hc2⟩ := hv.shape
  subst hvv
  unfold maxLen at hc2
  obtain ⟨uo, ucap, huu, hd1, hd2⟩ := hu.shape
  subst huu
  unfold maxLen at hd2
  go_enter Try.func45, Try.ntmps45
  go_wp2_with fail
  have hF0 := Bk.new w 28 #[.int .i64 0, .int .i64 0]
  refine (CCheck_any _ l _ (hv.alloc _)).mono ?_
  rintro e w1 ⟨rfl, hb1⟩
  have hF1 := hF0.below hb1 (by simp)
  have hbw1 : Below w.heap.size w w1 := (below_alloc' _ _).trans (hb1.mono (by simp))
  have hz1 := hF1.lt
  clear hF0 hb1
  have f0 := hF1.cell 0
  have f1 := hF1.cell 1
  have f2 := hF1.frozen 0
  have f3 := hF1.frozen 1
  simp at f0 f1
  have HAC := hide (@applyR_cells l ns)
  have HAN := hide (@applyR_notes l ns)
  have HAM := hide (@applyR_much l ns)
  have HAO := hide (@applyR_ok l ns)
  have HCZ := hide (@checkC_zero l)
  have HPW := hide (@fine_pw l)
  have HLN := hide (@fine_len l)
  generalize checkC l = CC at *
  obtain ⟨cx, cy⟩ := CC
  simp only at HAC HAN HAM HAO HCZ HPW HLN
  by_cases hx : cx = 0
  case neg =>
    have HE := hide (HAC.out hx)
    have hcb : (cx == 0) = false := beq_eq_false_iff_ne.2 hx
    have hcb2 : (cx != 0) = true := by simp [hx]
    clear HAC HAN HAM HAO HCZ HPW HLN
    unfold fltC
    go_wp2_with fail
    go_region
    all_goals
      go_wp2_with fail
      exact bodyPost_ret (v := .tuple #[.slice none 0 0, fltC (cx, cy)]) (by simp [results, Try.results45, go_sem, fltC, f0, f1, hz1]) rfl ⟨.slice none 0 0, by rw [HE.out], by rw [HE.out]; exact RdC.nil _, by go_grown, New.nil _⟩
  subst hx
  have hcy : cy = 0 := by have := HCZ.out rfl; simpa using this
  subst hcy
  have hpw := HPW.out rfl
  have hln := HLN.out rfl
  have HPW1 := hide hpw
  have HAN1 := hide (fun h => HAN.out rfl h)
  have HAM1 := hide (fun h => HAM.out rfl h)
  have HAO1 := hide (fun h => HAO.out rfl h)
  clear HAC HAN HAM HAO HCZ HPW HLN hpw
  unfold fltC
  go_upto_region 4 with fail
  have hbA := below_alloc' w1 (.cells #[.int .i64 0, .int .i64 0] 28)
  have hF2 := hF1.below hbA hF1.lt
  have hbw2 := hbw1.trans (hbA.mono hbw1.size)
  generalize w1.alloc (.cells #[.int .i64 0, .int .i64 0] 28) = w2 at *
  clear hbA hF1 hbw1 f0 f1 f2 f3
  go_wp2_with fail
  refine (notesFault_any _ ns _ (hu.below hbw2)).mono ?_
  rintro e w3 ⟨rfl, hb3⟩
  have hF3 := hF2.below hb3 hF2.lt
  have hbw3 := hbw2.trans (hb3.mono hbw2.size)
  have hz3 := hF3.lt
  clear hF2 hb3 hbw2
  have f0 := hF3.cell 0
  have f1 := hF3.cell 1
  have f2 := hF3.frozen 0
  have f3 := hF3.frozen 1
  simp at f0 f1
  have HNZ := hide (@notesF_zero ns)
  generalize notesF ns = NF at *
  obtain ⟨nx, ny⟩ := NF
  simp only at HNZ HAN1 HAM1 HAO1
  by_cases hx : nx = 0
  case neg =>
    have HE := hide (HAN1.out hx)
    have hcb : (nx == 0) = false := beq_eq_false_iff_ne.2 hx
    have hcb2 : (nx != 0) = true := by simp [hx]
    clear HAN1 HAM1 HAO1 HNZ
    unfold fltC
    go_wp2_with fail
    go_region
    all_goals
      go_wp2_with fail
      exact bodyPost_ret (v := .tuple #[.slice none 0 0, fltC (nx, ny)]) (by simp [results, Try.results45, go_sem, fltC, f0, f1, hz3]) rfl ⟨.slice none 0 0, by rw [HE.out], by rw [HE.out]; exact RdC.nil _, by go_grown, New.nil _⟩
  subst hx
  obtain ⟨hny, hnl, hfine⟩ := HNZ.out rfl
  have hny0 : ny = 0 := by simpa using hny
  subst hny0
  have HFI := hide hfine
  have HAM2 := hide (HAM1.out rfl)
  have HAO2 := hide (HAO1.out rfl)
  clear HAN1 HAM1 HAO1 HNZ hny hfine
  unfold fltC
  go_upto_region 7 with fail
  have hbA := below_alloc' w3 (.cells #[.int .i64 0, .int .i64 0] 28)
  have hF4 := hF3.below hbA hF3.lt
  have hbw4 := hbw3.trans (hbA.mono hbw3.size)
  generalize w3.alloc (.cells #[.int .i64 0, .int .i64 0] 28) = w4 at *
  clear hbA hF3 hbw3 f0 f1 f2 f3
  go_wp2_with fail
  refine (Clone_own _ l _ (hv.below hbw4) (by omega)).mono ?_
  rintro e w5 ⟨v5, rfl, ho5, hb5⟩
  have hz45 := hb5.size
  have hz4 := hF4.lt
  have hzw := hbw4.size
  go_wp2_with fail
  go_loopw [8, 27] (fun o iv wr => ∃ (k : Nat), k ≤ ns.length ∧ iv = .int .i64 k ∧ (putN l (ns.take k)).length ≤ 1000 ∧ wr.ownsRow w4.heap.size 91 5 o (putN l (ns.take k)).length (cc (putN l (ns.take k))) ∧ Below w4.heap.size w4 wr)
    (fun _ iv _ => ns.length - (intOf iv).toNat)
  case atStart => exact ⟨0, by omega, rfl, hln, ho5, hb5⟩
  case round =>
    obtain ⟨k, hk, rfl, hlk, hor, hbel⟩ := hrel
    have hzr := hbel.size
    have hbw := hbw4.trans (hbel.mono hzw)
    have hFr := hF4.below hbel hF4.lt
    have HPL := hide (putN_pw (ns.take k) l HPW1.out)
    by_cases hlt : k < ns.length
    · obtain ⟨n, hn⟩ : ∃ n, ns[k]? = some n := ⟨_, List.getElem?_eq_getElem hlt⟩
      have HTK := hide (putN_take (l := l) hn)
      have hfn := noteF_zero (HFI.out n (List.mem_of_getElem? hn))
      have hn20 := hfn.2.2.2.2.1
      have HMO := hide (@putN_mono l ns (k + 1))
      obtain ⟨bb, off, x, rfl, hbb, j0, j1, hr⟩ := (hu.below hbw4).hereD hn
      have k0 := cell_belowC j0 hbel
      have k1 := cell_belowC j1 hbel
      have hbr : bb < wr.heap.size := by omega
      have HR4 := hide hr
      clear j0 j1
      obtain ⟨s, cs⟩ := n
      simp only at k0 hr HTK hn20 HR4
      obtain ⟨xo, xc, hxx, _, _⟩ := hr.shape
      subst hxx
      have hk1 : (0 : Int) ≤ (k : Int) := by omega
      have hk2 : (k : Int) < (ns.length : Int) := by omega
      clear hn hfn
      generalize putN l (ns.take k) = acc at *
      obtain ⟨oo, oc, hov⟩ := ownsC_shape hor
      subst hov
      have hbA := below_alloc' wr (.cells #[.int .i64 s, .slice xo cs.length xc] 41)
      have horA := owns_below hor hbA
      have hbelA := hbel.trans (hbA.mono hzr)
      go_wp2_with fail
      refine (putIn_any _ _ acc cs w4.heap.size _ horA hbelA.size HPL.out (by omega) (fun W hW => HR4.out.below (hbelA.trans hW))).mono ?_
      rintro e w6 ⟨v6, rfl, ho6, hb6⟩
      have hbel6 := hbelA.trans hb6
      have hF6 := hF4.below hbel6 hF4.lt
      have hbw6 := hbw4.trans (hbel6.mono hzw)
      have hz6 := hF6.lt
      rw [← HTK.out] at ho6
      clear k0 k1 horA hbelA hbA hor hFr HTK
      obtain ⟨Y, hY⟩ : ∃ Y, putN l (ns.take (k + 1)) = Y := ⟨_, rfl⟩
      rw [hY] at ho6 HMO
      have HY := hide hY
      clear hY
      obtain ⟨o6, c6, hv6⟩ := ownsC_shape ho6
      subst hv6
      have f0 := hF6.cell 0
      have f1 := hF6.cell 1
      have f2 := hF6.frozen 0
      have f3 := hF6.frozen 1
      simp at f0 f1
      by_cases hm : 1000 < Y.length
      · have HE := hide (HAM2.out (Nat.lt_of_lt_of_le hm HMO.out))
        have hm' : (1000 : Int) < (Y.length : Int) := by omega
        go_wp2_with fail
        exact bodyPost_ret (v := .tuple #[.slice none 0 0, fltC (9, -1)]) (by simp [results, Try.results45, go_sem, fltC, f0, f1]) rfl ⟨.slice none 0 0, by rw [HE.out], by rw [HE.out]; exact RdC.nil _, by go_grown, New.nil _⟩
      · have hm' : ¬ (1000 : Int) < (Y.length : Int) := by omega
        go_wp2_with fail
        go_roundw
        case rel => exact ⟨k + 1, by omega, by go_num, by rw [HY.out]; omega, by rw [HY.out]; exact ho6, hbel6⟩
        case measure => simp [intOf]; omega
    · have hke : k = ns.length := by omega
      subst hke
      rw [List.take_length] at hor hlk
      have HE := hide (HAO2.out (by omega))
      obtain ⟨oo, oc, hov⟩ := ownsC_shape hor
      subst hov
      have f0 := hFr.cell 0
      have f1 := hFr.cell 1
      have f2 := hFr.frozen 0
      have f3 := hFr.frozen 1
      have hzF := hFr.lt
      simp at f0 f1
      go_wp2_with fail
      refine bodyPost_ret (v := .tuple #[.slice oo (putN l ns).length oc, fltC (0, 0)]) (by simp [results, Try.results45, go_sem, fltC, f0, f1]) rfl ⟨_, by rw [HE.out], ?_, by go_grown, (New.owns hor).mono (by omega)⟩
      rw [HE.out]
      exact RdC.ofOwns (ownsRow_setCell_below (ownsRow_setCell_below hor (by simp only; omega) _) (by simp only; omega) _)

end Go.Proofs.Ytdodajalejfbiad

/-
  The walk over the document's PutCell.
-/
namespace Go.Proofs.Ytdodajalejfbiad
open Go.RowKit

theorem RdC.grownNone {w w' : World} {v : Value} {cs : List Cl} (h : RdC w v cs) (hg : w.grownBy w' none) : RdC w' v cs :=
  h.below ⟨hg.os, hg.tape, hg.output, hg.size, fun k hk => hg.block k hk (by simp)⟩

theorem lt_alloc (w : World) (o : Obj) : w.heap.size < (w.alloc o).heap.size := by simp

set_option maxRecDepth 100000 in
set_option maxHeartbeats 4000000 in
theorem PutCell_any (v : Value) (cs : List Cl) (c : Cl) (w : World) (hv : RdC w v cs) (hp : cs.Pairwise Lt) (hl : cs.length ≤ 100000) :
    Calls Try.prog 111 #[v, cA c] w fun e w' => ∃ v', e = .returned v' ∧ RdC w' v' (mrg cs [c]) ∧ Below w.heap.size w w' := by
  obtain ⟨ao, cap, hvv, hc1, hc2⟩ := hv.shape
  subst hvv
  unfold maxLen at hc2
  unfold cA
  have HP := hide hp
  clear hp
  go_enter Try.func111, Try.ntmps111
  go_wp2_with fail
  have hC0 : Bk (w.alloc (.cells #[.string c.row, .string c.col, .int .i64 c.time, .bool c.gone, .string c.val] 91)) w.heap.size 91 (ca c) := Bk.new w _ _
  have hbC := below_alloc' w (.cells #[.string c.row, .string c.col, .int .i64 c.time, .bool c.gone, .string c.val] 91)
  have hzA : (w.alloc (.cells #[.string c.row, .string c.col, .int .i64 c.time, .bool c.gone, .string c.val] 91)).heap.size = w.heap.size + 1 := by simp
  generalize w.alloc (.cells #[.string c.row, .string c.col, .int .i64 c.time, .bool c.gone, .string c.val] 91) = wA at hC0 hbC hzA ⊢
  go_loopw [5] (fun i wr => ∃ k : Nat, k ≤ cs.length ∧ i = .int .i64 k ∧ (∀ x ∈ cs.take k, Lt x c) ∧ Below wA.heap.size wA wr)
    (fun i _ => cs.length - (intOf i).toNat)
  case atStart => exact ⟨0, by omega, rfl, by simp, Below.refl _ _⟩
  case round =>
    obtain ⟨k, hk, rfl, hbefore, hbel⟩ := hrel
    have HB := hide hbefore
    clear hbefore
    have hzr := hbel.size
    have hbw : Below w.heap.size w wr := hbC.trans (hbel.mono (by omega))
    have hk1 : (0 : Int) ≤ (k : Int) := by omega
    by_cases hlt : k < cs.length
    · obtain ⟨x, hx⟩ : ∃ x, cs[k]? = some x := ⟨_, List.getElem?_eq_getElem hlt⟩
      obtain ⟨b, off, rfl, _, hxk⟩ := hv.hereD hx
      have hk2 : (k : Int) < (cs.length : Int) := by omega
      have hd1 : decide ((k : Int) < (cs.length : Int)) = true := by simp; omega
      have hd2 : decide (k < cs.length) = true := by simp; omega
      have hkeep : ∀ W, Below wA.heap.size wA W → (W.cell? ⟨w.heap.size, 0, none⟩ = some (.string c.row) ∧ W.cell? ⟨w.heap.size, 1, none⟩ = some (.string c.col) ∧ W.cell? ⟨w.heap.size, 2, none⟩ = some (.int .i64 c.time) ∧ W.cell? ⟨w.heap.size, 3, none⟩ = some (.bool c.gone) ∧ W.cell? ⟨w.heap.size, 4, none⟩ = some (.string c.val)) ∧ (W.cell? ⟨b, off + k * 5, none⟩ = some (.string x.row) ∧ W.cell? ⟨b, off + k * 5 + 1, none⟩ = some (.string x.col) ∧ W.cell? ⟨b, off + k * 5 + 2, none⟩ = some (.int .i64 x.time) ∧ W.cell? ⟨b, off + k * 5 + 3, none⟩ = some (.bool x.gone) ∧ W.cell? ⟨b, off + k * 5 + 4, none⟩ = some (.string x.val)) := fun W h => by
        obtain ⟨c0, c1, c2, c3, c4⟩ := (hC0.below h (by omega)).facts
        obtain ⟨d0, d1, d2, d3, d4⟩ := hxk.below (hbC.trans (h.mono (by omega)))
        exact ⟨⟨c0, c1, c2, c3, c4⟩, d0, d1, d2, d3, d4⟩
      have HK := hide hkeep
      obtain ⟨⟨c0, c1, c2, c3, c4⟩, d0, d1, d2, d3, d4⟩ := hkeep wr hbel
      have HX := hide hx
      clear hkeep hx hxk
      cases h7 : aheadB x c
      · have HNL : Hid (¬ Lt x c) := hide (fun h => by rw [aheadB_iff.2 h] at h7; cases h7)
        have hspl : cs = cs.take k ++ x :: cs.drop (k + 1) := by
          have e := (List.getElem?_eq_some_iff.1 HX.out).2
          rw [← e, ← List.drop_eq_getElem_cons hlt, List.take_append_drop]
        have HSPL := hide hspl
        clear hspl
        go_wp2_with fail
        go_region_held3 (fun W => (W.cell? ⟨w.heap.size, 0, none⟩ = some (.string c.row) ∧ W.cell? ⟨w.heap.size, 1, none⟩ = some (.string c.col) ∧ W.cell? ⟨w.heap.size, 2, none⟩ = some (.int .i64 c.time) ∧ W.cell? ⟨w.heap.size, 3, none⟩ = some (.bool c.gone) ∧ W.cell? ⟨w.heap.size, 4, none⟩ = some (.string c.val)) ∧ (W.cell? ⟨b, off + k * 5, none⟩ = some (.string x.row) ∧ W.cell? ⟨b, off + k * 5 + 1, none⟩ = some (.string x.col) ∧ W.cell? ⟨b, off + k * 5 + 2, none⟩ = some (.int .i64 x.time) ∧ W.cell? ⟨b, off + k * 5 + 3, none⟩ = some (.bool x.gone) ∧ W.cell? ⟨b, off + k * 5 + 4, none⟩ = some (.string x.val))) (exact HK.out _ (by go_grown)) (first
          | (go_at_call 87; refine (Ahead_any x c _).mono ?_; rintro e w2 ⟨rfl, hb2⟩; rw [h7]; have hb12 : Below wA.heap.size wA w2 := Below.trans (by go_grown) (hb2.mono hzr)))
        have hz12 := hb12.size
        clear c0 c1 c2 c3 c4 d0 d1 d2 d3 d4
        obtain ⟨⟨c0, c1, c2, c3, c4⟩, d0, d1, d2, d3, d4⟩ := HK.out w2 hb12
        cases h8 : aheadB c x
        · have HSM := hide (Lt_total HNL.out (fun h => by rw [aheadB_iff.2 h] at h8; cases h8))
          go_wp2_with fail
          go_region_held3 (fun W => (W.cell? ⟨w.heap.size, 0, none⟩ = some (.string c.row) ∧ W.cell? ⟨w.heap.size, 1, none⟩ = some (.string c.col) ∧ W.cell? ⟨w.heap.size, 2, none⟩ = some (.int .i64 c.time) ∧ W.cell? ⟨w.heap.size, 3, none⟩ = some (.bool c.gone) ∧ W.cell? ⟨w.heap.size, 4, none⟩ = some (.string c.val)) ∧ (W.cell? ⟨b, off + k * 5, none⟩ = some (.string x.row) ∧ W.cell? ⟨b, off + k * 5 + 1, none⟩ = some (.string x.col) ∧ W.cell? ⟨b, off + k * 5 + 2, none⟩ = some (.int .i64 x.time) ∧ W.cell? ⟨b, off + k * 5 + 3, none⟩ = some (.bool x.gone) ∧ W.cell? ⟨b, off + k * 5 + 4, none⟩ = some (.string x.val))) (exact HK.out _ (by go_grown)) (first
            | (go_at_call 87; refine (Ahead_any c x _).mono ?_; rintro e w3 ⟨rfl, hb3⟩; rw [h8]; have hb13 : Below wA.heap.size wA w3 := Below.trans (by go_grown) (hb3.mono hz12)))
          have hz13 := hb13.size
          have hbw3 : Below w.heap.size w w3 := hbC.trans (hb13.mono (by omega))
          clear c0 c1 c2 c3 c4 d0 d1 d2 d3 d4
          obtain ⟨⟨c0, c1, c2, c3, c4⟩, d0, d1, d2, d3, d4⟩ := HK.out w3 hb13
          have hl1 : 0 + cs.length ≤ 1000000000 := by omega
          have HV := hide (hv.below hbw3)
          go_upto_region 6 with (at_builtin; go_must (refine wpList_append_rdC (cs := []) (World.ownsRow_nil w3 w3.heap.size 91 5) HV.out Try.underlying30 Try.info91 rfl rfl rfl rfl rfl hl1 (by decide) (Nat.le_refl _) ?_); intro v4 w4 ho4 hb4 hg4; clear hg4; rw [Nat.zero_add, List.nil_append] at ho4)
          obtain ⟨g, cap4, rfl⟩ : ∃ g cap4, v4 = .slice (some ⟨g, 0, none⟩) cs.length cap4 := by
            rcases ho4.2 with ⟨_, h0⟩ | ⟨g, cap4, cur, h0, _⟩
            · omega
            · exact ⟨g, cap4, h0⟩
          have hgl := ho4.lt g rfl
          obtain ⟨c0, c1, c2, c3, c4⟩ := (HK.out w4 (hb13.trans (hb4.mono hz13))).1
          have hne : w.heap.size ≠ g := by omega
          obtain ⟨b9, off9, he9, _, hat9⟩ := (RdC.ofOwns ho4).hereD HX.out
          simp only [Option.some.injEq, Addr.mk.injEq, and_true] at he9
          obtain ⟨rfl, rfl⟩ := he9
          rw [Nat.zero_add] at hat9
          obtain ⟨e0, e1, e2, e3, e4⟩ := hat9
          have r0 := ho4.frozenAt (k * 5)
          have r1 := ho4.frozenAt (k * 5 + 1)
          have r2 := ho4.frozenAt (k * 5 + 2)
          have r3 := ho4.frozenAt (k * 5 + 3)
          have r4 := ho4.frozenAt (k * 5 + 4)
          have s0 := (ho4.stored (k * 5) (.string c.row)).1
          have s1 := (s0.stored (k * 5 + 1) (.string c.col)).1
          have s2 := (s1.stored (k * 5 + 2) (.int .i64 c.time)).1
          have s3 := (s2.stored (k * 5 + 3) (.bool c.gone)).1
          have s4 := (s3.stored (k * 5 + 4) (.string c.val)).1
          rw [cc_set cs k c hlt] at s4
          have HS4 := hide s4
          have hb5 := ((((hb4.setCell (p := ⟨g, k * 5, none⟩) hgl.1 (.string c.row)).setCell (p := ⟨g, k * 5 + 1, none⟩) hgl.1 (.string c.col)).setCell (p := ⟨g, k * 5 + 2, none⟩) hgl.1 (.int .i64 c.time)).setCell (p := ⟨g, k * 5 + 3, none⟩) hgl.1 (.bool c.gone)).setCell (p := ⟨g, k * 5 + 4, none⟩) hgl.1 (.string c.val)
          have HB5 := hide (hbw3.trans (hb5.mono hbw3.size))
          have HE : Hid (mrg cs [c] = cs.set k c) := hide (by
            have h1 := mrg_put (r := cs.drop (k + 1)) HB.out HSM.out
            rw [← HSPL.out] at h1
            rw [h1, List.set_eq_take_append_cons_drop, if_pos hlt])
          clear s0 s1 s2 s3 s4 hb5 ho4
          go_wp2_with fail
          go_ret
          exact ⟨_, rfl, by rw [HE.out]; exact RdC.ofOwns HS4.out, HB5.out⟩
        · have HLT := hide (aheadB_iff.1 h8)
          have HE : Hid (mrg cs [c] = cs.take k ++ [c] ++ cs.drop k) := hide (by
            have h1 := mrg_ins (r := cs.drop (k + 1)) HB.out HLT.out
            rw [← HSPL.out] at h1
            rw [h1, List.append_assoc, List.drop_eq_getElem_cons hlt, (List.getElem?_eq_some_iff.1 HX.out).2]
            rfl)
          have hs1 := run_slice_uptoC (P := Try.prog) Try.underlying30 (by kernel_rfl) Try.info91 (some ⟨b, off, none⟩) cs.length cap k (k : Int) rfl (by omega)
          have hs2 := run_slice_fromC (P := Try.prog) Try.underlying30 (by kernel_rfl) Try.info91 (some ⟨b, off, none⟩) cs.length cap k (k : Int) rfl (by omega)
          have hV1 := hv.uptoC (hi := k) (by omega)
          have hV2 := hv.from (lo := k) (by omega)
          generalize hg1 : Go.sliced (some ⟨b, off, none⟩) 0 k cap 5 = V1 at hs1 hV1
          generalize hg2 : Go.sliced (some ⟨b, off, none⟩) k cs.length cap 5 = V2 at hs2 hV2
          clear hg1 hg2
          have hlA : (cs.take k).length + (cs.drop k).length ≤ 100000 := by rw [← List.length_append, List.take_append_drop]; exact hl
          obtain ⟨vo1, vc1, hw1, _, _⟩ := hV1.shape
          obtain ⟨vo2, vc2, hw2, _, _⟩ := hV2.shape
          generalize cs.take k = A at hV1 hlA hw1 HE
          generalize cs.drop k = B at hV2 hlA hw2 HE
          subst hw1 hw2
          have hV1w := hV1
          have hV2w := hV2
          clear hV1 hV2
          go_wp2_with fail
          go_region_held3 (fun W => (W.cell? ⟨w.heap.size, 0, none⟩ = some (.string c.row) ∧ W.cell? ⟨w.heap.size, 1, none⟩ = some (.string c.col) ∧ W.cell? ⟨w.heap.size, 2, none⟩ = some (.int .i64 c.time) ∧ W.cell? ⟨w.heap.size, 3, none⟩ = some (.bool c.gone) ∧ W.cell? ⟨w.heap.size, 4, none⟩ = some (.string c.val)) ∧ (W.cell? ⟨b, off + k * 5, none⟩ = some (.string x.row) ∧ W.cell? ⟨b, off + k * 5 + 1, none⟩ = some (.string x.col) ∧ W.cell? ⟨b, off + k * 5 + 2, none⟩ = some (.int .i64 x.time) ∧ W.cell? ⟨b, off + k * 5 + 3, none⟩ = some (.bool x.gone) ∧ W.cell? ⟨b, off + k * 5 + 4, none⟩ = some (.string x.val))) (exact HK.out _ (by go_grown)) (first
            | (go_at_call 87; refine (Ahead_any c x _).mono ?_; rintro e wx ⟨rfl, hb3⟩; rw [h8]; have hb13 : Below wA.heap.size wA wx := Below.trans (by go_grown) (hb3.mono hz12)))
          have hz13 := hb13.size
          have hbw0 : Below w.heap.size w wx := hbC.trans (hb13.mono (by omega))
          have hzx : w.heap.size ≤ wx.heap.size := hbw0.size
          clear c0 c1 c2 c3 c4 d0 d1 d2 d3 d4
          have hkc2 : ∀ W, Below wx.heap.size wx W → W.cell? ⟨w.heap.size, 0, none⟩ = some (.string c.row) ∧ W.cell? ⟨w.heap.size, 1, none⟩ = some (.string c.col) ∧ W.cell? ⟨w.heap.size, 2, none⟩ = some (.int .i64 c.time) ∧ W.cell? ⟨w.heap.size, 3, none⟩ = some (.bool c.gone) ∧ W.cell? ⟨w.heap.size, 4, none⟩ = some (.string c.val) := fun W h => (HK.out W (hb13.trans (h.mono hz13))).1
          obtain ⟨c0, c1, c2, c3, c4⟩ := hkc2 wx (Below.refl _ _)
          have HKC := hide hkc2
          have HV1 := hide (hV1w.below hbw0)
          have HV2 := hide (hV2w.below hbw0)
          clear hkc2 hV1w hV2w
          have hl1 : 0 + A.length ≤ 1000000000 := by omega
          have hl2 : A.length + [c].length ≤ 1000000000 := by simp; omega
          have hl3 : A.length + 1 + B.length ≤ 1000000000 := by omega
          go_upto_region 8 with fail
          go_region_held3 (fun W => W.cell? ⟨w.heap.size, 0, none⟩ = some (.string c.row) ∧ W.cell? ⟨w.heap.size, 1, none⟩ = some (.string c.col) ∧ W.cell? ⟨w.heap.size, 2, none⟩ = some (.int .i64 c.time) ∧ W.cell? ⟨w.heap.size, 3, none⟩ = some (.bool c.gone) ∧ W.cell? ⟨w.heap.size, 4, none⟩ = some (.string c.val)) (exact HKC.out _ (by go_grown)) (first
            | (have k9 := ho2; refine step_append_rdC k9 (by exact HV2.out.below hbx2) Try.underlying30 Try.info91 rfl (by rfl) (by rfl) (by rfl) (by rfl) hl3 (by decide) (by exact hbx2.size) ?_; intro v3 w3 ho3 hb3 hg3; have hbx3 := hbx2.trans hb3; have hzx3 := hbx3.size; obtain ⟨ao3, cap3, hv3⟩ := ownsC_shape ho3; subst hv3)
            | (have k9 := ho1; refine step_append_rdC (k9.alloc _) (RdC.new w1 c _) Try.underlying30 Try.info91 rfl (by rfl) (by rfl) (by rfl) (by rfl) hl2 (by decide) (by exact Nat.le_trans hbx1.size (Nat.le_of_lt (lt_alloc w1 _))) ?_; intro v2 w2 ho2 hb2 hg2; rw [List.length_singleton] at ho2; have hbx2 := (hbx1.alloc hbx1.size (.cells #[.string c.row, .string c.col, .int .i64 c.time, .bool c.gone, .string c.val] 91)).trans hb2; have hzx2 := hbx2.size; obtain ⟨ao2, cap2, hv2⟩ := ownsC_shape ho2; subst hv2)
            | (have k9 := hN1; refine step_append_rdC ho1 k9 Try.underlying30 Try.info91 rfl (by rfl) (by rfl) (by rfl) (by rfl) hl2 (by decide) (by exact hbx1.size) ?_; intro v2 w2 ho2 hb2 hg2; rw [List.length_singleton] at ho2; have hbx2 := hbx1.trans hb2; have hzx2 := hbx2.size; obtain ⟨ao2, cap2, hv2⟩ := ownsC_shape ho2; subst hv2)
            | (refine step_append_rdC (cs := []) (World.ownsRow_nil _ wx.heap.size _ _) (by exact HV1.out) Try.underlying30 Try.info91 rfl (by rfl) (by rfl) (by rfl) (by rfl) hl1 (by decide) (by exact Nat.le_refl _) ?_; intro v1 w1 ho1 hb1 hg1; rw [Nat.zero_add, List.nil_append] at ho1; have hbx1 : Below wx.heap.size wx w1 := Below.trans (by go_grown) hb1; have hzx1 := hbx1.size; obtain ⟨ao1, cap1, hv1⟩ := ownsC_shape ho1; subst hv1)
            | (refine step_append_rdC (cs := []) (World.ownsRow_nil _ wx.heap.size _ _) (by exact HV1.out.alloc _) Try.underlying30 Try.info91 rfl (by rfl) (by rfl) (by rfl) (by rfl) hl1 (by decide) (by exact Nat.le_of_lt (lt_alloc wx _)) ?_; intro v1 w1 ho1 hb1 hg1; rw [Nat.zero_add, List.nil_append] at ho1; have hbx1 : Below wx.heap.size wx w1 := Below.trans (by go_grown) hb1; have hzx1 := hbx1.size; have hN1 : RdC w1 (.slice (some ⟨wx.heap.size, 0, none⟩) 1 1) [c] := RdC.grownNone (w := (wx.alloc (.cells #[.string c.row, .string c.col, .int .i64 c.time, .bool c.gone, .string c.val] 91)).drew) (show RdC (wx.alloc (.cells #[.string c.row, .string c.col, .int .i64 c.time, .bool c.gone, .string c.val] 91)) _ _ from RdC.new wx c _) hg1; obtain ⟨ao1, cap1, hv1⟩ := ownsC_shape ho1; subst hv1))
          all_goals
            have hr3 := RdC.ofOwns ho3
            go_wp2_with fail
            go_ret
            exact ⟨_, rfl, by rw [HE.out]; exact hr3, hbw0.trans (hbx3.mono hzx)⟩
      · have HLT := hide (aheadB_iff.1 h7)
        go_wp2_with fail
        go_region_held3 (fun W => (W.cell? ⟨w.heap.size, 0, none⟩ = some (.string c.row) ∧ W.cell? ⟨w.heap.size, 1, none⟩ = some (.string c.col) ∧ W.cell? ⟨w.heap.size, 2, none⟩ = some (.int .i64 c.time) ∧ W.cell? ⟨w.heap.size, 3, none⟩ = some (.bool c.gone) ∧ W.cell? ⟨w.heap.size, 4, none⟩ = some (.string c.val)) ∧ (W.cell? ⟨b, off + k * 5, none⟩ = some (.string x.row) ∧ W.cell? ⟨b, off + k * 5 + 1, none⟩ = some (.string x.col) ∧ W.cell? ⟨b, off + k * 5 + 2, none⟩ = some (.int .i64 x.time) ∧ W.cell? ⟨b, off + k * 5 + 3, none⟩ = some (.bool x.gone) ∧ W.cell? ⟨b, off + k * 5 + 4, none⟩ = some (.string x.val))) (exact HK.out _ (by go_grown)) (first
          | (go_at_call 87; refine (Ahead_any x c _).mono ?_; rintro e w2 ⟨rfl, hb2⟩; rw [h7]; have hb12 : Below wA.heap.size wA w2 := Below.trans (by go_grown) (hb2.mono hzr)))
        go_wp2_with fail
        go_roundw
        case rel => exact ⟨k + 1, by omega, by go_num, fun y hy => by rw [List.take_add_one, HX.out] at hy; rcases List.mem_append.1 hy with hy | hy; exact HB.out y hy; simp at hy; rw [hy]; exact HLT.out, hb12⟩
        case measure => simp [intOf]; omega
    · have hkl : k = cs.length := by omega
      have HE : Hid (mrg cs [c] = cs ++ [c]) := hide (mrg_end (fun y hy => HB.out y (by rw [hkl, List.take_length]; exact hy)))
      have hd1 : decide ((k : Int) < (cs.length : Int)) = false := by simp; omega
      have hd2 : decide (k < cs.length) = false := by simp; omega
      subst hkl
      have hs1 := run_slice_uptoC (P := Try.prog) Try.underlying30 (by kernel_rfl) Try.info91 ao cs.length cap cs.length (cs.length : Int) rfl hc1
      have hs2 := run_slice_fromC (P := Try.prog) Try.underlying30 (by kernel_rfl) Try.info91 ao cs.length cap cs.length (cs.length : Int) rfl (Nat.le_refl _)
      have hV1 := hv.uptoC (hi := cs.length) (Nat.le_refl _)
      have hV2 := hv.from (lo := cs.length) (Nat.le_refl _)
      rw [List.take_length] at hV1
      rw [List.drop_length] at hV2
      generalize hg1 : Go.sliced ao 0 cs.length cap 5 = V1 at hs1 hV1
      generalize hg2 : Go.sliced ao cs.length cs.length cap 5 = V2 at hs2 hV2
      clear hg1 hg2
      obtain ⟨vo1, vc1, hw1, _, _⟩ := hV1.shape
      obtain ⟨vo2, vc2, hw2, _, _⟩ := hV2.shape
      have HV1 := hide hV1
      have HV2 := hide hV2
      clear hV1 hV2
      subst hw1 hw2
      have hkc : ∀ W, Below wr.heap.size wr W → W.cell? ⟨w.heap.size, 0, none⟩ = some (.string c.row) ∧ W.cell? ⟨w.heap.size, 1, none⟩ = some (.string c.col) ∧ W.cell? ⟨w.heap.size, 2, none⟩ = some (.int .i64 c.time) ∧ W.cell? ⟨w.heap.size, 3, none⟩ = some (.bool c.gone) ∧ W.cell? ⟨w.heap.size, 4, none⟩ = some (.string c.val) := fun W h => (hC0.below (hbel.trans (h.mono hzr)) (by omega)).facts
      have HKC := hide hkc
      obtain ⟨c0, c1, c2, c3, c4⟩ := hkc wr (Below.refl _ _)
      clear hkc
      have hbw0 := hbw
      have hzx : w.heap.size ≤ wr.heap.size := by omega
      have hl1 : 0 + cs.length ≤ 1000000000 := by omega
      have hl2 : cs.length + [c].length ≤ 1000000000 := by simp; omega
      have hl3 : cs.length + 1 + ([] : List Cl).length ≤ 1000000000 := by simp; omega
      clear c0 c1 c2 c3 c4 hbw0 hzx
      go_wp2_with fail
      go_quiet (fail)
      have hbq : Below wr.heap.size wr (wr.drewN nq) := below_drewN (Below.refl _ _) _
      generalize wr.drewN nq = wq at hbq ⊢
      go_wp2_with fail
      go_quiet (fail)
      have hbwx : Below wr.heap.size wr (wq.drewN nq) := below_drewN hbq _
      generalize wq.drewN nq = wx at hbwx ⊢
      go_upto_region 8 with fail
      have hbw0 : Below w.heap.size w wx := hbw.trans (hbwx.mono (by omega))
      have hzx : w.heap.size ≤ wx.heap.size := hbw0.size
      have hkc2 : ∀ W, Below wx.heap.size wx W → W.cell? ⟨w.heap.size, 0, none⟩ = some (.string c.row) ∧ W.cell? ⟨w.heap.size, 1, none⟩ = some (.string c.col) ∧ W.cell? ⟨w.heap.size, 2, none⟩ = some (.int .i64 c.time) ∧ W.cell? ⟨w.heap.size, 3, none⟩ = some (.bool c.gone) ∧ W.cell? ⟨w.heap.size, 4, none⟩ = some (.string c.val) := fun W h => HKC.out W (hbwx.trans (h.mono hbwx.size))
      obtain ⟨c0, c1, c2, c3, c4⟩ := hkc2 wx (Below.refl _ _)
      clear HKC
      have HKC := hide hkc2
      clear hkc2
      have hV1 := HV1.out.below hbw0
      have hV2 := HV2.out.below hbw0
      clear HV1 HV2
      have HV1 := hide hV1
      have HV2 := hide hV2
      clear hV1 hV2
      go_region_held3 (fun W => W.cell? ⟨w.heap.size, 0, none⟩ = some (.string c.row) ∧ W.cell? ⟨w.heap.size, 1, none⟩ = some (.string c.col) ∧ W.cell? ⟨w.heap.size, 2, none⟩ = some (.int .i64 c.time) ∧ W.cell? ⟨w.heap.size, 3, none⟩ = some (.bool c.gone) ∧ W.cell? ⟨w.heap.size, 4, none⟩ = some (.string c.val)) (exact HKC.out _ (by go_grown)) (first
        | (have k9 := ho2; refine step_append_rdC k9 (by exact HV2.out.below hbx2) Try.underlying30 Try.info91 rfl (by rfl) (by rfl) (by rfl) (by rfl) hl3 (by decide) (by exact hbx2.size) ?_; intro v3 w3 ho3 hb3 hg3; have hbx3 := hbx2.trans hb3; have hzx3 := hbx3.size; obtain ⟨ao3, cap3, hv3⟩ := ownsC_shape ho3; subst hv3)
        | (have k9 := ho1; refine step_append_rdC (k9.alloc _) (RdC.new w1 c _) Try.underlying30 Try.info91 rfl (by rfl) (by rfl) (by rfl) (by rfl) hl2 (by decide) (by exact Nat.le_trans hbx1.size (Nat.le_of_lt (lt_alloc w1 _))) ?_; intro v2 w2 ho2 hb2 hg2; rw [List.length_singleton] at ho2; have hbx2 := (hbx1.alloc hbx1.size (.cells #[.string c.row, .string c.col, .int .i64 c.time, .bool c.gone, .string c.val] 91)).trans hb2; have hzx2 := hbx2.size; obtain ⟨ao2, cap2, hv2⟩ := ownsC_shape ho2; subst hv2)
        | (have k9 := hN1; refine step_append_rdC ho1 k9 Try.underlying30 Try.info91 rfl (by rfl) (by rfl) (by rfl) (by rfl) hl2 (by decide) (by exact hbx1.size) ?_; intro v2 w2 ho2 hb2 hg2; rw [List.length_singleton] at ho2; have hbx2 := hbx1.trans hb2; have hzx2 := hbx2.size; obtain ⟨ao2, cap2, hv2⟩ := ownsC_shape ho2; subst hv2)
        | (refine step_append_rdC (cs := []) (World.ownsRow_nil _ wx.heap.size _ _) (by exact HV1.out) Try.underlying30 Try.info91 rfl (by rfl) (by rfl) (by rfl) (by rfl) hl1 (by decide) (by exact Nat.le_refl _) ?_; intro v1 w1 ho1 hb1 hg1; rw [Nat.zero_add, List.nil_append] at ho1; have hbx1 : Below wx.heap.size wx w1 := Below.trans (by go_grown) hb1; have hzx1 := hbx1.size; obtain ⟨ao1, cap1, hv1⟩ := ownsC_shape ho1; subst hv1)
        | (refine step_append_rdC (cs := []) (World.ownsRow_nil _ wx.heap.size _ _) (by exact HV1.out.alloc _) Try.underlying30 Try.info91 rfl (by rfl) (by rfl) (by rfl) (by rfl) hl1 (by decide) (by exact Nat.le_of_lt (lt_alloc wx _)) ?_; intro v1 w1 ho1 hb1 hg1; rw [Nat.zero_add, List.nil_append] at ho1; have hbx1 : Below wx.heap.size wx w1 := Below.trans (by go_grown) hb1; have hzx1 := hbx1.size; have hN1 : RdC w1 (.slice (some ⟨wx.heap.size, 0, none⟩) 1 1) [c] := RdC.grownNone (w := (wx.alloc (.cells #[.string c.row, .string c.col, .int .i64 c.time, .bool c.gone, .string c.val] 91)).drew) (show RdC (wx.alloc (.cells #[.string c.row, .string c.col, .int .i64 c.time, .bool c.gone, .string c.val] 91)) _ _ from RdC.new wx c _) hg1; obtain ⟨ao1, cap1, hv1⟩ := ownsC_shape ho1; subst hv1))
      all_goals
        have hr3 := RdC.ofOwns ho3
        go_wp2_with fail
        go_ret
        exact ⟨_, rfl, by rw [HE.out]; simpa using hr3, hbw0.trans (hbx3.mono hzx)⟩

end Go.Proofs.Ytdodajalejfbiad
