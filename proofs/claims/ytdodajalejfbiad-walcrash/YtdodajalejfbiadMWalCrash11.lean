/-
  Texts joined: WalExt, WalW3, CellS4, CellR3, ScansMath, CellR4, AsksMath.
-/
import Derived.Test.YtdodajalejfbiadMWalCrash10
/-
  Appends of notes, and what they leave as it was. Nothing of a program stands here.
-/
namespace Go.Proofs.Ytdodajalejfbiad
open Go.RowKit

theorem wpList_append_rd2E {P : Program} {w : World} {ops : Array Oper} {rest : List Oper} {o : Oper} {a : Act} {Q : Exit → Act → World → Prop} {s x : Operand} {t : TypeId} {base : Nat} {e : TypeId} {z : Value} {bytes : Nat}
    {v : Value} {n : Nat} {cs : List (Int × Value)} {vx : Value} {news : List (Int × Value)}
    (hown : w.ownsRow base e 2 v n (nn cs)) (hrd : Rd2 w vx news)
    (ht : P.underlying t = some (.slice e)) (hinf : (P.info? e).map (fun i => (i.zero, i.size, i.bytes)) = some (some z, 2, bytes)) (hzs : z.cells.size = 2)
    (hgd : o.guard = none) (ho : o.op = .call { callee := .builtin .append, args := #[s, x], argTypes := #[t, t] })
    (hs : a.eval s = v) (hx : a.eval x = vx)
    (h63 : n + news.length ≤ 1000000000) (hbytes : bytes ≤ 64) (hbase : base ≤ w.heap.size)
    (h : ∀ v' w', w'.ownsRow base e 2 v' (n + news.length) (nn (cs ++ news)) → Below base w w' → Ext w w' v v' → wpList P ops Q rest (a.put o.dst v') w') : wpList P ops Q (o :: rest) a w := by
  obtain ⟨i, hi, hz, hsize, hby⟩ := info_parts hinf
  have hlt := hown.lt
  have hbytes' : (n + news.length) * bytes ≤ 1000000000 * 64 := Nat.mul_le_mul h63 hbytes
  obtain ⟨ao, cap, hvx, h2, h3, h4, h6, h5⟩ := hrd
  cases ao with
  | none =>
    have hc := h4 rfl
    have hnews : news = [] := List.eq_nil_of_length_eq_zero (by omega)
    subst hnews
    subst hc
    refine wpList_append_own_none hgd s x t ho base e i 2 ht hi v n (nn cs) hs hown (hx.trans hvx) ?_
    exact h v w (by simpa using hown) (Below.refl _ _) (Ext.refl _ _)
  | some ad =>
    refine wpList_append_own_at w hgd s x t ho base e i z 2 bytes ht hi hz hsize hby hzs (by decide) v n (nn cs) hs hown ad news.length cap (nn news) (hx.trans hvx) (nn_length _) (h5 ad rfl) (nn_one h6) (by simp [maxLen]; omega) (by omega) hbase ?_
    intro v' w' ho' hg' _ hat
    rw [← nn_append] at ho'
    exact h v' w' ho' ((Below.refl _ _).grown hg' hbase (fun k hk => (hlt k hk).1)) ⟨hg', hat.imp id fun e k hk => by rw [e] at hk; simp at hk; omega⟩

theorem wpList_append_one2E {P : Program} {w : World} {q : Int} {u : Value} {ops : Array Oper} {rest : List Oper} {o : Oper} {a : Act} {Q : Exit → Act → World → Prop} {s x : Operand} {t : TypeId} {base : Nat} {e : TypeId} {z : Value} {bytes : Nat}
    {v : Value} {n : Nat} {cs : List (Int × Value)} (hu : u.oneCell' = true)
    (hown : w.ownsRow base e 2 v n (nn cs))
    (ht : P.underlying t = some (.slice e)) (hinf : (P.info? e).map (fun i => (i.zero, i.size, i.bytes)) = some (some z, 2, bytes)) (hzs : z.cells.size = 2)
    (hgd : o.guard = none) (ho : o.op = .call { callee := .builtin .append, args := #[s, x], argTypes := #[t, t] })
    (hs : a.eval s = v) (hx : a.eval x = .slice (some ⟨w.heap.size, 0, none⟩) 1 1)
    (h63 : n ≤ 100000000) (hbytes : bytes ≤ 64) (hbase : base ≤ w.heap.size)
    (h : ∀ v' w', w'.ownsRow base e 2 v' (n + 1) (nn (cs ++ [(q, u)])) → Below base w w' → Ext w w' v v' → wpList P ops Q rest (a.put o.dst v') w') : wpList P ops Q (o :: rest) a (w.alloc (.cells #[.int .i64 q, u] e)) := by
  refine wpList_append_rd2E (hown.alloc _) (Rd2.new _ q u _ hu) ht hinf hzs hgd ho hs hx (by simp; omega) hbytes (by simp; omega) ?_
  intro v' w' h2 h3 h4
  exact h v' w' h2 (((Below.refl _ _).alloc hbase _).trans h3) ((Ext.alloc _ _ _).trans h4)

theorem RdC.extN {w w' : World} {r r' v : Value} {cs : List Cl} (h : RdC w v cs) (he : Ext w w' r r') (ho : Off r v) : RdC w' v cs := by
  obtain ⟨ao, cap, hv, h1, h2, h3, h4⟩ := h
  refine ⟨ao, cap, hv, h1, h2, h3, fun a ha j u hu => ?_⟩
  have hc := h4 a ha j u hu
  have hlt := World.block_lt_of_cell? w _ hc
  have hb : (a.add j).block = a.block := by unfold Addr.add; split <;> rfl
  have hl := (List.getElem?_eq_some_iff.1 hu).1
  rw [cc_length] at hl
  rw [he.cell hlt (by rw [hb]; exact ho a _ _ (by rw [hv, ha]) (by omega))]
  exact hc

theorem OffC.extN {w w' : World} {r r' v : Value} {cs : List Cl} (h : RdC w v cs) (he : Ext w w' r r') (ho : Off r v) : Off r' v := by
  intro a l c hv hl
  have ho' := ho a l c hv hl
  obtain ⟨ao, cap, hv', h1, h2, h3, h4⟩ := h
  rw [hv] at hv'
  simp only [Value.slice.injEq] at hv'
  obtain ⟨rfl, rfl, rfl⟩ := hv'
  have hpos : 0 < (cc cs).length := by rw [cc_length]; omega
  have hc := h4 a rfl 0 (cc cs)[0] (by simp)
  have hlt := World.block_lt_of_cell? w _ hc
  have hb : (a.add 0).block = a.block := by unfold Addr.add; split <;> rfl
  rw [hb] at hlt
  exact he.apart hlt ho'

/-- Notes whose cells lie off a row. -/
def NtO (w : World) (r : Value) (ps : List (Int × Value)) (ns : List Nt) : Prop := NtP w ps ns ∧ ∀ p ∈ ps, Off r p.2

theorem NtO.nil (w : World) (r : Value) : NtO w r [] [] := ⟨NtP.nil w, by simp⟩
theorem NtO.ext {w w' : World} {r r' : Value} {ps : List (Int × Value)} {ns : List Nt} (h : NtO w r ps ns) (he : Ext w w' r r') : NtO w' r' ps ns := by
  obtain ⟨⟨h1, h2⟩, h4⟩ := h
  refine ⟨⟨h1, fun i p n hp hn => ⟨(h2 i p n hp hn).1, (h2 i p n hp hn).2.extN he (h4 p (List.mem_of_getElem? hp))⟩⟩, fun p hp => ?_⟩
  obtain ⟨i, hi, e⟩ := List.getElem_of_mem hp
  have hg : ps[i]? = some p := by rw [List.getElem?_eq_getElem hi, e]
  exact OffC.extN (h2 i p _ hg (List.getElem?_eq_getElem (by omega))).2 he (h4 p hp)
theorem NtO.snoc {w : World} {r : Value} {ps : List (Int × Value)} {ns : List Nt} (h : NtO w r ps ns) {u : Value} {n : Nt} (hu : RdC w u n.cells) (ho : Off r u) : NtO w r (ps ++ [(n.seq, u)]) (ns ++ [n]) :=
  ⟨h.1.snoc hu, fun x hx => (List.mem_append.1 hx).elim (h.2 x) (fun h => by simp at h; rw [h]; exact ho)⟩
theorem NtO.rd {w : World} {base : Nat} {e : TypeId} {v : Value} {n : Nat} {ps : List (Int × Value)} {ns : List Nt} (h : NtO w v ps ns) (ho : w.ownsRow base e 2 v n (nn ps)) : RdN w v ns := ⟨ps, Rd2.ofOwns ho h.1.one, h.1⟩

theorem run_slice_from2 {P : Program} {t e : TypeId} {z : Value} {bytes : Nat} (ht : P.underlying t = some (.slice e)) (he : P.elem t = e) (hinf : (P.info? e).map (fun i => (i.zero, i.size, i.bytes)) = some (some z, 2, bytes))
    (ao : Option Addr) (n cap lo : Nat) (l : Int) (hl : l = lo) (h1 : lo ≤ n) (W : World) :
    (Instr.slice t (.slice ao n cap) (some (.int .i64 l)) none none).run P W = .ok (Go.sliced ao lo n cap 2) W := by
  obtain ⟨i, hi0, _, hsize, _⟩ := info_parts hinf
  subst hl
  rw [run_slice_l (P := P) W t ao n cap (by rw [he]; exact ht) .i64 lo (by omega) (by omega)]
  simp [he, sizeOf, typeInfo, hi0, hsize, Result.andThen]

theorem run_slice_upto2 {P : Program} {t e : TypeId} {z : Value} {bytes : Nat} (ht : P.underlying t = some (.slice e)) (he : P.elem t = e) (hinf : (P.info? e).map (fun i => (i.zero, i.size, i.bytes)) = some (some z, 2, bytes))
    (ao : Option Addr) (n cap hi : Nat) (h : Int) (hh : h = hi) (h1 : hi ≤ cap) (W : World) :
    (Instr.slice t (.slice ao n cap) none (some (.int .i64 h)) none).run P W = .ok (Go.sliced ao 0 hi cap 2) W := by
  obtain ⟨i, hi0, _, hsize, _⟩ := info_parts hinf
  subst hh
  rw [run_slice_h (P := P) W t ao n cap (by rw [he]; exact ht) .i64 hi (by omega) (by omega)]
  simp [he, sizeOf, typeInfo, hi0, hsize, Result.andThen]

theorem Rd2.piece {w : World} {ao : Option Addr} {n cap lo hi : Nat} {ps : List (Int × Value)} (h : Rd2 w (.slice ao n cap) ps) (h0 : lo ≤ hi) (h1 : hi ≤ n) : Rd2 w (Go.sliced ao lo hi cap 2) ((ps.take hi).drop lo) := by
  obtain ⟨ao', cap', hv, h2, h3, h4, h6, h5⟩ := h
  simp only [Value.slice.injEq] at hv
  obtain ⟨rfl, rfl, rfl⟩ := hv
  have hl : ((ps.take hi).drop lo).length = hi - lo := by rw [List.length_drop, List.length_take]; omega
  refine ⟨_, cap - lo, by rw [hl]; rfl, by omega, by omega, ?_, fun p hp => h6 p (List.mem_of_mem_take (List.mem_of_mem_drop hp)), ?_⟩
  · intro hn
    split at hn
    · omega
    · rw [Option.map_eq_none_iff] at hn
      have := h4 hn
      omega
  · intro a ha j u hu
    have hj := (List.getElem?_eq_some_iff.1 hu).1
    rw [nn_length, hl] at hj
    split at ha
    · omega
    · obtain ⟨a0, e0, rfl⟩ := Option.map_eq_some_iff.1 ha
      rw [← nn_drop, ← nn_take, List.getElem?_drop, List.getElem?_take, if_pos (by omega)] at hu
      have h0 := h5 a0 e0 _ _ (nn_get ps 0 (by omega)).1
      rw [Nat.zero_mul] at h0
      obtain ⟨b, o, rfl⟩ := add_spot h0
      have := h5 _ e0 (lo * 2 + j) u hu
      simp only [Addr.add_lit] at this ⊢
      rw [Nat.add_assoc]
      exact this

theorem NtP.piece {w : World} {ps : List (Int × Value)} {ns : List Nt} (h : NtP w ps ns) (lo hi : Nat) : NtP w ((ps.take hi).drop lo) ((ns.take hi).drop lo) := by
  refine ⟨by rw [List.length_drop, List.length_drop, List.length_take, List.length_take, h.1], fun i p n hp hn => ?_⟩
  rw [List.getElem?_drop, List.getElem?_take] at hp hn
  split at hp
  · rename_i h9
    rw [if_pos h9] at hn
    exact h.2 _ p n hp hn
  · cases hp

theorem RdN.uptoN {w : World} {ao : Option Addr} {n cap hi : Nat} {ns : List Nt} (h : RdN w (.slice ao n cap) ns) (h1 : hi ≤ n) : RdN w (Go.sliced ao 0 hi cap 2) (ns.take hi) := by
  obtain ⟨ps, h2, h3⟩ := h
  have := h2.piece (Nat.zero_le _) h1
  have h4 := h3.piece 0 hi
  rw [List.drop_zero] at this h4
  exact ⟨_, this, h4⟩

theorem RdN.fromN {w : World} {ao : Option Addr} {n cap lo : Nat} {ns : List Nt} (h : RdN w (.slice ao n cap) ns) (h1 : lo ≤ n) : RdN w (Go.sliced ao lo n cap 2) (ns.drop lo) := by
  have hn : n = ns.length := by
    obtain ⟨ao', cap', hv, _, _⟩ := h.shape
    simp only [Value.slice.injEq] at hv
    exact hv.2.1
  obtain ⟨ps, h2, h3⟩ := h
  have := h2.piece h1 (Nat.le_refl _)
  have h4 := h3.piece lo n
  rw [show ns.take n = ns from List.take_of_length_le (by omega)] at h4
  exact ⟨_, this, h4⟩

theorem Bk.othN {w : World} {B : Nat} {t : TypeId} {xs : Array Value} (h : Bk w B t xs) {p : Addr} (hne : B ≠ p.block) (u : Value) : Bk (w.setCell p u) B t xs := by
  unfold Bk
  rw [heap_setCell_other w p B u hne]
  exact h

theorem Bk.store2 {w : World} {B : Nat} {t : TypeId} {x y : Value} (h : Bk w B t #[x, y]) (a b : Value) : Bk ((w.setCell ⟨B, 0, none⟩ a).setCell ⟨B, 1, none⟩ b) B t #[a, b] := (h.set 0 a).set 1 b

theorem Bk.store2A {w : World} {B : Nat} {t : TypeId} {x y : Value} (h : Bk w B t #[x, y]) (a b : Value) (o : Obj) : Bk (((w.setCell ⟨B, 0, none⟩ a).setCell ⟨B, 1, none⟩ b).alloc o) B t #[a, b] := (h.store2 a b).below (below_alloc' _ _) (h.store2 a b).lt

theorem no_textS (o : Option Addr) (n c : Nat) : ∀ (k : Nat) (s : ByteArray), (#[Value.slice o n c])[k]? ≠ some (Value.string s) := by
  intro k s h
  match k with
  | 0 => simp at h
  | k + 1 => simp at h

end Go.Proofs.Ytdodajalejfbiad

/-
  The walk over slices.BinarySearchFunc at cells.
-/
namespace Go.Proofs.Ytdodajalejfbiad
open Go.RowKit

/-- Is it there? -/
def fndB (o : Option Cl) (c : Cl) : Bool := match o with | none => false | some x => ordC x c == 0

set_option maxRecDepth 100000 in
set_option maxHeartbeats 1000000 in
theorem bsearch_any (v : Value) (cs : List Cl) (c : Cl) (w : World) (hv : RdC w v cs) (hp : cs.Pairwise Lt) (hl : cs.length ≤ 1000000) :
    Calls Try.prog 109 #[v, cA c, .func (.func 63) #[] #[]] w fun e w' => ∃ i : Nat, i ≤ cs.length ∧ e = .returned (.tuple #[.int .i64 i, .bool (fndB cs[i]? c)]) ∧ Below w.heap.size w w' ∧ (∀ x ∈ cs.take i, Lt x c) ∧ (∀ x ∈ cs.drop i, ¬ Lt x c) := by
  obtain ⟨ao, cap, hvv, hc1, hc2⟩ := hv.shape
  subst hvv
  unfold maxLen at hc2
  have HP := hide hp
  clear hp
  unfold cA
  go_enter Try.func109, Try.ntmps109
  go_wp2_with fail
  have hT0 : Bk (w.alloc (.cells #[.string c.row, .string c.col, .int .i64 c.time, .bool c.gone, .string c.val] 91)) w.heap.size 91 (ca c) := Bk.new _ _ _
  have hb0 := below_alloc' w (.cells #[.string c.row, .string c.col, .int .i64 c.time, .bool c.gone, .string c.val] 91)
  have hz0 : (w.alloc (.cells #[.string c.row, .string c.col, .int .i64 c.time, .bool c.gone, .string c.val] 91)).heap.size = w.heap.size + 1 := by simp
  generalize w.alloc (.cells #[.string c.row, .string c.col, .int .i64 c.time, .bool c.gone, .string c.val] 91) = w0 at *
  go_loopw [9, 10, 11] (fun iv jv _ wr => ∃ (i j : Nat), i ≤ j ∧ j ≤ cs.length ∧ iv = .int .i64 i ∧ jv = .int .i64 j ∧ Below w0.heap.size w0 wr ∧ (∀ x ∈ cs.take i, Lt x c) ∧ (∀ x ∈ cs.drop j, ¬ Lt x c))
    (fun iv jv _ _ => (intOf jv).toNat - (intOf iv).toNat)
  case atStart => exact ⟨0, cs.length, by omega, Nat.le_refl _, rfl, rfl, Below.refl _ _, by simp, by simp⟩
  case round =>
    obtain ⟨i, j, hij, hj, rfl, rfl, hbel, hlo, hhi⟩ := hrel
    have HLO := hide hlo
    have HHI := hide hhi
    clear hlo hhi
    have hzr := hbel.size
    have hbw := hb0.trans (hbel.mono (by omega))
    have hTr := hT0.below hbel hT0.lt
    by_cases hlt : i < j
    · obtain ⟨h, hh⟩ : ∃ h : Nat, h = (i + j) / 2 := ⟨_, rfl⟩
      have hh1 : i ≤ h := by omega
      have hh2 : h < j := by omega
      have hlti : (i : Int) < (j : Int) := by omega
      go_upto_region 5 with fail
      rw [show ((i : Int) + (j : Int)) / 2 = ((h : Nat) : Int) by omega]
      obtain ⟨x, hx⟩ : ∃ x, cs[h]? = some x := ⟨_, List.getElem?_eq_getElem (by omega)⟩
      obtain ⟨bb, off, rfl, hbb, hat⟩ := hv.hereD hx
      have hk1 : (0 : Int) ≤ (h : Int) := by omega
      have hk2 : (h : Int) < (cs.length : Int) := by omega
      have hkeep : ∀ W, Below wr.heap.size wr W → (W.cell? ⟨bb, (off + h * 5), none⟩ = some (.string x.row) ∧ W.cell? ⟨bb, (off + h * 5) + 1, none⟩ = some (.string x.col) ∧ W.cell? ⟨bb, (off + h * 5) + 2, none⟩ = some (.int .i64 x.time) ∧ W.cell? ⟨bb, (off + h * 5) + 3, none⟩ = some (.bool x.gone) ∧ W.cell? ⟨bb, (off + h * 5) + 4, none⟩ = some (.string x.val)) ∧ (W.cell? ⟨w.heap.size, 0, none⟩ = some (.string c.row) ∧ W.cell? ⟨w.heap.size, 0 + 1, none⟩ = some (.string c.col) ∧ W.cell? ⟨w.heap.size, 0 + 2, none⟩ = some (.int .i64 c.time) ∧ W.cell? ⟨w.heap.size, 0 + 3, none⟩ = some (.bool c.gone) ∧ W.cell? ⟨w.heap.size, 0 + 4, none⟩ = some (.string c.val)) := fun W hW => by
        obtain ⟨c0, c1, c2, c3, c4⟩ := (hat.below hbw).below hW
        obtain ⟨d0, d1, d2, d3, d4⟩ := (hTr.below hW hTr.lt).at
        exact ⟨⟨c0, c1, c2, c3, c4⟩, d0, d1, d2, d3, d4⟩
      have HK := hide hkeep
      obtain ⟨⟨c0, c1, c2, c3, c4⟩, d0, d1, d2, d3, d4⟩ := hkeep wr (Below.refl _ _)
      have HX := hide hx
      have HH := hide hh
      clear hkeep hat hx hh
      go_region_held3 (fun W => (W.cell? ⟨bb, (off + h * 5), none⟩ = some (.string x.row) ∧ W.cell? ⟨bb, (off + h * 5) + 1, none⟩ = some (.string x.col) ∧ W.cell? ⟨bb, (off + h * 5) + 2, none⟩ = some (.int .i64 x.time) ∧ W.cell? ⟨bb, (off + h * 5) + 3, none⟩ = some (.bool x.gone) ∧ W.cell? ⟨bb, (off + h * 5) + 4, none⟩ = some (.string x.val)) ∧ (W.cell? ⟨w.heap.size, 0, none⟩ = some (.string c.row) ∧ W.cell? ⟨w.heap.size, 0 + 1, none⟩ = some (.string c.col) ∧ W.cell? ⟨w.heap.size, 0 + 2, none⟩ = some (.int .i64 c.time) ∧ W.cell? ⟨w.heap.size, 0 + 3, none⟩ = some (.bool c.gone) ∧ W.cell? ⟨w.heap.size, 0 + 4, none⟩ = some (.string c.val))) (exact HK.out _ (by go_grown)) (first
        | (go_at_call 63; refine (order_any x c _).mono ?_; rintro e w2 ⟨rfl, hb2⟩; have hb12 : Below wr.heap.size wr w2 := Below.trans (by go_grown) hb2; have hbel2 : Below w0.heap.size w0 w2 := hbel.trans (hb12.mono hzr)))
      all_goals
        by_cases ho : ordC x c < 0
        · go_wp2_with fail
          go_roundw
          case rel =>
            refine ⟨h + 1, j, by omega, hj, by go_num, rfl, hbel2, fun y hy => ?_, HHI.out⟩
            have hxc := ordC_neg.1 ho
            obtain ⟨k, hk, e⟩ := List.getElem_of_mem hy
            rw [List.length_take] at hk
            rw [List.getElem_take] at e
            by_cases hkh : k = h
            · subst hkh
              have : cs[k] = x := by have := HX.out; rw [List.getElem?_eq_getElem (by omega)] at this; exact Option.some.inj this
              rw [← e, this]
              exact hxc
            · have h1 := List.pairwise_iff_getElem.1 HP.out k h (by omega) (by omega) (by omega)
              have : cs[h] = x := by have := HX.out; rw [List.getElem?_eq_getElem (by omega)] at this; exact Option.some.inj this
              rw [this, e] at h1
              exact Lt_trans h1 hxc
          case measure => simp [intOf]; omega
        · go_wp2_with fail
          go_roundw
          case rel =>
            refine ⟨i, h, hh1, by omega, rfl, rfl, hbel2, HLO.out, fun y hy hlt9 => ?_⟩
            obtain ⟨k, hk, e⟩ := List.getElem_of_mem hy
            rw [List.length_drop] at hk
            rw [List.getElem_drop] at e
            have hxx : cs[h] = x := by have := HX.out; rw [List.getElem?_eq_getElem (by omega)] at this; exact Option.some.inj this
            by_cases hk0 : k = 0
            · subst hk0
              simp only [Nat.add_zero] at e
              rw [hxx] at e
              subst e
              exact ho (ordC_neg.2 hlt9)
            · have h1 := List.pairwise_iff_getElem.1 HP.out h (h + k) (by omega) (by omega) (by omega)
              rw [hxx, e] at h1
              exact ho (ordC_neg.2 (Lt_trans h1 hlt9))
          case measure => simp [intOf]; omega
    · have hlti : ¬ (i : Int) < (j : Int) := by omega
      have hie : i = j := by omega
      subst hie
      by_cases hin : i < cs.length
      · obtain ⟨x, hx⟩ : ∃ x, cs[i]? = some x := ⟨_, List.getElem?_eq_getElem hin⟩
        obtain ⟨bb, off, rfl, hbb, hat⟩ := hv.hereD hx
        have hk1 : (0 : Int) ≤ (i : Int) := by omega
        have hk2 : (i : Int) < (cs.length : Int) := by omega
        have hkeep : ∀ W, Below wr.heap.size wr W → (W.cell? ⟨bb, (off + i * 5), none⟩ = some (.string x.row) ∧ W.cell? ⟨bb, (off + i * 5) + 1, none⟩ = some (.string x.col) ∧ W.cell? ⟨bb, (off + i * 5) + 2, none⟩ = some (.int .i64 x.time) ∧ W.cell? ⟨bb, (off + i * 5) + 3, none⟩ = some (.bool x.gone) ∧ W.cell? ⟨bb, (off + i * 5) + 4, none⟩ = some (.string x.val)) ∧ (W.cell? ⟨w.heap.size, 0, none⟩ = some (.string c.row) ∧ W.cell? ⟨w.heap.size, 0 + 1, none⟩ = some (.string c.col) ∧ W.cell? ⟨w.heap.size, 0 + 2, none⟩ = some (.int .i64 c.time) ∧ W.cell? ⟨w.heap.size, 0 + 3, none⟩ = some (.bool c.gone) ∧ W.cell? ⟨w.heap.size, 0 + 4, none⟩ = some (.string c.val)) := fun W hW => by
          obtain ⟨c0, c1, c2, c3, c4⟩ := (hat.below hbw).below hW
          obtain ⟨d0, d1, d2, d3, d4⟩ := (hTr.below hW hTr.lt).at
          exact ⟨⟨c0, c1, c2, c3, c4⟩, d0, d1, d2, d3, d4⟩
        have HK := hide hkeep
        obtain ⟨⟨c0, c1, c2, c3, c4⟩, d0, d1, d2, d3, d4⟩ := hkeep wr (Below.refl _ _)
        have HX := hide hx
        clear hkeep hat hx
        go_upto_region 8 with fail
        go_region_held3 (fun W => (W.cell? ⟨bb, (off + i * 5), none⟩ = some (.string x.row) ∧ W.cell? ⟨bb, (off + i * 5) + 1, none⟩ = some (.string x.col) ∧ W.cell? ⟨bb, (off + i * 5) + 2, none⟩ = some (.int .i64 x.time) ∧ W.cell? ⟨bb, (off + i * 5) + 3, none⟩ = some (.bool x.gone) ∧ W.cell? ⟨bb, (off + i * 5) + 4, none⟩ = some (.string x.val)) ∧ (W.cell? ⟨w.heap.size, 0, none⟩ = some (.string c.row) ∧ W.cell? ⟨w.heap.size, 0 + 1, none⟩ = some (.string c.col) ∧ W.cell? ⟨w.heap.size, 0 + 2, none⟩ = some (.int .i64 c.time) ∧ W.cell? ⟨w.heap.size, 0 + 3, none⟩ = some (.bool c.gone) ∧ W.cell? ⟨w.heap.size, 0 + 4, none⟩ = some (.string c.val))) (exact HK.out _ (by go_grown)) (first
          | (go_at_call 63; refine (order_any x c _).mono ?_; rintro e w2 ⟨rfl, hb2⟩; have hb12 : Below wr.heap.size wr w2 := Below.trans (by go_grown) hb2; have hbw2 : Below w.heap.size w w2 := hbw.trans (hb12.mono (by omega))))
        all_goals
          go_wp2_with fail
          exact bodyPost_ret (v := .tuple #[.int .i64 i, .bool (ordC x c == 0)]) (by simp [results, Try.results109, go_sem]) rfl ⟨i, hj, by rw [HX.out]; rfl, hbw2, HLO.out, HHI.out⟩
      · have hie : i = cs.length := by omega
        subst hie
        have hlt9 : decide ((cs.length : Int) < (cs.length : Int)) = false := by simp
        go_wp2_with fail
        go_region
        all_goals
          go_wp2_with fail
          exact bodyPost_ret (v := .tuple #[.int .i64 cs.length, .bool false]) (by simp [results, Try.results109, go_sem]) rfl ⟨cs.length, Nat.le_refl _, by simp [fndB], by first | exact hbw | exact hbw.drew, HLO.out, HHI.out⟩

end Go.Proofs.Ytdodajalejfbiad

/-
  The walks over cell.merged and cell.Sort.
-/
namespace Go.Proofs.Ytdodajalejfbiad
open Go.RowKit

theorem RdL.part {w : World} {ao : Option Addr} {n cap h : Nat} {ls : List (List Cl)} (hr : RdL w (.slice ao n cap) ls) (hh : h ≤ n) :
    RdL w (Go.sliced ao 0 h cap 1) (ls.take h) ∧ RdL w (Go.sliced ao h n cap 1) (ls.drop h) := by
  obtain ⟨vs, h1, h2, h3, h4⟩ := hr
  refine ⟨⟨vs.take h, h1.upto hh, by simp [h2], fun u hu => h3 u (List.mem_of_mem_take hu), fun i u l hu hl => ?_⟩, ⟨vs.drop h, h1.from hh, by simp [h2], fun u hu => h3 u (List.mem_of_mem_drop hu), fun i u l hu hl => ?_⟩⟩
  · rw [List.getElem?_take] at hu hl
    split at hu
    · rename_i hi
      rw [if_pos hi] at hl
      exact h4 i u l hu hl
    · cases hu
  · rw [List.getElem?_drop] at hu hl
    exact h4 _ u l hu hl

theorem RdL.below {w w' : World} {v : Value} {ls : List (List Cl)} (h : RdL w v ls) (hb : Below w.heap.size w w') : RdL w' v ls := by
  obtain ⟨vs, h1, h2, h3, h4⟩ := h
  exact ⟨vs, h1.below hb, h2, h3, fun i u l hu hl => (h4 i u l hu hl).below hb⟩

theorem RdL.shape {w : World} {v : Value} {ls : List (List Cl)} (h : RdL w v ls) : ∃ ao cap, v = .slice ao ls.length cap ∧ ls.length ≤ cap ∧ cap ≤ maxLen := by
  obtain ⟨vs, h1, h2, h3, h4⟩ := h
  obtain ⟨ao, cap, hv, h5, h6⟩ := h1.shape
  rw [h2] at hv h5
  exact ⟨ao, cap, hv, h5, h6⟩


/-- The faults that Sort tells. -/
def sortF (cs : List Cl) : Int × Int := faultR (fun i => codeC (cs.getD i zeroC)) cs.length


end Go.Proofs.Ytdodajalejfbiad

/-
  The walks over the document's answers of cells: what is seen.
-/
namespace Go.Proofs.Ytdodajalejfbiad
open Go.RowKit

/-- A place at a time. -/
def hitB (k : Ky) (t : Int) (c : Cl) : Bool := isAt k c && decide (c.time ≤ t)
/-- The cell that the document sees. -/
def seenR (cs : List Cl) (k : Ky) (t : Int) : Cl × Bool :=
  match cs.find? (hitB k t) with
  | none => (zeroC, false)
  | some c => if c.gone then (zeroC, false) else (c, true)

theorem find_snoc {p : Cl → Bool} {cs : List Cl} {k : Nat} {c : Cl} (hc : cs[k]? = some c) (h : (cs.take k).find? p = none) (hp : p c = false) : (cs.take (k + 1)).find? p = none := by
  rw [List.take_add_one, hc, List.find?_append, h]
  simp [hp]

theorem find_now {p : Cl → Bool} {cs : List Cl} {k : Nat} {c : Cl} (hc : cs[k]? = some c) (h : (cs.take k).find? p = none) (hp : p c = true) : cs.find? p = some c := by
  obtain ⟨hk, e⟩ := List.getElem?_eq_some_iff.1 hc
  have : cs = cs.take k ++ c :: cs.drop (k + 1) := by rw [← e, ← List.drop_eq_getElem_cons hk, List.take_append_drop]
  rw [this, List.find?_append, h]
  simp [hp]

theorem hitB_later {cs : List Cl} (hp : cs.Pairwise Lt) {j k : Nat} {c d : Cl} (hj : cs[j]? = some d) (hk : cs[k]? = some c) (hjk : j < k) (hrc : rc c = rc d) : decide (d.time < c.time) = false := by
  obtain ⟨h1, e1⟩ := List.getElem?_eq_some_iff.1 hj
  obtain ⟨h2, e2⟩ := List.getElem?_eq_some_iff.1 hk
  have := List.pairwise_iff_getElem.1 hp j k h1 h2 hjk
  rw [e1, e2] at this
  rcases this with h | ⟨_, h⟩
  · exact absurd hrc.symm (kl_ne h)
  · simp; omega

theorem hit_cases (row col : ByteArray) (t : Int) (c : Cl) : hitB (row.toList, col.toList) t c = false ∧ (c.row.toList == row.toList) = false ∨ hitB (row.toList, col.toList) t c = false ∧ (c.row.toList == row.toList) = true ∧ (c.col.toList == col.toList) = false ∨ hitB (row.toList, col.toList) t c = false ∧ (c.row.toList == row.toList) = true ∧ (c.col.toList == col.toList) = true ∧ decide (c.time ≤ t) = false ∨ hitB (row.toList, col.toList) t c = true ∧ (c.row.toList == row.toList) = true ∧ (c.col.toList == col.toList) = true ∧ decide (c.time ≤ t) = true := by
  unfold hitB isAt
  cases (c.row.toList == row.toList) <;> cases (c.col.toList == col.toList) <;> cases decide (c.time ≤ t) <;> simp

theorem hitB_rc {k : Ky} {t : Int} {c : Cl} (h : hitB k t c = true) : rc c = k := by
  unfold hitB at h
  rw [Bool.and_eq_true] at h
  exact isAt_iff.1 h.1

theorem RdC.hereC {w : World} {ao : Option Addr} {n cap : Nat} {cs : List Cl} (h : RdC w (.slice ao n cap) cs) {i : Nat} {c : Cl} (hi : cs[i]? = some c) :
    ∃ b off, ao = some ⟨b, off, none⟩ ∧ b < w.heap.size ∧ At w b (off + i * 5) c := by
  obtain ⟨ao', cap', hv, _, _, hat⟩ := h.at
  simp only [Value.slice.injEq] at hv
  obtain ⟨rfl, _, _⟩ := hv
  obtain ⟨hl, e⟩ := List.getElem?_eq_some_iff.1 hi
  obtain ⟨b, off, ha, hb, hc⟩ := hat i hl
  exact ⟨b, off, ha, hb, e ▸ hc i hl⟩


end Go.Proofs.Ytdodajalejfbiad

/-
  Plain maths of the law CellScans.
-/
namespace Go.Proofs.Ytdodajalejfbiad
open Go.RowKit

theorem vis_sub (t : Int) (cs : List Cl) : (vis t cs).Sublist cs := visGo_sub t cs zeroC

/-- Where Scan has no fault. -/
theorem scanC_fine {cs : List Cl} {a b : ByteArray} {t m : Int} (h : (scanC cs a b t m).2.1 = 0) :
    (checkC cs).1 = 0 ∧ isNumB t = true ∧ 0 ≤ m ∧ m ≤ 1000 ∧ (scanC cs a b t m).1 = ((vis t cs).filter fun c => askB a b c.row).take m.toNat := by
  unfold scanC at h ⊢
  by_cases h1 : (checkC cs).1 = 0
  · rw [if_neg (by omega)] at h ⊢
    by_cases h2 : isNumB t = false
    · rw [if_pos h2] at h; simp at h
    · rw [if_neg h2] at h ⊢
      by_cases h3 : m < 0 ∨ 1000 < m
      · rw [if_pos h3] at h; simp at h
      · rw [if_neg h3]
        refine ⟨h1, by simpa using h2, by omega, by omega, ?_⟩
        rw [scanGo_eq]
        simp [vis]
  · rw [if_pos h1] at h
    exact absurd h h1

theorem getC_fine {cs : List Cl} {row col : ByteArray} {t : Int} (h1 : (checkC cs).1 = 0) (h2 : isNumB t = true) :
    getC cs row col t = match (vis t cs).find? (isAt (row.toList, col.toList)) with
      | some c => (c.val, true, (0, 0))
      | none => (⟨#[]⟩, false, (0, 0)) := by
  rw [getC_ok h1 h2, getGo_eq]
  unfold vis
  cases (visGo t zeroC cs).find? (isAt (row.toList, col.toList)) <;> rfl

/-- What Scan tells is what Get tells. -/
theorem scan_get {cs : List Cl} {a b : ByteArray} {t m : Int} (h : (scanC cs a b t m).2.1 = 0) {c : Cl} (hc : c ∈ (scanC cs a b t m).1) : getC cs c.row c.col t = (c.val, true, (0, 0)) := by
  obtain ⟨h1, h2, _, _, h5⟩ := scanC_fine h
  rw [h5] at hc
  have hv : c ∈ vis t cs := (List.mem_filter.1 (List.mem_of_mem_take hc)).1
  rw [getC_fine h1 h2, show (c.row.toList, c.col.toList) = rc c from rfl, find_pw (vis_pw t h1) hv]

theorem scan_pw {cs : List Cl} {a b : ByteArray} {t m : Int} (h : (scanC cs a b t m).2.1 = 0) : (scanC cs a b t m).1.Pairwise (fun a b => kl (rc a) (rc b)) := by
  obtain ⟨h1, _, _, _, h5⟩ := scanC_fine h
  rw [h5]
  exact ((vis_pw t h1).filter _).take

/-- The test that the law makes of two neighbours. -/
theorem kl_tests {c d : Cl} (h : kl (rc c) (rc d)) : bl d.row.toList c.row.toList = false ∧ ((d.row.toList == c.row.toList) = false ∨ (d.row.toList == c.row.toList) = true ∧ bl d.col.toList c.col.toList = false ∧ (d.col.toList == c.col.toList) = false) := by
  rcases h with h | ⟨e, h⟩
  · have := bl_ne h
    exact ⟨bl_asymm h, .inl (beq_eq_false_iff_ne.2 (fun e => this e.symm))⟩
  · have e' : c.row.toList = d.row.toList := e
    have := bl_ne h
    exact ⟨by rw [e']; exact bl_irrefl _, .inr ⟨beq_iff_eq.2 e'.symm, bl_asymm h, beq_eq_false_iff_ne.2 (fun e => this e.symm)⟩⟩

/-- How many numbers below k pass. -/
def cntUp (f : Nat → Bool) : Nat → Nat
  | 0 => 0
  | k + 1 => cntUp f k + if f k then 1 else 0

theorem cntUp_no {f : Nat → Bool} {k : Nat} (h : f k = false) : cntUp f (k + 1) = cntUp f k := by simp [cntUp, h]
theorem cntUp_yes {f : Nat → Bool} {k : Nat} (h : f k = true) : cntUp f (k + 1) = cntUp f k + 1 := by simp [cntUp, h]

theorem cntUp_le (f : Nat → Bool) : ∀ k, cntUp f k ≤ k
  | 0 => Nat.le_refl _
  | k + 1 => by have := cntUp_le f k; unfold cntUp; split <;> omega

theorem cntUp_eq (f : Nat → Bool) : ∀ k, cntUp f k = ((List.range k).filter f).length
  | 0 => rfl
  | k + 1 => by
    rw [List.range_succ, List.filter_append, List.length_append, ← cntUp_eq f k, cntUp]
    cases h : f k <;> simp [h]

/-- A number at which another place begins. -/
def headB (cs : List Cl) (i : Nat) : Bool := i == 0 || rc (cs.getD (i - 1) zeroC) != rc (cs.getD i zeroC)
/-- Does the law count this number? -/
def okScan (cs : List Cl) (a b : ByteArray) (t : Int) (i : Nat) : Bool :=
  headB cs i && askB a b (cs.getD i zeroC).row && ((vis t cs).find? (isAt (rc (cs.getD i zeroC)))).isSome

theorem pw_get {cs : List Cl} (h : cs.Pairwise Lt) {i j : Nat} (hj : j < cs.length) (hij : i < j) : Lt (cs.getD i zeroC) (cs.getD j zeroC) := by
  have := List.pairwise_iff_getElem.1 h i j (by omega) hj hij
  simpa [List.getD_eq_getElem?_getD, hj, show i < cs.length by omega] using this

theorem head_kl {cs : List Cl} (h : cs.Pairwise Lt) {i j : Nat} (hj : j < cs.length) (hij : i < j) (hh : headB cs j = true) : kl (rc (cs.getD i zeroC)) (rc (cs.getD j zeroC)) := by
  unfold headB at hh
  have hj0 : (j == 0) = false := by simp; omega
  rw [hj0, Bool.false_or, bne_iff_ne] at hh
  have h1 := (Lt_le (pw_get h hj (show j - 1 < j by omega))).resolve_right hh
  by_cases e : i = j - 1
  · rw [e]; exact h1
  · rcases Lt_le (pw_get h (show j - 1 < cs.length by omega) (show i < j - 1 by omega)) with h2 | h2
    · exact kl_trans h2 h1
    · rw [h2]; exact h1

/-- There is a first number of a place. -/
theorem head_of {cs : List Cl} : ∀ (j : Nat), j < cs.length → ∃ i, i ≤ j ∧ headB cs i = true ∧ rc (cs.getD i zeroC) = rc (cs.getD j zeroC)
  | 0, _ => ⟨0, Nat.le_refl _, rfl, rfl⟩
  | j + 1, hj => by
    by_cases e : rc (cs.getD j zeroC) = rc (cs.getD (j + 1) zeroC)
    · obtain ⟨i, h1, h2, h3⟩ := head_of (cs := cs) j (by omega)
      exact ⟨i, by omega, h2, h3.trans e⟩
    · refine ⟨j + 1, Nat.le_refl _, ?_, rfl⟩
      unfold headB
      rw [show j + 1 - 1 = j from rfl, bne_iff_ne.2 e, Bool.or_true]

theorem askB_rc {a b : ByteArray} {c d : Cl} (h : rc c = rc d) : askB a b c.row = askB a b d.row := by
  have : c.row.toList = d.row.toList := congrArg Prod.fst h
  unfold askB
  rw [this]

/-- What the law counts is as many as are seen. -/
theorem cnt_all {cs : List Cl} (a b : ByteArray) (t : Int) (h : (checkC cs).1 = 0) : cntUp (okScan cs a b t) cs.length = ((vis t cs).filter fun c => askB a b c.row).length := by
  have hp := fine_pw h
  have hv := vis_pw t h
  have hall : ((List.range cs.length).filter (okScan cs a b t)).map (fun i => rc (cs.getD i zeroC)) = ((vis t cs).filter fun c => askB a b c.row).map rc := ?_
  · have := congrArg List.length hall
    rw [List.length_map, List.length_map] at this
    rw [cntUp_eq, this]
  refine pw_ext kl_irrefl (fun _ _ _ => kl_trans) ?_ ?_ ?_
  · rw [List.pairwise_map]
    have h1 : ((List.range cs.length).filter (okScan cs a b t)).Pairwise (· < ·) := List.pairwise_lt_range.filter _
    refine h1.imp_of_mem fun {i j} hi hj hij => ?_
    rw [List.mem_filter, List.mem_range] at hi hj
    have hh : headB cs j = true := by
      have := hj.2
      unfold okScan at this
      simp only [Bool.and_eq_true] at this
      exact this.1.1
    exact head_kl hp hj.1 hij hh
  · rw [List.pairwise_map]
    exact hv.filter _
  · intro k
    simp only [List.mem_map, List.mem_filter, List.mem_range]
    constructor
    · rintro ⟨i, ⟨hi, hok⟩, rfl⟩
      unfold okScan at hok
      simp only [Bool.and_eq_true, Option.isSome_iff_exists] at hok
      obtain ⟨⟨_, h2⟩, d, hd⟩ := hok
      have hd1 := isAt_iff.1 (List.find?_some hd)
      exact ⟨d, ⟨List.mem_of_find?_eq_some hd, by rw [askB_rc hd1]; exact h2⟩, hd1⟩
    · rintro ⟨d, ⟨hd, hask⟩, rfl⟩
      obtain ⟨j, hj, e⟩ := List.getElem_of_mem ((vis_sub t cs).subset hd)
      have ej : cs.getD j zeroC = d := by simp [List.getD_eq_getElem?_getD, hj, e]
      obtain ⟨i, h1, h2, h3⟩ := head_of (cs := cs) j hj
      rw [ej] at h3
      refine ⟨i, ⟨by omega, ?_⟩, h3⟩
      unfold okScan
      rw [h2, askB_rc h3, hask, h3, find_pw hv hd]
      rfl

theorem okAt_get {cs : List Cl} {a b : ByteArray} {t : Int} (h1 : (checkC cs).1 = 0) (h2 : isNumB t = true) {i : Nat} {c : Cl} (hc : cs.getD i zeroC = c) : okScan cs a b t i = (headB cs i && askB a b c.row && (getC cs c.row c.col t).2.1) := by
  unfold okScan
  rw [hc, getC_fine h1 h2, show (c.row.toList, c.col.toList) = rc c from rfl]
  cases (vis t cs).find? (isAt (rc c)) <;> rfl

theorem getC_code {cs : List Cl} {row col : ByteArray} {t : Int} (h1 : (checkC cs).1 = 0) (h2 : isNumB t = true) : (getC cs row col t).2.2 = (0, 0) := by
  rw [getC_ok h1 h2]

theorem getC_split {cs : List Cl} {row col : ByteArray} {t : Int} (h : (getC cs row col t).2.2 = (0, 0)) : ∃ gv gi, getC cs row col t = (gv, gi, (0, 0)) :=
  ⟨(getC cs row col t).1, (getC cs row col t).2.1, by rw [← h]⟩

theorem head_cases {cs : List Cl} {k : Nat} {c d : Cl} (hk : k ≠ 0) (hc : cs.getD k zeroC = c) (hd : cs.getD (k - 1) zeroC = d) :
    headB cs k = false ∧ (d.row.toList == c.row.toList) = true ∧ (d.col.toList == c.col.toList) = true ∨ headB cs k = true ∧ (d.row.toList == c.row.toList) = true ∧ (d.col.toList == c.col.toList) = false ∨ headB cs k = true ∧ (d.row.toList == c.row.toList) = false := by
  have hk0 : (k == 0) = false := by simp [hk]
  have e : headB cs k = !((d.row.toList == c.row.toList) && (d.col.toList == c.col.toList)) := by
    unfold headB
    rw [hd, hc, hk0]
    simp only [Bool.false_or, rc]
    rfl
  rw [e]
  cases (d.row.toList == c.row.toList) <;> cases (d.col.toList == c.col.toList) <;> simp

theorem ask_cases (a b row : ByteArray) : askB a b row = false ∧ Op.bytesLess row.toList a.toList = true ∨ askB a b row = true ∧ Op.bytesLess row.toList a.toList = false ∧ b.toList.isEmpty = true ∨ askB a b row = true ∧ Op.bytesLess row.toList a.toList = false ∧ b.toList.isEmpty = false ∧ Op.bytesLess row.toList b.toList = true ∨ askB a b row = false ∧ Op.bytesLess row.toList a.toList = false ∧ b.toList.isEmpty = false ∧ Op.bytesLess row.toList b.toList = false := by
  unfold askB
  cases Op.bytesLess row.toList a.toList <;> cases b.toList.isEmpty <;> cases Op.bytesLess row.toList b.toList <;> simp

theorem scan_count {cs : List Cl} {a b : ByteArray} {t m : Int} (h : (scanC cs a b t m).2.1 = 0) (hl : ((scanC cs a b t m).1.length : Int) ≠ m) : cntUp (okScan cs a b t) cs.length = (scanC cs a b t m).1.length := by
  obtain ⟨h1, _, h3, _, h5⟩ := scanC_fine h
  rw [cnt_all a b t h1, h5, List.length_take]
  rw [h5, List.length_take] at hl
  omega

end Go.Proofs.Ytdodajalejfbiad

/-
  The walks over the document's answers of cells: scans.
-/
namespace Go.Proofs.Ytdodajalejfbiad
open Go.RowKit

/-- What is wrong with an ask. -/
def askF (t m : Int) : Int × Int := if isNumB t = false then (3, -1) else if m < 0 ∨ 1000 < m then (3, -2) else (0, 0)


/-- Does the document's scan take this cell? -/
def takeB (cs : List Cl) (a b : ByteArray) (t : Int) (c : Cl) : Bool := askB a b c.row && ((seenR cs (rc c) t).2 && eqC (seenR cs (rc c) t).1 c)
/-- What the document scans. -/
def scannedR (cs : List Cl) (a b : ByteArray) (t m : Int) : List Cl := (cs.filter (takeB cs a b t)).take m.toNat

theorem filter_snoc {p : Cl → Bool} {cs : List Cl} {k : Nat} {c : Cl} (hc : cs[k]? = some c) : (cs.take (k + 1)).filter p = (cs.take k).filter p ++ if p c then [c] else [] := by
  rw [List.take_add_one, hc, List.filter_append]
  simp [List.filter_cons]

theorem scanned_end {cs : List Cl} {p : Cl → Bool} {k : Nat} {m : Int} (h : k = cs.length ∨ m ≤ ((cs.take k).filter p).length) (h2 : (((cs.take k).filter p).length : Int) ≤ m) : (cs.filter p).take m.toNat = (cs.take k).filter p := by
  have e : cs.filter p = (cs.take k).filter p ++ (cs.drop k).filter p := by rw [← List.filter_append, List.take_append_drop]
  rcases h with h | h
  · subst h
    rw [List.take_length] at h2 ⊢
    rw [List.take_of_length_le (by omega)]
  · rw [e, List.take_append, List.take_of_length_le (by omega), show m.toNat - ((cs.take k).filter p).length = 0 by omega, List.take_zero, List.append_nil]

theorem eqC_cases (d c : Cl) : eqC d c = true ∧ d = c ∨ eqC d c = false ∧ ((d.row.toList == c.row.toList) = false ∨ (d.row.toList == c.row.toList) = true ∧ (d.col.toList == c.col.toList) = false ∨ (d.row.toList == c.row.toList) = true ∧ (d.col.toList == c.col.toList) = true ∧ (d.time == c.time) = false ∨ (d.row.toList == c.row.toList) = true ∧ (d.col.toList == c.col.toList) = true ∧ (d.time == c.time) = true ∧ (d.gone == c.gone) = false ∨ (d.row.toList == c.row.toList) = true ∧ (d.col.toList == c.col.toList) = true ∧ (d.time == c.time) = true ∧ (d.gone == c.gone) = true ∧ (d.val.toList == c.val.toList) = false) := by
  cases h : eqC d c
  · right
    refine ⟨rfl, ?_⟩
    unfold eqC at h
    revert h
    cases (d.row.toList == c.row.toList) <;> cases (d.col.toList == c.col.toList) <;> cases h3 : (d.time == c.time) <;> cases (d.gone == c.gone) <;> cases (d.val.toList == c.val.toList) <;> simp_all
  · exact .inl ⟨rfl, eqC_iff.1 h⟩


end Go.Proofs.Ytdodajalejfbiad

/-
  Plain maths of the law CellAsks: what the document sees is what is seen.
-/
namespace Go.Proofs.Ytdodajalejfbiad
open Go.RowKit

def unGone : Option Cl → Option Cl
  | none => none
  | some c => if c.gone then none else some c

theorem visGo_find_none (t : Int) (k : Ky) {cs : List Cl} {nw : Cl} (hp : cs.Pairwise Lt) (hn : ∀ c ∈ cs, kl (rc nw) (rc c) ∨ rc nw = rc c) (hk : k = rc nw) : (visGo t nw cs).find? (isAt k) = none := by
  rw [List.find?_eq_none]
  intro d hd h
  have h1 := (visGo_pw t cs nw hp hn).1 d hd
  rw [isAt_iff] at h
  exact kl_ne h1 (by rw [h, hk])

theorem visGo_find (t : Int) (k : Ky) : ∀ (cs : List Cl) (nw : Cl), cs.Pairwise Lt → (∀ c ∈ cs, kl (rc nw) (rc c) ∨ rc nw = rc c) → k ≠ rc nw →
    (visGo t nw cs).find? (isAt k) = unGone (cs.find? (hitB k t))
  | [], _, _, _, _ => rfl
  | c :: r, nw, hp, hn, hk => by
    obtain ⟨hp1, hp2⟩ := List.pairwise_cons.1 hp
    cases hh : hid t nw c
    · have hx : ¬ (t < c.time ∨ rc c = rc nw) := fun h => by rw [hid_iff.2 h] at hh; cases hh
      have hnx : nextN t nw c = c := by simp [nextN, hh]
      have hge : ∀ d ∈ r, kl (rc c) (rc d) ∨ rc c = rc d := fun d hd => Lt_le (hp1 d hd)
      unfold visGo
      rw [hnx]
      by_cases e : k = rc c
      · have hhit : hitB k t c = true := by
          unfold hitB
          rw [isAt_iff.2 e.symm, Bool.true_and, decide_eq_true_eq]
          omega
        rw [List.find?_cons_of_pos hhit]
        cases hg : c.gone
        · rw [if_pos (by simp [seenB, hh, hg]), List.find?_cons_of_pos (isAt_iff.2 e.symm)]
          simp [unGone, hg]
        · rw [if_neg (by simp [seenB, hg]), visGo_find_none t k hp2 hge e]
          simp [unGone, hg]
      · have hat : isAt k c = false := by
          cases h : isAt k c
          · rfl
          · exact absurd (isAt_iff.1 h).symm e
        have hhit : hitB k t c = false := by unfold hitB; rw [hat]; rfl
        rw [List.find?_cons_of_neg (by rw [hhit]; decide), ← visGo_find t k r c hp2 hge e]
        split
        · rw [List.find?_cons_of_neg (by rw [hat]; decide)]
        · rfl
    · have hnx : nextN t nw c = nw := by simp [nextN, hh]
      have hs : seenB t nw c = false := by simp [seenB, hh]
      have hhit : hitB k t c = false := by
        cases h : hitB k t c
        · rfl
        · have h1 := hitB_rc h
          unfold hitB at h
          rw [Bool.and_eq_true, decide_eq_true_eq] at h
          rcases hid_iff.1 hh with h2 | h2
          · omega
          · exact absurd (h1.symm.trans h2) hk
      unfold visGo
      rw [hnx, hs, if_neg (by decide), visGo_find t k r nw hp2 (fun d hd => hn d (by simp [hd])) hk, List.find?_cons_of_neg (by rw [hhit]; decide)]

theorem vis_find {cs : List Cl} (t : Int) (k : Ky) (h : (checkC cs).1 = 0) : (vis t cs).find? (isAt k) = unGone (cs.find? (hitB k t)) := by
  have hz : ∀ c ∈ cs, kl (rc zeroC) (rc c) := fun c hc => kl_zero (fine_code h hc)
  by_cases e : k = rc zeroC
  · unfold vis
    rw [visGo_find_none t k (fine_pw h) (fun c hc => .inl (hz c hc)) e]
    have : cs.find? (hitB k t) = none := by
      rw [List.find?_eq_none]
      intro c hc hh
      exact kl_ne (hz c hc) (by rw [hitB_rc hh, e])
    rw [this]
    rfl
  · exact visGo_find t k cs zeroC (fine_pw h) (fun c hc => .inl (hz c hc)) e

theorem seenR_vis {cs : List Cl} (t : Int) (k : Ky) (h : (checkC cs).1 = 0) : seenR cs k t = match (vis t cs).find? (isAt k) with
    | none => (zeroC, false)
    | some c => (c, true) := by
  rw [vis_find t k h]
  unfold seenR
  cases cs.find? (hitB k t) with
  | none => rfl
  | some c => cases hg : c.gone <;> simp [unGone, hg]

theorem get_seen {cs : List Cl} {row col : ByteArray} {t : Int} (h1 : (checkC cs).1 = 0) (h2 : isNumB t = true) : getC cs row col t = ((seenR cs (row.toList, col.toList) t).1.val, (seenR cs (row.toList, col.toList) t).2, (0, 0)) := by
  rw [getC_fine h1 h2, seenR_vis t _ h1]
  cases (vis t cs).find? (isAt (row.toList, col.toList)) <;> rfl

theorem scanned_vis {cs : List Cl} (a b : ByteArray) (t : Int) (h : (checkC cs).1 = 0) : cs.filter (takeB cs a b t) = (vis t cs).filter fun c => askB a b c.row := by
  have hv := vis_pw t h
  refine pw_ext Lt_irrefl (fun _ _ _ => Lt_trans) ((fine_pw h).filter _) (((fine_pw h).sublist (vis_sub t cs)).filter _) fun c => ?_
  rw [List.mem_filter, List.mem_filter]
  unfold takeB
  rw [seenR_vis t _ h]
  constructor
  · rintro ⟨hc, ht⟩
    rw [Bool.and_eq_true, Bool.and_eq_true] at ht
    obtain ⟨h1, h2, h3⟩ := ht
    cases hf : (vis t cs).find? (isAt (rc c)) with
    | none => rw [hf] at h2; cases h2
    | some d =>
      rw [hf] at h3
      have e := eqC_iff.1 h3
      simp only at e
      subst e
      exact ⟨List.mem_of_find?_eq_some hf, h1⟩
  · rintro ⟨hc, ha⟩
    refine ⟨(vis_sub t cs).subset hc, ?_⟩
    rw [find_pw hv hc, ha]
    simp [eqC_iff.2 rfl]

theorem scan_scanned {cs : List Cl} {a b : ByteArray} {t m : Int} (h : (scanC cs a b t m).2.1 = 0) : (scanC cs a b t m).1 = scannedR cs a b t m := by
  obtain ⟨h1, _, _, _, h5⟩ := scanC_fine h
  rw [h5, scannedR, scanned_vis a b t h1]

/-- The faults of Scan: those of the cells, then those of the ask. -/
theorem scan_fault {cs : List Cl} {a b : ByteArray} {t m : Int} : (scanC cs a b t m).2 = if (checkC cs).1 = 0 then askF t m else checkC cs := by
  unfold scanC askF
  by_cases h1 : (checkC cs).1 = 0
  · rw [if_neg (by omega), if_pos h1]
    by_cases h2 : isNumB t = false
    · rw [if_pos h2, if_pos h2]
    · rw [if_neg h2, if_neg h2]
      split <;> rfl
  · rw [if_pos h1, if_neg h1]

theorem scan_bad {cs : List Cl} {a b : ByteArray} {t m : Int} (h : (scanC cs a b t m).2.1 ≠ 0) : (scanC cs a b t m).1 = [] := by
  unfold scanC at h ⊢
  by_cases h1 : (checkC cs).1 = 0
  · rw [if_neg (by omega)] at h ⊢
    by_cases h2 : isNumB t = false
    · rw [if_pos h2]
    · rw [if_neg h2] at h ⊢
      by_cases h3 : m < 0 ∨ 1000 < m
      · rw [if_pos h3]
      · rw [if_neg h3] at h; simp at h
  · rw [if_pos h1]

end Go.Proofs.Ytdodajalejfbiad
