/-
  Texts joined: Base, Base2, Gen, LeaseMath, LeaseMath2, LeaseMath3, LeaseMath4.
-/
import Derived.WalkKit
import Derived.WalkSpells
import Derived.WalkLawsBesides
import Derived.Lib.AppendStr
import Derived.Laws.AppendOwnNone
import Derived.Deep.DeepMust
import Derived.Handy
import Derived.Deep.QuietTactic
import Derived.BigQuiet
import Derived.Deep.DeepCutAuto
import Derived.Deep.RegionWith
/-
  What a slice holds, said of lists: 'Rd w v xs': the slice value v reads, in the world w, as the cells xs. Nothing of a program stands here.
-/
namespace Go.Proofs.Ytbffmdhogehfnaa
open Go.RowKit

theorem hide {p : Prop} (h : p) : Hid p := h
theorem unhide {p : Prop} (h : Hid p) : p := h

/-- The slice v reads as the cells xs. -/
def Rd (w : World) (v : Value) (xs : List Value) : Prop :=
  ∃ ao cap, v = .slice ao xs.length cap ∧ xs.length ≤ cap ∧ cap ≤ maxLen ∧ (ao = none → cap = 0) ∧ ∀ a, ao = some a → ∀ j u, xs[j]? = some u → w.cell? (a.add j) = some u

/-- Bytes as cells. -/
def bc (bs : List UInt8) : List Value := bs.map fun b => Value.int .u8 b.toNat
/-- Ints as cells. -/
def ic (zs : List Int) : List Value := zs.map (Value.int .i64)
/-- Texts as cells. -/
def sc (ss : List (List UInt8)) : List Value := ss.map fun s => Value.string ⟨s.toArray⟩

theorem bc_length (bs : List UInt8) : (bc bs).length = bs.length := by simp [bc]
theorem ic_length (bs : List Int) : (ic bs).length = bs.length := by simp [ic]
theorem sc_length (bs : List (List UInt8)) : (sc bs).length = bs.length := by simp [sc]
theorem bc_append (a b : List UInt8) : bc (a ++ b) = bc a ++ bc b := by simp [bc]
theorem ic_append (a b : List Int) : ic (a ++ b) = ic a ++ ic b := by simp [ic]
theorem sc_append (a b : List (List UInt8)) : sc (a ++ b) = sc a ++ sc b := by simp [sc]
theorem bc_one (bs : List UInt8) : ∀ u ∈ bc bs, u.oneCell' = true := by
  intro u hu
  simp only [bc, List.mem_map] at hu
  obtain ⟨_, _, rfl⟩ := hu
  rfl

theorem ic_one (bs : List Int) : ∀ u ∈ ic bs, u.oneCell' = true := by
  intro u hu
  simp only [ic, List.mem_map] at hu
  obtain ⟨_, _, rfl⟩ := hu
  rfl

theorem sc_one (bs : List (List UInt8)) : ∀ u ∈ sc bs, u.oneCell' = true := by
  intro u hu
  simp only [sc, List.mem_map] at hu
  obtain ⟨_, _, rfl⟩ := hu
  rfl

theorem Rd.nil (w : World) : Rd w (.slice none 0 0) [] := ⟨none, 0, rfl, Nat.le_refl _, Nat.zero_le _, fun _ => rfl, fun a h => by cases h⟩

theorem Rd.ofOwns {w : World} {base : Nat} {e : TypeId} {v : Value} {n : Nat} {xs : List Value} (h : w.ownsRow base e 1 v n xs) : Rd w v xs := by
  have hl : xs.length = n := by simpa using h.1
  rcases h.2 with ⟨rfl, hn⟩ | ⟨g, cap, cur, rfl, hb, hg, hnc, hcm, hcs, htake⟩
  · have : xs = [] := List.eq_nil_of_length_eq_zero (by omega)
    subst this
    exact Rd.nil w
  · refine ⟨some ⟨g, 0, none⟩, cap, by rw [hl], (by omega), hcm, (fun h => by cases h), fun a ha j u hu => ?_⟩
    cases ha
    exact h.cells (by simp [Value.ownBlock]) j u hu

theorem Rd.below {w w' : World} {v : Value} {xs : List Value} (h : Rd w v xs) (hb : Below w.heap.size w w') : Rd w' v xs := by
  obtain ⟨ao, cap, hv, h1, h2, h3, h4⟩ := h
  refine ⟨ao, cap, hv, h1, h2, h3, fun a ha j u hu => ?_⟩
  have hc := h4 a ha j u hu
  have hlt := World.block_lt_of_cell? w _ hc
  rw [hb.cell hlt]
  exact hc

theorem Rd.drew {w : World} {v : Value} {xs : List Value} (h : Rd w v xs) : Rd w.drew v xs := h
theorem Rd.drewN {w : World} {v : Value} {xs : List Value} (h : Rd w v xs) (n : Nat) : Rd (w.drewN n) v xs := h
theorem Rd.alloc {w : World} {v : Value} {xs : List Value} (h : Rd w v xs) (o : Obj) : Rd (w.alloc o) v xs := h.below ((Below.refl _ _).alloc (Nat.le_refl _) o)

theorem add_spot {a : Addr} {w : World} {v : Value} (h : w.cell? (a.add 0) = some v) : ∃ b o, a = ⟨b, o, none⟩ := by
  obtain ⟨b, o, s⟩ := a
  cases s with
  | none => exact ⟨b, o, rfl⟩
  | some s =>
    exfalso
    simp only [Addr.add, if_pos, World.cell?] at h
    split at h <;> simp_all

/-- A slice that holds something: where it lies. -/
theorem Rd.pos {w : World} {v : Value} {xs : List Value} (h : Rd w v xs) (hp : 0 < xs.length) :
    ∃ b off cap, v = .slice (some ⟨b, off, none⟩) xs.length cap ∧ xs.length ≤ cap ∧ cap ≤ maxLen ∧ b < w.heap.size ∧ ∀ j u, xs[j]? = some u → w.cell? ⟨b, off + j, none⟩ = some u := by
  obtain ⟨ao, cap, hv, h1, h2, h3, h4⟩ := h
  cases ao with
  | none => have := h3 rfl; omega
  | some a =>
    have h0 := h4 a rfl 0 xs[0] (by simp)
    obtain ⟨b, o, rfl⟩ := add_spot h0
    refine ⟨b, o, cap, hv, h1, h2, World.block_lt_of_cell? w _ h0, fun j u hu => ?_⟩
    have := h4 _ rfl j u hu
    rwa [Addr.add_lit] at this

/-- The slice's value written out; each cell that is there, at its place. -/
theorem Rd.open {w : World} {v : Value} {xs : List Value} (h : Rd w v xs) :
    ∃ ao cap, v = .slice ao xs.length cap ∧ xs.length ≤ cap ∧ cap ≤ maxLen ∧ ∀ j, j < xs.length → ∃ b off, ao = some ⟨b, off, none⟩ ∧ b < w.heap.size ∧ ∀ i u, xs[i]? = some u → w.cell? ⟨b, off + i, none⟩ = some u := by
  by_cases hp : 0 < xs.length
  · obtain ⟨b, off, cap, hv, h1, h2, h3, h4⟩ := h.pos hp
    exact ⟨_, cap, hv, h1, h2, fun j _ => ⟨b, off, rfl, h3, h4⟩⟩
  · obtain ⟨ao, cap, hv, h1, h2, _⟩ := h
    exact ⟨ao, cap, hv, h1, h2, fun j hj => by omega⟩

theorem Rd.shape {w : World} {v : Value} {xs : List Value} (h : Rd w v xs) : ∃ ao cap, v = .slice ao xs.length cap ∧ xs.length ≤ cap ∧ cap ≤ maxLen := by
  obtain ⟨ao, cap, hv, h1, h2, _⟩ := h
  exact ⟨ao, cap, hv, h1, h2⟩

theorem Rd.new (w : World) (u : Value) (e : TypeId) : Rd (w.alloc (.cells #[u] e)) (.slice (some ⟨w.heap.size, 0, none⟩) 1 1) [u] :=
  ⟨some ⟨w.heap.size, 0, none⟩, 1, rfl, Nat.le_refl _, by decide, (fun h => by cases h), fun a ha j v hv => by
    cases ha
    match j, hv with
    | 0, hv => simp at hv; subst hv; simp [Addr.add]⟩

/-- 'append(out, xs...)', out the call's own, xs whatever reads as cells: nil, empty or not. -/
theorem wpList_append_rd {P : Program} {w : World} {ops : Array Oper} {rest : List Oper} {o : Oper} {a : Act} {Q : Exit → Act → World → Prop} {s x : Operand} {t : TypeId} {base : Nat} {e : TypeId} {z : Value} {bytes : Nat}
    {v : Value} {n : Nat} {xs : List Value} {vx : Value} {news : List Value}
    (hown : w.ownsRow base e 1 v n xs) (hrd : Rd w vx news)
    (ht : P.underlying t = some (.slice e)) (hinf : (P.info? e).map (fun i => (i.zero, i.size, i.bytes)) = some (some z, 1, bytes)) (hzs : z.cells.size = 1)
    (hgd : o.guard = none) (ho : o.op = .call { callee := .builtin .append, args := #[s, x], argTypes := #[t, t] })
    (hs : a.eval s = v) (hx : a.eval x = vx) (h1 : ∀ u ∈ news, u.oneCell' = true)
    (h63 : n + news.length ≤ 2000000000000) (hbytes : bytes ≤ 64) (hbase : base ≤ w.heap.size)
    (h : ∀ v' w', w'.ownsRow base e 1 v' (n + news.length) (xs ++ news) → Below base w w' → w.grownBy w' v.ownBlock → wpList P ops Q rest (a.put o.dst v') w') : wpList P ops Q (o :: rest) a w := by
  obtain ⟨i, hi, hz, hsize, hby⟩ := info_parts hinf
  have hlt := hown.lt
  have hbytes' : (n + news.length) * bytes ≤ 2000000000000 * 64 := Nat.mul_le_mul h63 hbytes
  obtain ⟨ao, cap, hvx, h2, h3, h4, h5⟩ := hrd
  cases ao with
  | none =>
    have hc := h4 rfl
    have hnews : news = [] := List.eq_nil_of_length_eq_zero (by omega)
    subst hnews
    subst hc
    refine wpList_append_own_none hgd s x t ho base e i 1 ht hi v n xs hs hown (hx.trans hvx) ?_
    exact h v w (by simpa using hown) (Below.refl _ _) (World.grownBy.refl _ _)
  | some ad =>
    refine wpList_append_own w hgd s x t ho base e i z 1 bytes ht hi hz hsize hby hzs (by decide) v n xs hs hown ad news.length cap news (hx.trans hvx) (by simp) (h5 ad rfl) h1 (by simp [maxLen]; omega) (by omega) hbase ?_
    intro v' w' ho' hg' _
    exact h v' w' ho' ((Below.refl _ _).grown hg' hbase (fun k hk => (hlt k hk).1)) hg'

/-- 'append(out, u)', out the call's own: u was laid in a block of its own just ahead. -/
theorem wpList_append_one {P : Program} {w : World} {u : Value} {ops : Array Oper} {rest : List Oper} {o : Oper} {a : Act} {Q : Exit → Act → World → Prop} {s x : Operand} {t : TypeId} {base : Nat} {e : TypeId} {z : Value} {bytes : Nat}
    {v : Value} {n : Nat} {xs : List Value}
    (hown : w.ownsRow base e 1 v n xs)
    (ht : P.underlying t = some (.slice e)) (hinf : (P.info? e).map (fun i => (i.zero, i.size, i.bytes)) = some (some z, 1, bytes)) (hzs : z.cells.size = 1)
    (hgd : o.guard = none) (ho : o.op = .call { callee := .builtin .append, args := #[s, x], argTypes := #[t, t] })
    (hs : a.eval s = v) (hx : a.eval x = .slice (some ⟨w.heap.size, 0, none⟩) 1 1) (h1 : u.oneCell' = true)
    (h63 : n ≤ 1000000000000) (hbytes : bytes ≤ 64) (hbase : base ≤ w.heap.size)
    (h : ∀ v' w', w'.ownsRow base e 1 v' (n + 1) (xs ++ [u]) → Below base w w' → w.grownBy w' v.ownBlock → wpList P ops Q rest (a.put o.dst v') w') : wpList P ops Q (o :: rest) a (w.alloc (.cells #[u] e)) := by
  refine wpList_append_rd (hown.alloc _) (Rd.new _ u _) ht hinf hzs hgd ho hs hx (by simpa using h1) (by simp; omega) hbytes (by simp; omega) ?_
  intro v' w' h2 h3 h4
  refine h v' w' h2 (((Below.refl _ _).alloc hbase _).trans h3) ⟨h4.os, h4.tape, h4.output, ?_, fun k hk hne => ?_⟩
  · have := h4.size; simp at this; omega
  · rw [h4.block k (by simp; omega) hne, Below.heap_alloc _ _ _ hk]

/-- A block of two cells that the call laid first, later on. -/
theorem two_later {w wr : World} {x y : Value} {t : TypeId} (h : Below (w.heap.size + 1) (w.alloc (.cells #[x, y] t)) wr) :
    wr.cell? ⟨w.heap.size, 0, none⟩ = some x ∧ wr.cell? ⟨w.heap.size, 1, none⟩ = some y ∧ wr.frozen? ⟨w.heap.size, 0, none⟩ = false ∧ wr.frozen? ⟨w.heap.size, 1, none⟩ = false ∧ w.heap.size < wr.heap.size := by
  refine ⟨?_, ?_, ?_, ?_, ?_⟩
  · rw [h.cell (p := ⟨w.heap.size, 0, none⟩) (by simp)]; simp
  · rw [h.cell (p := ⟨w.heap.size, 1, none⟩) (by simp)]; simp
  · rw [h.frozen (p := ⟨w.heap.size, 0, none⟩) (by simp)]; simp
  · rw [h.frozen (p := ⟨w.heap.size, 1, none⟩) (by simp)]; simp
  · have := h.size; simp at this; omega

/-- What lies below a call's first block is as it was. -/
theorem below_first {w wr : World} {o : Obj} (h : Below (w.heap.size + 1) (w.alloc o) wr) : Below w.heap.size w wr :=
  ((Below.refl _ _).alloc (Nat.le_refl _) o).trans (h.mono (by omega))

/-- The slice v lies in blocks from B on (or nowhere). -/
def New (B : Nat) (v : Value) : Prop := ∀ a l c, v = .slice (some a) l c → B ≤ a.block
theorem New.nil (B : Nat) : New B (.slice none 0 0) := fun a l c h => by simp at h
theorem New.owns {w : World} {base : Nat} {e : TypeId} {size : Nat} {v : Value} {n : Nat} {xs : List Value} (h : w.ownsRow base e size v n xs) : New base v := by
  intro a l c hv
  exact (h.lt a.block (by rw [hv]; rfl)).1

theorem New.mono {B B' : Nat} {v : Value} (h : New B v) (hb : B' ≤ B) : New B' v := fun a l c hv => Nat.le_trans hb (h a l c hv)
theorem Rd.setNew {w : World} {v : Value} {xs : List Value} {B : Nat} (h : Rd w v xs) (hn : New B v) {p : Addr} (hp : p.block < B) (u : Value) : Rd (w.setCell p u) v xs := by
  obtain ⟨ao, cap, hv, h1, h2, h3, h4⟩ := h
  refine ⟨ao, cap, hv, h1, h2, h3, fun a ha j x hx => ?_⟩
  have hc := h4 a ha j x hx
  have e : (a.add j).block = a.block := by unfold Addr.add; split <;> rfl
  have hb : B ≤ a.block := hn a _ _ (by rw [hv, ha])
  rw [← hc]
  exact World.cell?_of_block (heap_setCell_other w p _ u (by rw [e]; omega))

/-- An old slice, while a new block is written. -/
theorem Rd.setOld {w : World} {v : Value} {xs : List Value} {w0 : World} (h0 : Rd w0 v xs) (h : Rd w v xs) {p : Addr} (hp : w0.heap.size ≤ p.block) (u : Value) : Rd (w.setCell p u) v xs := by
  obtain ⟨ao0, cap0, hv0, _, _, _, h40⟩ := h0
  obtain ⟨ao, cap, hv, h1, h2, h3, h4⟩ := h
  rw [hv] at hv0
  simp only [Value.slice.injEq] at hv0
  obtain ⟨rfl, _, _⟩ := hv0
  refine ⟨ao, cap, hv, h1, h2, h3, fun a ha j x hx => ?_⟩
  have hc := h4 a ha j x hx
  have hlt := World.block_lt_of_cell? w0 _ (h40 a ha j x hx)
  rw [← hc]
  exact World.cell?_of_block (heap_setCell_other w p _ u (by omega))

/-- A slice's length: for a loop's measure. -/
def lenV : Value → Nat | .slice _ n _ => n | _ => 0
theorem lenV_owns {w : World} {base : Nat} {e : TypeId} {size : Nat} {v : Value} {n : Nat} {xs : List Value} (h : w.ownsRow base e size v n xs) : lenV v = n := by
  rcases h.2 with ⟨rfl, hn⟩ | ⟨g, cap, cur, rfl, _⟩
  · simp [lenV, hn]
  · rfl

theorem owns_shape {w : World} {base : Nat} {e : TypeId} {v : Value} {n : Nat} {xs : List Value} (h : w.ownsRow base e 1 v n xs) : ∃ ao cap, v = .slice ao n cap := by
  rcases h.2 with ⟨rfl, hn⟩ | ⟨g, cap, cur, rfl, _⟩
  · exact ⟨none, 0, by rw [hn]⟩
  · exact ⟨_, _, rfl⟩

theorem owns_grown {w w' : World} {base : Nat} {e : TypeId} {size : Nat} {v : Value} {n : Nat} {xs : List Value} {R : Nat} (h : w.ownsRow base e size v n xs) (hg : w.grownBy w' (some R)) (hR : R < base) : w'.ownsRow base e size v n xs := by
  refine h.kept hg ?_
  cases hv : v.ownBlock with
  | none => exact .inl rfl
  | some k =>
    right
    have := (h.lt k hv).1
    simp
    omega

theorem strOfNums_bytes (bs : List UInt8) : strOfNums (bs.map fun b => (b.toNat : Int)) = ⟨bs.toArray⟩ := by
  unfold strOfNums
  simp [Function.comp_def]

/-- 'string(b)'. -/
theorem run_string_of_rd {P : Program} {w : World} {src dst e : TypeId} (hs : P.underlying src = some (.slice e)) (he : P.underlying e = some (.int .u8)) (hd : P.underlying dst = some .string) {v : Value} {bs : List UInt8} (h : Rd w v (bc bs)) :
    (convert src dst v).run P w = .ok (.string ⟨bs.toArray⟩) w := by
  by_cases hp : 0 < bs.length
  · obtain ⟨b, off, cap, hv, _, _, _, hc⟩ := h.pos (by rw [bc_length]; exact hp)
    rw [bc_length] at hv
    subst hv
    rw [← strOfNums_bytes]
    refine run_convert_bytes_arg w src e hs he b off bs.length cap _ (by simp) (fun i hi => ?_) dst hd
    refine hc i _ ?_
    simp [bc, hi, List.getD]
  · obtain rfl : bs = [] := List.eq_nil_of_length_eq_zero (by omega)
    obtain ⟨ao, cap, hv, _, _, _, _⟩ := h
    subst hv
    cases ao with
    | none => exact run_convert_bytes_nil w src e hs he _ _ dst hd
    | some a =>
      rw [run_convert_bytes_string w src dst e _ _ cap hs he hd]
      have := run_bytesToString (P := P) w a 0 cap [] (by simpa using run_loadCells_list (P := P) w a [] (fun j u hu => by simp at hu))
      exact this

/-- 'v[lo:hi]'. -/
theorem Rd.sliced {w : World} {ao : Option Addr} {n cap lo hi : Nat} {xs : List Value} (h : Rd w (.slice ao n cap) xs) (h1 : lo ≤ hi) (h2 : hi ≤ n) : Rd w (Go.sliced ao lo hi cap 1) ((xs.drop lo).take (hi - lo)) := by
  obtain ⟨ao', cap', hv, h3, h4, h5, h6⟩ := h
  simp only [Value.slice.injEq] at hv
  obtain ⟨rfl, rfl, rfl⟩ := hv
  have hl : ((xs.drop lo).take (hi - lo)).length = hi - lo := by simp; omega
  refine ⟨_, cap - lo, by rw [hl]; rfl, by omega, by omega, ?_, ?_⟩
  · intro hn
    split at hn
    · omega
    · rw [Option.map_eq_none_iff] at hn
      have := h5 hn
      omega
  · intro a ha j u hu
    have hj : j < hi - lo := by
      have := (List.getElem?_eq_some_iff.1 hu).1
      omega
    rw [List.getElem?_take, if_pos hj, List.getElem?_drop] at hu
    split at ha
    · omega
    · obtain ⟨a0, e0, rfl⟩ := Option.map_eq_some_iff.1 ha
      have h0 := h6 a0 e0 0 xs[0] (by simp)
      obtain ⟨b, o, rfl⟩ := add_spot h0
      have := h6 _ e0 (lo + j) u hu
      simp only [Addr.add_lit, Nat.mul_one] at this ⊢
      rw [Nat.add_assoc]
      exact this

theorem drewN_add (w : World) (p q : Nat) : (w.drewN p).drewN q = w.drewN (p + q) := by
  simp [World.drewN, Nat.add_assoc]

/-- 'v[lo:hi]' as an operation: what it yields, in whatever world. -/
theorem run_slice_rd {P : Program} {t e : TypeId} {z : Value} {bytes : Nat} (ht : P.underlying t = some (.slice e)) (he : P.elem t = e) (hinf : (P.info? e).map (fun i => (i.zero, i.size, i.bytes)) = some (some z, 1, bytes))
    (ao : Option Addr) (n cap lo hi : Nat) (l h : Int) (hl : l = lo) (hh : h = hi) (h1 : lo ≤ hi) (h2 : hi ≤ cap) (W : World) :
    (Instr.slice t (.slice ao n cap) (some (.int .i64 l)) (some (.int .i64 h)) none).run P W = .ok (Go.sliced ao lo hi cap 1) W := by
  obtain ⟨i, hi0, _, hsize, _⟩ := info_parts hinf
  subst hl hh
  rw [run_slice_lh (P := P) W t ao n cap (by rw [he]; exact ht) .i64 .i64 lo hi (by omega) (by omega) (by omega)]
  simp [he, sizeOf, typeInfo, hi0, hsize, Result.andThen]

end Go.Proofs.Ytbffmdhogehfnaa

/-
  More on what slices hold. Nothing of a program stands here.
-/
namespace Go.Proofs.Ytbffmdhogehfnaa
open Go.RowKit

theorem owns_below {w w' : World} {base : Nat} {e : TypeId} {size : Nat} {v : Value} {n : Nat} {xs : List Value} (h : w.ownsRow base e size v n xs) (hb : Below w.heap.size w w') : w'.ownsRow base e size v n xs := by
  refine ⟨h.1, ?_⟩
  rcases h.2 with hn | ⟨g, cap, cur, rfl, hg, hh, r⟩
  · exact .inl hn
  · exact .inr ⟨g, cap, cur, rfl, hg, by rw [hb.block g (Array.getElem?_eq_some_iff.1 hh).1]; exact hh, r⟩

/-- 'v[lo:]' as an operation. -/
theorem run_slice_from {P : Program} {t e : TypeId} {z : Value} {bytes : Nat} (ht : P.underlying t = some (.slice e)) (he : P.elem t = e) (hinf : (P.info? e).map (fun i => (i.zero, i.size, i.bytes)) = some (some z, 1, bytes))
    (ao : Option Addr) (n cap lo : Nat) (l : Int) (hl : l = lo) (h1 : lo ≤ n) (W : World) :
    (Instr.slice t (.slice ao n cap) (some (.int .i64 l)) none none).run P W = .ok (Go.sliced ao lo n cap 1) W := by
  obtain ⟨i, hi0, _, hsize, _⟩ := info_parts hinf
  subst hl
  rw [run_slice_l (P := P) W t ao n cap (by rw [he]; exact ht) .i64 lo (by omega) (by omega)]
  simp [he, sizeOf, typeInfo, hi0, hsize, Result.andThen]

/-- 'v[:hi]' as an operation. -/
theorem run_slice_upto {P : Program} {t e : TypeId} {z : Value} {bytes : Nat} (ht : P.underlying t = some (.slice e)) (he : P.elem t = e) (hinf : (P.info? e).map (fun i => (i.zero, i.size, i.bytes)) = some (some z, 1, bytes))
    (ao : Option Addr) (n cap hi : Nat) (h : Int) (hh : h = hi) (h1 : hi ≤ cap) (W : World) :
    (Instr.slice t (.slice ao n cap) none (some (.int .i64 h)) none).run P W = .ok (Go.sliced ao 0 hi cap 1) W := by
  obtain ⟨i, hi0, _, hsize, _⟩ := info_parts hinf
  subst hh
  rw [run_slice_h (P := P) W t ao n cap (by rw [he]; exact ht) .i64 hi (by omega) (by omega)]
  simp [he, sizeOf, typeInfo, hi0, hsize, Result.andThen]

theorem Rd.from {w : World} {ao : Option Addr} {n cap lo : Nat} {xs : List Value} (h : Rd w (.slice ao n cap) xs) (h1 : lo ≤ n) : Rd w (Go.sliced ao lo n cap 1) (xs.drop lo) := by
  have hn : n = xs.length := by
    obtain ⟨_, _, hv, _⟩ := h
    simp only [Value.slice.injEq] at hv
    exact hv.2.1
  have := h.sliced h1 (Nat.le_refl _)
  rwa [List.take_of_length_le (by rw [List.length_drop, hn]; exact Nat.le_refl _)] at this

theorem Rd.upto {w : World} {ao : Option Addr} {n cap hi : Nat} {xs : List Value} (h : Rd w (.slice ao n cap) xs) (h1 : hi ≤ n) : Rd w (Go.sliced ao 0 hi cap 1) (xs.take hi) := by
  have := h.sliced (Nat.zero_le _) h1
  simpa using this

theorem Rd.len {w : World} {ao : Option Addr} {n cap : Nat} {xs : List Value} (h : Rd w (.slice ao n cap) xs) : n = xs.length ∧ n ≤ cap ∧ cap ≤ maxLen := by
  obtain ⟨ao', cap', hv, h1, h2, _⟩ := h
  simp only [Value.slice.injEq] at hv
  obtain ⟨_, rfl, rfl⟩ := hv
  exact ⟨rfl, h1, h2⟩

theorem bc_drop (bs : List UInt8) (k : Nat) : (bc bs).drop k = bc (bs.drop k) := by simp [bc, List.map_drop]
theorem bc_take (bs : List UInt8) (k : Nat) : (bc bs).take k = bc (bs.take k) := by simp [bc, List.map_take]
theorem sliced_shape (ao : Option Addr) (lo hi cap : Nat) : ∃ a, Go.sliced ao lo hi cap 1 = .slice a (hi - lo) (cap - lo) := ⟨_, rfl⟩

end Go.Proofs.Ytbffmdhogehfnaa

/-
  Lists of flat structures of K places each, as values and in memory, whatever the structure is. Nothing of a program stands here.
-/
namespace Go.Proofs.Ytbffmdhogehfnaa
open Go.RowKit

/-- How a structure of K places lies in memory. -/
structure En (α : Type) (K : Nat) where
  v : α → List Value
  len : ∀ a, (v a).length = K
  one : ∀ a, ∀ u ∈ v a, u.oneCell' = true
  pos : 0 < K

/-- A list's places in memory. -/
def En.vs {α : Type} {K : Nat} (E : En α K) (xs : List α) : List Value := xs.flatMap E.v

/-- A structure as a value. -/
def En.ag {α : Type} {K : Nat} (E : En α K) (x : α) : Value := .agg (E.v x).toArray

section
variable {α : Type} {K : Nat} {E : En α K}

theorem vs_nil : E.vs [] = [] := rfl
theorem vs_cons (c : α) (cs : List α) : E.vs (c :: cs) = E.v c ++ E.vs cs := rfl
theorem vs_append (a b : List α) : E.vs (a ++ b) = E.vs a ++ E.vs b := by simp [En.vs]
theorem vs_one1 (c : α) : E.vs [c] = E.v c := by simp [En.vs]

theorem vs_length : ∀ cs : List α, (E.vs cs).length = cs.length * K
  | [] => by simp [En.vs]
  | c :: cs => by rw [vs_cons, List.length_append, vs_length cs, E.len, List.length_cons, Nat.succ_mul]; omega

theorem vs_one (cs : List α) : ∀ u ∈ E.vs cs, u.oneCell' = true := by
  intro u hu
  simp only [En.vs, List.mem_flatMap] at hu
  obtain ⟨c, _, hu⟩ := hu
  exact E.one c u hu

theorem vs_get : ∀ (cs : List α) (j : Nat) (h : j < cs.length) (k : Nat), k < K → (E.vs cs)[j * K + k]? = (E.v cs[j])[k]?
  | [], j, h, _, _ => by simp at h
  | c :: cs, 0, h, k, hk => by
    rw [vs_cons, Nat.zero_mul, Nat.zero_add, List.getElem?_append_left (by rw [E.len]; omega)]
    simp
  | c :: cs, j + 1, h, k, hk => by
    have e : (j + 1) * K + k = K + (j * K + k) := by rw [Nat.succ_mul]; omega
    rw [vs_cons, List.getElem?_append_right (by rw [E.len, e]; omega)]
    have ih := vs_get cs j (by simpa using h) k hk
    rw [E.len, e, Nat.add_sub_cancel_left, ih]
    simp

theorem vs_drop : ∀ (cs : List α) (k : Nat), (E.vs cs).drop (k * K) = E.vs (cs.drop k)
  | cs, 0 => by simp
  | [], k + 1 => by simp [En.vs]
  | c :: cs, k + 1 => by
    have e : (k + 1) * K = K + k * K := by rw [Nat.succ_mul]; omega
    rw [vs_cons, e, List.drop_append, E.len, Nat.add_sub_cancel_left, List.drop_of_length_le (by rw [E.len]; omega), List.nil_append, List.drop_succ_cons]
    exact vs_drop cs k

theorem vs_take : ∀ (cs : List α) (k : Nat), (E.vs cs).take (k * K) = E.vs (cs.take k)
  | cs, 0 => by simp [En.vs]
  | [], k + 1 => by simp [En.vs]
  | c :: cs, k + 1 => by
    have e : (k + 1) * K = K + k * K := by rw [Nat.succ_mul]; omega
    rw [vs_cons, e, List.take_append, E.len, Nat.add_sub_cancel_left, List.take_of_length_le (by rw [E.len]; omega), List.take_succ_cons, vs_cons, vs_take cs k]

/-- The slice v reads as the structures xs. -/
def RdG (E : En α K) (w : World) (v : Value) (xs : List α) : Prop :=
  ∃ ao cap, v = .slice ao xs.length cap ∧ xs.length ≤ cap ∧ cap ≤ maxLen ∧ (ao = none → cap = 0) ∧ ∀ a, ao = some a → ∀ j u, (E.vs xs)[j]? = some u → w.cell? (a.add j) = some u

theorem RdG.nil (w : World) : RdG E w (.slice none 0 0) [] := ⟨none, 0, rfl, Nat.le_refl _, Nat.zero_le _, fun _ => rfl, fun a h => by cases h⟩

theorem RdG.ofOwns {w : World} {base : Nat} {e : TypeId} {v : Value} {n : Nat} {cs : List α} (h : w.ownsRow base e K v n (E.vs cs)) : RdG E w v cs := by
  have hl : cs.length = n := by
    have := h.1
    rw [vs_length] at this
    exact Nat.eq_of_mul_eq_mul_right E.pos this
  rcases h.2 with ⟨rfl, hn⟩ | ⟨g, cap, cur, rfl, hb, hg, hnc, hcm, hcs, htake⟩
  · have : cs = [] := List.eq_nil_of_length_eq_zero (by omega)
    subst this
    exact RdG.nil w
  · refine ⟨some ⟨g, 0, none⟩, cap, by rw [hl], (by omega), hcm, (fun h => by cases h), fun a ha j u hu => ?_⟩
    cases ha
    exact h.cells (by simp [Value.ownBlock]) j u hu

theorem RdG.below {w w' : World} {v : Value} {cs : List α} (h : RdG E w v cs) (hb : Below w.heap.size w w') : RdG E w' v cs := by
  obtain ⟨ao, cap, hv, h1, h2, h3, h4⟩ := h
  refine ⟨ao, cap, hv, h1, h2, h3, fun a ha j u hu => ?_⟩
  have hc := h4 a ha j u hu
  have hlt := World.block_lt_of_cell? w _ hc
  rw [hb.cell hlt]
  exact hc

theorem RdG.drew {w : World} {v : Value} {cs : List α} (h : RdG E w v cs) : RdG E w.drew v cs := h
theorem RdG.drewN {w : World} {v : Value} {cs : List α} (h : RdG E w v cs) (n : Nat) : RdG E (w.drewN n) v cs := h
theorem RdG.alloc {w : World} {v : Value} {cs : List α} (h : RdG E w v cs) (o : Obj) : RdG E (w.alloc o) v cs := h.below ((Below.refl _ _).alloc (Nat.le_refl _) o)

theorem RdG.shape {w : World} {v : Value} {cs : List α} (h : RdG E w v cs) : ∃ ao cap, v = .slice ao cs.length cap ∧ cs.length ≤ cap ∧ cap ≤ maxLen := by
  obtain ⟨ao, cap, hv, h1, h2, _⟩ := h
  exact ⟨ao, cap, hv, h1, h2⟩

/-- The places of one structure. -/
def AtG (E : En α K) (w : World) (b off : Nat) (c : α) : Prop := ∀ k u, (E.v c)[k]? = some u → w.cell? ⟨b, off + k, none⟩ = some u

theorem AtG.lt {w : World} {b off : Nat} {c : α} (h : AtG E w b off c) : b < w.heap.size := by
  have hl : 0 < (E.v c).length := by rw [E.len]; exact E.pos
  exact World.block_lt_of_cell? w _ (h 0 (E.v c)[0] (by simp))

theorem AtG.below {w w' : World} {b off : Nat} {c : α} (h : AtG E w b off c) (hb : Below w.heap.size w w') : AtG E w' b off c :=
  fun k u hu => (hb.cell h.lt).trans (h k u hu)

/-- Where one of a list lies. -/
theorem RdG.here {w : World} {ao : Option Addr} {n cap : Nat} {cs : List α} (h : RdG E w (.slice ao n cap) cs) {i : Nat} {c : α} (hi : cs[i]? = some c) :
    ∃ b off, ao = some ⟨b, off, none⟩ ∧ b < w.heap.size ∧ AtG E w b (off + i * K) c := by
  obtain ⟨ao', cap', hv, h1, h2, h3, h4⟩ := h
  simp only [Value.slice.injEq] at hv
  obtain ⟨rfl, rfl, rfl⟩ := hv
  obtain ⟨hl, e⟩ := List.getElem?_eq_some_iff.1 hi
  cases ao with
  | none => have := h3 rfl; omega
  | some a =>
    have hp : 0 < (E.vs cs).length := by rw [vs_length]; exact Nat.mul_pos (by omega) E.pos
    have h0 := h4 a rfl 0 (E.vs cs)[0] (by simp)
    obtain ⟨b, o, rfl⟩ := add_spot h0
    refine ⟨b, o, rfl, World.block_lt_of_cell? w _ h0, fun k u hu => ?_⟩
    have hk : k < K := by have := (List.getElem?_eq_some_iff.1 hu).1; rwa [E.len] at this
    have hg := vs_get (E := E) cs i hl k hk
    rw [e, hu] at hg
    have := h4 _ rfl (i * K + k) _ hg
    rw [Addr.add_lit] at this
    rw [Nat.add_assoc, this]

theorem RdG.len {w : World} {ao : Option Addr} {n cap : Nat} {xs : List α} (h : RdG E w (.slice ao n cap) xs) : n = xs.length ∧ n ≤ cap ∧ cap ≤ maxLen := by
  obtain ⟨ao', cap', hv, h1, h2, _⟩ := h
  simp only [Value.slice.injEq] at hv
  obtain ⟨_, rfl, rfl⟩ := hv
  exact ⟨rfl, h1, h2⟩

/-- A write into a block in which the slice does not lie. -/
theorem RdG.setOff {w : World} {v : Value} {cs : List α} (h : RdG E w v cs) {p : Addr} (hp : ∀ a l c, v = .slice (some a) l c → a.block ≠ p.block) (u : Value) : RdG E (w.setCell p u) v cs := by
  obtain ⟨ao, cap, hv, h1, h2, h3, h4⟩ := h
  refine ⟨ao, cap, hv, h1, h2, h3, fun a ha j x hx => ?_⟩
  have hc := h4 a ha j x hx
  have e : (a.add j).block = a.block := by unfold Addr.add; split <;> rfl
  have hb := hp a _ _ (by rw [hv, ha])
  rw [← hc]
  exact World.cell?_of_block (heap_setCell_other w p _ u (by rw [e]; exact hb))

theorem RdG.setNew {w : World} {v : Value} {cs : List α} {B : Nat} (h : RdG E w v cs) (hn : New B v) {p : Addr} (hp : p.block < B) (u : Value) : RdG E (w.setCell p u) v cs :=
  h.setOff (fun a l c hv => by have := hn a l c hv; omega) u

theorem RdG.setOld {w w0 : World} {v : Value} {cs : List α} (h0 : RdG E w0 v cs) (h : RdG E w v cs) {p : Addr} (hp : w0.heap.size ≤ p.block) (u : Value) : RdG E (w.setCell p u) v cs := by
  obtain ⟨ao0, cap0, hv0, _, _, _, h40⟩ := h0
  obtain ⟨ao, cap, hv, h1, h2, h3, h4⟩ := h
  rw [hv] at hv0
  simp only [Value.slice.injEq] at hv0
  obtain ⟨rfl, _, _⟩ := hv0
  refine ⟨ao, cap, hv, h1, h2, h3, fun a ha j x hx => ?_⟩
  have hc := h4 a ha j x hx
  have hlt := World.block_lt_of_cell? w0 _ (h40 a ha j x hx)
  rw [← hc]
  exact World.cell?_of_block (heap_setCell_other w p _ u (by omega))

/-- A block that was laid for some structures, as a slice over all of it. -/
theorem RdG.newL (w : World) (cs : List α) (e : TypeId) (vs : Array Value) (hvs : vs.toList = E.vs cs) (hl : cs.length ≤ 1000) : RdG E (w.alloc (.cells vs e)) (.slice (some ⟨w.heap.size, 0, none⟩) cs.length cs.length) cs :=
  ⟨some ⟨w.heap.size, 0, none⟩, cs.length, rfl, Nat.le_refl _, by unfold maxLen; omega, (fun h => by cases h), fun a ha j v hv => by
    cases ha
    rw [Addr.add_lit, Nat.zero_add, ← hv]
    have := cell_of_row (w.alloc (.cells vs e)) w.heap.size j _ e (0, 0) (heap_alloc_new w _)
    rw [this, ← hvs]
    simp⟩

/-- 'append(out, xs...)', out the call's own. -/
theorem wpList_append_rdG {P : Program} {w : World} {ops : Array Oper} {rest : List Oper} {o : Oper} {a : Act} {Q : Exit → Act → World → Prop} {s x : Operand} {t : TypeId} {base : Nat} {e : TypeId} {z : Value} {bytes : Nat}
    {v : Value} {n : Nat} {cs : List α} {vx : Value} {news : List α}
    (hown : w.ownsRow base e K v n (E.vs cs)) (hrd : RdG E w vx news)
    (ht : P.underlying t = some (.slice e)) (hinf : (P.info? e).map (fun i => (i.zero, i.size, i.bytes)) = some (some z, K, bytes)) (hzs : z.cells.size = K)
    (hgd : o.guard = none) (ho : o.op = .call { callee := .builtin .append, args := #[s, x], argTypes := #[t, t] })
    (hs : a.eval s = v) (hx : a.eval x = vx)
    (h63 : n + news.length ≤ 1000000000) (hbytes : bytes ≤ 128) (hbase : base ≤ w.heap.size)
    (h : ∀ v' w', w'.ownsRow base e K v' (n + news.length) (E.vs (cs ++ news)) → Below base w w' → w.grownBy w' v.ownBlock → wpList P ops Q rest (a.put o.dst v') w') : wpList P ops Q (o :: rest) a w := by
  obtain ⟨i, hi, hz, hsize, hby⟩ := info_parts hinf
  have hlt := hown.lt
  have hbytes' : (n + news.length) * bytes ≤ 1000000000 * 128 := Nat.mul_le_mul h63 hbytes
  obtain ⟨ao, cap, hvx, h2, h3, h4, h5⟩ := hrd
  cases ao with
  | none =>
    have hc := h4 rfl
    have hnews : news = [] := List.eq_nil_of_length_eq_zero (by omega)
    subst hnews
    subst hc
    refine wpList_append_own_none hgd s x t ho base e i K ht hi v n (E.vs cs) hs hown (hx.trans hvx) ?_
    exact h v w (by simpa using hown) (Below.refl _ _) (World.grownBy.refl _ _)
  | some ad =>
    refine wpList_append_own w hgd s x t ho base e i z K bytes ht hi hz hsize hby hzs E.pos v n (E.vs cs) hs hown ad news.length cap (E.vs news) (hx.trans hvx) (vs_length _) (h5 ad rfl) (vs_one _) (by simp [maxLen]; omega) (by omega) hbase ?_
    intro v' w' ho' hg' _
    rw [← vs_append] at ho'
    exact h v' w' ho' ((Below.refl _ _).grown hg' hbase (fun k hk => (hlt k hk).1)) hg'

/-- 'append(out, c)' of a structure that was laid in a block of its own just ahead. -/
theorem wpList_append_oneG {P : Program} {w : World} {c : α} {vs : Array Value} {ops : Array Oper} {rest : List Oper} {o : Oper} {a : Act} {Q : Exit → Act → World → Prop} {s x : Operand} {t : TypeId} {base : Nat} {e : TypeId} {z : Value} {bytes : Nat}
    {v : Value} {n : Nat} {cs : List α}
    (hown : w.ownsRow base e K v n (E.vs cs)) (hvs : vs.toList = E.v c)
    (ht : P.underlying t = some (.slice e)) (hinf : (P.info? e).map (fun i => (i.zero, i.size, i.bytes)) = some (some z, K, bytes)) (hzs : z.cells.size = K)
    (hgd : o.guard = none) (ho : o.op = .call { callee := .builtin .append, args := #[s, x], argTypes := #[t, t] })
    (hs : a.eval s = v) (hx : a.eval x = .slice (some ⟨w.heap.size, 0, none⟩) 1 1)
    (h63 : n ≤ 100000000) (hbytes : bytes ≤ 128) (hbase : base ≤ w.heap.size)
    (h : ∀ v' w', w'.ownsRow base e K v' (n + 1) (E.vs (cs ++ [c])) → Below base w w' → w.grownBy w' v.ownBlock → wpList P ops Q rest (a.put o.dst v') w') : wpList P ops Q (o :: rest) a (w.alloc (.cells vs e)) := by
  refine wpList_append_rdG (hown.alloc _) (RdG.newL w [c] e vs (by rw [hvs, vs_one1]) (by simp)) ht hinf hzs hgd ho hs hx (by simp; omega) hbytes (by simp; omega) ?_
  intro v' w' h2 h3 h4
  refine h v' w' h2 (((Below.refl _ _).alloc hbase _).trans h3) ⟨h4.os, h4.tape, h4.output, ?_, fun k hk hne => ?_⟩
  · have := h4.size; simp at this; omega
  · rw [h4.block k (by simp; omega) hne, Below.heap_alloc _ _ _ hk]

/-- 'v[lo:hi]'. -/
theorem RdG.sliced {w : World} {ao : Option Addr} {n cap lo hi : Nat} {xs : List α} (h : RdG E w (.slice ao n cap) xs) (h1 : lo ≤ hi) (h2 : hi ≤ n) : RdG E w (Go.sliced ao lo hi cap K) ((xs.drop lo).take (hi - lo)) := by
  obtain ⟨ao', cap', hv, h3, h4, h5, h6⟩ := h
  simp only [Value.slice.injEq] at hv
  obtain ⟨rfl, rfl, rfl⟩ := hv
  have hl : ((xs.drop lo).take (hi - lo)).length = hi - lo := by simp; omega
  refine ⟨_, cap - lo, by rw [hl]; rfl, by omega, by omega, ?_, ?_⟩
  · intro hn
    split at hn
    · omega
    · rw [Option.map_eq_none_iff] at hn
      have := h5 hn
      omega
  · intro a ha j u hu
    have hj : j < (hi - lo) * K := by
      have := (List.getElem?_eq_some_iff.1 hu).1
      rwa [vs_length, hl] at this
    rw [← vs_take, ← vs_drop, List.getElem?_take, if_pos hj, List.getElem?_drop] at hu
    split at ha
    · rename_i hz
      have hle := (List.getElem?_eq_some_iff.1 hu).1
      have hlo : lo = hi := by omega
      rw [hlo, Nat.sub_self, Nat.zero_mul] at hj
      omega
    · obtain ⟨a0, e0, rfl⟩ := Option.map_eq_some_iff.1 ha
      have hl2 := (List.getElem?_eq_some_iff.1 hu).1
      have h0 := h6 a0 e0 0 (E.vs xs)[0] (by simp)
      obtain ⟨b, o, rfl⟩ := add_spot h0
      have := h6 _ e0 (lo * K + j) u hu
      simp only [Addr.add_lit] at this ⊢
      rw [Nat.add_assoc]
      exact this

theorem RdG.from {w : World} {ao : Option Addr} {n cap lo : Nat} {xs : List α} (h : RdG E w (.slice ao n cap) xs) (h1 : lo ≤ n) : RdG E w (Go.sliced ao lo n cap K) (xs.drop lo) := by
  have hn : n = xs.length := h.len.1
  have := h.sliced h1 (Nat.le_refl _)
  rwa [List.take_of_length_le (by rw [List.length_drop, hn]; exact Nat.le_refl _)] at this

theorem RdG.upto {w : World} {ao : Option Addr} {n cap hi : Nat} {xs : List α} (h : RdG E w (.slice ao n cap) xs) (h1 : hi ≤ n) : RdG E w (Go.sliced ao 0 hi cap K) (xs.take hi) := by
  have := h.sliced (Nat.zero_le _) h1
  simpa using this

/-- 'v[lo:hi]', 'v[lo:]', 'v[:hi]' as operations. -/
theorem run_slice_lhK {P : Program} {t e : TypeId} {z : Value} {bytes : Nat} (ht : P.underlying t = some (.slice e)) (he : P.elem t = e) (hinf : (P.info? e).map (fun i => (i.zero, i.size, i.bytes)) = some (some z, K, bytes))
    (ao : Option Addr) (n cap lo hi : Nat) (l h : Int) (hl : l = lo) (hh : h = hi) (h1 : lo ≤ hi) (h2 : hi ≤ cap) (W : World) :
    (Instr.slice t (.slice ao n cap) (some (.int .i64 l)) (some (.int .i64 h)) none).run P W = .ok (Go.sliced ao lo hi cap K) W := by
  obtain ⟨i, hi0, _, hsize, _⟩ := info_parts hinf
  subst hl hh
  rw [run_slice_lh (P := P) W t ao n cap (by rw [he]; exact ht) .i64 .i64 lo hi (by omega) (by omega) (by omega)]
  simp [he, sizeOf, typeInfo, hi0, hsize, Result.andThen]

theorem run_slice_fromK {P : Program} {t e : TypeId} {z : Value} {bytes : Nat} (ht : P.underlying t = some (.slice e)) (he : P.elem t = e) (hinf : (P.info? e).map (fun i => (i.zero, i.size, i.bytes)) = some (some z, K, bytes))
    (ao : Option Addr) (n cap lo : Nat) (l : Int) (hl : l = lo) (h1 : lo ≤ n) (W : World) :
    (Instr.slice t (.slice ao n cap) (some (.int .i64 l)) none none).run P W = .ok (Go.sliced ao lo n cap K) W := by
  obtain ⟨i, hi0, _, hsize, _⟩ := info_parts hinf
  subst hl
  rw [run_slice_l (P := P) W t ao n cap (by rw [he]; exact ht) .i64 lo (by omega) (by omega)]
  simp [he, sizeOf, typeInfo, hi0, hsize, Result.andThen]

theorem run_slice_uptoK {P : Program} {t e : TypeId} {z : Value} {bytes : Nat} (ht : P.underlying t = some (.slice e)) (he : P.elem t = e) (hinf : (P.info? e).map (fun i => (i.zero, i.size, i.bytes)) = some (some z, K, bytes))
    (ao : Option Addr) (n cap hi : Nat) (h : Int) (hh : h = hi) (h1 : hi ≤ cap) (W : World) :
    (Instr.slice t (.slice ao n cap) none (some (.int .i64 h)) none).run P W = .ok (Go.sliced ao 0 hi cap K) W := by
  obtain ⟨i, hi0, _, hsize, _⟩ := info_parts hinf
  subst hh
  rw [run_slice_h (P := P) W t ao n cap (by rw [he]; exact ht) .i64 hi (by omega) (by omega)]
  simp [he, sizeOf, typeInfo, hi0, hsize, Result.andThen]

end

end Go.Proofs.Ytbffmdhogehfnaa

/-
  Plain maths of leases: what is granted and renewed, courts and deeds, who trusts. Nothing of a program stands here.
-/
namespace Go.Proofs.Ytbffmdhogehfnaa
open Go.RowKit
set_option linter.unusedVariables false

structure Ls where
  hold : Int
  ep : Int
  til : Int
structure Tr where
  ep : Int
  til : Int
structure Ws where
  who : Int
  sent : Int
  ep : Int
structure Rp where
  who : Int
  ep : Int
  til : Int
structure Dd where
  kind : Int
  who : Int
  n : Int
structure Ct where
  now : Int
  lease : Ls
  clocks : List Int
  trusts : List Tr
  wishes : List Ws
  replies : List Rp

/-- From 0 to the greatest number. -/
def numL (n : Int) : Bool := decide (0 ≤ n ∧ n ≤ 1000000000)

def lchkF (l : Ls) : Int × Int := if numL l.hold = true ∧ numL l.ep = true ∧ numL l.til = true then (0, 0) else (3, 0)
def spanF (span : Int) : Int × Int := if 4 ≤ span ∧ span ≤ 1000000 then (0, 0) else (3, -3)
def wishF (l : Ls) (who now span : Int) : Int × Int :=
  if (lchkF l).1 ≠ 0 then lchkF l
  else if who < 1 ∨ 1000000000 < who then (3, -1)
  else if numL now = false then (3, -2)
  else spanF span

def grantF (l : Ls) (who now span : Int) : Int × Int :=
  if (wishF l who now span).1 ≠ 0 then wishF l who now span
  else if 0 < l.hold ∧ now < l.til then (11, 0)
  else if 1000000000 < l.ep + 1 ∨ 1000000000 < now + span then (9, 0)
  else (0, 0)
def zeroLs : Ls := ⟨0, 0, 0⟩
def grantL (l : Ls) (who now span : Int) : Ls := if (grantF l who now span).1 = 0 then ⟨who, l.ep + 1, now + span⟩ else zeroLs

def renewF (l : Ls) (who ep now span : Int) : Int × Int :=
  if (wishF l who now span).1 ≠ 0 then wishF l who now span
  else if l.hold ≠ who ∨ l.ep ≠ ep then (6, 0)
  else if l.til ≤ now then (12, 0)
  else if 1000000000 < now + span then (9, 0)
  else (0, 0)
def renewL (l : Ls) (who ep now span : Int) : Ls := if (renewF l who ep now span).1 = 0 then ⟨l.hold, l.ep, max l.til (now + span)⟩ else zeroLs

/-- How long may be trusted. -/
def trustD (span : Int) : Int := span - span / 4

/-- What the granter answers to a wish: the lease behind it, and whether a reply goes out. -/
def heardF (l : Ls) (w : Ws) (now span : Int) : Int × Int := if 0 < w.ep then renewF l (w.who + 1) w.ep now span else grantF l (w.who + 1) now span
def heardL (l : Ls) (w : Ws) (now span : Int) : Ls := if 0 < w.ep then renewL l (w.who + 1) w.ep now span else grantL l (w.who + 1) now span

theorem grantL_eq {l : Ls} {who now span : Int} (h : (grantF l who now span).1 = 0) : grantL l who now span = ⟨who, l.ep + 1, now + span⟩ ∧ ¬ (0 < l.hold ∧ now < l.til) ∧ 4 ≤ span := by
  refine ⟨by rw [grantL, if_pos h], ?_, ?_⟩
  · intro hh
    unfold grantF at h
    split at h
    · rename_i h0; exact h0 h
    · cases h
  · unfold grantF at h
    split at h
    · rename_i h0; exact absurd h h0
    · rename_i h0
      have h1 := Decidable.not_not.1 h0
      unfold wishF at h1
      split at h1
      · rename_i h2; exact absurd h1 h2
      · split at h1
        · cases h1
        · split at h1
          · cases h1
          · unfold spanF at h1
            split at h1
            · rename_i h5; exact h5.1
            · cases h1

theorem renewL_eq {l : Ls} {who ep now span : Int} (h : (renewF l who ep now span).1 = 0) : renewL l who ep now span = ⟨l.hold, l.ep, max l.til (now + span)⟩ ∧ l.hold = who ∧ l.ep = ep := by
  refine ⟨by rw [renewL, if_pos h], ?_⟩
  unfold renewF at h
  split at h
  · rename_i h0; exact absurd h h0
  · split at h
    · cases h
    · rename_i h1
      omega

/-! ### The court -/

def lget {α : Type} (l : List α) (i : Int) (d : α) : α := l.getD i.toNat d
def lset {α : Type} (l : List α) (i : Int) (x : α) : List α := l.set i.toNat x
def ldel {α : Type} (l : List α) (i : Int) : List α := l.eraseIdx i.toNat

/-- A deed in a court. -/
def doC (c : Ct) (span : Int) (d : Dd) : Ct :=
  if d.kind = 0 then { c with now := c.now + d.n }
  else if d.kind = 1 then { c with clocks := lset c.clocks d.who (lget c.clocks d.who 0 + d.n) }
  else if d.kind = 2 then { c with wishes := c.wishes ++ [⟨d.who, lget c.clocks d.who 0, if lget c.clocks d.who 0 < (lget c.trusts d.who ⟨0, 0⟩).til then (lget c.trusts d.who ⟨0, 0⟩).ep else 0⟩] }
  else if d.kind = 3 then
    let w := lget c.wishes d.n ⟨0, 0, 0⟩
    if (heardF c.lease w c.now span).1 = 0 then
      { c with wishes := ldel c.wishes d.n, lease := heardL c.lease w c.now span, replies := c.replies ++ [⟨w.who, (heardL c.lease w c.now span).ep, w.sent + trustD span⟩] }
    else { c with wishes := ldel c.wishes d.n }
  else if d.kind = 4 then
    let r := lget c.replies d.n ⟨0, 0, 0⟩
    let t := lget c.trusts r.who ⟨0, 0⟩
    if t.ep < r.ep ∨ (r.ep = t.ep ∧ t.til < r.til) then { c with replies := ldel c.replies d.n, trusts := lset c.trusts r.who ⟨r.ep, r.til⟩ }
    else { c with replies := ldel c.replies d.n }
  else if d.kind = 5 then { c with trusts := lset c.trusts d.who ⟨0, 0⟩ }
  else if d.kind = 6 then { c with wishes := c.wishes ++ [lget c.wishes d.n ⟨0, 0, 0⟩] }
  else if d.kind = 7 then { c with wishes := ldel c.wishes d.n }
  else { c with replies := ldel c.replies d.n }

/-- May a deed be done? -/
def mayC (c : Ct) (d : Dd) : Int :=
  if d.kind < 0 ∨ 8 < d.kind then 4
  else if (d.kind = 1 ∨ d.kind = 2 ∨ d.kind = 5) ∧ (d.who < 0 ∨ (c.clocks.length : Int) ≤ d.who) then 3
  else if d.kind < 2 ∧ (d.n < 0 ∨ 1000000 < d.n) then 3
  else if (d.kind = 3 ∨ d.kind = 6 ∨ d.kind = 7) ∧ (d.n < 0 ∨ (c.wishes.length : Int) ≤ d.n) then 3
  else if (d.kind = 4 ∨ d.kind = 8) ∧ (d.n < 0 ∨ (c.replies.length : Int) ≤ d.n) then 3
  else 0

def overC (c : Ct) : Bool := decide (900000000 < c.now) || decide (100 < c.wishes.length) || decide (100 < c.replies.length) || c.clocks.any (fun x => decide (900000000 < x))

def stepC (c : Ct) (span : Int) (d : Dd) : Int := if mayC c d ≠ 0 then mayC c d else if overC (doC c span d) = true then 9 else 0

/-- The courts behind the deeds, one behind the other: as far as they may be done. -/
def courtsC (span : Int) : Ct → List Dd → List Ct
  | c, [] => [c]
  | c, d :: r => c :: courtsC span (doC c span d) r

/-- A court ahead of all deeds. -/
def court0 (n : Nat) : Ct := ⟨0, zeroLs, List.replicate n 0, List.replicate n ⟨0, 0⟩, [], []⟩

end Go.Proofs.Ytbffmdhogehfnaa

/-
  Plain maths of leases: what holds behind each deed; who trusts. Nothing of a program stands here.
-/
namespace Go.Proofs.Ytbffmdhogehfnaa
open Go.RowKit
set_option linter.unusedVariables false

/-- A trust that was given: in an epoch that is its own, of a wish that was sent at a moment m. -/
def GoodT (H : Int → Int) (M : List (Int × List Int)) (c : Ct) (span : Int) (n : Nat) (who e u : Int) : Prop :=
  1 ≤ e ∧ e ≤ c.lease.ep ∧ H e = who ∧ 0 ≤ who ∧ who < n ∧ ∃ m ∈ M, u = lget m.2 who 0 + trustD span ∧ (e = c.lease.ep → m.1 + span ≤ c.lease.til) ∧ (e < c.lease.ep → m.1 + span ≤ c.now)

structure InvC (H : Int → Int) (M : List (Int × List Int)) (c : Ct) (span : Int) (n : Nat) : Prop where
  cl : c.clocks.length = n
  tl : c.trusts.length = n
  mem : (c.now, c.clocks) ∈ M
  le : ∀ m ∈ M, m.1 ≤ c.now
  ep0 : 0 ≤ c.lease.ep
  hold0 : c.lease.ep = 0 → c.lease.hold = 0
  hold1 : 0 < c.lease.ep → c.lease.hold = H c.lease.ep + 1 ∧ 0 < c.lease.hold
  ws : ∀ w ∈ c.wishes, 0 ≤ w.who ∧ w.who < n ∧ (∃ m ∈ M, w.sent = lget m.2 w.who 0) ∧ (0 < w.ep → w.ep ≤ c.lease.ep ∧ H w.ep = w.who)
  rs : ∀ r ∈ c.replies, GoodT H M c span n r.who r.ep r.til
  ts : ∀ i : Nat, i < n → lget c.trusts i ⟨0, 0⟩ = ⟨0, 0⟩ ∨ GoodT H M c span n i (lget c.trusts i ⟨0, 0⟩).ep (lget c.trusts i ⟨0, 0⟩).til

theorem GoodT.keep {H : Int → Int} {M M' : List (Int × List Int)} {c c' : Ct} {span : Int} {n : Nat} {who e u : Int} (h : GoodT H M c span n who e u) (hM : ∀ m ∈ M, m ∈ M') (hl : c'.lease = c.lease) (hn : c.now ≤ c'.now) : GoodT H M' c' span n who e u := by
  obtain ⟨h1, h2, h3, h4, h5, m, hm, h6, h7, h8⟩ := h
  refine ⟨h1, by rw [hl]; exact h2, h3, h4, h5, m, hM m hm, h6, by rw [hl]; exact h7, fun h => ?_⟩
  rw [hl] at h
  have := h8 h
  omega

theorem lget_set {α : Type} (l : List α) (i : Int) (x d : α) (j : Nat) (hi : 0 ≤ i) : lget (lset l i x) j d = if (j : Int) = i ∧ j < l.length then x else lget l j d := by
  unfold lget lset
  rw [List.getD_eq_getElem?_getD, List.getD_eq_getElem?_getD, Int.toNat_natCast, List.getElem?_set]
  by_cases h : i.toNat = j
  · rw [if_pos h]
    by_cases hj : i.toNat < l.length
    · rw [if_pos hj, if_pos (by omega)]
      rfl
    · rw [if_neg hj, if_neg (by omega), List.getElem?_eq_none (by omega)]
  · rw [if_neg h, if_neg (by omega)]

theorem mem_ldel {α : Type} {l : List α} {i : Int} {x : α} (h : x ∈ ldel l i) : x ∈ l := List.mem_of_mem_eraseIdx h

theorem lget_mem {α : Type} {l : List α} {i : Int} {d : α} (h0 : 0 ≤ i) (h1 : i < l.length) : lget l i d ∈ l := by
  unfold lget
  rw [List.getD_eq_getElem?_getD, List.getElem?_eq_getElem (by omega)]
  exact List.getElem_mem _

theorem InvC.plain {H : Int → Int} {M M' : List (Int × List Int)} {c c' : Ct} {span : Int} {n : Nat} (h : InvC H M c span n) (hM : M' = (c'.now, c'.clocks) :: M) (hl : c'.lease = c.lease) (hn : c.now ≤ c'.now) (hcl : c'.clocks.length = n) (htl : c'.trusts.length = n)
    (hw : ∀ w ∈ c'.wishes, w ∈ c.wishes ∨ (0 ≤ w.who ∧ w.who < n ∧ (∃ m ∈ M, w.sent = lget m.2 w.who 0) ∧ (0 < w.ep → w.ep ≤ c.lease.ep ∧ H w.ep = w.who)))
    (hr : ∀ r ∈ c'.replies, r ∈ c.replies)
    (ht : ∀ i : Nat, i < n → lget c'.trusts i ⟨0, 0⟩ = lget c.trusts i ⟨0, 0⟩ ∨ lget c'.trusts i ⟨0, 0⟩ = ⟨0, 0⟩ ∨ GoodT H M c span n i (lget c'.trusts i ⟨0, 0⟩).ep (lget c'.trusts i ⟨0, 0⟩).til) :
    InvC H M' c' span n := by
  subst hM
  exact {
  cl := hcl
  tl := htl
  mem := by simp
  le := by
    intro m hm
    rcases List.mem_cons.1 hm with rfl | hm
    · exact Int.le_refl _
    · have := h.le m hm; omega
  ep0 := by rw [hl]; exact h.ep0
  hold0 := by rw [hl]; exact h.hold0
  hold1 := by rw [hl]; exact h.hold1
  ws := by
    intro w hwm
    have : 0 ≤ w.who ∧ w.who < n ∧ (∃ m ∈ M, w.sent = lget m.2 w.who 0) ∧ (0 < w.ep → w.ep ≤ c.lease.ep ∧ H w.ep = w.who) := (hw w hwm).elim (h.ws w) id
    obtain ⟨h1, h2, ⟨m, hm, h3⟩, h4⟩ := this
    exact ⟨h1, h2, ⟨m, List.mem_cons_of_mem _ hm, h3⟩, by rw [hl]; exact h4⟩
  rs := fun r hrm => (h.rs r (hr r hrm)).keep (fun m hm => List.mem_cons_of_mem _ hm) hl hn
  ts := by
    intro i hi
    rcases ht i hi with e | e | e
    · rw [e]
      exact (h.ts i hi).imp id fun g => g.keep (fun m hm => List.mem_cons_of_mem _ hm) hl hn
    · exact .inl e
    · exact .inr (e.keep (fun m hm => List.mem_cons_of_mem _ hm) hl hn) }

/-- A lease that is granted or renewed, and the reply to it. -/
theorem InvC.heard {H : Int → Int} {M : List (Int × List Int)} {c : Ct} {span : Int} {n : Nat} (h : InvC H M c span n) {w : Ws} (hwm : w ∈ c.wishes) (hf : (heardF c.lease w c.now span).1 = 0) (ws' : List Ws) (hws : ∀ x ∈ ws', x ∈ c.wishes) (hle : ∀ m ∈ M, m.1 ≤ c.now) :
    ∃ H', (∀ e, e ≤ c.lease.ep → H' e = H e) ∧ c.lease.ep ≤ (heardL c.lease w c.now span).ep ∧
      InvC H' ((c.now, c.clocks) :: M) { c with wishes := ws', lease := heardL c.lease w c.now span, replies := c.replies ++ [⟨w.who, (heardL c.lease w c.now span).ep, w.sent + trustD span⟩] } span n := by
  obtain ⟨hw1, hw2, ⟨m0, hm0, hsent⟩, hw4⟩ := h.ws w hwm
  have hm0n := hle m0 hm0
  by_cases he : 0 < w.ep
  · -- a renewal
    obtain ⟨hwe, hwH⟩ := hw4 he
    rw [heardF, if_pos he] at hf
    have hL : heardL c.lease w c.now span = renewL c.lease (w.who + 1) w.ep c.now span := by rw [heardL, if_pos he]
    obtain ⟨e1, e2, e3⟩ := renewL_eq hf
    rw [hL, e1]
    have keep : ∀ {who e u : Int}, GoodT H M c span n who e u → GoodT H ((c.now, c.clocks) :: M) { c with wishes := ws', lease := ⟨c.lease.hold, c.lease.ep, max c.lease.til (c.now + span)⟩, replies := c.replies ++ [⟨w.who, c.lease.ep, w.sent + trustD span⟩] } span n who e u := by
      rintro who e u ⟨g1, g2, g3, g4, g5, m, hm, g6, g7, g8⟩
      exact ⟨g1, g2, g3, g4, g5, m, List.mem_cons_of_mem _ hm, g6, fun q => by have := g7 q; simp only; omega, g8⟩
    refine ⟨H, fun _ _ => rfl, Int.le_refl _, h.cl, h.tl, by simp, ?_, h.ep0, h.hold0, h.hold1, ?_, ?_, ?_⟩
    · intro m hm
      rcases List.mem_cons.1 hm with rfl | hm
      · exact Int.le_refl _
      · exact h.le m hm
    · intro x hx
      obtain ⟨a1, a2, ⟨m, hm, a3⟩, a4⟩ := h.ws x (hws x hx)
      exact ⟨a1, a2, ⟨m, List.mem_cons_of_mem _ hm, a3⟩, a4⟩
    · intro r hr
      rcases List.mem_append.1 hr with hr | hr
      · exact keep (h.rs r hr)
      · have : r = ⟨w.who, c.lease.ep, w.sent + trustD span⟩ := by simpa using hr
        subst this
        refine ⟨by simp only; omega, Int.le_refl _, by simp only; rw [e3]; exact hwH, hw1, hw2, m0, List.mem_cons_of_mem _ hm0, by simp only; rw [hsent], fun _ => by simp only; omega, fun q => by simp only at q; omega⟩
    · intro i hi
      exact (h.ts i hi).imp id keep
  · -- a grant
    rw [heardF, if_neg he] at hf
    have hL : heardL c.lease w c.now span = grantL c.lease (w.who + 1) c.now span := by rw [heardL, if_neg he]
    obtain ⟨e1, e2, e3⟩ := grantL_eq hf
    rw [hL, e1]
    have hep := h.ep0
    refine ⟨fun e => if e = c.lease.ep + 1 then w.who else H e, fun e hle => if_neg (by omega), by simp only; omega, ?_⟩
    have keep : ∀ {who e u : Int}, GoodT H M c span n who e u → GoodT (fun e => if e = c.lease.ep + 1 then w.who else H e) ((c.now, c.clocks) :: M) { c with wishes := ws', lease := ⟨w.who + 1, c.lease.ep + 1, c.now + span⟩, replies := c.replies ++ [⟨w.who, c.lease.ep + 1, w.sent + trustD span⟩] } span n who e u := by
      rintro who e u ⟨g1, g2, g3, g4, g5, m, hm, g6, g7, g8⟩
      refine ⟨g1, by simp only; omega, by simp only; rw [if_neg (by omega)]; exact g3, g4, g5, m, List.mem_cons_of_mem _ hm, g6, fun q => by simp only at q; omega, fun _ => ?_⟩
      by_cases hq : e = c.lease.ep
      · have h1 := g7 hq
        have h2 := (h.hold1 (by omega)).2
        simp only
        omega
      · exact g8 (by omega)
    refine ⟨h.cl, h.tl, by simp, ?_, by simp only; omega, by simp only; omega, fun _ => ⟨by simp, by simp only; omega⟩, ?_, ?_, ?_⟩
    · intro m hm
      rcases List.mem_cons.1 hm with rfl | hm
      · exact Int.le_refl _
      · exact h.le m hm
    · intro x hx
      obtain ⟨a1, a2, ⟨m, hm, a3⟩, a4⟩ := h.ws x (hws x hx)
      refine ⟨a1, a2, ⟨m, List.mem_cons_of_mem _ hm, a3⟩, fun q => ?_⟩
      obtain ⟨b1, b2⟩ := a4 q
      exact ⟨by simp only; omega, by rw [if_neg (by omega)]; exact b2⟩
    · intro r hr
      rcases List.mem_append.1 hr with hr | hr
      · exact keep (h.rs r hr)
      · have : r = ⟨w.who, c.lease.ep + 1, w.sent + trustD span⟩ := by simpa using hr
        subst this
        exact ⟨by simp only; omega, Int.le_refl _, by simp, hw1, hw2, m0, List.mem_cons_of_mem _ hm0, by simp only; rw [hsent], fun _ => by simp only; omega, fun q => by simp only at q; omega⟩
    · intro i hi
      exact (h.ts i hi).imp id keep

theorem InvC.step {H : Int → Int} {M : List (Int × List Int)} {c : Ct} {span : Int} {n : Nat} {d : Dd} (h : InvC H M c span n) (hm : mayC c d = 0) :
    ∃ H', (∀ e, e ≤ c.lease.ep → H' e = H e) ∧ c.lease.ep ≤ (doC c span d).lease.ep ∧ InvC H' (((doC c span d).now, (doC c span d).clocks) :: M) (doC c span d) span n := by
  have hcl := h.cl
  unfold mayC at hm
  split at hm
  · cases hm
  rename_i k0
  split at hm
  · cases hm
  rename_i k1
  split at hm
  · cases hm
  rename_i k2
  split at hm
  · cases hm
  rename_i k3
  split at hm
  · cases hm
  rename_i k4
  clear hm
  have same : ∀ i : Nat, i < n → lget c.trusts i ⟨0, 0⟩ = lget c.trusts i ⟨0, 0⟩ ∨ lget c.trusts i ⟨0, 0⟩ = ⟨0, 0⟩ ∨ GoodT H M c span n i (lget c.trusts i ⟨0, 0⟩).ep (lget c.trusts i ⟨0, 0⟩).til := fun i _ => .inl rfl
  unfold doC
  by_cases d0 : d.kind = 0
  · simp only [d0, if_pos]
    refine ⟨H, fun _ _ => rfl, Int.le_refl _, ?_⟩
    refine h.plain ?hM0 ?hl0 ?hn0 ?hcl0 ?htl0 ?hw0 ?hr0 ?ht0
    case hM0 => exact rfl
    case hl0 => exact rfl
    case hn0 => exact (show c.now ≤ c.now + d.n by omega)
    case hcl0 => exact h.cl
    case htl0 => exact h.tl
    case hw0 => exact (fun w hw => .inl hw)
    case hr0 => exact (fun r hr => hr)
    case ht0 => exact same
  simp only [if_neg d0]
  by_cases d1 : d.kind = 1
  · simp only [if_pos d1]
    refine ⟨H, fun _ _ => rfl, Int.le_refl _, ?_⟩
    refine h.plain ?hM1 ?hl1 ?hn1 ?hcl1 ?htl1 ?hw1 ?hr1 ?ht1
    case hM1 => exact rfl
    case hl1 => exact rfl
    case hn1 => exact (Int.le_refl _)
    case hcl1 => exact (by simp only [lset, List.length_set]; exact h.cl)
    case htl1 => exact h.tl
    case hw1 => exact (fun w hw => .inl hw)
    case hr1 => exact (fun r hr => hr)
    case ht1 => exact same
  simp only [if_neg d1]
  by_cases d2 : d.kind = 2
  · simp only [if_pos d2]
    refine ⟨H, fun _ _ => rfl, Int.le_refl _, ?_⟩
    refine h.plain ?hM2 ?hl2 ?hn2 ?hcl2 ?htl2 ?hw2 ?hr2 ?ht2
    case hM2 => exact rfl
    case hl2 => exact rfl
    case hn2 => exact (Int.le_refl _)
    case hcl2 => exact h.cl
    case htl2 => exact h.tl
    case hr2 => exact (fun r hr => hr)
    case ht2 => exact same
    intro w hw
    rcases List.mem_append.1 hw with hw | hw
    · exact .inl hw
    · right
      have hwe := List.mem_singleton.1 hw
      have hd : 0 ≤ d.who ∧ d.who < n := by omega
      obtain ⟨i, hi⟩ : ∃ i : Nat, d.who = i := ⟨d.who.toNat, by omega⟩
      rw [hwe]
      refine ⟨hd.1, hd.2, ⟨_, h.mem, rfl⟩, fun q => ?_⟩
      simp only at q ⊢
      split at q
      · rename_i hlt
        rw [if_pos hlt]
        rw [hi] at q ⊢
        rcases h.ts i (by omega) with e | e
        · rw [e] at q; simp at q
        · exact ⟨e.2.1, e.2.2.1⟩
      · omega
  simp only [if_neg d2]
  by_cases d3 : d.kind = 3
  · simp only [if_pos d3]
    have hwm : lget c.wishes d.n ⟨0, 0, 0⟩ ∈ c.wishes := lget_mem (by omega) (by omega)
    split
    · rename_i hf
      exact h.heard hwm hf _ (fun x hx => mem_ldel hx) h.le
    · refine ⟨H, fun _ _ => rfl, Int.le_refl _, ?_⟩
      refine h.plain ?hM3 ?hl3 ?hn3 ?hcl3 ?htl3 ?hw3 ?hr3 ?ht3
      case hM3 => exact rfl
      case hl3 => exact rfl
      case hn3 => exact (Int.le_refl _)
      case hcl3 => exact h.cl
      case htl3 => exact h.tl
      case hw3 => exact (fun w hw => .inl (mem_ldel hw))
      case hr3 => exact (fun r hr => hr)
      case ht3 => exact same
  simp only [if_neg d3]
  by_cases d4 : d.kind = 4
  · simp only [if_pos d4]
    have hrm : lget c.replies d.n ⟨0, 0, 0⟩ ∈ c.replies := lget_mem (by omega) (by omega)
    have hg := h.rs _ hrm
    split
    · refine ⟨H, fun _ _ => rfl, Int.le_refl _, ?_⟩
      refine h.plain ?hM4 ?hl4 ?hn4 ?hcl4 ?htl4 ?hw4 ?hr4 ?ht4
      case hM4 => exact rfl
      case hl4 => exact rfl
      case hn4 => exact (Int.le_refl _)
      case hcl4 => exact h.cl
      case htl4 => exact (by simp only [lset, List.length_set]; exact h.tl)
      case hw4 => exact (fun w hw => .inl hw)
      case hr4 => exact (fun r hr => mem_ldel hr)
      intro i hi
      simp only
      rw [lget_set _ _ _ _ _ hg.2.2.2.1]
      split
      · rename_i hq
        right; right
        rw [← hq.1] at hg
        exact hg
      · exact .inl rfl
    · refine ⟨H, fun _ _ => rfl, Int.le_refl _, ?_⟩
      refine h.plain ?hM5 ?hl5 ?hn5 ?hcl5 ?htl5 ?hw5 ?hr5 ?ht5
      case hM5 => exact rfl
      case hl5 => exact rfl
      case hn5 => exact (Int.le_refl _)
      case hcl5 => exact h.cl
      case htl5 => exact h.tl
      case hw5 => exact (fun w hw => .inl hw)
      case hr5 => exact (fun r hr => mem_ldel hr)
      case ht5 => exact same
  simp only [if_neg d4]
  by_cases d5 : d.kind = 5
  · simp only [if_pos d5]
    refine ⟨H, fun _ _ => rfl, Int.le_refl _, ?_⟩
    refine h.plain ?hM6 ?hl6 ?hn6 ?hcl6 ?htl6 ?hw6 ?hr6 ?ht6
    case hM6 => exact rfl
    case hl6 => exact rfl
    case hn6 => exact (Int.le_refl _)
    case hcl6 => exact h.cl
    case htl6 => exact (by simp only [lset, List.length_set]; exact h.tl)
    case hw6 => exact (fun w hw => .inl hw)
    case hr6 => exact (fun r hr => hr)
    intro i hi
    simp only
    rw [lget_set _ _ _ _ _ (by omega)]
    split
    · exact .inr (.inl rfl)
    · exact .inl rfl
  simp only [if_neg d5]
  by_cases d6 : d.kind = 6
  · simp only [if_pos d6]
    refine ⟨H, fun _ _ => rfl, Int.le_refl _, ?_⟩
    refine h.plain ?hM7 ?hl7 ?hn7 ?hcl7 ?htl7 ?hw7 ?hr7 ?ht7
    case hM7 => exact rfl
    case hl7 => exact rfl
    case hn7 => exact (Int.le_refl _)
    case hcl7 => exact h.cl
    case htl7 => exact h.tl
    case hr7 => exact (fun r hr => hr)
    case ht7 => exact same
    intro w hw
    rcases List.mem_append.1 hw with hw | hw
    · exact .inl hw
    · rw [List.mem_singleton.1 hw]
      exact .inl (lget_mem (by omega) (by omega))
  simp only [if_neg d6]
  by_cases d7 : d.kind = 7
  · simp only [if_pos d7]
    refine ⟨H, fun _ _ => rfl, Int.le_refl _, ?_⟩
    refine h.plain ?hM8 ?hl8 ?hn8 ?hcl8 ?htl8 ?hw8 ?hr8 ?ht8
    case hM8 => exact rfl
    case hl8 => exact rfl
    case hn8 => exact (Int.le_refl _)
    case hcl8 => exact h.cl
    case htl8 => exact h.tl
    case hw8 => exact (fun w hw => .inl (mem_ldel hw))
    case hr8 => exact (fun r hr => hr)
    case ht8 => exact same
  simp only [if_neg d7]
  refine ⟨H, fun _ _ => rfl, Int.le_refl _, ?_⟩
  refine h.plain ?hM9 ?hl9 ?hn9 ?hcl9 ?htl9 ?hw9 ?hr9 ?ht9
  case hM9 => exact rfl
  case hl9 => exact rfl
  case hn9 => exact (Int.le_refl _)
  case hcl9 => exact h.cl
  case htl9 => exact h.tl
  case hw9 => exact (fun w hw => .inl hw)
  case hr9 => exact (fun r hr => mem_ldel hr)
  case ht9 => exact same

theorem InvC.begin (span : Int) (n : Nat) : InvC (fun _ => 0) [(0, List.replicate n 0)] (court0 n) span n where
  cl := by simp [court0]
  tl := by simp [court0]
  mem := by simp [court0]
  le := by intro m hm; simp at hm; subst hm; simp [court0]
  ep0 := by simp [court0, zeroLs]
  hold0 := by simp [court0, zeroLs]
  hold1 := by intro h; simp [court0, zeroLs] at h
  ws := by intro w hw; simp [court0] at hw
  rs := by intro r hr; simp [court0] at hr
  ts := by
    intro i hi
    left
    simp [court0, lget, hi]

/-- Where clocks go on as they must, who trusts does it in the newest epoch. -/
theorem InvC.trusting {H : Int → Int} {M : List (Int × List Int)} {c : Ct} {span : Int} {n : Nat} (h : InvC H M c span n) (hcl : ∀ x ∈ c.clocks, 0 ≤ x) {i : Nat} (hi : i < n) (ht : lget c.clocks i 0 < (lget c.trusts i ⟨0, 0⟩).til) :
    1 ≤ (lget c.trusts i ⟨0, 0⟩).ep ∧ (lget c.trusts i ⟨0, 0⟩).ep ≤ c.lease.ep ∧ H (lget c.trusts i ⟨0, 0⟩).ep = i ∧
      ((∀ m ∈ M, m.1 + span ≤ c.now → lget m.2 i 0 + trustD span ≤ lget c.clocks i 0) → (lget c.trusts i ⟨0, 0⟩).ep = c.lease.ep) := by
  have hc0 : 0 ≤ lget c.clocks i 0 := by
    have := h.cl
    exact hcl _ (lget_mem (by omega) (by omega))
  rcases h.ts i hi with e | ⟨g1, g2, g3, g4, g5, m, hm, g6, g7, g8⟩
  · rw [e] at ht
    simp only at ht
    omega
  · refine ⟨g1, g2, g3, fun hf => ?_⟩
    by_cases hq : (lget c.trusts i ⟨0, 0⟩).ep = c.lease.ep
    · exact hq
    · have := hf m hm (g8 (by omega))
      omega

end Go.Proofs.Ytbffmdhogehfnaa

/-
  Plain maths of leases: whole plays: no two trust in one epoch, epochs never fall, and where deeds are fair never two trust at one time. Nothing of a program stands here.
-/
namespace Go.Proofs.Ytbffmdhogehfnaa
open Go.RowKit
set_option linter.unusedVariables false

/-- The court behind the first i deeds. -/
def runC (span : Int) (n : Nat) (ds : List Dd) : Nat → Ct
  | 0 => court0 n
  | i + 1 => match ds[i]? with
    | some d => doC (runC span n ds i) span d
    | none => runC span n ds i

theorem runC_succ {span : Int} {n : Nat} {ds : List Dd} {i : Nat} {d : Dd} (h : ds[i]? = some d) : runC span n ds (i + 1) = doC (runC span n ds i) span d := by rw [runC, h]

/-- The moments: the granter's clock and the clients', up to the i-th court. -/
def momC (span : Int) (n : Nat) (ds : List Dd) : Nat → List (Int × List Int)
  | 0 => [(0, List.replicate n 0)]
  | i + 1 => ((runC span n ds (i + 1)).now, (runC span n ds (i + 1)).clocks) :: momC span n ds i

theorem momC_mem {span : Int} {n : Nat} {ds : List Dd} : ∀ {i : Nat} {m : Int × List Int}, m ∈ momC span n ds i → ∃ j, j ≤ i ∧ m = ((runC span n ds j).now, (runC span n ds j).clocks)
  | 0, m, h => ⟨0, Nat.le_refl _, by simpa [momC, runC, court0] using h⟩
  | i + 1, m, h => by
    rcases List.mem_cons.1 h with h | h
    · exact ⟨i + 1, Nat.le_refl _, h⟩
    · obtain ⟨j, hj, e⟩ := momC_mem h
      exact ⟨j, by omega, e⟩

/-- Deeds that may all be done. -/
def okC (span : Int) (n : Nat) (ds : List Dd) : Prop := ∀ i d, ds[i]? = some d → mayC (runC span n ds i) d = 0

/-- Does client k trust in a court? -/
def trustsC (c : Ct) (k : Nat) : Prop := lget c.clocks k 0 < (lget c.trusts k ⟨0, 0⟩).til

/-- Clocks never go back, and are none below 0. -/
theorem clocks_pos {c : Ct} {span : Int} {d : Dd} (h : ∀ x ∈ c.clocks, 0 ≤ x) (hm : mayC c d = 0) : ∀ x ∈ (doC c span d).clocks, 0 ≤ x := by
  have hk : d.kind = 1 → 0 ≤ d.n := by
    intro h1
    unfold mayC at hm
    split at hm
    · cases hm
    split at hm
    · cases hm
    split at hm
    · cases hm
    omega
  unfold doC
  by_cases d0 : d.kind = 0
  · simp only [if_pos d0]; exact h
  simp only [if_neg d0]
  by_cases d1 : d.kind = 1
  · simp only [if_pos d1]
    intro x hx
    rcases List.mem_or_eq_of_mem_set hx with hx | hx
    · exact h x hx
    · have := hk d1
      rw [hx]
      unfold lget
      rw [List.getD_eq_getElem?_getD]
      cases hq : c.clocks[d.who.toNat]? with
      | none => simp; omega
      | some y =>
        have := h y (List.mem_of_getElem? hq)
        simp
        omega
  simp only [if_neg d1]
  by_cases d2 : d.kind = 2
  · simp only [if_pos d2]; exact h
  simp only [if_neg d2]
  by_cases d3 : d.kind = 3
  · simp only [if_pos d3]; split <;> exact h
  simp only [if_neg d3]
  by_cases d4 : d.kind = 4
  · simp only [if_pos d4]; split <;> exact h
  simp only [if_neg d4]
  by_cases d5 : d.kind = 5
  · simp only [if_pos d5]; exact h
  simp only [if_neg d5]
  by_cases d6 : d.kind = 6
  · simp only [if_pos d6]; exact h
  simp only [if_neg d6]
  by_cases d7 : d.kind = 7
  · simp only [if_pos d7]; exact h
  simp only [if_neg d7]
  exact h

theorem run_ok {span : Int} {n : Nat} {ds : List Dd} (hv : okC span n ds) : ∀ i, i ≤ ds.length → ∃ H, InvC H (momC span n ds i) (runC span n ds i) span n ∧ (∀ x ∈ (runC span n ds i).clocks, 0 ≤ x) ∧
    ∀ j, j ≤ i → (runC span n ds j).lease.ep ≤ (runC span n ds i).lease.ep ∧ ∀ k, k < n → trustsC (runC span n ds j) k →
      1 ≤ (lget (runC span n ds j).trusts k ⟨0, 0⟩).ep ∧ (lget (runC span n ds j).trusts k ⟨0, 0⟩).ep ≤ (runC span n ds j).lease.ep ∧ H (lget (runC span n ds j).trusts k ⟨0, 0⟩).ep = k ∧
      ((∀ m ∈ momC span n ds j, m.1 + span ≤ (runC span n ds j).now → lget m.2 k 0 + trustD span ≤ lget (runC span n ds j).clocks k 0) → (lget (runC span n ds j).trusts k ⟨0, 0⟩).ep = (runC span n ds j).lease.ep)
  | 0, _ => by
    have hI := InvC.begin span n
    have hc : ∀ x ∈ (court0 n).clocks, 0 ≤ x := by
      intro x hx
      have := (List.mem_replicate.1 hx).2
      omega
    refine ⟨_, hI, hc, fun j hj => ?_⟩
    obtain rfl : j = 0 := by omega
    exact ⟨Int.le_refl _, fun k hk ht => hI.trusting hc hk ht⟩
  | i + 1, hi => by
    obtain ⟨H, hI, hc, hall⟩ := run_ok hv i (by omega)
    obtain ⟨d, hd⟩ : ∃ d, ds[i]? = some d := ⟨_, List.getElem?_eq_getElem (by omega)⟩
    have hm := hv i d hd
    obtain ⟨H', hH, hle, hI'⟩ := hI.step (span := span) hm
    have hc' := clocks_pos (span := span) hc hm
    rw [← runC_succ hd] at hle hI' hc'
    refine ⟨H', hI', hc', fun j hj => ?_⟩
    by_cases hji : j = i + 1
    · subst hji
      exact ⟨Int.le_refl _, fun k hk ht => hI'.trusting hc' hk ht⟩
    · obtain ⟨h1, h2⟩ := hall j (by omega)
      refine ⟨by omega, fun k hk ht => ?_⟩
      obtain ⟨a1, a2, a3, a4⟩ := h2 k hk ht
      exact ⟨a1, a2, by rw [hH _ (by omega)]; exact a3, a4⟩

/-- Deeds are fair: between two moments between which the granter's clock goes on by span, each client's goes on as far as it must. -/
def fairP (span : Int) (n : Nat) (ds : List Dd) (e : Nat) : Prop :=
  ∀ j i, j ≤ i → i ≤ e → (runC span n ds j).now + span ≤ (runC span n ds i).now → ∀ k : Nat, k < n → lget (runC span n ds j).clocks k 0 + trustD span ≤ lget (runC span n ds i).clocks k 0

/-- NEVER TWO TRUST AT ONE TIME, where deeds are fair. -/
theorem apart {span : Int} {n : Nat} {ds : List Dd} (hv : okC span n ds) (hf : fairP span n ds ds.length) {i : Nat} (hi : i ≤ ds.length) {k k' : Nat} (hk : k < n) (hk' : k' < n) (ht : trustsC (runC span n ds i) k) (ht' : trustsC (runC span n ds i) k') : k = k' := by
  obtain ⟨H, _, _, hall⟩ := run_ok hv i hi
  obtain ⟨_, h2⟩ := hall i (Nat.le_refl _)
  have fair : ∀ k, k < n → ∀ m ∈ momC span n ds i, m.1 + span ≤ (runC span n ds i).now → lget m.2 k 0 + trustD span ≤ lget (runC span n ds i).clocks k 0 := by
    intro k hk m hm hsp
    obtain ⟨j, hj, rfl⟩ := momC_mem hm
    exact hf j i hj hi hsp k hk
  obtain ⟨_, _, a3, a4⟩ := h2 k hk ht
  obtain ⟨_, _, b3, b4⟩ := h2 k' hk' ht'
  have e1 := a4 (fair k hk)
  have e2 := b4 (fair k' hk')
  rw [e1] at a3
  rw [e2, a3] at b3
  omega

end Go.Proofs.Ytbffmdhogehfnaa

/-
  Plain maths of leases: moments, and whether clocks go on as they must between them. Nothing of a program stands here.
-/
namespace Go.Proofs.Ytbffmdhogehfnaa
open Go.RowKit
set_option linter.unusedVariables false

/-- Does one of the clocks go on by less than d? -/
def slowB (a b : List Int) (d : Int) : Bool := (a.zip b).any fun p => decide (p.2 - p.1 < d)

/-- Moments that stand in their order. -/
def MonoM (M : List (Int × List Int)) : Prop := ∀ (i k : Nat) mi mk, i ≤ k → M[i]? = some mi → M[k]? = some mk → mi.1 ≤ mk.1 ∧ mi.2.length = mk.2.length ∧ ∀ (c : Nat) x y, mi.2[c]? = some x → mk.2[c]? = some y → x ≤ y

/-- Up to the j-th moment all clocks go on as they must. -/
def FairUp (M : List (Int × List Int)) (span : Int) (j : Nat) : Prop := ∀ (i k : Nat) mi mk, i ≤ k → k < j → M[i]? = some mi → M[k]? = some mk → span ≤ mk.1 - mi.1 → slowB mi.2 mk.2 (trustD span) = false

/-- Two moments between which a clock is too slow. -/
def badB (M : List (Int × List Int)) (span : Int) (i k : Nat) : Bool :=
  match M[i]?, M[k]? with
  | some mi, some mk => decide (span ≤ mk.1 - mi.1) && slowB mi.2 mk.2 (trustD span)
  | _, _ => false

/-- Do all clocks go on as they must? -/
def fairB (M : List (Int × List Int)) (span : Int) : Bool := (List.range M.length).all fun k => (List.range (k + 1)).all fun i => !badB M span i k

theorem badB_eq {M : List (Int × List Int)} {span : Int} {i k : Nat} {mi mk : Int × List Int} (hi : M[i]? = some mi) (hk : M[k]? = some mk) : badB M span i k = (decide (span ≤ mk.1 - mi.1) && slowB mi.2 mk.2 (trustD span)) := by
  simp only [badB, hi, hk]

theorem fairB_true {M : List (Int × List Int)} {span : Int} (h : FairUp M span M.length) : fairB M span = true := by
  unfold fairB
  rw [List.all_eq_true]
  intro k hk
  rw [List.all_eq_true]
  intro i hi
  rw [List.mem_range] at hk hi
  have e1 : M[i]? = some M[i] := List.getElem?_eq_getElem (by omega)
  have e2 : M[k]? = some M[k] := List.getElem?_eq_getElem hk
  rw [badB_eq e1 e2]
  by_cases hs : span ≤ M[k].1 - M[i].1
  · rw [h i k _ _ (by omega) hk e1 e2 hs, Bool.and_false]
    rfl
  · rw [decide_eq_false hs, Bool.false_and]
    rfl

theorem fairB_up {M : List (Int × List Int)} {span : Int} (h : fairB M span = true) : FairUp M span M.length := by
  unfold fairB at h
  intro i k mi mk hik hkl hi hk hs
  have h1 := List.all_eq_true.1 (List.all_eq_true.1 h k (List.mem_range.2 hkl)) i (List.mem_range.2 (by omega))
  rw [badB_eq hi hk, decide_eq_true hs, Bool.true_and] at h1
  simpa using h1

theorem fairB_false {M : List (Int × List Int)} {span : Int} {i k : Nat} {mi mk : Int × List Int} (hik : i ≤ k) (hi : M[i]? = some mi) (hk : M[k]? = some mk) (hs : span ≤ mk.1 - mi.1) (hb : slowB mi.2 mk.2 (trustD span) = true) : fairB M span = false := by
  cases h : fairB M span
  · rfl
  · have := fairB_up h i k mi mk hik (List.getElem?_eq_some_iff.1 hk).1 hi hk hs
    rw [hb] at this
    cases this

theorem slowB_true {a b : List Int} {d : Int} {c : Nat} {x y : Int} (hx : a[c]? = some x) (hy : b[c]? = some y) (h : y - x < d) : slowB a b d = true := by
  unfold slowB
  rw [List.any_eq_true]
  refine ⟨(x, y), ?_, by simpa using h⟩
  refine List.mem_of_getElem? (i := c) ?_
  simp [List.getElem?_zip_eq_some, hx, hy]

theorem slowB_false {a b : List Int} {d : Int} (h : ∀ (c : Nat) x y, a[c]? = some x → b[c]? = some y → d ≤ y - x) : slowB a b d = false := by
  unfold slowB
  rw [List.any_eq_false]
  intro p hp
  obtain ⟨c, hc⟩ := List.mem_iff_getElem?.1 hp
  rw [List.getElem?_zip_eq_some] at hc
  have := h c _ _ hc.1 hc.2
  simp
  omega

theorem slowB_not {a b : List Int} {d : Int} (h : slowB a b d = false) {c : Nat} {x y : Int} (hx : a[c]? = some x) (hy : b[c]? = some y) : d ≤ y - x := by
  rcases Int.lt_or_le (y - x) d with q | q
  · rw [slowB_true hx hy q] at h
    cases h
  · exact q

/-- Of all moments that are a span ahead, the last one has the least between. -/
theorem fair_step {M : List (Int × List Int)} {span : Int} (hm : MonoM M) {a j : Nat} {m ma : Int × List Int} (haj : a ≤ j) (hj : M[j]? = some m) (ha : M[a]? = some ma) (hna : m.1 - ma.1 < span) (hup : FairUp M span j)
    (hlast : ∀ mp, 0 < a → M[a - 1]? = some mp → slowB mp.2 m.2 (trustD span) = false) : FairUp M span (j + 1) := by
  intro i k mi mk hik hkj hi hk hs
  by_cases hkj' : k < j
  · exact hup i k mi mk hik hkj' hi hk hs
  obtain rfl : k = j := by omega
  rw [hj] at hk
  cases hk
  have hia : i < a := by
    rcases Nat.lt_or_ge i a with h | h
    · exact h
    · have := (hm a i ma mi h ha hi).1
      omega
  have hl := (List.getElem?_eq_some_iff.1 ha).1
  obtain ⟨mp, hmp⟩ : ∃ mp, M[a - 1]? = some mp := ⟨_, List.getElem?_eq_getElem (by omega)⟩
  have hns := hlast mp (by omega) hmp
  have hmm := hm i (a - 1) mi mp (by omega) hi hmp
  refine slowB_false fun c x y hx hy => ?_
  have hcl : c < mp.2.length := by
    have := (List.getElem?_eq_some_iff.1 hx).1
    omega
  obtain ⟨u, hu⟩ : ∃ u, mp.2[c]? = some u := ⟨_, List.getElem?_eq_getElem hcl⟩
  have h1 := hmm.2.2 c x u hx hu
  have h2 := slowB_not hns hu hy
  omega

/-- The moments of a play, in their order. -/
def momO (span : Int) (n : Nat) (ds : List Dd) (k : Nat) : List (Int × List Int) := (List.range (k + 1)).map fun i => ((runC span n ds i).now, (runC span n ds i).clocks)

theorem momO_get {span : Int} {n : Nat} {ds : List Dd} {k i : Nat} (h : i ≤ k) : (momO span n ds k)[i]? = some ((runC span n ds i).now, (runC span n ds i).clocks) := by
  simp [momO, List.getElem?_range (show i < k + 1 by omega)]

theorem momO_length {span : Int} {n : Nat} {ds : List Dd} {k : Nat} : (momO span n ds k).length = k + 1 := by simp [momO]

theorem momO_succ {span : Int} {n : Nat} {ds : List Dd} {k : Nat} : momO span n ds (k + 1) = momO span n ds k ++ [((runC span n ds (k + 1)).now, (runC span n ds (k + 1)).clocks)] := by
  simp [momO, List.range_succ]

/-- A deed lets no clock go back. -/
theorem doC_mono {c : Ct} {span : Int} {d : Dd} (hm : mayC c d = 0) : c.now ≤ (doC c span d).now ∧ c.clocks.length = (doC c span d).clocks.length ∧ ∀ (k : Nat) x y, c.clocks[k]? = some x → (doC c span d).clocks[k]? = some y → x ≤ y := by
  have same : ∀ (k : Nat) (x y : Int), c.clocks[k]? = some x → c.clocks[k]? = some y → x ≤ y := by
    intro k x y hx hy
    rw [hx] at hy
    cases hy
    exact Int.le_refl _
  have hk : d.kind < 2 → 0 ≤ d.n := by
    intro h1
    unfold mayC at hm
    split at hm
    · cases hm
    split at hm
    · cases hm
    split at hm
    · cases hm
    omega
  unfold doC
  by_cases d0 : d.kind = 0
  · simp only [if_pos d0]; exact ⟨by have := hk (by omega); omega, trivial, same⟩
  simp only [if_neg d0]
  by_cases d1 : d.kind = 1
  · simp only [if_pos d1]
    refine ⟨Int.le_refl _, by simp [lset], fun k x y hx hy => ?_⟩
    unfold lset at hy
    rw [List.getElem?_set] at hy
    split at hy
    · rename_i hq
      split at hy
      · simp only [Option.some.injEq] at hy
        have : lget c.clocks d.who 0 = x := by unfold lget; rw [List.getD_eq_getElem?_getD, hq, hx]; rfl
        have := hk (by omega)
        omega
      · cases hy
    · exact same k x y hx hy
  simp only [if_neg d1]
  by_cases d2 : d.kind = 2
  · simp only [if_pos d2]; exact ⟨Int.le_refl _, trivial, same⟩
  simp only [if_neg d2]
  by_cases d3 : d.kind = 3
  · simp only [if_pos d3]; split <;> exact ⟨Int.le_refl _, rfl, same⟩
  simp only [if_neg d3]
  by_cases d4 : d.kind = 4
  · simp only [if_pos d4]; split <;> exact ⟨Int.le_refl _, rfl, same⟩
  simp only [if_neg d4]
  by_cases d5 : d.kind = 5
  · simp only [if_pos d5]; exact ⟨Int.le_refl _, trivial, same⟩
  simp only [if_neg d5]
  by_cases d6 : d.kind = 6
  · simp only [if_pos d6]; exact ⟨Int.le_refl _, trivial, same⟩
  simp only [if_neg d6]
  by_cases d7 : d.kind = 7
  · simp only [if_pos d7]; exact ⟨Int.le_refl _, trivial, same⟩
  simp only [if_neg d7]
  exact ⟨Int.le_refl _, trivial, same⟩

theorem run_mono {span : Int} {n : Nat} {ds : List Dd} (hv : okC span n ds) (i : Nat) : ∀ k, i ≤ k → k ≤ ds.length → (runC span n ds i).now ≤ (runC span n ds k).now ∧ (runC span n ds i).clocks.length = (runC span n ds k).clocks.length ∧ ∀ (c : Nat) x y, (runC span n ds i).clocks[c]? = some x → (runC span n ds k).clocks[c]? = some y → x ≤ y := by
  intro k
  induction k with
  | zero =>
    intro h _
    obtain rfl : i = 0 := by omega
    exact ⟨Int.le_refl _, rfl, fun c x y hx hy => by rw [hx] at hy; cases hy; exact Int.le_refl _⟩
  | succ k ih =>
    intro h hl
    by_cases hik : i = k + 1
    · subst hik
      exact ⟨Int.le_refl _, rfl, fun c x y hx hy => by rw [hx] at hy; cases hy; exact Int.le_refl _⟩
    · obtain ⟨a1, a2, a3⟩ := ih (by omega) (by omega)
      obtain ⟨d, hd⟩ : ∃ d, ds[k]? = some d := ⟨_, List.getElem?_eq_getElem (by omega)⟩
      obtain ⟨b1, b2, b3⟩ := doC_mono (span := span) (hv k d hd)
      rw [← runC_succ hd] at b1 b2 b3
      refine ⟨by omega, by omega, fun c x y hx hy => ?_⟩
      have hc : c < (runC span n ds k).clocks.length := by
        have := (List.getElem?_eq_some_iff.1 hx).1
        omega
      obtain ⟨u, hu⟩ : ∃ u, (runC span n ds k).clocks[c]? = some u := ⟨_, List.getElem?_eq_getElem hc⟩
      have := a3 c x u hx hu
      have := b3 c u y hu hy
      omega

theorem momO_mono {span : Int} {n : Nat} {ds : List Dd} (hv : okC span n ds) : MonoM (momO span n ds ds.length) := by
  intro i k mi mk hik hi hk
  have hkl := (List.getElem?_eq_some_iff.1 hk).1
  rw [momO_length] at hkl
  rw [momO_get (by omega)] at hi hk
  cases hi
  cases hk
  exact run_mono hv i k hik (by omega)

theorem run_clen {span : Int} {n : Nat} {ds : List Dd} (hv : okC span n ds) {k : Nat} (hk : k ≤ ds.length) : (runC span n ds k).clocks.length = n := by
  have := (run_mono hv 0 k (by omega) hk).2.1
  rw [← this]
  simp [runC, court0]

/-- Fair deeds, in both words. -/
theorem fair_of {span : Int} {n : Nat} {ds : List Dd} (hv : okC span n ds) (h : fairB (momO span n ds ds.length) span = true) : fairP span n ds ds.length := by
  have hu := fairB_up h
  rw [momO_length] at hu
  intro j i hji hi hs k hk
  have := hu j i _ _ hji (by omega) (momO_get (by omega)) (momO_get hi) (by simp only; omega)
  have hl1 := run_clen hv (k := j) (by omega)
  have hl2 := run_clen hv (k := i) hi
  obtain ⟨x, hx⟩ : ∃ x, (runC span n ds j).clocks[k]? = some x := ⟨_, List.getElem?_eq_getElem (by omega)⟩
  obtain ⟨y, hy⟩ : ∃ y, (runC span n ds i).clocks[k]? = some y := ⟨_, List.getElem?_eq_getElem (by omega)⟩
  have h2 := slowB_not this hx hy
  unfold lget
  rw [List.getD_eq_getElem?_getD, List.getD_eq_getElem?_getD, Int.toNat_natCast, hx, hy]
  simp only [Option.getD_some]
  omega

end Go.Proofs.Ytbffmdhogehfnaa
