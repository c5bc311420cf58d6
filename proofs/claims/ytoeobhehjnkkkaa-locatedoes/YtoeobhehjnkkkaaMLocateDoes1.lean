/-
  Texts joined: Base, Base2, Gen, PartMath, GenB, PartW1, PartW2, PartW3.
-/
import Derived.WalkKit
import Derived.WalkSpells
import Derived.WalkLawsBesides
import Derived.Lib.AppendStr
import Derived.Laws.AppendOwnNone
import Derived.Deep.DeepMust
import Derived.Handy
import Derived.Deep.QuietTactic
import Derived.BigQuiet
import Derived.Deep.DeepCutAuto
import Derived.Deep.RegionWith
import Derived.Laws.EntriesVeiled
import Derived.Deep.RegionHeld3
import Derived.Test.YtoeobhehjnkkkaaRows
import Derived.Maps.OwnSet
/-
  What a slice holds, said of lists: 'Rd w v xs': the slice value v reads, in the world w, as the cells xs. Nothing of a program stands here.
-/
namespace Go.Proofs.Ytoeobhehjnkkkaa
open Go.RowKit

theorem hide {p : Prop} (h : p) : Hid p := h
theorem unhide {p : Prop} (h : Hid p) : p := h

/-- The slice v reads as the cells xs. -/
def Rd (w : World) (v : Value) (xs : List Value) : Prop :=
  ∃ ao cap, v = .slice ao xs.length cap ∧ xs.length ≤ cap ∧ cap ≤ maxLen ∧ (ao = none → cap = 0) ∧ ∀ a, ao = some a → ∀ j u, xs[j]? = some u → w.cell? (a.add j) = some u

/-- Bytes as cells. -/
def bc (bs : List UInt8) : List Value := bs.map fun b => Value.int .u8 b.toNat
/-- Ints as cells. -/
def ic (zs : List Int) : List Value := zs.map (Value.int .i64)
/-- Texts as cells. -/
def sc (ss : List (List UInt8)) : List Value := ss.map fun s => Value.string ⟨s.toArray⟩

theorem bc_length (bs : List UInt8) : (bc bs).length = bs.length := by simp [bc]
theorem ic_length (bs : List Int) : (ic bs).length = bs.length := by simp [ic]
theorem sc_length (bs : List (List UInt8)) : (sc bs).length = bs.length := by simp [sc]
theorem bc_append (a b : List UInt8) : bc (a ++ b) = bc a ++ bc b := by simp [bc]
theorem ic_append (a b : List Int) : ic (a ++ b) = ic a ++ ic b := by simp [ic]
theorem sc_append (a b : List (List UInt8)) : sc (a ++ b) = sc a ++ sc b := by simp [sc]
theorem bc_one (bs : List UInt8) : ∀ u ∈ bc bs, u.oneCell' = true := by
  intro u hu
  simp only [bc, List.mem_map] at hu
  obtain ⟨_, _, rfl⟩ := hu
  rfl

theorem ic_one (bs : List Int) : ∀ u ∈ ic bs, u.oneCell' = true := by
  intro u hu
  simp only [ic, List.mem_map] at hu
  obtain ⟨_, _, rfl⟩ := hu
  rfl

theorem sc_one (bs : List (List UInt8)) : ∀ u ∈ sc bs, u.oneCell' = true := by
  intro u hu
  simp only [sc, List.mem_map] at hu
  obtain ⟨_, _, rfl⟩ := hu
  rfl

theorem Rd.nil (w : World) : Rd w (.slice none 0 0) [] := ⟨none, 0, rfl, Nat.le_refl _, Nat.zero_le _, fun _ => rfl, fun a h => by cases h⟩

theorem Rd.ofOwns {w : World} {base : Nat} {e : TypeId} {v : Value} {n : Nat} {xs : List Value} (h : w.ownsRow base e 1 v n xs) : Rd w v xs := by
  have hl : xs.length = n := by simpa using h.1
  rcases h.2 with ⟨rfl, hn⟩ | ⟨g, cap, cur, rfl, hb, hg, hnc, hcm, hcs, htake⟩
  · have : xs = [] := List.eq_nil_of_length_eq_zero (by omega)
    subst this
    exact Rd.nil w
  · refine ⟨some ⟨g, 0, none⟩, cap, by rw [hl], (by omega), hcm, (fun h => by cases h), fun a ha j u hu => ?_⟩
    cases ha
    exact h.cells (by simp [Value.ownBlock]) j u hu

theorem Rd.below {w w' : World} {v : Value} {xs : List Value} (h : Rd w v xs) (hb : Below w.heap.size w w') : Rd w' v xs := by
  obtain ⟨ao, cap, hv, h1, h2, h3, h4⟩ := h
  refine ⟨ao, cap, hv, h1, h2, h3, fun a ha j u hu => ?_⟩
  have hc := h4 a ha j u hu
  have hlt := World.block_lt_of_cell? w _ hc
  rw [hb.cell hlt]
  exact hc

theorem Rd.drew {w : World} {v : Value} {xs : List Value} (h : Rd w v xs) : Rd w.drew v xs := h
theorem Rd.drewN {w : World} {v : Value} {xs : List Value} (h : Rd w v xs) (n : Nat) : Rd (w.drewN n) v xs := h
theorem Rd.alloc {w : World} {v : Value} {xs : List Value} (h : Rd w v xs) (o : Obj) : Rd (w.alloc o) v xs := h.below ((Below.refl _ _).alloc (Nat.le_refl _) o)

theorem add_spot {a : Addr} {w : World} {v : Value} (h : w.cell? (a.add 0) = some v) : ∃ b o, a = ⟨b, o, none⟩ := by
  obtain ⟨b, o, s⟩ := a
  cases s with
  | none => exact ⟨b, o, rfl⟩
  | some s =>
    exfalso
    simp only [Addr.add, if_pos, World.cell?] at h
    split at h <;> simp_all

/-- A slice that holds something: where it lies. -/
theorem Rd.pos {w : World} {v : Value} {xs : List Value} (h : Rd w v xs) (hp : 0 < xs.length) :
    ∃ b off cap, v = .slice (some ⟨b, off, none⟩) xs.length cap ∧ xs.length ≤ cap ∧ cap ≤ maxLen ∧ b < w.heap.size ∧ ∀ j u, xs[j]? = some u → w.cell? ⟨b, off + j, none⟩ = some u := by
  obtain ⟨ao, cap, hv, h1, h2, h3, h4⟩ := h
  cases ao with
  | none => have := h3 rfl; omega
  | some a =>
    have h0 := h4 a rfl 0 xs[0] (by simp)
    obtain ⟨b, o, rfl⟩ := add_spot h0
    refine ⟨b, o, cap, hv, h1, h2, World.block_lt_of_cell? w _ h0, fun j u hu => ?_⟩
    have := h4 _ rfl j u hu
    rwa [Addr.add_lit] at this

/-- The slice's value written out; each cell that is there, at its place. -/
theorem Rd.open {w : World} {v : Value} {xs : List Value} (h : Rd w v xs) :
    ∃ ao cap, v = .slice ao xs.length cap ∧ xs.length ≤ cap ∧ cap ≤ maxLen ∧ ∀ j, j < xs.length → ∃ b off, ao = some ⟨b, off, none⟩ ∧ b < w.heap.size ∧ ∀ i u, xs[i]? = some u → w.cell? ⟨b, off + i, none⟩ = some u := by
  by_cases hp : 0 < xs.length
  · obtain ⟨b, off, cap, hv, h1, h2, h3, h4⟩ := h.pos hp
    exact ⟨_, cap, hv, h1, h2, fun j _ => ⟨b, off, rfl, h3, h4⟩⟩
  · obtain ⟨ao, cap, hv, h1, h2, _⟩ := h
    exact ⟨ao, cap, hv, h1, h2, fun j hj => by omega⟩

theorem Rd.shape {w : World} {v : Value} {xs : List Value} (h : Rd w v xs) : ∃ ao cap, v = .slice ao xs.length cap ∧ xs.length ≤ cap ∧ cap ≤ maxLen := by
  obtain ⟨ao, cap, hv, h1, h2, _⟩ := h
  exact ⟨ao, cap, hv, h1, h2⟩

theorem Rd.new (w : World) (u : Value) (e : TypeId) : Rd (w.alloc (.cells #[u] e)) (.slice (some ⟨w.heap.size, 0, none⟩) 1 1) [u] :=
  ⟨some ⟨w.heap.size, 0, none⟩, 1, rfl, Nat.le_refl _, by decide, (fun h => by cases h), fun a ha j v hv => by
    cases ha
    match j, hv with
    | 0, hv => simp at hv; subst hv; simp [Addr.add]⟩

/-- 'append(out, xs...)', out the call's own, xs whatever reads as cells: nil, empty or not. -/
theorem wpList_append_rd {P : Program} {w : World} {ops : Array Oper} {rest : List Oper} {o : Oper} {a : Act} {Q : Exit → Act → World → Prop} {s x : Operand} {t : TypeId} {base : Nat} {e : TypeId} {z : Value} {bytes : Nat}
    {v : Value} {n : Nat} {xs : List Value} {vx : Value} {news : List Value}
    (hown : w.ownsRow base e 1 v n xs) (hrd : Rd w vx news)
    (ht : P.underlying t = some (.slice e)) (hinf : (P.info? e).map (fun i => (i.zero, i.size, i.bytes)) = some (some z, 1, bytes)) (hzs : z.cells.size = 1)
    (hgd : o.guard = none) (ho : o.op = .call { callee := .builtin .append, args := #[s, x], argTypes := #[t, t] })
    (hs : a.eval s = v) (hx : a.eval x = vx) (h1 : ∀ u ∈ news, u.oneCell' = true)
    (h63 : n + news.length ≤ 2000000000000) (hbytes : bytes ≤ 64) (hbase : base ≤ w.heap.size)
    (h : ∀ v' w', w'.ownsRow base e 1 v' (n + news.length) (xs ++ news) → Below base w w' → w.grownBy w' v.ownBlock → wpList P ops Q rest (a.put o.dst v') w') : wpList P ops Q (o :: rest) a w := by
  obtain ⟨i, hi, hz, hsize, hby⟩ := info_parts hinf
  have hlt := hown.lt
  have hbytes' : (n + news.length) * bytes ≤ 2000000000000 * 64 := Nat.mul_le_mul h63 hbytes
  obtain ⟨ao, cap, hvx, h2, h3, h4, h5⟩ := hrd
  cases ao with
  | none =>
    have hc := h4 rfl
    have hnews : news = [] := List.eq_nil_of_length_eq_zero (by omega)
    subst hnews
    subst hc
    refine wpList_append_own_none hgd s x t ho base e i 1 ht hi v n xs hs hown (hx.trans hvx) ?_
    exact h v w (by simpa using hown) (Below.refl _ _) (World.grownBy.refl _ _)
  | some ad =>
    refine wpList_append_own w hgd s x t ho base e i z 1 bytes ht hi hz hsize hby hzs (by decide) v n xs hs hown ad news.length cap news (hx.trans hvx) (by simp) (h5 ad rfl) h1 (by simp [maxLen]; omega) (by omega) hbase ?_
    intro v' w' ho' hg' _
    exact h v' w' ho' ((Below.refl _ _).grown hg' hbase (fun k hk => (hlt k hk).1)) hg'

/-- 'append(out, u)', out the call's own: u was laid in a block of its own just ahead. -/
theorem wpList_append_one {P : Program} {w : World} {u : Value} {ops : Array Oper} {rest : List Oper} {o : Oper} {a : Act} {Q : Exit → Act → World → Prop} {s x : Operand} {t : TypeId} {base : Nat} {e : TypeId} {z : Value} {bytes : Nat}
    {v : Value} {n : Nat} {xs : List Value}
    (hown : w.ownsRow base e 1 v n xs)
    (ht : P.underlying t = some (.slice e)) (hinf : (P.info? e).map (fun i => (i.zero, i.size, i.bytes)) = some (some z, 1, bytes)) (hzs : z.cells.size = 1)
    (hgd : o.guard = none) (ho : o.op = .call { callee := .builtin .append, args := #[s, x], argTypes := #[t, t] })
    (hs : a.eval s = v) (hx : a.eval x = .slice (some ⟨w.heap.size, 0, none⟩) 1 1) (h1 : u.oneCell' = true)
    (h63 : n ≤ 1000000000000) (hbytes : bytes ≤ 64) (hbase : base ≤ w.heap.size)
    (h : ∀ v' w', w'.ownsRow base e 1 v' (n + 1) (xs ++ [u]) → Below base w w' → w.grownBy w' v.ownBlock → wpList P ops Q rest (a.put o.dst v') w') : wpList P ops Q (o :: rest) a (w.alloc (.cells #[u] e)) := by
  refine wpList_append_rd (hown.alloc _) (Rd.new _ u _) ht hinf hzs hgd ho hs hx (by simpa using h1) (by simp; omega) hbytes (by simp; omega) ?_
  intro v' w' h2 h3 h4
  refine h v' w' h2 (((Below.refl _ _).alloc hbase _).trans h3) ⟨h4.os, h4.tape, h4.output, ?_, fun k hk hne => ?_⟩
  · have := h4.size; simp at this; omega
  · rw [h4.block k (by simp; omega) hne, Below.heap_alloc _ _ _ hk]

/-- A block of two cells that the call laid first, later on. -/
theorem two_later {w wr : World} {x y : Value} {t : TypeId} (h : Below (w.heap.size + 1) (w.alloc (.cells #[x, y] t)) wr) :
    wr.cell? ⟨w.heap.size, 0, none⟩ = some x ∧ wr.cell? ⟨w.heap.size, 1, none⟩ = some y ∧ wr.frozen? ⟨w.heap.size, 0, none⟩ = false ∧ wr.frozen? ⟨w.heap.size, 1, none⟩ = false ∧ w.heap.size < wr.heap.size := by
  refine ⟨?_, ?_, ?_, ?_, ?_⟩
  · rw [h.cell (p := ⟨w.heap.size, 0, none⟩) (by simp)]; simp
  · rw [h.cell (p := ⟨w.heap.size, 1, none⟩) (by simp)]; simp
  · rw [h.frozen (p := ⟨w.heap.size, 0, none⟩) (by simp)]; simp
  · rw [h.frozen (p := ⟨w.heap.size, 1, none⟩) (by simp)]; simp
  · have := h.size; simp at this; omega

/-- What lies below a call's first block is as it was. -/
theorem below_first {w wr : World} {o : Obj} (h : Below (w.heap.size + 1) (w.alloc o) wr) : Below w.heap.size w wr :=
  ((Below.refl _ _).alloc (Nat.le_refl _) o).trans (h.mono (by omega))

/-- The slice v lies in blocks from B on (or nowhere). -/
def New (B : Nat) (v : Value) : Prop := ∀ a l c, v = .slice (some a) l c → B ≤ a.block
theorem New.nil (B : Nat) : New B (.slice none 0 0) := fun a l c h => by simp at h
theorem New.owns {w : World} {base : Nat} {e : TypeId} {size : Nat} {v : Value} {n : Nat} {xs : List Value} (h : w.ownsRow base e size v n xs) : New base v := by
  intro a l c hv
  exact (h.lt a.block (by rw [hv]; rfl)).1

theorem New.mono {B B' : Nat} {v : Value} (h : New B v) (hb : B' ≤ B) : New B' v := fun a l c hv => Nat.le_trans hb (h a l c hv)
theorem Rd.setNew {w : World} {v : Value} {xs : List Value} {B : Nat} (h : Rd w v xs) (hn : New B v) {p : Addr} (hp : p.block < B) (u : Value) : Rd (w.setCell p u) v xs := by
  obtain ⟨ao, cap, hv, h1, h2, h3, h4⟩ := h
  refine ⟨ao, cap, hv, h1, h2, h3, fun a ha j x hx => ?_⟩
  have hc := h4 a ha j x hx
  have e : (a.add j).block = a.block := by unfold Addr.add; split <;> rfl
  have hb : B ≤ a.block := hn a _ _ (by rw [hv, ha])
  rw [← hc]
  exact World.cell?_of_block (heap_setCell_other w p _ u (by rw [e]; omega))

/-- An old slice, while a new block is written. -/
theorem Rd.setOld {w : World} {v : Value} {xs : List Value} {w0 : World} (h0 : Rd w0 v xs) (h : Rd w v xs) {p : Addr} (hp : w0.heap.size ≤ p.block) (u : Value) : Rd (w.setCell p u) v xs := by
  obtain ⟨ao0, cap0, hv0, _, _, _, h40⟩ := h0
  obtain ⟨ao, cap, hv, h1, h2, h3, h4⟩ := h
  rw [hv] at hv0
  simp only [Value.slice.injEq] at hv0
  obtain ⟨rfl, _, _⟩ := hv0
  refine ⟨ao, cap, hv, h1, h2, h3, fun a ha j x hx => ?_⟩
  have hc := h4 a ha j x hx
  have hlt := World.block_lt_of_cell? w0 _ (h40 a ha j x hx)
  rw [← hc]
  exact World.cell?_of_block (heap_setCell_other w p _ u (by omega))

/-- A slice's length: for a loop's measure. -/
def lenV : Value → Nat | .slice _ n _ => n | _ => 0
theorem lenV_owns {w : World} {base : Nat} {e : TypeId} {size : Nat} {v : Value} {n : Nat} {xs : List Value} (h : w.ownsRow base e size v n xs) : lenV v = n := by
  rcases h.2 with ⟨rfl, hn⟩ | ⟨g, cap, cur, rfl, _⟩
  · simp [lenV, hn]
  · rfl

theorem owns_shape {w : World} {base : Nat} {e : TypeId} {v : Value} {n : Nat} {xs : List Value} (h : w.ownsRow base e 1 v n xs) : ∃ ao cap, v = .slice ao n cap := by
  rcases h.2 with ⟨rfl, hn⟩ | ⟨g, cap, cur, rfl, _⟩
  · exact ⟨none, 0, by rw [hn]⟩
  · exact ⟨_, _, rfl⟩

theorem owns_grown {w w' : World} {base : Nat} {e : TypeId} {size : Nat} {v : Value} {n : Nat} {xs : List Value} {R : Nat} (h : w.ownsRow base e size v n xs) (hg : w.grownBy w' (some R)) (hR : R < base) : w'.ownsRow base e size v n xs := by
  refine h.kept hg ?_
  cases hv : v.ownBlock with
  | none => exact .inl rfl
  | some k =>
    right
    have := (h.lt k hv).1
    simp
    omega

theorem strOfNums_bytes (bs : List UInt8) : strOfNums (bs.map fun b => (b.toNat : Int)) = ⟨bs.toArray⟩ := by
  unfold strOfNums
  simp [Function.comp_def]

/-- 'string(b)'. -/
theorem run_string_of_rd {P : Program} {w : World} {src dst e : TypeId} (hs : P.underlying src = some (.slice e)) (he : P.underlying e = some (.int .u8)) (hd : P.underlying dst = some .string) {v : Value} {bs : List UInt8} (h : Rd w v (bc bs)) :
    (convert src dst v).run P w = .ok (.string ⟨bs.toArray⟩) w := by
  by_cases hp : 0 < bs.length
  · obtain ⟨b, off, cap, hv, _, _, _, hc⟩ := h.pos (by rw [bc_length]; exact hp)
    rw [bc_length] at hv
    subst hv
    rw [← strOfNums_bytes]
    refine run_convert_bytes_arg w src e hs he b off bs.length cap _ (by simp) (fun i hi => ?_) dst hd
    refine hc i _ ?_
    simp [bc, hi, List.getD]
  · obtain rfl : bs = [] := List.eq_nil_of_length_eq_zero (by omega)
    obtain ⟨ao, cap, hv, _, _, _, _⟩ := h
    subst hv
    cases ao with
    | none => exact run_convert_bytes_nil w src e hs he _ _ dst hd
    | some a =>
      rw [run_convert_bytes_string w src dst e _ _ cap hs he hd]
      have := run_bytesToString (P := P) w a 0 cap [] (by simpa using run_loadCells_list (P := P) w a [] (fun j u hu => by simp at hu))
      exact this

/-- 'v[lo:hi]'. -/
theorem Rd.sliced {w : World} {ao : Option Addr} {n cap lo hi : Nat} {xs : List Value} (h : Rd w (.slice ao n cap) xs) (h1 : lo ≤ hi) (h2 : hi ≤ n) : Rd w (Go.sliced ao lo hi cap 1) ((xs.drop lo).take (hi - lo)) := by
  obtain ⟨ao', cap', hv, h3, h4, h5, h6⟩ := h
  simp only [Value.slice.injEq] at hv
  obtain ⟨rfl, rfl, rfl⟩ := hv
  have hl : ((xs.drop lo).take (hi - lo)).length = hi - lo := by simp; omega
  refine ⟨_, cap - lo, by rw [hl]; rfl, by omega, by omega, ?_, ?_⟩
  · intro hn
    split at hn
    · omega
    · rw [Option.map_eq_none_iff] at hn
      have := h5 hn
      omega
  · intro a ha j u hu
    have hj : j < hi - lo := by
      have := (List.getElem?_eq_some_iff.1 hu).1
      omega
    rw [List.getElem?_take, if_pos hj, List.getElem?_drop] at hu
    split at ha
    · omega
    · obtain ⟨a0, e0, rfl⟩ := Option.map_eq_some_iff.1 ha
      have h0 := h6 a0 e0 0 xs[0] (by simp)
      obtain ⟨b, o, rfl⟩ := add_spot h0
      have := h6 _ e0 (lo + j) u hu
      simp only [Addr.add_lit, Nat.mul_one] at this ⊢
      rw [Nat.add_assoc]
      exact this

theorem drewN_add (w : World) (p q : Nat) : (w.drewN p).drewN q = w.drewN (p + q) := by
  simp [World.drewN, Nat.add_assoc]

/-- 'v[lo:hi]' as an operation: what it yields, in whatever world. -/
theorem run_slice_rd {P : Program} {t e : TypeId} {z : Value} {bytes : Nat} (ht : P.underlying t = some (.slice e)) (he : P.elem t = e) (hinf : (P.info? e).map (fun i => (i.zero, i.size, i.bytes)) = some (some z, 1, bytes))
    (ao : Option Addr) (n cap lo hi : Nat) (l h : Int) (hl : l = lo) (hh : h = hi) (h1 : lo ≤ hi) (h2 : hi ≤ cap) (W : World) :
    (Instr.slice t (.slice ao n cap) (some (.int .i64 l)) (some (.int .i64 h)) none).run P W = .ok (Go.sliced ao lo hi cap 1) W := by
  obtain ⟨i, hi0, _, hsize, _⟩ := info_parts hinf
  subst hl hh
  rw [run_slice_lh (P := P) W t ao n cap (by rw [he]; exact ht) .i64 .i64 lo hi (by omega) (by omega) (by omega)]
  simp [he, sizeOf, typeInfo, hi0, hsize, Result.andThen]

end Go.Proofs.Ytoeobhehjnkkkaa

/-
  More on what slices hold. Nothing of a program stands here.
-/
namespace Go.Proofs.Ytoeobhehjnkkkaa
open Go.RowKit

theorem owns_below {w w' : World} {base : Nat} {e : TypeId} {size : Nat} {v : Value} {n : Nat} {xs : List Value} (h : w.ownsRow base e size v n xs) (hb : Below w.heap.size w w') : w'.ownsRow base e size v n xs := by
  refine ⟨h.1, ?_⟩
  rcases h.2 with hn | ⟨g, cap, cur, rfl, hg, hh, r⟩
  · exact .inl hn
  · exact .inr ⟨g, cap, cur, rfl, hg, by rw [hb.block g (Array.getElem?_eq_some_iff.1 hh).1]; exact hh, r⟩

/-- 'v[lo:]' as an operation. -/
theorem run_slice_from {P : Program} {t e : TypeId} {z : Value} {bytes : Nat} (ht : P.underlying t = some (.slice e)) (he : P.elem t = e) (hinf : (P.info? e).map (fun i => (i.zero, i.size, i.bytes)) = some (some z, 1, bytes))
    (ao : Option Addr) (n cap lo : Nat) (l : Int) (hl : l = lo) (h1 : lo ≤ n) (W : World) :
    (Instr.slice t (.slice ao n cap) (some (.int .i64 l)) none none).run P W = .ok (Go.sliced ao lo n cap 1) W := by
  obtain ⟨i, hi0, _, hsize, _⟩ := info_parts hinf
  subst hl
  rw [run_slice_l (P := P) W t ao n cap (by rw [he]; exact ht) .i64 lo (by omega) (by omega)]
  simp [he, sizeOf, typeInfo, hi0, hsize, Result.andThen]

/-- 'v[:hi]' as an operation. -/
theorem run_slice_upto {P : Program} {t e : TypeId} {z : Value} {bytes : Nat} (ht : P.underlying t = some (.slice e)) (he : P.elem t = e) (hinf : (P.info? e).map (fun i => (i.zero, i.size, i.bytes)) = some (some z, 1, bytes))
    (ao : Option Addr) (n cap hi : Nat) (h : Int) (hh : h = hi) (h1 : hi ≤ cap) (W : World) :
    (Instr.slice t (.slice ao n cap) none (some (.int .i64 h)) none).run P W = .ok (Go.sliced ao 0 hi cap 1) W := by
  obtain ⟨i, hi0, _, hsize, _⟩ := info_parts hinf
  subst hh
  rw [run_slice_h (P := P) W t ao n cap (by rw [he]; exact ht) .i64 hi (by omega) (by omega)]
  simp [he, sizeOf, typeInfo, hi0, hsize, Result.andThen]

theorem Rd.from {w : World} {ao : Option Addr} {n cap lo : Nat} {xs : List Value} (h : Rd w (.slice ao n cap) xs) (h1 : lo ≤ n) : Rd w (Go.sliced ao lo n cap 1) (xs.drop lo) := by
  have hn : n = xs.length := by
    obtain ⟨_, _, hv, _⟩ := h
    simp only [Value.slice.injEq] at hv
    exact hv.2.1
  have := h.sliced h1 (Nat.le_refl _)
  rwa [List.take_of_length_le (by rw [List.length_drop, hn]; exact Nat.le_refl _)] at this

theorem Rd.upto {w : World} {ao : Option Addr} {n cap hi : Nat} {xs : List Value} (h : Rd w (.slice ao n cap) xs) (h1 : hi ≤ n) : Rd w (Go.sliced ao 0 hi cap 1) (xs.take hi) := by
  have := h.sliced (Nat.zero_le _) h1
  simpa using this

theorem Rd.len {w : World} {ao : Option Addr} {n cap : Nat} {xs : List Value} (h : Rd w (.slice ao n cap) xs) : n = xs.length ∧ n ≤ cap ∧ cap ≤ maxLen := by
  obtain ⟨ao', cap', hv, h1, h2, _⟩ := h
  simp only [Value.slice.injEq] at hv
  obtain ⟨_, rfl, rfl⟩ := hv
  exact ⟨rfl, h1, h2⟩

theorem bc_drop (bs : List UInt8) (k : Nat) : (bc bs).drop k = bc (bs.drop k) := by simp [bc, List.map_drop]
theorem bc_take (bs : List UInt8) (k : Nat) : (bc bs).take k = bc (bs.take k) := by simp [bc, List.map_take]
theorem sliced_shape (ao : Option Addr) (lo hi cap : Nat) : ∃ a, Go.sliced ao lo hi cap 1 = .slice a (hi - lo) (cap - lo) := ⟨_, rfl⟩

end Go.Proofs.Ytoeobhehjnkkkaa

/-
  Lists of flat structures of K places each, as values and in memory, whatever the structure is. Nothing of a program stands here.
-/
namespace Go.Proofs.Ytoeobhehjnkkkaa
open Go.RowKit

/-- How a structure of K places lies in memory. -/
structure En (α : Type) (K : Nat) where
  v : α → List Value
  len : ∀ a, (v a).length = K
  one : ∀ a, ∀ u ∈ v a, u.oneCell' = true
  pos : 0 < K

/-- A list's places in memory. -/
def En.vs {α : Type} {K : Nat} (E : En α K) (xs : List α) : List Value := xs.flatMap E.v

/-- A structure as a value. -/
def En.ag {α : Type} {K : Nat} (E : En α K) (x : α) : Value := .agg (E.v x).toArray

section
variable {α : Type} {K : Nat} {E : En α K}

theorem vs_nil : E.vs [] = [] := rfl
theorem vs_cons (c : α) (cs : List α) : E.vs (c :: cs) = E.v c ++ E.vs cs := rfl
theorem vs_append (a b : List α) : E.vs (a ++ b) = E.vs a ++ E.vs b := by simp [En.vs]
theorem vs_one1 (c : α) : E.vs [c] = E.v c := by simp [En.vs]

theorem vs_length : ∀ cs : List α, (E.vs cs).length = cs.length * K
  | [] => by simp [En.vs]
  | c :: cs => by rw [vs_cons, List.length_append, vs_length cs, E.len, List.length_cons, Nat.succ_mul]; omega

theorem vs_one (cs : List α) : ∀ u ∈ E.vs cs, u.oneCell' = true := by
  intro u hu
  simp only [En.vs, List.mem_flatMap] at hu
  obtain ⟨c, _, hu⟩ := hu
  exact E.one c u hu

theorem vs_get : ∀ (cs : List α) (j : Nat) (h : j < cs.length) (k : Nat), k < K → (E.vs cs)[j * K + k]? = (E.v cs[j])[k]?
  | [], j, h, _, _ => by simp at h
  | c :: cs, 0, h, k, hk => by
    rw [vs_cons, Nat.zero_mul, Nat.zero_add, List.getElem?_append_left (by rw [E.len]; omega)]
    simp
  | c :: cs, j + 1, h, k, hk => by
    have e : (j + 1) * K + k = K + (j * K + k) := by rw [Nat.succ_mul]; omega
    rw [vs_cons, List.getElem?_append_right (by rw [E.len, e]; omega)]
    have ih := vs_get cs j (by simpa using h) k hk
    rw [E.len, e, Nat.add_sub_cancel_left, ih]
    simp

theorem vs_drop : ∀ (cs : List α) (k : Nat), (E.vs cs).drop (k * K) = E.vs (cs.drop k)
  | cs, 0 => by simp
  | [], k + 1 => by simp [En.vs]
  | c :: cs, k + 1 => by
    have e : (k + 1) * K = K + k * K := by rw [Nat.succ_mul]; omega
    rw [vs_cons, e, List.drop_append, E.len, Nat.add_sub_cancel_left, List.drop_of_length_le (by rw [E.len]; omega), List.nil_append, List.drop_succ_cons]
    exact vs_drop cs k

theorem vs_take : ∀ (cs : List α) (k : Nat), (E.vs cs).take (k * K) = E.vs (cs.take k)
  | cs, 0 => by simp [En.vs]
  | [], k + 1 => by simp [En.vs]
  | c :: cs, k + 1 => by
    have e : (k + 1) * K = K + k * K := by rw [Nat.succ_mul]; omega
    rw [vs_cons, e, List.take_append, E.len, Nat.add_sub_cancel_left, List.take_of_length_le (by rw [E.len]; omega), List.take_succ_cons, vs_cons, vs_take cs k]

/-- The slice v reads as the structures xs. -/
def RdG (E : En α K) (w : World) (v : Value) (xs : List α) : Prop :=
  ∃ ao cap, v = .slice ao xs.length cap ∧ xs.length ≤ cap ∧ cap ≤ maxLen ∧ (ao = none → cap = 0) ∧ ∀ a, ao = some a → ∀ j u, (E.vs xs)[j]? = some u → w.cell? (a.add j) = some u

theorem RdG.nil (w : World) : RdG E w (.slice none 0 0) [] := ⟨none, 0, rfl, Nat.le_refl _, Nat.zero_le _, fun _ => rfl, fun a h => by cases h⟩

theorem RdG.ofOwns {w : World} {base : Nat} {e : TypeId} {v : Value} {n : Nat} {cs : List α} (h : w.ownsRow base e K v n (E.vs cs)) : RdG E w v cs := by
  have hl : cs.length = n := by
    have := h.1
    rw [vs_length] at this
    exact Nat.eq_of_mul_eq_mul_right E.pos this
  rcases h.2 with ⟨rfl, hn⟩ | ⟨g, cap, cur, rfl, hb, hg, hnc, hcm, hcs, htake⟩
  · have : cs = [] := List.eq_nil_of_length_eq_zero (by omega)
    subst this
    exact RdG.nil w
  · refine ⟨some ⟨g, 0, none⟩, cap, by rw [hl], (by omega), hcm, (fun h => by cases h), fun a ha j u hu => ?_⟩
    cases ha
    exact h.cells (by simp [Value.ownBlock]) j u hu

theorem RdG.below {w w' : World} {v : Value} {cs : List α} (h : RdG E w v cs) (hb : Below w.heap.size w w') : RdG E w' v cs := by
  obtain ⟨ao, cap, hv, h1, h2, h3, h4⟩ := h
  refine ⟨ao, cap, hv, h1, h2, h3, fun a ha j u hu => ?_⟩
  have hc := h4 a ha j u hu
  have hlt := World.block_lt_of_cell? w _ hc
  rw [hb.cell hlt]
  exact hc

theorem RdG.drew {w : World} {v : Value} {cs : List α} (h : RdG E w v cs) : RdG E w.drew v cs := h
theorem RdG.drewN {w : World} {v : Value} {cs : List α} (h : RdG E w v cs) (n : Nat) : RdG E (w.drewN n) v cs := h
theorem RdG.alloc {w : World} {v : Value} {cs : List α} (h : RdG E w v cs) (o : Obj) : RdG E (w.alloc o) v cs := h.below ((Below.refl _ _).alloc (Nat.le_refl _) o)

theorem RdG.shape {w : World} {v : Value} {cs : List α} (h : RdG E w v cs) : ∃ ao cap, v = .slice ao cs.length cap ∧ cs.length ≤ cap ∧ cap ≤ maxLen := by
  obtain ⟨ao, cap, hv, h1, h2, _⟩ := h
  exact ⟨ao, cap, hv, h1, h2⟩

/-- The places of one structure. -/
def AtG (E : En α K) (w : World) (b off : Nat) (c : α) : Prop := ∀ k u, (E.v c)[k]? = some u → w.cell? ⟨b, off + k, none⟩ = some u

theorem AtG.lt {w : World} {b off : Nat} {c : α} (h : AtG E w b off c) : b < w.heap.size := by
  have hl : 0 < (E.v c).length := by rw [E.len]; exact E.pos
  exact World.block_lt_of_cell? w _ (h 0 (E.v c)[0] (by simp))

theorem AtG.below {w w' : World} {b off : Nat} {c : α} (h : AtG E w b off c) (hb : Below w.heap.size w w') : AtG E w' b off c :=
  fun k u hu => (hb.cell h.lt).trans (h k u hu)

/-- Where one of a list lies. -/
theorem RdG.here {w : World} {ao : Option Addr} {n cap : Nat} {cs : List α} (h : RdG E w (.slice ao n cap) cs) {i : Nat} {c : α} (hi : cs[i]? = some c) :
    ∃ b off, ao = some ⟨b, off, none⟩ ∧ b < w.heap.size ∧ AtG E w b (off + i * K) c := by
  obtain ⟨ao', cap', hv, h1, h2, h3, h4⟩ := h
  simp only [Value.slice.injEq] at hv
  obtain ⟨rfl, rfl, rfl⟩ := hv
  obtain ⟨hl, e⟩ := List.getElem?_eq_some_iff.1 hi
  cases ao with
  | none => have := h3 rfl; omega
  | some a =>
    have hp : 0 < (E.vs cs).length := by rw [vs_length]; exact Nat.mul_pos (by omega) E.pos
    have h0 := h4 a rfl 0 (E.vs cs)[0] (by simp)
    obtain ⟨b, o, rfl⟩ := add_spot h0
    refine ⟨b, o, rfl, World.block_lt_of_cell? w _ h0, fun k u hu => ?_⟩
    have hk : k < K := by have := (List.getElem?_eq_some_iff.1 hu).1; rwa [E.len] at this
    have hg := vs_get (E := E) cs i hl k hk
    rw [e, hu] at hg
    have := h4 _ rfl (i * K + k) _ hg
    rw [Addr.add_lit] at this
    rw [Nat.add_assoc, this]

theorem RdG.len {w : World} {ao : Option Addr} {n cap : Nat} {xs : List α} (h : RdG E w (.slice ao n cap) xs) : n = xs.length ∧ n ≤ cap ∧ cap ≤ maxLen := by
  obtain ⟨ao', cap', hv, h1, h2, _⟩ := h
  simp only [Value.slice.injEq] at hv
  obtain ⟨_, rfl, rfl⟩ := hv
  exact ⟨rfl, h1, h2⟩

/-- A write into a block in which the slice does not lie. -/
theorem RdG.setOff {w : World} {v : Value} {cs : List α} (h : RdG E w v cs) {p : Addr} (hp : ∀ a l c, v = .slice (some a) l c → a.block ≠ p.block) (u : Value) : RdG E (w.setCell p u) v cs := by
  obtain ⟨ao, cap, hv, h1, h2, h3, h4⟩ := h
  refine ⟨ao, cap, hv, h1, h2, h3, fun a ha j x hx => ?_⟩
  have hc := h4 a ha j x hx
  have e : (a.add j).block = a.block := by unfold Addr.add; split <;> rfl
  have hb := hp a _ _ (by rw [hv, ha])
  rw [← hc]
  exact World.cell?_of_block (heap_setCell_other w p _ u (by rw [e]; exact hb))

theorem RdG.setNew {w : World} {v : Value} {cs : List α} {B : Nat} (h : RdG E w v cs) (hn : New B v) {p : Addr} (hp : p.block < B) (u : Value) : RdG E (w.setCell p u) v cs :=
  h.setOff (fun a l c hv => by have := hn a l c hv; omega) u

theorem RdG.setOld {w w0 : World} {v : Value} {cs : List α} (h0 : RdG E w0 v cs) (h : RdG E w v cs) {p : Addr} (hp : w0.heap.size ≤ p.block) (u : Value) : RdG E (w.setCell p u) v cs := by
  obtain ⟨ao0, cap0, hv0, _, _, _, h40⟩ := h0
  obtain ⟨ao, cap, hv, h1, h2, h3, h4⟩ := h
  rw [hv] at hv0
  simp only [Value.slice.injEq] at hv0
  obtain ⟨rfl, _, _⟩ := hv0
  refine ⟨ao, cap, hv, h1, h2, h3, fun a ha j x hx => ?_⟩
  have hc := h4 a ha j x hx
  have hlt := World.block_lt_of_cell? w0 _ (h40 a ha j x hx)
  rw [← hc]
  exact World.cell?_of_block (heap_setCell_other w p _ u (by omega))

/-- A block that was laid for some structures, as a slice over all of it. -/
theorem RdG.newL (w : World) (cs : List α) (e : TypeId) (vs : Array Value) (hvs : vs.toList = E.vs cs) (hl : cs.length ≤ 1000) : RdG E (w.alloc (.cells vs e)) (.slice (some ⟨w.heap.size, 0, none⟩) cs.length cs.length) cs :=
  ⟨some ⟨w.heap.size, 0, none⟩, cs.length, rfl, Nat.le_refl _, by unfold maxLen; omega, (fun h => by cases h), fun a ha j v hv => by
    cases ha
    rw [Addr.add_lit, Nat.zero_add, ← hv]
    have := cell_of_row (w.alloc (.cells vs e)) w.heap.size j _ e (0, 0) (heap_alloc_new w _)
    rw [this, ← hvs]
    simp⟩

/-- 'append(out, xs...)', out the call's own. -/
theorem wpList_append_rdG {P : Program} {w : World} {ops : Array Oper} {rest : List Oper} {o : Oper} {a : Act} {Q : Exit → Act → World → Prop} {s x : Operand} {t : TypeId} {base : Nat} {e : TypeId} {z : Value} {bytes : Nat}
    {v : Value} {n : Nat} {cs : List α} {vx : Value} {news : List α}
    (hown : w.ownsRow base e K v n (E.vs cs)) (hrd : RdG E w vx news)
    (ht : P.underlying t = some (.slice e)) (hinf : (P.info? e).map (fun i => (i.zero, i.size, i.bytes)) = some (some z, K, bytes)) (hzs : z.cells.size = K)
    (hgd : o.guard = none) (ho : o.op = .call { callee := .builtin .append, args := #[s, x], argTypes := #[t, t] })
    (hs : a.eval s = v) (hx : a.eval x = vx)
    (h63 : n + news.length ≤ 1000000000) (hbytes : bytes ≤ 128) (hbase : base ≤ w.heap.size)
    (h : ∀ v' w', w'.ownsRow base e K v' (n + news.length) (E.vs (cs ++ news)) → Below base w w' → w.grownBy w' v.ownBlock → wpList P ops Q rest (a.put o.dst v') w') : wpList P ops Q (o :: rest) a w := by
  obtain ⟨i, hi, hz, hsize, hby⟩ := info_parts hinf
  have hlt := hown.lt
  have hbytes' : (n + news.length) * bytes ≤ 1000000000 * 128 := Nat.mul_le_mul h63 hbytes
  obtain ⟨ao, cap, hvx, h2, h3, h4, h5⟩ := hrd
  cases ao with
  | none =>
    have hc := h4 rfl
    have hnews : news = [] := List.eq_nil_of_length_eq_zero (by omega)
    subst hnews
    subst hc
    refine wpList_append_own_none hgd s x t ho base e i K ht hi v n (E.vs cs) hs hown (hx.trans hvx) ?_
    exact h v w (by simpa using hown) (Below.refl _ _) (World.grownBy.refl _ _)
  | some ad =>
    refine wpList_append_own w hgd s x t ho base e i z K bytes ht hi hz hsize hby hzs E.pos v n (E.vs cs) hs hown ad news.length cap (E.vs news) (hx.trans hvx) (vs_length _) (h5 ad rfl) (vs_one _) (by simp [maxLen]; omega) (by omega) hbase ?_
    intro v' w' ho' hg' _
    rw [← vs_append] at ho'
    exact h v' w' ho' ((Below.refl _ _).grown hg' hbase (fun k hk => (hlt k hk).1)) hg'

/-- 'append(out, c)' of a structure that was laid in a block of its own just ahead. -/
theorem wpList_append_oneG {P : Program} {w : World} {c : α} {vs : Array Value} {ops : Array Oper} {rest : List Oper} {o : Oper} {a : Act} {Q : Exit → Act → World → Prop} {s x : Operand} {t : TypeId} {base : Nat} {e : TypeId} {z : Value} {bytes : Nat}
    {v : Value} {n : Nat} {cs : List α}
    (hown : w.ownsRow base e K v n (E.vs cs)) (hvs : vs.toList = E.v c)
    (ht : P.underlying t = some (.slice e)) (hinf : (P.info? e).map (fun i => (i.zero, i.size, i.bytes)) = some (some z, K, bytes)) (hzs : z.cells.size = K)
    (hgd : o.guard = none) (ho : o.op = .call { callee := .builtin .append, args := #[s, x], argTypes := #[t, t] })
    (hs : a.eval s = v) (hx : a.eval x = .slice (some ⟨w.heap.size, 0, none⟩) 1 1)
    (h63 : n ≤ 100000000) (hbytes : bytes ≤ 128) (hbase : base ≤ w.heap.size)
    (h : ∀ v' w', w'.ownsRow base e K v' (n + 1) (E.vs (cs ++ [c])) → Below base w w' → w.grownBy w' v.ownBlock → wpList P ops Q rest (a.put o.dst v') w') : wpList P ops Q (o :: rest) a (w.alloc (.cells vs e)) := by
  refine wpList_append_rdG (hown.alloc _) (RdG.newL w [c] e vs (by rw [hvs, vs_one1]) (by simp)) ht hinf hzs hgd ho hs hx (by simp; omega) hbytes (by simp; omega) ?_
  intro v' w' h2 h3 h4
  refine h v' w' h2 (((Below.refl _ _).alloc hbase _).trans h3) ⟨h4.os, h4.tape, h4.output, ?_, fun k hk hne => ?_⟩
  · have := h4.size; simp at this; omega
  · rw [h4.block k (by simp; omega) hne, Below.heap_alloc _ _ _ hk]

/-- 'v[lo:hi]'. -/
theorem RdG.sliced {w : World} {ao : Option Addr} {n cap lo hi : Nat} {xs : List α} (h : RdG E w (.slice ao n cap) xs) (h1 : lo ≤ hi) (h2 : hi ≤ n) : RdG E w (Go.sliced ao lo hi cap K) ((xs.drop lo).take (hi - lo)) := by
  obtain ⟨ao', cap', hv, h3, h4, h5, h6⟩ := h
  simp only [Value.slice.injEq] at hv
  obtain ⟨rfl, rfl, rfl⟩ := hv
  have hl : ((xs.drop lo).take (hi - lo)).length = hi - lo := by simp; omega
  refine ⟨_, cap - lo, by rw [hl]; rfl, by omega, by omega, ?_, ?_⟩
  · intro hn
    split at hn
    · omega
    · rw [Option.map_eq_none_iff] at hn
      have := h5 hn
      omega
  · intro a ha j u hu
    have hj : j < (hi - lo) * K := by
      have := (List.getElem?_eq_some_iff.1 hu).1
      rwa [vs_length, hl] at this
    rw [← vs_take, ← vs_drop, List.getElem?_take, if_pos hj, List.getElem?_drop] at hu
    split at ha
    · rename_i hz
      have hle := (List.getElem?_eq_some_iff.1 hu).1
      have hlo : lo = hi := by omega
      rw [hlo, Nat.sub_self, Nat.zero_mul] at hj
      omega
    · obtain ⟨a0, e0, rfl⟩ := Option.map_eq_some_iff.1 ha
      have hl2 := (List.getElem?_eq_some_iff.1 hu).1
      have h0 := h6 a0 e0 0 (E.vs xs)[0] (by simp)
      obtain ⟨b, o, rfl⟩ := add_spot h0
      have := h6 _ e0 (lo * K + j) u hu
      simp only [Addr.add_lit] at this ⊢
      rw [Nat.add_assoc]
      exact this

theorem RdG.from {w : World} {ao : Option Addr} {n cap lo : Nat} {xs : List α} (h : RdG E w (.slice ao n cap) xs) (h1 : lo ≤ n) : RdG E w (Go.sliced ao lo n cap K) (xs.drop lo) := by
  have hn : n = xs.length := h.len.1
  have := h.sliced h1 (Nat.le_refl _)
  rwa [List.take_of_length_le (by rw [List.length_drop, hn]; exact Nat.le_refl _)] at this

theorem RdG.upto {w : World} {ao : Option Addr} {n cap hi : Nat} {xs : List α} (h : RdG E w (.slice ao n cap) xs) (h1 : hi ≤ n) : RdG E w (Go.sliced ao 0 hi cap K) (xs.take hi) := by
  have := h.sliced (Nat.zero_le _) h1
  simpa using this

/-- 'v[lo:hi]', 'v[lo:]', 'v[:hi]' as operations. -/
theorem run_slice_lhK {P : Program} {t e : TypeId} {z : Value} {bytes : Nat} (ht : P.underlying t = some (.slice e)) (he : P.elem t = e) (hinf : (P.info? e).map (fun i => (i.zero, i.size, i.bytes)) = some (some z, K, bytes))
    (ao : Option Addr) (n cap lo hi : Nat) (l h : Int) (hl : l = lo) (hh : h = hi) (h1 : lo ≤ hi) (h2 : hi ≤ cap) (W : World) :
    (Instr.slice t (.slice ao n cap) (some (.int .i64 l)) (some (.int .i64 h)) none).run P W = .ok (Go.sliced ao lo hi cap K) W := by
  obtain ⟨i, hi0, _, hsize, _⟩ := info_parts hinf
  subst hl hh
  rw [run_slice_lh (P := P) W t ao n cap (by rw [he]; exact ht) .i64 .i64 lo hi (by omega) (by omega) (by omega)]
  simp [he, sizeOf, typeInfo, hi0, hsize, Result.andThen]

theorem run_slice_fromK {P : Program} {t e : TypeId} {z : Value} {bytes : Nat} (ht : P.underlying t = some (.slice e)) (he : P.elem t = e) (hinf : (P.info? e).map (fun i => (i.zero, i.size, i.bytes)) = some (some z, K, bytes))
    (ao : Option Addr) (n cap lo : Nat) (l : Int) (hl : l = lo) (h1 : lo ≤ n) (W : World) :
    (Instr.slice t (.slice ao n cap) (some (.int .i64 l)) none none).run P W = .ok (Go.sliced ao lo n cap K) W := by
  obtain ⟨i, hi0, _, hsize, _⟩ := info_parts hinf
  subst hl
  rw [run_slice_l (P := P) W t ao n cap (by rw [he]; exact ht) .i64 lo (by omega) (by omega)]
  simp [he, sizeOf, typeInfo, hi0, hsize, Result.andThen]

theorem run_slice_uptoK {P : Program} {t e : TypeId} {z : Value} {bytes : Nat} (ht : P.underlying t = some (.slice e)) (he : P.elem t = e) (hinf : (P.info? e).map (fun i => (i.zero, i.size, i.bytes)) = some (some z, K, bytes))
    (ao : Option Addr) (n cap hi : Nat) (h : Int) (hh : h = hi) (h1 : hi ≤ cap) (W : World) :
    (Instr.slice t (.slice ao n cap) none (some (.int .i64 h)) none).run P W = .ok (Go.sliced ao 0 hi cap K) W := by
  obtain ⟨i, hi0, _, hsize, _⟩ := info_parts hinf
  subst hh
  rw [run_slice_h (P := P) W t ao n cap (by rw [he]; exact ht) .i64 hi (by omega) (by omega)]
  simp [he, sizeOf, typeInfo, hi0, hsize, Result.andThen]

end

end Go.Proofs.Ytoeobhehjnkkkaa

/-
  Plain maths of parts of the rows: what is fine, which part has a row, splits and joins. Nothing of a program stands here.
-/
namespace Go.Proofs.Ytoeobhehjnkkkaa
open Go.RowKit
set_option linter.unusedVariables false

/-! ### The order of texts -/

def bLt (a b : List UInt8) : Bool := Op.bytesLess a b

theorem bLt_irrefl : ∀ a : List UInt8, bLt a a = false
  | [] => rfl
  | x :: a => by simp [bLt, Op.bytesLess]; exact bLt_irrefl a

theorem bLt_trans : ∀ {a b c : List UInt8}, bLt a b = true → bLt b c = true → bLt a c = true
  | _, [], _, h, _ => by simp [bLt, Op.bytesLess] at h
  | _, _ :: _, [], _, h => by simp [bLt, Op.bytesLess] at h
  | [], _ :: _, _ :: _, _, _ => rfl
  | x :: a, y :: b, z :: c, h1, h2 => by
    simp only [bLt, Op.bytesLess, Bool.or_eq_true, decide_eq_true_eq, Bool.and_eq_true, beq_iff_eq] at h1 h2 ⊢
    rcases h1 with h1 | ⟨rfl, h1⟩
    · rcases h2 with h2 | ⟨rfl, h2⟩
      · exact .inl (UInt8.lt_trans h1 h2)
      · exact .inl h1
    · rcases h2 with h2 | ⟨rfl, h2⟩
      · exact .inl h2
      · exact .inr ⟨rfl, bLt_trans h1 h2⟩

theorem bLt_asymm {a b : List UInt8} (h : bLt a b = true) : bLt b a = false := by
  cases hb : bLt b a
  · rfl
  · have := bLt_trans h hb
    rw [bLt_irrefl] at this
    cases this

theorem bLt_total : ∀ {a b : List UInt8}, bLt a b = false → bLt b a = false → a = b
  | [], [], _, _ => rfl
  | [], _ :: _, h, _ => by simp [bLt, Op.bytesLess] at h
  | _ :: _, [], _, h => by simp [bLt, Op.bytesLess] at h
  | x :: a, y :: b, h1, h2 => by
    simp only [bLt, Op.bytesLess, Bool.or_eq_false_iff, decide_eq_false_iff_not, Bool.and_eq_false_iff, beq_eq_false_iff_ne] at h1 h2
    have hxy : x = y := UInt8.toNat_inj.1 (by have := h1.1; have := h2.1; simp only [UInt8.lt_iff_toNat_lt] at *; omega)
    subst hxy
    rw [bLt_total (h1.2.resolve_left (by simp)) (h2.2.resolve_left (by simp))]

theorem bLt_nil_right (a : List UInt8) : bLt a [] = false := by cases a <;> rfl

/-- Not above: a ≤ b. -/
theorem bLe_lt {a b c : List UInt8} (h1 : bLt b a = false) (h2 : bLt b c = true) : bLt a c = true := by
  cases h : bLt a b
  · rw [bLt_total h h1]; exact h2
  · exact bLt_trans h h2

theorem bLt_le {a b c : List UInt8} (h1 : bLt a b = true) (h2 : bLt c b = false) : bLt a c = true := by
  cases h : bLt b c
  · rw [bLt_total h2 h]; exact h1
  · exact bLt_trans h1 h

/-- 'a > b' as the walk spells it. -/
theorem gtS (a b : List UInt8) : (!Op.bytesLess a b && !(a == b)) = bLt b a := by
  cases h1 : bLt b a
  · cases h2 : Op.bytesLess a b
    · have := bLt_total (show bLt a b = false from h2) h1
      simp [this]
    · rfl
  · have h2 : Op.bytesLess a b = false := bLt_asymm h1
    have h3 : a ≠ b := by rintro rfl; rw [bLt_irrefl] at h1; cases h1
    simp [h2, h3]

theorem nodup_get {β : Type} {l : List β} : l.Nodup ↔ ∀ i j : Nat, i < j → ∀ a b, l[i]? = some a → l[j]? = some b → a ≠ b := by
  rw [List.Nodup, List.pairwise_iff_getElem]
  constructor
  · intro h i j hij a b ha hb
    obtain ⟨hi, rfl⟩ := List.getElem?_eq_some_iff.1 ha
    obtain ⟨hj, rfl⟩ := List.getElem?_eq_some_iff.1 hb
    exact h i j hi hj hij
  · intro h i j hi hj hij
    exact h i j hij _ _ (List.getElem?_eq_getElem hi) (List.getElem?_eq_getElem hj)

theorem toList_empty : (⟨#[]⟩ : ByteArray).toList = [] := by rw [ByteArray.toList_eq]

/-! ### Parts -/

/-- A part of the rows. -/
structure Pt where
  fr : ByteArray
  to_ : ByteArray
  id : Int

def zeroPt : Pt := ⟨⟨#[]⟩, ⟨#[]⟩, 0⟩

/-- How a part lies in memory. -/
def pE : En Pt 3 where
  v p := [.string p.fr, .string p.to_, .int .i64 p.id]
  len _ := rfl
  one p u hu := by
    simp only [List.mem_cons, List.not_mem_nil, or_false] at hu
    rcases hu with rfl | rfl | rfl <;> rfl
  pos := by decide

/-- From 0 to the greatest number. -/
def numB (n : Int) : Bool := decide (0 ≤ n ∧ n ≤ 1000000000)

/-- Has a part from a on, ahead of b, the row r? -/
def inB (r a b : ByteArray) : Bool := !bLt r.toList a.toList && (b.toList.isEmpty || bLt r.toList b.toList)

/-- Where the parts ahead of one end. -/
def endA (l : List Pt) (i : Nat) : ByteArray := match i with | 0 => ⟨#[]⟩ | j + 1 => (l.getD j zeroPt).to_

/-- Does a part leave rows to those behind it just if there are such, and has some of its own? -/
def endW (l : List Pt) (i : Nat) : Bool :=
  let p := l.getD i zeroPt
  if i + 1 = l.length then p.to_.toList.isEmpty else bLt p.fr.toList p.to_.toList

/-- What is wrong with a part, but for an ID that one ahead has. -/
def codeP (l : List Pt) (i : Nat) : Int :=
  let p := l.getD i zeroPt
  if 40 < p.fr.size ∨ 40 < p.to_.size then 8
  else if numB p.id = false then 3
  else if p.fr.toList ≠ (endA l i).toList ∨ endW l i = false then 5
  else 0

/-- Has one of the first i parts the ID? -/
def hasAhead (l : List Pt) (i : Nat) (n : Int) : Bool := (l.take i).any fun p => decide (p.id = n)

def codeP2 (l : List Pt) (i : Nat) : Int :=
  if codeP l i ≠ 0 then codeP l i else if hasAhead l i (l.getD i zeroPt).id then 10 else 0

def chkGo (l : List Pt) : Nat → Nat → Int × Int
  | 0, _ => (0, 0)
  | n + 1, i => if codeP2 l i = 0 then chkGo l n (i + 1) else (codeP2 l i, i)

/-- What Check tells of parts. -/
def chkP (l : List Pt) : Int × Int :=
  if l.length = 0 then (6, -1) else if 200 < l.length then (2, -1) else chkGo l l.length 0

theorem chkGo_ok {l : List Pt} {n i : Nat} (h : codeP2 l i = 0) : chkGo l (n + 1) i = chkGo l n (i + 1) := by rw [chkGo, if_pos h]
theorem chkGo_no {l : List Pt} {n i : Nat} (h : ¬ codeP2 l i = 0) : chkGo l (n + 1) i = (codeP2 l i, (i : Int)) := by rw [chkGo, if_neg h]
theorem codeP2_own {l : List Pt} {i : Nat} (h : ¬ codeP l i = 0) : codeP2 l i = codeP l i := by rw [codeP2, if_pos h]
theorem codeP2_twice {l : List Pt} {i : Nat} (h : codeP l i = 0) (h2 : hasAhead l i (l.getD i zeroPt).id = true) : codeP2 l i = 10 := by rw [codeP2, if_neg (by simp [h]), if_pos h2]
theorem codeP2_ok {l : List Pt} {i : Nat} (h : codeP l i = 0) (h2 : hasAhead l i (l.getD i zeroPt).id = false) : codeP2 l i = 0 := by rw [codeP2, if_neg (by simp [h]), if_neg (by rw [h2]; decide)]

theorem codeP2_zero {l : List Pt} {i : Nat} (h : codeP2 l i = 0) : codeP l i = 0 ∧ hasAhead l i (l.getD i zeroPt).id = false := by
  unfold codeP2 at h
  by_cases h0 : codeP l i = 0
  · refine ⟨h0, ?_⟩
    rw [if_neg (by simp [h0])] at h
    cases h1 : hasAhead l i (l.getD i zeroPt).id
    · rfl
    · rw [if_pos h1] at h; cases h
  · rw [if_pos h0] at h; exact absurd h h0

theorem chkGo_zero {l : List Pt} : ∀ {n i : Nat}, (chkGo l n i).1 = 0 → ∀ j, j < n → codeP2 l (i + j) = 0
  | 0, _, _, _, hj => by omega
  | n + 1, i, h, j, hj => by
    by_cases h0 : codeP2 l i = 0
    · rw [chkGo_ok h0] at h
      cases j with
      | zero => exact h0
      | succ j =>
        have := chkGo_zero h j (by omega)
        rwa [show i + (j + 1) = i + 1 + j by omega]
    · rw [chkGo_no h0] at h
      exact absurd h h0

theorem chkGo_all {l : List Pt} : ∀ {n i : Nat}, (∀ j, j < n → codeP2 l (i + j) = 0) → chkGo l n i = (0, 0)
  | 0, _, _ => rfl
  | n + 1, i, h => by
    rw [chkGo_ok (i := i) (h 0 (by omega))]
    exact chkGo_all fun j hj => by have := h (j + 1) (by omega); rwa [show i + (j + 1) = i + 1 + j by omega] at this

/-- One part by itself. -/
def okP (p : Pt) : Prop := p.fr.size ≤ 40 ∧ p.to_.size ≤ 40 ∧ numB p.id = true

/-- Parts that tile the rows from e on. -/
def Chn (e : List UInt8) : List Pt → Prop
  | [] => False
  | [p] => okP p ∧ p.fr.toList = e ∧ p.to_.toList = []
  | p :: q :: r => okP p ∧ p.fr.toList = e ∧ bLt p.fr.toList p.to_.toList = true ∧ Chn p.to_.toList (q :: r)

theorem Chn.head {e : List UInt8} {p : Pt} {r : List Pt} (h : Chn e (p :: r)) : okP p ∧ p.fr.toList = e := by
  cases r with
  | nil => exact ⟨h.1, h.2.1⟩
  | cons q r => exact ⟨h.1, h.2.1⟩

/-- What code 0 says. -/
theorem codeP_zero {l : List Pt} {i : Nat} {p : Pt} (hp : l[i]? = some p) : codeP l i = 0 ↔ okP p ∧ p.fr.toList = (endA l i).toList ∧ (if i + 1 = l.length then p.to_.toList = [] else bLt p.fr.toList p.to_.toList = true) := by
  have hd : l.getD i zeroPt = p := by rw [List.getD_eq_getElem?_getD, hp]; rfl
  have hw : endW l i = true ↔ (if i + 1 = l.length then p.to_.toList = [] else bLt p.fr.toList p.to_.toList = true) := by
    unfold endW
    simp only [hd]
    by_cases hl : i + 1 = l.length
    · rw [if_pos hl, if_pos hl]; simp
    · rw [if_neg hl, if_neg hl]
  rw [← hw]
  unfold codeP okP
  simp only [hd]
  by_cases h1 : 40 < p.fr.size ∨ 40 < p.to_.size
  · rw [if_pos h1]
    constructor
    · intro h; cases h
    · rintro ⟨⟨h2, h3, _⟩, _⟩; omega
  · rw [if_neg h1]
    by_cases h2 : numB p.id = false
    · rw [if_pos h2]
      constructor
      · intro h; cases h
      · rintro ⟨⟨_, _, h3⟩, _⟩; rw [h2] at h3; cases h3
    · rw [if_neg h2]
      by_cases h3 : p.fr.toList ≠ (endA l i).toList ∨ endW l i = false
      · rw [if_pos h3]
        constructor
        · intro h; cases h
        · rintro ⟨_, h4, h5⟩
          rcases h3 with h3 | h3
          · exact absurd h4 h3
          · rw [h3] at h5; cases h5
      · rw [if_neg h3]
        simp only [not_or, Bool.not_eq_false, ne_eq, Decidable.not_not] at h1 h2 h3
        exact ⟨fun _ => ⟨⟨by omega, by omega, h2⟩, h3⟩, fun _ => rfl⟩

theorem endA_mid (pre : List Pt) (x : Pt) (r : List Pt) : endA (pre ++ [x] ++ r) (pre.length + 1) = x.to_ := by
  simp only [endA, List.getD_eq_getElem?_getD]
  rw [List.append_assoc, List.getElem?_append_right (Nat.le_refl _)]
  simp

theorem chn_of_code : ∀ (r pre : List Pt) (e : List UInt8), r ≠ [] → (endA (pre ++ r) pre.length).toList = e → (∀ i, pre.length ≤ i → i < (pre ++ r).length → codeP (pre ++ r) i = 0) → Chn e r
  | [], _, _, h, _, _ => absurd rfl h
  | p :: r, pre, e, _, he, hc => by
    have h0 := hc pre.length (Nat.le_refl _) (by simp)
    have hp : (pre ++ p :: r)[pre.length]? = some p := by simp
    rw [codeP_zero hp, he] at h0
    obtain ⟨h1, h2, h3⟩ := h0
    cases r with
    | nil =>
      rw [if_pos (by simp)] at h3
      exact ⟨h1, h2, h3⟩
    | cons q r =>
      rw [if_neg (by simp)] at h3
      refine ⟨h1, h2, h3, chn_of_code (q :: r) (pre ++ [p]) _ (by simp) ?_ ?_⟩
      · rw [show (pre ++ [p]).length = pre.length + 1 by simp, endA_mid]
      · intro i hi hl
        have hi' : pre.length + 1 ≤ i := by simpa using hi
        have hl' : i < (pre ++ p :: q :: r).length := by simpa using hl
        rw [List.append_assoc, List.singleton_append]
        exact hc i (by omega) hl'

theorem code_of_chn : ∀ (r pre : List Pt) (e : List UInt8), (endA (pre ++ r) pre.length).toList = e → Chn e r → ∀ i, pre.length ≤ i → i < (pre ++ r).length → codeP (pre ++ r) i = 0
  | [], _, _, _, h, _, _, _ => h.elim
  | p :: r, pre, e, he, h, i, hi, hl => by
    have hp : (pre ++ p :: r)[pre.length]? = some p := by simp
    by_cases hie : i = pre.length
    · subst hie
      rw [codeP_zero hp, he]
      cases r with
      | nil => rw [if_pos (by simp)]; exact h
      | cons q r => rw [if_neg (by simp)]; exact ⟨h.1, h.2.1, h.2.2.1⟩
    · cases r with
      | nil => simp at hl; omega
      | cons q r =>
        have := code_of_chn (q :: r) (pre ++ [p]) p.to_.toList (by rw [show (pre ++ [p]).length = pre.length + 1 by simp, endA_mid]) h.2.2.2 i (by simp; omega) (by simpa using hl)
        rwa [List.append_assoc, List.singleton_append] at this

/-- Parts that are fine. -/
def FineP (l : List Pt) : Prop := l.length ≤ 200 ∧ Chn [] l ∧ (l.map Pt.id).Nodup

theorem Chn.ne_nil {e : List UInt8} {l : List Pt} (h : Chn e l) : l ≠ [] := by rintro rfl; exact h

theorem hasAhead_false {l : List Pt} {i : Nat} {n : Int} : hasAhead l i n = false ↔ ∀ k p, k < i → l[k]? = some p → p.id ≠ n := by
  unfold hasAhead
  rw [List.any_eq_false]
  constructor
  · intro h k p hk hp e
    have hm : p ∈ l.take i := List.mem_of_getElem? (i := k) (by rw [List.getElem?_take, if_pos hk, hp])
    simpa [e] using h p hm
  · intro h p hp
    obtain ⟨k, hk⟩ := List.getElem?_of_mem hp
    rw [List.getElem?_take] at hk
    split at hk
    · simpa using h k p ‹_› hk
    · cases hk

theorem nodup_ids {l : List Pt} : (l.map Pt.id).Nodup ↔ ∀ i, i < l.length → hasAhead l i (l.getD i zeroPt).id = false := by
  constructor
  · intro h i hi
    rw [hasAhead_false]
    intro k p hk hp e
    have hpi : l[i]? = some l[i] := List.getElem?_eq_getElem hi
    rw [List.getD_eq_getElem?_getD, hpi] at e
    exact nodup_get.1 h k i hk p.id l[i].id (by rw [List.getElem?_map, hp]; rfl) (by rw [List.getElem?_map, hpi]; rfl) e
  · intro h
    rw [nodup_get]
    intro k i hk a b ha hb e
    rw [List.getElem?_map, Option.map_eq_some_iff] at ha hb
    obtain ⟨p, hp, rfl⟩ := ha
    obtain ⟨q, hq, rfl⟩ := hb
    have := hasAhead_false.1 (h i (List.getElem?_eq_some_iff.1 hq).1) k p hk hp
    rw [List.getD_eq_getElem?_getD, hq] at this
    exact this e

theorem chkP_fine {l : List Pt} : (chkP l).1 = 0 ↔ FineP l := by
  unfold chkP FineP
  by_cases h0 : l.length = 0
  · rw [if_pos h0]
    have : l = [] := List.eq_nil_of_length_eq_zero h0
    subst this
    simp [Chn]
  · rw [if_neg h0]
    by_cases h2 : 200 < l.length
    · rw [if_pos h2]
      simp; omega
    · rw [if_neg h2]
      have hne : l ≠ [] := by rintro rfl; exact h0 rfl
      constructor
      · intro h
        have hz := chkGo_zero h
        simp only [Nat.zero_add] at hz
        refine ⟨by omega, ?_, ?_⟩
        · exact chn_of_code l [] [] hne toList_empty fun i _ hi => (codeP2_zero (hz i (by simpa using hi))).1
        · exact nodup_ids.2 fun i hi => (codeP2_zero (hz i hi)).2
      · rintro ⟨_, hc, hn⟩
        rw [chkGo_all]
        intro j hj
        rw [Nat.zero_add]
        exact codeP2_ok (code_of_chn l [] [] toList_empty hc j (Nat.zero_le _) (by simpa using hj)) (nodup_ids.1 hn j hj)

theorem chkP_ok {l : List Pt} (h : FineP l) : chkP l = (0, 0) := by
  have h1 := chkP_fine.2 h
  unfold chkP at h1 ⊢
  by_cases h0 : l.length = 0
  · rw [if_pos h0] at h1; simp at h1
  · rw [if_neg h0] at h1 ⊢
    by_cases h2 : 200 < l.length
    · rw [if_pos h2] at h1; simp at h1
    · rw [if_neg h2] at h1 ⊢
      have hz := chkGo_zero h1
      exact chkGo_all hz

/-! ### Which part has a row -/

theorem inB_true {r a b : ByteArray} : inB r a b = true ↔ bLt r.toList a.toList = false ∧ (b.toList = [] ∨ bLt r.toList b.toList = true) := by
  unfold inB
  simp

/-- The first part that has a row, from the i-th on; or -1. -/
def hvGo (r : ByteArray) : List Pt → Nat → Int
  | [], _ => -1
  | p :: l, i => if inB r p.fr p.to_ = true then (i : Int) else hvGo r l (i + 1)
def hvP (r : ByteArray) (l : List Pt) : Int := hvGo r l 0

theorem hvGo_yes {r : ByteArray} {p : Pt} {l : List Pt} {i : Nat} (h : inB r p.fr p.to_ = true) : hvGo r (p :: l) i = i := by rw [hvGo, if_pos h]
theorem hvGo_no {r : ByteArray} {p : Pt} {l : List Pt} {i : Nat} (h : inB r p.fr p.to_ = false) : hvGo r (p :: l) i = hvGo r l (i + 1) := by rw [hvGo, if_neg (by simp [h])]

/-- Below e none of the parts from e on has a row. -/
theorem chn_none {r : ByteArray} : ∀ {l : List Pt} {e : List UInt8}, Chn e l → bLt r.toList e = true → ∀ p ∈ l, inB r p.fr p.to_ = false
  | [], _, h, _ => h.elim
  | [p], e, h, hr => by
    intro q hq
    have : q = p := by simpa using hq
    subst this
    have e1 := h.2.1
    unfold inB
    rw [e1, hr]; rfl
  | p :: q :: l, e, h, hr => by
    intro x hx
    have e1 := h.2.1
    rcases List.mem_cons.1 hx with rfl | hx
    · unfold inB
      rw [e1, hr]; rfl
    · exact chn_none h.2.2.2 (bLt_trans hr (e1 ▸ h.2.2.1)) x hx

/-- From e on just one of them has it. -/
theorem chn_one {r : ByteArray} : ∀ {l : List Pt} {e : List UInt8} (i : Nat), Chn e l → bLt r.toList e = false → ∃ k p, hvGo r l i = ((i + k : Nat) : Int) ∧ l[k]? = some p ∧ inB r p.fr p.to_ = true ∧ ∀ j q, l[j]? = some q → inB r q.fr q.to_ = true → j = k
  | [], _, _, h, _ => h.elim
  | [p], e, i, h, hr => by
    have hy : inB r p.fr p.to_ = true := inB_true.2 ⟨by rw [h.2.1]; exact hr, .inl h.2.2⟩
    refine ⟨0, p, hvGo_yes hy, rfl, hy, fun j q hj _ => ?_⟩
    cases j with
    | zero => rfl
    | succ j => simp at hj
  | p :: q :: l, e, i, h, hr => by
    cases hb : bLt r.toList p.to_.toList
    · have hn : inB r p.fr p.to_ = false := by
        unfold inB
        have hne : p.to_.toList.isEmpty = false := by
          have := h.2.2.1
          cases hp : p.to_.toList with
          | nil => rw [hp, bLt_nil_right] at this; cases this
          | cons _ _ => rfl
        rw [hne, hb]; simp
      obtain ⟨k, x, h1, h2, h3, h4⟩ := chn_one (i + 1) h.2.2.2 hb
      refine ⟨k + 1, x, by rw [hvGo_no hn, h1]; congr 1; omega, by simpa using h2, h3, fun j y hj hy => ?_⟩
      cases j with
      | zero =>
        simp at hj
        subst hj
        rw [hn] at hy; cases hy
      | succ j => rw [h4 j y (by simpa using hj) hy]
    · have hy : inB r p.fr p.to_ = true := inB_true.2 ⟨by rw [h.2.1]; exact hr, .inr hb⟩
      refine ⟨0, p, hvGo_yes hy, rfl, hy, fun j x hj hx => ?_⟩
      cases j with
      | zero => rfl
      | succ j =>
        have := chn_none h.2.2.2 hb x (List.mem_of_getElem? (by simpa using hj))
        rw [this] at hx; cases hx

theorem bLt_nil (a : List UInt8) : bLt a [] = false := bLt_nil_right a

theorem hvP_one {r : ByteArray} {l : List Pt} (h : FineP l) : ∃ k p, hvP r l = (k : Nat) ∧ k < l.length ∧ l[k]? = some p ∧ inB r p.fr p.to_ = true ∧ ∀ j q, l[j]? = some q → inB r q.fr q.to_ = true → j = k := by
  obtain ⟨k, p, h1, h2, h3, h4⟩ := chn_one (r := r) 0 h.2.1 (bLt_nil _)
  refine ⟨k, p, by rw [hvP, h1, Nat.zero_add], (List.getElem?_eq_some_iff.1 h2).1, h2, h3, h4⟩

/-! ### IDs -/

/-- Has one of the parts an ID, but those n at a place? -/
def hasIDGo (at_ n : Nat) (id : Int) : List Pt → Nat → Bool
  | [], _ => false
  | p :: l, i => (decide (p.id = id) && (decide (i < at_) || decide (at_ + n ≤ i))) || hasIDGo at_ n id l (i + 1)
def hasID (l : List Pt) (at_ n : Nat) (id : Int) : Bool := hasIDGo at_ n id l 0

theorem hasIDGo_iff {at_ n : Nat} {id : Int} : ∀ {l : List Pt} {i : Nat}, hasIDGo at_ n id l i = true ↔ ∃ k p, l[k]? = some p ∧ p.id = id ∧ (i + k < at_ ∨ at_ + n ≤ i + k)
  | [], _ => by simp [hasIDGo]
  | p :: l, i => by
    simp only [hasIDGo, Bool.or_eq_true, Bool.and_eq_true, decide_eq_true_eq]
    rw [hasIDGo_iff (l := l) (i := i + 1)]
    constructor
    · rintro (⟨h1, h2⟩ | ⟨k, q, h1, h2, h3⟩)
      · exact ⟨0, p, rfl, h1, by simpa using h2⟩
      · exact ⟨k + 1, q, by simpa using h1, h2, by omega⟩
    · rintro ⟨k, q, h1, h2, h3⟩
      cases k with
      | zero =>
        simp at h1
        subst h1
        exact .inl ⟨h2, by simpa using h3⟩
      | succ k => exact .inr ⟨k, q, by simpa using h1, h2, by omega⟩

theorem hasID_iff {l : List Pt} {at_ n : Nat} {id : Int} : hasID l at_ n id = true ↔ ∃ k p, l[k]? = some p ∧ p.id = id ∧ (k < at_ ∨ at_ + n ≤ k) := by
  unfold hasID
  rw [hasIDGo_iff]
  simp

/-! ### Splits and joins -/

/-- What Split tells: a fault, or the parts. -/
def splitF (l : List Pt) (at_ : Int) (row : ByteArray) (left right : Int) : Int × Int :=
  if (chkP l).1 ≠ 0 then chkP l
  else if at_ < 0 ∨ (l.length : Int) ≤ at_ then (3, -1)
  else
    let p := l.getD at_.toNat zeroPt
    if 40 < row.size then (8, -2)
    else if row.toList = p.fr.toList ∨ inB row p.fr p.to_ = false then (5, -2)
    else if numB left = false ∨ numB right = false then (3, -3)
    else if left = right ∨ hasID l at_.toNat 1 left = true ∨ hasID l at_.toNat 1 right = true then (10, -3)
    else if l.length = 200 then (2, -1)
    else (0, 0)

def splitL (l : List Pt) (k : Nat) (row : ByteArray) (left right : Int) : List Pt :=
  l.take k ++ [⟨(l.getD k zeroPt).fr, row, left⟩, ⟨row, (l.getD k zeroPt).to_, right⟩] ++ l.drop (k + 1)

def joinF (l : List Pt) (at_ id : Int) : Int × Int :=
  if (chkP l).1 ≠ 0 then chkP l
  else if at_ < 0 ∨ (l.length : Int) - 1 ≤ at_ then (3, -1)
  else if numB id = false then (3, -3)
  else if hasID l at_.toNat 2 id = true then (10, -3)
  else (0, 0)

def joinL (l : List Pt) (k : Nat) (id : Int) : List Pt :=
  l.take k ++ [⟨(l.getD k zeroPt).fr, (l.getD (k + 1) zeroPt).to_, id⟩] ++ l.drop (k + 2)

theorem splitL_length {l : List Pt} {k : Nat} {row : ByteArray} {left right : Int} (h : k < l.length) : (splitL l k row left right).length = l.length + 1 := by
  simp [splitL]; omega

theorem joinL_length {l : List Pt} {k : Nat} {id : Int} (h : k + 1 < l.length) : (joinL l k id).length + 1 = l.length := by
  simp [joinL]; omega

theorem parts_at {l : List Pt} {k : Nat} (h : k < l.length) : l = l.take k ++ l.getD k zeroPt :: l.drop (k + 1) := by
  rw [List.getD_eq_getElem?_getD, List.getElem?_eq_getElem h]
  simp only [Option.getD_some, List.getElem_cons_drop, List.take_append_drop]

theorem parts_at2 {l : List Pt} {k : Nat} (h : k + 1 < l.length) : l = l.take k ++ l.getD k zeroPt :: l.getD (k + 1) zeroPt :: l.drop (k + 2) := by
  have h1 : l.drop (k + 1) = l.getD (k + 1) zeroPt :: l.drop (k + 2) := by
    rw [List.getD_eq_getElem?_getD, List.getElem?_eq_getElem h]
    simp only [Option.getD_some, List.getElem_cons_drop]
  rw [← h1]
  exact parts_at (by omega)

/-- A middle is put in the stead of another one with the same two ends. -/
theorem chn_mid : ∀ {xs : List Pt} {e : List UInt8} {ms ns : List Pt}, ms ≠ [] → ns ≠ [] → (∀ e', Chn e' ms → Chn e' ns) → Chn e (xs ++ ms) → Chn e (xs ++ ns)
  | [], e, ms, ns, _, _, h, hc => h _ hc
  | [p], e, m :: ms, n :: ns, h1, h2, h, hc => ⟨hc.1, hc.2.1, hc.2.2.1, h _ hc.2.2.2⟩
  | p :: q :: xs, e, ms, ns, h1, h2, h, hc => ⟨hc.1, hc.2.1, hc.2.2.1, chn_mid (xs := q :: xs) h1 h2 h hc.2.2.2⟩

theorem splitF_ok {l : List Pt} {at_ : Int} {row : ByteArray} {left right : Int} (h : (splitF l at_ row left right).1 = 0) :
    FineP l ∧ ∃ k : Nat, at_ = k ∧ k < l.length ∧ row.size ≤ 40 ∧ row.toList ≠ (l.getD k zeroPt).fr.toList ∧ inB row (l.getD k zeroPt).fr (l.getD k zeroPt).to_ = true ∧ numB left = true ∧ numB right = true ∧ left ≠ right ∧ hasID l k 1 left = false ∧ hasID l k 1 right = false ∧ l.length < 200 := by
  unfold splitF at h
  split at h
  · rename_i h0; exact absurd h h0
  · rename_i h0
    have hf := chkP_fine.1 (Decidable.not_not.1 h0)
    refine ⟨hf, ?_⟩
    split at h
    · simp at h
    · rename_i h1
      obtain ⟨k, rfl⟩ : ∃ k : Nat, at_ = k := ⟨at_.toNat, by omega⟩
      simp only [Int.toNat_natCast] at h
      refine ⟨k, rfl, by omega, ?_⟩
      split at h
      · simp at h
      · split at h
        · simp at h
        · split at h
          · simp at h
          · split at h
            · simp at h
            · split at h
              · simp at h
              · rename_i h2 h3 h4 h5 h6
                simp only [not_or, Bool.not_eq_false, Bool.not_eq_true] at h3 h4 h5
                have := hf.1
                exact ⟨by omega, h3.1, h3.2, h4.1, h4.2, h5.1, h5.2.1, h5.2.2, by omega⟩

theorem nodup_mid {l : List Pt} {xs ys ms : List Pt} {k n : Nat} (hl : l = xs ++ ms ++ ys) (hk : xs.length = k) (hn : ms.length = n) (h : (l.map Pt.id).Nodup) (ns : List Pt) (hns : (ns.map Pt.id).Nodup) (hno : ∀ p ∈ ns, hasID l k n p.id = false) :
    ((xs ++ ns ++ ys).map Pt.id).Nodup := by
  subst hl
  simp only [List.map_append, List.append_assoc, List.nodup_append] at h ⊢
  obtain ⟨h1, ⟨h2, h3, h4⟩, h5⟩ := h
  have hx : ∀ p ∈ ns, ∀ q ∈ xs, q.id ≠ p.id := by
    intro p hp q hq e
    obtain ⟨j, hj⟩ := List.getElem?_of_mem hq
    have hjl := (List.getElem?_eq_some_iff.1 hj).1
    have := hno p hp
    rw [Bool.eq_false_iff] at this
    exact this (hasID_iff.2 ⟨j, q, by rw [List.append_assoc, List.getElem?_append_left hjl, hj], e, .inl (by omega)⟩)
  have hy : ∀ p ∈ ns, ∀ q ∈ ys, q.id ≠ p.id := by
    intro p hp q hq e
    obtain ⟨j, hj⟩ := List.getElem?_of_mem hq
    have := hno p hp
    rw [Bool.eq_false_iff] at this
    refine this (hasID_iff.2 ⟨(xs ++ ms).length + j, q, by rw [List.getElem?_append_right (by omega), Nat.add_sub_cancel_left, hj], e, .inr (by simp; omega)⟩)
  refine ⟨h1, ⟨hns, h3, ?_⟩, ?_⟩
  · intro a ha b hb e
    obtain ⟨p, hp, rfl⟩ := List.mem_map.1 ha
    obtain ⟨q, hq, rfl⟩ := List.mem_map.1 hb
    exact hy p hp q hq e.symm
  · intro a ha b hb e
    obtain ⟨q, hq, rfl⟩ := List.mem_map.1 ha
    rcases List.mem_append.1 hb with hb | hb
    · obtain ⟨p, hp, rfl⟩ := List.mem_map.1 hb
      exact hx p hp q hq e
    · exact h5 _ ha b (List.mem_append_right _ hb) e

theorem split_fine {l : List Pt} {at_ : Int} {row : ByteArray} {left right : Int} (h : (splitF l at_ row left right).1 = 0) : FineP (splitL l at_.toNat row left right) := by
  obtain ⟨hf, k, rfl, hk, h1, h2, h3, h4, h5, h6, h7, h8, h9⟩ := splitF_ok h
  rw [Int.toNat_natCast]
  have hlen := splitL_length (row := row) (left := left) (right := right) hk
  refine ⟨by omega, ?_, ?_⟩
  · have hc := hf.2.1
    rw [parts_at hk] at hc
    unfold splitL
    rw [List.append_assoc]
    refine chn_mid (by simp) (by simp) ?_ hc
    intro e hm
    have hh := hm.head
    obtain ⟨hin1, hin2⟩ := inB_true.1 h3
    have hlt : bLt (l.getD k zeroPt).fr.toList row.toList = true := by
      cases hb : bLt (l.getD k zeroPt).fr.toList row.toList
      · exact absurd (bLt_total hin1 hb) h2
      · rfl
    generalize l.getD k zeroPt = p at *
    have hokp := hh.1
    have hoka : okP ⟨p.fr, row, left⟩ := ⟨hokp.1, h1, h4⟩
    have hokb : okP ⟨row, p.to_, right⟩ := ⟨h1, hokp.2.1, h5⟩
    cases hd : l.drop (k + 1) with
    | nil =>
      rw [hd] at hm
      exact ⟨hoka, hh.2, hlt, hokb, rfl, hm.2.2⟩
    | cons q r =>
      rw [hd] at hm
      have hto : bLt row.toList p.to_.toList = true := by
        rcases hin2 with h0 | h0
        · have := hm.2.2.1
          rw [h0, bLt_nil_right] at this
          cases this
        · exact h0
      exact ⟨hoka, hh.2, hlt, hokb, rfl, hto, hm.2.2.2⟩
  · have hl : l = l.take k ++ [l.getD k zeroPt] ++ l.drop (k + 1) := by
      rw [List.append_assoc, List.singleton_append]; exact parts_at hk
    refine nodup_mid (k := k) hl (by simp; omega) rfl hf.2.2 _ (by simp [h6]) ?_
    intro p hp
    simp only [List.mem_cons, List.not_mem_nil, or_false] at hp
    rcases hp with rfl | rfl
    · exact h7
    · exact h8

theorem joinF_ok {l : List Pt} {at_ id : Int} (h : (joinF l at_ id).1 = 0) : FineP l ∧ ∃ k : Nat, at_ = k ∧ k + 1 < l.length ∧ numB id = true ∧ hasID l k 2 id = false := by
  unfold joinF at h
  split at h
  · rename_i h0; exact absurd h h0
  · rename_i h0
    refine ⟨chkP_fine.1 (Decidable.not_not.1 h0), ?_⟩
    split at h
    · simp at h
    · rename_i h1
      obtain ⟨k, rfl⟩ : ∃ k : Nat, at_ = k := ⟨at_.toNat, by omega⟩
      simp only [Int.toNat_natCast] at h
      refine ⟨k, rfl, by omega, ?_⟩
      split at h
      · simp at h
      · split at h
        · simp at h
        · rename_i h2 h3
          exact ⟨by simpa using h2, by simpa using h3⟩

theorem join_fine {l : List Pt} {at_ id : Int} (h : (joinF l at_ id).1 = 0) : FineP (joinL l at_.toNat id) := by
  obtain ⟨hf, k, rfl, hk, h1, h2⟩ := joinF_ok h
  rw [Int.toNat_natCast]
  have hlen := joinL_length (id := id) hk
  have hle := hf.1
  refine ⟨by omega, ?_, ?_⟩
  · have hc := hf.2.1
    rw [parts_at2 hk] at hc
    unfold joinL
    rw [List.append_assoc]
    refine chn_mid (by simp) (by simp) ?_ hc
    intro e hm
    generalize l.getD k zeroPt = p at *
    generalize l.getD (k + 1) zeroPt = q at *
    obtain ⟨g1, g2, g3, g4⟩ := hm
    have hq := g4.head
    have hok : okP ⟨p.fr, q.to_, id⟩ := ⟨g1.1, hq.1.2.1, h1⟩
    cases hd : l.drop (k + 2) with
    | nil =>
      rw [hd] at g4
      exact ⟨hok, g2, g4.2.2⟩
    | cons x r =>
      rw [hd] at g4
      refine ⟨hok, g2, ?_, g4.2.2.2⟩
      have := g4.2.2.1
      rw [hq.2] at this
      exact bLt_trans g3 this
  · have hl : l = l.take k ++ [l.getD k zeroPt, l.getD (k + 1) zeroPt] ++ l.drop (k + 2) := by
      rw [List.append_assoc]; exact parts_at2 hk
    refine nodup_mid (k := k) hl (by simp; omega) rfl hf.2.2 _ (by simp) ?_
    intro p hp
    simp only [List.mem_cons, List.not_mem_nil, or_false] at hp
    subst hp
    exact h2

theorem getD_mid (xs : List Pt) (a : Pt) (ys : List Pt) (k : Nat) (hk : xs.length = k) : (xs ++ a :: ys).getD k zeroPt = a := by
  subst hk
  simp [List.getD_eq_getElem?_getD]

theorem getD_mid1 (xs : List Pt) (a b : Pt) (ys : List Pt) (k : Nat) (hk : xs.length = k) : (xs ++ a :: b :: ys).getD (k + 1) zeroPt = b := by
  subst hk
  simp [List.getD_eq_getElem?_getD]

/-- What is split and joined again is as it was. -/
theorem split_join {l : List Pt} {k : Nat} {row : ByteArray} {left right : Int} (hk : k < l.length) : joinL (splitL l k row left right) k (l.getD k zeroPt).id = l := by
  have ht : (l.take k).length = k := by simp; omega
  unfold joinL
  have e : splitL l k row left right = l.take k ++ ⟨(l.getD k zeroPt).fr, row, left⟩ :: ⟨row, (l.getD k zeroPt).to_, right⟩ :: l.drop (k + 1) := by simp [splitL]
  rw [e, getD_mid _ _ _ _ ht, getD_mid1 _ _ _ _ _ ht, List.take_left' ht, List.drop_append, ht, List.drop_of_length_le (by omega), show k + 2 - k = 2 by omega]
  simp only [List.nil_append, List.drop_succ_cons, List.drop_zero]
  rw [List.append_assoc, List.singleton_append]
  exact (parts_at hk).symm

theorem split_joinF {l : List Pt} {at_ : Int} {row : ByteArray} {left right : Int} (h : (splitF l at_ row left right).1 = 0) : joinF (splitL l at_.toNat row left right) at_ (l.getD at_.toNat zeroPt).id = (0, 0) := by
  have hfs := split_fine h
  obtain ⟨hf, k, rfl, hk, h1, h2, h3, h4, h5, h6, h7, h8, h9⟩ := splitF_ok h
  rw [Int.toNat_natCast] at hfs ⊢
  have hlen := splitL_length (row := row) (left := left) (right := right) hk
  unfold joinF
  rw [if_neg (by rw [chkP_ok hfs]; simp), if_neg (by omega), Int.toNat_natCast]
  have hc := hf.2.1
  have hokp : okP (l.getD k zeroPt) := by
    have : ∀ {xs : List Pt} {e : List UInt8} {p : Pt} {ys : List Pt}, Chn e (xs ++ p :: ys) → okP p := by
      intro xs
      induction xs with
      | nil => intro e p ys h; exact h.head.1
      | cons x xs ih =>
        intro e p ys h
        cases xs with
        | nil => exact ih h.2.2.2
        | cons y xs => exact ih h.2.2.2
    rw [parts_at hk] at hc
    exact this hc
  rw [if_neg (by rw [hokp.2.2]; simp), if_neg]
  rw [Bool.not_eq_true, Bool.eq_false_iff]
  intro hid
  obtain ⟨j, q, hj, hq, hjk⟩ := hasID_iff.1 hid
  -- a third part that has the ID lay in l, too, at another place
  have hn := hf.2.2
  have hkk : l[k]? = some (l.getD k zeroPt) := by rw [List.getD_eq_getElem?_getD, List.getElem?_eq_getElem hk]; rfl
  have key : ∀ m, m ≠ k → l[m]? = some q → False := by
    intro m hm hlm
    have hml := (List.getElem?_eq_some_iff.1 hlm).1
    have hn' := nodup_get.1 hn
    have e1 : (l.map Pt.id)[m]? = some q.id := by rw [List.getElem?_map, hlm]; rfl
    have e2 : (l.map Pt.id)[k]? = some (l.getD k zeroPt).id := by rw [List.getElem?_map, hkk]; rfl
    rcases Nat.lt_or_gt_of_ne hm with hlt | hlt
    · exact hn' m k hlt _ _ e1 e2 hq
    · exact hn' k m hlt _ _ e2 e1 hq.symm
  have ht : (l.take k).length = k := by simp; omega
  unfold splitL at hj
  rcases hjk with hjk | hjk
  · rw [List.append_assoc, List.getElem?_append_left (by omega), List.getElem?_take, if_pos hjk] at hj
    exact key j (by omega) hj
  · rw [List.getElem?_append_right (by simp; omega), List.getElem?_drop] at hj
    refine key _ ?_ hj
    simp
    omega

end Go.Proofs.Ytoeobhehjnkkkaa

/-
  Blocks of one's own; faults. Nothing of a program stands here.
-/
namespace Go.Proofs.Ytoeobhehjnkkkaa
open Go.RowKit

theorem quiet_addG {P : Program} {f : FuncId} {args : Array Value} {w : World} {p n : Nat} {v : Value} (h : Calls P f args (w.drewN (p + n)) fun e w' => e = .returned v ∧ ∃ m, w' = (w.drewN (p + n)).drewN m) :
    Calls P f args (w.drewN (p + n)) fun e w'' => e = .returned v ∧ ∃ m, w'' = w.drewN (p + m) := h.mono fun _ _ ⟨he, m, hm⟩ => ⟨he, n + m, by rw [hm, World.drewN_drewN, Nat.add_assoc]⟩

/-- A block of one's own. -/
def Blk (w : World) (B : Nat) (t : TypeId) (xs : Array Value) : Prop := w.heap[B]? = some (.cells xs t (0, 0))

theorem Blk.cell {w : World} {B : Nat} {t : TypeId} {xs : Array Value} (h : Blk w B t xs) (k : Nat) : w.cell? ⟨B, k, none⟩ = xs[k]? := by
  rw [cell_of_row _ _ _ _ _ _ h]

theorem Blk.frozen {w : World} {B : Nat} {t : TypeId} {xs : Array Value} (h : Blk w B t xs) (k : Nat) : w.frozen? ⟨B, k, none⟩ = false := frozen_of_row _ _ _ _ _ h
theorem Blk.lt {w : World} {B : Nat} {t : TypeId} {xs : Array Value} (h : Blk w B t xs) : B < w.heap.size := (Array.getElem?_eq_some_iff.1 h).1
theorem Blk.below {w w' : World} {B C : Nat} {t : TypeId} {xs : Array Value} (h : Blk w B t xs) (hb : Below C w w') (hC : B < C) : Blk w' B t xs := by
  unfold Blk
  rw [hb.block _ hC]
  exact h

theorem Blk.later {w w' : World} {B : Nat} {t : TypeId} {xs : Array Value} (h : Blk w B t xs) (hb : Below w.heap.size w w') : Blk w' B t xs := h.below hb h.lt

theorem Blk.grown {w w' : World} {B : Nat} {o : Option Nat} {t : TypeId} {xs : Array Value} (h : Blk w B t xs) (hg : w.grownBy w' o) (hne : some B ≠ o) : Blk w' B t xs := by
  unfold Blk
  rw [hg.block _ h.lt hne]
  exact h

theorem Blk.new (w : World) (t : TypeId) (xs : Array Value) : Blk (w.alloc (.cells xs t)) w.heap.size t xs := heap_alloc_new _ _
theorem Blk.set {w : World} {B : Nat} {t : TypeId} {xs : Array Value} (h : Blk w B t xs) (k : Nat) (u : Value) : Blk (w.setCell ⟨B, k, none⟩ u) B t (xs.setIfInBounds k u) := by
  unfold Blk
  rw [heap_setCell_same w B k _ _ _ h]

theorem Blk.other {w : World} {B : Nat} {t : TypeId} {xs : Array Value} (h : Blk w B t xs) {p : Addr} (hp : B ≠ p.block) (u : Value) : Blk (w.setCell p u) B t xs := by
  unfold Blk
  rw [heap_setCell_other w p _ u hp]
  exact h

/-- A block that was laid for some values, as a slice over all of it. -/
theorem Rd.newL (w : World) (vs : Array Value) (e : TypeId) (hl : vs.size ≤ 1000) : Rd (w.alloc (.cells vs e)) (.slice (some ⟨w.heap.size, 0, none⟩) vs.size vs.size) vs.toList :=
  ⟨some ⟨w.heap.size, 0, none⟩, vs.size, by simp, by simp, by unfold maxLen; omega, (fun h => by cases h), fun a ha j v hv => by
    cases ha
    rw [Addr.add_lit, Nat.zero_add, ← hv]
    have := cell_of_row (w.alloc (.cells vs e)) w.heap.size j _ e (0, 0) (heap_alloc_new w _)
    rw [this]
    simp⟩

/-- A fault as a value. -/
def flt (f : Int × Int) : Value := .agg #[.int .i64 f.1, .int .i64 f.2]

theorem below_allocG (w : World) (o : Obj) : Below w.heap.size w (w.alloc o) := (Below.refl _ _).alloc (Nat.le_refl _) o

theorem cell_belowG {w w' : World} {p : Addr} {v : Value} (h : w.cell? p = some v) (hb : Below w.heap.size w w') : w'.cell? p = some v :=
  (hb.cell (World.block_lt_of_cell? w _ h)).trans h

end Go.Proofs.Ytoeobhehjnkkkaa

/-
  The walks over package parts' small functions.
-/
namespace Go.Proofs.Ytoeobhehjnkkkaa
open Go.RowKit
set_option linter.unusedVariables false

theorem infoInt : (Try.prog.info? 3).map (fun i => (i.zero, i.size, i.bytes)) = some (some (.int .i64 0), 1, 8) := by kernel_rfl

theorem infoPart : (Try.prog.info? 44).map (fun i => (i.zero, i.size, i.bytes)) = some (some (.agg #[.string ⟨#[]⟩, .string ⟨#[]⟩, .int .i64 0]), 3, 40) := by kernel_rfl

/-- A part's three places, written out. -/
theorem AtG.part {w : World} {b off : Nat} {c : Pt} (h : AtG pE w b off c) :
    w.cell? ⟨b, off, none⟩ = some (.string c.fr) ∧ w.cell? ⟨b, off + 1, none⟩ = some (.string c.to_) ∧ w.cell? ⟨b, off + 2, none⟩ = some (.int .i64 c.id) :=
  ⟨h 0 _ rfl, h 1 _ rfl, h 2 _ rfl⟩

set_option maxRecDepth 100000 in
set_option maxHeartbeats 400000 in
theorem vIsNum_any (n : Int) (w : World) : Calls Try.prog 98 #[.int .i64 n] w fun e w' => e = .returned (.bool (numB n)) ∧ w' = w := by
  by_cases h1 : 0 ≤ n
  · have hd : decide (0 ≤ n) = true := by simpa using h1
    go_enter Try.func98, Try.ntmps98
    go_wp2_with fail
    go_ret
    exact ⟨by simp [numB, h1], rfl⟩
  · have hd : decide (0 ≤ n) = false := by simpa using h1
    go_enter Try.func98, Try.ntmps98
    go_wp2_with fail
    go_ret
    exact ⟨by simp [numB]; omega, rfl⟩

set_option maxRecDepth 100000 in
theorem vIsBetween_any (r a b : ByteArray) (w : World) : Calls Try.prog 81 #[.string r, .string a, .string b] w fun e w' => e = .returned (.bool (inB r a b)) ∧ w' = w := by
  cases h1 : Op.bytesLess r.toList a.toList <;> cases h2 : b.toList.isEmpty <;> cases h3 : Op.bytesLess r.toList b.toList
  all_goals
    go_enter Try.func81, Try.ntmps81
    go_wp2_with fail
    go_ret
    exact ⟨by simp [inB, bLt, h1, h2, h3], rfl⟩

set_option maxRecDepth 100000 in
set_option maxHeartbeats 400000 in
theorem endAhead_any (v : Value) (l : List Pt) (i : Nat) (w : World) (hv : RdG pE w v l) (hi : i < l.length) :
    Calls Try.prog 135 #[v, .int .i64 i] w fun e w' => e = .returned (.string (endA l i)) ∧ w' = w := by
  obtain ⟨ao, cap, rfl, hc1, hc2⟩ := hv.shape
  unfold maxLen at hc2
  cases i with
  | zero =>
    go_enter Try.func135, Try.ntmps135
    go_wp2_with fail
    go_ret
    exact ⟨rfl, rfl⟩
  | succ j =>
    obtain ⟨p, hp⟩ : ∃ p, l[j]? = some p := ⟨_, List.getElem?_eq_getElem (by omega)⟩
    obtain ⟨b, off, rfl, hb, hat⟩ := hv.here hp
    obtain ⟨c0, c1, c2⟩ := hat.part
    have HE := hide (show endA l (j + 1) = p.to_ by simp only [endA, List.getD_eq_getElem?_getD, hp]; rfl)
    have h0 : (((j + 1 : Nat) : Int) == 0) = false := by simp; omega
    have hw : IntKind.i64.wrap (((j + 1 : Nat) : Int) - 1) = (j : Int) := by rw [IntKind.wrap_i64]; omega
    have hj1 : (0 : Int) ≤ (j : Int) := by omega
    have hj2 : (j : Int) < (l.length : Int) := by omega
    generalize hI : ((j + 1 : Nat) : Int) = I at *
    clear hat hp hv hI
    go_enter Try.func135, Try.ntmps135
    go_wp2_with fail
    go_ret
    exact ⟨by rw [HE.out]; rfl, rfl⟩

set_option maxRecDepth 100000 in
set_option maxHeartbeats 400000 in
theorem endsWell_any (v : Value) (l : List Pt) (i : Nat) (w : World) (hv : RdG pE w v l) (hi : i < l.length) :
    Calls Try.prog 136 #[v, .int .i64 i] w fun e w' => e = .returned (.bool (endW l i)) ∧ ∃ n, w' = w.drewN n := by
  obtain ⟨ao, cap, rfl, hc1, hc2⟩ := hv.shape
  unfold maxLen at hc2
  obtain ⟨p, hp⟩ : ∃ p, l[i]? = some p := ⟨_, List.getElem?_eq_getElem hi⟩
  obtain ⟨b, off, rfl, hb, hat⟩ := hv.here hp
  obtain ⟨c0, c1, c2⟩ := hat.part
  have hj1 : (0 : Int) ≤ (i : Int) := by omega
  have hj2 : (i : Int) < (l.length : Int) := by omega
  have hgd : l.getD i zeroPt = p := by rw [List.getD_eq_getElem?_getD, hp]; rfl
  by_cases hl : i + 1 = l.length
  · have HE := hide (show endW l i = p.to_.toList.isEmpty by simp only [endW, hgd, if_pos hl])
    have h0 : ((i : Int) == (l.length : Int) - 1) = true := by simp; omega
    clear hat hp hv hgd hl
    go_enter Try.func136, Try.ntmps136
    go_wp2_with fail
    go_ret
    exact ⟨by rw [HE.out]; simp, 0, rfl⟩
  · have HE := hide (show endW l i = (!Op.bytesLess p.to_.toList p.fr.toList && !(p.to_.toList == p.fr.toList)) by rw [gtS]; simp only [endW, hgd, if_neg hl])
    have h0 : ((i : Int) == (l.length : Int) - 1) = false := by simp; omega
    clear hat hp hv hgd hl
    go_enter Try.func136, Try.ntmps136
    go_wp2_with fail
    go_quiet (fail)
    go_wp2_with fail
    go_ret
    exact ⟨by rw [HE.out]; rfl, _, rfl⟩

set_option maxRecDepth 100000 in
set_option maxHeartbeats 1000000 in
theorem codeAtP_any (v : Value) (l : List Pt) (i : Nat) (w : World) (hv : RdG pE w v l) (hi : i < l.length) :
    Calls Try.prog 121 #[v, .int .i64 i] w fun e w' => e = .returned (.int .i64 (codeP l i)) ∧ Below w.heap.size w w' := by
  have hEA := fun W (hW : Below w.heap.size w W) => endAhead_any v l i W (hv.below hW) hi
  have hEW := fun W (hW : Below w.heap.size w W) => endsWell_any v l i W (hv.below hW) hi
  obtain ⟨ao, cap, rfl, hc1, hc2⟩ := hv.shape
  unfold maxLen at hc2
  obtain ⟨p, hp⟩ : ∃ p, l[i]? = some p := ⟨_, List.getElem?_eq_getElem hi⟩
  obtain ⟨b, off, rfl, hb, hat⟩ := hv.here hp
  obtain ⟨c0, c1, c2⟩ := hat.part
  have hj1 : (0 : Int) ≤ (i : Int) := by omega
  have hj2 : (i : Int) < (l.length : Int) := by omega
  have hgd : l.getD i zeroPt = p := by rw [List.getD_eq_getElem?_getD, hp]; rfl
  have HEA := hide hEA
  have HEW := hide hEW
  have HC : Hid (codeP l i = if 40 < p.fr.size ∨ 40 < p.to_.size then 8 else if numB p.id = false then 3 else if p.fr.toList ≠ (endA l i).toList ∨ endW l i = false then 5 else 0) := hide (by simp only [codeP, hgd])
  clear hat hp hv hgd hEA hEW
  by_cases h1 : 40 < p.fr.size ∨ 40 < p.to_.size
  · have HE := hide (HC.out.trans (if_pos h1))
    by_cases h2 : 40 < p.fr.size
    all_goals
      go_enter Try.func121, Try.ntmps121
      go_wp2_with fail
      go_ret
      exact ⟨by rw [HE.out]; rfl, by go_grown⟩
  · have HE := hide (HC.out.trans (if_neg h1))
    have h2 : ¬ 40 < p.fr.size := fun h => h1 (.inl h)
    have h3 : ¬ 40 < p.to_.size := fun h => h1 (.inr h)
    clear h1 HC
    cases h4 : numB p.id
    · have HE := hide (HE.out.trans (if_pos h4))
      go_enter Try.func121, Try.ntmps121
      go_wp2_with (go_at_call 98; refine (vIsNum_any _ _).mono ?_; rintro e w' ⟨rfl, rfl⟩; rw [h4])
      go_ret
      exact ⟨by rw [HE.out]; rfl, by go_grown⟩
    · have HE := hide (HE.out.trans (if_neg (by rw [h4]; decide)))
      cases h5 : (p.fr.toList == (endA l i).toList)
      · have HE := hide (HE.out.trans (if_pos (.inl (by simpa using h5))))
        go_enter Try.func121, Try.ntmps121
        go_wp2_with (go_at_call 98; refine (vIsNum_any _ _).mono ?_; rintro e w' ⟨rfl, rfl⟩; rw [h4])
        have HEA2 := hide (fun n => HEA.out ((w.alloc (.cells #[.string p.fr, .string p.to_, .int .i64 p.id] 44)).drewN n) (below_drewN (by go_grown) _))
        go_quiet (first | (go_at_call 135; exact Calls.quiet_of_same (HEA2.out _)) | (go_at_call 135; exact quiet_addG ((HEA2.out _).mono fun _ _ ⟨h, h'⟩ => ⟨h, 0, h'⟩)))
        go_wp2_with fail
        go_ret
        exact ⟨by rw [HE.out]; rfl, below_drewN (by go_grown) _⟩
      · have h7 : ¬ p.fr.toList ≠ (endA l i).toList := by simpa using h5
        have HE5 : Hid (∀ b, endW l i = b → codeP l i = cond b 0 5) := hide fun b hb => by
          rw [HE.out]
          cases b
          · exact if_pos (.inr hb)
          · exact if_neg (by rw [hb]; simpa using h7)
        cases h6 : endW l i
        all_goals
          have HE := hide (HE5.out _ h6)
          clear h7 HE5
          go_enter Try.func121, Try.ntmps121
          go_wp2_with (go_at_call 98; refine (vIsNum_any _ _).mono ?_; rintro e w' ⟨rfl, rfl⟩; rw [h4])
          have HEA2 := hide (fun n => HEA.out ((w.alloc (.cells #[.string p.fr, .string p.to_, .int .i64 p.id] 44)).drewN n) (below_drewN (by go_grown) _))
          have HEW2 := hide (fun n => HEW.out ((w.alloc (.cells #[.string p.fr, .string p.to_, .int .i64 p.id] 44)).drewN n) (below_drewN (by go_grown) _))
          rw [h6] at HEW2
          go_quiet (first | (go_at_call 135; exact Calls.quiet_of_same (HEA2.out _)) | (go_at_call 136; exact Calls.quiet_of (HEW2.out _)))
          go_wp2_with fail
          go_ret
          exact ⟨by rw [HE.out]; rfl, below_drewN (by go_grown) _⟩

end Go.Proofs.Ytoeobhehjnkkkaa

/-
  The walk over parts.numbered: the map from IDs to numbers.
-/
namespace Go.Proofs.Ytoeobhehjnkkkaa
open Go.RowKit Go.Maps
set_option linter.unusedVariables false

theorem lawInt : Keyed Try.prog 3 := int_keyed Try.underlying3

theorem zeroInt (w : World) : (zeroValue 3).run Try.prog w = .ok (.int .i64 0) w := by kernel_rfl

/-- IDs that are ints. -/
def WfP (l : List Pt) : Prop := ∀ p ∈ l, (Lit.int .i64 p.id).wf = true

theorem wf_num {n : Int} (h : numB n = true) : (Lit.int .i64 n).wf = true := by
  unfold numB at h
  simp only [decide_eq_true_eq] at h
  exact WalkArith.wf_i64 (by omega)

/-- The map of the first k parts' IDs. -/
def MapOf (D : DataW Unit) (l : List Pt) (k : Nat) : Prop :=
  IsMap D ∧ ∀ id : Int, Maps.has D (.int .i64 id) = hasAhead l k id ∧ ∀ i p, i < k → l[i]? = some p → p.id = id → D.atKey (.int .i64 id) (.lit (.int .i64 0)) = .lit (.int .i64 i)

theorem MapOf.zero (l : List Pt) : MapOf (.map []) l 0 :=
  ⟨isMap_empty, fun id => ⟨by simp [hasAhead, Maps.has], fun i p hi => by omega⟩⟩

theorem hasAhead_succ {l : List Pt} {k : Nat} {p : Pt} (hp : l[k]? = some p) (id : Int) : hasAhead l (k + 1) id = (hasAhead l k id || decide (p.id = id)) := by
  obtain ⟨hk, rfl⟩ := List.getElem?_eq_some_iff.1 hp
  unfold hasAhead
  rw [List.take_succ_eq_append_getElem hk, List.any_append]
  simp

theorem MapOf.succ {D : DataW Unit} {l : List Pt} {k : Nat} {p : Pt} (h : MapOf D l k) (hp : l[k]? = some p) (hn : hasAhead l k p.id = false) : MapOf (D.put (.int .i64 p.id) (.lit (.int .i64 k))) l (k + 1) := by
  obtain ⟨hm, h⟩ := h
  refine ⟨hm.put _ _, fun id => ?_⟩
  rw [hasAhead_succ hp]
  by_cases e : p.id = id
  · subst e
    refine ⟨by rw [has_put_same (k := .int .i64 p.id) hm trivial]; simp, fun i q hi hq hqe => ?_⟩
    rw [atKey_put_same (k := .int .i64 p.id) hm trivial]
    by_cases hik : i = k
    · rw [hik]
    · exact absurd hqe (hasAhead_false.1 hn i q (by omega) hq)
  · have hne : (Lit.int .i64 id) ≠ Lit.int .i64 p.id := fun h => e (by simpa using h.symm)
    refine ⟨by rw [has_put_other hne, (h id).1]; simp [e], fun i q hi hq hqe => ?_⟩
    rw [atKey_put_other hne]
    have hik : i ≠ k := by
      rintro rfl
      rw [hp] at hq
      cases hq
      exact e hqe
    exact (h id).2 i q (by omega) hq hqe

/-- The block B is the map of a list's IDs. -/
def IdM (w : World) (B : Nat) (l : List Pt) : Prop := ∃ D : DataW Unit, w.ownsMap Try.prog 3 (plainElem Try.prog 3) B l.length D ∧ MapOf D l l.length

theorem ownsMap_below {w w' : World} {P : Program} {k : TypeId} {R : Value → Option (DataW Unit × List MemPlace)} {b n C : Nat} {D : DataW Unit} (h : w.ownsMap P k R b n D) (hb : Below C w w') (hC : b < C) : w'.ownsMap P k R b n D := by
  obtain ⟨es, clock, hbk, r⟩ := h
  exact ⟨es, clock, by rw [hb.block _ hC]; exact hbk, r⟩

theorem IdM.lt {w : World} {B : Nat} {l : List Pt} (h : IdM w B l) : B < w.heap.size := by
  obtain ⟨D, h, _⟩ := h
  exact h.lt

theorem IdM.later {w w' : World} {B : Nat} {l : List Pt} (h : IdM w B l) (hb : Below w.heap.size w w') : IdM w' B l := by
  have hl := h.lt
  obtain ⟨D, h, hm⟩ := h
  exact ⟨D, ownsMap_below h hb hl, hm⟩

theorem IdM.set {w : World} {B : Nat} {l : List Pt} (h : IdM w B l) {p : Addr} (hp : B ≠ p.block) (u : Value) : IdM (w.setCell p u) B l := by
  obtain ⟨D, h, hm⟩ := h
  exact ⟨D, h.setCell hp u, hm⟩

set_option maxRecDepth 100000 in
set_option maxHeartbeats 1000000 in
theorem numbered_any (v : Value) (l : List Pt) (w : World) (hv : RdG pE w v l) (hwf : WfP l) :
    Calls Try.prog 105 #[v] w fun e w' => ∃ m, e = .returned (.tuple #[m, flt (chkP l)]) ∧ Below w.heap.size w w' ∧ ((m = .map none ∧ (chkP l).1 ≠ 0) ∨ (m = .map (some (w.heap.size + 1)) ∧ (chkP l).1 = 0 ∧ IdM w' (w.heap.size + 1) l)) := by
  obtain ⟨ao, cap, hvv, hc1, hc2⟩ := hv.shape
  subst hvv
  unfold maxLen at hc2
  by_cases h0 : l.length = 0
  · have HE := hide (show chkP l = (6, -1) by simp [chkP, h0])
    have hl0 : ((l.length : Int) == 0) = true := by simp [h0]
    go_enter Try.func105, Try.ntmps105
    go_wp2_with fail
    exact bodyPost_ret (v := .tuple #[.map none, flt (6, -1)]) (by simp [results, Try.results105, go_sem, flt]) rfl ⟨_, by rw [HE.out], by go_grown, .inl ⟨rfl, by rw [HE.out]; simp⟩⟩
  by_cases hbig : 200 < l.length
  · have HE := hide (show chkP l = (2, -1) by simp [chkP, h0, hbig])
    have hl0 : ((l.length : Int) == 0) = false := beq_eq_false_iff_ne.2 (by omega)
    go_enter Try.func105, Try.ntmps105
    go_wp2_with fail
    exact bodyPost_ret (v := .tuple #[.map none, flt (2, -1)]) (by simp [results, Try.results105, go_sem, flt]) rfl ⟨_, by rw [HE.out], by go_grown, .inl ⟨rfl, by rw [HE.out]; simp⟩⟩
  have HF := hide (show chkP l = chkGo l l.length 0 by simp [chkP, h0, hbig])
  have hl0 : ((l.length : Int) == 0) = false := beq_eq_false_iff_ne.2 (by omega)
  have hmm := @run_makeMap Try.prog
  clear h0
  go_enter Try.func105, Try.ntmps105
  go_wp2_with fail
  go_loopw [21] (fun i wr => ∃ k : Nat, k ≤ l.length ∧ i = .int .i64 k ∧ chkGo l (l.length - k) k = chkP l ∧ (∃ D : DataW Unit, wr.ownsMap Try.prog 3 (plainElem Try.prog 3) (w.heap.size + 1) k D ∧ MapOf D l k) ∧ Blk wr w.heap.size 30 #[.int .i64 0, .int .i64 0] ∧ Below w.heap.size w wr)
    (fun i _ => l.length - (intOf i).toNat)
  case atStart =>
    refine ⟨0, by omega, rfl, by rw [HF.out]; rfl, ⟨_, ?_, MapOf.zero l⟩, ?_, by go_grown⟩
    · have := World.ownsMap_made (w.alloc (.cells #[.int .i64 0, .int .i64 0] 30)) Try.prog 3 (plainElem (H := Unit) Try.prog 3)
      simpa using this
    · exact (Blk.new w _ _).later (below_allocG _ _)
  case round =>
    obtain ⟨k, hk, rfl, hgo, ⟨D, hown, hmap⟩, hblk, hbel⟩ := hrel
    have HG := hide hgo
    have HM := hide hmap
    clear hgo hmap
    by_cases hlt : k < l.length
    · obtain ⟨p, hp⟩ : ∃ p, l[k]? = some p := ⟨_, List.getElem?_eq_getElem hlt⟩
      have hpm : p ∈ l := List.mem_of_getElem? hp
      obtain ⟨b, off, rfl, hb, hat⟩ := hv.here hp
      have hbr : b < wr.heap.size := Nat.lt_of_lt_of_le hb hbel.size
      obtain ⟨c0, c1, c2⟩ := (hat.below hbel).part
      have hk1 : (0 : Int) ≤ (k : Int) := by omega
      have hk2 : (k : Int) < (l.length : Int) := by omega
      have hgd : l.getD k zeroPt = p := by rw [List.getD_eq_getElem?_getD, hp]; rfl
      have hcode := codeAtP_any (.slice (some ⟨b, off, none⟩) l.length cap) l k (wr.alloc (.cells #[.string p.fr, .string p.to_, .int .i64 p.id] 44)) ((hv.below hbel).alloc _) hlt
      have HC := hide hcode
      have HP := hide hp
      have HGD := hide hgd
      clear hat hp hcode hgd
      go_wp2_with fail
      refine HC.out.mono ?_
      rintro e w1 ⟨rfl, hb1⟩
      have hP1 : Blk w1 wr.heap.size 44 #[.string p.fr, .string p.to_, .int .i64 p.id] := (Blk.new wr _ _).later hb1
      have hF1 := (hblk.later (below_allocG wr (.cells #[.string p.fr, .string p.to_, .int .i64 p.id] 44))).later hb1
      have hwl := hown.lt
      have hown1 := ownsMap_below (hown.alloc (.cells #[.string p.fr, .string p.to_, .int .i64 p.id] 44)) hb1 (by simp; omega)
      have hbel1 : Below w.heap.size w w1 := hbel.trans (((below_allocG wr _).trans (hb1.mono (by simp))).mono hbel.size)
      have hlt1 := hP1.lt
      have p2 := hP1.cell 2
      have f0 := hF1.cell 0
      have f1 := hF1.cell 1
      have g0 := hF1.frozen 0
      have g1 := hF1.frozen 1
      have hfl := hF1.lt
      simp at p2 f0 f1
      have hkey : keyOf Try.prog 3 (.int .i64 p.id) = some (.int .i64 p.id) := keyOf_int_mk Try.underlying3 (hwf p hpm)
      have hwk : (Lit.int .i64 (k : Int)).wf = true := WalkArith.wf_i64 (by omega)
      clear c0 c1 c2 hb1 hblk hown
      have HH := hide (HM.out.2 p.id).1
      generalize hHS : Maps.has D (.int .i64 p.id) = HS at *
      by_cases hc : codeP l k = 0
      · rw [hc]
        cases HS
        · have HE := hide (chkGo_ok (n := l.length - k - 1) (codeP2_ok hc (by rw [HGD.out]; exact HH.out.symm)))
          go_wp2_with (first
            | (at_lookup; refine wpList_lookup_own_ok_int _ rfl _ _ 142 rfl 3 3 .i64 lawInt Try.underlying142 Try.underlying3 (zeroInt _) (w.heap.size + 1) k D rfl hown1 _ _ rfl hkey ?_; intro c hat hwc; rw [hHS])
            | (at_mapUpdate; refine wpList_mapUpdate_own _ rfl _ _ _ 142 rfl 3 3 lawInt Try.underlying142 _ (w.heap.size + 1) k D rfl hown1 (by unfold maxLen; omega) _ _ _ rfl rfl hkey _ [] (plainElem_int Try.underlying3 hwk) ?_; intro w2 hown2 hgrow2)
            | go_in)
          have hbel2 : Below w.heap.size w w2 := hbel1.grown (hgrow2) (by omega) (fun j hj => by cases hj; omega)
          have hF2 := hF1.grown hgrow2 (by simp)
          have hown2' := hown2
          go_roundw
          case rel => exact ⟨k + 1, by omega, by go_num, by rw [← HG.out, show l.length - k = l.length - k - 1 + 1 by omega, HE.out]; congr 1, ⟨_, hown2, HM.out.succ HP.out HH.out.symm⟩, hF2, hbel2⟩
          case measure => simp [intOf]; omega
        · have HE := hide (show chkP l = (10, (k : Int)) by
            have h2 := codeP2_twice hc (by rw [HGD.out]; exact HH.out.symm)
            rw [← HG.out, show l.length - k = l.length - k - 1 + 1 by omega, chkGo_no (by rw [h2]; decide), h2])
          go_wp2_with (first
            | (at_lookup; refine wpList_lookup_own_ok_int _ rfl _ _ 142 rfl 3 3 .i64 lawInt Try.underlying142 Try.underlying3 (zeroInt _) (w.heap.size + 1) k D rfl hown1 _ _ rfl hkey ?_; intro c hat hwc; rw [hHS])
            | go_in)
          exact bodyPost_ret (v := .tuple #[.map none, flt (10, k)]) (by simp [results, Try.results105, go_sem, flt, f0, f1]) rfl ⟨_, by rw [HE.out], by go_grown, .inl ⟨rfl, by rw [HE.out]; simp⟩⟩
      · have HE := hide (show chkP l = (codeP l k, (k : Int)) by
          have h2 := codeP2_own hc
          rw [← HG.out, show l.length - k = l.length - k - 1 + 1 by omega, chkGo_no (by rw [h2]; exact hc), h2])
        have hcb : (codeP l k == 0) = false := beq_eq_false_iff_ne.2 hc
        have hcb2 : (codeP l k != 0) = true := by simp [hc]
        have HC0 := hide hc
        generalize codeP l k = cd at *
        clear hc
        cases HS
        all_goals
          go_wp2_with (first
            | (at_lookup; refine wpList_lookup_own_ok_int _ rfl _ _ 142 rfl 3 3 .i64 lawInt Try.underlying142 Try.underlying3 (zeroInt _) (w.heap.size + 1) k D rfl hown1 _ _ rfl hkey ?_; intro c hat hwc; rw [hHS])
            | go_in)
          exact bodyPost_ret (v := .tuple #[.map none, flt (cd, k)]) (by simp [results, Try.results105, go_sem, flt, f0, f1]) rfl ⟨_, by rw [HE.out], by go_grown, .inl ⟨rfl, by rw [HE.out]; exact HC0.out⟩⟩
    · have hz : l.length - k = 0 := by omega
      rw [hz] at HG
      have hke : k = l.length := by omega
      subst hke
      have f0 := hblk.cell 0
      have f1 := hblk.cell 1
      have g0 := hblk.frozen 0
      have g1 := hblk.frozen 1
      have hfl := hblk.lt
      simp at f0 f1
      go_wp2_with fail
      have hne : w.heap.size + 1 ≠ w.heap.size := by omega
      refine bodyPost_ret (v := .tuple #[.map (some (w.heap.size + 1)), flt (0, 0)]) (by simp [results, Try.results105, go_sem, flt, f0, f1]) rfl ⟨_, by rw [← HG.out]; rfl, by go_grown, .inr ⟨rfl, by rw [← HG.out]; rfl, D, ?_, HM.out⟩⟩
      exact (hown.setCell (a := ⟨w.heap.size, 0, none⟩) hne _).setCell (a := ⟨w.heap.size, 1, none⟩) hne _

end Go.Proofs.Ytoeobhehjnkkkaa

/-
  The walks over lists of ints that are searched, parts.rowFault and idFault.
-/
namespace Go.Proofs.Ytoeobhehjnkkkaa
open Go.RowKit Go.Maps
set_option linter.unusedVariables false

/-- The first that f says yes to, from the i-th on; or -1. -/
def fixGo (f : Int → Bool) : List Int → Nat → Int
  | [], _ => -1
  | x :: r, i => if f x = true then (i : Int) else fixGo f r (i + 1)

theorem fixGo_yes {f : Int → Bool} {x : Int} {r : List Int} {i : Nat} (h : f x = true) : fixGo f (x :: r) i = i := by rw [fixGo, if_pos h]
theorem fixGo_no {f : Int → Bool} {x : Int} {r : List Int} {i : Nat} (h : f x = false) : fixGo f (x :: r) i = fixGo f r (i + 1) := by rw [fixGo, if_neg (by simp [h])]

theorem fixGo_any {f : Int → Bool} : ∀ {r : List Int} {i : Nat}, decide (0 ≤ fixGo f r i) = r.any f
  | [], _ => rfl
  | x :: r, i => by
    cases h : f x
    · rw [fixGo_no h, fixGo_any, List.any_cons, h, Bool.false_or]
    · rw [fixGo_yes h, List.any_cons, h, Bool.true_or]
      simp

theorem drop_consI {α : Type} {l : List α} {i : Nat} {x : α} (h : l[i]? = some x) : l.drop i = x :: l.drop (i + 1) := by
  obtain ⟨hl, rfl⟩ := List.getElem?_eq_some_iff.1 h
  exact List.drop_eq_getElem_cons hl

/-- An int of a list, where it lies. -/
theorem Rd.hereI {w : World} {ao : Option Addr} {n cap : Nat} {zs : List Int} (h : Rd w (.slice ao n cap) (ic zs)) {i : Nat} {x : Int} (hi : zs[i]? = some x) :
    ∃ b off, ao = some ⟨b, off, none⟩ ∧ b < w.heap.size ∧ w.cell? ⟨b, off + i, none⟩ = some (.int .i64 x) := by
  have hl := (List.getElem?_eq_some_iff.1 hi).1
  obtain ⟨b, off, cap', hv, _, _, hb, hc⟩ := h.pos (by rw [ic_length]; omega)
  simp only [Value.slice.injEq] at hv
  obtain ⟨rfl, _, _⟩ := hv
  exact ⟨b, off, rfl, hb, hc i _ (by simp [ic, hi])⟩

set_option maxRecDepth 100000 in
set_option maxHeartbeats 400000 in
theorem idWrong_any (n : Int) (w : World) : Calls Try.prog 122 #[.int .i64 n] w fun e w' => e = .returned (.bool (!numB n)) ∧ w' = w := by
  go_enter Try.func122, Try.ntmps122
  go_wp2_with (go_at_call 98; refine (vIsNum_any _ _).mono ?_; rintro e w' ⟨rfl, rfl⟩)
  go_ret
  exact ⟨rfl, rfl⟩

set_option maxRecDepth 100000 in
set_option maxHeartbeats 1000000 in
theorem IndexFuncI_any (v : Value) (zs : List Int) (w : World) (hv : Rd w v (ic zs)) :
    Calls Try.prog 137 #[v, .func (.func 122) #[] #[]] w fun e w' => e = .returned (.int .i64 (fixGo (fun x => !numB x) zs 0)) ∧ w' = w := by
  obtain ⟨ao, cap, hvv, hc1, hc2⟩ := hv.shape
  rw [ic_length] at hvv hc1
  subst hvv
  unfold maxLen at hc2
  go_enter Try.func137, Try.ntmps137
  go_wp2_with fail
  go_loop [8] (fun iv => ∃ (j : Nat), j ≤ zs.length ∧ iv = .int .i64 j ∧ fixGo (fun x => !numB x) (zs.drop j) j = fixGo (fun x => !numB x) zs 0)
    (fun iv => zs.length - (intOf iv).toNat)
  case atStart => exact ⟨0, by omega, rfl, rfl⟩
  case round =>
    obtain ⟨j, hj, rfl, hgo⟩ := hrel
    have HG := hide hgo
    clear hgo
    by_cases hlt : j < zs.length
    · obtain ⟨x, hx⟩ : ∃ x, zs[j]? = some x := ⟨_, List.getElem?_eq_getElem hlt⟩
      obtain ⟨b, off, rfl, hb, hc⟩ := hv.hereI hx
      rw [drop_consI hx] at HG
      have hk1 : (0 : Int) ≤ (j : Int) := by omega
      have hk2 : (j : Int) < (zs.length : Int) := by omega
      clear hx
      cases hq : numB x
      · have HE := hide (HG.out.symm.trans (fixGo_yes (by rw [hq]; rfl)))
        go_wp2_with (go_at_call 122; refine (idWrong_any _ _).mono ?_; rintro e w' ⟨rfl, rfl⟩; rw [hq])
        go_ret
        exact ⟨by rw [HE.out]; rfl, rfl⟩
      · have HE := hide (HG.out.symm.trans (fixGo_no (by rw [hq]; rfl)))
        go_wp2_with (go_at_call 122; refine (idWrong_any _ _).mono ?_; rintro e w' ⟨rfl, rfl⟩; rw [hq])
        go_round
        case rel => exact ⟨j + 1, by omega, by go_num, HE.out.symm⟩
        case measure => simp [intOf]; omega
    · have hje : j = zs.length := by omega
      subst hje
      rw [List.drop_length] at HG
      have HE : Hid (fixGo (fun x => !numB x) zs 0 = -1) := hide HG.out.symm
      go_wp2_with fail
      go_ret
      exact ⟨by rw [HE.out]; rfl, rfl⟩

set_option maxRecDepth 100000 in
set_option maxHeartbeats 400000 in
theorem ContainsFuncI_any (v : Value) (zs : List Int) (w : World) (hv : Rd w v (ic zs)) :
    Calls Try.prog 123 #[v, .func (.func 122) #[] #[]] w fun e w' => e = .returned (.bool (zs.any fun x => !numB x)) ∧ w' = w := by
  go_enter Try.func123, Try.ntmps123
  go_wp2_with fail
  refine (IndexFuncI_any _ zs _ hv).mono ?_
  rintro e w1 ⟨rfl, rfl⟩
  go_wp2_with fail
  go_ret
  exact ⟨by rw [← fixGo_any (i := 0)]; rfl, rfl⟩

set_option maxRecDepth 100000 in
set_option maxHeartbeats 1000000 in
theorem IndexI_any (v : Value) (zs : List Int) (y : Int) (w : World) (hv : Rd w v (ic zs)) :
    Calls Try.prog 138 #[v, .int .i64 y] w fun e w' => e = .returned (.int .i64 (fixGo (fun x => y == x) zs 0)) ∧ w' = w := by
  obtain ⟨ao, cap, hvv, hc1, hc2⟩ := hv.shape
  rw [ic_length] at hvv hc1
  subst hvv
  unfold maxLen at hc2
  go_enter Try.func138, Try.ntmps138
  go_wp2_with fail
  go_loop [8] (fun iv => ∃ (j : Nat), j ≤ zs.length ∧ iv = .int .i64 j ∧ fixGo (fun x => y == x) (zs.drop j) j = fixGo (fun x => y == x) zs 0)
    (fun iv => zs.length - (intOf iv).toNat)
  case atStart => exact ⟨0, by omega, rfl, rfl⟩
  case round =>
    obtain ⟨j, hj, rfl, hgo⟩ := hrel
    have HG := hide hgo
    clear hgo
    by_cases hlt : j < zs.length
    · obtain ⟨x, hx⟩ : ∃ x, zs[j]? = some x := ⟨_, List.getElem?_eq_getElem hlt⟩
      obtain ⟨b, off, rfl, hb, hc⟩ := hv.hereI hx
      rw [drop_consI hx] at HG
      have hk1 : (0 : Int) ≤ (j : Int) := by omega
      have hk2 : (j : Int) < (zs.length : Int) := by omega
      clear hx
      cases hq : (y == x)
      · have HE := hide (HG.out.symm.trans (fixGo_no hq))
        go_wp2_with fail
        go_round
        case rel => exact ⟨j + 1, by omega, by go_num, HE.out.symm⟩
        case measure => simp [intOf]; omega
      · have HE := hide (HG.out.symm.trans (fixGo_yes hq))
        go_wp2_with fail
        go_ret
        exact ⟨by rw [HE.out]; rfl, rfl⟩
    · have hje : j = zs.length := by omega
      subst hje
      rw [List.drop_length] at HG
      have HE : Hid (fixGo (fun x => y == x) zs 0 = -1) := hide HG.out.symm
      go_wp2_with fail
      go_ret
      exact ⟨by rw [HE.out]; rfl, rfl⟩

set_option maxRecDepth 100000 in
set_option maxHeartbeats 400000 in
theorem ContainsI_any (v : Value) (zs : List Int) (y : Int) (w : World) (hv : Rd w v (ic zs)) :
    Calls Try.prog 124 #[v, .int .i64 y] w fun e w' => e = .returned (.bool (zs.any fun x => y == x)) ∧ w' = w := by
  go_enter Try.func124, Try.ntmps124
  go_wp2_with fail
  refine (IndexI_any _ zs y _ hv).mono ?_
  rintro e w1 ⟨rfl, rfl⟩
  go_wp2_with fail
  go_ret
  exact ⟨by rw [← fixGo_any (i := 0)]; rfl, rfl⟩

/-- Why a part can't be split at a row. -/
def rowF (p : Pt) (row : ByteArray) : Int × Int :=
  if 40 < row.size then (8, -2) else if row.toList = p.fr.toList ∨ inB row p.fr p.to_ = false then (5, -2) else (0, 0)

set_option maxRecDepth 100000 in
set_option maxHeartbeats 1000000 in
theorem rowFault_any (p : Pt) (row : ByteArray) (w : World) :
    Calls Try.prog 106 #[.agg #[.string p.fr, .string p.to_, .int .i64 p.id], .string row] w fun e w' => e = .returned (flt (rowF p row)) ∧ Below w.heap.size w w' := by
  by_cases h1 : 40 < row.size
  · have HE := hide (show rowF p row = (8, -2) by simp [rowF, h1])
    go_enter Try.func106, Try.ntmps106
    go_wp2_with fail
    exact bodyPost_ret (v := flt (8, -2)) (by simp [results, Try.results106, go_sem, flt]) rfl ⟨by rw [HE.out], by go_grown⟩
  · have HR := hide (show rowF p row = if row.toList = p.fr.toList ∨ inB row p.fr p.to_ = false then (5, -2) else (0, 0) by simp [rowF, h1])
    cases h2 : (row.toList == p.fr.toList)
    · have h2' : ¬ row.toList = p.fr.toList := by simpa using h2
      cases h3 : inB row p.fr p.to_
      · have HE := hide (HR.out.trans (if_pos (.inr h3)))
        clear h2'
        go_enter Try.func106, Try.ntmps106
        go_wp2_with (go_at_call 81; refine (vIsBetween_any _ _ _ _).mono ?_; rintro e w' ⟨rfl, rfl⟩; rw [h3])
        exact bodyPost_ret (v := flt (5, -2)) (by simp [results, Try.results106, go_sem, flt]) rfl ⟨by rw [HE.out], by go_grown⟩
      · have HE := hide (HR.out.trans (if_neg (by rw [h3]; simpa using h2')))
        clear h2'
        go_enter Try.func106, Try.ntmps106
        go_wp2_with (go_at_call 81; refine (vIsBetween_any _ _ _ _).mono ?_; rintro e w' ⟨rfl, rfl⟩; rw [h3])
        exact bodyPost_ret (v := flt (0, 0)) (by simp [results, Try.results106, go_sem, flt]) rfl ⟨by rw [HE.out], by go_grown⟩
    · have HE := hide (HR.out.trans (if_pos (.inl (by simpa using h2))))
      go_enter Try.func106, Try.ntmps106
      go_wp2_with fail
      exact bodyPost_ret (v := flt (5, -2)) (by simp [results, Try.results106, go_sem, flt]) rfl ⟨by rw [HE.out], by go_grown⟩

end Go.Proofs.Ytoeobhehjnkkkaa
