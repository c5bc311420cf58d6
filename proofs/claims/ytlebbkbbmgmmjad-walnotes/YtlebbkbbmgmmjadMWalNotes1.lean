/-
  Texts joined: Base, WireMath, Base2, Ext, CodeW1, WireW1, CodeW2.
-/
import Derived.WalkKit
import Derived.WalkSpells
import Derived.WalkLawsBesides
import Derived.Lib.AppendStr
import Derived.Laws.AppendOwnNone
import Derived.Deep.DeepMust
import Derived.Handy
import Derived.Deep.QuietTactic
import Derived.BigQuiet
import Derived.Deep.DeepCutAuto
import Derived.Deep.RegionWith
import Derived.Maps.AppendAt
import Derived.Test.YtlebbkbbmgmmjadRows
/-
  What a slice holds, said of lists: 'Rd w v xs': the slice value v reads, in the world w, as the cells xs. Nothing of a program stands here.
-/
namespace Go.Proofs.Ytlebbkbbmgmmjad
open Go.RowKit

theorem hide {p : Prop} (h : p) : Hid p := h
theorem unhide {p : Prop} (h : Hid p) : p := h

/-- The slice v reads as the cells xs. -/
def Rd (w : World) (v : Value) (xs : List Value) : Prop :=
  ∃ ao cap, v = .slice ao xs.length cap ∧ xs.length ≤ cap ∧ cap ≤ maxLen ∧ (ao = none → cap = 0) ∧ ∀ a, ao = some a → ∀ j u, xs[j]? = some u → w.cell? (a.add j) = some u

/-- Bytes as cells. -/
def bc (bs : List UInt8) : List Value := bs.map fun b => Value.int .u8 b.toNat
/-- Ints as cells. -/
def ic (zs : List Int) : List Value := zs.map (Value.int .i64)
/-- Texts as cells. -/
def sc (ss : List (List UInt8)) : List Value := ss.map fun s => Value.string ⟨s.toArray⟩

theorem bc_length (bs : List UInt8) : (bc bs).length = bs.length := by simp [bc]
theorem ic_length (bs : List Int) : (ic bs).length = bs.length := by simp [ic]
theorem sc_length (bs : List (List UInt8)) : (sc bs).length = bs.length := by simp [sc]
theorem bc_append (a b : List UInt8) : bc (a ++ b) = bc a ++ bc b := by simp [bc]
theorem ic_append (a b : List Int) : ic (a ++ b) = ic a ++ ic b := by simp [ic]
theorem sc_append (a b : List (List UInt8)) : sc (a ++ b) = sc a ++ sc b := by simp [sc]
theorem bc_one (bs : List UInt8) : ∀ u ∈ bc bs, u.oneCell' = true := by
  intro u hu
  simp only [bc, List.mem_map] at hu
  obtain ⟨_, _, rfl⟩ := hu
  rfl

theorem ic_one (bs : List Int) : ∀ u ∈ ic bs, u.oneCell' = true := by
  intro u hu
  simp only [ic, List.mem_map] at hu
  obtain ⟨_, _, rfl⟩ := hu
  rfl

theorem sc_one (bs : List (List UInt8)) : ∀ u ∈ sc bs, u.oneCell' = true := by
  intro u hu
  simp only [sc, List.mem_map] at hu
  obtain ⟨_, _, rfl⟩ := hu
  rfl

theorem Rd.nil (w : World) : Rd w (.slice none 0 0) [] := ⟨none, 0, rfl, Nat.le_refl _, Nat.zero_le _, fun _ => rfl, fun a h => by cases h⟩

theorem Rd.ofOwns {w : World} {base : Nat} {e : TypeId} {v : Value} {n : Nat} {xs : List Value} (h : w.ownsRow base e 1 v n xs) : Rd w v xs := by
  have hl : xs.length = n := by simpa using h.1
  rcases h.2 with ⟨rfl, hn⟩ | ⟨g, cap, cur, rfl, hb, hg, hnc, hcm, hcs, htake⟩
  · have : xs = [] := List.eq_nil_of_length_eq_zero (by omega)
    subst this
    exact Rd.nil w
  · refine ⟨some ⟨g, 0, none⟩, cap, by rw [hl], (by omega), hcm, (fun h => by cases h), fun a ha j u hu => ?_⟩
    cases ha
    exact h.cells (by simp [Value.ownBlock]) j u hu

theorem Rd.below {w w' : World} {v : Value} {xs : List Value} (h : Rd w v xs) (hb : Below w.heap.size w w') : Rd w' v xs := by
  obtain ⟨ao, cap, hv, h1, h2, h3, h4⟩ := h
  refine ⟨ao, cap, hv, h1, h2, h3, fun a ha j u hu => ?_⟩
  have hc := h4 a ha j u hu
  have hlt := World.block_lt_of_cell? w _ hc
  rw [hb.cell hlt]
  exact hc

theorem Rd.drew {w : World} {v : Value} {xs : List Value} (h : Rd w v xs) : Rd w.drew v xs := h
theorem Rd.drewN {w : World} {v : Value} {xs : List Value} (h : Rd w v xs) (n : Nat) : Rd (w.drewN n) v xs := h
theorem Rd.alloc {w : World} {v : Value} {xs : List Value} (h : Rd w v xs) (o : Obj) : Rd (w.alloc o) v xs := h.below ((Below.refl _ _).alloc (Nat.le_refl _) o)

theorem add_spot {a : Addr} {w : World} {v : Value} (h : w.cell? (a.add 0) = some v) : ∃ b o, a = ⟨b, o, none⟩ := by
  obtain ⟨b, o, s⟩ := a
  cases s with
  | none => exact ⟨b, o, rfl⟩
  | some s =>
    exfalso
    simp only [Addr.add, if_pos, World.cell?] at h
    split at h <;> simp_all

/-- A slice that holds something: where it lies. -/
theorem Rd.pos {w : World} {v : Value} {xs : List Value} (h : Rd w v xs) (hp : 0 < xs.length) :
    ∃ b off cap, v = .slice (some ⟨b, off, none⟩) xs.length cap ∧ xs.length ≤ cap ∧ cap ≤ maxLen ∧ b < w.heap.size ∧ ∀ j u, xs[j]? = some u → w.cell? ⟨b, off + j, none⟩ = some u := by
  obtain ⟨ao, cap, hv, h1, h2, h3, h4⟩ := h
  cases ao with
  | none => have := h3 rfl; omega
  | some a =>
    have h0 := h4 a rfl 0 xs[0] (by simp)
    obtain ⟨b, o, rfl⟩ := add_spot h0
    refine ⟨b, o, cap, hv, h1, h2, World.block_lt_of_cell? w _ h0, fun j u hu => ?_⟩
    have := h4 _ rfl j u hu
    rwa [Addr.add_lit] at this

/-- The slice's value written out; each cell that is there, at its place. -/
theorem Rd.open {w : World} {v : Value} {xs : List Value} (h : Rd w v xs) :
    ∃ ao cap, v = .slice ao xs.length cap ∧ xs.length ≤ cap ∧ cap ≤ maxLen ∧ ∀ j, j < xs.length → ∃ b off, ao = some ⟨b, off, none⟩ ∧ b < w.heap.size ∧ ∀ i u, xs[i]? = some u → w.cell? ⟨b, off + i, none⟩ = some u := by
  by_cases hp : 0 < xs.length
  · obtain ⟨b, off, cap, hv, h1, h2, h3, h4⟩ := h.pos hp
    exact ⟨_, cap, hv, h1, h2, fun j _ => ⟨b, off, rfl, h3, h4⟩⟩
  · obtain ⟨ao, cap, hv, h1, h2, _⟩ := h
    exact ⟨ao, cap, hv, h1, h2, fun j hj => by omega⟩

theorem Rd.shape {w : World} {v : Value} {xs : List Value} (h : Rd w v xs) : ∃ ao cap, v = .slice ao xs.length cap ∧ xs.length ≤ cap ∧ cap ≤ maxLen := by
  obtain ⟨ao, cap, hv, h1, h2, _⟩ := h
  exact ⟨ao, cap, hv, h1, h2⟩

theorem Rd.new (w : World) (u : Value) (e : TypeId) : Rd (w.alloc (.cells #[u] e)) (.slice (some ⟨w.heap.size, 0, none⟩) 1 1) [u] :=
  ⟨some ⟨w.heap.size, 0, none⟩, 1, rfl, Nat.le_refl _, by decide, (fun h => by cases h), fun a ha j v hv => by
    cases ha
    match j, hv with
    | 0, hv => simp at hv; subst hv; simp [Addr.add]⟩

/-- 'append(out, xs...)', out the call's own, xs whatever reads as cells: nil, empty or not. -/
theorem wpList_append_rd {P : Program} {w : World} {ops : Array Oper} {rest : List Oper} {o : Oper} {a : Act} {Q : Exit → Act → World → Prop} {s x : Operand} {t : TypeId} {base : Nat} {e : TypeId} {z : Value} {bytes : Nat}
    {v : Value} {n : Nat} {xs : List Value} {vx : Value} {news : List Value}
    (hown : w.ownsRow base e 1 v n xs) (hrd : Rd w vx news)
    (ht : P.underlying t = some (.slice e)) (hinf : (P.info? e).map (fun i => (i.zero, i.size, i.bytes)) = some (some z, 1, bytes)) (hzs : z.cells.size = 1)
    (hgd : o.guard = none) (ho : o.op = .call { callee := .builtin .append, args := #[s, x], argTypes := #[t, t] })
    (hs : a.eval s = v) (hx : a.eval x = vx) (h1 : ∀ u ∈ news, u.oneCell' = true)
    (h63 : n + news.length ≤ 2000000000000) (hbytes : bytes ≤ 64) (hbase : base ≤ w.heap.size)
    (h : ∀ v' w', w'.ownsRow base e 1 v' (n + news.length) (xs ++ news) → Below base w w' → w.grownBy w' v.ownBlock → wpList P ops Q rest (a.put o.dst v') w') : wpList P ops Q (o :: rest) a w := by
  obtain ⟨i, hi, hz, hsize, hby⟩ := info_parts hinf
  have hlt := hown.lt
  have hbytes' : (n + news.length) * bytes ≤ 2000000000000 * 64 := Nat.mul_le_mul h63 hbytes
  obtain ⟨ao, cap, hvx, h2, h3, h4, h5⟩ := hrd
  cases ao with
  | none =>
    have hc := h4 rfl
    have hnews : news = [] := List.eq_nil_of_length_eq_zero (by omega)
    subst hnews
    subst hc
    refine wpList_append_own_none hgd s x t ho base e i 1 ht hi v n xs hs hown (hx.trans hvx) ?_
    exact h v w (by simpa using hown) (Below.refl _ _) (World.grownBy.refl _ _)
  | some ad =>
    refine wpList_append_own w hgd s x t ho base e i z 1 bytes ht hi hz hsize hby hzs (by decide) v n xs hs hown ad news.length cap news (hx.trans hvx) (by simp) (h5 ad rfl) h1 (by simp [maxLen]; omega) (by omega) hbase ?_
    intro v' w' ho' hg' _
    exact h v' w' ho' ((Below.refl _ _).grown hg' hbase (fun k hk => (hlt k hk).1)) hg'

/-- 'append(out, u)', out the call's own: u was laid in a block of its own just ahead. -/
theorem wpList_append_one {P : Program} {w : World} {u : Value} {ops : Array Oper} {rest : List Oper} {o : Oper} {a : Act} {Q : Exit → Act → World → Prop} {s x : Operand} {t : TypeId} {base : Nat} {e : TypeId} {z : Value} {bytes : Nat}
    {v : Value} {n : Nat} {xs : List Value}
    (hown : w.ownsRow base e 1 v n xs)
    (ht : P.underlying t = some (.slice e)) (hinf : (P.info? e).map (fun i => (i.zero, i.size, i.bytes)) = some (some z, 1, bytes)) (hzs : z.cells.size = 1)
    (hgd : o.guard = none) (ho : o.op = .call { callee := .builtin .append, args := #[s, x], argTypes := #[t, t] })
    (hs : a.eval s = v) (hx : a.eval x = .slice (some ⟨w.heap.size, 0, none⟩) 1 1) (h1 : u.oneCell' = true)
    (h63 : n ≤ 1000000000000) (hbytes : bytes ≤ 64) (hbase : base ≤ w.heap.size)
    (h : ∀ v' w', w'.ownsRow base e 1 v' (n + 1) (xs ++ [u]) → Below base w w' → w.grownBy w' v.ownBlock → wpList P ops Q rest (a.put o.dst v') w') : wpList P ops Q (o :: rest) a (w.alloc (.cells #[u] e)) := by
  refine wpList_append_rd (hown.alloc _) (Rd.new _ u _) ht hinf hzs hgd ho hs hx (by simpa using h1) (by simp; omega) hbytes (by simp; omega) ?_
  intro v' w' h2 h3 h4
  refine h v' w' h2 (((Below.refl _ _).alloc hbase _).trans h3) ⟨h4.os, h4.tape, h4.output, ?_, fun k hk hne => ?_⟩
  · have := h4.size; simp at this; omega
  · rw [h4.block k (by simp; omega) hne, Below.heap_alloc _ _ _ hk]

/-- A block of two cells that the call laid first, later on. -/
theorem two_later {w wr : World} {x y : Value} {t : TypeId} (h : Below (w.heap.size + 1) (w.alloc (.cells #[x, y] t)) wr) :
    wr.cell? ⟨w.heap.size, 0, none⟩ = some x ∧ wr.cell? ⟨w.heap.size, 1, none⟩ = some y ∧ wr.frozen? ⟨w.heap.size, 0, none⟩ = false ∧ wr.frozen? ⟨w.heap.size, 1, none⟩ = false ∧ w.heap.size < wr.heap.size := by
  refine ⟨?_, ?_, ?_, ?_, ?_⟩
  · rw [h.cell (p := ⟨w.heap.size, 0, none⟩) (by simp)]; simp
  · rw [h.cell (p := ⟨w.heap.size, 1, none⟩) (by simp)]; simp
  · rw [h.frozen (p := ⟨w.heap.size, 0, none⟩) (by simp)]; simp
  · rw [h.frozen (p := ⟨w.heap.size, 1, none⟩) (by simp)]; simp
  · have := h.size; simp at this; omega

/-- What lies below a call's first block is as it was. -/
theorem below_first {w wr : World} {o : Obj} (h : Below (w.heap.size + 1) (w.alloc o) wr) : Below w.heap.size w wr :=
  ((Below.refl _ _).alloc (Nat.le_refl _) o).trans (h.mono (by omega))

/-- The slice v lies in blocks from B on (or nowhere). -/
def New (B : Nat) (v : Value) : Prop := ∀ a l c, v = .slice (some a) l c → B ≤ a.block
theorem New.nil (B : Nat) : New B (.slice none 0 0) := fun a l c h => by simp at h
theorem New.owns {w : World} {base : Nat} {e : TypeId} {size : Nat} {v : Value} {n : Nat} {xs : List Value} (h : w.ownsRow base e size v n xs) : New base v := by
  intro a l c hv
  exact (h.lt a.block (by rw [hv]; rfl)).1

theorem New.mono {B B' : Nat} {v : Value} (h : New B v) (hb : B' ≤ B) : New B' v := fun a l c hv => Nat.le_trans hb (h a l c hv)
theorem Rd.setNew {w : World} {v : Value} {xs : List Value} {B : Nat} (h : Rd w v xs) (hn : New B v) {p : Addr} (hp : p.block < B) (u : Value) : Rd (w.setCell p u) v xs := by
  obtain ⟨ao, cap, hv, h1, h2, h3, h4⟩ := h
  refine ⟨ao, cap, hv, h1, h2, h3, fun a ha j x hx => ?_⟩
  have hc := h4 a ha j x hx
  have e : (a.add j).block = a.block := by unfold Addr.add; split <;> rfl
  have hb : B ≤ a.block := hn a _ _ (by rw [hv, ha])
  rw [← hc]
  exact World.cell?_of_block (heap_setCell_other w p _ u (by rw [e]; omega))

/-- An old slice, while a new block is written. -/
theorem Rd.setOld {w : World} {v : Value} {xs : List Value} {w0 : World} (h0 : Rd w0 v xs) (h : Rd w v xs) {p : Addr} (hp : w0.heap.size ≤ p.block) (u : Value) : Rd (w.setCell p u) v xs := by
  obtain ⟨ao0, cap0, hv0, _, _, _, h40⟩ := h0
  obtain ⟨ao, cap, hv, h1, h2, h3, h4⟩ := h
  rw [hv] at hv0
  simp only [Value.slice.injEq] at hv0
  obtain ⟨rfl, _, _⟩ := hv0
  refine ⟨ao, cap, hv, h1, h2, h3, fun a ha j x hx => ?_⟩
  have hc := h4 a ha j x hx
  have hlt := World.block_lt_of_cell? w0 _ (h40 a ha j x hx)
  rw [← hc]
  exact World.cell?_of_block (heap_setCell_other w p _ u (by omega))

/-- A slice's length: for a loop's measure. -/
def lenV : Value → Nat | .slice _ n _ => n | _ => 0
theorem lenV_owns {w : World} {base : Nat} {e : TypeId} {size : Nat} {v : Value} {n : Nat} {xs : List Value} (h : w.ownsRow base e size v n xs) : lenV v = n := by
  rcases h.2 with ⟨rfl, hn⟩ | ⟨g, cap, cur, rfl, _⟩
  · simp [lenV, hn]
  · rfl

theorem owns_shape {w : World} {base : Nat} {e : TypeId} {v : Value} {n : Nat} {xs : List Value} (h : w.ownsRow base e 1 v n xs) : ∃ ao cap, v = .slice ao n cap := by
  rcases h.2 with ⟨rfl, hn⟩ | ⟨g, cap, cur, rfl, _⟩
  · exact ⟨none, 0, by rw [hn]⟩
  · exact ⟨_, _, rfl⟩

theorem owns_grown {w w' : World} {base : Nat} {e : TypeId} {size : Nat} {v : Value} {n : Nat} {xs : List Value} {R : Nat} (h : w.ownsRow base e size v n xs) (hg : w.grownBy w' (some R)) (hR : R < base) : w'.ownsRow base e size v n xs := by
  refine h.kept hg ?_
  cases hv : v.ownBlock with
  | none => exact .inl rfl
  | some k =>
    right
    have := (h.lt k hv).1
    simp
    omega

theorem strOfNums_bytes (bs : List UInt8) : strOfNums (bs.map fun b => (b.toNat : Int)) = ⟨bs.toArray⟩ := by
  unfold strOfNums
  simp [Function.comp_def]

/-- 'string(b)'. -/
theorem run_string_of_rd {P : Program} {w : World} {src dst e : TypeId} (hs : P.underlying src = some (.slice e)) (he : P.underlying e = some (.int .u8)) (hd : P.underlying dst = some .string) {v : Value} {bs : List UInt8} (h : Rd w v (bc bs)) :
    (convert src dst v).run P w = .ok (.string ⟨bs.toArray⟩) w := by
  by_cases hp : 0 < bs.length
  · obtain ⟨b, off, cap, hv, _, _, _, hc⟩ := h.pos (by rw [bc_length]; exact hp)
    rw [bc_length] at hv
    subst hv
    rw [← strOfNums_bytes]
    refine run_convert_bytes_arg w src e hs he b off bs.length cap _ (by simp) (fun i hi => ?_) dst hd
    refine hc i _ ?_
    simp [bc, hi, List.getD]
  · obtain rfl : bs = [] := List.eq_nil_of_length_eq_zero (by omega)
    obtain ⟨ao, cap, hv, _, _, _, _⟩ := h
    subst hv
    cases ao with
    | none => exact run_convert_bytes_nil w src e hs he _ _ dst hd
    | some a =>
      rw [run_convert_bytes_string w src dst e _ _ cap hs he hd]
      have := run_bytesToString (P := P) w a 0 cap [] (by simpa using run_loadCells_list (P := P) w a [] (fun j u hu => by simp at hu))
      exact this

/-- 'v[lo:hi]'. -/
theorem Rd.sliced {w : World} {ao : Option Addr} {n cap lo hi : Nat} {xs : List Value} (h : Rd w (.slice ao n cap) xs) (h1 : lo ≤ hi) (h2 : hi ≤ n) : Rd w (Go.sliced ao lo hi cap 1) ((xs.drop lo).take (hi - lo)) := by
  obtain ⟨ao', cap', hv, h3, h4, h5, h6⟩ := h
  simp only [Value.slice.injEq] at hv
  obtain ⟨rfl, rfl, rfl⟩ := hv
  have hl : ((xs.drop lo).take (hi - lo)).length = hi - lo := by simp; omega
  refine ⟨_, cap - lo, by rw [hl]; rfl, by omega, by omega, ?_, ?_⟩
  · intro hn
    split at hn
    · omega
    · rw [Option.map_eq_none_iff] at hn
      have := h5 hn
      omega
  · intro a ha j u hu
    have hj : j < hi - lo := by
      have := (List.getElem?_eq_some_iff.1 hu).1
      omega
    rw [List.getElem?_take, if_pos hj, List.getElem?_drop] at hu
    split at ha
    · omega
    · obtain ⟨a0, e0, rfl⟩ := Option.map_eq_some_iff.1 ha
      have h0 := h6 a0 e0 0 xs[0] (by simp)
      obtain ⟨b, o, rfl⟩ := add_spot h0
      have := h6 _ e0 (lo + j) u hu
      simp only [Addr.add_lit, Nat.mul_one] at this ⊢
      rw [Nat.add_assoc]
      exact this

theorem drewN_add (w : World) (p q : Nat) : (w.drewN p).drewN q = w.drewN (p + q) := by
  simp [World.drewN, Nat.add_assoc]

/-- 'v[lo:hi]' as an operation: what it yields, in whatever world. -/
theorem run_slice_rd {P : Program} {t e : TypeId} {z : Value} {bytes : Nat} (ht : P.underlying t = some (.slice e)) (he : P.elem t = e) (hinf : (P.info? e).map (fun i => (i.zero, i.size, i.bytes)) = some (some z, 1, bytes))
    (ao : Option Addr) (n cap lo hi : Nat) (l h : Int) (hl : l = lo) (hh : h = hi) (h1 : lo ≤ hi) (h2 : hi ≤ cap) (W : World) :
    (Instr.slice t (.slice ao n cap) (some (.int .i64 l)) (some (.int .i64 h)) none).run P W = .ok (Go.sliced ao lo hi cap 1) W := by
  obtain ⟨i, hi0, _, hsize, _⟩ := info_parts hinf
  subst hl hh
  rw [run_slice_lh (P := P) W t ao n cap (by rw [he]; exact ht) .i64 .i64 lo hi (by omega) (by omega) (by omega)]
  simp [he, sizeOf, typeInfo, hi0, hsize, Result.andThen]

end Go.Proofs.Ytlebbkbbmgmmjad

/-
  Numbers written in bytes: plain mathematics, nothing of a program.
-/
namespace Go.Proofs.Ytlebbkbbmgmmjad

/-- A number, written: with so many steps at most. -/
def enc : Nat → Nat → List UInt8
  | 0, n => [UInt8.ofNat n]
  | f + 1, n => if n < 128 then [UInt8.ofNat n] else UInt8.ofNat (n % 128 + 128) :: enc f (n / 128)

/-- A number below 2 ^ 63, written. -/
def encN (n : Nat) : List UInt8 := enc 9 n

theorem enc_small (f n : Nat) (h : n < 128) : enc f n = [UInt8.ofNat n] := by
  cases f <;> simp [enc, h]

theorem enc_big (f n : Nat) (h : 128 ≤ n) : enc (f + 1) n = UInt8.ofNat (n % 128 + 128) :: enc f (n / 128) := by
  rw [enc, if_neg (by omega)]

theorem enc_length (f : Nat) : ∀ n, (enc f n).length ≤ f + 1 := by
  induction f with
  | zero => intro n; simp [enc]
  | succ f ih =>
    intro n
    rw [enc]
    split
    · simp
    · simp; exact ih _

theorem enc_pos (f n : Nat) : 0 < (enc f n).length := by
  cases f with
  | zero => simp [enc]
  | succ f => rw [enc]; split <;> simp

theorem u8_ofNat_toNat (x : Nat) (h : x < 256) : (UInt8.ofNat x).toNat = x := by
  simp only [UInt8.toNat_ofNat']
  omega

theorem or128 (m : Nat) : bits .or .u8 (bits .and .i64 (m : Int) 127 % 256) 128 = ((UInt8.ofNat (m % 128 + 128)).toNat : Int) := by
  have e : (m : Int) % 128 % 256 = ((m % 128 : Nat) : Int) := by omega
  have h2 := u8_or_nat (m % 128) 128 (by omega) (by omega)
  rw [i64_and127, e, show (128 : Int) = ((128 : Nat) : Int) from rfl, h2, u8_ofNat_toNat _ (by omega), Nat.or_comm, nat_join 7 128 (m % 128) (by decide) (by omega), Nat.add_comm]

theorem enc_step_big {n f m : Nat} {pre : List UInt8} (hp : pre ++ enc f m = encN n) (hm : m < 128 ^ f) (hf : pre.length + f = 9) (h : 128 ≤ m) :
    ∃ f', (pre ++ [UInt8.ofNat (m % 128 + 128)]) ++ enc f' (m / 128) = encN n ∧ m / 128 < 128 ^ f' ∧ (pre ++ [UInt8.ofNat (m % 128 + 128)]).length + f' = 9 := by
  cases f with
  | zero => simp at hm; omega
  | succ f =>
    refine ⟨f, ?_, ?_, ?_⟩
    · rw [← hp, enc_big _ _ h]; simp
    · rw [Nat.pow_succ] at hm; omega
    · simp; omega

theorem enc_step_small {n f m : Nat} {pre : List UInt8} (hp : pre ++ enc f m = encN n) (h : m < 128) : pre ++ [UInt8.ofNat m] = encN n := by
  rw [← hp, enc_small _ _ h]

theorem bc_snoc (l : List UInt8) (x : Nat) (h : x < 256) (y : Int) (hy : y = x) : bc l ++ [.int .u8 y] = bc (l ++ [UInt8.ofNat x]) := by
  subst hy
  rw [bc_append]
  simp only [bc, List.map_cons, List.map_nil, u8_ofNat_toNat x h]

theorem bc_snoc' (l : List UInt8) (x : UInt8) : bc l ++ [.int .u8 (x.toNat : Int)] = bc (l ++ [x]) := by
  rw [bc_append]
  rfl

/-- What Nums comes to, from a place on: the bytes, the fault's code and place. -/
def numsGo : List Int → Nat → List UInt8 → List UInt8 × Int × Int
  | [], _, acc => (acc, 0, 0)
  | z :: zs, k, acc => if z < 0 ∨ 1000000000 < z then ([], 3, k) else numsGo zs (k + 1) (acc ++ encN z.toNat)

def numsR (zs : List Int) : List UInt8 × Int × Int := if 1000 < zs.length then ([], 2, 0) else numsGo zs 0 []
theorem drop_cons {α : Type} (l : List α) (k : Nat) (h : k < l.length) : l.drop k = l[k] :: l.drop (k + 1) := List.drop_eq_getElem_cons h
theorem numsGo_step (zs : List Int) (k : Nat) (acc : List UInt8) (h : k < zs.length) (h1 : 0 ≤ zs[k]) (h2 : zs[k] ≤ 1000000000) :
    numsGo (zs.drop (k + 1)) (k + 1) (acc ++ encN zs[k].toNat) = numsGo (zs.drop k) k acc := by
  rw [drop_cons zs k h, numsGo, if_neg (by omega)]

theorem numsGo_bad (zs : List Int) (k : Nat) (acc : List UInt8) (h : k < zs.length) (h1 : zs[k] < 0 ∨ 1000000000 < zs[k]) : numsGo (zs.drop k) k acc = ([], 3, (k : Int)) := by
  rw [drop_cons zs k h, numsGo, if_pos h1]

theorem numsGo_end (zs : List Int) (k : Nat) (acc : List UInt8) (h : zs.length ≤ k) : numsGo (zs.drop k) k acc = (acc, 0, 0) := by
  rw [List.drop_eq_nil_of_le h, numsGo]

theorem encN_length (n : Nat) : (encN n).length ≤ 10 := enc_length 9 n

/-- A written number at the beginning of bytes, as the reader goes: so many bytes at most, at the i-th, so much gathered: the number, and how many bytes it has. -/
def readNum : Nat → Nat → Nat → List UInt8 → Option (Nat × Nat)
  | 0, _, _, _ => none
  | _ + 1, _, _, [] => none
  | f + 1, i, acc, x :: r =>
    if 128 ≤ x.toNat then readNum f (i + 1) (acc + x.toNat % 128 * 128 ^ i) r
    else if (x.toNat = 0 ∧ 0 < i) ∨ 1000000000 < acc + x.toNat % 128 * 128 ^ i then none else some (acc + x.toNat % 128 * 128 ^ i, i + 1)

def numAt (bs : List UInt8) : Option (Nat × Nat) := readNum 5 0 0 bs
theorem readNum_more {f i acc : Nat} {x : UInt8} {r : List UInt8} (h : 128 ≤ x.toNat) : readNum (f + 1) i acc (x :: r) = readNum f (i + 1) (acc + x.toNat % 128 * 128 ^ i) r := by
  rw [readNum, if_pos h]

theorem readNum_none {f i acc : Nat} {x : UInt8} {r : List UInt8} (h : x.toNat < 128) (h2 : (x.toNat = 0 ∧ 0 < i) ∨ 1000000000 < acc + x.toNat % 128 * 128 ^ i) : readNum (f + 1) i acc (x :: r) = none := by
  rw [readNum, if_neg (by omega), if_pos h2]

theorem readNum_some {f i acc : Nat} {x : UInt8} {r : List UInt8} (h : x.toNat < 128) (h2 : ¬ ((x.toNat = 0 ∧ 0 < i) ∨ 1000000000 < acc + x.toNat % 128 * 128 ^ i)) : readNum (f + 1) i acc (x :: r) = some (acc + x.toNat % 128 * 128 ^ i, i + 1) := by
  rw [readNum, if_neg (by omega), if_neg h2]

theorem readNum_short {f i acc : Nat} : readNum f i acc [] = none := by
  cases f <;> rfl

theorem i64_or_nat (a b : Nat) (ha : a < 9223372036854775808) (hb : b < 9223372036854775808) : bits .or .i64 (a : Int) (b : Int) = ((a ||| b : Nat) : Int) := by
  have h : a ||| b < 2 ^ 63 := Nat.or_lt_two_pow ha hb
  show IntKind.i64.wrap ((BitVec.ofInt 64 (a : Int) ||| BitVec.ofInt 64 (b : Int)).toNat : Nat) = _
  rw [BitVec.toNat_or, ofInt_u64 a (by omega), ofInt_u64 b (by omega), IntKind.wrap_i64]
  generalize a ||| b = c at *
  have : c < 9223372036854775808 := h
  omega

theorem pow128 (j : Nat) : (2 : Nat) ^ (7 * j) = 128 ^ j := by rw [Nat.pow_mul]
theorem pow128_le (j : Nat) (h : j ≤ 4) : 128 ^ j ≤ 268435456 := by
  match j, h with
  | 0, _ => decide
  | 1, _ => decide
  | 2, _ => decide
  | 3, _ => decide
  | 4, _ => decide

theorem u8_and127 (x : Nat) (h : x < 256) : bits .and .u8 (x : Int) 127 = ((x % 128 : Nat) : Int) := by
  rw [show (127 : Int) = ((127 : Nat) : Int) from rfl, u8_and_nat x 127 h (by decide)]
  exact congrArg _ (Nat.and_two_pow_sub_one_eq_mod x 7)

theorem num_val (acc x j : Nat) (hx : x < 256) (hj : j ≤ 4) (ha : acc < 128 ^ j) :
    bits BinOp.or IntKind.i64 (acc : Int) (RowKit.wrap64 (RowKit.wrap64 (bits BinOp.and IntKind.u8 (x : Int) 127) * 2 ^ (7 * j))) = ((acc + x % 128 * 128 ^ j : Nat) : Int) := by
  have hp := pow128_le j hj
  have hpi : (2 : Int) ^ (7 * j) = ((128 ^ j : Nat) : Int) := by
    rw [← pow128]
    exact (Int.natCast_pow 2 (7 * j)).symm
  have hm : x % 128 * 128 ^ j ≤ 127 * 268435456 := Nat.mul_le_mul (by omega) hp
  rw [u8_and127 x hx, IntWalk.wrap64_in ((x % 128 : Nat) : Int) (by omega), hpi, ← Int.natCast_mul, IntWalk.wrap64_in _ (by omega), i64_or_nat _ _ (by omega) (by omega), Nat.or_comm,
    nat_join (7 * j) (x % 128 * 128 ^ j) acc (by rw [pow128]; exact Nat.mul_mod_left _ _) (by rw [pow128]; exact ha), Nat.add_comm]

theorem num_bound (acc x j : Nat) (ha : acc < 128 ^ j) : acc + x % 128 * 128 ^ j < 128 ^ (j + 1) := by
  have h1 : x % 128 * 128 ^ j ≤ 127 * 128 ^ j := Nat.mul_le_mul_right _ (by omega)
  rw [Nat.pow_succ]
  omega

/-- What ReadNums comes to, from what is left on: the numbers, the fault's code and place. -/
def rdNums : Nat → List UInt8 → List Int → List Int × Int × Int
  | 0, _, _ => ([], 0, 0)
  | f + 1, bs, acc =>
    if bs = [] then (if 1000 < acc.length then ([], 2, 0) else (acc, 0, 0))
    else match numAt bs with
      | none => ([], 5, (acc.length : Int))
      | some (n, k) => rdNums f (bs.drop k) (acc ++ [(n : Int)])

def readNumsR (bs : List UInt8) : List Int × Int × Int := if 60000 < bs.length then ([], 8, 0) else rdNums (bs.length + 1) bs []
theorem readNum_len : ∀ (f i acc : Nat) (bs : List UInt8) (n k : Nat), readNum f i acc bs = some (n, k) → i < k ∧ k ≤ i + bs.length ∧ n ≤ 1000000000
  | 0, _, _, _, _, _, h => by simp [readNum] at h
  | f + 1, _, _, [], _, _, h => by simp [readNum] at h
  | f + 1, i, acc, x :: r, n, k, h => by
    rw [readNum] at h
    split at h
    · have := readNum_len f (i + 1) _ r n k h
      simp; omega
    · split at h
      · cases h
      · simp only [Option.some.injEq, Prod.mk.injEq] at h
        simp; omega

theorem numAt_len {bs : List UInt8} {n k : Nat} (h : numAt bs = some (n, k)) : 0 < k ∧ k ≤ bs.length ∧ n ≤ 1000000000 := by
  have := readNum_len 5 0 0 bs n k h
  omega

theorem rdNums_end {f : Nat} {acc : List Int} (h : acc.length ≤ 1000) : rdNums (f + 1) [] acc = (acc, 0, 0) := by
  rw [rdNums, if_pos rfl, if_neg (by omega)]

theorem rdNums_many {f : Nat} {acc : List Int} (h : 1000 < acc.length) : rdNums (f + 1) [] acc = ([], 2, 0) := by
  rw [rdNums, if_pos rfl, if_pos h]

theorem rdNums_bad {f : Nat} {bs : List UInt8} {acc : List Int} (h : bs ≠ []) (hn : numAt bs = none) : rdNums (f + 1) bs acc = ([], 5, (acc.length : Int)) := by
  rw [rdNums, if_neg h, hn]

theorem rdNums_step {f : Nat} {bs : List UInt8} {acc : List Int} {n k : Nat} (h : bs ≠ []) (hn : numAt bs = some (n, k)) : rdNums (f + 1) bs acc = rdNums f (bs.drop k) (acc ++ [(n : Int)]) := by
  rw [rdNums, if_neg h, hn]

theorem ic_snoc (l : List Int) (x : Int) : ic l ++ [.int .i64 x] = ic (l ++ [x]) := by rw [ic_append]; rfl

/-- A written text at the beginning of bytes: the text, and how many bytes it takes. -/
def textAt (bs : List UInt8) : Option (List UInt8 × Nat) :=
  match numAt bs with
  | none => none
  | some (n, k) => if bs.length < k + n then none else some ((bs.drop k).take n, k + n)

theorem textAt_some {bs t : List UInt8} {m : Nat} (h : textAt bs = some (t, m)) : ∃ n k, 0 < k ∧ k + n ≤ bs.length ∧ numAt bs = some (n, k) ∧ m = k + n ∧ t = (bs.drop k).take n := by
  unfold textAt at h
  split at h
  · cases h
  · rename_i n k hn
    split at h
    · cases h
    · simp only [Option.some.injEq, Prod.mk.injEq] at h
      exact ⟨n, k, (numAt_len hn).1, by omega, hn, h.2.symm, h.1.symm⟩

end Go.Proofs.Ytlebbkbbmgmmjad

/-
  More on what slices hold. Nothing of a program stands here.
-/
namespace Go.Proofs.Ytlebbkbbmgmmjad
open Go.RowKit

theorem owns_below {w w' : World} {base : Nat} {e : TypeId} {size : Nat} {v : Value} {n : Nat} {xs : List Value} (h : w.ownsRow base e size v n xs) (hb : Below w.heap.size w w') : w'.ownsRow base e size v n xs := by
  refine ⟨h.1, ?_⟩
  rcases h.2 with hn | ⟨g, cap, cur, rfl, hg, hh, r⟩
  · exact .inl hn
  · exact .inr ⟨g, cap, cur, rfl, hg, by rw [hb.block g (Array.getElem?_eq_some_iff.1 hh).1]; exact hh, r⟩

/-- 'v[lo:]' as an operation. -/
theorem run_slice_from {P : Program} {t e : TypeId} {z : Value} {bytes : Nat} (ht : P.underlying t = some (.slice e)) (he : P.elem t = e) (hinf : (P.info? e).map (fun i => (i.zero, i.size, i.bytes)) = some (some z, 1, bytes))
    (ao : Option Addr) (n cap lo : Nat) (l : Int) (hl : l = lo) (h1 : lo ≤ n) (W : World) :
    (Instr.slice t (.slice ao n cap) (some (.int .i64 l)) none none).run P W = .ok (Go.sliced ao lo n cap 1) W := by
  obtain ⟨i, hi0, _, hsize, _⟩ := info_parts hinf
  subst hl
  rw [run_slice_l (P := P) W t ao n cap (by rw [he]; exact ht) .i64 lo (by omega) (by omega)]
  simp [he, sizeOf, typeInfo, hi0, hsize, Result.andThen]

/-- 'v[:hi]' as an operation. -/
theorem run_slice_upto {P : Program} {t e : TypeId} {z : Value} {bytes : Nat} (ht : P.underlying t = some (.slice e)) (he : P.elem t = e) (hinf : (P.info? e).map (fun i => (i.zero, i.size, i.bytes)) = some (some z, 1, bytes))
    (ao : Option Addr) (n cap hi : Nat) (h : Int) (hh : h = hi) (h1 : hi ≤ cap) (W : World) :
    (Instr.slice t (.slice ao n cap) none (some (.int .i64 h)) none).run P W = .ok (Go.sliced ao 0 hi cap 1) W := by
  obtain ⟨i, hi0, _, hsize, _⟩ := info_parts hinf
  subst hh
  rw [run_slice_h (P := P) W t ao n cap (by rw [he]; exact ht) .i64 hi (by omega) (by omega)]
  simp [he, sizeOf, typeInfo, hi0, hsize, Result.andThen]

theorem Rd.from {w : World} {ao : Option Addr} {n cap lo : Nat} {xs : List Value} (h : Rd w (.slice ao n cap) xs) (h1 : lo ≤ n) : Rd w (Go.sliced ao lo n cap 1) (xs.drop lo) := by
  have hn : n = xs.length := by
    obtain ⟨_, _, hv, _⟩ := h
    simp only [Value.slice.injEq] at hv
    exact hv.2.1
  have := h.sliced h1 (Nat.le_refl _)
  rwa [List.take_of_length_le (by rw [List.length_drop, hn]; exact Nat.le_refl _)] at this

theorem Rd.upto {w : World} {ao : Option Addr} {n cap hi : Nat} {xs : List Value} (h : Rd w (.slice ao n cap) xs) (h1 : hi ≤ n) : Rd w (Go.sliced ao 0 hi cap 1) (xs.take hi) := by
  have := h.sliced (Nat.zero_le _) h1
  simpa using this

theorem Rd.len {w : World} {ao : Option Addr} {n cap : Nat} {xs : List Value} (h : Rd w (.slice ao n cap) xs) : n = xs.length ∧ n ≤ cap ∧ cap ≤ maxLen := by
  obtain ⟨ao', cap', hv, h1, h2, _⟩ := h
  simp only [Value.slice.injEq] at hv
  obtain ⟨_, rfl, rfl⟩ := hv
  exact ⟨rfl, h1, h2⟩

theorem bc_drop (bs : List UInt8) (k : Nat) : (bc bs).drop k = bc (bs.drop k) := by simp [bc, List.map_drop]
theorem bc_take (bs : List UInt8) (k : Nat) : (bc bs).take k = bc (bs.take k) := by simp [bc, List.map_take]
theorem sliced_shape (ao : Option Addr) (lo hi cap : Nat) : ∃ a, Go.sliced ao lo hi cap 1 = .slice a (hi - lo) (cap - lo) := ⟨_, rfl⟩

end Go.Proofs.Ytlebbkbbmgmmjad

/-
  What an append leaves as it was: all blocks that are there but the row's own; and where the new row lies. Nothing of a program stands here.
-/
namespace Go.Proofs.Ytlebbkbbmgmmjad
open Go.RowKit

/-- From w to w' the row v grew to v': of the blocks that were there v's own may be another one, no other is; v' lies there, or in a new block. -/
def Ext (w w' : World) (v v' : Value) : Prop := w.grownBy w' v.ownBlock ∧ (v'.ownBlock = v.ownBlock ∨ ∀ k, v'.ownBlock = some k → w.heap.size ≤ k)

theorem Ext.refl (w : World) (v : Value) : Ext w w v v := ⟨World.grownBy.refl _ _, .inl rfl⟩

theorem Ext.size {w w' : World} {v v' : Value} (h : Ext w w' v v') : w.heap.size ≤ w'.heap.size := h.1.size

theorem Ext.trans {w w1 w2 : World} {v v1 v2 : Value} (h : Ext w w1 v v1) (k : Ext w1 w2 v1 v2) : Ext w w2 v v2 := by
  obtain ⟨h1, h2⟩ := h
  obtain ⟨k1, k2⟩ := k
  refine ⟨⟨k1.os.trans h1.os, k1.tape.trans h1.tape, k1.output.trans h1.output, Nat.le_trans h1.size k1.size, fun i hi hne => ?_⟩, ?_⟩
  · refine (k1.block i (Nat.lt_of_lt_of_le hi h1.size) ?_).trans (h1.block i hi hne)
    rcases h2 with h2 | h2
    · rw [h2]; exact hne
    · intro e
      have := h2 i e.symm
      omega
  · rcases k2 with k2 | k2
    · rw [k2]; exact h2
    · exact .inr fun k hk => Nat.le_trans h1.size (k2 k hk)

theorem Ext.drewN (w : World) (v : Value) (n : Nat) : Ext w (w.drewN n) v v := ⟨⟨rfl, rfl, rfl, Nat.le_refl _, fun _ _ _ => rfl⟩, .inl rfl⟩

theorem Ext.alloc (w : World) (v : Value) (o : Obj) : Ext w (w.alloc o) v v := ⟨⟨rfl, rfl, rfl, by simp, fun k hk _ => Below.heap_alloc _ _ _ hk⟩, .inl rfl⟩

/-- What is below all that is there, as it was. -/
theorem Ext.ofBelow {w w' : World} (v : Value) (h : Below w.heap.size w w') : Ext w w' v v := ⟨⟨h.os, h.tape, h.output, h.size, fun k hk _ => h.block k hk⟩, .inl rfl⟩

theorem Ext.below {w w' : World} {v v' : Value} {base : Nat} (h : Ext w w' v v') (hb : base ≤ w.heap.size) (hv : ∀ k, v.ownBlock = some k → base ≤ k) : Below base w w' :=
  (Below.refl _ _).grown h.1 hb hv

/-- A block that is not the row's own. -/
theorem Ext.block {w w' : World} {v v' : Value} (h : Ext w w' v v') {k : Nat} (hk : k < w.heap.size) (hne : v.ownBlock ≠ some k) : w'.heap[k]? = w.heap[k]? := h.1.block k hk (fun e => hne e.symm)

theorem Ext.cell {w w' : World} {v v' : Value} (h : Ext w w' v v') {p : Addr} (hk : p.block < w.heap.size) (hne : v.ownBlock ≠ some p.block) : w'.cell? p = w.cell? p := World.cell?_of_block (h.block hk hne)

/-- What the new row's own block is not. -/
theorem Ext.apart {w w' : World} {v v' : Value} (h : Ext w w' v v') {k : Nat} (hk : k < w.heap.size) (hne : v.ownBlock ≠ some k) : v'.ownBlock ≠ some k := by
  rcases h.2 with h2 | h2
  · rw [h2]; exact hne
  · intro e
    have := h2 k e
    omega

/-- The slice v does not lie in the block of the row r. -/
def Off (r v : Value) : Prop := ∀ a l c, v = .slice (some a) l c → 0 < l → r.ownBlock ≠ some a.block

theorem Off.none (v : Value) : Off (.slice none 0 0) v := fun a l c _ _ => by simp [Value.ownBlock]

theorem Rd.ext {w w' : World} {r r' v : Value} {xs : List Value} (h : Rd w v xs) (he : Ext w w' r r') (ho : Off r v) : Rd w' v xs := by
  obtain ⟨ao, cap, hv, h1, h2, h3, h4⟩ := h
  refine ⟨ao, cap, hv, h1, h2, h3, fun a ha j u hu => ?_⟩
  have hc := h4 a ha j u hu
  have e : (a.add j).block = a.block := by unfold Addr.add; split <;> rfl
  rw [he.cell (World.block_lt_of_cell? w _ hc) ?_]
  · exact hc
  · rw [e]
    refine ho a xs.length cap (by rw [hv, ha]) ?_
    have := (List.getElem?_eq_some_iff.1 hu).1
    omega

theorem Off.ext {w w' : World} {r r' v : Value} {xs : List Value} (h : Rd w v xs) (he : Ext w w' r r') (ho : Off r v) : Off r' v := by
  obtain ⟨ao, cap, hv, h1, h2, h3, h4⟩ := h
  intro a l c hvv hl
  have hv2 := hv
  rw [hvv] at hv
  simp only [Value.slice.injEq] at hv
  obtain ⟨rfl, rfl, rfl⟩ := hv
  have hc := h4 a rfl 0 xs[0] (by simp)
  have e : (a.add 0).block = a.block := by unfold Addr.add; split <;> rfl
  have hlt := World.block_lt_of_cell? w _ hc
  rw [e] at hlt
  exact he.apart hlt (ho a _ _ hvv hl)

/-- 'append(out, xs...)', out the call's own, xs whatever reads as cells. -/
theorem wpList_append_rdE {P : Program} {w : World} {ops : Array Oper} {rest : List Oper} {o : Oper} {a : Act} {Q : Exit → Act → World → Prop} {s x : Operand} {t : TypeId} {base : Nat} {e : TypeId} {z : Value} {bytes : Nat}
    {v : Value} {n : Nat} {xs : List Value} {vx : Value} {news : List Value}
    (hown : w.ownsRow base e 1 v n xs) (hrd : Rd w vx news)
    (ht : P.underlying t = some (.slice e)) (hinf : (P.info? e).map (fun i => (i.zero, i.size, i.bytes)) = some (some z, 1, bytes)) (hzs : z.cells.size = 1)
    (hgd : o.guard = none) (ho : o.op = .call { callee := .builtin .append, args := #[s, x], argTypes := #[t, t] })
    (hs : a.eval s = v) (hx : a.eval x = vx) (h1 : ∀ u ∈ news, u.oneCell' = true)
    (h63 : n + news.length ≤ 2000000000000) (hbytes : bytes ≤ 64) (hbase : base ≤ w.heap.size)
    (h : ∀ v' w', w'.ownsRow base e 1 v' (n + news.length) (xs ++ news) → Below base w w' → Ext w w' v v' → wpList P ops Q rest (a.put o.dst v') w') : wpList P ops Q (o :: rest) a w := by
  obtain ⟨i, hi, hz, hsize, hby⟩ := info_parts hinf
  have hlt := hown.lt
  have hbytes' : (n + news.length) * bytes ≤ 2000000000000 * 64 := Nat.mul_le_mul h63 hbytes
  obtain ⟨ao, cap, hvx, h2, h3, h4, h5⟩ := hrd
  cases ao with
  | none =>
    have hc := h4 rfl
    have hnews : news = [] := List.eq_nil_of_length_eq_zero (by omega)
    subst hnews
    subst hc
    refine wpList_append_own_none hgd s x t ho base e i 1 ht hi v n xs hs hown (hx.trans hvx) ?_
    exact h v w (by simpa using hown) (Below.refl _ _) (Ext.refl _ _)
  | some ad =>
    refine wpList_append_own_at w hgd s x t ho base e i z 1 bytes ht hi hz hsize hby hzs (by decide) v n xs hs hown ad news.length cap news (hx.trans hvx) (by simp) (h5 ad rfl) h1 (by simp [maxLen]; omega) (by omega) hbase ?_
    intro v' w' ho' hg' _ hat
    exact h v' w' ho' ((Below.refl _ _).grown hg' hbase (fun k hk => (hlt k hk).1)) ⟨hg', hat.imp id fun e k hk => by rw [e] at hk; simp at hk; omega⟩

/-- 'append(out, u)', out the call's own: u was laid in a block of its own just ahead. -/
theorem wpList_append_oneE {P : Program} {w : World} {u : Value} {ops : Array Oper} {rest : List Oper} {o : Oper} {a : Act} {Q : Exit → Act → World → Prop} {s x : Operand} {t : TypeId} {base : Nat} {e : TypeId} {z : Value} {bytes : Nat}
    {v : Value} {n : Nat} {xs : List Value}
    (hown : w.ownsRow base e 1 v n xs)
    (ht : P.underlying t = some (.slice e)) (hinf : (P.info? e).map (fun i => (i.zero, i.size, i.bytes)) = some (some z, 1, bytes)) (hzs : z.cells.size = 1)
    (hgd : o.guard = none) (ho : o.op = .call { callee := .builtin .append, args := #[s, x], argTypes := #[t, t] })
    (hs : a.eval s = v) (hx : a.eval x = .slice (some ⟨w.heap.size, 0, none⟩) 1 1) (h1 : u.oneCell' = true)
    (h63 : n ≤ 1000000000000) (hbytes : bytes ≤ 64) (hbase : base ≤ w.heap.size)
    (h : ∀ v' w', w'.ownsRow base e 1 v' (n + 1) (xs ++ [u]) → Below base w w' → Ext w w' v v' → wpList P ops Q rest (a.put o.dst v') w') : wpList P ops Q (o :: rest) a (w.alloc (.cells #[u] e)) := by
  refine wpList_append_rdE (hown.alloc _) (Rd.new _ u _) ht hinf hzs hgd ho hs hx (by simpa using h1) (by simp; omega) hbytes (by simp; omega) ?_
  intro v' w' h2 h3 h4
  exact h v' w' h2 (((Below.refl _ _).alloc hbase _).trans h3) ((Ext.alloc _ _ _).trans h4)

/-- 'append(out, t...)', t a text: where the new row lies. -/
theorem append_str_at {P : Program} {w : World} {base : Nat} {t u ty e : TypeId} {i : TypeInfo} (ht : P.underlying t = some (.slice e)) (hu : P.underlying u = some .string) (hi : P.info? e = some i) (hz : i.zero = some (.int .u8 0))
    (hsize : i.size = 1) (hby : i.bytes = 1) {v : Value} {n : Nat} {xs : List Value} (hown : w.ownsRow base e 1 v n xs) (s : ByteArray)
    (h63 : n + s.size ≤ maxLen) (hbytes : n + s.size ≤ 140737488355328) {v' : Value} {w' : World} (hr : (Builtin.append_ #[t, u] ty #[v, .string s]).run P w = .ok v' w') :
    v'.ownBlock = v.ownBlock ∨ v'.ownBlock = some w.heap.size := by
  have hsmall : n + s.size ≤ 9223372036854775807 := by simp only [maxLen] at h63; omega
  have hxl : xs.length = n := by simpa using hown.1
  rcases hown.2 with ⟨rfl, rfl⟩ | ⟨g, cap, cur, rfl, hbg, hg, hnc, hcm, hcs, htake⟩
  · by_cases hm : s.size = 0
    · have hf := Lib.run_firstCells_string (P := P) w 1 s
      rw [hm] at hf
      have hn : Lib.strCells s = [] := List.eq_nil_of_length_eq_zero (by rw [Lib.strCells_length]; exact hm)
      simp [Builtin.append_, run_underlying ht, run_underlying hu, sizeOf, typeInfo, hi, hsize, Builtin.lenOf, hm, hf, hn] at hr
      left
      rw [← hr.1]
    · have hr2 := run_append_nil_string (P := P) w t u ty e i (.int .u8 0) ht hu hi hz s (by omega) (by omega) (by rw [hby]; omega)
      rw [hr2] at hr
      injection hr with h1 h2
      right
      rw [← h1]
      rfl
  · by_cases hroom : n + s.size ≤ cap
    · have hcs' : cur.size = cap := by simpa using hcs
      have hr2 := Lib.run_append_room_string (P := P) w t u ty e i ht hu hi hsize g n cap cur hg s hroom (by omega)
      rw [hr2] at hr
      injection hr with h1 h2
      left
      rw [← h1]
      rfl
    · have holds : ∀ j u, xs[j]? = some u → w.cell? ((⟨g, 0, none⟩ : Addr).add j) = some u := hown.cells (g := g) rfl
      have hr2 := Lib.run_append_grow_string (P := P) w t u ty e i (.int .u8 0) ht hu hi hz ⟨g, 0, none⟩ n cap xs (by rw [hsize]; simpa using hxl) holds s (by omega) (by omega) (by rw [hby]; exact growslice_fits (by omega) (by omega))
      rw [hr2] at hr
      injection hr with h1 h2
      right
      rw [← h1]
      rfl

/-- 'append(out, t...)', out the call's own, t a text. -/
theorem wpList_append_strE {P : Program} {w : World} {ops : Array Oper} {rest : List Oper} {o : Oper} {a : Act} {Q : Exit → Act → World → Prop} {sl x : Operand} {t u : TypeId} {base : Nat} {e : TypeId}
    {v : Value} {xs s : List UInt8}
    (hown : w.ownsRow base e 1 v xs.length (bc xs))
    (ht : P.underlying t = some (.slice e)) (hu : P.underlying u = some .string) (hinf : (P.info? e).map (fun i => (i.zero, i.size, i.bytes)) = some (some (.int .u8 0), 1, 1))
    (hgd : o.guard = none) (ho : o.op = .call { callee := .builtin .append, args := #[sl, x], argTypes := #[t, u] })
    (hs : a.eval sl = v) (hx : a.eval x = .string ⟨s.toArray⟩) (h63 : xs.length + s.length ≤ 1000000000000) (hbase : base ≤ w.heap.size)
    (h : ∀ v' w', w'.ownsRow base e 1 v' (xs ++ s).length (bc (xs ++ s)) → Below base w w' → Ext w w' v v' → wpList P ops Q rest (a.put o.dst v') w') : wpList P ops Q (o :: rest) a w := by
  obtain ⟨i, hi, hz, hsize, hby⟩ := info_parts hinf
  have hlt := hown.lt
  have hsz : (⟨s.toArray⟩ : ByteArray).size = s.length := by simp [ByteArray.size]
  refine wpList_plain hgd fun K hK => ?_
  obtain ⟨v', w', hr, h2, h3, _⟩ := Lib.run_append_own_string (P := P) w base t u o.type e i ht hu hi hz hsize hby v _ _ hown ⟨s.toArray⟩ (by rw [hsz]; simp [maxLen]; omega) (by rw [hsz]; omega) hbase
  have hat := append_str_at (P := P) ht hu hi hz hsize hby hown ⟨s.toArray⟩ (by rw [hsz]; simp [maxLen]; omega) (by rw [hsz]; omega) hr
  unfold Oper.wp execOp
  simp only [ho, resolve, invoke, builtin, Sem.run_bind, Sem.run_pure, Result.andThen_ok, List.map_toArray, List.map_cons, List.map_nil, hs, hx, hr]
  refine hK _ _ (h v' w' ?_ ((Below.refl _ _).grown h3 hbase (fun k hk => (hlt k hk).1)) ⟨h3, hat.imp id fun e k hk => by rw [e] at hk; simp at hk; omega⟩)
  rw [hsz] at h2
  rw [List.length_append, bc_append]
  exact h2

/-- A row of bytes is no row of slices: what is written to one leaves the other as it was. -/
theorem owns_other {w w' : World} {base base' : Nat} {u v : Value} {n m : Nat} {xs ys : List Value} {e e' : TypeId} (hee : e ≠ e') (hu : w.ownsRow base e 1 u n xs) (hv : w.ownsRow base' e' 1 v m ys) (hg : w.grownBy w' v.ownBlock) : w'.ownsRow base e 1 u n xs := by
  refine hu.kept hg ?_
  rcases hu.2 with ⟨rfl, _⟩ | ⟨g, cap, cur, rfl, _, hgu, _⟩
  · exact .inl rfl
  · right
    rcases hv.2 with ⟨rfl, _⟩ | ⟨g', cap', cur', rfl, _, hgv, _⟩
    · simp [Value.ownBlock]
    · simp only [Value.ownBlock, ne_eq, Option.some.injEq]
      intro e0
      subst e0
      rw [hgu] at hgv
      simp only [Option.some.injEq, Obj.cells.injEq] at hgv
      exact hee hgv.2.1

theorem owns_one {w : World} {base : Nat} {e : TypeId} {u : Value} {n : Nat} {xs : List Value} (h : w.ownsRow base e 1 u n xs) : u.oneCell' = true := by
  rcases h.2 with ⟨rfl, _⟩ | ⟨g, cap, cur, rfl, _⟩ <;> rfl

end Go.Proofs.Ytlebbkbbmgmmjad

/-
  The walks over package coding: numbers and texts behind bytes, and the reader.
-/
namespace Go.Proofs.Ytlebbkbbmgmmjad
open Go.RowKit

theorem Try.info85 : (Try.prog.info? 5).map (fun i => (i.zero, i.size, i.bytes)) = some (some (.int .u8 0), 1, 1) := by kernel_rfl

set_option maxRecDepth 100000 in
set_option maxHeartbeats 400000 in
theorem AppendNum_any (v : Value) (xs : List UInt8) (n base : Nat) (w : World) (hown : w.ownsRow base 5 1 v xs.length (bc xs)) (hb : base ≤ w.heap.size)
    (hn : (n : Int) ≤ 9223372036854775807) (hx : xs.length ≤ 100000000000) :
    Calls Try.prog 66 #[v, .int .i64 n] w fun e w' => ∃ v', e = .returned v' ∧ w'.ownsRow base 5 1 v' (xs ++ encN n).length (bc (xs ++ encN n)) ∧ Below base w w' ∧ Ext w w' v v' := by
  obtain ⟨i0, hi, hz0, hz1, hz2⟩ := info_parts Try.info85
  go_enter Try.func66, Try.ntmps66
  go_wp2_with fail
  go_loopw [0, 1] (fun vr i wr => ∃ (m f : Nat) (pre : List UInt8), i = .int .i64 m ∧ pre ++ enc f m = encN n ∧ m < 128 ^ f ∧ (m : Int) ≤ 9223372036854775807 ∧ pre.length + f = 9 ∧ wr.ownsRow base 5 1 vr (xs ++ pre).length (bc (xs ++ pre)) ∧ Below base w wr ∧ Ext w wr v vr)
    (fun _ i _ => (intOf i).toNat)
  case atStart => exact ⟨n, 9, [], rfl, rfl, by omega, hn, rfl, by simpa using hown, Below.refl _ _, Ext.refl _ _⟩
  case round =>
    obtain ⟨m, f, pre, rfl, hpre, hm, hm2, hf, hown', hbel, hext⟩ := hrel
    have HP : Hid (pre ++ enc f m = encN n) := hpre
    have HM : Hid (m < 128 ^ f) := hm
    clear hpre hm
    have hbw : base ≤ wr.heap.size := by have := hbel.size; omega
    have hxl : (xs ++ pre).length ≤ 1000000000000 := by simp; omega
    by_cases hlt : 128 ≤ m
    · go_wp2_with (at_builtin; go_must (refine wpList_append_oneE hown' Try.underlying42 Try.info85 rfl rfl rfl rfl rfl rfl hxl (by decide) hbw ?_); intro v1 w1 ho1 hb1 hg1)
      rw [or128, bc_snoc'] at ho1
      obtain ⟨f', e1, e2, e3⟩ := enc_step_big HP.out HM.out hf hlt
      go_roundw
      case rel => exact ⟨m / 128, f', pre ++ [UInt8.ofNat (m % 128 + 128)], by go_num, e1, e2, by omega, e3, by simpa [Nat.add_assoc] using ho1, hbel.trans hb1, hext.trans hg1⟩
      case measure => simp [intOf]; omega
    · go_wp2_with (at_builtin; go_must (refine wpList_append_oneE hown' Try.underlying42 Try.info85 rfl rfl rfl rfl rfl rfl hxl (by decide) hbw ?_); intro v1 w1 ho1 hb1 hg1)
      rw [bc_snoc _ m (by omega) _ rfl] at ho1
      have e1 := enc_step_small HP.out (by omega : m < 128)
      go_ret
      exact ⟨v1, rfl, by rw [← e1]; simpa [Nat.add_assoc] using ho1, hbel.trans hb1, hext.trans hg1⟩

/-- The reader's block: the bytes, and the place; of whichever type it is. -/
def RdrT (w : World) (t : TypeId) (R : Nat) (v : Value) (k : Int) : Prop := w.heap[R]? = some (.cells #[v, .int .i64 k] t (0, 0))

theorem RdrT.facts {w : World} {t : TypeId} {R : Nat} {v : Value} {k : Int} (h : RdrT w t R v k) :
    w.cell? ⟨R, 0, none⟩ = some v ∧ w.cell? ⟨R, 1, none⟩ = some (.int .i64 k) ∧ w.frozen? ⟨R, 0, none⟩ = false ∧ w.frozen? ⟨R, 1, none⟩ = false ∧ R < w.heap.size := by
  refine ⟨?_, ?_, frozen_of_row _ _ _ _ _ h, frozen_of_row _ _ _ _ _ h, ?_⟩
  · rw [cell_of_row _ _ _ _ _ _ h]; rfl
  · rw [cell_of_row _ _ _ _ _ _ h]; rfl
  · exact (Array.getElem?_eq_some_iff.1 h).1

theorem RdrT.set {w : World} {t : TypeId} {R : Nat} {v : Value} {k : Int} (h : RdrT w t R v k) (k' : Int) : RdrT (w.setCell ⟨R, 1, none⟩ (.int .i64 k')) t R v k' := by
  unfold RdrT
  rw [heap_setCell_same w R 1 _ _ _ h]
  rfl

theorem grownT_set (w : World) (R j : Nat) (u : Value) : w.grownBy (w.setCell ⟨R, j, none⟩ u) (some R) :=
  ⟨rfl, rfl, rfl, by simp [World.setCell], fun k _ hk => heap_setCell_other w _ k u (fun e => hk (by simp [e]))⟩

theorem grownT_drewN (w : World) (n : Nat) (row : Option Nat) : w.grownBy (w.drewN n) row := ⟨rfl, rfl, rfl, Nat.le_refl _, fun _ _ _ => rfl⟩
theorem grownT_trans {a b c : World} {row : Option Nat} (h : a.grownBy b row) (k : b.grownBy c row) : a.grownBy c row :=
  ⟨k.os.trans h.os, k.tape.trans h.tape, k.output.trans h.output, Nat.le_trans h.size k.size, fun i hi hn => (k.block i (Nat.lt_of_lt_of_le hi h.size) hn).trans (h.block i hi hn)⟩

set_option maxRecDepth 100000 in
set_option maxHeartbeats 400000 in
theorem Done_any (t : TypeId) (R : Nat) (ao : Option Addr) (n c k : Nat) (w : World) (hr : RdrT w t R (.slice ao n c) k) :
    Calls Try.prog 101 #[.pointer (some ⟨R, 0, none⟩)] w fun e w' => e = .returned (.bool ((k : Int) == n)) ∧ ∃ q, w' = w.drewN q := by
  obtain ⟨c0, c1, _, _, _⟩ := hr.facts
  go_enter Try.func101, Try.ntmps101
  go_wp2_with fail
  go_quiet (fail)
  go_wp2_with fail
  go_ret
  exact ⟨rfl, _, rfl⟩

set_option maxRecDepth 100000 in
set_option maxHeartbeats 400000 in
theorem Rest_any (t : TypeId) (R : Nat) (v : Value) (bs : List UInt8) (k : Nat) (w : World) (hrd : Rd w v (bc bs)) (hr : RdrT w t R v k) (hk : k ≤ bs.length) :
    Calls Try.prog 70 #[.pointer (some ⟨R, 0, none⟩)] w fun e w' => (∃ vo vc, e = .returned (.slice vo (bs.length - k) vc) ∧ Rd w (.slice vo (bs.length - k) vc) (bc (bs.drop k)) ∧ ∀ a, vo = some a → ∃ a' l c, v = .slice (some a') l c ∧ a.block = a'.block) ∧ ∃ q, w' = w.drewN q := by
  obtain ⟨ao, cap, hvv, hc1, hc2⟩ := hrd.shape
  rw [bc_length] at hc1 hvv
  subst hvv
  unfold maxLen at hc2
  obtain ⟨c0, c1, _, _, _⟩ := hr.facts
  have hs := run_slice_from (P := Try.prog) Try.underlying42 (by kernel_rfl) Try.info85 ao bs.length cap k (k : Int) rfl hk
  have hV := hrd.from (lo := k) hk
  rw [bc_drop] at hV
  have hblk : ∀ a l c, Go.sliced ao k bs.length cap 1 = .slice (some a) l c → ∃ a' l' c', Value.slice ao bs.length cap = .slice (some a') l' c' ∧ a.block = a'.block := fun a l c h => by
    unfold Go.sliced at h
    simp only [Value.slice.injEq] at h
    obtain ⟨h1, _, _⟩ := h
    split at h1
    · exact ⟨a, _, _, by rw [h1], rfl⟩
    · obtain ⟨a0, h2, h3⟩ := Option.map_eq_some_iff.1 h1
      refine ⟨a0, _, _, by rw [h2], ?_⟩
      rw [← h3]
      unfold Addr.add
      split <;> rfl
  generalize hge : Go.sliced ao k bs.length cap 1 = V at hs hV hblk
  clear hge
  obtain ⟨vo, vc, hvv, _, _⟩ := hV.shape
  rw [bc_length, List.length_drop] at hvv
  subst hvv
  have HB := hide hblk
  clear hblk
  go_enter Try.func70, Try.ntmps70
  go_wp2_with fail
  go_quiet (fail)
  go_wp2_with fail
  go_ret
  exact ⟨⟨_, _, rfl, hV, fun a ha => HB.out a _ _ (by rw [ha])⟩, _, rfl⟩

set_option maxRecDepth 100000 in
set_option maxHeartbeats 400000 in
theorem Skip_ok (t : TypeId) (R : Nat) (ao : Option Addr) (n c k j : Nat) (w : World) (hr : RdrT w t R (.slice ao n c) k) (hj : k + j ≤ n) (hn : n ≤ 9223372036854775807) :
    Calls Try.prog 100 #[.pointer (some ⟨R, 0, none⟩), .int .i64 j] w fun e w' => e = .returned (.bool true) ∧ RdrT w' t R (.slice ao n c) (k + j : Nat) ∧ w.grownBy w' (some R) := by
  obtain ⟨c0, c1, c2, c3, c4⟩ := hr.facts
  have hd : decide ((j : Int) < 0) = false := by simp
  have hd2 : decide ((n : Int) - (k : Int) < (j : Int)) = false := by simp; omega
  go_enter Try.func100, Try.ntmps100
  go_wp2_with fail
  go_quiet (fail)
  go_wp2_with fail
  go_ret
  exact ⟨rfl, by have := RdrT.set (w := w.drewN nq) hr ((k : Int) + j); simpa using this, grownT_trans (grownT_drewN _ _ _) (grownT_set _ _ _ _)⟩

set_option maxRecDepth 100000 in
set_option maxHeartbeats 400000 in
theorem Skip_no (t : TypeId) (R : Nat) (ao : Option Addr) (n c k j : Nat) (w : World) (hr : RdrT w t R (.slice ao n c) k) (hk : k ≤ n) (hj : n < k + j) (hn : n ≤ 9223372036854775807) :
    Calls Try.prog 100 #[.pointer (some ⟨R, 0, none⟩), .int .i64 j] w fun e w' => e = .returned (.bool false) ∧ ∃ q, w' = w.drewN q := by
  obtain ⟨c0, c1, c2, c3, c4⟩ := hr.facts
  have hd : decide ((j : Int) < 0) = false := by simp
  have hd2 : decide ((n : Int) - (k : Int) < (j : Int)) = true := by simp; omega
  go_enter Try.func100, Try.ntmps100
  go_wp2_with fail
  go_quiet (fail)
  go_wp2_with fail
  go_ret
  exact ⟨rfl, _, rfl⟩

end Go.Proofs.Ytlebbkbbmgmmjad

/-
  The walks over package wire's writers.
-/
namespace Go.Proofs.Ytlebbkbbmgmmjad
open Go.RowKit

theorem Try.info5 : (Try.prog.info? 5).map (fun i => (i.zero, i.size, i.bytes)) = some (some (.int .u8 0), 1, 1) := by kernel_rfl
theorem Try.info3 : (Try.prog.info? 3).map (fun i => (i.zero, i.size, i.bytes)) = some (some (.int .i64 0), 1, 8) := by kernel_rfl

/-- A fault, as a value. -/
def flt (c a : Int) : Value := .agg #[.int .i64 c, .int .i64 a]


end Go.Proofs.Ytlebbkbbmgmmjad

/-
  The walks over package coding's reader: numbers.
-/
namespace Go.Proofs.Ytlebbkbbmgmmjad
open Go.RowKit

/-- What Num answers. -/
def numVC : Option (Nat × Nat) → Value
  | none => .tuple #[.int .i64 0, .bool false]
  | some (n, _) => .tuple #[.int .i64 n, .bool true]

def numKC : Option (Nat × Nat) → Nat
  | none => 0
  | some (_, k) => k

set_option maxRecDepth 100000 in
set_option maxHeartbeats 1000000 in
theorem Num_any (t : TypeId) (R : Nat) (v : Value) (bs : List UInt8) (k : Nat) (w : World) (hrd : Rd w v (bc bs)) (hr : RdrT w t R v k) (hk : k ≤ bs.length) :
    Calls Try.prog 68 #[.pointer (some ⟨R, 0, none⟩)] w fun e w' => e = .returned (numVC (numAt (bs.drop k))) ∧ RdrT w' t R v (k + numKC (numAt (bs.drop k)) : Nat) ∧ w.grownBy w' (some R) := by
  obtain ⟨ao, cap, hvv, hc1, hc2⟩ := hrd.shape
  rw [bc_length] at hc1 hvv
  have hr0 := hr
  rw [hvv] at hr0
  unfold maxLen at hc2
  have hlen : bs.length - k = (bs.drop k).length := by simp
  have hM : (5 : Int) ≤ ((bs.drop k).length : Int) ∨ ((bs.drop k).length : Int) < 5 := by omega
  have hlb : k + (bs.drop k).length = bs.length := by simp; omega
  have HREST := hide (Rest_any t R v bs k w hrd hr hk)
  rw [hlen] at HREST
  generalize bs.drop k = ts at hM hlb HREST ⊢
  have HR0 := hide hr0
  have HR := hide hr
  have HV := hide hvv
  clear hr0 hr hvv hrd hlen hk
  rcases hM with hM | hM
  all_goals
    go_enter Try.func68, Try.ntmps68
    go_wp2_with fail
    refine HREST.out.mono ?_
    rintro e w1 ⟨⟨vo, vc, rfl, hV, _⟩, q, rfl⟩
    obtain ⟨ao2, cap2, hvv2, hd1, hd2, hcell⟩ := hV.open
    rw [bc_length] at hvv2 hd1 hcell
    simp only [Value.slice.injEq, true_and] at hvv2
    obtain ⟨rfl, rfl⟩ := hvv2
    unfold maxLen at hd2
    clear hV
    go_wp2_with fail
    go_loopw [5, 12] (fun n i wr => ∃ (j acc : Nat), j ≤ 5 ∧ j ≤ ts.length ∧ i = .int .i64 j ∧ n = .int .i64 acc ∧ acc < 128 ^ j ∧ readNum (5 - j) j acc (ts.drop j) = numAt ts ∧ ∃ q, wr = w.drewN q)
      (fun _ i _ => 5 - (intOf i).toNat)
    case atStart => exact ⟨0, 0, by omega, by omega, rfl, rfl, by omega, rfl, _, rfl⟩
    case round =>
      obtain ⟨j, acc, hj, hkj, rfl, rfl, hacc, hgo, q', rfl⟩ := hrel
      have HG := hide hgo
      have HA := hide hacc
      clear hgo hacc
      by_cases hlt : j < 5 ∧ j < ts.length
      · obtain ⟨hl1, hl2⟩ := hlt
        obtain ⟨b, off, rfl, hb, hcl⟩ := hcell j hl2
        obtain ⟨x, hx⟩ : ∃ x : UInt8, ts[j] = x := ⟨_, rfl⟩
        have hck : w.cell? ⟨b, off + j, none⟩ = some (.int .u8 (x.toNat : Int)) := hcl j _ (by simp [bc, hl2, hx])
        have hxl : x.toNat < 256 := x.toNat_lt
        have HX := hide hx
        clear hx hcl hcell
        go_upto_region 7 with fail
        have hval := num_val acc x.toNat j hxl (by omega) HA.out
        have hNb := num_bound acc x.toNat j HA.out
        have hN35 : 128 ^ (j + 1) ≤ 34359738368 := by have := pow128_le j (by omega); rw [Nat.pow_succ]; omega
        have hgo := HG.out
        rw [drop_cons ts j hl2, HX.out, show 5 - j = (4 - j) + 1 by omega] at hgo
        have hmore := fun h => @readNum_more (4 - j) j acc x (ts.drop (j + 1)) h
        have hnone := fun h => @readNum_none (4 - j) j acc x (ts.drop (j + 1)) h
        have hsome := fun h => @readNum_some (4 - j) j acc x (ts.drop (j + 1)) h
        rw [hgo] at hmore hnone hsome
        generalize acc + x.toNat % 128 * 128 ^ j = N at hval hNb hmore hnone hsome
        have hN : (N : Int) < 34359738368 := by omega
        have HNB := hide hNb
        clear hNb hgo hN35
        by_cases h128 : (128 : Int) ≤ (x.toNat : Int)
        · have HM := hide (hmore (by omega))
          clear hmore hnone hsome
          go_wp2_with fail
          go_roundw
          case rel => exact ⟨j + 1, N, by omega, by omega, by go_num, by rw [hval], HNB.out, by rw [HM.out, show 5 - (j + 1) = 4 - j by omega], _, rfl⟩
          case measure => simp [intOf]; omega
        · have hcases : ((((x.toNat : Int) == 0) = true ∧ (0 : Int) < j) ∨ (((x.toNat : Int) == 0) = true ∧ decide (0 < j) = false) ∨ (((x.toNat : Int) == 0) = false)) := by
            by_cases h0 : (x.toNat : Int) = 0
            · by_cases h1 : (0 : Int) < j
              · exact .inl ⟨beq_iff_eq.2 h0, h1⟩
              · exact .inr (.inl ⟨beq_iff_eq.2 h0, decide_eq_false (by omega)⟩)
            · exact .inr (.inr (beq_eq_false_iff_ne.2 h0))
          have hsplit : (1000000000 : Int) < N ∨ (N : Int) ≤ 1000000000 := by omega
          clear hN
          rcases hcases with ⟨hx0, hj0⟩ | ⟨hx0, hj0⟩ | hx0
          · have HM := hide (hnone (by omega) (.inl ⟨by have := beq_iff_eq.1 hx0; omega, by omega⟩))
            clear hmore hnone hsome hsplit
            go_wp2_with fail
            go_ret2
            exact ⟨by rw [HM.out]; rfl, by rw [HM.out]; exact HR.out, grownT_drewN _ _ _⟩
          all_goals
            rcases hsplit with hN10 | hN10
          · have HM := hide (hnone (by omega) (.inr (by omega)))
            clear hmore hnone hsome
            go_wp2_with fail
            go_ret2
            exact ⟨by rw [HM.out]; rfl, by rw [HM.out]; exact HR.out, grownT_drewN _ _ _⟩
          · have HM := hide (hsome (by omega) (by have := of_decide_eq_false hj0; omega))
            clear hmore hnone hsome
            go_wp2_with fail
            rw [show ((j : Int) + 1) = ((j + 1 : Nat) : Int) by omega]
            refine (Skip_ok t R ao bs.length cap k (j + 1) (w.drewN q') HR0.out (by omega) (by omega)).mono ?_
            rintro e w2 ⟨rfl, hr2, hg2⟩
            go_wp2_with fail
            go_ret2
            exact ⟨by rw [HM.out]; rfl, by rw [HM.out, HV.out]; exact hr2, grownT_trans (grownT_drewN _ _ _) hg2⟩
          · have HM := hide (hnone (by omega) (.inr (by omega)))
            clear hmore hnone hsome
            go_wp2_with fail
            go_ret2
            exact ⟨by rw [HM.out]; rfl, by rw [HM.out]; exact HR.out, grownT_drewN _ _ _⟩
          · have HM := hide (hsome (by omega) (by have := beq_eq_false_iff_ne.1 hx0; omega))
            clear hmore hnone hsome
            go_wp2_with fail
            rw [show ((j : Int) + 1) = ((j + 1 : Nat) : Int) by omega]
            refine (Skip_ok t R ao bs.length cap k (j + 1) (w.drewN q') HR0.out (by omega) (by omega)).mono ?_
            rintro e w2 ⟨rfl, hr2, hg2⟩
            go_wp2_with fail
            go_ret2
            exact ⟨by rw [HM.out]; rfl, by rw [HM.out, HV.out]; exact hr2, grownT_trans (grownT_drewN _ _ _) hg2⟩
      · go_wp2_with fail
        go_ret2
        have hnil : readNum (5 - j) j acc (ts.drop j) = none := by
          by_cases h5 : j = 5
          · subst h5; rfl
          · rw [List.drop_eq_nil_of_le (by omega)]; exact readNum_short
        exact ⟨by rw [← HG.out, hnil]; rfl, by rw [← HG.out, hnil]; exact HR.out, grownT_drewN _ _ _⟩

end Go.Proofs.Ytlebbkbbmgmmjad
