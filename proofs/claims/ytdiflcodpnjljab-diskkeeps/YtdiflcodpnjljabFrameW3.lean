/-
  The walk over the reader's frames.
-/
import Derived.Test.YtdiflcodpnjljabFrameW2
namespace Go.Proofs.Ytdiflcodpnjljab
open Go.RowKit

/-- 'copy(dst, src)', dst just made, src as long as it. -/
theorem wpList_copy_full {P : Program} {w : World} {ops : Array Oper} {rest : List Oper} {o : Oper} {a : Act} {Q : Exit → Act → World → Prop} {d s : Operand} {dT sT e : TypeId} {base g n : Nat} {z : Value} {bytes : Nat} {vx : Value} {xs news : List Value}
    (hown : w.ownsRow base e 1 (.slice (some ⟨g, 0, none⟩) n n) n xs) (hrd : Rd w vx news) (hn : news.length = n)
    (ht : P.underlying dT = some (.slice e)) (hinf : (P.info? e).map (fun i => (i.zero, i.size, i.bytes)) = some (some z, 1, bytes))
    (hgd : o.guard = none) (ho : o.op = .call { callee := .builtin .copy, args := #[d, s], argTypes := #[dT, sT] })
    (hd : a.eval d = .slice (some ⟨g, 0, none⟩) n n) (hs : a.eval s = vx) (h1 : ∀ u ∈ news, u.oneCell' = true)
    (h : ∀ w', w'.ownsRow base e 1 (.slice (some ⟨g, 0, none⟩) n n) n news → w.grownBy w' (some g) → wpList P ops Q rest (a.put o.dst (.int .i64 (n : Int))) w') : wpList P ops Q (o :: rest) a w := by
  obtain ⟨i, hi, _, hsize, _⟩ := info_parts hinf
  have hsz : (P.info? e).map (·.size) = some 1 := by rw [hi]; simp [hsize]
  obtain ⟨ao, cap, hvx, h2, h3, h4, h5⟩ := hrd
  by_cases h0 : n = 0
  · subst h0
    obtain rfl : news = [] := List.eq_nil_of_length_eq_zero hn
    have hxs : xs = [] := List.eq_nil_of_length_eq_zero (by simpa using hown.1)
    subst hxs
    refine wpList_copy_nothing hgd d s dT sT ho e ht hsz _ ao 0 0 0 cap hd (hs.trans hvx) (by simp) ?_
    exact h w hown (World.grownBy.refl _ _)
  · have hb := hown
    rcases hown.2 with ⟨hv, _⟩ | ⟨g', cap', cur, hv, hbg, hg, hnc, hcm, hcs, htake⟩
    · simp at hv
    · simp only [Value.slice.injEq, Option.some.injEq, Addr.mk.injEq, and_true, true_and] at hv
      obtain ⟨rfl, rfl⟩ := hv
      cases ao with
      | none => have := h4 rfl; omega
      | some ad =>
        have hcs' : cur.size = n := by simpa using hcs
        refine wpList_copy_own hgd d s dT sT ho e ht hsz g 0 n n ad news.length cap hd (hs.trans hvx) cur e hg news (by rw [hn]; simp) (h5 ad rfl) (by omega) h1 ?_
        have hrow : (cur.toList.take 0 ++ (news ++ cur.toList.drop (0 + news.length))).toArray = news.toArray := by
          rw [List.take_zero, List.nil_append, List.drop_eq_nil_of_le (by simp; omega), List.append_nil]
        rw [hrow, hn]
        refine h _ ⟨by simpa using hn, .inr ⟨g, n, news.toArray, rfl, hbg, setRow_heap w g cur _ e _ hg, Nat.le_refl _, hcm, by simpa using hn, by simp; rw [List.take_of_length_le (by omega)]⟩⟩ ⟨rfl, rfl, rfl, by simp [World.setRow], fun k _ hk => setRow_other w g k _ (fun e => hk (by simp [e]))⟩

theorem quiet_add {P : Program} {f : FuncId} {args : Array Value} {w : World} {p n : Nat} {v : Value} (h : Calls P f args (w.drewN (p + n)) fun e w' => e = .returned v ∧ w' = w.drewN (p + n)) :
    Calls P f args (w.drewN (p + n)) fun e w'' => e = .returned v ∧ ∃ m, w'' = w.drewN (p + m) := h.mono fun _ _ ⟨he, hm⟩ => ⟨he, n, hm⟩

/-- 'make([]T, n)', T of one cell. -/
theorem wpList_make_rd {P : Program} {w : World} {ops : Array Oper} {rest : List Oper} {o : Oper} {a : Act} {Q : Exit → Act → World → Prop} {l c : Operand} {t e : TypeId} {base n : Nat} {z : Value} {bytes : Nat} {L C : Int}
    (hn : L = (n : Int)) (hn2 : C = (n : Int)) (ht : P.underlying t = some (.slice e)) (hinf : (P.info? e).map (fun i => (i.zero, i.size, i.bytes)) = some (some z, 1, bytes))
    (hgd : o.guard = none) (ho : o.op = Op.makeSlice t l c) (hl : a.eval l = .int .i64 L) (hc : a.eval c = .int .i64 C)
    (h63 : n ≤ 1000000000000) (hbytes : bytes ≤ 64) (hbase : base ≤ w.heap.size)
    (h : ∀ w' xs, w'.ownsRow base e 1 (.slice (some ⟨w.heap.size, 0, none⟩) n n) n xs → w.grownBy w' none → wpList P ops Q rest (a.put o.dst (.slice (some ⟨w.heap.size, 0, none⟩) n n)) w') : wpList P ops Q (o :: rest) a w := by
  obtain ⟨i, hi, hz, hsize, hby⟩ := info_parts hinf
  refine wpList_make_full w hgd l c t ho base e i z 1 ht hi hz hsize .i64 .i64 L C n hl hc hn hn2 ?_ (by simp [maxLen]; omega) hbase (fun w' h1 h2 => h w' _ h1 h2)
  rw [hby]
  have : bytes * n ≤ 64 * 1000000000000 := Nat.mul_le_mul hbytes h63
  omega

theorem frameAt_cons (a b : UInt8) (r : List UInt8) : frameAt (a :: b :: r) = if (a :: b :: r).length < 6 + (a.toNat * 256 + b.toNat) then none
    else if crc ((a :: b :: r).take (2 + (a.toNat * 256 + b.toNat))) ≠ beVal (((a :: b :: r).drop (2 + (a.toNat * 256 + b.toNat))).take 4) then none
    else some (r.take (a.toNat * 256 + b.toNat)) := rfl

theorem frameAt_short {bs : List UInt8} (h : bs.length < 6) : frameAt bs = none := by
  cases bs with
  | nil => rfl
  | cons a r =>
    cases r with
    | nil => rfl
    | cons b r =>
      rw [frameAt_cons]
      exact if_pos (Nat.lt_of_lt_of_le h (Nat.le_add_right _ _))

theorem frameAt_eq {bs : List UInt8} {a b : UInt8} (h0 : bs[0]? = some a) (h1 : bs[1]? = some b) (n : Nat) (hn : n = a.toNat * 256 + b.toNat) :
    frameAt bs = if bs.length < 6 + n then none else if crc (bs.take (2 + n)) ≠ beVal ((bs.drop (2 + n)).take 4) then none else some ((bs.drop 2).take n) := by
  subst hn
  cases bs with
  | nil => simp at h0
  | cons x r =>
    cases r with
    | nil => simp at h1
    | cons y r =>
      simp only [List.getElem?_cons_zero, List.getElem?_cons_succ, Option.some.injEq] at h0 h1
      subst h0 h1
      exact frameAt_cons _ _ _

theorem i64_or_head (a b : Nat) (ha : a < 256) (hb : b < 256) : bits .or .i64 ((a : Int) * 256) (b : Int) = ((a * 256 + b : Nat) : Int) := by
  rw [show (a : Int) * 256 = ((a * 256 : Nat) : Int) by simp, i64_or_nat _ _ (by omega) (by omega), nat_join 8 (a * 256) b (by omega) (by omega)]


/-- What Open comes to, from what is left on: the bodies, how many bytes, the fault's code. -/
def openGo : Nat → List UInt8 → List (List UInt8) → Nat → List (List UInt8) × Int × Int
  | 0, _, _, _ => ([], 0, 0)
  | f + 1, bs, acc, k => match frameAt bs with
    | none => (acc, (k : Int), 0)
    | some body => if acc.length = 1000 then ([], 0, 2) else openGo f (bs.drop (body.length + 6)) (acc ++ [body]) (k + (body.length + 6))

def openR (bs : List UInt8) : List (List UInt8) × Int × Int := if 60000 < bs.length then ([], 0, 8) else openGo (bs.length + 1) bs [] 0
theorem openGo_end {f k : Nat} {bs : List UInt8} {acc : List (List UInt8)} (h : frameAt bs = none) : openGo (f + 1) bs acc k = (acc, (k : Int), 0) := by
  rw [openGo, h]

theorem openGo_many {f k : Nat} {bs body : List UInt8} {acc : List (List UInt8)} (h : frameAt bs = some body) (h2 : acc.length = 1000) : openGo (f + 1) bs acc k = ([], 0, 2) := by
  rw [openGo, h]
  simp only
  rw [if_pos h2]

theorem openGo_step {f k : Nat} {bs body : List UInt8} {acc : List (List UInt8)} (h : frameAt bs = some body) (h2 : acc.length ≠ 1000) : openGo (f + 1) bs acc k = openGo f (bs.drop (body.length + 6)) (acc ++ [body]) (k + (body.length + 6)) := by
  rw [openGo, h]
  simp only
  rw [if_neg h2]

theorem frameAt_len {bs body : List UInt8} (h : frameAt bs = some body) : body.length + 6 ≤ bs.length := by
  by_cases h6 : bs.length < 6
  · rw [frameAt_short h6] at h; cases h
  · obtain ⟨y0, hy0⟩ : ∃ y, bs[0]? = some y := ⟨_, List.getElem?_eq_getElem (by omega)⟩
    obtain ⟨y1, hy1⟩ : ∃ y, bs[1]? = some y := ⟨_, List.getElem?_eq_getElem (by omega)⟩
    rw [frameAt_eq hy0 hy1 _ rfl] at h
    split at h
    · cases h
    · split at h
      · cases h
      · simp only [Option.some.injEq] at h
        subst h
        simp only [List.length_take]
        omega

/-- Bodies that the call itself made, as cells of its list: each lies in a row of its own. -/
def OwnB (w : World) (base : Nat) : List Value → List (List UInt8) → Prop
  | [], [] => True
  | u :: us, b :: bb => w.ownsRow base 5 1 u b.length (bc b) ∧ OwnB w base us bb
  | _, _ => False

theorem OwnB.length {w : World} {base : Nat} : ∀ {us : List Value} {bb : List (List UInt8)}, OwnB w base us bb → us.length = bb.length
  | [], [], _ => rfl
  | _ :: _, _ :: _, h => by simp [OwnB.length h.2]
  | [], _ :: _, h => by cases h
  | _ :: _, [], h => by cases h

theorem OwnB.keep {w w' : World} {base : Nat} (f : ∀ u n xs, w.ownsRow base 5 1 u n xs → w'.ownsRow base 5 1 u n xs) : ∀ {us : List Value} {bb : List (List UInt8)}, OwnB w base us bb → OwnB w' base us bb
  | [], [], _ => trivial
  | _ :: _, _ :: _, h => ⟨f _ _ _ h.1, OwnB.keep f h.2⟩
  | [], _ :: _, h => by cases h
  | _ :: _, [], h => by cases h

theorem OwnB.snoc {w : World} {base : Nat} {u : Value} {b : List UInt8} (hu : w.ownsRow base 5 1 u b.length (bc b)) : ∀ {us : List Value} {bb : List (List UInt8)}, OwnB w base us bb → OwnB w base (us ++ [u]) (bb ++ [b])
  | [], [], _ => ⟨hu, trivial⟩
  | _ :: _, _ :: _, h => ⟨h.1, OwnB.snoc hu h.2⟩
  | [], _ :: _, h => by cases h
  | _ :: _, [], h => by cases h

theorem OwnB.get {w : World} {base : Nat} : ∀ {us : List Value} {bb : List (List UInt8)}, OwnB w base us bb → ∀ (i : Nat) (u : Value) (b : List UInt8), us[i]? = some u → bb[i]? = some b → Rd w u (bc b)
  | [], [], _, i, u, b, hu, _ => by simp at hu
  | u0 :: us, b0 :: bb, h, 0, u, b, hu, hb => by
    simp at hu hb
    subst hu hb
    exact Rd.ofOwns h.1
  | u0 :: us, b0 :: bb, h, i + 1, u, b, hu, hb => OwnB.get h.2 i u b (by simpa using hu) (by simpa using hb)
  | [], _ :: _, h, _, _, _, _, _ => by cases h
  | _ :: _, [], h, _, _, _, _, _ => by cases h

/-- A row of bytes is no row of slices: what is written to one leaves the other as it was. -/
theorem owns_other {w w' : World} {base base' : Nat} {u v : Value} {n m : Nat} {xs ys : List Value} {e e' : TypeId} (hee : e ≠ e') (hu : w.ownsRow base e 1 u n xs) (hv : w.ownsRow base' e' 1 v m ys) (hg : w.grownBy w' v.ownBlock) : w'.ownsRow base e 1 u n xs := by
  refine hu.kept hg ?_
  rcases hu.2 with ⟨rfl, _⟩ | ⟨g, cap, cur, rfl, _, hgu, _⟩
  · exact .inl rfl
  · right
    rcases hv.2 with ⟨rfl, _⟩ | ⟨g', cap', cur', rfl, _, hgv, _⟩
    · simp [Value.ownBlock]
    · simp only [Value.ownBlock, ne_eq, Option.some.injEq]
      intro e0
      subst e0
      rw [hgu] at hgv
      simp only [Option.some.injEq, Obj.cells.injEq] at hgv
      exact hee hgv.2.1

theorem owns_one {w : World} {base : Nat} {e : TypeId} {u : Value} {n : Nat} {xs : List Value} (h : w.ownsRow base e 1 u n xs) : u.oneCell' = true := by
  rcases h.2 with ⟨rfl, _⟩ | ⟨g, cap, cur, rfl, _⟩ <;> rfl

theorem Try.info25 : (Try.prog.info? 25).map (fun i => (i.zero, i.size, i.bytes)) = some (some (.slice none 0 0), 1, 24) := by kernel_rfl

end Go.Proofs.Ytdiflcodpnjljab
