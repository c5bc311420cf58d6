/-
  The walk over the reader's frames.
-/
import Derived.Test.YtlebbkbbmgmmjabFrameW2
import Derived.Deep.RegionHeld3
namespace Go.Proofs.Ytlebbkbbmgmmjab
open Go.RowKit

/-- 'copy(dst, src)', dst just made, src as long as it. -/
theorem wpList_copy_full {P : Program} {w : World} {ops : Array Oper} {rest : List Oper} {o : Oper} {a : Act} {Q : Exit → Act → World → Prop} {d s : Operand} {dT sT e : TypeId} {base g n : Nat} {z : Value} {bytes : Nat} {vx : Value} {xs news : List Value}
    (hown : w.ownsRow base e 1 (.slice (some ⟨g, 0, none⟩) n n) n xs) (hrd : Rd w vx news) (hn : news.length = n)
    (ht : P.underlying dT = some (.slice e)) (hinf : (P.info? e).map (fun i => (i.zero, i.size, i.bytes)) = some (some z, 1, bytes))
    (hgd : o.guard = none) (ho : o.op = .call { callee := .builtin .copy, args := #[d, s], argTypes := #[dT, sT] })
    (hd : a.eval d = .slice (some ⟨g, 0, none⟩) n n) (hs : a.eval s = vx) (h1 : ∀ u ∈ news, u.oneCell' = true)
    (h : ∀ w', w'.ownsRow base e 1 (.slice (some ⟨g, 0, none⟩) n n) n news → w.grownBy w' (some g) → wpList P ops Q rest (a.put o.dst (.int .i64 (n : Int))) w') : wpList P ops Q (o :: rest) a w := by
  obtain ⟨i, hi, _, hsize, _⟩ := info_parts hinf
  have hsz : (P.info? e).map (·.size) = some 1 := by rw [hi]; simp [hsize]
  obtain ⟨ao, cap, hvx, h2, h3, h4, h5⟩ := hrd
  by_cases h0 : n = 0
  · subst h0
    obtain rfl : news = [] := List.eq_nil_of_length_eq_zero hn
    have hxs : xs = [] := List.eq_nil_of_length_eq_zero (by simpa using hown.1)
    subst hxs
    refine wpList_copy_nothing hgd d s dT sT ho e ht hsz _ ao 0 0 0 cap hd (hs.trans hvx) (by simp) ?_
    exact h w hown (World.grownBy.refl _ _)
  · have hb := hown
    rcases hown.2 with ⟨hv, _⟩ | ⟨g', cap', cur, hv, hbg, hg, hnc, hcm, hcs, htake⟩
    · simp at hv
    · simp only [Value.slice.injEq, Option.some.injEq, Addr.mk.injEq, and_true, true_and] at hv
      obtain ⟨rfl, rfl⟩ := hv
      cases ao with
      | none => have := h4 rfl; omega
      | some ad =>
        have hcs' : cur.size = n := by simpa using hcs
        refine wpList_copy_own hgd d s dT sT ho e ht hsz g 0 n n ad news.length cap hd (hs.trans hvx) cur e hg news (by rw [hn]; simp) (h5 ad rfl) (by omega) h1 ?_
        have hrow : (cur.toList.take 0 ++ (news ++ cur.toList.drop (0 + news.length))).toArray = news.toArray := by
          rw [List.take_zero, List.nil_append, List.drop_eq_nil_of_le (by simp; omega), List.append_nil]
        rw [hrow, hn]
        refine h _ ⟨by simpa using hn, .inr ⟨g, n, news.toArray, rfl, hbg, setRow_heap w g cur _ e _ hg, Nat.le_refl _, hcm, by simpa using hn, by simp; rw [List.take_of_length_le (by omega)]⟩⟩ ⟨rfl, rfl, rfl, by simp [World.setRow], fun k _ hk => setRow_other w g k _ (fun e => hk (by simp [e]))⟩

theorem quiet_add {P : Program} {f : FuncId} {args : Array Value} {w : World} {p n : Nat} {v : Value} (h : Calls P f args (w.drewN (p + n)) fun e w' => e = .returned v ∧ w' = w.drewN (p + n)) :
    Calls P f args (w.drewN (p + n)) fun e w'' => e = .returned v ∧ ∃ m, w'' = w.drewN (p + m) := h.mono fun _ _ ⟨he, hm⟩ => ⟨he, n, hm⟩

/-- 'make([]T, n)', T of one cell. -/
theorem wpList_make_rd {P : Program} {w : World} {ops : Array Oper} {rest : List Oper} {o : Oper} {a : Act} {Q : Exit → Act → World → Prop} {l c : Operand} {t e : TypeId} {base n : Nat} {z : Value} {bytes : Nat} {L C : Int}
    (hn : L = (n : Int)) (hn2 : C = (n : Int)) (ht : P.underlying t = some (.slice e)) (hinf : (P.info? e).map (fun i => (i.zero, i.size, i.bytes)) = some (some z, 1, bytes))
    (hgd : o.guard = none) (ho : o.op = Op.makeSlice t l c) (hl : a.eval l = .int .i64 L) (hc : a.eval c = .int .i64 C)
    (h63 : n ≤ 1000000000000) (hbytes : bytes ≤ 64) (hbase : base ≤ w.heap.size)
    (h : ∀ w' xs, w'.ownsRow base e 1 (.slice (some ⟨w.heap.size, 0, none⟩) n n) n xs → w.grownBy w' none → wpList P ops Q rest (a.put o.dst (.slice (some ⟨w.heap.size, 0, none⟩) n n)) w') : wpList P ops Q (o :: rest) a w := by
  obtain ⟨i, hi, hz, hsize, hby⟩ := info_parts hinf
  refine wpList_make_full w hgd l c t ho base e i z 1 ht hi hz hsize .i64 .i64 L C n hl hc hn hn2 ?_ (by simp [maxLen]; omega) hbase (fun w' h1 h2 => h w' _ h1 h2)
  rw [hby]
  have : bytes * n ≤ 64 * 1000000000000 := Nat.mul_le_mul hbytes h63
  omega

theorem frameAt_cons (a b : UInt8) (r : List UInt8) : frameAt (a :: b :: r) = if (a :: b :: r).length < 6 + (a.toNat * 256 + b.toNat) then none
    else if crc ((a :: b :: r).take (2 + (a.toNat * 256 + b.toNat))) ≠ beVal (((a :: b :: r).drop (2 + (a.toNat * 256 + b.toNat))).take 4) then none
    else some (r.take (a.toNat * 256 + b.toNat)) := rfl

theorem frameAt_short {bs : List UInt8} (h : bs.length < 6) : frameAt bs = none := by
  cases bs with
  | nil => rfl
  | cons a r =>
    cases r with
    | nil => rfl
    | cons b r =>
      rw [frameAt_cons]
      exact if_pos (Nat.lt_of_lt_of_le h (Nat.le_add_right _ _))

theorem frameAt_eq {bs : List UInt8} {a b : UInt8} (h0 : bs[0]? = some a) (h1 : bs[1]? = some b) (n : Nat) (hn : n = a.toNat * 256 + b.toNat) :
    frameAt bs = if bs.length < 6 + n then none else if crc (bs.take (2 + n)) ≠ beVal ((bs.drop (2 + n)).take 4) then none else some ((bs.drop 2).take n) := by
  subst hn
  cases bs with
  | nil => simp at h0
  | cons x r =>
    cases r with
    | nil => simp at h1
    | cons y r =>
      simp only [List.getElem?_cons_zero, List.getElem?_cons_succ, Option.some.injEq] at h0 h1
      subst h0 h1
      exact frameAt_cons _ _ _

theorem i64_or_head (a b : Nat) (ha : a < 256) (hb : b < 256) : bits .or .i64 ((a : Int) * 256) (b : Int) = ((a * 256 + b : Nat) : Int) := by
  rw [show (a : Int) * 256 = ((a * 256 : Nat) : Int) by simp, i64_or_nat _ _ (by omega) (by omega), nat_join 8 (a * 256) b (by omega) (by omega)]

/-- What Frame answers. -/
def framePost (w w' : World) (e : Ending) (t : TypeId) (R : Nat) (v : Value) (k : Nat) : Option (List UInt8) → Prop
  | none => e = .returned (.tuple #[.slice none 0 0, .bool false]) ∧ RdrT w' t R v k ∧ w.grownBy w' (some R)
  | some body => ∃ uo uc, e = .returned (.tuple #[.slice uo body.length uc, .bool true]) ∧ Rd w' (.slice uo body.length uc) (bc body) ∧ (∀ a, uo = some a → ∃ a' l c, v = .slice (some a') l c ∧ a.block = a'.block) ∧ RdrT w' t R v (k + (body.length + 6) : Nat) ∧ w.grownBy w' (some R)

theorem sliced_block {ao : Option Addr} {lo hi cap : Nat} {a : Addr} {l c : Nat} (h : Go.sliced ao lo hi cap 1 = .slice (some a) l c) : ∃ a', ao = some a' ∧ a.block = a'.block := by
  unfold Go.sliced at h
  simp only [Value.slice.injEq] at h
  obtain ⟨h1, _, _⟩ := h
  split at h1
  · exact ⟨a, h1, rfl⟩
  · obtain ⟨a0, h2, h3⟩ := Option.map_eq_some_iff.1 h1
    refine ⟨a0, h2, ?_⟩
    rw [← h3]
    unfold Addr.add
    split <;> rfl

set_option maxRecDepth 100000 in
set_option maxHeartbeats 1000000 in
theorem Frame_any (t : TypeId) (R : Nat) (v : Value) (bs : List UInt8) (k : Nat) (w : World) (hrd : Rd w v (bc bs)) (hblk : ∀ a l c, v = .slice (some a) l c → 0 < (bc bs).length → a.block ≠ R) (hr : RdrT w t R v k) (hk : k ≤ bs.length) (hbl : bs.length ≤ 1000000) :
    Calls Try.prog 69 #[.pointer (some ⟨R, 0, none⟩)] w fun e w' => framePost w w' e t R v k (frameAt (bs.drop k)) := by
  obtain ⟨ao, cap, hvv, hc1, hc2⟩ := hrd.shape
  rw [bc_length] at hc1 hvv
  have hr0 := hr
  rw [hvv] at hr0
  unfold maxLen at hc2
  have HREST := hide (Rest_any t R v bs k w hrd hr hk)
  have hdl : (bs.drop k).length = bs.length - k := List.length_drop
  rw [← hdl] at HREST
  have HBP : Hid (0 < (bs.drop k).length → 0 < (bc bs).length) := hide (fun h => by rw [bc_length]; omega)
  generalize bs.drop k = ds at *
  have HR0 := hide hr0
  have HV := hide hvv
  have HBLK := hide hblk
  clear hr0 hvv hblk
  by_cases h6 : ds.length < 6
  · have HE := hide (frameAt_short h6)
    clear hdl
    have h6' : (ds.length : Int) < 6 := by omega
    go_enter Try.func69, Try.ntmps69
    go_wp2_with fail
    refine HREST.out.mono ?_
    rintro e w1 ⟨⟨vo, vc, rfl, hV, _⟩, q, rfl⟩
    go_wp2_with fail
    go_ret2
    rw [HE.out]
    exact ⟨rfl, hr, grownT_drewN _ _ _⟩
  · obtain ⟨y0, hy0⟩ : ∃ y, ds[0]? = some y := ⟨_, List.getElem?_eq_getElem (by omega)⟩
    obtain ⟨y1, hy1⟩ : ∃ y, ds[1]? = some y := ⟨_, List.getElem?_eq_getElem (by omega)⟩
    have hfe := frameAt_eq hy0 hy1 _ rfl
    have hx0 := y0.toNat_lt
    have hx1 := y1.toNat_lt
    have hor := i64_or_head y0.toNat y1.toNat hx0 hx1
    obtain ⟨n, hn⟩ : ∃ n, n = y0.toNat * 256 + y1.toNat := ⟨_, rfl⟩
    rw [← hn] at hor hfe
    have h6' : ¬ (ds.length : Int) < 6 := by omega
    have HN := hide hn
    have HY0 := hide hy0
    have HY1 := hide hy1
    clear hn hy0 hy1
    go_enter Try.func69, Try.ntmps69
    go_wp2_with fail
    refine HREST.out.mono ?_
    rintro e w1 ⟨⟨vo, vc, rfl, hV, hvb⟩, q, rfl⟩
    obtain ⟨b, off, vcap, hvv, hv1, hv2, hvb2, hvc⟩ := hV.pos (by rw [bc_length]; omega)
    rw [bc_length] at hvv hv1
    simp only [Value.slice.injEq] at hvv
    obtain ⟨rfl, _, rfl⟩ := hvv
    unfold maxLen at hv2
    have hk0 : w.cell? ⟨b, off, none⟩ = some (.int .u8 (y0.toNat : Int)) := hvc 0 _ (by simp [bc, HY0.out])
    have hk1 : w.cell? ⟨b, off + 1, none⟩ = some (.int .u8 (y1.toNat : Int)) := hvc 1 _ (by simp [bc, HY1.out])
    clear hvc HREST
    by_cases hlong : ds.length < 6 + n
    · rw [if_pos hlong] at hfe
      have HE := hide hfe
      have hl1 : (ds.length : Int) - 6 < n := by omega
      clear hfe hdl
      generalize y0.toNat = x0 at *
      generalize y1.toNat = x1 at *
      go_wp2_with fail
      go_quiet (fail)
      go_wp2_with fail
      go_ret2
      rw [HE.out]
      exact ⟨rfl, hr, grownT_drewN w _ _⟩
    · rw [if_neg hlong] at hfe
      have hl1 : ¬ (ds.length : Int) - 6 < n := by omega
      have hs1 := run_slice_upto (P := Try.prog) Try.underlying25 (by kernel_rfl) Try.info5 (some ⟨b, off, none⟩) ds.length vc (2 + n) (2 + (n : Int)) (by omega) (by omega)
      have hV1 := hV.upto (hi := 2 + n) (by omega)
      rw [bc_take] at hV1
      have hs2 := run_slice_rd (P := Try.prog) Try.underlying25 (by kernel_rfl) Try.info5 (some ⟨b, off, none⟩) ds.length vc (2 + n) (2 + n + 4) (2 + (n : Int)) (2 + (n : Int) + 4) (by omega) (by omega) (by omega) (by omega)
      have hV2 := hV.sliced (lo := 2 + n) (hi := 2 + n + 4) (by omega) (by omega)
      rw [bc_drop, bc_take, show 2 + n + 4 - (2 + n) = 4 by omega] at hV2
      have hs3 := run_slice_rd (P := Try.prog) Try.underlying25 (by kernel_rfl) Try.info5 (some ⟨b, off, none⟩) ds.length vc 2 (2 + n) 2 (2 + (n : Int)) (by omega) (by omega) (by omega) (by omega)
      have hV3 := hV.sliced (lo := 2) (hi := 2 + n) (by omega) (by omega)
      rw [bc_drop, bc_take, show 2 + n - 2 = n by omega] at hV3
      have hblk3 : ∀ a l c, Go.sliced (some ⟨b, off, none⟩) 2 (2 + n) vc 1 = .slice (some a) l c → a.block = b := fun a l c h => by
        obtain ⟨a', h1, h2⟩ := sliced_block h
        simp only [Option.some.injEq] at h1
        rw [h2, ← h1]
      have hb4 : ((ds.drop (2 + n)).take 4).length ≤ 4 := by simp; omega
      have hb3 : ((ds.drop 2).take n).length = n := by simp; omega
      generalize Go.sliced (some ⟨b, off, none⟩) 0 (2 + n) vc 1 = V1 at hs1 hV1
      generalize Go.sliced (some ⟨b, off, none⟩) (2 + n) (2 + n + 4) vc 1 = V2 at hs2 hV2
      generalize Go.sliced (some ⟨b, off, none⟩) 2 (2 + n) vc 1 = V3 at hs3 hV3 hblk3
      generalize ds.take (2 + n) = A at *
      generalize (ds.drop (2 + n)).take 4 = B at *
      generalize (ds.drop 2).take n = body at *
      have HB3 := hide hb3
      have HB4 := hide hb4
      clear hb3 hb4 hV
      obtain ⟨uo, uc, hu3, _, _⟩ := hV3.shape
      rw [bc_length] at hu3
      subst hu3
      have hrm := fun q => remainder_any V1 A (w.drewN q) (hV1.drewN q)
      have hhf := fun q => highFirst_any V2 B (w.drewN q) (hV2.drewN q) HB4.out
      generalize crc A = S at *
      generalize beVal B = T at *
      have HRM := hide hrm
      have HHF := hide hhf
      clear hrm hhf
      have HB3L : Hid (body.length = n) := HB3
      generalize y0.toNat = x0 at *
      generalize y1.toNat = x1 at *
      by_cases hST : S = T
      · rw [if_neg (by simpa using hST)] at hfe
        have HE := hide hfe
        have hne : ((S : Int) != (T : Int)) = false := by simp [hST]
        have HST := hide hST
        have hkn : k + (2 + n + 4) ≤ bs.length := by omega
        have HWR : Hid (IntKind.i64.wrap (2 + (n : Int) + 4) = ((2 + n + 4 : Nat) : Int)) := hide (by rw [IntKind.wrap_i64]; omega)
        clear hfe hST hdl
        go_wp2_with fail
        go_quiet (fail)
        go_wp2_with fail
        go_quiet (first | (go_at_call 86; exact quiet_add (HRM.out _)) | (go_at_call 87; exact quiet_add (HHF.out _)))
        go_wp2_with fail
        go_region_held3 (fun _ => True) (trivial) (first
          | (go_at_call 88; rw [HWR.out]; refine (Skip_ok t R ao bs.length cap k (2 + n + 4) _ (by exact HR0.out) hkn (by omega)).mono ?_; rintro e w2 ⟨rfl, hr2, hg2⟩))
        all_goals
          go_wp2_with fail
          go_ret2
          have hg3 : w.grownBy w2 (some R) := grownT_trans (grownT_drewN w _ _) hg2
          rw [HE.out]
          refine ⟨_, _, rfl, ?_, ?_, ?_, hg3⟩
          · refine hV3.grownT hg3 (fun a l c h hp => ?_)
            rw [hblk3 a l c h]
            obtain ⟨a', l', c', h1, h2⟩ := hvb _ rfl
            simp only at h2
            rw [h2]
            exact HBLK.out a' l' c' h1 (HBP.out (by omega))
          · intro a ha
            obtain ⟨a', l', c', h1, h2⟩ := hvb _ rfl
            exact ⟨a', l', c', h1, by rw [hblk3 a _ _ (by rw [ha])]; exact h2⟩
          · rw [HV.out, HB3L.out, show k + (n + 6) = k + (2 + n + 4) by omega]
            exact hr2
      · rw [if_pos (by simpa using hST)] at hfe
        have HE := hide hfe
        have hne : ((S : Int) != (T : Int)) = true := by simp; omega
        have HST := hide hST
        clear hfe hST hdl
        go_wp2_with fail
        go_quiet (fail)
        go_wp2_with fail
        go_quiet (first | (go_at_call 86; exact quiet_add (HRM.out _)) | (go_at_call 87; exact quiet_add (HHF.out _)))
        go_wp2_with fail
        go_ret2
        rw [HE.out]
        exact ⟨rfl, hr, grownT_trans (grownT_drewN w _ _) (grownT_drewN _ _ _)⟩

/-- What Open comes to, from what is left on: the bodies, how many bytes, the fault's code. -/
def openGo : Nat → List UInt8 → List (List UInt8) → Nat → List (List UInt8) × Int × Int
  | 0, _, _, _ => ([], 0, 0)
  | f + 1, bs, acc, k => match frameAt bs with
    | none => (acc, (k : Int), 0)
    | some body => if acc.length = 1000 then ([], 0, 2) else openGo f (bs.drop (body.length + 6)) (acc ++ [body]) (k + (body.length + 6))

def openR (bs : List UInt8) : List (List UInt8) × Int × Int := if 60000 < bs.length then ([], 0, 8) else openGo (bs.length + 1) bs [] 0
theorem openGo_end {f k : Nat} {bs : List UInt8} {acc : List (List UInt8)} (h : frameAt bs = none) : openGo (f + 1) bs acc k = (acc, (k : Int), 0) := by
  rw [openGo, h]

theorem openGo_many {f k : Nat} {bs body : List UInt8} {acc : List (List UInt8)} (h : frameAt bs = some body) (h2 : acc.length = 1000) : openGo (f + 1) bs acc k = ([], 0, 2) := by
  rw [openGo, h]
  simp only
  rw [if_pos h2]

theorem openGo_step {f k : Nat} {bs body : List UInt8} {acc : List (List UInt8)} (h : frameAt bs = some body) (h2 : acc.length ≠ 1000) : openGo (f + 1) bs acc k = openGo f (bs.drop (body.length + 6)) (acc ++ [body]) (k + (body.length + 6)) := by
  rw [openGo, h]
  simp only
  rw [if_neg h2]

theorem frameAt_len {bs body : List UInt8} (h : frameAt bs = some body) : body.length + 6 ≤ bs.length := by
  by_cases h6 : bs.length < 6
  · rw [frameAt_short h6] at h; cases h
  · obtain ⟨y0, hy0⟩ : ∃ y, bs[0]? = some y := ⟨_, List.getElem?_eq_getElem (by omega)⟩
    obtain ⟨y1, hy1⟩ : ∃ y, bs[1]? = some y := ⟨_, List.getElem?_eq_getElem (by omega)⟩
    rw [frameAt_eq hy0 hy1 _ rfl] at h
    split at h
    · cases h
    · split at h
      · cases h
      · simp only [Option.some.injEq] at h
        subst h
        simp only [List.length_take]
        omega

/-- Bodies that the call itself made, as cells of its list: each lies in a row of its own. -/
def OwnB (w : World) (base : Nat) : List Value → List (List UInt8) → Prop
  | [], [] => True
  | u :: us, b :: bb => w.ownsRow base 5 1 u b.length (bc b) ∧ OwnB w base us bb
  | _, _ => False

theorem OwnB.length {w : World} {base : Nat} : ∀ {us : List Value} {bb : List (List UInt8)}, OwnB w base us bb → us.length = bb.length
  | [], [], _ => rfl
  | _ :: _, _ :: _, h => by simp [OwnB.length h.2]
  | [], _ :: _, h => by cases h
  | _ :: _, [], h => by cases h

theorem OwnB.keep {w w' : World} {base : Nat} (f : ∀ u n xs, w.ownsRow base 5 1 u n xs → w'.ownsRow base 5 1 u n xs) : ∀ {us : List Value} {bb : List (List UInt8)}, OwnB w base us bb → OwnB w' base us bb
  | [], [], _ => trivial
  | _ :: _, _ :: _, h => ⟨f _ _ _ h.1, OwnB.keep f h.2⟩
  | [], _ :: _, h => by cases h
  | _ :: _, [], h => by cases h

theorem OwnB.snoc {w : World} {base : Nat} {u : Value} {b : List UInt8} (hu : w.ownsRow base 5 1 u b.length (bc b)) : ∀ {us : List Value} {bb : List (List UInt8)}, OwnB w base us bb → OwnB w base (us ++ [u]) (bb ++ [b])
  | [], [], _ => ⟨hu, trivial⟩
  | _ :: _, _ :: _, h => ⟨h.1, OwnB.snoc hu h.2⟩
  | [], _ :: _, h => by cases h
  | _ :: _, [], h => by cases h

theorem OwnB.get {w : World} {base : Nat} : ∀ {us : List Value} {bb : List (List UInt8)}, OwnB w base us bb → ∀ (i : Nat) (u : Value) (b : List UInt8), us[i]? = some u → bb[i]? = some b → Rd w u (bc b)
  | [], [], _, i, u, b, hu, _ => by simp at hu
  | u0 :: us, b0 :: bb, h, 0, u, b, hu, hb => by
    simp at hu hb
    subst hu hb
    exact Rd.ofOwns h.1
  | u0 :: us, b0 :: bb, h, i + 1, u, b, hu, hb => OwnB.get h.2 i u b (by simpa using hu) (by simpa using hb)
  | [], _ :: _, h, _, _, _, _, _ => by cases h
  | _ :: _, [], h, _, _, _, _, _ => by cases h

theorem Try.info25 : (Try.prog.info? 25).map (fun i => (i.zero, i.size, i.bytes)) = some (some (.slice none 0 0), 1, 24) := by kernel_rfl

end Go.Proofs.Ytlebbkbbmgmmjab
