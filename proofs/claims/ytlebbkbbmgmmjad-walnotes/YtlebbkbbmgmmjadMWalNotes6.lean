/-
  Texts joined: RefB, FramesRef, RefT, FramesUn, LawTexts, DiskW1, LawFrames1.
-/
import Derived.Test.YtlebbkbbmgmmjadMWalNotes5
import Derived.Deep.RegionLaw
import Derived.Laws.CopyOwn
/-
  The walk over the document's comparison of bodies; a list of bodies cut.
-/
namespace Go.Proofs.Ytlebbkbbmgmmjad
open Go.RowKit

theorem RdB.alloc {w : World} {v : Value} {bb : List (List UInt8)} (h : RdB w v bb) (o : Obj) : RdB (w.alloc o) v bb := h.below ((Below.refl _ _).alloc (Nat.le_refl _) o)
theorem RdB.upto {w : World} {ao : Option Addr} {n cap hi : Nat} {bb : List (List UInt8)} (h : RdB w (.slice ao n cap) bb) (h1 : hi ≤ n) : RdB w (Go.sliced ao 0 hi cap 1) (bb.take hi) := by
  obtain ⟨vs, h2, h3, h4⟩ := h
  refine ⟨vs.take hi, h2.upto h1, by simp [h3], fun i u b hu hb => ?_⟩
  rw [List.getElem?_take] at hu hb
  split at hu
  · rename_i hi'
    rw [if_pos hi'] at hb
    exact h4 i u b hu hb
  · cases hu


set_option maxRecDepth 100000 in
set_option maxHeartbeats 400000 in
theorem ownBytesO_any (v : Value) (zs : List UInt8) (w : World) (h : Rd w v (bc zs)) (hl : zs.length ≤ 1000000000) :
    Calls Try.prog 21 #[v] w fun e w' => ∃ v', e = .returned v' ∧ w'.ownsRow w.heap.size 5 1 v' zs.length (bc zs) ∧ Below w.heap.size w w' := by
  go_enter Try.func21, Try.ntmps21
  go_wp2_with (at_builtin; go_must (refine wpList_append_rd (World.ownsRow_nil w w.heap.size 5 1) h Try.underlying42 Try.info5 rfl rfl rfl rfl rfl (bc_one _) (by rw [bc_length]; omega) (by decide) (Nat.le_refl _) ?_); intro v1 w1 ho1 hb1 hg1; clear hg1)
  go_ret
  exact ⟨v1, rfl, by simpa [bc_length] using ho1, hb1⟩

end Go.Proofs.Ytlebbkbbmgmmjad

/-
  The walks over the document's sum and frames.
-/
namespace Go.Proofs.Ytlebbkbbmgmmjad
open Go.RowKit

/-- The document's register, one bit of a byte. -/
def refBit (r x k : Nat) : Nat := if (r + x / 2 ^ k % 2) % 2 = 1 then (r / 2) ^^^ 3988292384 else r / 2
def refBits : Nat → Nat → Nat → Nat
  | 0, r, _ => r
  | j + 1, r, x => refBit (refBits j r x) x j

theorem xor_half (a b : Nat) : (a ^^^ b) / 2 = a / 2 ^^^ b / 2 := by
  have := Nat.shiftRight_xor_distrib (a := a) (b := b) (i := 1)
  simpa [Nat.shiftRight_eq_div_pow] using this

theorem xor_low (a b : Nat) : (a ^^^ b) % 2 = (a + b) % 2 := by
  have h := Nat.xor_mod_two_pow (a := a) (b := b) (n := 1)
  simp only [Nat.pow_one] at h
  rw [h]
  rcases Nat.mod_two_eq_zero_or_one a with ha | ha <;> rcases Nat.mod_two_eq_zero_or_one b with hb | hb <;> rw [ha, hb] <;> simp <;> omega

theorem refBits_eq (r x : Nat) : ∀ j, refBits j r x ^^^ (x / 2 ^ j) = crcBits j (r ^^^ x)
  | 0 => by simp [refBits, crcBits]
  | j + 1 => by
    have ih := refBits_eq r x j
    rw [refBits, crcBits, ← ih]
    generalize refBits j r x = s
    have hq : x / 2 ^ (j + 1) = x / 2 ^ j / 2 := by rw [Nat.pow_succ, Nat.div_div_eq_div_mul]
    rw [hq]
    unfold refBit crcBit
    generalize x / 2 ^ j = y
    rw [xor_low, xor_half]
    by_cases h : (s + y) % 2 = 1
    · rw [if_pos (by omega), if_pos h]
      rw [Nat.xor_assoc, Nat.xor_comm 3988292384, ← Nat.xor_assoc]
    · rw [if_neg (by omega), if_neg h]

theorem refBits_byte (r : Nat) (x : UInt8) : refBits 8 r x.toNat = crcByte r x := by
  have := refBits_eq r x.toNat 8
  have hx := x.toNat_lt
  rw [show x.toNat / 2 ^ 8 = 0 by omega, Nat.xor_zero] at this
  exact this

theorem refBits_lt {r : Nat} (x : Nat) (h : r < 4294967296) : ∀ j, refBits j r x < 4294967296
  | 0 => h
  | j + 1 => by
    have ih := refBits_lt x h j
    rw [refBits]
    unfold refBit
    split
    · exact Nat.xor_lt_two_pow (n := 32) (by omega) (by decide)
    · omega

theorem ref_cast (g x j : Nat) : ((g : Int) + (x : Int) / 2 ^ j) = ((g + x / 2 ^ j : Nat) : Int) := by
  rw [Int.natCast_add, Int.natCast_ediv, Int.natCast_pow]
  rfl

theorem ref_yes {g x j : Nat} (h : (((g : Int) + (x : Int) / 2 ^ j) % 2 == 1) = true) : refBit g x j = (g / 2) ^^^ 3988292384 := by
  rw [ref_cast, beq_iff_eq] at h
  unfold refBit
  generalize x / 2 ^ j = y at *
  rw [if_pos (by omega)]

theorem ref_no {g x j : Nat} (h : (((g : Int) + (x : Int) / 2 ^ j) % 2 == 1) = false) : refBit g x j = g / 2 := by
  rw [ref_cast, beq_eq_false_iff_ne] at h
  unfold refBit
  generalize x / 2 ^ j = y at *
  rw [if_neg (by omega)]

set_option maxRecDepth 100000 in
set_option maxHeartbeats 400000 in
theorem RefRest_any (v : Value) (bs : List UInt8) (w : World) (hrd : Rd w v (bc bs)) :
    Calls Try.prog 82 #[v] w fun e w' => e = .returned (.int .u32 (crc bs)) ∧ w' = w := by
  obtain ⟨ao, cap, hv, hc1, hc2, hcell⟩ := hrd.open
  rw [bc_length] at hc1 hv hcell
  subst hv
  unfold maxLen at hc2
  go_enter Try.func82, Try.ntmps82
  go_wp2_with fail
  go_loop [3, 4] (fun c i => ∃ k : Nat, k ≤ bs.length ∧ i = .int .i64 k ∧ c = .int .u32 (crcGo 4294967295 (bs.take k))) (fun _ i => bs.length - (intOf i).toNat)
  case atStart => exact ⟨0, by omega, rfl, rfl⟩
  case round =>
    obtain ⟨k, hk, rfl, rfl⟩ := hrel
    have hcl := crcGo_lt (bs.take k) (c := 4294967295) (by decide)
    by_cases hlt : k < bs.length
    · obtain ⟨b, off, rfl, hb, hcl1⟩ := hcell k hlt
      have hck : w.cell? ⟨b, off + k, none⟩ = some (.int .u8 (bs[k].toNat : Int)) := hcl1 k _ (by simp [bc, hlt])
      have hsn := crcGo_snoc 4294967295 bs k hlt
      rw [← refBits_byte] at hsn
      clear hcell hcl1
      have hxl := bs[k].toNat_lt
      generalize bs[k].toNat = x at *
      generalize crcGo 4294967295 (bs.take k) = c at *
      have HS := hide hsn
      clear hsn
      go_wp2_with fail
      go_loop [3, 5] (fun g i => ∃ j : Nat, j ≤ 8 ∧ i = .int .i64 j ∧ g = .int .u32 (refBits j c x)) (fun _ i => 8 - (intOf i).toNat)
      case atStart => exact ⟨0, by omega, rfl, rfl⟩
      case round =>
        obtain ⟨j, hj, rfl, rfl⟩ := hrel
        have hdl := refBits_lt x hcl j
        by_cases hj8 : j < 8
        · have hst : refBits (j + 1) c x = refBit (refBits j c x) x j := rfl
          generalize refBits j c x = g at *
          have hxp := u32_xorP (g / 2) (by omega)
          have HST := hide hst
          have HXP := hide hxp
          clear hst hxp
          go_wp2_with fail
          · go_round
            case rel => exact ⟨j + 1, by omega, by go_num, by rw [HST.out, ref_yes (by assumption), ← HXP.out]; rfl⟩
            case measure => simp [intOf]; omega
          · go_round
            case rel => exact ⟨j + 1, by omega, by go_num, by rw [HST.out, ref_no (by assumption)]; rfl⟩
            case measure => simp [intOf]; omega
        · obtain rfl : j = 8 := by omega
          go_wp2_with fail
          go_round
          case rel => exact ⟨k + 1, by omega, by go_num, by rw [HS.out]⟩
          case measure => simp [intOf]; omega
    · rw [List.take_of_length_le (by omega)] at hcl ⊢
      go_wp2_with fail
      go_ret
      refine ⟨?_, rfl⟩
      have e : (4294967295 : Int) - (crcGo 4294967295 bs : Nat) = ((crc bs : Nat) : Int) := by unfold crc; omega
      rw [← e]
      rfl

set_option maxRecDepth 100000 in
set_option maxHeartbeats 400000 in
theorem Framed_own (x : Value) (bs : List UInt8) (w : World) (hrd : Rd w x (bc bs)) (hl : bs.length ≤ 65535) :
    Calls Try.prog 37 #[x] w fun e w' => ∃ v', e = .returned v' ∧ w'.ownsRow w.heap.size 5 1 v' (framed bs).length (bc (framed bs)) ∧ Below w.heap.size w w' := by
  obtain ⟨ao, cap, hv, hc1, hc2, _⟩ := hrd.open
  rw [bc_length] at hc1 hv
  subst hv
  unfold maxLen at hc2
  go_enter Try.func37, Try.ntmps37
  have ho0 := World.ownsRow_lit (base := w.heap.size) (size := 1) (e := 5) w #[.int .u8 ((bs.length : Int) / 256), .int .u8 ((bs.length : Int) % 256)] 2 (Nat.le_refl _) (by decide) (by simp)
  go_upto_region 2 with (at_builtin; go_must (refine wpList_append_rd ho0 (hrd.alloc _) Try.underlying42 Try.info5 rfl rfl rfl rfl rfl (bc_one _) (by rw [bc_length]; omega) (by decide) (by simp) ?_); intro v1 w1 ho1 hb1 hg1; clear hg1)
  have hbw1 : Below w.heap.size w w1 := ((Below.refl _ _).alloc (Nat.le_refl _) _).trans hb1
  have hsz1 := hbw1.size
  have ho1' : w1.ownsRow w.heap.size 5 1 v1 (head2 bs.length ++ bs).length (bc (head2 bs.length ++ bs)) := by
    rw [bc_append, ← head2_cells _ hl, List.length_append, bc_length] at *
    exact ho1
  have hcrc := crc_lt (head2 bs.length ++ bs)
  have hfr : framed bs = (head2 bs.length ++ bs) ++ be4 (crc (head2 bs.length ++ bs)) := rfl
  have hl2 : (head2 bs.length ++ bs).length = bs.length + 2 := by simp [head2]
  have HF := hide hfr
  have HL2 := hide hl2
  clear hfr ho1 hb1 ho0 hrd hl2
  generalize head2 bs.length ++ bs = hd at *
  go_wp2_with fail
  refine (RefRest_any _ hd _ (Rd.ofOwns ho1')).mono ?_
  rintro e w2 ⟨rfl, rfl⟩
  generalize hS : crc hd = S at *
  have HS := hide hS
  clear hS
  have hS2 : (S : Int) ≤ 4294967295 := by omega
  go_wp2_with (at_builtin; go_must (refine wpList_append_rd (ho1'.alloc _) (Rd.lits _ _ _ (by simp)) Try.underlying42 Try.info5 rfl rfl rfl rfl rfl (by simp [Value.oneCell']) (by have := HL2.out; simp; omega) (by decide) (by simp; omega) ?_); intro v4 w4 ho4 hb4 hg4; clear hg4)
  go_ret
  refine ⟨v4, rfl, ?_, (hbw1.alloc hsz1 _).trans hb4⟩
  rw [HF.out, bc_append, ← be4_cells _ hcrc, List.length_append, be4_length]
  exact ho4

theorem Framed_any (x : Value) (bs : List UInt8) (w : World) (hrd : Rd w x (bc bs)) (hl : bs.length ≤ 65535) :
    Calls Try.prog 37 #[x] w fun e w' => ∃ v', e = .returned v' ∧ Rd w' v' (bc (framed bs)) ∧ Below w.heap.size w w' ∧ New w.heap.size v' :=
  (Framed_own x bs w hrd hl).mono fun _ _ ⟨v', h1, h2, h3⟩ => ⟨v', h1, Rd.ofOwns h2, h3, New.owns h2⟩

/-- What Unframed comes to, from what is left on. -/
def unGo : Nat → List UInt8 → List (List UInt8) → Nat → List (List UInt8) × Nat
  | 0, _, _, _ => ([], 0)
  | f + 1, bs, acc, k => match frameAt bs with
    | none => (acc, k)
    | some body => unGo f (bs.drop (body.length + 6)) (acc ++ [body]) (k + (body.length + 6))

theorem unGo_end {f k : Nat} {bs : List UInt8} {acc : List (List UInt8)} (h : frameAt bs = none) : unGo (f + 1) bs acc k = (acc, k) := by rw [unGo, h]
theorem unGo_step {f k : Nat} {bs body : List UInt8} {acc : List (List UInt8)} (h : frameAt bs = some body) : unGo (f + 1) bs acc k = unGo f (bs.drop (body.length + 6)) (acc ++ [body]) (k + (body.length + 6)) := by rw [unGo, h]
theorem unGo_more : ∀ (f k : Nat) (bs : List UInt8) (acc : List (List UInt8)), bs.length ≤ f → acc.length ≤ (unGo (f + 1) bs acc k).1.length
  | 0, k, bs, acc, h => by
    have : frameAt bs = none := frameAt_short (by omega)
    rw [unGo_end this]
    exact Nat.le_refl _
  | f + 1, k, bs, acc, h => by
    cases hn : frameAt bs with
    | none => rw [unGo_end hn]; exact Nat.le_refl _
    | some body =>
      have hl := frameAt_len hn
      rw [unGo_step hn]
      have := unGo_more f (k + (body.length + 6)) (bs.drop (body.length + 6)) (acc ++ [body]) (by rw [List.length_drop]; omega)
      simp at this
      omega

theorem open_un : ∀ (f k : Nat) (bs : List UInt8) (acc : List (List UInt8)), bs.length ≤ f → acc.length ≤ 1000 →
    openGo (f + 1) bs acc k = if 1000 < (unGo (f + 1) bs acc k).1.length then ([], 0, 2) else ((unGo (f + 1) bs acc k).1, ((unGo (f + 1) bs acc k).2 : Int), 0)
  | 0, k, bs, acc, h, ha => by
    have : frameAt bs = none := frameAt_short (by omega)
    rw [unGo_end this, openGo_end this, if_neg (by simp; omega)]
  | f + 1, k, bs, acc, h, ha => by
    cases hn : frameAt bs with
    | none => rw [unGo_end hn, openGo_end hn, if_neg (by simp; omega)]
    | some body =>
      have hl := frameAt_len hn
      by_cases hm : acc.length = 1000
      · have := unGo_more f (k + (body.length + 6)) (bs.drop (body.length + 6)) (acc ++ [body]) (by rw [List.length_drop]; omega)
        simp at this
        rw [openGo_many hn hm, unGo_step hn, if_pos (by omega)]
      · rw [openGo_step hn hm, unGo_step hn]
        exact open_un f _ _ _ (by rw [List.length_drop]; omega) (by simp; omega)

theorem framed_same {ds : List UInt8} {y0 y1 : UInt8} {n : Nat} (h0 : ds[0]? = some y0) (h1 : ds[1]? = some y1) (hn : n = y0.toNat * 256 + y1.toNat) (hl : 6 + n ≤ ds.length) :
    (framed ((ds.drop 2).take n) == ds.take (6 + n)) = decide (crc (ds.take (2 + n)) = beVal ((ds.drop (2 + n)).take 4)) := by
  have hx0 := y0.toNat_lt
  have hx1 := y1.toNat_lt
  have hbl : ((ds.drop 2).take n).length = n := by simp; omega
  have hh : head2 n ++ (ds.drop 2).take n = ds.take (2 + n) := by
    have e2 : ds.take 2 = head2 n := by
      cases ds with
      | nil => simp at h0
      | cons a r =>
        cases r with
        | nil => simp at h1
        | cons b r =>
          simp only [List.getElem?_cons_zero, List.getElem?_cons_succ, Option.some.injEq] at h0 h1
          subst h0 h1
          simp only [List.take_succ_cons, List.take_zero, head2]
          rw [show n / 256 = a.toNat by omega, show n % 256 = b.toNat by omega]
          simp
    rw [← e2, List.take_add]
  have hX : ((ds.drop (2 + n)).take 4).length = 4 := by simp; omega
  have e1 : framed ((ds.drop 2).take n) = ds.take (2 + n) ++ be4 (crc (ds.take (2 + n))) := by
    unfold framed
    rw [hbl, hh]
  have e2 : ds.take (6 + n) = ds.take (2 + n) ++ (ds.drop (2 + n)).take 4 := by
    rw [show 6 + n = (2 + n) + 4 by omega, List.take_add]
  rw [e1, e2]
  rw [Bool.eq_iff_iff, beq_iff_eq, decide_eq_true_iff, List.append_cancel_left_eq]
  constructor
  · intro h
    rw [← h, beVal_be4 _ (crc_lt _)]
  · intro h
    rw [h, be4_beVal hX]

end Go.Proofs.Ytlebbkbbmgmmjad

/-
  The walks over the document's texts.
-/
namespace Go.Proofs.Ytlebbkbbmgmmjad
open Go.RowKit

theorem run_append_rd {P : Program} {w : World} {t ty : TypeId} {base : Nat} {e : TypeId} {z : Value} {bytes : Nat}
    {v : Value} {n : Nat} {xs : List Value} {vx : Value} {news : List Value}
    (hown : w.ownsRow base e 1 v n xs) (hrd : Rd w vx news)
    (ht : P.underlying t = some (.slice e)) (hinf : (P.info? e).map (fun i => (i.zero, i.size, i.bytes)) = some (some z, 1, bytes)) (hzs : z.cells.size = 1)
    (h1 : ∀ u ∈ news, u.oneCell' = true) (h63 : n + news.length ≤ 2000000000000) (hbytes : bytes ≤ 64) (hbase : base ≤ w.heap.size) :
    ∃ v' w', (Builtin.append_ #[t, t] ty #[v, vx]).run P w = .ok v' w' ∧ w'.ownsRow base e 1 v' (n + news.length) (xs ++ news) ∧ Below base w w' ∧ w.grownBy w' v.ownBlock := by
  obtain ⟨i, hi, hz, hsize, hby⟩ := info_parts hinf
  have hlt := hown.lt
  have hbytes' : (n + news.length) * bytes ≤ 2000000000000 * 64 := Nat.mul_le_mul h63 hbytes
  obtain ⟨ao, cap, hvx, h2, h3, h4, h5⟩ := hrd
  subst hvx
  cases ao with
  | none =>
    have hc := h4 rfl
    have hnews : news = [] := List.eq_nil_of_length_eq_zero (by omega)
    subst hnews
    subst hc
    exact ⟨v, w, run_append_owned_none w base t ty e i 1 ht hi v n xs hown, by simpa using hown, Below.refl _ _, World.grownBy.refl _ _⟩
  | some ad =>
    obtain ⟨v', w', hr, ho', hg', _⟩ := run_append_own (P := P) w base t ty e i z 1 bytes ht hi hz hsize hby hzs (by decide) v n xs hown ad news.length cap news (by simp) (h5 ad rfl) h1 (by simp [maxLen]; omega) (by omega) hbase
    exact ⟨v', w', hr, ho', (Below.refl _ _).grown hg' hbase (fun k hk => (hlt k hk).1), hg'⟩

/-- The same as a step of a region that draws its order. -/
theorem step_append_rd {P : Program} {w : World} {ops : Array Oper} {o : Oper} {a : Act} {K : Act → World → Prop} {Q : Exit → Act → World → Prop} {E : Prop} {s x : Operand} {t : TypeId} {base : Nat} {e : TypeId} {z : Value} {bytes : Nat}
    {v : Value} {n : Nat} {xs : List Value} {vx : Value} {news : List Value}
    (hown : w.ownsRow base e 1 v n xs) (hrd : Rd w vx news)
    (ht : P.underlying t = some (.slice e)) (hinf : (P.info? e).map (fun i => (i.zero, i.size, i.bytes)) = some (some z, 1, bytes)) (hzs : z.cells.size = 1)
    (hgd : o.guard = none) (ho : o.op = .call { callee := .builtin .append, args := #[s, x], argTypes := #[t, t] })
    (hs : a.eval s = v) (hx : a.eval x = vx) (h1 : ∀ u ∈ news, u.oneCell' = true)
    (h63 : n + news.length ≤ 2000000000000) (hbytes : bytes ≤ 64) (hbase : base ≤ w.heap.size)
    (h : ∀ v' w', w'.ownsRow base e 1 v' (n + news.length) (xs ++ news) → Below base w w' → w.grownBy w' v.ownBlock → K (a.put o.dst v') w') :
    if Region.wanted o (yielded ops a.tmps) = true then Oper.wp P o a w K Q else E := by
  have hw : Region.wanted o (yielded ops a.tmps) = true := by simp [Region.wanted, hgd]
  rw [if_pos hw]
  obtain ⟨v', w', hr, h2, h3, h4⟩ := run_append_rd (ty := o.type) hown hrd ht hinf hzs h1 h63 hbytes hbase
  unfold Oper.wp execOp
  simp only [ho, resolve, invoke, builtin, Sem.run_bind, Sem.run_pure, Result.andThen_ok, List.map_toArray, List.map_cons, List.map_nil, hs, hx, hr]
  exact h v' w' h2 h3 h4

/-- A call of a Go function of one argument, as a step of a region that draws its order. -/
theorem step_call1 {P : Program} {w : World} {ops : Array Oper} {o : Oper} {a : Act} {K : Act → World → Prop} {Q : Exit → Act → World → Prop} {E : Prop} {f : FuncId} {x : Operand} {ats : Array TypeId} {v : Value} {R : Value → World → Prop}
    (hc : Calls P f #[v] w fun e w' => ∃ u, e = .returned u ∧ R u w') (hcf : ∀ args W, (callFunc f args).run P W = .ok (.enter f args) W)
    (hgd : o.guard = none) (ho : o.op = .call { callee := .value (.func f), args := #[x], argTypes := ats }) (hx : a.eval x = v)
    (h : ∀ u w', R u w' → K (a.put o.dst u) w') :
    if Region.wanted o (yielded ops a.tmps) = true then Oper.wp P o a w K Q else E := by
  have hw : Region.wanted o (yielded ops a.tmps) = true := by simp [Region.wanted, hgd]
  rw [if_pos hw]
  have he : execOp a.eval o = callFunc f #[v] := by
    cases o
    simp only at ho
    subst ho
    rw [execOp_call_go]
    simp [hx]
  unfold Oper.wp
  rw [he, hcf, Oper.upon_enter]
  exact hc.mono (by rintro e w' ⟨u, rfl, hr⟩; exact h u w' hr)

theorem enters104 (args : Array Value) (W : World) : (callFunc 104 args).run Try.prog W = .ok (.enter 104 args) W := by kernel_rfl

set_option maxRecDepth 100000 in
set_option maxHeartbeats 400000 in
theorem Written_own (s : List UInt8) (w : World) (hs : s.length ≤ 1000000000) :
    Calls Try.prog 104 #[.string ⟨s.toArray⟩] w fun e w' => ∃ v', e = .returned v' ∧ w'.ownsRow w.heap.size 5 1 v' (encN s.length ++ s).length (bc (encN s.length ++ s)) ∧ Below w.heap.size w w' := by
  go_enter Try.func104, Try.ntmps104
  go_wp2_with fail
  refine (Number_go 9 s.length w (by omega) (by omega) (Nat.le_refl _)).mono ?_
  rintro e w1 ⟨v1, rfl, ho1, hb1⟩
  have hl := enc_length 9 s.length
  have hsz := hb1.size
  go_wp2_with (at_builtin; go_must (refine wpList_append_strE ho1 Try.underlying42 Try.underlying9 Try.info5 rfl rfl rfl rfl (by omega) hsz ?_); intro v2 w2 ho2 hb2 hg2; clear hg2)
  go_ret
  exact ⟨v2, rfl, ho2, hb1.trans hb2⟩

theorem Written_any (s : List UInt8) (w : World) (hs : s.length ≤ 1000000000) :
    Calls Try.prog 104 #[.string ⟨s.toArray⟩] w fun e w' => ∃ v', e = .returned v' ∧ Rd w' v' (bc (encN s.length ++ s)) ∧ Below w.heap.size w w' ∧ New w.heap.size v' :=
  (Written_own s w hs).mono fun _ _ ⟨v', h1, h2, h3⟩ => ⟨v', h1, Rd.ofOwns h2, h3, New.owns h2⟩

/-- What ReadWritten answers, from what is left on. -/
def refTexts : Nat → List UInt8 → List (List UInt8) → List (List UInt8) × Int
  | 0, _, _ => ([], 0)
  | f + 1, bs, acc =>
    if bs = [] then (acc, -1)
    else match textAt bs with
      | none => ([], (acc.length : Int))
      | some (t, k) => refTexts f (bs.drop k) (acc ++ [t])

theorem refTexts_end {f : Nat} {acc : List (List UInt8)} : refTexts (f + 1) [] acc = (acc, -1) := by
  rw [refTexts, if_pos rfl]

theorem refTexts_bad {f : Nat} {bs : List UInt8} {acc : List (List UInt8)} (h : bs ≠ []) (hn : textAt bs = none) : refTexts (f + 1) bs acc = ([], (acc.length : Int)) := by
  rw [refTexts, if_neg h, hn]

theorem refTexts_step {f : Nat} {bs t : List UInt8} {acc : List (List UInt8)} {k : Nat} (h : bs ≠ []) (hn : textAt bs = some (t, k)) : refTexts (f + 1) bs acc = refTexts f (bs.drop k) (acc ++ [t]) := by
  rw [refTexts, if_neg h, hn]

theorem textAt_long {bs : List UInt8} {n k : Nat} (h : numAt bs = some (n, k)) (hl : bs.length < k + n) : textAt bs = none := by
  simp [textAt, h, hl]

theorem textAt_fits {bs : List UInt8} {n k : Nat} (h : numAt bs = some (n, k)) (hl : k + n ≤ bs.length) : textAt bs = some ((bs.drop k).take n, k + n) := by
  simp only [textAt, h]
  rw [if_neg (by omega)]

theorem textAt_no {bs : List UInt8} (h : numAt bs = none) : textAt bs = none := by simp [textAt, h]



end Go.Proofs.Ytlebbkbbmgmmjad

/-
  The walk over the document's reading of frames.
-/
namespace Go.Proofs.Ytlebbkbbmgmmjad
open Go.RowKit

theorem owns_none {w w' : World} {base : Nat} {e : TypeId} {size : Nat} {v : Value} {n : Nat} {xs : List Value} (h : w.ownsRow base e size v n xs) (hg : w.grownBy w' none) : w'.ownsRow base e size v n xs := by
  refine h.kept hg ?_
  cases hv : v.ownBlock with
  | none => exact .inl rfl
  | some k => right; simp

theorem OwnB.drewN {w : World} {base : Nat} {us : List Value} {bb : List (List UInt8)} (h : OwnB w base us bb) (n : Nat) : OwnB (w.drewN n) base us bb := OwnB.keep (w := w) (w' := w.drewN n) (fun _ _ _ h => h) h
theorem OwnB.drew {w : World} {base : Nat} {us : List Value} {bb : List (List UInt8)} (h : OwnB w base us bb) : OwnB w.drew base us bb := OwnB.keep (w := w) (w' := w.drew) (fun _ _ _ h => h) h

set_option maxRecDepth 100000 in
set_option maxHeartbeats 1000000 in
theorem Unframed_any (v : Value) (bs : List UInt8) (w : World) (hrd : Rd w v (bc bs)) (hbl : bs.length ≤ 60000) :
    Calls Try.prog 81 #[v] w fun e w' => ∃ v', e = .returned (.tuple #[v', .int .i64 ((unGo (bs.length + 1) bs [] 0).2 : Nat)]) ∧ RdBN w' w.heap.size v' (unGo (bs.length + 1) bs [] 0).1 ∧ Below w.heap.size w w' := by
  obtain ⟨ao, cap, hv, hc1, hc2, hcell⟩ := hrd.open
  rw [bc_length] at hc1 hv hcell
  subst hv
  unfold maxLen at hc2
  go_enter Try.func81, Try.ntmps81
  go_wp2_with fail
  go_loopw [4, 5] (fun o i wr => ∃ (k f : Nat) (acc : List (List UInt8)) (us : List Value), k ≤ bs.length ∧ i = .int .i64 k ∧ unGo (f + 1) (bs.drop k) acc k = unGo (bs.length + 1) bs [] 0 ∧ bs.length ≤ k + f ∧ acc.length ≤ k ∧ wr.ownsRow w.heap.size 42 1 o acc.length us ∧ OwnB wr w.heap.size us acc ∧ Below w.heap.size w wr)
    (fun _ i _ => bs.length + 1 - (intOf i).toNat)
  case atStart => exact ⟨0, bs.length, [], [], by omega, rfl, rfl, by omega, by simp, World.ownsRow_nil _ _ _ _, trivial, Below.refl _ _⟩
  case round =>
    obtain ⟨k, f, acc, us, hk, rfl, hgo, hf, hacc, hown, hob, hbel⟩ := hrel
    have HG := hide hgo
    clear hgo
    have hsz := hbel.size
    have hrr := hrd.below hbel
    by_cases h6 : bs.length < k + 6
    · have HE := hide (@unGo_end f k (bs.drop k) acc (frameAt_short (by rw [List.length_drop]; omega)))
      go_wp2_with fail
      go_ret2
      exact ⟨_, by rw [← HG.out, HE.out]; rfl, by rw [← HG.out, HE.out]; exact rdBN_of hown hob (Nat.le_refl _), hbel⟩
    · obtain ⟨b, off, rfl, hb, hcl⟩ := hcell k (by omega)
      obtain ⟨y0, hy0⟩ : ∃ y, bs[k]? = some y := ⟨_, List.getElem?_eq_getElem (by omega)⟩
      obtain ⟨y1, hy1⟩ : ∃ y, bs[k + 1]? = some y := ⟨_, List.getElem?_eq_getElem (by omega)⟩
      have hk0 : wr.cell? ⟨b, off + k, none⟩ = some (.int .u8 (y0.toNat : Int)) := by rw [hbel.cell (by exact hb)]; exact hcl k _ (by simp [bc, hy0])
      have hk1 : wr.cell? ⟨b, off + (k + 1), none⟩ = some (.int .u8 (y1.toNat : Int)) := by rw [hbel.cell (by exact hb)]; exact hcl (k + 1) _ (by simp [bc, hy1])
      have hx0 := y0.toNat_lt
      have hx1 := y1.toNat_lt
      have hd0 : (bs.drop k)[0]? = some y0 := by rw [List.getElem?_drop]; exact hy0
      have hd1 : (bs.drop k)[1]? = some y1 := by rw [List.getElem?_drop]; exact hy1
      have hdl : (bs.drop k).length = bs.length - k := List.length_drop
      have hfe := fun n hn => frameAt_eq hd0 hd1 n hn
      have hsm := fun n hn hl => @framed_same _ _ _ n hd0 hd1 hn hl
      clear hcell hcl hy0 hy1 hd0 hd1
      generalize y0.toNat = x0 at *
      generalize y1.toNat = x1 at *
      obtain ⟨n, hn⟩ : ∃ n, n = x0 * 256 + x1 := ⟨_, rfl⟩
      have hfe := hfe n hn
      have hsm := hsm n hn
      rw [hdl] at hfe hsm
      have HFE := hide hfe
      have HSM := hide hsm
      have HN := hide hn
      have hni : (x0 : Int) * 256 + (x1 : Int) = (n : Int) := by omega
      have hn16 : (n : Int) ≤ 65535 := by omega
      clear hfe hsm hn
      by_cases hlong : bs.length - k < 6 + n
      · have hnone : frameAt (bs.drop k) = none := by rw [HFE.out, if_pos hlong]
        have HE := hide (@unGo_end f k (bs.drop k) acc hnone)
        clear hnone
        go_wp2_with fail
        go_quiet (fail)
        have hbrk : (bs.length : Int) < (k : Int) + 6 + (n : Int) := by omega
        go_wp2_with fail
        go_ret2
        exact ⟨_, by rw [← HG.out, HE.out]; rfl, by rw [← HG.out, HE.out]; exact rdBN_of (w := wr.drewN _) hown (hob.drewN _) (Nat.le_refl _), below_drewN hbel _⟩
      · have hfit : ¬ (bs.length : Int) < (k : Int) + 6 + (n : Int) := by omega
        have hwa : IntKind.i64.wrap ((k : Int) + 6) = (k : Int) + 6 := by rw [IntKind.wrap_i64]; omega
        have hwb : IntKind.i64.wrap ((k : Int) + 6 + (n : Int)) = (k : Int) + 6 + (n : Int) := by rw [IntKind.wrap_i64]; omega
        have hs7 := run_slice_rd (P := Try.prog) Try.underlying42 (by kernel_rfl) Try.info5 (some ⟨b, off, none⟩) bs.length cap (k + 2) (k + 2 + n) ((k : Int) + 2) ((k : Int) + 2 + (n : Int)) (by omega) (by omega) (by omega) (by omega)
        have hV7 := hrr.sliced (lo := k + 2) (hi := k + 2 + n) (by omega) (by omega)
        rw [bc_drop, bc_take, show k + 2 + n - (k + 2) = n by omega, ← List.drop_drop] at hV7
        have hs8 := run_slice_rd (P := Try.prog) Try.underlying42 (by kernel_rfl) Try.info5 (some ⟨b, off, none⟩) bs.length cap k (k + 6 + n) (k : Int) ((k : Int) + 6 + (n : Int)) (by omega) (by omega) (by omega) (by omega)
        have hV8 := hrr.sliced (lo := k) (hi := k + 6 + n) (by omega) (by omega)
        rw [bc_drop, bc_take, show k + 6 + n - k = 6 + n by omega] at hV8
        have hfe := HFE.out
        have hsm := HSM.out (by omega)
        rw [if_neg hlong] at hfe
        have hb7 : (((bs.drop k).drop 2).take n).length = n := by simp; omega
        generalize hBO : ((bs.drop k).drop 2).take n = body at *
        have HBO := hide hBO
        have HB7 := hide hb7
        have HBL : Hid (body.length ≤ 65535) := by show body.length ≤ 65535; omega
        clear hBO hb7
        generalize sliced (some ⟨b, off, none⟩) (k + 2) (k + 2 + n) cap 1 = V7 at hs7 hV7
        generalize sliced (some ⟨b, off, none⟩) k (k + 6 + n) cap 1 = V8 at hs8 hV8
        generalize (bs.drop k).take (6 + n) = whole at *
        by_cases hcr : crc ((bs.drop k).take (2 + n)) = beVal (((bs.drop k).drop (2 + n)).take 4)
        · rw [if_neg (by simpa using hcr)] at hfe
          have hsb : (framed body == whole) = true := by rw [hsm]; simpa using hcr
          have HE := hide (@unGo_step f k (bs.drop k) body acc hfe)
          clear hfe hsm hcr
          go_wp2_with fail
          go_quiet (fail)
          go_wp2_with fail
          have hown7 : (wr.drewN nq).ownsRow w.heap.size 42 1 _ acc.length us := hown
          have hob7 := hob.drewN nq
          have hbel7 := below_drewN hbel nq
          have hV77 := hV7.drewN nq
          have hV87 := hV8.drewN nq
          have hsz7 := hbel7.size
          generalize wr.drewN nq = w7 at *
          go_region_held3 (fun _ => True) (trivial) (first | (go_at_call 37; refine (Framed_any _ body _ (by exact hV77) (by exact HBL.out)).mono ?_; rintro e w2 ⟨v2, rfl, hr2, hb2, hn2⟩; have hV88 := Rd.below (v := V8) (by exact hV87) hb2) | (go_at_call 25; refine (Same_any _ _ (framed body) whole _ ?_ ?_).mono ?_; exact hr2; exact hV88; rintro e w3 ⟨rfl, rfl⟩))
          have hb27 := Below.trans hbel7.drew (hb2.mono (by exact hsz7))
          have hown2 := owns_below (w := w7.drew) hown7 hb2
          have hob2 := hob7.drew.keep (fun u n xs h => owns_below h hb2)
          have hV72 := Rd.below (v := V7) (w := w7.drew) hV77 hb2
          have hsz2 := hb27.size
          obtain ⟨ao2, cap2, hv2⟩ := owns_shape hown2
          subst hv2
          clear hown7 hob7 hbel7 hV77 hV87 hV88 hr2 hn2 hown hob hbel hV7 hV8 hb2
          have hn1 := World.ownsRow_nil w3 w.heap.size 5 1
          have hbn : 0 + (bc body).length ≤ 2000000000000 := by rw [bc_length, HB7.out]; omega
          have hal : acc.length ≤ 1000000000000 := by omega
          go_wp2_with (first | (have k9 := hown5; at_builtin; go_must (refine wpList_append_one hown5 Try.underlying118 Try.info42 rfl rfl rfl rfl rfl ho5o hal (by decide) hsz5 ?_); intro v6 w6 ho6 hb6 hg6) | (at_builtin; go_must (refine wpList_append_rd hn1 hV72 Try.underlying42 Try.info5 rfl rfl rfl rfl rfl (bc_one _) hbn (by decide) hsz2 ?_); intro v5 w5 ho5 hb5 hg5; obtain ⟨ao5, cap5, hv5⟩ := owns_shape ho5; subst hv5; have hown5 := owns_none hown2 hg5; have hsz5 := Nat.le_trans hsz2 hb5.size; have ho5o := owns_one ho5))
          have hob5 := hob2.keep (fun u n xs h => owns_none h hg5)
          simp only [List.nil_append, bc_length, Nat.zero_add] at ho5
          have hob6 := (hob5.snoc ho5).keep (fun u n xs h => owns_other (by decide) h hown5 hg6)
          have hl := HB7.out
          go_roundw
          case rel =>
            obtain ⟨f', rfl⟩ : ∃ f', f = f' + 1 := ⟨f - 1, by omega⟩
            refine ⟨k + (body.length + 6), f', acc ++ [body], _, by omega, by rw [hl]; go_num, ?_, by omega, by simp; omega, by simpa [bc_length] using ho6, hob6, (hb27.trans hb5).trans hb6⟩
            rw [← HG.out, HE.out, List.drop_drop]
          case measure => simp [intOf]; omega
        · rw [if_pos (by simpa using hcr)] at hfe
          have hsb : (framed body == whole) = false := by rw [hsm]; simpa using hcr
          have HE := hide (@unGo_end f k (bs.drop k) acc hfe)
          clear hfe hsm hcr
          go_wp2_with fail
          go_quiet (fail)
          go_wp2_with fail
          have hown7 : (wr.drewN nq).ownsRow w.heap.size 42 1 _ acc.length us := hown
          have hob7 := hob.drewN nq
          have hbel7 := below_drewN hbel nq
          have hV77 := hV7.drewN nq
          have hV87 := hV8.drewN nq
          have hsz7 := hbel7.size
          generalize wr.drewN nq = w7 at *
          go_region_held3 (fun _ => True) (trivial) (first | (go_at_call 37; refine (Framed_any _ body _ (by exact hV77) (by exact HBL.out)).mono ?_; rintro e w2 ⟨v2, rfl, hr2, hb2, hn2⟩; have hV88 := Rd.below (v := V8) (by exact hV87) hb2) | (go_at_call 25; refine (Same_any _ _ (framed body) whole _ ?_ ?_).mono ?_; exact hr2; exact hV88; rintro e w3 ⟨rfl, rfl⟩))
          have hb27 := Below.trans hbel7.drew (hb2.mono (by exact hsz7))
          have hown2 := owns_below (w := w7.drew) hown7 hb2
          have hob2 := hob7.drew.keep (fun u n xs h => owns_below h hb2)
          clear hown7 hob7 hbel7 hV77 hV87 hV88 hr2 hn2 hown hob hbel hV7 hV8 hb2
          go_wp2_with fail
          go_ret2
          exact ⟨_, by rw [← HG.out, HE.out]; rfl, by rw [← HG.out, HE.out]; exact rdBN_of hown2 hob2 (Nat.le_refl _), hb27⟩

end Go.Proofs.Ytlebbkbbmgmmjad

/-
  The law WireTexts: its walk.
-/
namespace Go.Proofs.Ytlebbkbbmgmmjad
open Go.RowKit

def lsum : List (List UInt8) → Nat
  | [] => 0
  | s :: ss => s.length + lsum ss

theorem lsum_append : ∀ (a b : List (List UInt8)), lsum (a ++ b) = lsum a + lsum b
  | [], b => by simp [lsum]
  | s :: a, b => by simp [lsum, lsum_append a b, Nat.add_assoc]

theorem lsum_snoc (ss : List (List UInt8)) (k : Nat) (h : k < ss.length) : lsum (ss.take (k + 1)) = lsum (ss.take k) + ss[k].length := by
  rw [List.take_succ_eq_append_getElem h, lsum_append]
  simp [lsum]

theorem lsum_mem : ∀ {ss : List (List UInt8)} {s : List UInt8}, s ∈ ss → s.length ≤ lsum ss
  | t :: ss, s, h => by
    rcases List.mem_cons.1 h with rfl | h
    · simp only [lsum]; omega
    · have := lsum_mem h; simp only [lsum]; omega

theorem tflat_le : ∀ (ss : List (List UInt8)), (tflat ss).length ≤ lsum ss + 10 * ss.length
  | [] => by simp [tflat]
  | s :: ss => by
    have := tflat_le ss
    have h1 := encN_length s.length
    rw [tflat_cons]
    simp only [lsum, List.length_append, List.length_cons]
    omega

theorem tflat_snoc (ss : List (List UInt8)) (k : Nat) (h : k < ss.length) : tflat (ss.take (k + 1)) = tflat (ss.take k) ++ (encN ss[k].length ++ ss[k]) := by
  rw [List.take_succ_eq_append_getElem h]
  simp only [tflat, List.flatMap_append, List.flatMap_cons, List.flatMap_nil, List.append_nil]

theorem tflat_take (ss : List (List UInt8)) (k : Nat) : (tflat (ss.take k)).length ≤ (tflat ss).length := by
  have e : tflat ss = tflat (ss.take k) ++ tflat (ss.drop k) := by
    conv => lhs; rw [← List.take_append_drop k ss]
    simp only [tflat, List.flatMap_append]
  rw [e, List.length_append]
  omega

theorem textsR_big {ss : List (List UInt8)} (h : 1000 < ss.length) : textsR ss = ([], 2, 0) := by rw [textsR, if_pos h]
theorem textsR_much {ss : List (List UInt8)} (h : ¬ 1000 < ss.length) (h2 : 60000 < (tflat ss).length) : textsR ss = ([], 9, 0) := by
  rw [textsR, if_neg h, textsGo_much ss [] (by simp) (by simpa using h2)]

theorem textsR_ok {ss : List (List UInt8)} (h : ¬ 1000 < ss.length) (h2 : ¬ 60000 < (tflat ss).length) : textsR ss = (tflat ss, 0, 0) := by
  rw [textsR, if_neg h, textsGo_of ss [] (by simp; omega)]
  simp

theorem rdt_ref : ∀ (f : Nat) (bs : List UInt8) (acc : List (List UInt8)), bs.length ≤ f →
    rdTexts (f + 1) bs acc = if 0 ≤ (refTexts (f + 1) bs acc).2 then ([], 5, (refTexts (f + 1) bs acc).2) else if 1000 < (refTexts (f + 1) bs acc).1.length then ([], 2, 0) else ((refTexts (f + 1) bs acc).1, 0, 0)
  | f, [], acc, _ => by
    rw [refTexts_end]
    by_cases h : 1000 < acc.length
    · rw [rdTexts_many h]; simp [h]
    · rw [rdTexts_end (by omega)]; simp [h]
  | 0, b :: bs, acc, hf => by simp at hf
  | f + 1, b :: bs, acc, hf => by
    cases hn : textAt (b :: bs) with
    | none =>
      rw [rdTexts_bad (by simp) hn, refTexts_bad (by simp) hn]
      simp
    | some p =>
      obtain ⟨t, k⟩ := p
      have hl := textAt_back hn
      rw [rdTexts_step (by simp) hn, refTexts_step (by simp) hn]
      exact rdt_ref f _ _ (by rw [List.length_drop]; omega)

theorem readTexts_ref {bs : List UInt8} (h : ¬ 60000 < bs.length) :
    readTextsR bs = if 0 ≤ (refTexts (bs.length + 1) bs []).2 then ([], 5, (refTexts (bs.length + 1) bs []).2) else if 1000 < (refTexts (bs.length + 1) bs []).1.length then ([], 2, 0) else ((refTexts (bs.length + 1) bs []).1, 0, 0) := by
  rw [readTextsR, if_neg h]
  exact rdt_ref _ _ _ (Nat.le_refl _)

theorem readTexts_big {bs : List UInt8} (h : 60000 < bs.length) : readTextsR bs = ([], 8, 0) := by rw [readTextsR, if_pos h]

/-- A block of one cell. -/
def Ob (w : World) (B : Nat) (t : TypeId) (v : Value) : Prop := w.heap[B]? = some (.cells #[v] t (0, 0))
theorem Ob.facts {w : World} {B : Nat} {t : TypeId} {v : Value} (h : Ob w B t v) : w.cell? ⟨B, 0, none⟩ = some v ∧ w.frozen? ⟨B, 0, none⟩ = false ∧ B < w.heap.size := by
  refine ⟨?_, frozen_of_row _ _ _ _ _ h, (Array.getElem?_eq_some_iff.1 h).1⟩
  rw [cell_of_row _ _ _ _ _ _ h]; rfl

theorem Ob.below {w w' : World} {B : Nat} {t : TypeId} {v : Value} (h : Ob w B t v) (hb : Below w.heap.size w w') : Ob w' B t v := by
  unfold Ob
  rw [hb.block _ h.facts.2.2]
  exact h

theorem Ob.new (w : World) (t : TypeId) (v : Value) : Ob (w.alloc (.cells #[v] t)) w.heap.size t v := heap_alloc_new _ _
theorem Ob.set {w : World} {B : Nat} {t : TypeId} {v : Value} (h : Ob w B t v) (u : Value) : Ob (w.setCell ⟨B, 0, none⟩ u) B t u := by
  unfold Ob
  rw [heap_setCell_same _ B 0 _ _ u h]
  rfl


end Go.Proofs.Ytlebbkbbmgmmjad

/-
  The walks over package disk: copies and checks.
-/
namespace Go.Proofs.Ytlebbkbbmgmmjad
open Go.RowKit

theorem splice_two {α : Type} (Z X Y : List α) (hZ : Z.length = X.length + Y.length) : splice (splice Z 0 X) X.length Y = X ++ Y := by
  unfold splice
  simp [List.drop_append]
  omega

theorem owns_full {w : World} {base : Nat} {e : TypeId} {g n : Nat} {xs : List Value} (h : w.ownsRow base e 1 (.slice (some ⟨g, 0, none⟩) n n) n xs) : w.heap[g]? = some (.cells xs.toArray e (0, 0)) ∧ xs.length = n ∧ n ≤ maxLen ∧ base ≤ g := by
  rcases h.2 with ⟨hv, _⟩ | ⟨g', cap, cur, hv, hb, hg, h1, h2, h3, h4⟩
  · cases hv
  · simp only [Value.slice.injEq, Option.some.injEq, Addr.mk.injEq, and_true] at hv
    obtain ⟨rfl, -, rfl⟩ := hv
    have hl : xs.length = n := by simpa using h.1
    refine ⟨?_, hl, h2, hb⟩
    have : cur = xs.toArray := by
      rw [List.take_of_length_le (by simp; omega)] at h4
      rw [← h4]
    rw [← this]
    exact hg

theorem owns_of_full {w : World} {base : Nat} {e : TypeId} {g n : Nat} {xs : List Value} (h : w.heap[g]? = some (.cells xs.toArray e (0, 0))) (hl : xs.length = n) (hm : n ≤ maxLen) (hb : base ≤ g) : w.ownsRow base e 1 (.slice (some ⟨g, 0, none⟩) n n) n xs :=
  ⟨by simpa using hl, .inr ⟨g, n, xs.toArray, rfl, hb, h, Nat.le_refl _, hm, by simpa using hl, by rw [List.take_of_length_le (by simp; omega)]⟩⟩

theorem Rd.src {w : World} {sp : Option Addr} {n cap : Nat} {xs : List Value} (h : Rd w (.slice sp n cap) xs) (hp : 0 < xs.length) : ∃ ad, sp = some ad ∧ ∀ j v, xs[j]? = some v → w.cell? (ad.add j) = some v := by
  obtain ⟨ao, c, hv, h1, h2, h3, h4⟩ := h
  simp only [Value.slice.injEq] at hv
  obtain ⟨rfl, _, rfl⟩ := hv
  cases sp with
  | none => have := h3 rfl; omega
  | some a => exact ⟨a, rfl, h4 a rfl⟩

/-- 'make([]T, n)': the block that is made. -/
theorem wpList_make_z {P : Program} {w : World} {ops : Array Oper} {rest : List Oper} {o : Oper} {a : Act} {Q : Exit → Act → World → Prop} {l c : Operand} {t e : TypeId} {z : Value} {bytes : Nat} {kl kc : IntKind} {L C : Int} {n : Nat}
    (ht : P.underlying t = some (.slice e)) (hinf : (P.info? e).map (fun i => (i.zero, i.size, i.bytes)) = some (some z, 1, bytes)) (hby : bytes ≤ 64) (hn : n ≤ 2000000000000)
    (hg : o.guard = none) (hop : o.op = Op.makeSlice t l c) (hl : a.eval l = .int kl L) (hc : a.eval c = .int kc C) (hL : L = (n : Int)) (hC : C = (n : Int))
    (hK : ∀ (Z : List Value) w', Z.length = n → Hid (w'.heap[w.heap.size]? = some (.cells Z.toArray e (0, 0))) → Below w.heap.size w w' → wpList P ops Q rest (a.put o.dst (.slice (some ⟨w.heap.size, 0, none⟩) n n)) w') :
    wpList P ops Q (o :: rest) a w := by
  obtain ⟨i, hi, hz, hsize, hb⟩ := info_parts hinf
  have hm : bytes * n ≤ 64 * 2000000000000 := Nat.mul_le_mul hby hn
  refine wpList_make_full w hg l c t hop w.heap.size e i z 1 ht hi hz hsize kl kc L C n hl hc hL hC (by rw [hb]; omega) (by unfold maxLen; omega) (Nat.le_refl _) ?_
  intro w' hown hgrow
  have hf := owns_full hown
  exact hK _ w' hf.2.1 hf.1 ((Below.refl _ _).grown hgrow (Nat.le_refl _) (fun k hk => by cases hk))

/-- 'copy(out[off:], src)', all of src goes over. -/
theorem wpList_copy_rd {P : Program} {w w0 : World} {ops : Array Oper} {rest : List Oper} {o : Oper} {a : Act} {Q : Exit → Act → World → Prop} {d s : Operand} {dT sT elem : TypeId}
    {dp sp : Option Addr} {dLen dCap sLen sCap g off : Nat} {cur cs : List Value} {t : TypeId} {z : Value} {bytes : Nat}
    (hg : w.heap[g]? = some (.cells cur.toArray t (0, 0))) (hrd : Rd w0 (.slice sp sLen sCap) cs) (hb : Below w0.heap.size w0 w) (hBg : w0.heap.size ≤ g)
    (hu : P.underlying dT = some (.slice elem)) (hinf : (P.info? elem).map (fun i => (i.zero, i.size, i.bytes)) = some (some z, 1, bytes))
    (hgd : o.guard = none) (ho : o.op = .call { callee := .builtin .copy, args := #[d, s], argTypes := #[dT, sT] })
    (hd : a.eval d = .slice dp dLen dCap) (hs : a.eval s = .slice sp sLen sCap) (hle : cs.length ≤ dLen) (hdp : 0 < cs.length → dp = some ⟨g, off, none⟩) (hfit : off + cs.length ≤ cur.length) (h1 : ∀ v ∈ cs, v.oneCell' = true)
    (h : ∀ w', Hid (w'.heap[g]? = some (.cells (splice cur off cs).toArray t (0, 0))) → Below w0.heap.size w0 w' → wpList P ops Q rest (a.put o.dst (goInt cs.length)) w') :
    wpList P ops Q (o :: rest) a w := by
  obtain ⟨i, hi, _, hsize, _⟩ := info_parts hinf
  have hl := hrd.len.1
  have hr := hrd.below hb
  refine wpList_copy_splice hgd d s dT sT ho elem hu (by rw [hi]; simp [hsize]) dp sp dLen dCap sLen sCap hd hs g off cur t hg cs (by show _ = min _ _; omega) (fun hp => ⟨hdp hp, hr.src hp⟩) hfit h1 w0.heap.size w0 hb hBg h

set_option maxRecDepth 100000 in
set_option maxHeartbeats 1000000 in
theorem joined_any (u v : Value) (xs ys : List UInt8) (w : World) (h1 : Rd w u (bc xs)) (h2 : Rd w v (bc ys)) (hl : xs.length + ys.length ≤ 1000000000) :
    Calls Try.prog 108 #[u, v] w fun e w' => ∃ v', e = .returned v' ∧ w'.ownsRow w.heap.size 5 1 v' (xs.length + ys.length) (bc (xs ++ ys)) ∧ Below w.heap.size w w' := by
  obtain ⟨ao, cap, hu, hc1, hc2⟩ := h1.shape
  obtain ⟨bo, cbp, hv, hd1, hd2⟩ := h2.shape
  rw [bc_length] at hc1 hu hd1 hv
  subst hu hv
  unfold maxLen at hc2 hd2
  rw [bc_append]
  obtain ⟨X, hX⟩ : ∃ X, X = bc xs := ⟨_, rfl⟩
  obtain ⟨Y, hY⟩ : ∃ Y, Y = bc ys := ⟨_, rfl⟩
  have hXl : X.length = xs.length := by rw [hX, bc_length]
  have hYl : Y.length = ys.length := by rw [hY, bc_length]
  have hX1 : ∀ v ∈ X, v.oneCell' = true := by rw [hX]; exact bc_one _
  have hY1 : ∀ v ∈ Y, v.oneCell' = true := by rw [hY]; exact bc_one _
  rw [← hX] at h1 ⊢
  rw [← hY] at h2 ⊢
  clear hX hY
  have hn : xs.length + ys.length ≤ 2000000000000 := by omega
  have hle1 : X.length ≤ xs.length + ys.length := by omega
  have hle2 : Y.length ≤ ys.length := by omega
  have hsl := run_slice_from (P := Try.prog) Try.underlying42 (by kernel_rfl) Try.info5 (some ⟨w.heap.size, 0, none⟩) (xs.length + ys.length) (xs.length + ys.length) xs.length (xs.length : Int) rfl (by omega)
  obtain ⟨dp, hdp, hdp2⟩ : ∃ dp, Go.sliced (some ⟨w.heap.size, 0, none⟩) xs.length (xs.length + ys.length) (xs.length + ys.length) 1 = .slice dp ys.length ys.length ∧ (0 < Y.length → dp = some ⟨w.heap.size, xs.length, none⟩) := by
    refine ⟨_, by unfold Go.sliced; rw [Nat.add_sub_cancel_left], fun hp => ?_⟩
    rw [if_neg (by omega), Option.map_some, Addr.add_lit]
    simp
  rw [hdp] at hsl
  clear hdp
  have hdp1 : 0 < X.length → (some ⟨w.heap.size, 0, none⟩ : Option Addr) = some ⟨w.heap.size, 0, none⟩ := fun _ => rfl
  go_enter Try.func108, Try.ntmps108
  go_wp2_with (first
    | (have k9 := HG2; refine wpList_copy_rd HG2.out h2 hB2 (Nat.le_refl _) Try.underlying42 Try.info5 rfl rfl rfl rfl hle2 hdp2 hfit2 hY1 ?_; intro w3 HG3 hB3)
    | (have k9 := HG1; refine wpList_copy_rd (off := 0) HG1.out h1 hB1 (Nat.le_refl _) Try.underlying42 Try.info5 rfl rfl rfl rfl hle1 hdp1 hfit1 hX1 ?_; intro w2 HG2 hB2; clear HG1; have hfit2 : xs.length + Y.length ≤ (splice Z 0 X).length := by rw [length_splice _ _ _ hfit1]; omega)
    | (at_make; go_must (refine wpList_make_z (n := xs.length + ys.length) Try.underlying42 Try.info5 (by decide) hn rfl rfl rfl rfl (by omega) (by omega) ?_); intro Z w1 hZ HG1 hB1; have hfit1 : 0 + X.length ≤ Z.length := by omega))
  go_ret
  refine ⟨_, rfl, owns_of_full (xs := X ++ Y) ?_ (by rw [List.length_append]; omega) (by unfold maxLen; omega) (Nat.le_refl _), hB3⟩
  rw [← splice_two Z X Y (by omega), hXl]
  exact HG3.out

end Go.Proofs.Ytlebbkbbmgmmjad

/-
  The law WireFrames: its parts.
-/
namespace Go.Proofs.Ytlebbkbbmgmmjad
open Go.RowKit

theorem OwnB.take_get {w : World} {base : Nat} {us : List Value} {bb : List (List UInt8)} (h : OwnB w base us bb) : us.length = bb.length := h.length




end Go.Proofs.Ytlebbkbbmgmmjad
