/-
  The walk over the law EntryStays.
-/
import Derived.Test.YtpojgcjigjenoagEntB
namespace Go.Proofs.Ytpojgcjigjenoag
open Go.RowKit
set_option linter.unusedVariables false

theorem putX_ne {l m : List Et} {n t : Int} (h : (putX l n t m).1 ≠ 0) : putI l n t m = false ∧ putL l n t m = [] := by
  unfold putX at h
  unfold putI putL
  by_cases h1 : (ptF l n t m).1 ≠ 0
  · rw [if_pos h1, if_pos h1]; exact ⟨rfl, rfl⟩
  · rw [if_neg h1] at h
    rw [if_neg h1, if_neg h1]
    by_cases h2 : hasE l n.toNat t = false
    · rw [if_pos h2] at h; simp at h
    · rw [if_neg h2] at h
      rw [if_neg h2, if_neg h2, if_pos h, if_pos h]
      exact ⟨rfl, rfl⟩

theorem put_same {l m : List Et} {n t : Int} (h : (putX l n t m).1 = 0) (hi : putI l n t m = false) : putL l n t m = l := by
  unfold putX at h
  unfold putI at hi
  unfold putL
  by_cases h1 : (ptF l n t m).1 ≠ 0
  · rw [if_pos h1] at h; contradiction
  · rw [if_neg h1] at h hi
    rw [if_neg h1]
    by_cases h2 : hasE l n.toNat t = false
    · rw [if_pos h2]
    · rw [if_neg h2] at h hi
      rw [if_neg (by simpa using h)] at hi
      contradiction

/-- What a Put that was done tells. -/
structure Done (l m : List Et) (n t : Int) (N : Nat) : Prop where
  at_ : n = (N : Int)
  has : hasE l N t = true
  le : N ≤ l.length
  eq : putL l n t m = putGo l N m
  ok : (chkE (putGo l N m)).1 = 0
  l0 : (chkE l).1 = 0
  m0 : (chkE m).1 = 0
  nn : numL n = true
  nt : numL t = true

theorem put_yes {l m : List Et} {n t : Int} (hi : putI l n t m = true) : Done l m n t n.toNat := by
  unfold putI at hi
  have e : putL l n t m = if (ptF l n t m).1 ≠ 0 then [] else if hasE l n.toNat t = false then l else if (outF (putGo l n.toNat m)).1 ≠ 0 then [] else putGo l n.toNat m := rfl
  by_cases h1 : (ptF l n t m).1 ≠ 0
  · rw [if_pos h1] at hi; contradiction
  rw [if_neg h1] at hi e
  by_cases h2 : hasE l n.toNat t = false
  · rw [if_pos h2] at hi; contradiction
  rw [if_neg h2] at hi e
  by_cases h3 : (outF (putGo l n.toNat m)).1 ≠ 0
  · rw [if_pos h3] at hi; contradiction
  rw [if_neg h3] at e
  obtain ⟨k1, k2, k3, k4⟩ := ptF_ok (by simpa using h1)
  have h2' : hasE l n.toNat t = true := by simpa using h2
  obtain ⟨n0, _⟩ := numL_iff.1 k3
  refine ⟨by omega, h2', hasE_le h2', e, ?_, k1, k2, k3, k4⟩
  unfold outF at h3
  by_cases h4 : (chkE (putGo l n.toNat m)).1 = 0 ∨ (chkE (putGo l n.toNat m)).1 = 2
  · rw [if_pos h4] at h3; simpa using h3
  · rw [if_neg h4] at h3; simp at h3

theorem put_again {l m : List Et} {n t : Int} {N : Nat} (h : Done l m n t N) : putX (putGo l N m) n t m = (0, 0) ∧ putI (putGo l N m) n t m = true ∧ putL (putGo l N m) n t m = putGo l N m := by
  have h1 : ptF (putGo l N m) n t m = (0, 0) := ptF_of h.ok h.m0 h.nn h.nt
  have hN : n.toNat = N := by have := h.at_; omega
  have h2 : hasE (putGo l N m) N t = true := by rw [hasE_take (putGo_take m l N h.le) (Nat.le_refl _)]; exact h.has
  have h3 : outF (putGo l N m) = (0, 0) := by
    unfold outF
    rw [if_pos (.inl h.ok)]
    exact chkE_z _ h.ok
  unfold putX putI putL
  rw [h1, hN, h2, putGo_twice h.le, h3]
  exact ⟨rfl, rfl, rfl⟩

/-- Is what is put there already, as far as was looked? -/
def thB (l m : List Et) (N i : Nat) : Bool := decide (N + m.length ≤ l.length) && thr l N (m.take i)

theorem thB_zero {l m : List Et} {N : Nat} : thB l m N 0 = decide (N + m.length ≤ l.length) := by simp [thB, thr]
theorem thB_false {l m : List Et} {N i : Nat} {e : Et} (he : m[i]? = some e) (h : thB l m N i = false) : thB l m N (i + 1) = false := by
  unfold thB at h ⊢
  rw [thr_snoc m l N i e he, ← Bool.and_assoc, h, Bool.false_and]
theorem thB_true {l m : List Et} {N i : Nat} {e : Et} (he : m[i]? = some e) (h : thB l m N i = true) : thB l m N (i + 1) = hasE l (N + i + 1) e.term := by
  unfold thB at h ⊢
  rw [thr_snoc m l N i e he, ← Bool.and_assoc, h, Bool.true_and]
theorem thB_le {l m : List Et} {N i : Nat} (h : thB l m N i = true) : N + m.length ≤ l.length := by
  unfold thB at h
  rw [Bool.and_eq_true] at h
  simpa using h.1
theorem thB_all {l m : List Et} {N : Nat} (hN : N ≤ l.length) : thB l m N m.length = thr l N m := by
  unfold thB
  rw [List.take_length]
  cases h : thr l N m
  · rw [Bool.and_false]
  · rw [Bool.and_true]
    exact decide_eq_true (thr_len m l N hN h)

set_option maxRecDepth 100000 in
set_option maxHeartbeats 8000000 in
theorem entryStays_any (va vb : Value) (n t : Int) (a b : List Et) (w : World) (ha : RdG eE w va a) (hb : RdG eE w vb b) (hn : -9223372036854775808 ≤ n ∧ n ≤ 9223372036854775807) (ht : -9223372036854775808 ≤ t ∧ t ≤ 9223372036854775807) :
    Calls Try.prog 8 #[va, vb, .int .i64 n, .int .i64 t] w fun e w' => e = .returned (.bool true) ∧ Below w.heap.size w w' := by
  have HA := hide ha
  have HB := hide hb
  obtain ⟨ao, acap, rfl, hac, hc2⟩ := ha.shape
  obtain ⟨bo, bcap, rfl, hbc, hd2⟩ := hb.shape
  unfold maxLen at hc2 hd2
  clear ha hb hn ht
  go_enter Try.func8, Try.ntmps8
  go_wp2_with fail
  refine (entryBegun_any _).mono ?_
  rintro e w1 ⟨rfl, hb1⟩
  have HB1 := hide hb1
  clear hb1
  go_wp2_with fail
  refine (vastLog_any ao a.length acap _).mono ?_
  cases hva : vastE a.length
  case true =>
    rintro e w2 ⟨rfl, rfl⟩
    go_wp2_with fail
    go_ret
    exact ⟨rfl, HB1.out⟩
  rintro e w2 ⟨rfl, rfl⟩
  go_wp2_with fail
  refine (vastLog_any bo b.length bcap _).mono ?_
  cases hvb : vastE b.length
  case true =>
    rintro e w2 ⟨rfl, rfl⟩
    go_wp2_with fail
    go_ret
    exact ⟨rfl, HB1.out⟩
  rintro e w2 ⟨rfl, rfl⟩
  clear hva hvb
  go_wp2_with fail
  refine (Put_any _ _ a b n t _ (HA.out.below HB1.out) (HB.out.below HB1.out)).mono ?_
  have HNE := hide (fun h => putX_ne (l := a) (m := b) (n := n) (t := t) h)
  have HSA := hide (fun h h' => put_same (l := a) (m := b) (n := n) (t := t) h h')
  have HYE := hide (fun h => put_yes (l := a) (m := b) (n := n) (t := t) h)
  generalize hPI : putI a n t b = I at *
  generalize hPX : putX a n t b = X at *
  generalize hPL : putL a n t b = L at *
  have HPL := hide hPL
  obtain ⟨x, y⟩ := X
  rintro e w2 ⟨v2, rfl, hr2, hb2⟩
  obtain ⟨so, sc, rfl, hs1, hs2⟩ := hr2.shape
  unfold maxLen at hs2
  have HL2 := hide hr2
  have HB2 := hide (HB1.out.trans (hb2.mono HB1.out.size))
  clear hr2 hb2 hPI hPX hPL
  unfold flt
  by_cases hx : x ≠ 0
  · obtain ⟨rfl, rfl⟩ := HNE.out hx
    have hq : (x == 0) = false := beq_eq_false_iff_ne.2 hx
    have hq2 : (x != 0) = true := by simp [hx]
    have hbw := HB2.out
    have hbs := HB2.out.size
    clear hx
    go_wp2_with fail
    go_ret
    exact ⟨by simp, by go_grown⟩
  obtain rfl : x = 0 := Decidable.not_not.1 hx
  clear hx HNE
  have HF3 := hide (Blk.new w2 29 #[.int .i64 0, .int .i64 y])
  have HBz := hide (below_allocG w2 (.cells #[.int .i64 0, .int .i64 y] 29))
  have HB3 := hide (HB2.out.trans (HBz.out.mono HB2.out.size))
  have HL3 := hide (HL2.out.below HBz.out)
  have hsz3 : w2.heap.size < (w2.alloc (.cells #[.int .i64 0, .int .i64 y] 29)).heap.size := HF3.out.lt
  cases I
  · obtain rfl : L = a := HSA.out rfl rfl
    have HSL := hide (SameLog_any _ _ L _ HL3.out (HA.out.below HB3.out))
    go_wp2_with fail
    refine HSL.out.mono ?_
    rintro e w4 ⟨rfl, hb4⟩
    have HB4 := hide (HB3.out.trans (hb4.mono HB3.out.size))
    clear hb4
    go_wp2_with fail
    go_ret
    exact ⟨rfl, HB4.out⟩
  have HD := hide (HYE.out rfl)
  generalize hN : n.toNat = N at *
  obtain rfl : n = (N : Int) := HD.out.at_
  have HLE := hide (HPL.out.symm.trans HD.out.eq)
  have hNa := HD.out.le
  have hla := (chkE_fine HD.out.l0).2
  have hlb := (chkE_fine HD.out.m0).2
  have HGE := hide (show N + b.length ≤ L.length by rw [HLE.out]; exact putGo_ge hNa)
  have HTK := hide (show L.take N = a.take N by rw [HLE.out]; exact putGo_take b a N hNa)
  have HTP := hide (show thr L N b = true by rw [HLE.out]; exact thr_put b a N hNa)
  have hll : L.length ≤ 200 := by rw [HLE.out]; have := putGo_len b a N; omega
  have hge := HGE.out
  clear hN HSA HYE
  have HA3 := hide (HA.out.below HB3.out)
  have HBB3 := hide (HB.out.below HB3.out)
  go_upto_region 10 with fail
  generalize hW3 : w2.alloc (.cells #[.int .i64 0, .int .i64 y] 29) = w3 at HF3 HB3 HL3 HA3 HBB3 hsz3 ⊢
  clear hW3 HBz
  go_cut [73] (fun x wc => x = .bool false ∧ Below w3.heap.size w3 wc)
  case first =>
    have hsl1 := run_slice_uptoK (K := 2) (P := Try.prog) Try.underlying59 (by kernel_rfl) infoEntry so L.length sc N N rfl (by omega)
    have hsl2 := run_slice_uptoK (K := 2) (P := Try.prog) Try.underlying59 (by kernel_rfl) infoEntry ao a.length acap N N rfl (by omega)
    have hr1 := HL3.out.upto (hi := N) (by omega)
    have hr2 := HA3.out.upto (hi := N) hNa
    rw [HTK.out] at hr1
    obtain ⟨x1, hx1⟩ : ∃ x, Go.sliced so 0 N sc 2 = x := ⟨_, rfl⟩
    obtain ⟨x2, hx2⟩ : ∃ x, Go.sliced ao 0 N acap 2 = x := ⟨_, rfl⟩
    rw [hx1] at hsl1 hr1
    rw [hx2] at hsl2 hr2
    have HSL := hide (fun k => SameLog_q _ _ _ (w3.drewN k) (hr1.drewN k) (hr2.drewN k))
    have hd1 : decide ((N : Int) < 0) = false := decide_eq_false (by omega)
    have hd2 : decide ((a.length : Int) < (N : Int)) = false := decide_eq_false (by omega)
    have hd3 : decide (a.length < N) = false := decide_eq_false (by omega)
    have hwr : IntKind.i64.wrap ((N : Int) + (b.length : Int)) = (N : Int) + (b.length : Int) := by rw [IntKind.wrap_i64]; omega
    have hd4 : decide ((L.length : Int) < (N : Int) + (b.length : Int)) = false := decide_eq_false (by omega)
    have hd5 : decide (L.length < N + b.length) = false := decide_eq_false (by omega)
    have hi1 : (0 : Int) ≤ (N : Int) := by omega
    have hi2 : (N : Int) ≤ (sc : Int) := by omega
    have hi3 : (N : Int) ≤ (acap : Int) := by omega
    clear hx1 hx2 hr1 hr2
    go_quiet (first | (go_at_call 37; exact Calls.quiet_of (HSL.out _)))
    go_wp2_with fail
    go_meet
    case rel => exact ⟨rfl, below_drewN (Below.refl _ _) _⟩
  case rest =>
  obtain ⟨rfl, hbc⟩ := hcut
  have HBc := hide hbc
  have HT0 := hide (thB_zero (l := a) (m := b) (N := N))
  have hwr : IntKind.i64.wrap ((N : Int) + (b.length : Int)) = (N : Int) + (b.length : Int) := by rw [IntKind.wrap_i64]; omega
  clear hbc
  go_wp2_with fail
  go_loopw [12, 13] (fun tv iv wr => ∃ (i : Nat), i ≤ b.length ∧ iv = .int .i64 i ∧ tv = .bool (thB a b N i) ∧ Below w3.heap.size w3 wr)
    (fun _ iv _ => b.length - (intOf iv).toNat)
  case atStart => exact ⟨0, by omega, rfl, by rw [HT0.out]; first | rfl | (simp; done) | (simp; omega), HBc.out⟩
  case round =>
    obtain ⟨i, hi, rfl, rfl, hbr⟩ := hrel
    have HBr := hide hbr
    by_cases hlt : i < b.length
    · obtain ⟨e, he⟩ : ∃ e, b[i]? = some e := ⟨_, List.getElem?_eq_getElem hlt⟩
      obtain ⟨x, hx, hxt⟩ := thr_get b L N HTP.out i e he
      obtain ⟨b1, o1, rfl, hb1, hat1⟩ := HL3.out.here hx
      obtain ⟨b2, o2, rfl, hb2, hat2⟩ := HBB3.out.here he
      obtain ⟨q0, q1⟩ := (hat1.below hbr).ent
      obtain ⟨p0, p1⟩ := (hat2.below hbr).ent
      have hne : (x.term != e.term) = false := by simp [hxt]
      have hk1 : (0 : Int) ≤ (i : Int) := by omega
      have hk2 : (i : Int) < (b.length : Int) := by omega
      have hwi : IntKind.i64.wrap ((N : Int) + (i : Int)) = (N : Int) + (i : Int) := by rw [IntKind.wrap_i64]; omega
      have hk3 : (0 : Int) ≤ (N : Int) + (i : Int) := by omega
      have hk4 : (N : Int) + (i : Int) < (L.length : Int) := by omega
      have hto : ((N : Int) + (i : Int)).toNat = N + i := by omega
      have HHE := hide he
      clear hat1 hat2 he hx hxt
      go_wp2_with fail
      go_quiet (fail)
      cases htb : thB a b N i
      · have HTN := hide (thB_false HHE.out htb)
        clear htb hbr
        go_wp2_with fail
        go_quiet (fail)
        go_wp2_with fail
        go_roundw
        case rel => exact ⟨i + 1, by omega, by go_num, by rw [HTN.out], below_drewN HBr.out _⟩
        case measure => simp [intOf]; omega
      · have HTN := hide (thB_true HHE.out htb)
        have hle2 := thB_le htb
        obtain ⟨f, hf⟩ : ∃ f, a[N + i]? = some f := ⟨_, List.getElem?_eq_getElem (by omega)⟩
        have HTM := hide (HTN.out.trans (hasE_some hf))
        obtain ⟨b3, o3, rfl, hb3, hat3⟩ := HA3.out.here hf
        obtain ⟨r0, r1⟩ := (hat3.below hbr).ent
        have hk5 : (N : Int) + (i : Int) < (a.length : Int) := by omega
        clear htb hbr hat3 hf
        go_wp2_with fail
        go_quiet (fail)
        go_wp2_with fail
        go_roundw
        case rel => exact ⟨i + 1, by omega, by go_num, by rw [HTM.out]; first | rfl | simp, below_drewN HBr.out _⟩
        case measure => simp [intOf]; omega
    · have hie : i = b.length := by omega
      subst hie
      have HTA := hide (thB_all (l := a) (m := b) hNa)
      have HFr := hide (HF3.out.later hbr)
      have HLr := hide (HL3.out.below hbr)
      have HAr := hide (HA3.out.below hbr)
      have HBBr := hide (HBB3.out.below hbr)
      have HBWr := hide (HB3.out.trans (hbr.mono HB3.out.size))
      have HAG := hide (put_again HD.out)
      rw [← HLE.out] at HAG
      obtain ⟨g1, g2, g3⟩ := HAG.out
      have hfl := HFr.out.lt
      go_upto_region 19 with fail
      go_cut [12, 135] (fun _ x wc => x = .bool false ∧ Below wr.heap.size wr wc)
      case first =>
        cases hth : thr a N b
        · have HTT := hide (HTA.out.trans hth)
          have hlen : L.length = N + b.length := by rw [HLE.out]; exact putGo_not b a N hNa hth
          have hbn : ((L.length : Int) != (N : Int) + (b.length : Int)) = false := by rw [hlen]; simp
          rw [HTT.out]
          clear hth hlen
          go_wp2_with fail
          go_meet
          case rel => exact ⟨rfl, Below.refl _ _⟩
        · have HTT := hide (HTA.out.trans hth)
          have hLa : L = a := by rw [HLE.out]; exact putGo_there b a N hth
          have hsm := SameLog_any _ _ L _ HLr.out (by rw [hLa]; exact HAr.out)
          have HSM := hide hsm
          rw [HTT.out]
          clear hth hLa hsm
          go_wp2_with fail
          refine HSM.out.mono ?_
          rintro e w5 ⟨rfl, hb5⟩
          have HB5 := hide hb5
          clear hb5
          go_wp2_with fail
          go_meet
          case rel => exact ⟨rfl, HB5.out⟩
      case rest =>
        obtain ⟨rfl, hbd⟩ := hcut
        have HFd := hide (HFr.out.later hbd)
        have HLd := hide (HLr.out.below hbd)
        have HBd := hide (HBBr.out.below hbd)
        have HBWd := hide (HBWr.out.trans (hbd.mono HBWr.out.size))
        have hp2 := Put_any _ _ L b (N : Int) t _ HLd.out HBd.out
        rw [g1, g2, g3] at hp2
        have HP2 := hide hp2
        have HCK := hide HD.out.ok
        rw [← HLE.out] at HCK
        clear hp2 hbd hbr g1 g2 g3 HAG
        go_wp2_with fail
        refine HP2.out.mono ?_
        rintro e w6 ⟨v6, rfl, hr6, hb6⟩
        obtain ⟨so6, sc6, rfl, _, _⟩ := hr6.shape
        have HF6 := hide (HFd.out.later hb6)
        have HL6 := hide (HLd.out.below hb6)
        have HM6 := hide hr6
        have HB6 := hide (HBWd.out.trans (hb6.mono HBWd.out.size))
        have hf6 := HF6.out.lt
        clear hr6 hb6
        unfold flt
        go_upto_region 22 with (refine wpList_store_blk rfl rfl rfl rfl HF6.out rfl Try.sizeFaultE rfl ?_; intro w7 hF7 hg7; have HF7 := hide hF7; have HL7 := hide (HL6.out.grownEnt hg7 HF6.out); have HM7 := hide (HM6.out.grownEnt hg7 HF6.out); have HB7 := hide (below_grownO HB6.out hg7 (fun k hk => by cases hk; have := HB2.out.size; omega) HB6.out.size); clear hF7 hg7)
        have f0 := HF7.out.cell 0
        have f2 := HF7.out.lt
        simp at f0
        have HSM := hide (SameLog_any _ _ L _ HM7.out HL7.out)
        have hz : chkE L = (0, 0) := chkE_z L HCK.out
        have HZ := hide hz
        have hfld : ∀ (x y : Int) W, (Instr.field 29 (.agg #[.int .i64 x, .int .i64 y]) 0).run Try.prog W = .ok (.int .i64 x) W := fun x y W => by kernel_rfl
        clear hz
        go_wp2_with fail
        refine HSM.out.mono ?_
        rintro e w8 ⟨rfl, hb8⟩
        have hck := ECheck_any _ L _ (HL7.out.below hb8)
        rw [HZ.out] at hck
        have HCK2 := hide hck
        have HB8 := hide (HB7.out.trans (hb8.mono HB7.out.size))
        clear hb8 hck
        go_wp2_with fail
        refine HCK2.out.mono ?_
        rintro e w9 ⟨rfl, hb9⟩
        have HB9 := hide (HB8.out.trans (hb9.mono HB8.out.size))
        clear hb9
        unfold flt
        go_wp2_with fail
        go_ret
        exact ⟨rfl, HB9.out⟩

end Go.Proofs.Ytpojgcjigjenoag
