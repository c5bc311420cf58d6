/-
  Texts joined: LawLoDoes.
-/
import Derived.Test.YtoeobhehjnkkkaaMLocateDoesLoD1
/-
  The walk over the statement LocateDoes. (Written by lold2.py.)
-/
namespace Go.Proofs.Ytoeobhehjnkkkaa
open Go.RowKit Go.Maps
set_option linter.unusedVariables false

/-- What the document's loop has found ahead of place n. -/
def Fnd (l : List Kn) (row : ByteArray) (n : Nat) (a : Int) (h : Bool) : Prop :=
  (h = false ∧ a = 0 ∧ ∀ j x, j < n → l[j]? = some x → inB row x.p.fr x.p.to_ = false) ∨ (h = true ∧ ∃ i x, i < n ∧ a = (i : Int) ∧ l[i]? = some x ∧ inB row x.p.fr x.p.to_ = true)

theorem idxP_noneK {α : Type} {f : α → Bool} : ∀ {l : List α} {i : Nat}, (∀ (j : Nat) (x : α), l[j]? = some x → f x = false) → idxP f l i = none
  | [], _, _ => rfl
  | y :: r, i, h => by
    rw [idxP_no (h 0 y rfl)]
    exact idxP_noneK fun j x hx => h (j + 1) x (by simpa using hx)

theorem Fnd.last {l : List Kn} {row : ByteArray} {a : Int} {h : Bool} (hk : FineK l) (hf : Fnd l row l.length a h) : lookP l row = (a, h) := by
  unfold lookP
  rw [if_pos (by rw [chkK_fine hk])]
  unfold lookN havK
  rcases hf with ⟨rfl, rfl, h3⟩ | ⟨rfl, i, x, hi, rfl, hx, hin⟩
  · rw [idxP_noneK (fun j x hx => h3 j x (List.getElem?_eq_some_iff.1 hx).1 hx)]
    rfl
  · rw [idxP_at (i := 0) hx hin (fun j y hj hy => ?_), Nat.zero_add]
    · rfl
    · cases hq : inB row y.p.fr y.p.to_
      · rfl
      · have hj2 := (List.getElem?_eq_some_iff.1 hy).1
        have := hk.once (r := row) (i := i) (j := j) hi hj2 (by rw [List.getD_eq_getElem?_getD, hx]; exact hin) (by rw [List.getD_eq_getElem?_getD, hy]; exact hq)
        omega

theorem Fnd.step {l : List Kn} {row : ByteArray} {n : Nat} {a : Int} {h : Bool} {x : Kn} (hf : Fnd l row n a h) (hx : l[n]? = some x) (hi : inB row x.p.fr x.p.to_ = false) : Fnd l row (n + 1) a h := by
  rcases hf with ⟨rfl, rfl, h3⟩ | ⟨rfl, i, y, h1, rfl, hy, hin⟩
  · refine .inl ⟨rfl, rfl, fun j z hj hz => ?_⟩
    by_cases q : j = n
    · subst q; rw [hx] at hz; cases hz; exact hi
    · exact h3 j z (by omega) hz
  · exact .inr ⟨rfl, i, y, by omega, rfl, hy, hin⟩

/-- What is wrong, as the law reckons it. -/
theorem lrnF_law (l : List Kn) (k : Kn) : lrnF l k = if (chkK l).1 ≠ 0 then chkK l else if codeKn k.p ≠ 0 then (codeKn k.p, -1) else if 200 < (lrnD l k).length then (2, -2) else (0, 0) := by
  unfold lrnF
  by_cases h : (chkK l).1 ≠ 0
  · rw [if_pos h, if_pos h]
  · rw [if_neg h, if_neg h]
    by_cases h2 : codeKn k.p ≠ 0
    · rw [if_pos h2, if_pos h2]
    · rw [if_neg h2, if_neg h2, lrnD_eq]
      · intro x hx
        have hk := fine_chkK (Decidable.not_not.1 h)
        exact (fineK_iff.1 hk).2.1 x hx
      · exact Decidable.not_not.1 h2

theorem lrnL_law {l : List Kn} {k : Kn} (h : (lrnF l k).1 = 0) : lrnL l k = lrnD l k := by
  unfold lrnL
  rw [if_pos h]
  unfold lrnF at h
  split at h
  · rename_i q; exact absurd h q
  · split at h
    · rename_i q; exact absurd h q
    · rename_i q1 q2
      have hk := fine_chkK (Decidable.not_not.1 q1)
      exact (lrnD_eq (fun x hx => (fineK_iff.1 hk).2.1 x hx) (Decidable.not_not.1 q2)).symm

set_option maxRecDepth 100000 in
set_option maxHeartbeats 16000000 in
theorem locateDoes_any (v : Value) (l : List Kn) (row : ByteArray) (k : Kn) (w : World) (hv : RdG knE w v l) :
    Calls Try.prog 6 #[v, .string row, .agg #[.string k.p.fr, .string k.p.to_, .int .i64 k.p.id, .int .i64 k.ho, .int .i64 k.tu]] w fun e w' => e = .returned (.bool true) ∧ Below w.heap.size w w' := by
  obtain ⟨hb1, hb2, hb3⟩ := two_atK w #[v] #[.string k.p.fr, .string k.p.to_, .int .i64 k.p.id, .int .i64 k.ho, .int .i64 k.tu] 59 61
  have HX0 := hide hb1
  have HK0 := hide hb2
  have HA0 := hide hb3
  have HL0 := hide (hv.below hb3)
  have HLP : Hid (lookP l row = lookP l row) := hide rfl
  have HFN := hide (fun a h (hk : FineK l) (hf : Fnd l row l.length a h) => hf.last hk)
  have HBAD := hide (fun (hk : (chkK l).1 ≠ 0) => show lookP l row = (0, false) by unfold lookP; rw [if_neg hk])
  have HLF := hide (lrnF_law l k)
  have HLZ := hide (fun h => lrnL_law (l := l) (k := k) h)
  have HLE : Hid ((lrnF l k).1 ≠ 0 → lrnL l k = []) := hide (fun h => by unfold lrnL; rw [if_neg h])
  have HCZ := hide (fun h => chkK_z (l := l) h)
  have HVS := hide hv
  obtain ⟨ao, cap, rfl, hc1, hc2⟩ := hv.shape
  unfold maxLen at hc2
  generalize hW0 : ((w.alloc (.cells #[.slice ao l.length cap] 59)).alloc (.cells #[.string k.p.fr, .string k.p.to_, .int .i64 k.p.id, .int .i64 k.ho, .int .i64 k.tu] 61)) = W0 at HX0 HK0 HA0 HL0
  obtain ⟨px, hpx⟩ : ∃ q : Nat, w.heap.size = q := ⟨_, rfl⟩
  have HLB := hide (locateBegun_any W0)
  clear hv hb1 hb2 hb3
  go_enter Try.func6, Try.ntmps6
  go_upto_region 1 with fail
  clear hW0
  rw [hpx] at HX0 HK0
  go_upto_if 19 with (go_at_call 20; refine HLB.out.mono ?_; rintro e w1 ⟨rfl, hq⟩; have HX1 := hide (HX0.out.later hq); have HK1 := hide (HK0.out.later hq); have HL1 := hide (HL0.out.below hq); have HA1 := hide (HA0.out.trans (hq.mono HA0.out.size)); clear hq)
  clear HX0 HK0 HA0 HL0 HLB
  have x0 := HX1.out.cell 0
  have xl := HX1.out.lt
  simp at x0
  by_cases h400 : 400 < l.length
  · go_wp2_with fail
    go_ret
    exact ⟨rfl, HA1.out⟩
  have hl1 : l.length ≤ 1000 := by omega
  have h400' : ¬ ((400 : Int) < (l.length : Int)) := by omega
  have HL1000 := hide hl1
  have HOK := hide (ownKnown_any _ w1 HL1.out hl1)
  go_upto_region 6 with (go_at_call 21; refine HOK.out.mono ?_; rintro e w2 ⟨v2, rfl, ho2, hq⟩; obtain ⟨o2, k2, rfl⟩ := owns_shapeA ho2; have HX2 := hide (HX1.out.later hq); have HK2 := hide (HK1.out.later hq); have HL2 := hide (HL1.out.below hq); have HA2 := hide (HA1.out.trans (hq.mono HA1.out.size)); have HO2 := hide (RdG.ofOwns ho2); clear ho2 hq)
  clear HX1 HK1 HA1 HL1 HOK x0 xl hl1
  have HC2 := hide (KCheck_any _ l w2 HO2.out)
  generalize hCK : chkK l = CK at *
  obtain ⟨cx, cy⟩ := CK
  have HCKE := hide hCK
  clear hCK
  unfold flt at HC2
  go_upto_region 7 with (go_at_call 22; refine HC2.out.mono ?_; rintro e w3 ⟨rfl, hq⟩; have HX3 := hide (HX2.out.later hq); have HK3 := hide (HK2.out.later hq); have HL3 := hide (HL2.out.below hq); have HO3 := hide (HO2.out.below hq); have HA3 := hide (HA2.out.trans (hq.mono HA2.out.size)); clear hq)
  clear HX2 HK2 HA2 HL2 HO2 HC2
  have hbT := below_allocG w3 (.cells #[.int .i64 cx, .int .i64 cy] 30)
  have HX4 := hide (HX3.out.later hbT)
  have HK4 := hide (HK3.out.later hbT)
  have HL4 := hide (HL3.out.below hbT)
  have HO4 := hide (HO3.out.below hbT)
  have HA4 := hide (HA3.out.trans (hbT.mono HA3.out.size))
  have HF4 := hide (Blk.new w3 30 #[.int .i64 cx, .int .i64 cy])
  generalize hwX : w3.alloc (.cells #[.int .i64 cx, .int .i64 cy] 30) = X4 at HX4 HK4 HL4 HO4 HA4 HF4 ⊢
  obtain ⟨pF, hpF⟩ : ∃ q : Nat, w3.heap.size = q := ⟨_, rfl⟩
  rw [hpF] at HF4 ⊢
  clear hwX hbT HX3 HK3 HL3 HO3 HA3
  have HC4 := hide (Look_any _ l row X4 HO4.out HL1000.out)
  rw [HCKE.out] at HC4
  generalize hLP : lookP l row = LP at *
  obtain ⟨la, lh⟩ := LP
  unfold flt at HC4
  dsimp only at HC4
  clear hLP
  go_upto_region 8 with (go_at_call 23; refine HC4.out.mono ?_; rintro e w5 ⟨rfl, hq⟩; have HX5 := hide (HX4.out.later hq); have HK5 := hide (HK4.out.later hq); have HF5 := hide (HF4.out.later hq); have HL5 := hide (HL4.out.below hq); have HO5 := hide (HO4.out.below hq); have HA5 := hide (HA4.out.trans (hq.mono HA4.out.size)); clear hq)
  clear HX4 HK4 HA4 HL4 HO4 HC4 HF4
  have hbT := below_allocG w5 (.cells #[.int .i64 cx, .int .i64 cy] 30)
  have HX6 := hide (HX5.out.later hbT)
  have HK6 := hide (HK5.out.later hbT)
  have HF6 := hide (HF5.out.later hbT)
  have HL6 := hide (HL5.out.below hbT)
  have HO6 := hide (HO5.out.below hbT)
  have HA6 := hide (HA5.out.trans (hbT.mono HA5.out.size))
  have HG6 := hide (Blk.new w5 30 #[.int .i64 cx, .int .i64 cy])
  generalize hwX : w5.alloc (.cells #[.int .i64 cx, .int .i64 cy] 30) = X6 at HX6 HK6 HF6 HL6 HO6 HA6 HG6 ⊢
  obtain ⟨pG, hpG⟩ : ∃ q : Nat, w5.heap.size = q := ⟨_, rfl⟩
  rw [hpG] at HG6 ⊢
  clear hwX hbT HX5 HK5 HF5 HL5 HO5 HA5
  have HC6 := hide (Learn_any _ l k X6 HO6.out HL1000.out)
  generalize hLF : lrnF l k = LF at *
  obtain ⟨fx, fy⟩ := LF
  generalize hLL : lrnL l k = LL at *
  unfold flt at HC6
  clear hLF hLL
  go_upto_region 9 with (first
    | (refine wpList_load_blk HK6.out Try.underlying61 rfl Try.sizeKnown rfl rfl rfl ?_)
    | (go_at_call 24; refine HC6.out.mono ?_; rintro e w7 ⟨v7, rfl, ho7, hq⟩; obtain ⟨o7, k7, rfl⟩ := owns_shapeA ho7; have HX7 := hide (HX6.out.later hq); have HK7 := hide (HK6.out.later hq); have HF7 := hide (HF6.out.later hq); have HG7 := hide (HG6.out.later hq); have HL7 := hide (HL6.out.below hq); have HO7 := hide (HO6.out.below hq); have HA7 := hide (HA6.out.trans (hq.mono HA6.out.size)); have HM7 := hide (RdG.ofOwns ho7); clear ho7 hq))
  clear HX6 HK6 HA6 HL6 HO6 HC6 HF6 HG6
  have hbT := below_allocG w7 (.cells #[.int .i64 fx, .int .i64 fy] 30)
  have HX8 := hide (HX7.out.later hbT)
  have HK8 := hide (HK7.out.later hbT)
  have HF8 := hide (HF7.out.later hbT)
  have HG8 := hide (HG7.out.later hbT)
  have HL8 := hide (HL7.out.below hbT)
  have HO8 := hide (HO7.out.below hbT)
  have HM8 := hide (HM7.out.below hbT)
  have HA8 := hide (HA7.out.trans (hbT.mono HA7.out.size))
  have HH8 := hide (Blk.new w7 30 #[.int .i64 fx, .int .i64 fy])
  generalize hwX : w7.alloc (.cells #[.int .i64 fx, .int .i64 fy] 30) = X8 at HX8 HK8 HF8 HG8 HL8 HO8 HM8 HA8 HH8 ⊢
  obtain ⟨pH, hpH⟩ : ∃ q : Nat, w7.heap.size = q := ⟨_, rfl⟩
  rw [hpH] at HH8 ⊢
  clear hwX hbT HX7 HK7 HF7 HG7 HL7 HO7 HM7 HA7
  have HC8 := hide (KnownFault_any _ l X8 HL8.out)
  rw [HCKE.out] at HC8
  unfold flt at HC8
  have x0 := HX8.out.cell 0
  have xl := HX8.out.lt
  simp at x0
  go_upto_region 10 with (go_at_call 25; refine HC8.out.mono ?_; rintro e w9 ⟨rfl, hq⟩; have HX9 := hide (HX8.out.later hq); have HK9 := hide (HK8.out.later hq); have HF9 := hide (HF8.out.later hq); have HG9 := hide (HG8.out.later hq); have HH9 := hide (HH8.out.later hq); have HL9 := hide (HL8.out.below hq); have HO9 := hide (HO8.out.below hq); have HM9 := hide (HM8.out.below hq); have HA9 := hide (HA8.out.trans (hq.mono HA8.out.size)); clear hq)
  clear HX8 HK8 HA8 HL8 HO8 HC8 HF8 HG8 HH8 HM8 x0 xl
  have HXS := hide HX9.out
  have HAS := hide HA9.out
  have HKS := hide HK9.out
  have HHS := hide HH9.out
  have HLS := hide HL9.out
  have HMS := hide HM9.out
  have HBS10 := hide (below_allocG w9 (.cells #[.int .i64 cx, .int .i64 cy] 30))
  have hbT := below_allocG w9 (.cells #[.int .i64 cx, .int .i64 cy] 30)
  have HX10 := hide (HX9.out.later hbT)
  have HK10 := hide (HK9.out.later hbT)
  have HF10 := hide (HF9.out.later hbT)
  have HG10 := hide (HG9.out.later hbT)
  have HH10 := hide (HH9.out.later hbT)
  have HL10 := hide (HL9.out.below hbT)
  have HO10 := hide (HO9.out.below hbT)
  have HM10 := hide (HM9.out.below hbT)
  have HA10 := hide (HA9.out.trans (hbT.mono HA9.out.size))
  have HW10 := hide (Blk.new w9 30 #[.int .i64 cx, .int .i64 cy])
  generalize hwX : w9.alloc (.cells #[.int .i64 cx, .int .i64 cy] 30) = X10 at HX10 HK10 HF10 HG10 HH10 HL10 HO10 HM10 HA10 HW10 HBS10 ⊢
  obtain ⟨pW, hpW⟩ : ∃ q : Nat, w9.heap.size = q := ⟨_, rfl⟩
  rw [hpW] at HW10 ⊢
  have HPW := hide hpW
  clear hpW
  clear hwX hbT HX9 HK9 HF9 HG9 HH9 HL9 HO9 HM9 HA9
  have HC10 := hide (SameKnown_eq _ _ l X10 HO10.out HL10.out)
  have x0 := HX10.out.cell 0
  have xl := HX10.out.lt
  simp at x0
  go_upto_if 55 with ((go_at_call 26; refine HC10.out.mono ?_; rintro e w11 ⟨rfl, hq⟩; have HX11 := hide (HX10.out.later hq); have HK11 := hide (HK10.out.later hq); have HF11 := hide (HF10.out.later hq); have HG11 := hide (HG10.out.later hq); have HH11 := hide (HH10.out.later hq); have HW11 := hide (HW10.out.later hq); have HL11 := hide (HL10.out.below hq); have HO11 := hide (HO10.out.below hq); have HM11 := hide (HM10.out.below hq); have HA11 := hide (HA10.out.trans (hq.mono HA10.out.size)); have HBS11 := hide (HBS10.out.trans (hq.mono HBS10.out.size)); clear hq; have f0 := HF11.out.cell 0; have f1 := HF11.out.cell 1; have g0 := HG11.out.cell 0; have g1 := HG11.out.cell 1; have d0 := HW11.out.cell 0; have d1 := HW11.out.cell 1; have fl := HF11.out.lt; have gl := HG11.out.lt; have dl := HW11.out.lt; simp at f0 f1 g0 g1 d0 d1))
  clear HX10 HK10 HF10 HG10 HH10 HW10 HL10 HO10 HM10 HA10 HC10 x0 xl f0 f1 g0 g1 d0 d1 fl gl dl
  go_wp2_with fail
  go_loopw [15, 16, 17] (fun av hv nv wr => ∃ (n : Nat) (a : Int) (h : Bool), n ≤ l.length ∧ nv = .int .i64 n ∧ av = .int .i64 a ∧ hv = .bool h ∧ Fnd l row n a h ∧ (cx ≠ 0 → n = 0) ∧ Below w11.heap.size w11 wr)
    (fun _ _ nv _ => l.length - (intOf nv).toNat)
  case atStart => exact ⟨0, 0, false, by omega, rfl, rfl, rfl, .inl ⟨rfl, rfl, fun j x hj => by omega⟩, fun _ => rfl, Below.refl _ _⟩
  case round =>
    obtain ⟨n, a, h, hn, rfl, rfl, rfl, hf, hcn, hbr⟩ := hrel
    have HFd := hide hf
    have HCN := hide hcn
    clear hf hcn
    have HXr := hide (HX11.out.later hbr)
    have HKr := hide (HK11.out.later hbr)
    have HFr := hide (HF11.out.later hbr)
    have HGr := hide (HG11.out.later hbr)
    have HHr := hide (HH11.out.later hbr)
    have HWr := hide (HW11.out.later hbr)
    have HLr := hide (HL11.out.below hbr)
    have HOr := hide (HO11.out.below hbr)
    have HMr := hide (HM11.out.below hbr)
    have HBr := hide hbr
    have HBSr := hide (HBS11.out.trans (hbr.mono HBS11.out.size))
    have k0 := HKr.out.cell 0
    have k1 := HKr.out.cell 1
    have k2c := HKr.out.cell 2
    have k3 := HKr.out.cell 3
    have k4 := HKr.out.cell 4
    have kl := HKr.out.lt
    simp at k0 k1 k2c k3 k4
    have x0 := HXr.out.cell 0
    have xl := HXr.out.lt
    have d0 := HWr.out.cell 0
    have dl := HWr.out.lt
    simp at x0 d0
    clear hbr
    by_cases hcx : cx = 0
    · subst hcx
      have hcy : cy = 0 := by have := HCZ.out rfl; simpa using this
      subst hcy
      have HFK := hide (fine_chkK (l := l) (by rw [HCKE.out]))
      by_cases hlt : n < l.length
      · obtain ⟨x, hx⟩ : ∃ x, l[n]? = some x := ⟨_, List.getElem?_eq_getElem hlt⟩
        obtain ⟨b, off, rfl, hb, hat⟩ := HLr.out.here hx
        obtain ⟨c0, c1, c2, c3, c4⟩ := hat.known
        have HXX := hide hx
        have hk1 : (0 : Int) ≤ (n : Int) := by omega
        have hk2 : (n : Int) < (l.length : Int) := by omega
        have HIP := hide (InPart_any x.p row wr)
        have HBR := hide (show Below w11.heap.size w11 wr from HBr.out)
        clear hat hx
        cases hq : inB row x.p.fr x.p.to_
        · rw [hq] at HIP
          have HNX := hide (HFd.out.step HXX.out hq)
          go_wp2_with (go_at_call 18; refine HIP.out.mono ?_; rintro e w12 ⟨rfl, hb12⟩; have HB12 := hide (HBR.out.trans (hb12.mono HBR.out.size)); clear hb12)
          go_roundw
          case rel => exact ⟨n + 1, a, h, by omega, by go_num, rfl, rfl, HNX.out, fun q => absurd rfl q, HB12.out⟩
          case measure => simp [intOf]; omega
        · rw [hq] at HIP
          have HNX : Hid (Fnd l row (n + 1) (n : Int) true) := hide (.inr ⟨rfl, n, x, by omega, rfl, HXX.out, hq⟩)
          go_wp2_with (go_at_call 18; refine HIP.out.mono ?_; rintro e w12 ⟨rfl, hb12⟩; have HB12 := hide (HBR.out.trans (hb12.mono HBR.out.size)); clear hb12)
          go_roundw
          case rel => exact ⟨n + 1, n, true, by omega, by go_num, rfl, rfl, HNX.out, fun q => absurd rfl q, HB12.out⟩
          case measure => simp [intOf]; omega
      · have hne : n = l.length := by omega
        subst hne
        have hla := (HFN.out a h HFK.out HFd.out)
        simp only [Prod.mk.injEq] at hla
        obtain ⟨rfl, rfl⟩ := hla
        have hnl : ¬ ((l.length : Int) < (l.length : Int)) := by omega
        have HLF2 := hide (HLF.out.trans (if_neg (by simp)))
        clear HLF HFN HBAD HFd HCN hlt
        go_upto_region 20 with fail
        have HKC := hide (KnownCode_any k wr)
        have HKW := hide (fun W => KnownCode_any k W)
        generalize hCC : codeKn k.p = CC at *
        clear hCC
        by_cases hcc : CC = 0
        · subst hcc
          have HLF3 := hide (HLF2.out.trans (if_neg (by simp)))
          have HLD := hide (fun W (hW : Below wr.heap.size wr W) => LearntR_any _ l k W (HLr.out.below hW) HL1000.out)
          clear HLF2
          generalize hDD : lrnD l k = DD at HLD HLF3
          have HDD := hide hDD
          clear hDD
          by_cases h200 : 200 < DD.length
          · have HLF4 := hide (HLF3.out.trans (if_pos h200))
            have q1 : (200 : Int) < (DD.length : Int) := by omega
            clear HLF3 h200
            have hfe := HLF4.out
            simp only [Prod.mk.injEq] at hfe
            obtain ⟨rfl, rfl⟩ := hfe
            go_upto_region 24 with (first
              | (go_at_call 27; refine (HKC.out).mono ?_; rintro e w12 ⟨rfl, hb12⟩; have HBL12 := hide hb12; have HBS12 := hide (HBSr.out.trans (hb12.mono HBSr.out.size)); have HW12 := hide (HWr.out.later hb12); clear d0 dl k0 k1 k2c k3 k4 kl x0 xl; have hkk := HKS.out.later HBS12.out; have hxx := HXS.out.later HBS12.out; have k0 := hkk.cell 0; have k1 := hkk.cell 1; have k2c := hkk.cell 2; have k3 := hkk.cell 3; have k4 := hkk.cell 4; have kl := hkk.lt; have d0 := HW12.out.cell 0; have dl := HW12.out.lt; have x0 := hxx.cell 0; have xl := hxx.lt; simp at d0 k0 k1 k2c k3 k4 x0; clear hkk hxx; clear hb12)
              | (go_at_call 28; refine (HLD.out _ (HBL12.out)).mono ?_; rintro e w13 ⟨vl, rfl, hol, hb13⟩; obtain ⟨ol, kl2, rfl⟩ := owns_shapeA hol; clear hol; have HBS13 := hide (HBS12.out.trans (hb13.mono HBS12.out.size)); have HW13 := hide (HW12.out.later hb13); clear d0 dl k0 k1 k2c k3 k4 kl x0 xl; have hkk := HKS.out.later HBS13.out; have hxx := HXS.out.later HBS13.out; have k0 := hkk.cell 0; have k1 := hkk.cell 1; have k2c := hkk.cell 2; have k3 := hkk.cell 3; have k4 := hkk.cell 4; have kl := hkk.lt; have d0 := HW13.out.cell 0; have dl := HW13.out.lt; have x0 := hxx.cell 0; have xl := hxx.lt; simp at d0 k0 k1 k2c k3 k4 x0; clear hkk hxx; clear hb13)
              | (go_at_call 11; refine (rF_any (2) (-2) _).mono ?_; rintro e w14 ⟨rfl, hb14⟩; unfold flt; have HBS14 := hide (HBS13.out.trans (hb14.mono HBS13.out.size)); have HW14 := hide (HW13.out.later hb14); clear d0 dl k0 k1 k2c k3 k4 kl x0 xl; have hkk := HKS.out.later HBS14.out; have hxx := HXS.out.later HBS14.out; have k0 := hkk.cell 0; have k1 := hkk.cell 1; have k2c := hkk.cell 2; have k3 := hkk.cell 3; have k4 := hkk.cell 4; have kl := hkk.lt; have d0 := HW14.out.cell 0; have dl := HW14.out.lt; have x0 := hxx.cell 0; have xl := hxx.lt; simp at d0 k0 k1 k2c k3 k4 x0; clear hkk hxx; clear hb14)
              | (refine wpList_store_blk rfl rfl rfl rfl HW14.out rfl Try.sizeFaultA rfl ?_; intro wt hWt hgt; have HWt := hide hWt; have HBSt := hide (below_grownO HBS14.out hgt (fun k hk => by cases hk; have := HPW.out; omega) HBS14.out.size); clear d0 dl k0 k1 k2c k3 k4 kl x0 xl; have hkk := HKS.out.later HBSt.out; have hxx := HXS.out.later HBSt.out; have k0 := hkk.cell 0; have k1 := hkk.cell 1; have k2c := hkk.cell 2; have k3 := hkk.cell 3; have k4 := hkk.cell 4; have kl := hkk.lt; have d0 := HWt.out.cell 0; have dl := HWt.out.lt; have x0 := hxx.cell 0; have xl := hxx.lt; simp at d0 k0 k1 k2c k3 k4 x0; clear hkk hxx; clear hWt hgt))
            have HHf := hide (HHS.out.later HBSt.out)
            have HKA := hide (knownAs_any _ LL (2, -2) _ l k px (px + 1) wt (HMS.out.below HBSt.out) (HXS.out.later HBSt.out) (HKS.out.later HBSt.out) (HLS.out.below HBSt.out) HL1000.out (fun q => HLE.out (by exact q)) (fun q => absurd q (by decide)))
            unfold flt at HKA
            dsimp only at HKA
            go_wp2_with (first
              | (refine wpList_load_blk HHf.out Try.underlying30 rfl Try.sizeFaultA rfl rfl rfl ?_)
              | (refine wpList_load_blk HWt.out Try.underlying30 rfl Try.sizeFaultA rfl rfl rfl ?_)
              | (go_at_call 29; refine HKA.out.mono ?_; rintro e we ⟨rfl, hbe⟩))
            go_ret
            exact ⟨rfl, HAS.out.trans ((HBSt.out.trans (hbe.mono HBSt.out.size)).mono HAS.out.size)⟩
          · have HLF4 := hide (HLF3.out.trans (if_neg h200))
            have q1 : ¬ ((200 : Int) < (DD.length : Int)) := by omega
            clear HLF3 h200
            have hfe := HLF4.out
            simp only [Prod.mk.injEq] at hfe
            obtain ⟨rfl, rfl⟩ := hfe
            go_upto_region 24 with (first
              | (go_at_call 27; refine (HKC.out).mono ?_; rintro e w12 ⟨rfl, hb12⟩; have HBL12 := hide hb12; have HBS12 := hide (HBSr.out.trans (hb12.mono HBSr.out.size)); have HW12 := hide (HWr.out.later hb12); clear d0 dl k0 k1 k2c k3 k4 kl x0 xl; have hkk := HKS.out.later HBS12.out; have hxx := HXS.out.later HBS12.out; have k0 := hkk.cell 0; have k1 := hkk.cell 1; have k2c := hkk.cell 2; have k3 := hkk.cell 3; have k4 := hkk.cell 4; have kl := hkk.lt; have d0 := HW12.out.cell 0; have dl := HW12.out.lt; have x0 := hxx.cell 0; have xl := hxx.lt; simp at d0 k0 k1 k2c k3 k4 x0; clear hkk hxx; clear hb12)
              | (go_at_call 28; refine (HLD.out _ (HBL12.out)).mono ?_; rintro e w13 ⟨vl, rfl, hol, hb13⟩; obtain ⟨ol, kl2, rfl⟩ := owns_shapeA hol; clear hol; have HBS13 := hide (HBS12.out.trans (hb13.mono HBS12.out.size)); have HW13 := hide (HW12.out.later hb13); clear d0 dl k0 k1 k2c k3 k4 kl x0 xl; have hkk := HKS.out.later HBS13.out; have hxx := HXS.out.later HBS13.out; have k0 := hkk.cell 0; have k1 := hkk.cell 1; have k2c := hkk.cell 2; have k3 := hkk.cell 3; have k4 := hkk.cell 4; have kl := hkk.lt; have d0 := HW13.out.cell 0; have dl := HW13.out.lt; have x0 := hxx.cell 0; have xl := hxx.lt; simp at d0 k0 k1 k2c k3 k4 x0; clear hkk hxx; clear hb13))
            have HHf := hide (HHS.out.later HBS13.out)
            have HKA := hide (knownAs_any _ LL (0, 0) _ l k px (px + 1) w13 (HMS.out.below HBS13.out) (HXS.out.later HBS13.out) (HKS.out.later HBS13.out) (HLS.out.below HBS13.out) HL1000.out (fun q => absurd rfl q) (fun q => HLZ.out (by first | trivial | rfl)))
            unfold flt at HKA
            dsimp only at HKA
            go_wp2_with (first
              | (refine wpList_load_blk HHf.out Try.underlying30 rfl Try.sizeFaultA rfl rfl rfl ?_)
              | (refine wpList_load_blk HW13.out Try.underlying30 rfl Try.sizeFaultA rfl rfl rfl ?_)
              | (go_at_call 29; refine HKA.out.mono ?_; rintro e we ⟨rfl, hbe⟩))
            go_ret
            exact ⟨rfl, HAS.out.trans ((HBS13.out.trans (hbe.mono HBS13.out.size)).mono HAS.out.size)⟩
        · have HLF3 := hide (HLF2.out.trans (if_pos hcc))
          have q1 : (CC == 0) = false := beq_eq_false_iff_ne.2 hcc
          have q2 : (CC != 0) = true := by simp [hcc]
          have hcc0 := hcc
          clear HLF2 hcc
          have hfe := HLF3.out
          simp only [Prod.mk.injEq] at hfe
          obtain ⟨rfl, rfl⟩ := hfe
          go_upto_region 24 with (first
            | (go_at_call 27; refine (HKW.out _).mono ?_; rintro e w13 ⟨rfl, hb13⟩; have _u := HBS12.out; have HBS13 := hide (HBS12.out.trans (hb13.mono HBS12.out.size)); have HW13 := hide (HW12.out.later hb13); clear d0 dl k0 k1 k2c k3 k4 kl x0 xl; have hkk := HKS.out.later HBS13.out; have hxx := HXS.out.later HBS13.out; have k0 := hkk.cell 0; have k1 := hkk.cell 1; have k2c := hkk.cell 2; have k3 := hkk.cell 3; have k4 := hkk.cell 4; have kl := hkk.lt; have d0 := HW13.out.cell 0; have dl := HW13.out.lt; have x0 := hxx.cell 0; have xl := hxx.lt; simp at d0 k0 k1 k2c k3 k4 x0; clear hkk hxx; clear hb13)
            | (go_at_call 27; refine (HKC.out).mono ?_; rintro e w12 ⟨rfl, hb12⟩; have HBS12 := hide (HBSr.out.trans (hb12.mono HBSr.out.size)); have HW12 := hide (HWr.out.later hb12); clear d0 dl k0 k1 k2c k3 k4 kl x0 xl; have hkk := HKS.out.later HBS12.out; have hxx := HXS.out.later HBS12.out; have k0 := hkk.cell 0; have k1 := hkk.cell 1; have k2c := hkk.cell 2; have k3 := hkk.cell 3; have k4 := hkk.cell 4; have kl := hkk.lt; have d0 := HW12.out.cell 0; have dl := HW12.out.lt; have x0 := hxx.cell 0; have xl := hxx.lt; simp at d0 k0 k1 k2c k3 k4 x0; clear hkk hxx; clear hb12)
            | (go_at_call 11; refine (rF_any (fx) (-1) _).mono ?_; rintro e w14 ⟨rfl, hb14⟩; unfold flt; have HBS14 := hide (HBS13.out.trans (hb14.mono HBS13.out.size)); have HW14 := hide (HW13.out.later hb14); clear d0 dl k0 k1 k2c k3 k4 kl x0 xl; have hkk := HKS.out.later HBS14.out; have hxx := HXS.out.later HBS14.out; have k0 := hkk.cell 0; have k1 := hkk.cell 1; have k2c := hkk.cell 2; have k3 := hkk.cell 3; have k4 := hkk.cell 4; have kl := hkk.lt; have d0 := HW14.out.cell 0; have dl := HW14.out.lt; have x0 := hxx.cell 0; have xl := hxx.lt; simp at d0 k0 k1 k2c k3 k4 x0; clear hkk hxx; clear hb14)
            | (refine wpList_store_blk rfl rfl rfl rfl HW14.out rfl Try.sizeFaultA rfl ?_; intro wt hWt hgt; have HWt := hide hWt; have HBSt := hide (below_grownO HBS14.out hgt (fun k hk => by cases hk; have := HPW.out; omega) HBS14.out.size); clear d0 dl k0 k1 k2c k3 k4 kl x0 xl; have hkk := HKS.out.later HBSt.out; have hxx := HXS.out.later HBSt.out; have k0 := hkk.cell 0; have k1 := hkk.cell 1; have k2c := hkk.cell 2; have k3 := hkk.cell 3; have k4 := hkk.cell 4; have kl := hkk.lt; have d0 := HWt.out.cell 0; have dl := HWt.out.lt; have x0 := hxx.cell 0; have xl := hxx.lt; simp at d0 k0 k1 k2c k3 k4 x0; clear hkk hxx; clear hWt hgt))
          have HHf := hide (HHS.out.later HBSt.out)
          have HKA := hide (knownAs_any _ LL (fx, -1) _ l k px (px + 1) wt (HMS.out.below HBSt.out) (HXS.out.later HBSt.out) (HKS.out.later HBSt.out) (HLS.out.below HBSt.out) HL1000.out (fun q => HLE.out (by exact q)) (fun q => absurd q hcc0))
          unfold flt at HKA
          dsimp only at HKA
          go_wp2_with (first
            | (refine wpList_load_blk HHf.out Try.underlying30 rfl Try.sizeFaultA rfl rfl rfl ?_)
            | (refine wpList_load_blk HWt.out Try.underlying30 rfl Try.sizeFaultA rfl rfl rfl ?_)
            | (go_at_call 29; refine HKA.out.mono ?_; rintro e we ⟨rfl, hbe⟩))
          go_ret
          exact ⟨rfl, HAS.out.trans ((HBSt.out.trans (hbe.mono HBSt.out.size)).mono HAS.out.size)⟩
    · have hn0 := HCN.out hcx
      subst hn0
      have q1 : (cx == 0) = false := beq_eq_false_iff_ne.2 hcx
      have q2 : (cx != 0) = true := by simp [hcx]
      have hla := HBAD.out hcx
      simp only [Prod.mk.injEq] at hla
      obtain ⟨rfl, rfl⟩ := hla
      have HLF4 := hide (HLF.out.trans (if_pos hcx))
      have hah : a = 0 ∧ h = false := by
        rcases HFd.out with ⟨h1, h2, _⟩ | ⟨_, i, x, hi, _⟩
        · exact ⟨h2, h1⟩
        · omega
      obtain ⟨rfl, rfl⟩ := hah
      have hcx0 := hcx
      clear HLF HFN HBAD HFd HCN hcx
      have hfe := HLF4.out
      simp only [Prod.mk.injEq] at hfe
      obtain ⟨rfl, rfl⟩ := hfe
      by_cases hl0 : 0 < l.length
      · have hl1 : (0 : Int) < (l.length : Int) := by omega
        go_upto_region 24 with fail
        have HKA := hide (knownAs_any _ LL (fx, fy) _ l k px (px + 1) wr HMr.out HXr.out HKr.out HLr.out HL1000.out (fun q => HLE.out (by exact q)) (fun q => absurd q hcx0))
        unfold flt at HKA
        dsimp only at HKA
        go_wp2_with (first
          | (refine wpList_load_blk HHr.out Try.underlying30 rfl Try.sizeFaultA rfl rfl rfl ?_)
          | (refine wpList_load_blk HWr.out Try.underlying30 rfl Try.sizeFaultA rfl rfl rfl ?_)
          | (go_at_call 29; refine HKA.out.mono ?_; rintro e we ⟨rfl, hbe⟩))
        go_ret
        exact ⟨rfl, HAS.out.trans ((HBSr.out.trans (hbe.mono HBSr.out.size)).mono HAS.out.size)⟩
      · have hl1 : ¬ ((0 : Int) < (l.length : Int)) := by omega
        have hl2 : (l.length : Int) = 0 := by omega
        go_upto_region 24 with fail
        have HKA := hide (knownAs_any _ LL (fx, fy) _ l k px (px + 1) wr HMr.out HXr.out HKr.out HLr.out HL1000.out (fun q => HLE.out (by exact q)) (fun q => absurd q hcx0))
        unfold flt at HKA
        dsimp only at HKA
        go_wp2_with (first
          | (refine wpList_load_blk HHr.out Try.underlying30 rfl Try.sizeFaultA rfl rfl rfl ?_)
          | (refine wpList_load_blk HWr.out Try.underlying30 rfl Try.sizeFaultA rfl rfl rfl ?_)
          | (go_at_call 29; refine HKA.out.mono ?_; rintro e we ⟨rfl, hbe⟩))
        go_ret
        exact ⟨rfl, HAS.out.trans ((HBSr.out.trans (hbe.mono HBSr.out.size)).mono HAS.out.size)⟩

end Go.Proofs.Ytoeobhehjnkkkaa
