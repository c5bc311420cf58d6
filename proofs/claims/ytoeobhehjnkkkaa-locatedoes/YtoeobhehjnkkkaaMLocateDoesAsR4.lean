/-
  Texts joined: AsR4.
-/
import Derived.Test.YtoeobhehjnkkkaaMLocateDoesAsR3
import Derived.Test.YtoeobhehjnkkkaaMLocateDoesAsW19
/-
  The walk over renew of package assign. (Written by as22.py.)
-/
namespace Go.Proofs.Ytoeobhehjnkkkaa
open Go.RowKit
set_option linter.unusedVariables false

/-- New slots of parts, numbered from n on. -/
def newS : List Pt → Int → List Sl
  | [], _ => []
  | p :: r, n => ⟨⟨p.fr, p.to_, n⟩, 0, 0, 0⟩ :: newS r (n + 1)

theorem newS_len : ∀ (l : List Pt) (n : Int), (newS l n).length = l.length
  | [], _ => rfl
  | p :: r, n => by simp [newS, newS_len r]

theorem newS_snoc : ∀ (l : List Pt) (p : Pt) (n : Int), newS (l ++ [p]) n = newS l n ++ [⟨⟨p.fr, p.to_, n + l.length⟩, 0, 0, 0⟩]
  | [], p, n => by simp [newS]
  | q :: l, p, n => by
    show _ :: newS (l ++ [p]) (n + 1) = _
    rw [newS_snoc l p (n + 1)]
    rw [show n + 1 + (l.length : Int) = n + ((q :: l).length : Int) by simp only [List.length_cons]; omega]
    rfl

def renF (b : Bd) (ps : List Pt) : Int × Int := if 1000000000 < b.nx + ps.length then (9, 0) else (0, 0)

def renB (b : Bd) (i j : Nat) (ps : List Pt) : Bd :=
  if 1000000000 < b.nx + ps.length then b else { b with nx := b.nx + ps.length, sl := b.sl.take i ++ newS ps b.nx ++ b.sl.drop j }

/-- The next number is another. -/
theorem BdAt.nxt {w w' : World} {base B : Nat} {b : Bd} {hv sv : Value} {n : Int} (h : BdAt w base B b hv sv) (hB : Blk w' B 80 #[hv, sv, .int .i64 b.tu, .int .i64 n]) (hg : w.grownBy w' (some B)) : BdAt w' base B { b with nx := n } hv sv :=
  ⟨hB, owns_grownO h.hos hg (.inr (owns_off h.hos h.blk (by decide))), owns_grownO h.slo hg (.inr (owns_off h.slo h.blk (by decide))), h.low⟩

/-- Something else that was laid since is written. -/
theorem BdAt.grownN {w w' : World} {base B : Nat} {b : Bd} {hv sv : Value} {o : Option Nat} (h : BdAt w base B b hv sv) (hg : w.grownBy w' o) (h1 : o ≠ some B) (h2 : hv.ownBlock = none ∨ hv.ownBlock ≠ o) (h3 : sv.ownBlock = none ∨ sv.ownBlock ≠ o) : BdAt w' base B b hv sv :=
  ⟨h.blk.grown hg (fun q => h1 q.symm), owns_grownO h.hos hg h2, owns_grownO h.slo hg h3, h.low⟩

/-- The slots are others, in a row of their own. -/
theorem BdAt.rows {w w' W : World} {base B : Nat} {b : Bd} {hv sv sv2 : Value} {sl : List Sl} (h : BdAt w base B b hv sv) (hg : w.grownBy w' sv.ownBlock) (ho : w'.ownsRow base 46 6 sv2 sl.length (slE.vs sl))
    (hB : Blk W B 80 #[hv, sv2, .int .i64 b.tu, .int .i64 b.nx]) (hg2 : w'.grownBy W (some B)) : BdAt W base B { b with sl := sl } hv sv2 := by
  have hne : hv.ownBlock = none ∨ hv.ownBlock ≠ sv.ownBlock := owns_two h.hos h.slo (by decide)
  have hb' : Blk w' B 80 #[hv, sv, .int .i64 b.tu, .int .i64 b.nx] := h.blk.grown hg (owns_off h.slo h.blk (by decide)).symm
  exact ⟨hB, owns_grownO (owns_grownO h.hos hg hne) hg2 (.inr (owns_off (owns_grownO h.hos hg hne) hb' (by decide))), owns_grownO ho hg2 (.inr (owns_off ho hb' (by decide))), h.low⟩

theorem KpB.then {w w1 w2 : World} {B : Nat} {hv sv : Value} (h : KpB w w1 B hv sv) (k : KpB w1 w2 B hv sv) : KpB w w2 B hv sv :=
  ⟨k.os.trans h.os, k.tape.trans h.tape, k.output.trans h.output, Nat.le_trans h.size k.size, fun q hq h1 h2 h3 => (k.block q (Nat.lt_of_lt_of_le hq h.size) h1 h2 h3).trans (h.block q hq h1 h2 h3)⟩

/-- A row of one's own that was laid later lies elsewhere. -/
theorem own_apart {w w' : World} {b1 b2 : Nat} {e1 e2 : TypeId} {K1 K2 : Nat} {v1 v2 : Value} {n1 n2 : Nat} {xs1 xs2 : List Value} (h1 : w.ownsRow b1 e1 K1 v1 n1 xs1) (h2 : w'.ownsRow b2 e2 K2 v2 n2 xs2) (hb : w.heap.size ≤ b2) : v1.ownBlock = none ∨ v1.ownBlock ≠ v2.ownBlock := by
  cases hq : v1.ownBlock with
  | none => exact .inl rfl
  | some z =>
    refine .inr (fun q => ?_)
    have := (h1.lt z hq).2
    have := (h2.lt z q.symm).1
    omega

set_option maxRecDepth 100000 in
set_option maxHeartbeats 8000000 in
theorem renew_any (base B : Nat) (b : Bd) (hv sv : Value) (i j : Nat) (iv jv : Int) (ps : List Pt) (lv : Value) (w : World) (h : BdAt w base B b hv sv) (hbw : base ≤ w.heap.size) (hl : w.ownsRow 0 44 3 lv ps.length (pE.vs ps)) (hp2 : ps.length ≤ 2) (hp0 : 0 < ps.length)
    (hnx : 0 ≤ b.nx ∧ b.nx ≤ 1000000000)
    (hrep : ∀ (W : World) (S : List Sl) (vb vcap base2 : Nat), W.ownsRow base 46 6 sv b.sl.length (slE.vs b.sl) → S.length = ps.length → W.ownsRow base2 46 6 (.slice (some ⟨vb, 0, none⟩) S.length vcap) S.length (slE.vs S) → some vb ≠ sv.ownBlock → base ≤ W.heap.size →
      Calls Try.prog 109 #[sv, .int .i64 iv, .int .i64 jv, .slice (some ⟨vb, 0, none⟩) S.length vcap] W (fun e W' => ∃ v', e = .returned v' ∧ W'.ownsRow base 46 6 v' (b.sl.take i ++ S ++ b.sl.drop j).length (slE.vs (b.sl.take i ++ S ++ b.sl.drop j)) ∧ W.grownBy W' sv.ownBlock)) :
    Calls Try.prog 97 #[.pointer (some ⟨B, 0, none⟩), .int .i64 iv, .int .i64 jv, lv] w (DoneB w base B hv sv (renB b i j ps) (renF b ps)) := by
  obtain ⟨lo, lc, rfl⟩ := owns_shapeA hl
  have hbA := below_allocG w (.cells #[.int .i64 0, .int .i64 0] 30)
  have HR0 := hide (Blk.new w 30 #[.int .i64 0, .int .i64 0])
  have HB0 := hide (h.later hbA)
  have HL0 := hide (owns_laterA hl hbA)
  have HA0 := hide hbA
  have HS0 := hide h.slo
  have HH0 := hide h.hos
  have HNX := hide hnx
  have HP2 := hide hp2
  have HBW := hide hbw
  have HREP := hide hrep
  have HBL := hide h.blk.lt
  obtain ⟨sa, sc, rfl⟩ := owns_shapeA h.slo
  obtain ⟨ha, hc, rfl⟩ := owns_shapeA h.hos
  unfold DoneB
  have b3 := HB0.out.blk.cell 3
  have bl := HB0.out.blk.lt
  simp at b3
  have hw1 : IntKind.i64.wrap (b.nx + (ps.length : Int)) = b.nx + ps.length := by rw [IntKind.wrap_i64]; omega
  generalize hW : w.alloc (.cells #[.int .i64 0, .int .i64 0] 30) = W0 at HR0 HB0 HL0 HA0 b3 bl
  have HW := hide hW
  clear h hl hbA hrep hbw hW
  go_enter Try.func97, Try.ntmps97
  go_upto_region 1 with fail
  rw [HW.out]
  clear HW
  go_upto_if 20 with fail
  by_cases hm : 1000000000 < b.nx + (ps.length : Int)
  case pos =>
    have d1 : decide (1000000000 < b.nx + (ps.length : Int)) = true := decide_eq_true hm
    have HE := hide (show renF b ps = (9, 0) from if_pos hm)
    have HBD := hide (show renB b i j ps = b from if_pos hm)
    clear b3 bl
    go_wp2_with (refine wpList_store_blk rfl rfl rfl rfl HR0.out rfl Try.sizeFaultA rfl ?_; intro w8 hF8 hg8; have HF8 := hide hF8; have HB8 := hide (HB0.out.off HR0.out hg8 (by decide) (by decide) (by decide)); have HA8 := hide (below_grownO HA0.out hg8 (fun k hk => by cases hk; omega) HA0.out.size); clear hF8 hg8)
    refine bodyPost_ret (v := .agg #[.int .i64 9, .int .i64 0]) (results1_cell Try.results97 rfl (run_loadVar_blk HF8.out Try.underlying30 rfl Try.sizeFaultA)) rfl ?_
    exact ⟨by rw [HE.out]; rfl, by rw [HBD.out]; exact ⟨_, _, HB8.out⟩, KpB.of_below HA8.out⟩
  have d1 : decide (1000000000 < b.nx + (ps.length : Int)) = false := decide_eq_false hm
  have HE := hide (show renF b ps = (0, 0) from if_neg hm)
  have HBD := hide (show renB b i j ps = { b with nx := b.nx + ps.length, sl := b.sl.take i ++ newS ps b.nx ++ b.sl.drop j } from if_neg hm)
  go_upto_region 4 with fail
  clear b3 bl d1 hw1
  go_wp2_with fail
  go_loopw [9, 11, 24] (fun xv _ iv wr => ∃ k : Nat, k ≤ ps.length ∧ iv = .int .i64 k ∧ BdAt wr base B { b with nx := b.nx + k } (.slice ha b.hs.length hc) (.slice sa b.sl.length sc) ∧ wr.ownsRow w.heap.size 46 6 xv k (slE.vs (newS (ps.take k) b.nx)) ∧ wr.ownsRow 0 44 3 (.slice lo ps.length lc) ps.length (pE.vs ps) ∧ Blk wr w.heap.size 30 #[.int .i64 0, .int .i64 0] ∧ KpB w wr B (.slice ha b.hs.length hc) (.slice sa b.sl.length sc))
    (fun _ _ iv _ => ps.length - (intOf iv).toNat)
  case atStart => exact ⟨0, by omega, rfl, by simpa using HB0.out, World.ownsRow_nil _ _ _ _, HL0.out, HR0.out, KpB.of_below HA0.out⟩
  case round =>
    obtain ⟨k, hk, rfl, hbd, hxo, hlo, hr, hkp⟩ := hrel
    obtain ⟨xo, xc, rfl⟩ := owns_shapeA hxo
    have HX := hide hxo
    have HLo := hide hlo
    have HR := hide hr
    have HKP := hide hkp
    have HBd := hide hbd
    by_cases hlt : k < ps.length
    · obtain ⟨p, hp⟩ : ∃ p, ps[k]? = some p := ⟨_, List.getElem?_eq_getElem hlt⟩
      obtain ⟨pg, pcap, hpe, _, hpl, hat⟩ := owns_here hlo hp
      simp only [Value.slice.injEq] at hpe
      obtain ⟨rfl, _, rfl⟩ := hpe
      obtain ⟨c0, c1, c2⟩ := hat.part
      have hk1 : (0 : Int) ≤ (k : Int) := by omega
      have hk2 : (k : Int) < (ps.length : Int) := by omega
      have HT := hide (show newS (ps.take (k + 1)) b.nx = newS (ps.take k) b.nx ++ [⟨⟨p.fr, p.to_, b.nx + k⟩, 0, 0, 0⟩] by rw [take_succ_of hp, newS_snoc, List.length_take, Nat.min_eq_left (by omega)])
      have hbT := below_allocG wr (.cells #[.string p.fr, .string p.to_, .int .i64 p.id] 44)
      have HP1 := hide (Blk.new wr 44 #[.string p.fr, .string p.to_, .int .i64 p.id])
      have HB1 := hide (hbd.later hbT)
      have HX1 := hide (owns_laterA hxo hbT)
      have HL1 := hide (owns_laterA hlo hbT)
      have HR1 := hide (hr.later hbT)
      have HA1 := hide hbT
      have hw2 : IntKind.i64.wrap (b.nx + (k : Int) + 1) = b.nx + (k : Int) + 1 := by have := HP2.out; have := HNX.out; rw [IntKind.wrap_i64]; omega
      have hks : wr.heap.size ≥ w.heap.size := hkp.size
      have HLB := hide hpl
      have HRL := hide hr.lt
      have HKP0 := hide hkp
      have HPN := hide (show wr.heap.size ≥ w.heap.size from hks)
      go_upto_region 7 with fail
      generalize hWX : wr.alloc (.cells #[.string p.fr, .string p.to_, .int .i64 p.id] 44) = W1 at HP1 HB1 HX1 HL1 HR1 HA1
      have HWX := hide hWX
      clear hbd hxo hlo hr hkp hat hp c0 c1 c2 hpl hbT hWX
      have b3 := HB1.out.blk.cell 3
      have bl := HB1.out.blk.lt
      simp at b3
      go_upto_region 8 with (refine wpList_store_int (B := wr.heap.size) (k := 2) (q := .i64) (n := b.nx + k) rfl rfl rfl rfl HP1.out (by kernel_rfl) Try.sizeInt1 ?_; intro w2 hP2 hg2; have HP2a := hide (show Blk w2 wr.heap.size 44 #[.string p.fr, .string p.to_, .int .i64 (b.nx + k)] from hP2); have HG2 := hide hg2; clear hP2 hg2)
      have HB2 := hide (HB1.out.off HP1.out HG2.out (by decide) (by decide) (by decide))
      have HX2 := hide (owns_grownO HX1.out HG2.out (.inr (owns_off HX1.out HP1.out (by decide))))
      have HL2 := hide (owns_grownO HL1.out HG2.out (.inr (fun q => by have := (owns_pos HL1.out (by omega)); obtain ⟨g2, _, _, e2, _, h2, _⟩ := this; rw [e2] at q; simp only [Value.ownBlock, Option.some.injEq] at q; have := HLB.out; simp only [Value.slice.injEq, Option.some.injEq, Addr.mk.injEq] at e2; omega)))
      have HR2 := hide (HR1.out.grown HG2.out (fun q => by have := HRL.out; simp at q; omega))
      have HK2 := hide ((KpB.of_below (B := B) (hv := .slice ha b.hs.length hc) (sv := .slice sa b.sl.length sc) HA1.out).step HG2.out (.inr (.inr (.inr (fun k hk => by cases hk; omega)))))
      clear HP1 HB1 HX1 HL1 HR1 HA1 HG2 b3 bl
      have b3 := HB2.out.blk.cell 3
      have bl := HB2.out.blk.lt
      simp at b3
      go_upto_region 9 with (refine wpList_store_int (B := B) (k := 3) (q := .i64) (n := b.nx + k + 1) rfl rfl rfl rfl HB2.out.blk (by kernel_rfl) Try.sizeInt1 ?_; intro w3 hB3 hg3; have HBB := hide (show Blk w3 B 80 #[.slice ha b.hs.length hc, .slice sa b.sl.length sc, .int .i64 b.tu, .int .i64 (b.nx + k + 1)] from hB3); have HG3 := hide hg3; clear hB3 hg3)
      have HB3 := hide (HB2.out.nxt HBB.out HG3.out)
      have HX3 := hide (owns_grownO HX2.out HG3.out (.inr (owns_off HX2.out HB2.out.blk (by decide))))
      have HL3 := hide (owns_grownO HL2.out HG3.out (.inr (owns_off HL2.out HB2.out.blk (by decide))))
      have HR3 := hide (HR2.out.grown HG3.out (fun q => by have := HBL.out; simp at q; omega))
      have HP3 := hide (HP2a.out.grown HG3.out (fun q => by have := HBL.out; simp at q; omega))
      have HK3 := hide (HK2.out.step HG3.out (.inl rfl))
      clear HP2a HB2 HX2 HL2 HR2 HK2 HG3 HBB b3 bl
      have hsz := HK3.out.size
      have hss : w.heap.size ≤ w3.heap.size := by omega
      go_wp2_with (first
        | (refine wpList_load_blk HP3.out Try.underlying44 rfl Try.sizePartA rfl rfl rfl ?_)
        | (at_builtin; refine wpList_append_oneG (E := slE) (c := ⟨⟨p.fr, p.to_, b.nx + k⟩, 0, 0, 0⟩) HX3.out rfl Try.underlying25 infoSlot rfl rfl rfl rfl rfl (by have := HP2.out; omega) (by decide) hss ?_; intro w4v w4 ho4 hb4 hg4; have HO4 := hide ho4; have HG4 := hide hg4; clear ho4 hb4 hg4))
      have hxb : ∀ q, Value.ownBlock (.slice xo k xc) = some q → w.heap.size ≤ q := fun q hq => (HX3.out.lt q hq).1
      have HXB := hide hxb
      clear hxb hss
      go_roundw
      case rel =>
        refine ⟨k + 1, by omega, by go_num, ?_, by rw [HT.out]; exact HO4.out, ?_, ?_, ?_⟩
        · have := HB3.out.grownN HG4.out (fun q => by have := HXB.out B q; have := HBL.out; omega) (own_apart HH0.out HX3.out (Nat.le_refl _)) (own_apart HS0.out HX3.out (Nat.le_refl _))
          simpa [Int.add_assoc] using this
        · exact owns_grownO HL3.out HG4.out (owns_ne HL3.out HX3.out (by decide))
        · exact HR3.out.grown HG4.out (owns_off HX3.out HR3.out (by decide)).symm
        · exact (HKP0.out.then HK3.out).step HG4.out (.inr (.inr (.inr (fun q hq => HXB.out q hq))))
      case measure => simp [intOf]; omega
    have hke : k = ps.length := by omega
    subst hke
    rw [List.take_length] at hxo
    obtain ⟨xg, _, _, hxe, hxb, hxg, _, _, _, _⟩ := owns_pos hxo hp0
    simp only [Value.slice.injEq] at hxe
    obtain ⟨rfl, _, rfl⟩ := hxe
    have hNS : (newS ps b.nx).length = ps.length := newS_len _ _
    have hbs := Nat.le_trans HBW.out hkp.size
    have hsx : some xg ≠ (Value.slice sa b.sl.length sc).ownBlock := fun q => by have := (HS0.out.lt xg q.symm).2; omega
    have HC := hide (HREP.out wr (newS ps b.nx) xg xc w.heap.size hbd.slo hNS (by rw [hNS]; exact hxo) hsx hbs)
    rw [hNS] at HC
    generalize hSL : b.sl.take i ++ newS ps b.nx ++ b.sl.drop j = SL at HC HBD
    have HBD2 := hide hbd
    have HR2 := hide hr
    have HK2 := hide hkp
    have s1 := hbd.blk.cell 1
    have bl := hbd.blk.lt
    simp at s1
    clear hbd hxo hlo hr hkp hxg hbs hsx hNS hlt hk HREP hSL
    go_upto_region 12 with (first
      | (go_at_call 109; refine HC.out.mono ?_; rintro e w5 ⟨v5, rfl, ho5, hg5⟩; obtain ⟨so5, sc5, rfl⟩ := owns_shapeA ho5; have HO5 := hide ho5; have HG5 := hide hg5; have HB5 := hide (HBD2.out.blk.grown hg5 (owns_off HBD2.out.slo HBD2.out.blk (by decide)).symm); clear ho5 hg5)
      | (refine wpList_store_slice (B := B) (k := 1) (ao := so5) (c := sc5) rfl rfl rfl rfl HB5.out rfl Try.sizeSlots ?_; intro w6 hB6 hg6; have HBB := hide (show Blk w6 B 80 #[.slice ha b.hs.length hc, .slice so5 SL.length sc5, .int .i64 b.tu, .int .i64 (b.nx + ps.length)] from hB6); have HG6 := hide hg6; clear hB6 hg6))
    have HBE := hide (HBD2.out.rows HG5.out HO5.out HBB.out HG6.out)
    have HR6 := hide ((HR2.out.grown HG5.out (owns_off HBD2.out.slo HR2.out (by decide)).symm).grown HG6.out (fun q => by have := HBL.out; simp at q; omega))
    have HK6 := hide ((HK2.out.step HG5.out (.inr (.inr (.inl rfl)))).step HG6.out (.inl rfl))
    clear s1 bl
    go_wp2_with (refine wpList_store_blk rfl rfl rfl rfl HR6.out rfl Try.sizeFaultA rfl ?_; intro w8 hF8 hg8; have HF8 := hide hF8; have HB8 := hide (HBE.out.off HR6.out hg8 (by decide) (by decide) (by decide)); have HK8 := hide (HK6.out.step hg8 (.inr (.inr (.inr (fun k hk => by cases hk; omega))))); clear hF8 hg8)
    refine bodyPost_ret (v := .agg #[.int .i64 0, .int .i64 0]) (results1_cell Try.results97 rfl (run_loadVar_blk HF8.out Try.underlying30 rfl Try.sizeFaultA)) rfl ?_
    exact ⟨by rw [HE.out]; rfl, by rw [HBD.out]; exact ⟨_, _, HB8.out⟩, HK8.out⟩

end Go.Proofs.Ytoeobhehjnkkkaa
