/-
  Texts joined: LoW1.
-/
import Derived.Test.YtoeobhehjnkkkaaMLocateDoesAsW6
import Derived.Test.YtoeobhehjnkkkaaMLocateDoes4
/-
  The walks over package locate's checks of what is known.
-/
namespace Go.Proofs.Ytoeobhehjnkkkaa
open Go.RowKit Go.Maps
set_option linter.unusedVariables false

theorem Try.sizeKnown : (Try.prog.info? 61).map (·.size) = some 5 := by kernel_rfl
theorem infoKnown : (Try.prog.info? 61).map (fun i => (i.zero, i.size, i.bytes)) = some (some (.agg #[.string ⟨#[]⟩, .string ⟨#[]⟩, .int .i64 0, .int .i64 0, .int .i64 0]), 5, 56) := by kernel_rfl

theorem AtG.known {w : World} {b off : Nat} {c : Kn} (h : AtG knE w b off c) :
    w.cell? ⟨b, off, none⟩ = some (.string c.p.fr) ∧ w.cell? ⟨b, off + 1, none⟩ = some (.string c.p.to_) ∧ w.cell? ⟨b, off + 2, none⟩ = some (.int .i64 c.p.id) ∧ w.cell? ⟨b, off + 3, none⟩ = some (.int .i64 c.ho) ∧ w.cell? ⟨b, off + 4, none⟩ = some (.int .i64 c.tu) :=
  ⟨h 0 _ rfl, h 1 _ rfl, h 2 _ rfl, h 3 _ rfl, h 4 _ rfl⟩

/-- 'a <= b' as the walk spells it. -/
theorem leS (a b : List UInt8) : (Op.bytesLess a b || (a == b)) = !bLt b a := by rw [← gtS, ← Bool.not_or, Bool.not_not]

theorem codeKn_four {p : Pt} (h : ¬ (40 < p.fr.size ∨ 40 < p.to_.size)) : codeKn p = if (!p.to_.toList.isEmpty && !bLt p.fr.toList p.to_.toList) = true then 5 else 0 := by
  unfold codeKn
  rw [if_neg h]
  simp

set_option maxRecDepth 100000 in
set_option maxHeartbeats 400000 in
theorem partCode_any (p : Pt) (w : World) : Calls Try.prog 49 #[.agg #[.string p.fr, .string p.to_, .int .i64 p.id]] w fun e w' => e = .returned (.int .i64 (codeKn p)) ∧ Below w.heap.size w w' := by
  by_cases h1 : 40 < p.fr.size
  · have HE := hide (codeKn_long (p := p) (.inl h1))
    go_enter Try.func49, Try.ntmps49
    go_wp2_with fail
    go_ret
    exact ⟨by rw [HE.out]; rfl, by go_grown⟩
  · by_cases h2 : 40 < p.to_.size
    · have HE := hide (codeKn_long (p := p) (.inr h2))
      go_enter Try.func49, Try.ntmps49
      go_wp2_with fail
      go_ret
      exact ⟨by rw [HE.out]; rfl, by go_grown⟩
    · have HE := hide (codeKn_four (p := p) (by omega))
      rw [← leS] at HE
      cases h3 : p.to_.toList.isEmpty <;> cases h4 : Op.bytesLess p.to_.toList p.fr.toList <;> cases h5 : (p.to_.toList == p.fr.toList)
      all_goals
        rw [h3, h4, h5] at HE
        go_enter Try.func49, Try.ntmps49
        go_wp2_with fail
        go_ret
        exact ⟨by rw [HE.out]; rfl, by go_grown⟩

set_option maxRecDepth 100000 in
set_option maxHeartbeats 400000 in
theorem isAheadK_any (p q : Pt) (w : World) : Calls Try.prog 78 #[.agg #[.string p.fr, .string p.to_, .int .i64 p.id], .agg #[.string q.fr, .string q.to_, .int .i64 q.id]] w fun e w' => e = .returned (.bool (ahK p q)) ∧ Below w.heap.size w w' := by
  have HE := hide (show ahK p q = (!p.to_.toList.isEmpty && (Op.bytesLess p.to_.toList q.fr.toList || (p.to_.toList == q.fr.toList))) by rw [leS]; rfl)
  cases h3 : p.to_.toList.isEmpty <;> cases h4 : Op.bytesLess p.to_.toList q.fr.toList <;> cases h5 : (p.to_.toList == q.fr.toList)
  all_goals
    rw [h3, h4, h5] at HE
    go_enter Try.func78, Try.ntmps78
    go_wp2_with fail
    go_ret
    exact ⟨by rw [HE.out]; rfl, by go_grown⟩

set_option maxRecDepth 100000 in
set_option maxHeartbeats 1000000 in
theorem codeAtK_any (v : Value) (l : List Kn) (i : Nat) (w : World) (hv : RdG knE w v l) (hi : i < l.length) :
    Calls Try.prog 47 #[v, .int .i64 i] w fun e w' => e = .returned (.int .i64 (codeK l i)) ∧ Below w.heap.size w w' := by
  have HV := hide hv
  obtain ⟨ao, cap, rfl, hc1, hc2⟩ := hv.shape
  unfold maxLen at hc2
  obtain ⟨p, hp⟩ : ∃ p, l[i]? = some p := ⟨_, List.getElem?_eq_getElem hi⟩
  obtain ⟨b, off, rfl, hb, hat⟩ := hv.here hp
  have HAT := hide hat
  obtain ⟨c0, c1, c2, c3, c4⟩ := hat.known
  have hk1 : (0 : Int) ≤ (i : Int) := by omega
  have hk2 : (i : Int) < (l.length : Int) := by omega
  have hgd : l.getD i zeroKn = p := by rw [List.getD_eq_getElem?_getD, hp]; rfl
  have HPC := hide (partCode_any p.p w)
  clear hat hv
  by_cases h0 : codeKn p.p = 0
  · rw [h0] at HPC
    by_cases hi0 : i = 0
    · subst hi0
      simp only [Nat.zero_mul, Nat.add_zero] at c0 c1 c2 c3 c4
      have HE := hide (codeK_ok (l := l) (i := 0) (by rw [hgd]; exact h0) (fun h => absurd h (by omega)))
      clear hp hgd h0
      go_enter Try.func47, Try.ntmps47
      go_wp2_with (go_at_call 49; refine HPC.out.mono ?_; rintro e w1 ⟨rfl, hb1⟩; have HB1 := hide hb1; clear hb1)
      go_quiet (fail)
      go_wp2_with fail
      go_ret
      exact ⟨by rw [HE.out]; rfl, below_drewN HB1.out _⟩
    · obtain ⟨j, hij⟩ : ∃ j, i = j + 1 := ⟨i - 1, by omega⟩
      obtain ⟨q, hq⟩ : ∃ q, l[j]? = some q := ⟨_, List.getElem?_eq_getElem (by omega)⟩
      obtain ⟨b2, off2, hbe, hb2, hat2⟩ := HV.out.here hq
      simp only [Option.some.injEq, Addr.mk.injEq] at hbe
      obtain ⟨rfl, rfl, _⟩ := hbe
      have HAT2 := hide hat2
      have hgq : l.getD j zeroKn = q := by rw [List.getD_eq_getElem?_getD, hq]; rfl
      have HE := hide (show codeK l i = if ahK q.p p.p = true then 0 else 10 by
        cases h2 : ahK q.p p.p
        · rw [if_neg (by decide)]
          exact codeK_tw (by rw [hgd]; exact h0) (by omega) (by rw [hgd, show i - 1 = j by omega, hgq]; exact h2)
        · rw [if_pos rfl]
          exact codeK_ok (by rw [hgd]; exact h0) (fun _ => by rw [hgd, show i - 1 = j by omega, hgq]; exact h2))
      have hw : IntKind.i64.wrap ((i : Int) - 1) = (j : Int) := by rw [IntKind.wrap_i64]; omega
      have hj1 : (0 : Int) ≤ (j : Int) := by omega
      have hj2 : (j : Int) < (l.length : Int) := by omega
      have hjp : decide ((0 : Int) < (i : Int)) = true := decide_eq_true (by omega)
      have hjq : (0 : Int) < (i : Int) := by omega
      have hjn : 0 < i := by omega
      have hjm : decide (0 < i) = true := decide_eq_true hjn
      clear hp hgd h0 hat2 hq hgq hij hi0 c0 c1 c2 c3 c4
      cases h2 : ahK q.p p.p
      all_goals
        rw [h2] at HE
        obtain ⟨c0, c1, c2, c3, c4⟩ := HAT.out.known
        go_enter Try.func47, Try.ntmps47
        go_wp2_with (go_at_call 49; refine HPC.out.mono ?_; rintro e w1 ⟨rfl, hb1⟩; have HB1 := hide hb1; have hbw := Nat.lt_of_lt_of_le hb hb1.size)
        have HK := hide (fun (W : World) (hW : Below w1.heap.size w1 W) => show (W.cell? ⟨b, off + j * 5, none⟩ = some (.string q.p.fr) ∧ W.cell? ⟨b, off + j * 5 + 1, none⟩ = some (.string q.p.to_) ∧ W.cell? ⟨b, off + j * 5 + 2, none⟩ = some (.int .i64 q.p.id)) ∧ W.cell? ⟨b, off + i * 5, none⟩ = some (.string p.p.fr) ∧ W.cell? ⟨b, off + i * 5 + 1, none⟩ = some (.string p.p.to_) ∧ W.cell? ⟨b, off + i * 5 + 2, none⟩ = some (.int .i64 p.p.id) by
          have hb3 := HB1.out.trans (hW.mono HB1.out.size)
          obtain ⟨c0, c1, c2, c3, c4⟩ := (HAT.out.below hb3).known
          obtain ⟨d0, d1, d2, d3, d4⟩ := (HAT2.out.below hb3).known
          exact ⟨⟨d0, d1, d2⟩, c0, c1, c2⟩)
        clear hb1 c0 c1 c2 c3 c4
        go_region_held3 (fun W => (W.cell? ⟨b, off + j * 5, none⟩ = some (.string q.p.fr) ∧ W.cell? ⟨b, off + j * 5 + 1, none⟩ = some (.string q.p.to_) ∧ W.cell? ⟨b, off + j * 5 + 2, none⟩ = some (.int .i64 q.p.id)) ∧ W.cell? ⟨b, off + i * 5, none⟩ = some (.string p.p.fr) ∧ W.cell? ⟨b, off + i * 5 + 1, none⟩ = some (.string p.p.to_) ∧ W.cell? ⟨b, off + i * 5 + 2, none⟩ = some (.int .i64 p.p.id)) (exact HK.out _ (by go_grown)) (first
          | (go_at_call 78; refine (isAheadK_any q.p p.p _).mono ?_; rintro e w2 ⟨rfl, hb2⟩; have hb12 : Below w1.heap.size w1 w2 := Below.trans (by go_grown) hb2; rw [h2]))
        go_wp2_with fail
        go_ret
        exact ⟨by rw [HE.out]; rfl, HB1.out.trans (hb12.mono HB1.out.size)⟩
  · have HE := hide (codeK_own (l := l) (i := i) (by rw [hgd]; exact h0))
    rw [hgd] at HE
    have q1 : (codeKn p.p == 0) = false := beq_eq_false_iff_ne.2 h0
    clear h0 hp
    go_enter Try.func47, Try.ntmps47
    go_wp2_with (go_at_call 49; refine HPC.out.mono ?_; rintro e w1 ⟨rfl, hb1⟩; have HB1 := hide hb1; clear hb1)
    go_quiet (fail)
    go_wp2_with fail
    go_ret
    exact ⟨by rw [HE.out]; rfl, below_drewN HB1.out _⟩

set_option maxRecDepth 100000 in
set_option maxHeartbeats 1000000 in
theorem KCheck_any (v : Value) (l : List Kn) (w : World) (hv : RdG knE w v l) :
    Calls Try.prog 22 #[v] w fun e w' => e = .returned (flt (chkK l)) ∧ Below w.heap.size w w' := by
  have HV := hide hv
  obtain ⟨ao, cap, rfl, hc1, hc2⟩ := hv.shape
  unfold maxLen at hc2
  have HR0 := hide (Blk.new w 30 #[.int .i64 0, .int .i64 0])
  have HB0 := hide (below_allocG w (.cells #[.int .i64 0, .int .i64 0] 30))
  clear hv
  by_cases hm : 200 < l.length
  · have HE := hide (show chkK l = (2, -1) by rw [chkK, if_pos hm])
    go_enter Try.func22, Try.ntmps22
    go_wp2_with (refine wpList_store_blk rfl rfl rfl rfl HR0.out rfl Try.sizeFaultA rfl ?_; intro w8 hR8 hg8; have HR8 := hide hR8; have HB8 := hide (below_grownO HB0.out hg8 (fun k hk => by cases hk; omega) HB0.out.size); clear hR8 hg8)
    refine bodyPost_ret (v := .agg #[.int .i64 (2), .int .i64 (-1)]) (results1_cell Try.results22 rfl (run_loadVar_blk HR8.out Try.underlying30 rfl Try.sizeFaultA)) rfl ?_
    exact ⟨by rw [HE.out]; rfl, HB8.out⟩
  · have HE := hide (show chkK l = chkKGo l l.length 0 by rw [chkK, if_neg hm])
    go_enter Try.func22, Try.ntmps22
    go_wp2_with fail
    go_loopw [11] (fun iv wr => ∃ k : Nat, k ≤ l.length ∧ iv = .int .i64 k ∧ chkKGo l (l.length - k) k = chkKGo l l.length 0 ∧ Blk wr w.heap.size 30 #[.int .i64 0, .int .i64 0] ∧ Below w.heap.size w wr)
      (fun iv _ => l.length - (intOf iv).toNat)
    case atStart => exact ⟨0, by omega, rfl, rfl, HR0.out, HB0.out⟩
    case round =>
      obtain ⟨k, hk, rfl, hgo, hrr, hbr⟩ := hrel
      have HRr := hide hrr
      have HG := hide (HE.out.trans hgo.symm)
      have HB := hide hbr
      clear hgo hrr
      by_cases hlt : k < l.length
      · have HC := hide (codeAtK_any _ l k wr (HV.out.below hbr) hlt)
        have hk1 : (0 : Int) ≤ (k : Int) := by omega
        have hk2 : (k : Int) < (l.length : Int) := by omega
        rw [show l.length - k = (l.length - (k + 1)) + 1 by omega] at HG
        clear hbr
        by_cases h0 : codeK l k = 0
        · rw [chkKGo_ok h0] at HG
          rw [h0] at HC
          clear h0
          go_wp2_with (go_at_call 47; refine HC.out.mono ?_; rintro e w1 ⟨rfl, hb1⟩; have HB1 := hide (HB.out.trans (hb1.mono HB.out.size)); have HR1 := hide (HRr.out.later hb1); clear hb1)
          go_roundw
          case rel => exact ⟨k + 1, by omega, by go_num, by rw [← HG.out, HE.out], HR1.out, HB1.out⟩
          case measure => simp [intOf]; omega
        · rw [chkKGo_no h0] at HG
          have q1 : (codeK l k == 0) = false := beq_eq_false_iff_ne.2 h0
          have h0' := h0
          clear h0
          have q2 : (codeK l k != 0) = true := by simp [h0']
          clear h0'
          go_wp2_with (first
            | (go_at_call 47; refine HC.out.mono ?_; rintro e w1 ⟨rfl, hb1⟩; have HB1 := hide (HB.out.trans (hb1.mono HB.out.size)); have HR1 := hide (HRr.out.later hb1); clear hb1)
            | (refine wpList_store_blk rfl rfl rfl rfl HR1.out rfl Try.sizeFaultA rfl ?_; intro w8 hR8 hg8; have HR8 := hide hR8; have HB8 := hide (below_grownO HB1.out hg8 (fun k hk => by cases hk; omega) HB1.out.size); clear hR8 hg8))
          refine bodyPost_ret (v := .agg #[.int .i64 (codeK l k), .int .i64 (k)]) (results1_cell Try.results22 rfl (run_loadVar_blk HR8.out Try.underlying30 rfl Try.sizeFaultA)) rfl ?_
          exact ⟨by rw [HG.out]; rfl, HB8.out⟩
      · have hke : k = l.length := by omega
        subst hke
        rw [Nat.sub_self] at HG
        clear hbr
        go_wp2_with (refine wpList_store_blk rfl rfl rfl rfl HRr.out rfl Try.sizeFaultA rfl ?_; intro w8 hR8 hg8; have HR8 := hide hR8; have HB8 := hide (below_grownO HB.out hg8 (fun k hk => by cases hk; omega) HB.out.size); clear hR8 hg8)
        refine bodyPost_ret (v := .agg #[.int .i64 (0), .int .i64 (0)]) (results1_cell Try.results22 rfl (run_loadVar_blk HR8.out Try.underlying30 rfl Try.sizeFaultA)) rfl ?_
        exact ⟨by rw [HG.out]; rfl, HB8.out⟩

end Go.Proofs.Ytoeobhehjnkkkaa
