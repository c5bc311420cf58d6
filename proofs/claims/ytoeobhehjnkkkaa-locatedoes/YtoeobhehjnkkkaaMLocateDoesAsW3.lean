/-
  Texts joined: AsW3.
-/
import Derived.Test.YtoeobhehjnkkkaaMLocateDoesAsW2
/-
  The walks over package assign's checks: codeOf, slotsFault, Check. (Written by as3.py.)
-/
namespace Go.Proofs.Ytoeobhehjnkkkaa
open Go.RowKit Go.Maps
set_option linter.unusedVariables false

theorem two_atA (w : World) (a b : Array Value) (t1 t2 : TypeId) :
    Blk ((w.alloc (.cells a t1)).alloc (.cells b t2)) w.heap.size t1 a ∧ Blk ((w.alloc (.cells a t1)).alloc (.cells b t2)) (w.heap.size + 1) t2 b ∧ Below w.heap.size w ((w.alloc (.cells a t1)).alloc (.cells b t2)) :=
  ⟨Blk.at0of2 w _ _ _, Blk.at1 w _ _ _, below_alloc2 w _ _⟩

theorem field_host (a b : Int) (c : Bool) (W : World) : (Instr.field 42 (.agg #[.int .i64 a, .int .i64 b, .bool c]) 2).run Try.prog W = .ok (.bool c) W := by kernel_rfl

theorem aliveB_eq {l : List Ho} {id : Int} : ((hoM l l.length id).getD (.agg #[.int .i64 0, .int .i64 0, .bool false])) = .agg #[.int .i64 ((hoF l l.length id).getD zeroHo).id, .int .i64 ((hoF l l.length id).getD zeroHo).ep, .bool (aliveB l id)] := by
  unfold hoM aliveB
  cases hoF l l.length id <;> rfl

set_option maxRecDepth 100000 in
set_option maxHeartbeats 4000000 in
theorem codeOfA_any (B n : Nat) (b : Bd) (s : Sl) (hv sv : Value) (w : World) (hm : MpI w B n (hoM b.hs b.hs.length)) (hwf : (Lit.int .i64 s.ho).wf = true) (hh : RdG hoE w hv b.hs) (hs : RdG slE w sv b.sl) :
    Calls Try.prog 100 #[.map (some B), bdV hv sv b, slE.ag s] w fun e w' => e = .returned (.int .i64 (codeS b s)) ∧ Below w.heap.size w w' := by
  obtain ⟨ah, ch, rfl, _, _⟩ := hh.shape
  obtain ⟨as_, cs, rfl, _, _⟩ := hs.shape
  have HC : Hid (codeS b s = if s.st < 0 ∨ 3 < s.st ∨ s.tu < 0 ∨ b.tu < s.tu ∨ s.p.id < 1 ∨ b.nx ≤ s.p.id then 3
    else if s.st = 0 then (if s.ho ≠ 0 then 11 else 0)
    else if aliveB b.hs s.ho = false then 6
    else if s.tu = 0 then 3
    else 0) := hide rfl
  have HLK := hide (run_lookupI (w := ((w.alloc (.cells #[.slice ah b.hs.length ch, .slice as_ b.sl.length cs, .int .i64 b.tu, .int .i64 b.nx] 27)).alloc (.cells #[.string s.p.fr, .string s.p.to_, .int .i64 s.p.id, .int .i64 s.st, .int .i64 s.ho, .int .i64 s.tu] 46))) (id := s.ho) Try.underlying108 (zeroHost _) (hm.later (below_alloc2 _ _ _)) hwf)
  rw [aliveB_eq] at HLK
  clear hh hs hm hwf
  unfold bdV
  rw [show slE.ag s = .agg #[.string s.p.fr, .string s.p.to_, .int .i64 s.p.id, .int .i64 s.st, .int .i64 s.ho, .int .i64 s.tu] from rfl]
  by_cases c0 : s.st < 0
  · have d0 : decide (s.st < 0) = true := decide_eq_true c0
    have HE := hide (HC.out.trans (if_pos (by omega)))
    clear c0
    go_enter Try.func100, Try.ntmps100
    go_wp2_with fail
    go_ret
    exact ⟨by rw [HE.out]; rfl, by go_grown⟩
  have d0 : decide (s.st < 0) = false := decide_eq_false c0
  by_cases c1 : 3 < s.st
  · have d1 : decide (3 < s.st) = true := decide_eq_true c1
    have HE := hide (HC.out.trans (if_pos (by omega)))
    clear c0 c1
    go_enter Try.func100, Try.ntmps100
    go_wp2_with fail
    go_ret
    exact ⟨by rw [HE.out]; rfl, by go_grown⟩
  have d1 : decide (3 < s.st) = false := decide_eq_false c1
  by_cases c2 : s.tu < 0
  · have d2 : decide (s.tu < 0) = true := decide_eq_true c2
    have HE := hide (HC.out.trans (if_pos (by omega)))
    clear c0 c1 c2
    go_enter Try.func100, Try.ntmps100
    go_wp2_with fail
    go_ret
    exact ⟨by rw [HE.out]; rfl, by go_grown⟩
  have d2 : decide (s.tu < 0) = false := decide_eq_false c2
  by_cases c3 : b.tu < s.tu
  · have d3 : decide (b.tu < s.tu) = true := decide_eq_true c3
    have HE := hide (HC.out.trans (if_pos (by omega)))
    clear c0 c1 c2 c3
    go_enter Try.func100, Try.ntmps100
    go_wp2_with fail
    go_ret
    exact ⟨by rw [HE.out]; rfl, by go_grown⟩
  have d3 : decide (b.tu < s.tu) = false := decide_eq_false c3
  by_cases c4 : s.p.id < 1
  · have d4 : decide (s.p.id < 1) = true := decide_eq_true c4
    have HE := hide (HC.out.trans (if_pos (by omega)))
    clear c0 c1 c2 c3 c4
    go_enter Try.func100, Try.ntmps100
    go_wp2_with fail
    go_ret
    exact ⟨by rw [HE.out]; rfl, by go_grown⟩
  have d4 : decide (s.p.id < 1) = false := decide_eq_false c4
  by_cases c5 : b.nx ≤ s.p.id
  · have d5 : decide (b.nx ≤ s.p.id) = true := decide_eq_true c5
    have HE := hide (HC.out.trans (if_pos (by omega)))
    clear c0 c1 c2 c3 c4 c5
    go_enter Try.func100, Try.ntmps100
    go_wp2_with fail
    go_ret
    exact ⟨by rw [HE.out]; rfl, by go_grown⟩
  have d5 : decide (b.nx ≤ s.p.id) = false := decide_eq_false c5
  have HC2 := hide (HC.out.trans (if_neg (by omega)))
  clear HC c0 c1 c2 c3 c4 c5
  by_cases e0 : s.st = 0
  · have f0 : (s.st == 0) = true := by simp [e0]
    have HC3 := hide (HC2.out.trans (if_pos e0))
    clear e0 HC2
    by_cases e1 : s.ho ≠ 0
    · have f1 : (s.ho != 0) = true := by simp [e1]
      have HE := hide (HC3.out.trans (if_pos e1))
      clear e1
      go_enter Try.func100, Try.ntmps100
      go_wp2_with fail
      go_ret
      exact ⟨by rw [HE.out]; rfl, by go_grown⟩
    · have f1 : (s.ho != 0) = false := by simp only [ne_eq, Decidable.not_not] at e1; simp [e1]
      have HE := hide (HC3.out.trans (if_neg e1))
      clear e1
      go_enter Try.func100, Try.ntmps100
      go_wp2_with fail
      go_ret
      exact ⟨by rw [HE.out]; rfl, by go_grown⟩
  have f0 : (s.st == 0) = false := beq_eq_false_iff_ne.2 e0
  have HC3 := hide (HC2.out.trans (if_neg e0))
  have hlk := HLK.out
  have hfd := fun (a b : Int) (c : Bool) (W : World) => field_host a b c W
  clear e0 HC2 HLK
  cases a0 : aliveB b.hs s.ho
  · have HE := hide (HC3.out.trans (if_pos a0))
    rw [a0] at hlk
    clear a0
    go_enter Try.func100, Try.ntmps100
    go_wp2_with fail
    go_ret
    exact ⟨by rw [HE.out]; rfl, by go_grown⟩
  have HC4 := hide (HC3.out.trans (if_neg (by rw [a0]; simp)))
  rw [a0] at hlk
  clear a0 HC3
  by_cases e1 : s.tu = 0
  · have f1 : (s.tu == 0) = true := by simp [e1]
    have HE := hide (HC4.out.trans (if_pos e1))
    clear e1
    go_enter Try.func100, Try.ntmps100
    go_wp2_with fail
    go_ret
    exact ⟨by rw [HE.out]; rfl, by go_grown⟩
  · have f1 : (s.tu == 0) = false := beq_eq_false_iff_ne.2 e1
    have HE := hide (HC4.out.trans (if_neg e1))
    clear e1
    go_enter Try.func100, Try.ntmps100
    go_wp2_with fail
    go_ret
    exact ⟨by rw [HE.out]; rfl, by go_grown⟩

/-- How often the turns of the first k slots were given. -/
def tuM (l : List Sl) (k : Nat) (t : Int) : Option Value := if tuMany l k t = 0 then none else some (.int .i64 (tuMany l k t))

theorem tuM_zero (l : List Sl) : tuM l 0 = fun _ => none := by
  funext t
  simp [tuM, tuMany]

theorem tuM_get (l : List Sl) (k : Nat) (t : Int) : (tuM l k t).getD (.int .i64 0) = .int .i64 (tuMany l k t) := by
  unfold tuM
  by_cases h : tuMany l k t = 0
  · rw [if_pos h, h]; rfl
  · rw [if_neg h]; rfl

theorem tuM_succ {l : List Sl} {k : Nat} {s : Sl} (hs : l[k]? = some s) : tuM l (k + 1) = fun t => if t = s.tu then some (.int .i64 ((tuMany l k s.tu + 1 : Nat) : Int)) else tuM l k t := by
  funext t
  unfold tuM
  rw [tuMany_succ hs]
  by_cases h : t = s.tu
  · subst h; simp
  · rw [if_neg h, if_neg h]

theorem tuMany_le (l : List Sl) (k : Nat) (t : Int) : tuMany l k t ≤ l.length := by
  unfold tuMany
  exact Nat.le_trans (List.length_filter_le _ _) (by rw [List.length_take]; omega)

theorem zeroInt8 (w : World) : (zeroValue 3).run Try.prog w = .ok (.int .i64 0) w := by kernel_rfl

theorem codeS_turn {b : Bd} {s : Sl} (hb : b.tu ≤ 1000000000) (h : codeS b s = 0) : 0 ≤ s.tu ∧ s.tu ≤ 1000000000 := by
  unfold codeS at h
  by_cases c : s.st < 0 ∨ 3 < s.st ∨ s.tu < 0 ∨ b.tu < s.tu ∨ s.p.id < 1 ∨ b.nx ≤ s.p.id
  · rw [if_pos c] at h; cases h
  · omega

set_option maxRecDepth 100000 in
set_option maxHeartbeats 8000000 in
theorem slotsFault_any (B n : Nat) (b : Bd) (hv sv : Value) (w : World) (hm : MpI w B n (hoM b.hs b.hs.length)) (hwf : ∀ s ∈ b.sl, (Lit.int .i64 s.ho).wf = true) (hh : RdG hoE w hv b.hs) (hs : RdG slE w sv b.sl) (hl : b.sl.length ≤ 1000) (htu : b.tu ≤ 1000000000) :
    Calls Try.prog 73 #[bdV hv sv b, .map (some B)] w fun e w' => e = .returned (flt (chkSGo b b.sl.length 0)) ∧ Below w.heap.size w w' := by
  have HH := hide hh
  have HS := hide hs
  have HM := hide hm
  have HWF := hide hwf
  have HL := hide hl
  have HTU := hide htu
  obtain ⟨ah, ch, rfl, _, _⟩ := hh.shape
  obtain ⟨as_, cs, rfl, _, hc2⟩ := hs.shape
  unfold maxLen at hc2
  have hmm := @run_makeMap Try.prog
  obtain ⟨hB0, hR0, hA0⟩ := two_atA w #[.slice ah b.hs.length ch, .slice as_ b.sl.length cs, .int .i64 b.tu, .int .i64 b.nx] #[.int .i64 0, .int .i64 0] 27 30
  generalize hW : ((w.alloc (.cells #[.slice ah b.hs.length ch, .slice as_ b.sl.length cs, .int .i64 b.tu, .int .i64 b.nx] 27)).alloc (.cells #[.int .i64 0, .int .i64 0] 30)) = W at hB0 hR0 hA0
  have hsz : W.heap.size = w.heap.size + 2 := by rw [← hW]; simp
  have hmk := MpI.made W
  rw [hsz] at hmk
  have hbM := below_allocG W (.map #[] 0)
  have HB1 := hide (hB0.later hbM)
  have HR1 := hide (hR0.later hbM)
  have HA1 := hide (hA0.trans (hbM.mono hA0.size))
  have HMK := hide hmk
  have HW := hide hW
  have HSZ := hide hsz
  clear hh hs hm hwf hl htu hB0 hR0 hA0 hmk hbM hsz hW
  unfold bdV
  go_enter Try.func73, Try.ntmps73
  go_wp2_with fail
  rw [HW.out]
  go_loopw [13] (fun i wr => ∃ k : Nat, k ≤ b.sl.length ∧ i = .int .i64 k ∧ chkSGo b (b.sl.length - k) k = chkSGo b b.sl.length 0 ∧ MpI wr (w.heap.size + 2) k (tuM b.sl k) ∧ Blk wr w.heap.size 27 #[.slice ah b.hs.length ch, .slice as_ b.sl.length cs, .int .i64 b.tu, .int .i64 b.nx] ∧ Blk wr (w.heap.size + 1) 30 #[.int .i64 0, .int .i64 0] ∧ Below w.heap.size w wr)
    (fun i _ => b.sl.length - (intOf i).toNat)
  case atStart => exact ⟨0, by omega, rfl, rfl, by rw [tuM_zero]; exact HMK.out, HB1.out, HR1.out, HA1.out⟩
  case round =>
    obtain ⟨k, hk, rfl, hgo, hmap, hbb, hbr, hbel⟩ := hrel
    have HG := hide hgo
    clear hgo
    by_cases hlt : k < b.sl.length
    · have hll := HL.out
      obtain ⟨s, hp⟩ : ∃ s, b.sl[k]? = some s := ⟨_, List.getElem?_eq_getElem hlt⟩
      obtain ⟨g, off, rfl, hb, hat⟩ := HS.out.here hp
      have hbw : g < wr.heap.size := Nat.lt_of_lt_of_le hb hbel.size
      obtain ⟨c0, c1, c2, c3, c4, c5⟩ := (hat.below hbel).slot
      have hk1 : (0 : Int) ≤ (k : Int) := by omega
      have hk2 : (k : Int) < (b.sl.length : Int) := by omega
      have hgd : b.sl.getD k zeroSl = s := by rw [List.getD_eq_getElem?_getD, hp]; rfl
      have HC2 : Hid (codeS2 b k = if codeS b s ≠ 0 then codeS b s else if s.tu ≠ 0 ∧ 0 < tuMany b.sl k s.tu then 10 else 0) := hide (by simp only [codeS2, hgd])
      have hbA := below_allocG wr (.cells #[.string s.p.fr, .string s.p.to_, .int .i64 s.p.id, .int .i64 s.st, .int .i64 s.ho, .int .i64 s.tu] 46)
      have hbelA := hbel.trans (hbA.mono hbel.size)
      have HCO := hide (codeOfA_any B n b s _ _ _ (HM.out.later hbelA) (HWF.out s (List.mem_of_getElem? hp)) (HH.out.below hbelA) (HS.out.below hbelA))
      have HTS := hide (tuM_succ hp)
      have HTL := hide (tuMany_le b.sl k s.tu)
      have HP1 := hide (Blk.new wr 46 #[.string s.p.fr, .string s.p.to_, .int .i64 s.p.id, .int .i64 s.st, .int .i64 s.ho, .int .i64 s.tu])
      have b1 := hbb.cell 1
      have bl := hbb.lt
      simp at b1
      have HBB := hide hbb
      have HBR := hide hbr
      have HMP := hide hmap
      have HBE := hide hbel
      have HBA := hide hbA
      have hrl := hbr.lt
      have hml := hmap.lt
      unfold bdV at HCO
      rw [show slE.ag s = .agg #[.string s.p.fr, .string s.p.to_, .int .i64 s.p.id, .int .i64 s.st, .int .i64 s.ho, .int .i64 s.tu] from rfl] at HCO
      clear hat hp hgd hbA hbelA hbb hbr hmap hbel
      go_upto_region 5 with fail
      generalize hWA : wr.alloc (.cells #[.string s.p.fr, .string s.p.to_, .int .i64 s.p.id, .int .i64 s.st, .int .i64 s.ho, .int .i64 s.tu] 46) = WA at HCO HP1 HBA ⊢
      have hBA : Blk WA w.heap.size _ _ := HBB.out.later HBA.out
      clear hWA c0 c1 c2 c3 c4 c5 b1
      go_upto_region 6 with (first
        | (refine wpList_load_blk hBA Try.underlying27 rfl Try.sizeBoard rfl rfl rfl ?_)
        | (refine wpList_load_blk HP1.out Try.underlying46 rfl Try.sizeSlot rfl rfl rfl ?_)
        | (go_at_call 100; refine HCO.out.mono ?_; rintro e w1 ⟨rfl, hb1⟩; have HP2 := hide (HP1.out.later hb1); have HBX := hide (HBA.out.trans (hb1.mono HBA.out.size)); clear hb1))
      have HBB2 := hide (HBB.out.later HBX.out)
      have HBR2 := hide (HBR.out.later HBX.out)
      have HM2 := hide (HMP.out.later HBX.out)
      have HBE2 := hide (HBE.out.trans (HBX.out.mono HBE.out.size))
      have p5 := HP2.out.cell 5
      have pl := HP2.out.lt
      have f0 := HBR2.out.cell 0
      have f1 := HBR2.out.cell 1
      have g0 := HBR2.out.frozen 0
      have g1 := HBR2.out.frozen 1
      have fl := HBR2.out.lt
      simp at p5 f0 f1
      clear HCO HP1 hBA HBA HBX HBB HBR HMP HBE
      by_cases hc : codeS b s = 0
      case neg =>
        have HE := hide (show chkSGo b b.sl.length 0 = (codeS b s, -2001 - (k : Int)) by
          have h2 : codeS2 b k = codeS b s := HC2.out.trans (if_pos hc)
          rw [← HG.out, show b.sl.length - k = b.sl.length - k - 1 + 1 by omega, chkSGo_no (by rw [h2]; exact hc), h2])
        have hcb : (codeS b s == 0) = false := beq_eq_false_iff_ne.2 hc
        have hcb2 : (codeS b s != 0) = true := by simp [hc]
        have hwr : IntKind.i64.wrap (-2001 - (k : Int)) = -2001 - (k : Int) := by rw [IntKind.wrap_i64]; omega
        generalize codeS b s = cd at *
        clear hc
        go_wp2_with fail
        exact bodyPost_ret (v := flt (cd, -2001 - k)) (by simp [results, Try.results73, go_sem, flt, f0, f1]) rfl ⟨by rw [HE.out], by have := HBE2.out; go_grown⟩
      have HC3 := hide (HC2.out.trans (if_neg (by simp [hc])))
      obtain ⟨ht1, ht2⟩ := codeS_turn HTU.out hc
      have hwt : (Lit.int .i64 s.tu).wf = true := WalkArith.wf_i64 (by omega)
      have hlk := run_lookupI (w := w1) (id := s.tu) Try.underlying53 (zeroInt8 _) HM2.out hwt
      rw [tuM_get] at hlk
      rw [hc]
      have htl := HTL.out
      clear HC2 ht1 ht2 hc
      by_cases hx : s.tu ≠ 0 ∧ 0 < tuMany b.sl k s.tu
      · have HE := hide (show chkSGo b b.sl.length 0 = (10, -2001 - (k : Int)) by
          have h2 : codeS2 b k = 10 := HC3.out.trans (if_pos hx)
          rw [← HG.out, show b.sl.length - k = b.sl.length - k - 1 + 1 by omega, chkSGo_no (by rw [h2]; decide), h2])
        have q1 : (s.tu != 0) = true := by simp [hx.1]
        have q2 : decide ((0 : Int) < (tuMany b.sl k s.tu : Int)) = true := decide_eq_true (by have := hx.2; omega)
        have q3 : decide (0 < tuMany b.sl k s.tu) = true := decide_eq_true hx.2
        have hwr : IntKind.i64.wrap (-2001 - (k : Int)) = -2001 - (k : Int) := by rw [IntKind.wrap_i64]; omega
        clear hx
        go_wp2_with fail
        exact bodyPost_ret (v := flt (10, -2001 - k)) (by simp [results, Try.results73, go_sem, flt, f0, f1]) rfl ⟨by rw [HE.out], by have := HBE2.out; go_grown⟩
      · have HE := hide (chkSGo_ok (n := b.sl.length - k - 1) (show codeS2 b k = 0 from HC3.out.trans (if_neg hx)))
        have hwr : IntKind.i64.wrap ((tuMany b.sl k s.tu : Int) + 1) = ((tuMany b.sl k s.tu + 1 : Nat) : Int) := by rw [IntKind.wrap_i64]; omega
        go_cut [35] (fun x wc => x = .bool false ∧ wc = w1)
        case first =>
          by_cases h0 : s.tu = 0
          · have q1 : (s.tu != 0) = false := by simp [h0]
            clear hx h0
            go_wp2_with fail
            go_meet
            case rel => exact ⟨rfl, rfl⟩
          · have q1 : (s.tu != 0) = true := by simp [h0]
            have q0 : tuMany b.sl k s.tu = 0 := by
              have : ¬ (0 < tuMany b.sl k s.tu) := fun q => hx ⟨h0, q⟩
              omega
            have q2 : decide ((0 : Int) < (tuMany b.sl k s.tu : Int)) = false := decide_eq_false (by omega)
            have q3 : decide (0 < tuMany b.sl k s.tu) = false := decide_eq_false (by omega)
            clear hx h0 q0
            go_wp2_with fail
            go_meet
            case rel => exact ⟨rfl, rfl⟩
        case rest =>
          obtain ⟨rfl, rfl⟩ := hcut
          go_wp2_with (first
            | (at_mapUpdate; refine wpList_updateI (u := .int .i64 ((tuMany b.sl k s.tu + 1 : Nat) : Int)) rfl rfl Try.underlying53 rfl rfl rfl HM2.out (by unfold maxLen; omega) hwt ?_; intro w2 hM3 hg3)
            | go_in)
          have hM4 : MpI w2 (w.heap.size + 2) (k + 1) (tuM b.sl (k + 1)) := by rw [HTS.out]; exact hM3
          have hB4 := HBB2.out.grown hg3 (fun q => by simp at q <;> omega)
          have hR4 := HBR2.out.grown hg3 (fun q => by simp at q <;> omega)
          have hE4 : Below w.heap.size w w2 := below_grownO HBE2.out hg3 (fun j hj => by cases hj; omega) HBE2.out.size
          clear hM3 hg3
          go_roundw
          case rel => exact ⟨k + 1, by omega, by go_num, by rw [← HG.out, show b.sl.length - k = b.sl.length - k - 1 + 1 by omega, HE.out]; congr 1, hM4, hB4, hR4, hE4⟩
          case measure => simp [intOf]; omega
    · have hz : b.sl.length - k = 0 := by omega
      rw [hz] at HG
      have b1 := hbb.cell 1
      have bl := hbb.lt
      have f0 := hbr.cell 0
      have f1 := hbr.cell 1
      have g0 := hbr.frozen 0
      have g1 := hbr.frozen 1
      have hfl := hbr.lt
      simp at b1 f0 f1
      go_wp2_with fail
      exact bodyPost_ret (v := flt (0, 0)) (by simp [results, Try.results73, go_sem, flt, f0, f1]) rfl ⟨by rw [← HG.out]; rfl, by go_grown⟩

end Go.Proofs.Ytoeobhehjnkkkaa
