/-
  Texts joined: AsF2.
-/
import Derived.Test.YtnbifobdkjkjlaaMAssignKeepsAsF1
/-
  The document's SlotCode and BoardFault of a board that is fine. (Written by as25.py.)
-/
namespace Go.Proofs.Ytnbifobdkjkjlaa
open Go.RowKit
set_option linter.unusedVariables false

theorem hoIn_alive : ∀ {l : List Ho} {id : Int} {i : Nat}, (∃ x ∈ l, x.id = id ∧ x.al = true) → (i : Int) ≤ hoIn l id true i
  | [], _, _, ⟨x, hx, _⟩ => by cases hx
  | h :: r, id, i, ⟨x, hx, h1, h2⟩ => by
    unfold hoIn
    by_cases q : h.id = id ∧ (h.al = true ∨ true = false)
    · rw [if_pos q]; omega
    · rw [if_neg q]
      rcases List.mem_cons.1 hx with e | e
      · subst e
        exact absurd ⟨h1, .inl h2⟩ q
      · have := hoIn_alive (l := r) (id := id) (i := i + 1) ⟨x, e, h1, h2⟩
        omega

set_option maxRecDepth 100000 in
set_option maxHeartbeats 8000000 in
theorem SlotCode_fine (b : Bd) (hv sv : Value) (i : Nat) (w : World) (hf : FineB b) (hi : i < b.sl.length) (hh : RdG hoE w hv b.hs) (hs : RdG slE w sv b.sl) :
    Calls Try.prog 30 #[bdV hv sv b, .int .i64 i] w fun e w' => e = .returned (.int .i64 0) ∧ Below w.heap.size w w' := by
  have hln : b.sl.length ≤ 200 := hf.ok.sl
  have hlh : b.hs.length ≤ 1000 := by have := hf.hl; omega
  obtain ⟨s, hx⟩ : ∃ s, b.sl[i]? = some s := ⟨_, List.getElem?_eq_getElem hi⟩
  have hsf := hf.sc s (List.mem_of_getElem? hx)
  have HDT := hide (show ∀ k y, k < i → b.sl[k]? = some y → 0 < s.tu → y.tu ≠ s.tu from fun k y hk hy ht e => by
    have hd := hf.tn
    unfold DistT at hd
    rw [List.pairwise_iff_getElem] at hd
    obtain ⟨h1, rfl⟩ := List.getElem?_eq_some_iff.1 hy
    obtain ⟨h2, rfl⟩ := List.getElem?_eq_some_iff.1 hx
    have := hd k i h1 h2 hk e
    omega)
  have HH := hide hh
  have HS := hide hs
  obtain ⟨ah, ch, rfl, _, _⟩ := hh.shape
  obtain ⟨as_, cs, rfl, _, _⟩ := hs.shape
  obtain ⟨hb, ho, rfl, hbl, hat⟩ := hs.here hx
  have HAT := hide hat
  have HBL := hide hbl
  have hbA := below_allocG w (.cells #[.slice ah b.hs.length ch, .slice (some ⟨hb, ho, none⟩) b.sl.length cs, .int .i64 b.tu, .int .i64 b.nx] 27)
  have HB0 := hide (Blk.new w 27 #[.slice ah b.hs.length ch, .slice (some ⟨hb, ho, none⟩) b.sl.length cs, .int .i64 b.tu, .int .i64 b.nx])
  have HA0 := hide hbA
  generalize hW : w.alloc (.cells #[.slice ah b.hs.length ch, .slice (some ⟨hb, ho, none⟩) b.sl.length cs, .int .i64 b.tu, .int .i64 b.nx] 27) = W0 at HB0 HA0 hbA
  have HW := hide hW
  have d1 : decide (s.st < 0) = false := decide_eq_false (by have := hsf.s0; omega)
  have d2 : decide (3 < s.st) = false := decide_eq_false (by have := hsf.s3; omega)
  have d3 : decide (s.tu < 0) = false := decide_eq_false (by have := hsf.t0; omega)
  have d4 : decide (b.tu < s.tu) = false := decide_eq_false (by have := hsf.t1; omega)
  have d5 : decide (s.p.id < 1) = false := decide_eq_false (by have := hsf.i1; omega)
  have d6 : decide (b.nx ≤ s.p.id) = false := decide_eq_false (by have := hsf.i2; omega)
  have hk1 : (0 : Int) ≤ (i : Int) := by omega
  have hk2 : (i : Int) < (b.sl.length : Int) := by omega
  have hbl0 : hb < W0.heap.size := Nat.lt_of_lt_of_le hbl hbA.size
  obtain ⟨c0, c1, c2, c3, c4, c5⟩ := (hat.below hbA).slot
  have b1 := HB0.out.cell 1
  have bl := HB0.out.lt
  simp at b1
  have HSF := hide hsf
  clear hh hs hat hbl hbA hW hx hsf hf
  unfold bdV
  go_enter Try.func30, Try.ntmps30
  go_upto_region 1 with fail
  rw [HW.out]
  clear HW
  go_upto_region 2 with fail
  have hbT := below_allocG W0 (.cells #[.string s.p.fr, .string s.p.to_, .int .i64 s.p.id, .int .i64 s.st, .int .i64 s.ho, .int .i64 s.tu] 46)
  have HS1 := hide (Blk.new W0 46 #[.string s.p.fr, .string s.p.to_, .int .i64 s.p.id, .int .i64 s.st, .int .i64 s.ho, .int .i64 s.tu])
  have HB1 := hide (HB0.out.later hbT)
  have HA1 := hide (HA0.out.trans (hbT.mono HA0.out.size))
  generalize hWX : W0.alloc (.cells #[.string s.p.fr, .string s.p.to_, .int .i64 s.p.id, .int .i64 s.st, .int .i64 s.ho, .int .i64 s.tu] 46) = W1 at HS1 HB1 HA1 ⊢
  clear c0 c1 c2 c3 c4 c5 b1 bl hbT hWX HB0 HA0
  have b1 := HB1.out.cell 1
  have b2 := HB1.out.cell 2
  have b3 := HB1.out.cell 3
  have bl := HB1.out.lt
  have s0 := HS1.out.cell 2
  have s1 := HS1.out.cell 3
  have s2 := HS1.out.cell 4
  have s3 := HS1.out.cell 5
  have sl := HS1.out.lt
  simp at b1 b2 b3 s0 s1 s2 s3
  go_upto_region 4 with fail
  clear b2 b3 s0 d1 d2 d3 d4 d5 d6
  by_cases hst : s.st = 0
  · have e1 : (s.st == 0) = true := by simp [hst]
    have e2 : (s.ho != 0) = false := by simp [HSF.out.off hst]
    clear hst
    obtain ⟨W2, hW2⟩ : ∃ W, W = W1 := ⟨_, rfl⟩
    have HS2 := HS1
    have HB2 := HB1
    have HA2 := HA1
    rw [← hW2] at HS2 HB2 HA2 b1 bl s1 s2 s3 sl ⊢
    clear HS1 HB1 HA1 hW2
    go_upto_region 12 with fail
    clear b1 bl s1 s2 s3 sl
    go_loopw [6] (fun iv wr => ∃ k : Nat, k ≤ i ∧ iv = .int .i64 k ∧ Below W2.heap.size W2 wr)
      (fun iv _ => i - (intOf iv).toNat)
    case atStart => exact ⟨0, by omega, rfl, Below.refl _ _⟩
    case round =>
      obtain ⟨k, hk, rfl, hbr⟩ := hrel
      have HBR := hide hbr
      have HAr := hide (HA2.out.trans (hbr.mono HA2.out.size))
      have b1 := (HB2.out.later hbr).cell 1
      have bl := (HB2.out.later hbr).lt
      have s3 := (HS2.out.later hbr).cell 5
      have sl := (HS2.out.later hbr).lt
      simp at b1 s3
      clear hbr
      by_cases hlt : k < i
      · have d9 : decide ((k : Int) < (i : Int)) = true := decide_eq_true (by omega)
        have hk1 : (0 : Int) ≤ (k : Int) := by omega
        have hk2 : (k : Int) < (b.sl.length : Int) := by omega
        obtain ⟨y, hy⟩ : ∃ y, b.sl[k]? = some y := ⟨_, List.getElem?_eq_getElem (by omega)⟩
        obtain ⟨hb, ho, he, hbl, hat⟩ := (HS.out.below HAr.out).here hy
        simp only [Option.some.injEq, Addr.mk.injEq] at he
        obtain ⟨rfl, rfl, -⟩ := he
        obtain ⟨q0, q1, q2, q3, q4, q5⟩ := hat.slot
        have hne := HDT.out k y hlt hy
        clear hat hy q0 q1 q2 q3 q4
        by_cases ht : 0 < s.tu
        · have f1 : decide (0 < s.tu) = true := decide_eq_true ht
          have f2 : (y.tu == s.tu) = false := beq_eq_false_iff_ne.2 (hne ht)
          clear ht hne
          go_upto_region 14 with fail
          go_quiet (fail)
          go_wp2_with fail
          go_roundw
          case rel => exact ⟨k + 1, by omega, by go_num, below_drewN HBR.out _⟩
          case measure => simp [intOf]; omega
        · have f1 : decide (0 < s.tu) = false := decide_eq_false ht
          clear ht hne
          go_upto_region 14 with fail
          go_quiet (fail)
          go_wp2_with fail
          go_roundw
          case rel => exact ⟨k + 1, by omega, by go_num, below_drewN HBR.out _⟩
          case measure => simp [intOf]; omega
      · have d9 : decide ((k : Int) < (i : Int)) = false := decide_eq_false (by omega)
        go_wp2_with fail
        go_ret
        exact ⟨rfl, HAr.out⟩
  · have e1 : (s.st == 0) = false := beq_eq_false_iff_ne.2 hst
    have hal := HSF.out.al hst
    have e3 : (s.tu == 0) = false := beq_eq_false_iff_ne.2 (HSF.out.tz hst)
    have hin : decide (hoIn b.hs s.ho true 0 < 0) = false := decide_eq_false (by
      have := hoIn_alive (i := 0) (aliveB_of hal)
      omega)
    have HHI := hide (HostIn_any b (.slice ah b.hs.length ch) (.slice (some ⟨hb, ho, none⟩) b.sl.length cs) s.ho true W1 (HH.out.below HA1.out) hlh)
    unfold bdV at HHI
    clear hst hal
    go_upto_region 11 with (first
      | (refine wpList_load_blk HB1.out Try.underlying27 rfl Try.sizeBoard rfl rfl rfl ?_)
      | (go_at_call 17; refine HHI.out.mono ?_; rintro e W2 ⟨rfl, hb2⟩; have HS2 := hide (HS1.out.later hb2); have HB2 := hide (HB1.out.later hb2); have HA2 := hide (HA1.out.trans (hb2.mono HA1.out.size)); have s3b := HS2.out.cell 5; have slb := HS2.out.lt; simp at s3b; clear hb2))
    clear HS1 HB1 HA1 s1 s2 s3 sl b1 bl HHI hin e3 s3b slb
    have b1 : True := trivial
    have bl : True := trivial
    have s1 : True := trivial
    have s2 : True := trivial
    have s3 : True := trivial
    have sl : True := trivial
    go_upto_region 12 with fail
    clear b1 bl s1 s2 s3 sl
    go_loopw [6] (fun iv wr => ∃ k : Nat, k ≤ i ∧ iv = .int .i64 k ∧ Below W2.heap.size W2 wr)
      (fun iv _ => i - (intOf iv).toNat)
    case atStart => exact ⟨0, by omega, rfl, Below.refl _ _⟩
    case round =>
      obtain ⟨k, hk, rfl, hbr⟩ := hrel
      have HBR := hide hbr
      have HAr := hide (HA2.out.trans (hbr.mono HA2.out.size))
      have b1 := (HB2.out.later hbr).cell 1
      have bl := (HB2.out.later hbr).lt
      have s3 := (HS2.out.later hbr).cell 5
      have sl := (HS2.out.later hbr).lt
      simp at b1 s3
      clear hbr
      by_cases hlt : k < i
      · have d9 : decide ((k : Int) < (i : Int)) = true := decide_eq_true (by omega)
        have hk1 : (0 : Int) ≤ (k : Int) := by omega
        have hk2 : (k : Int) < (b.sl.length : Int) := by omega
        obtain ⟨y, hy⟩ : ∃ y, b.sl[k]? = some y := ⟨_, List.getElem?_eq_getElem (by omega)⟩
        obtain ⟨hb, ho, he, hbl, hat⟩ := (HS.out.below HAr.out).here hy
        simp only [Option.some.injEq, Addr.mk.injEq] at he
        obtain ⟨rfl, rfl, -⟩ := he
        obtain ⟨q0, q1, q2, q3, q4, q5⟩ := hat.slot
        have hne := HDT.out k y hlt hy
        clear hat hy q0 q1 q2 q3 q4
        by_cases ht : 0 < s.tu
        · have f1 : decide (0 < s.tu) = true := decide_eq_true ht
          have f2 : (y.tu == s.tu) = false := beq_eq_false_iff_ne.2 (hne ht)
          clear ht hne
          go_upto_region 14 with fail
          go_quiet (fail)
          go_wp2_with fail
          go_roundw
          case rel => exact ⟨k + 1, by omega, by go_num, below_drewN HBR.out _⟩
          case measure => simp [intOf]; omega
        · have f1 : decide (0 < s.tu) = false := decide_eq_false ht
          clear ht hne
          go_upto_region 14 with fail
          go_quiet (fail)
          go_wp2_with fail
          go_roundw
          case rel => exact ⟨k + 1, by omega, by go_num, below_drewN HBR.out _⟩
          case measure => simp [intOf]; omega
      · have d9 : decide ((k : Int) < (i : Int)) = false := decide_eq_false (by omega)
        go_wp2_with fail
        go_ret
        exact ⟨rfl, HAr.out⟩

end Go.Proofs.Ytnbifobdkjkjlaa
