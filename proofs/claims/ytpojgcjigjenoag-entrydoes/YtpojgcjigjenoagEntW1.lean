/-
  The walks over package entry's small functions and Check.
-/
import Derived.Test.YtpojgcjigjenoagRows
import Derived.Test.YtpojgcjigjenoagLeaseW1
import Derived.Test.YtpojgcjigjenoagEntMath
import Derived.Test.YtpojgcjigjenoagGenW
import Derived.Test.YtpojgcjigjenoagGenE
namespace Go.Proofs.Ytpojgcjigjenoag
open Go.RowKit
set_option linter.unusedVariables false

theorem Try.sizeFaultE : (Try.prog.info? 29).map (·.size) = some 2 := by kernel_rfl

theorem Try.sizeEntry : (Try.prog.info? 72).map (·.size) = some 2 := by kernel_rfl

theorem Try.sizeIntE : (Try.prog.info? 3).map (·.size) = some 1 := by kernel_rfl

theorem infoEntry : (Try.prog.info? 72).map (fun i => (i.zero, i.size, i.bytes)) = some (some (.agg #[.int .i64 0, .string ⟨#[]⟩]), 2, 24) := by kernel_rfl

/-- An entry's places. -/
def eE : En Et 2 where
  v e := [.int .i64 e.term, .string e.text]
  len _ := rfl
  one p u hu := by
    simp only [List.mem_cons, List.not_mem_nil, or_false] at hu
    rcases hu with rfl | rfl <;> rfl
  pos := by decide

theorem AtG.ent {w : World} {b off : Nat} {e : Et} (h : AtG eE w b off e) : w.cell? ⟨b, off, none⟩ = some (.int .i64 e.term) ∧ w.cell? ⟨b, off + 1, none⟩ = some (.string e.text) := ⟨h 0 _ rfl, h 1 _ rfl⟩

/-- An entry as a value. -/
def etV (e : Et) : Value := .agg #[.int .i64 e.term, .string e.text]

theorem drop_consE {l : List Et} {i : Nat} {x : Et} (h : l[i]? = some x) : l.drop i = x :: l.drop (i + 1) := by
  obtain ⟨hl, rfl⟩ := List.getElem?_eq_some_iff.1 h
  exact List.drop_eq_getElem_cons hl

set_option maxRecDepth 100000 in
set_option maxHeartbeats 1000000 in
theorem codeBehind_any (a : Int) (e_ : Et) (w : World) : Calls Try.prog 62 #[.int .i64 a, etV e_] w fun e w' => e = .returned (.int .i64 (codeB a e_)) ∧ Below w.heap.size w w' := by
  have HF : Hid (codeB a e_ = if e_.term = 0 ∨ numL e_.term = false then 3 else if e_.term < a then 11 else if 200 < e_.text.size then 8 else 0) := hide rfl
  obtain ⟨t, x⟩ := e_
  simp only at HF
  unfold etV
  by_cases h1 : t = 0
  · have HE := hide (HF.out.trans (if_pos (.inl h1)))
    subst h1
    go_enter Try.func62, Try.ntmps62
    go_wp2_with fail
    go_ret
    exact ⟨by rw [HE.out]; rfl, by go_grown⟩
  have hq : (t == 0) = false := beq_eq_false_iff_ne.2 h1
  cases h2 : numL t
  · have HE := hide (HF.out.trans (if_pos (.inr h2)))
    have HN := hide h2
    clear h1 h2
    go_enter Try.func62, Try.ntmps62
    go_wp2_with (go_at_call 43; refine (lIsNum_any t _).mono ?_; rw [HN.out]; rintro e w9 ⟨rfl, rfl⟩)
    go_ret
    exact ⟨by rw [HE.out]; rfl, by go_grown⟩
  have HFa := hide (HF.out.trans (if_neg (by rw [h2]; simp [h1])))
  have HN := hide h2
  clear h1 h2
  by_cases h3 : t < a
  · have HE := hide (HFa.out.trans (if_pos h3))
    go_enter Try.func62, Try.ntmps62
    go_wp2_with (go_at_call 43; refine (lIsNum_any t _).mono ?_; rw [HN.out]; rintro e w9 ⟨rfl, rfl⟩)
    go_ret
    exact ⟨by rw [HE.out]; rfl, by go_grown⟩
  have HFb := hide (HFa.out.trans (if_neg h3))
  by_cases h4 : 200 < x.size
  · have HE := hide (HFb.out.trans (if_pos h4))
    go_enter Try.func62, Try.ntmps62
    go_wp2_with (go_at_call 43; refine (lIsNum_any t _).mono ?_; rw [HN.out]; rintro e w9 ⟨rfl, rfl⟩)
    go_ret
    exact ⟨by rw [HE.out]; rfl, by go_grown⟩
  · have HE := hide (HFb.out.trans (if_neg h4))
    go_enter Try.func62, Try.ntmps62
    go_wp2_with (go_at_call 43; refine (lIsNum_any t _).mono ?_; rw [HN.out]; rintro e w9 ⟨rfl, rfl⟩)
    go_ret
    exact ⟨by rw [HE.out]; rfl, by go_grown⟩

set_option maxRecDepth 100000 in
set_option maxHeartbeats 2000000 in
theorem ECheck_any (v : Value) (l : List Et) (w : World) (hv : RdG eE w v l) :
    Calls Try.prog 33 #[v] w fun e w' => e = .returned (flt (chkE l)) ∧ Below w.heap.size w w' := by
  have HF : Hid (chkE l = if 100 < l.length then (2, -1) else chkGo 0 0 l) := hide rfl
  have HV := hide hv
  obtain ⟨ao, cap, rfl, hc1, hc2⟩ := hv.shape
  unfold maxLen at hc2
  have HR0 := hide (Blk.new w 29 #[.int .i64 0, .int .i64 0])
  have HB0 := hide (below_allocG w (.cells #[.int .i64 0, .int .i64 0] 29))
  clear hv
  by_cases h1 : 100 < l.length
  · have HE := hide (HF.out.trans (if_pos h1))
    go_enter Try.func33, Try.ntmps33
    go_wp2_with fail
    exact bodyPost_ret (v := flt (2, -1)) (by simp [results, Try.results33, go_sem, flt]) rfl ⟨by rw [HE.out], by go_grown⟩
  have HFa := hide (HF.out.trans (if_neg h1))
  clear HF
  go_enter Try.func33, Try.ntmps33
  go_wp2_with fail
  go_loopw [3, 13] (fun av iv wr => ∃ (j : Nat) (a : Int), j ≤ l.length ∧ av = .int .i64 a ∧ iv = .int .i64 j ∧ chkGo a j (l.drop j) = chkGo 0 0 l ∧ Below (w.heap.size + 1) (w.alloc (.cells #[.int .i64 0, .int .i64 0] 29)) wr)
    (fun _ iv _ => l.length - (intOf iv).toNat)
  case atStart => exact ⟨0, 0, by omega, rfl, rfl, rfl, Below.refl _ _⟩
  case round =>
    obtain ⟨j, a, hj, rfl, rfl, hgo, hbr⟩ := hrel
    have HGO := hide hgo
    have hbw := HB0.out.trans (hbr.mono (by omega))
    have HBW := hide hbw
    have HBR := hide hbr
    have HRr := hide (HR0.out.below hbr (by omega))
    have hrl := HRr.out.lt
    clear hgo
    by_cases hlt : j < l.length
    · obtain ⟨c, hc⟩ : ∃ c, l[j]? = some c := ⟨_, List.getElem?_eq_getElem hlt⟩
      rw [drop_consE hc, chkGo] at HGO
      obtain ⟨b, off, rfl, hb, hat⟩ := HV.out.here hc
      obtain ⟨q0, q1⟩ := hat.ent
      have r0 := cell_belowG q0 hbw
      have r1 := cell_belowG q1 hbw
      have hb' : b < wr.heap.size := Nat.lt_of_lt_of_le hb hbw.size
      have hk1 : (0 : Int) ≤ (j : Int) := by omega
      have hk2 : (j : Int) < (l.length : Int) := by omega
      obtain ⟨t, x⟩ := c
      simp only at r0 r1 HGO
      have HCK := hide (codeBehind_any a ⟨t, x⟩ (wr.alloc (.cells #[.int .i64 t, .string x] 72)))
      generalize hK : codeB a ⟨t, x⟩ = K at *
      clear q0 q1 hat hc hbw hbr hK
      unfold etV at HCK
      go_wp2_with fail
      refine HCK.out.mono ?_
      rintro e w1 ⟨rfl, hb1⟩
      have hA1 := (below_allocG wr (.cells #[.int .i64 t, .string x] 72)).trans (hb1.mono (by simp))
      have hC1 := (Blk.new wr 72 #[.int .i64 t, .string x]).later hb1
      have HR1 := hide (HRr.out.later hA1)
      have HBW1 := hide (HBW.out.trans (hA1.mono HBW.out.size))
      have HBR1 := hide (HBR.out.trans (hA1.mono hrl))
      have cc0 := hC1.cell 0
      have ccl := hC1.lt
      simp at cc0 ccl
      clear r0 r1 hb1 hA1 hC1 HCK
      by_cases hx : K ≠ 0
      · have hq : (K == 0) = false := beq_eq_false_iff_ne.2 hx
        have hq2 : (K != 0) = true := by simp [hx]
        have HS := hide (HGO.out.symm.trans (if_pos hx))
        have HE := hide (HFa.out.trans HS.out)
        clear hx
        go_wp2_with (refine wpList_store_blk rfl rfl rfl rfl HR1.out rfl Try.sizeFaultE rfl ?_; intro w8 hR8 hg8; have HR8 := hide hR8; have HG8 := hide hg8; clear hR8 hg8)
        refine bodyPost_ret (v := .agg #[.int .i64 (K), .int .i64 (j)]) (results1_cell Try.results33 rfl (run_loadVar_blk HR8.out Try.underlying29 rfl Try.sizeFaultE)) rfl ?_
        exact ⟨by rw [HE.out] <;> rfl, below_grownO HBW1.out HG8.out (fun k hk => by cases hk; omega) HBW1.out.size⟩
      · have HS := hide (HGO.out.symm.trans (if_neg hx))
        obtain rfl : K = 0 := Decidable.not_not.1 hx
        clear hx
        go_wp2_with fail
        go_roundw
        case rel => exact ⟨j + 1, t, by omega, rfl, by go_num, HS.out.symm, HBR1.out⟩
        case measure => simp [intOf]; omega
    · have hje : j = l.length := by omega
      subst hje
      rw [List.drop_length, chkGo] at HGO
      have HE := hide (HFa.out.trans HGO.out.symm)
      clear hbw hbr
      go_wp2_with (refine wpList_store_blk rfl rfl rfl rfl HRr.out rfl Try.sizeFaultE rfl ?_; intro w8 hR8 hg8; have HR8 := hide hR8; have HG8 := hide hg8; clear hR8 hg8)
      refine bodyPost_ret (v := .agg #[.int .i64 0, .int .i64 0]) (results1_cell Try.results33 rfl (run_loadVar_blk HR8.out Try.underlying29 rfl Try.sizeFaultE)) rfl ?_
      exact ⟨by rw [HE.out] <;> rfl, below_grownO HBW.out HG8.out (fun k hk => by cases hk; omega) HBW.out.size⟩

set_option maxRecDepth 100000 in
set_option maxHeartbeats 1000000 in
theorem numbersFault_any (n t : Int) (w : World) : Calls Try.prog 86 #[.int .i64 n, .int .i64 t] w fun e w' => e = .returned (flt (plF n t)) ∧ Below w.heap.size w w' := by
  have HF : Hid (plF n t = if numL n = false then (3, -1) else if numL t = false then (3, -2) else (0, 0)) := hide rfl
  cases h1 : numL n
  · have HE := hide (HF.out.trans (if_pos h1))
    have HN := hide h1
    clear h1
    go_enter Try.func86, Try.ntmps86
    go_wp2_with (go_at_call_of 43 (Value.int IntKind.i64 n); refine (lIsNum_any n _).mono ?_; rw [HN.out]; rintro e w1 ⟨rfl, rfl⟩)
    exact bodyPost_ret (v := flt (3, -1)) (by simp [results, Try.results86, go_sem, flt]) rfl ⟨by rw [HE.out], by go_grown⟩
  have HFa := hide (HF.out.trans (if_neg (by rw [h1]; simp)))
  cases h2 : numL t
  · have HE := hide (HFa.out.trans (if_pos h2))
    have HN := hide h1
    have HT := hide h2
    clear h1 h2
    go_enter Try.func86, Try.ntmps86
    go_wp2_with fail
    refine (lIsNum_any n _).mono ?_
    rw [HN.out]
    rintro e w1 ⟨rfl, rfl⟩
    go_wp2_with fail
    refine (lIsNum_any t _).mono ?_
    rw [HT.out]
    rintro e w1 ⟨rfl, rfl⟩
    go_wp2_with fail
    exact bodyPost_ret (v := flt (3, -2)) (by simp [results, Try.results86, go_sem, flt]) rfl ⟨by rw [HE.out], by go_grown⟩
  · have HE := hide (HFa.out.trans (if_neg (by rw [h2]; simp)))
    have HN := hide h1
    have HT := hide h2
    clear h1 h2
    go_enter Try.func86, Try.ntmps86
    go_wp2_with fail
    refine (lIsNum_any n _).mono ?_
    rw [HN.out]
    rintro e w1 ⟨rfl, rfl⟩
    go_wp2_with fail
    refine (lIsNum_any t _).mono ?_
    rw [HT.out]
    rintro e w1 ⟨rfl, rfl⟩
    go_wp2_with fail
    exact bodyPost_ret (v := flt (0, 0)) (by simp [results, Try.results86, go_sem, flt]) rfl ⟨by rw [HE.out], by go_grown⟩

end Go.Proofs.Ytpojgcjigjenoag
