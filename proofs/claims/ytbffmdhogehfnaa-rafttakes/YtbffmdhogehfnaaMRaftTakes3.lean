/-
  Texts joined: GenE, EntW1, EntW2, EntW3, GenC, EntW4, EntW5.
-/
import Derived.Test.YtbffmdhogehfnaaMRaftTakes2
import Derived.Laws.OwnMore
import Derived.Test.YtbffmdhogehfnaaRows
import Derived.BigQuiet
import Derived.Lib.AppendZerosOnto
import Derived.Lib.SmallJoins
/-
  Appends to rows of one's own, as runs and as steps of regions that draw their order. Nothing of a program stands here.
-/
namespace Go.Proofs.Ytbffmdhogehfnaa
open Go.RowKit

/-- 'append(out, xs...)' as a run. -/
theorem run_append_rdK {α : Type} {K : Nat} {E : En α K} {P : Program} {w : World} {t ty : TypeId} {base : Nat} {e : TypeId} {z : Value} {bytes : Nat} {v : Value} {n : Nat} {cs : List α} {vx : Value} {news : List α}
    (hown : w.ownsRow base e K v n (E.vs cs)) (hrd : RdG E w vx news)
    (ht : P.underlying t = some (.slice e)) (hinf : (P.info? e).map (fun i => (i.zero, i.size, i.bytes)) = some (some z, K, bytes)) (hzs : z.cells.size = K)
    (h63 : n + news.length ≤ 1000000000) (hbytes : bytes ≤ 128) (hbase : base ≤ w.heap.size) :
    ∃ v' w', (Builtin.append_ #[t, t] ty #[v, vx]).run P w = .ok v' w' ∧ w'.ownsRow base e K v' (n + news.length) (E.vs (cs ++ news)) ∧ w.grownBy w' v.ownBlock := by
  obtain ⟨i, hi, hz, hsize, hby⟩ := info_parts hinf
  have hbytes' : (n + news.length) * bytes ≤ 1000000000 * 128 := Nat.mul_le_mul h63 hbytes
  obtain ⟨ao, cap, hvx, h2, h3, h4, h5⟩ := hrd
  subst hvx
  cases ao with
  | none =>
    have hc := h4 rfl
    have hnews : news = [] := List.eq_nil_of_length_eq_zero (by omega)
    subst hnews
    subst hc
    exact ⟨v, w, run_append_owned_none w base t ty e i K ht hi v n _ hown, by simpa using hown, World.grownBy.refl _ _⟩
  | some ad =>
    obtain ⟨v', w', hr, ho', hg', _⟩ := run_append_own (P := P) w base t ty e i z K bytes ht hi hz hsize hby hzs E.pos v n (E.vs cs) hown ad news.length cap (E.vs news) (vs_length _) (h5 ad rfl) (vs_one _) (by simp [maxLen]; omega) (by omega) hbase
    rw [← vs_append] at ho'
    exact ⟨v', w', hr, ho', hg'⟩

/-- The same as a step of a region that draws its order. -/
theorem step_append_rdK {α : Type} {K : Nat} {E : En α K} {P : Program} {w : World} {ops : Array Oper} {o : Oper} {a : Act} {KK : Act → World → Prop} {Q : Exit → Act → World → Prop} {EE : Prop} {s x : Operand} {t : TypeId} {base : Nat} {e : TypeId} {z : Value} {bytes : Nat} {v : Value} {n : Nat} {cs : List α} {vx : Value} {news : List α}
    (hown : w.ownsRow base e K v n (E.vs cs)) (hrd : RdG E w vx news)
    (ht : P.underlying t = some (.slice e)) (hinf : (P.info? e).map (fun i => (i.zero, i.size, i.bytes)) = some (some z, K, bytes)) (hzs : z.cells.size = K)
    (hgd : o.guard = none) (ho : o.op = .call { callee := .builtin .append, args := #[s, x], argTypes := #[t, t] })
    (hs : a.eval s = v) (hx : a.eval x = vx) (h63 : n + news.length ≤ 1000000000) (hbytes : bytes ≤ 128) (hbase : base ≤ w.heap.size)
    (h : ∀ v' w', w'.ownsRow base e K v' (n + news.length) (E.vs (cs ++ news)) → w.grownBy w' v.ownBlock → KK (a.put o.dst v') w') :
    if Region.wanted o (yielded ops a.tmps) = true then Oper.wp P o a w KK Q else EE := by
  have hw : Region.wanted o (yielded ops a.tmps) = true := by simp [Region.wanted, hgd]
  rw [if_pos hw]
  obtain ⟨v', w', hr, h2, h3⟩ := run_append_rdK (ty := o.type) hown hrd ht hinf hzs h63 hbytes hbase
  unfold Oper.wp execOp
  simp only [ho, resolve, invoke, builtin, Sem.run_bind, Sem.run_pure, Result.andThen_ok, List.map_toArray, List.map_cons, List.map_nil, hs, hx, hr]
  exact h v' w' h2 h3

end Go.Proofs.Ytbffmdhogehfnaa

/-
  The walks over package entry's small functions and Check.
-/
namespace Go.Proofs.Ytbffmdhogehfnaa
open Go.RowKit
set_option linter.unusedVariables false

theorem Try.sizeFaultE : (Try.prog.info? 30).map (·.size) = some 2 := by kernel_rfl

theorem Try.sizeEntry : (Try.prog.info? 65).map (·.size) = some 2 := by kernel_rfl

theorem Try.sizeIntE : (Try.prog.info? 3).map (·.size) = some 1 := by kernel_rfl

theorem infoEntry : (Try.prog.info? 65).map (fun i => (i.zero, i.size, i.bytes)) = some (some (.agg #[.int .i64 0, .string ⟨#[]⟩]), 2, 24) := by kernel_rfl

/-- An entry's places. -/
def eE : En Et 2 where
  v e := [.int .i64 e.term, .string e.text]
  len _ := rfl
  one p u hu := by
    simp only [List.mem_cons, List.not_mem_nil, or_false] at hu
    rcases hu with rfl | rfl <;> rfl
  pos := by decide

theorem AtG.ent {w : World} {b off : Nat} {e : Et} (h : AtG eE w b off e) : w.cell? ⟨b, off, none⟩ = some (.int .i64 e.term) ∧ w.cell? ⟨b, off + 1, none⟩ = some (.string e.text) := ⟨h 0 _ rfl, h 1 _ rfl⟩

/-- An entry as a value. -/
def etV (e : Et) : Value := .agg #[.int .i64 e.term, .string e.text]

theorem drop_consE {l : List Et} {i : Nat} {x : Et} (h : l[i]? = some x) : l.drop i = x :: l.drop (i + 1) := by
  obtain ⟨hl, rfl⟩ := List.getElem?_eq_some_iff.1 h
  exact List.drop_eq_getElem_cons hl

set_option maxRecDepth 100000 in
set_option maxHeartbeats 1000000 in
theorem codeBehind_any (a : Int) (e_ : Et) (w : World) : Calls Try.prog 80 #[.int .i64 a, etV e_] w fun e w' => e = .returned (.int .i64 (codeB a e_)) ∧ Below w.heap.size w w' := by
  have HF : Hid (codeB a e_ = if e_.term = 0 ∨ numL e_.term = false then 3 else if e_.term < a then 11 else if 200 < e_.text.size then 8 else 0) := hide rfl
  obtain ⟨t, x⟩ := e_
  simp only at HF
  unfold etV
  by_cases h1 : t = 0
  · have HE := hide (HF.out.trans (if_pos (.inl h1)))
    subst h1
    go_enter Try.func80, Try.ntmps80
    go_wp2_with fail
    go_ret
    exact ⟨by rw [HE.out]; rfl, by go_grown⟩
  have hq : (t == 0) = false := beq_eq_false_iff_ne.2 h1
  cases h2 : numL t
  · have HE := hide (HF.out.trans (if_pos (.inr h2)))
    have HN := hide h2
    clear h1 h2
    go_enter Try.func80, Try.ntmps80
    go_wp2_with (go_at_call 57; refine (lIsNum_any t _).mono ?_; rw [HN.out]; rintro e w9 ⟨rfl, rfl⟩)
    go_ret
    exact ⟨by rw [HE.out]; rfl, by go_grown⟩
  have HFa := hide (HF.out.trans (if_neg (by rw [h2]; simp [h1])))
  have HN := hide h2
  clear h1 h2
  by_cases h3 : t < a
  · have HE := hide (HFa.out.trans (if_pos h3))
    go_enter Try.func80, Try.ntmps80
    go_wp2_with (go_at_call 57; refine (lIsNum_any t _).mono ?_; rw [HN.out]; rintro e w9 ⟨rfl, rfl⟩)
    go_ret
    exact ⟨by rw [HE.out]; rfl, by go_grown⟩
  have HFb := hide (HFa.out.trans (if_neg h3))
  by_cases h4 : 200 < x.size
  · have HE := hide (HFb.out.trans (if_pos h4))
    go_enter Try.func80, Try.ntmps80
    go_wp2_with (go_at_call 57; refine (lIsNum_any t _).mono ?_; rw [HN.out]; rintro e w9 ⟨rfl, rfl⟩)
    go_ret
    exact ⟨by rw [HE.out]; rfl, by go_grown⟩
  · have HE := hide (HFb.out.trans (if_neg h4))
    go_enter Try.func80, Try.ntmps80
    go_wp2_with (go_at_call 57; refine (lIsNum_any t _).mono ?_; rw [HN.out]; rintro e w9 ⟨rfl, rfl⟩)
    go_ret
    exact ⟨by rw [HE.out]; rfl, by go_grown⟩

set_option maxRecDepth 100000 in
set_option maxHeartbeats 2000000 in
theorem ECheck_any (v : Value) (l : List Et) (w : World) (hv : RdG eE w v l) :
    Calls Try.prog 58 #[v] w fun e w' => e = .returned (flt (chkE l)) ∧ Below w.heap.size w w' := by
  have HF : Hid (chkE l = if 100 < l.length then (2, -1) else chkGo 0 0 l) := hide rfl
  have HV := hide hv
  obtain ⟨ao, cap, rfl, hc1, hc2⟩ := hv.shape
  unfold maxLen at hc2
  have HR0 := hide (Blk.new w 30 #[.int .i64 0, .int .i64 0])
  have HB0 := hide (below_allocG w (.cells #[.int .i64 0, .int .i64 0] 30))
  clear hv
  by_cases h1 : 100 < l.length
  · have HE := hide (HF.out.trans (if_pos h1))
    go_enter Try.func58, Try.ntmps58
    go_wp2_with fail
    exact bodyPost_ret (v := flt (2, -1)) (by simp [results, Try.results58, go_sem, flt]) rfl ⟨by rw [HE.out], by go_grown⟩
  have HFa := hide (HF.out.trans (if_neg h1))
  clear HF
  go_enter Try.func58, Try.ntmps58
  go_wp2_with fail
  go_loopw [3, 13] (fun av iv wr => ∃ (j : Nat) (a : Int), j ≤ l.length ∧ av = .int .i64 a ∧ iv = .int .i64 j ∧ chkGo a j (l.drop j) = chkGo 0 0 l ∧ Below (w.heap.size + 1) (w.alloc (.cells #[.int .i64 0, .int .i64 0] 30)) wr)
    (fun _ iv _ => l.length - (intOf iv).toNat)
  case atStart => exact ⟨0, 0, by omega, rfl, rfl, rfl, Below.refl _ _⟩
  case round =>
    obtain ⟨j, a, hj, rfl, rfl, hgo, hbr⟩ := hrel
    have HGO := hide hgo
    have hbw := HB0.out.trans (hbr.mono (by omega))
    have HBW := hide hbw
    have HBR := hide hbr
    have HRr := hide (HR0.out.below hbr (by omega))
    have hrl := HRr.out.lt
    clear hgo
    by_cases hlt : j < l.length
    · obtain ⟨c, hc⟩ : ∃ c, l[j]? = some c := ⟨_, List.getElem?_eq_getElem hlt⟩
      rw [drop_consE hc, chkGo] at HGO
      obtain ⟨b, off, rfl, hb, hat⟩ := HV.out.here hc
      obtain ⟨q0, q1⟩ := hat.ent
      have r0 := cell_belowG q0 hbw
      have r1 := cell_belowG q1 hbw
      have hb' : b < wr.heap.size := Nat.lt_of_lt_of_le hb hbw.size
      have hk1 : (0 : Int) ≤ (j : Int) := by omega
      have hk2 : (j : Int) < (l.length : Int) := by omega
      obtain ⟨t, x⟩ := c
      simp only at r0 r1 HGO
      have HCK := hide (codeBehind_any a ⟨t, x⟩ (wr.alloc (.cells #[.int .i64 t, .string x] 65)))
      generalize hK : codeB a ⟨t, x⟩ = K at *
      clear q0 q1 hat hc hbw hbr hK
      unfold etV at HCK
      go_wp2_with fail
      refine HCK.out.mono ?_
      rintro e w1 ⟨rfl, hb1⟩
      have hA1 := (below_allocG wr (.cells #[.int .i64 t, .string x] 65)).trans (hb1.mono (by simp))
      have hC1 := (Blk.new wr 65 #[.int .i64 t, .string x]).later hb1
      have HR1 := hide (HRr.out.later hA1)
      have HBW1 := hide (HBW.out.trans (hA1.mono HBW.out.size))
      have HBR1 := hide (HBR.out.trans (hA1.mono hrl))
      have cc0 := hC1.cell 0
      have ccl := hC1.lt
      simp at cc0 ccl
      clear r0 r1 hb1 hA1 hC1 HCK
      by_cases hx : K ≠ 0
      · have hq : (K == 0) = false := beq_eq_false_iff_ne.2 hx
        have hq2 : (K != 0) = true := by simp [hx]
        have HS := hide (HGO.out.symm.trans (if_pos hx))
        have HE := hide (HFa.out.trans HS.out)
        clear hx
        go_wp2_with (refine wpList_store_blk rfl rfl rfl rfl HR1.out rfl Try.sizeFaultE rfl ?_; intro w8 hR8 hg8; have HR8 := hide hR8; have HG8 := hide hg8; clear hR8 hg8)
        refine bodyPost_ret (v := .agg #[.int .i64 (K), .int .i64 (j)]) (results1_cell Try.results58 rfl (run_loadVar_blk HR8.out Try.underlying30 rfl Try.sizeFaultE)) rfl ?_
        exact ⟨by rw [HE.out] <;> rfl, below_grownO HBW1.out HG8.out (fun k hk => by cases hk; omega) HBW1.out.size⟩
      · have HS := hide (HGO.out.symm.trans (if_neg hx))
        obtain rfl : K = 0 := Decidable.not_not.1 hx
        clear hx
        go_wp2_with fail
        go_roundw
        case rel => exact ⟨j + 1, t, by omega, rfl, by go_num, HS.out.symm, HBR1.out⟩
        case measure => simp [intOf]; omega
    · have hje : j = l.length := by omega
      subst hje
      rw [List.drop_length, chkGo] at HGO
      have HE := hide (HFa.out.trans HGO.out.symm)
      clear hbw hbr
      go_wp2_with (refine wpList_store_blk rfl rfl rfl rfl HRr.out rfl Try.sizeFaultE rfl ?_; intro w8 hR8 hg8; have HR8 := hide hR8; have HG8 := hide hg8; clear hR8 hg8)
      refine bodyPost_ret (v := .agg #[.int .i64 0, .int .i64 0]) (results1_cell Try.results58 rfl (run_loadVar_blk HR8.out Try.underlying30 rfl Try.sizeFaultE)) rfl ?_
      exact ⟨by rw [HE.out] <;> rfl, below_grownO HBW.out HG8.out (fun k hk => by cases hk; omega) HBW.out.size⟩

set_option maxRecDepth 100000 in
set_option maxHeartbeats 1000000 in
theorem numbersFault_any (n t : Int) (w : World) : Calls Try.prog 104 #[.int .i64 n, .int .i64 t] w fun e w' => e = .returned (flt (plF n t)) ∧ Below w.heap.size w w' := by
  have HF : Hid (plF n t = if numL n = false then (3, -1) else if numL t = false then (3, -2) else (0, 0)) := hide rfl
  cases h1 : numL n
  · have HE := hide (HF.out.trans (if_pos h1))
    have HN := hide h1
    clear h1
    go_enter Try.func104, Try.ntmps104
    go_wp2_with (go_at_call_of 57 (Value.int IntKind.i64 n); refine (lIsNum_any n _).mono ?_; rw [HN.out]; rintro e w1 ⟨rfl, rfl⟩)
    exact bodyPost_ret (v := flt (3, -1)) (by simp [results, Try.results104, go_sem, flt]) rfl ⟨by rw [HE.out], by go_grown⟩
  have HFa := hide (HF.out.trans (if_neg (by rw [h1]; simp)))
  cases h2 : numL t
  · have HE := hide (HFa.out.trans (if_pos h2))
    have HN := hide h1
    have HT := hide h2
    clear h1 h2
    go_enter Try.func104, Try.ntmps104
    go_wp2_with fail
    refine (lIsNum_any n _).mono ?_
    rw [HN.out]
    rintro e w1 ⟨rfl, rfl⟩
    go_wp2_with fail
    refine (lIsNum_any t _).mono ?_
    rw [HT.out]
    rintro e w1 ⟨rfl, rfl⟩
    go_wp2_with fail
    exact bodyPost_ret (v := flt (3, -2)) (by simp [results, Try.results104, go_sem, flt]) rfl ⟨by rw [HE.out], by go_grown⟩
  · have HE := hide (HFa.out.trans (if_neg (by rw [h2]; simp)))
    have HN := hide h1
    have HT := hide h2
    clear h1 h2
    go_enter Try.func104, Try.ntmps104
    go_wp2_with fail
    refine (lIsNum_any n _).mono ?_
    rw [HN.out]
    rintro e w1 ⟨rfl, rfl⟩
    go_wp2_with fail
    refine (lIsNum_any t _).mono ?_
    rw [HT.out]
    rintro e w1 ⟨rfl, rfl⟩
    go_wp2_with fail
    exact bodyPost_ret (v := flt (0, 0)) (by simp [results, Try.results104, go_sem, flt]) rfl ⟨by rw [HE.out], by go_grown⟩

end Go.Proofs.Ytbffmdhogehfnaa

/-
  The walks over package entry's faults, Older, Agree.
-/
namespace Go.Proofs.Ytbffmdhogehfnaa
open Go.RowKit
set_option linter.unusedVariables false

set_option maxRecDepth 100000 in
set_option maxHeartbeats 1000000 in
theorem lastTerm_any (v : Value) (l : List Et) (w : World) (hv : RdG eE w v l) :
    Calls Try.prog 102 #[v] w fun e w' => e = .returned (.int .i64 (lastT l)) ∧ w' = w := by
  obtain ⟨ao, cap, rfl, hc1, hc2⟩ := hv.shape
  unfold maxLen at hc2
  by_cases h0 : l.length = 0
  · obtain rfl : l = [] := List.eq_nil_of_length_eq_zero h0
    clear hv h0
    go_enter Try.func102, Try.ntmps102
    go_wp2_with fail
    go_ret
    exact ⟨rfl, rfl⟩
  · obtain ⟨k, hk⟩ : ∃ k, k + 1 = l.length := ⟨l.length - 1, by omega⟩
    obtain ⟨x, hx⟩ : ∃ x, l[k]? = some x := ⟨_, List.getElem?_eq_getElem (by omega)⟩
    have HE := hide (lastT_at hx hk)
    obtain ⟨b, off, rfl, hb, hat⟩ := hv.here hx
    obtain ⟨q0, q1⟩ := hat.ent
    have h1 : IntKind.i64.wrap ((l.length : Int) - 1) = (k : Int) := by rw [IntKind.wrap_i64]; omega
    have h2 : (0 : Int) ≤ (k : Int) := by omega
    have h3 : (k : Int) < (l.length : Int) := by omega
    have h4 : ((l.length : Int) == 0) = false := beq_eq_false_iff_ne.2 (by omega)
    clear hv hat hx hk
    go_enter Try.func102, Try.ntmps102
    go_wp2_with fail
    go_ret
    exact ⟨by rw [HE.out]; rfl, rfl⟩

set_option maxRecDepth 100000 in
set_option maxHeartbeats 1000000 in
theorem has_any (v : Value) (l : List Et) (k : Nat) (A t : Int) (w : World) (hv : RdG eE w v l) (hA : A = k) (hk : k ≤ 2000000000) :
    Calls Try.prog 96 #[v, .int .i64 A, .int .i64 t] w fun e w' => e = .returned (.bool (hasE l k t)) ∧ w' = w := by
  obtain ⟨ao, cap, rfl, hc1, hc2⟩ := hv.shape
  unfold maxLen at hc2
  subst hA
  cases k with
  | zero =>
    have HE : Hid (hasE l 0 t = decide (t = 0)) := hide rfl
    clear hv
    show Calls Try.prog 96 #[.slice ao l.length cap, .int .i64 0, .int .i64 t] w _
    go_enter Try.func96, Try.ntmps96
    go_wp2_with fail
    go_ret
    exact ⟨by rw [HE.out]; congr 2, rfl⟩
  | succ k =>
    have h1 : IntKind.i64.wrap (((k + 1 : Nat) : Int) - 1) = (k : Int) := by rw [IntKind.wrap_i64]; omega
    obtain ⟨A, hA⟩ : ∃ A : Int, A = ((k + 1 : Nat) : Int) := ⟨_, rfl⟩
    rw [← hA] at h1 ⊢
    have h0 : (A == 0) = false := by simp; omega
    by_cases hlt : k < l.length
    · obtain ⟨x, hx⟩ : ∃ x, l[k]? = some x := ⟨_, List.getElem?_eq_getElem (by omega)⟩
      have HE := hide (hasE_some (t := t) hx)
      obtain ⟨b, off, rfl, hb, hat⟩ := hv.here hx
      obtain ⟨q0, q1⟩ := hat.ent
      have h2 : (0 : Int) ≤ (k : Int) := by omega
      have h3 : (k : Int) < (l.length : Int) := by omega
      have h4 : decide (A ≤ (l.length : Int)) = true := decide_eq_true (by omega)
      clear hv hat hx hA
      go_enter Try.func96, Try.ntmps96
      go_wp2_with fail
      go_ret
      exact ⟨by rw [HE.out]; congr 2, rfl⟩
    · have HE := hide (hasE_none (l := l) (k := k) (t := t) (by omega))
      have h4 : decide (A ≤ (l.length : Int)) = false := decide_eq_false (by omega)
      clear hv hA
      go_enter Try.func96, Try.ntmps96
      go_wp2_with fail
      go_ret
      exact ⟨by rw [HE.out]; rfl, rfl⟩

set_option maxRecDepth 100000 in
set_option maxHeartbeats 1000000 in
theorem olderFault_any (v : Value) (l : List Et) (n t : Int) (w : World) (hv : RdG eE w v l) :
    Calls Try.prog 101 #[v, .int .i64 n, .int .i64 t] w fun e w' => e = .returned (flt (oldF l n t)) ∧ Below w.heap.size w w' := by
  have HF : Hid (oldF l n t = if (chkE l).1 ≠ 0 then chkE l else plF n t) := hide rfl
  have HI := hide (ECheck_any v l _ (hv.alloc (.cells #[.int .i64 0, .int .i64 0] 30)))
  obtain ⟨ao, cap, rfl, _, _⟩ := hv.shape
  have HR0 := hide (Blk.new w 30 #[.int .i64 0, .int .i64 0])
  have HB0 := hide (below_allocG w (.cells #[.int .i64 0, .int .i64 0] 30))
  have HZ := hide (chkE_z l)
  generalize hK : chkE l = K at *
  obtain ⟨x, y⟩ := K
  generalize hP : plF n t = P at *
  have HP := hide hP
  obtain ⟨p, q⟩ := P
  clear hv hK hP
  go_enter Try.func101, Try.ntmps101
  go_wp2_with fail
  refine HI.out.mono ?_
  rintro e w1 ⟨rfl, hb1⟩
  have HBW := hide ((HB0.out.trans (hb1.mono HB0.out.size)).trans ((below_allocG w1 (.cells #[.int .i64 x, .int .i64 y] 30)).mono (HB0.out.trans (hb1.mono HB0.out.size)).size))
  have HR := hide ((HR0.out.later hb1).later (below_allocG w1 (.cells #[.int .i64 x, .int .i64 y] 30)))
  have hrl := (HR0.out.later hb1).lt
  clear hb1 HI HR0 HB0
  unfold flt
  by_cases hx : x ≠ 0
  · have HE := hide (HF.out.trans (if_pos hx))
    have hq : (x == 0) = false := beq_eq_false_iff_ne.2 hx
    have hq2 : (x != 0) = true := by simp [hx]
    clear hx
    go_wp2_with (refine wpList_store_blk rfl rfl rfl rfl HR.out rfl Try.sizeFaultE rfl ?_; intro w8 hR8 hg8; have HR8 := hide hR8; have HG8 := hide hg8; clear hR8 hg8)
    refine bodyPost_ret (v := .agg #[.int .i64 (x), .int .i64 (y)]) (results1_cell Try.results101 rfl (run_loadVar_blk HR8.out Try.underlying30 rfl Try.sizeFaultE)) rfl ?_
    exact ⟨by rw [HE.out] <;> rfl, below_grownO HBW.out HG8.out (fun k hk => by cases hk; omega) HBW.out.size⟩
  · have HE := hide (HF.out.trans (if_neg hx))
    obtain rfl : x = 0 := Decidable.not_not.1 hx
    obtain rfl : y = 0 := by have := HZ.out rfl; simpa using this
    clear hx
    go_wp2_with (first
      | (go_at_call 104; refine (numbersFault_any n t _).mono ?_; rw [HP.out]; rintro e w2 ⟨rfl, hb2⟩; have HR2 := hide (HR.out.later hb2); have HB2 := hide (HBW.out.trans (hb2.mono HBW.out.size)); clear hb2; unfold flt)
      | (refine wpList_store_blk rfl rfl rfl rfl HR2.out rfl Try.sizeFaultE rfl ?_; intro w8 hR8 hg8; have HR8 := hide hR8; have HG8 := hide hg8; clear hR8 hg8))
    refine bodyPost_ret (v := .agg #[.int .i64 (p), .int .i64 (q)]) (results1_cell Try.results101 rfl (run_loadVar_blk HR8.out Try.underlying30 rfl Try.sizeFaultE)) rfl ?_
    exact ⟨by rw [HE.out] <;> rfl, below_grownO HB2.out HG8.out (fun k hk => by cases hk; omega) HB2.out.size⟩

set_option maxRecDepth 100000 in
set_option maxHeartbeats 1000000 in
theorem outFault_any (v : Value) (l : List Et) (w : World) (hv : RdG eE w v l) :
    Calls Try.prog 98 #[v] w fun e w' => e = .returned (flt (outF l)) ∧ Below w.heap.size w w' := by
  have HF : Hid (outF l = if (chkE l).1 = 0 ∨ (chkE l).1 = 2 then chkE l else (11, -1)) := hide rfl
  have HI := hide (ECheck_any v l _ (hv.alloc (.cells #[.int .i64 0, .int .i64 0] 30)))
  obtain ⟨ao, cap, rfl, _, _⟩ := hv.shape
  have HR0 := hide (Blk.new w 30 #[.int .i64 0, .int .i64 0])
  have HB0 := hide (below_allocG w (.cells #[.int .i64 0, .int .i64 0] 30))
  have HZ := hide (chkE_z l)
  generalize hK : chkE l = K at *
  obtain ⟨x, y⟩ := K
  clear hv hK
  go_enter Try.func98, Try.ntmps98
  go_wp2_with fail
  refine HI.out.mono ?_
  rintro e w1 ⟨rfl, hb1⟩
  have HBW := hide ((HB0.out.trans (hb1.mono HB0.out.size)).trans ((below_allocG w1 (.cells #[.int .i64 x, .int .i64 y] 30)).mono (HB0.out.trans (hb1.mono HB0.out.size)).size))
  have HR := hide ((HR0.out.later hb1).later (below_allocG w1 (.cells #[.int .i64 x, .int .i64 y] 30)))
  have hrl := (HR0.out.later hb1).lt
  clear hb1 HI HR0 HB0
  unfold flt
  by_cases hx : x ≠ 0
  · have hq : (x == 0) = false := beq_eq_false_iff_ne.2 hx
    have hq2 : (x != 0) = true := by simp [hx]
    by_cases h2 : x = 2
    · have HE := hide (HF.out.trans (if_pos (.inr h2)))
      subst h2
      clear hx hq hq2
      go_wp2_with (refine wpList_store_blk rfl rfl rfl rfl HR.out rfl Try.sizeFaultE rfl ?_; intro w8 hR8 hg8; have HR8 := hide hR8; have HG8 := hide hg8; clear hR8 hg8)
      refine bodyPost_ret (v := .agg #[.int .i64 (2), .int .i64 (y)]) (results1_cell Try.results98 rfl (run_loadVar_blk HR8.out Try.underlying30 rfl Try.sizeFaultE)) rfl ?_
      exact ⟨by rw [HE.out] <;> rfl, below_grownO HBW.out HG8.out (fun k hk => by cases hk; omega) HBW.out.size⟩
    · have HE := hide (HF.out.trans (if_neg (show ¬ (x = 0 ∨ x = 2) by omega)))
      have hq3 : (x == 2) = false := beq_eq_false_iff_ne.2 h2
      clear hx h2
      go_wp2_with (refine wpList_store_blk rfl rfl rfl rfl HR.out rfl Try.sizeFaultE rfl ?_; intro w8 hR8 hg8; have HR8 := hide hR8; have HG8 := hide hg8; clear hR8 hg8)
      refine bodyPost_ret (v := .agg #[.int .i64 (11), .int .i64 (-1)]) (results1_cell Try.results98 rfl (run_loadVar_blk HR8.out Try.underlying30 rfl Try.sizeFaultE)) rfl ?_
      exact ⟨by rw [HE.out] <;> rfl, below_grownO HBW.out HG8.out (fun k hk => by cases hk; omega) HBW.out.size⟩
  · obtain rfl : x = 0 := Decidable.not_not.1 hx
    have HE := hide (HF.out.trans (if_pos (.inl rfl)))
    obtain rfl : y = 0 := by have := HZ.out rfl; simpa using this
    clear hx
    go_wp2_with (refine wpList_store_blk rfl rfl rfl rfl HR.out rfl Try.sizeFaultE rfl ?_; intro w8 hR8 hg8; have HR8 := hide hR8; have HG8 := hide hg8; clear hR8 hg8)
    refine bodyPost_ret (v := .agg #[.int .i64 (0), .int .i64 (0)]) (results1_cell Try.results98 rfl (run_loadVar_blk HR8.out Try.underlying30 rfl Try.sizeFaultE)) rfl ?_
    exact ⟨by rw [HE.out] <;> rfl, below_grownO HBW.out HG8.out (fun k hk => by cases hk; omega) HBW.out.size⟩

set_option maxRecDepth 100000 in
set_option maxHeartbeats 1000000 in
theorem bothFault_any (v u : Value) (a b : List Et) (w : World) (hv : RdG eE w v a) (hu : RdG eE w u b) :
    Calls Try.prog 103 #[v, u] w fun e w' => e = .returned (flt (bothF a b)) ∧ Below w.heap.size w w' := by
  have HF : Hid (bothF a b = if (chkE a).1 ≠ 0 then chkE a else secF (chkE b)) := hide rfl
  have HI := hide (ECheck_any v a _ (hv.alloc (.cells #[.int .i64 0, .int .i64 0] 30)))
  have HU := hide hu
  obtain ⟨ao, cap, rfl, _, _⟩ := hv.shape
  obtain ⟨bo, cbp, rfl, _, _⟩ := hu.shape
  have HR0 := hide (Blk.new w 30 #[.int .i64 0, .int .i64 0])
  have HB0 := hide (below_allocG w (.cells #[.int .i64 0, .int .i64 0] 30))
  have HZ := hide (chkE_z a)
  have HZ2 := hide (chkE_z b)
  have HS : Hid (secF (chkE b) = if (chkE b).1 ≠ 0 then ((chkE b).1, (chkE b).2 - 1000) else (0, 0)) := hide rfl
  have hbd := chkE_at (l := b)
  have HI2 := hide (fun W (h : RdG eE W (.slice bo b.length cbp) b) => ECheck_any _ b W h)
  generalize hK : chkE a = K at *
  obtain ⟨x, y⟩ := K
  generalize hP : chkE b = P at *
  obtain ⟨p, q⟩ := P
  clear hv hK hP hu
  simp only at HS hbd
  have hw1 : IntKind.i64.wrap (q - 1000) = q - 1000 := by rw [IntKind.wrap_i64]; omega
  clear hbd
  go_enter Try.func103, Try.ntmps103
  go_wp2_with fail
  refine HI.out.mono ?_
  rintro e w1 ⟨rfl, hb1⟩
  have HBW := hide ((HB0.out.trans (hb1.mono HB0.out.size)).trans ((below_allocG w1 (.cells #[.int .i64 x, .int .i64 y] 30)).mono (HB0.out.trans (hb1.mono HB0.out.size)).size))
  have HR := hide ((HR0.out.later hb1).later (below_allocG w1 (.cells #[.int .i64 x, .int .i64 y] 30)))
  have hrl := (HR0.out.later hb1).lt
  clear hb1 HI HR0 HB0
  unfold flt
  by_cases hx : x ≠ 0
  · have HE := hide (HF.out.trans (if_pos hx))
    have hq : (x == 0) = false := beq_eq_false_iff_ne.2 hx
    have hq2 : (x != 0) = true := by simp [hx]
    clear hx
    go_wp2_with (refine wpList_store_blk rfl rfl rfl rfl HR.out rfl Try.sizeFaultE rfl ?_; intro w8 hR8 hg8; have HR8 := hide hR8; have HG8 := hide hg8; clear hR8 hg8)
    refine bodyPost_ret (v := .agg #[.int .i64 (x), .int .i64 (y)]) (results1_cell Try.results103 rfl (run_loadVar_blk HR8.out Try.underlying30 rfl Try.sizeFaultE)) rfl ?_
    exact ⟨by rw [HE.out] <;> rfl, below_grownO HBW.out HG8.out (fun k hk => by cases hk; omega) HBW.out.size⟩
  · have HE := hide (HF.out.trans (if_neg hx))
    obtain rfl : x = 0 := Decidable.not_not.1 hx
    obtain rfl : y = 0 := by have := HZ.out rfl; simpa using this
    clear hx
    go_wp2_with fail
    refine (HI2.out _ (HU.out.below HBW.out)).mono ?_
    rintro e w2 ⟨rfl, hb2⟩
    have HB2 := hide ((HBW.out.trans (hb2.mono HBW.out.size)).trans ((below_allocG w2 (.cells #[.int .i64 p, .int .i64 q] 30)).mono (HBW.out.trans (hb2.mono HBW.out.size)).size))
    have HR2 := hide ((HR.out.later hb2).later (below_allocG w2 (.cells #[.int .i64 p, .int .i64 q] 30)))
    have HN2 := hide (Blk.new w2 30 #[.int .i64 p, .int .i64 q])
    have hrl2 := (HR.out.later hb2).lt
    have hw2 : w.heap.size < w2.heap.size := hrl2
    clear hb2
    unfold flt
    by_cases hp : p ≠ 0
    · have HE2 := hide (HE.out.trans (HS.out.trans (if_pos hp)))
      have hq : (p == 0) = false := beq_eq_false_iff_ne.2 hp
      have hq2 : (p != 0) = true := by simp [hp]
      clear hp
      go_wp2_with (first
        | (refine wpList_store_int (k := 1) rfl rfl rfl rfl HN2.out rfl Try.sizeIntE ?_; intro w7 hN7 hg7; have HN7 := hide hN7; have HR7 := hide (HR2.out.grown hg7 (fun z => by simp at z; omega)); have HB7 := hide (below_grownO HB2.out hg7 (fun k hk => by cases hk; omega) HB2.out.size); clear hN7 hg7)
        | (refine wpList_load_blk HN7.out Try.underlying30 rfl Try.sizeFaultE rfl rfl rfl ?_)
        | (refine wpList_store_blk rfl rfl rfl rfl HR7.out rfl Try.sizeFaultE rfl ?_; intro w8 hR8 hg8; have HR8 := hide hR8; have HG8 := hide hg8; clear hR8 hg8))
      refine bodyPost_ret (v := .agg #[.int .i64 (p), .int .i64 (q - 1000)]) (results1_cell Try.results103 rfl (run_loadVar_blk HR8.out Try.underlying30 rfl Try.sizeFaultE)) rfl ?_
      exact ⟨by rw [HE2.out] <;> rfl, below_grownO HB7.out HG8.out (fun k hk => by cases hk; omega) HB7.out.size⟩
    · have HE2 := hide (HE.out.trans (HS.out.trans (if_neg hp)))
      obtain rfl : p = 0 := Decidable.not_not.1 hp
      obtain rfl : q = 0 := by have := HZ2.out rfl; simpa using this
      clear hp
      go_wp2_with (refine wpList_store_blk rfl rfl rfl rfl HR2.out rfl Try.sizeFaultE rfl ?_; intro w8 hR8 hg8; have HR8 := hide hR8; have HG8 := hide hg8; clear hR8 hg8)
      refine bodyPost_ret (v := .agg #[.int .i64 (0), .int .i64 (0)]) (results1_cell Try.results103 rfl (run_loadVar_blk HR8.out Try.underlying30 rfl Try.sizeFaultE)) rfl ?_
      exact ⟨by rw [HE2.out] <;> rfl, below_grownO HB2.out HG8.out (fun k hk => by cases hk; omega) HB2.out.size⟩

set_option maxRecDepth 100000 in
set_option maxHeartbeats 1000000 in
theorem putFault_any (v u : Value) (l m : List Et) (n t : Int) (w : World) (hv : RdG eE w v l) (hu : RdG eE w u m) :
    Calls Try.prog 95 #[v, .int .i64 n, .int .i64 t, u] w fun e w' => e = .returned (flt (ptF l n t m)) ∧ Below w.heap.size w w' := by
  have HF : Hid (ptF l n t m = if (bothF l m).1 ≠ 0 then bothF l m else plF n t) := hide rfl
  have HI := hide (bothFault_any v u l m _ (hv.alloc (.cells #[.int .i64 0, .int .i64 0] 30)) (hu.alloc _))
  obtain ⟨ao, cap, rfl, _, _⟩ := hv.shape
  obtain ⟨bo, cbp, rfl, _, _⟩ := hu.shape
  have HR0 := hide (Blk.new w 30 #[.int .i64 0, .int .i64 0])
  have HB0 := hide (below_allocG w (.cells #[.int .i64 0, .int .i64 0] 30))
  have HZ := hide (bothF_z l m)
  generalize hK : bothF l m = K at *
  obtain ⟨x, y⟩ := K
  generalize hP : plF n t = P at *
  have HP := hide hP
  obtain ⟨p, q⟩ := P
  clear hv hK hP hu
  go_enter Try.func95, Try.ntmps95
  go_wp2_with fail
  refine HI.out.mono ?_
  rintro e w1 ⟨rfl, hb1⟩
  have HBW := hide ((HB0.out.trans (hb1.mono HB0.out.size)).trans ((below_allocG w1 (.cells #[.int .i64 x, .int .i64 y] 30)).mono (HB0.out.trans (hb1.mono HB0.out.size)).size))
  have HR := hide ((HR0.out.later hb1).later (below_allocG w1 (.cells #[.int .i64 x, .int .i64 y] 30)))
  have hrl := (HR0.out.later hb1).lt
  clear hb1 HI HR0 HB0
  unfold flt
  by_cases hx : x ≠ 0
  · have HE := hide (HF.out.trans (if_pos hx))
    have hq : (x == 0) = false := beq_eq_false_iff_ne.2 hx
    have hq2 : (x != 0) = true := by simp [hx]
    clear hx
    go_wp2_with (refine wpList_store_blk rfl rfl rfl rfl HR.out rfl Try.sizeFaultE rfl ?_; intro w8 hR8 hg8; have HR8 := hide hR8; have HG8 := hide hg8; clear hR8 hg8)
    refine bodyPost_ret (v := .agg #[.int .i64 (x), .int .i64 (y)]) (results1_cell Try.results95 rfl (run_loadVar_blk HR8.out Try.underlying30 rfl Try.sizeFaultE)) rfl ?_
    exact ⟨by rw [HE.out] <;> rfl, below_grownO HBW.out HG8.out (fun k hk => by cases hk; omega) HBW.out.size⟩
  · have HE := hide (HF.out.trans (if_neg hx))
    obtain rfl : x = 0 := Decidable.not_not.1 hx
    obtain rfl : y = 0 := by have := HZ.out rfl; simpa using this
    clear hx
    go_wp2_with (first
      | (go_at_call 104; refine (numbersFault_any n t _).mono ?_; rw [HP.out]; rintro e w2 ⟨rfl, hb2⟩; have HR2 := hide (HR.out.later hb2); have HB2 := hide (HBW.out.trans (hb2.mono HBW.out.size)); clear hb2; unfold flt)
      | (refine wpList_store_blk rfl rfl rfl rfl HR2.out rfl Try.sizeFaultE rfl ?_; intro w8 hR8 hg8; have HR8 := hide hR8; have HG8 := hide hg8; clear hR8 hg8))
    refine bodyPost_ret (v := .agg #[.int .i64 (p), .int .i64 (q)]) (results1_cell Try.results95 rfl (run_loadVar_blk HR8.out Try.underlying30 rfl Try.sizeFaultE)) rfl ?_
    exact ⟨by rw [HE.out] <;> rfl, below_grownO HB2.out HG8.out (fun k hk => by cases hk; omega) HB2.out.size⟩

end Go.Proofs.Ytbffmdhogehfnaa

/-
  The walks over entry.Older and entry.Agree.
-/
namespace Go.Proofs.Ytbffmdhogehfnaa
open Go.RowKit
set_option linter.unusedVariables false

/-- A block of two that is written, ahead of one that is laid. -/
theorem Blk.two {w : World} {B : Nat} {t : TypeId} {o : Obj} {a b x y : Value} (h : Blk w B t #[a, b]) : Blk (((w.setCell ⟨B, 0, none⟩ x).setCell ⟨B, 1, none⟩ y).alloc o) B t #[x, y] := by
  have := ((h.set 0 x).set 1 y).later (below_allocG _ o)
  simpa using this

/-- What Older tells. -/
def oldR (l : List Et) (n t : Int) : Bool := if (oldF l n t).1 ≠ 0 then false else oldB l n t

set_option maxRecDepth 100000 in
set_option maxHeartbeats 2000000 in
theorem Older_any (v : Value) (l : List Et) (n t : Int) (w : World) (hv : RdG eE w v l) :
    Calls Try.prog 94 #[v, .int .i64 n, .int .i64 t] w fun e w' => e = .returned (.tuple #[.bool (oldR l n t), flt (oldF l n t)]) ∧ Below w.heap.size w w' := by
  have HF : Hid (oldR l n t = if (oldF l n t).1 ≠ 0 then false else oldB l n t) := hide rfl
  have HI := hide (olderFault_any v l n t _ (hv.alloc (.cells #[.int .i64 0, .int .i64 0] 30)))
  have HV := hide hv
  obtain ⟨ao, cap, rfl, _, _⟩ := hv.shape
  have HR0 := hide (Blk.new w 30 #[.int .i64 0, .int .i64 0])
  have HB0 := hide (below_allocG w (.cells #[.int .i64 0, .int .i64 0] 30))
  have HZ := hide (oldF_z l n t)
  have HL := hide (fun W (h : RdG eE W (.slice ao l.length cap) l) => lastTerm_any _ l W h)
  generalize hK : oldF l n t = K at *
  obtain ⟨x, y⟩ := K
  have HO : Hid (oldB l n t = decide (lastT l < t ∨ (lastT l = t ∧ (l.length : Int) < n))) := hide rfl
  generalize lastT l = T at *
  clear hv hK
  go_enter Try.func94, Try.ntmps94
  go_wp2_with fail
  refine HI.out.mono ?_
  rintro e w1 ⟨rfl, hb1⟩
  have HBW := hide ((HB0.out.trans (hb1.mono HB0.out.size)).trans ((below_allocG w1 (.cells #[.int .i64 x, .int .i64 y] 30)).mono (HB0.out.trans (hb1.mono HB0.out.size)).size))
  have HR := hide ((HR0.out.later hb1).later (below_allocG w1 (.cells #[.int .i64 x, .int .i64 y] 30)))
  have HN1 := hide (Blk.new w1 30 #[.int .i64 x, .int .i64 y])
  have hrl := (HR0.out.later hb1).lt
  have HRw := hide (HR0.out.later hb1)
  have HBw := hide (HB0.out.trans (hb1.mono HB0.out.size))
  clear hb1 HI HR0 HB0
  unfold flt
  by_cases hx : x ≠ 0
  · have HE := hide (HF.out.trans (if_pos hx))
    have hq : (x == 0) = false := beq_eq_false_iff_ne.2 hx
    have hq2 : (x != 0) = true := by simp [hx]
    clear hx
    have r0 := HRw.out.cell 0
    have r1 := HRw.out.cell 1
    have z0 := HRw.out.frozen 0
    have z1 := HRw.out.frozen 1
    simp at r0 r1
    go_wp2_with fail
    go_region
    have hbw := HBw.out
    go_wp2_with fail
    refine bodyPost_ret (v := .tuple #[.bool false, .agg #[.int .i64 x, .int .i64 y]]) (results2_tc Try.results94 rfl rfl (run_loadVar_blk (xs := #[.int .i64 x, .int .i64 y]) (HRw.out.two) Try.underlying30 rfl Try.sizeFaultE)) rfl ?_
    exact ⟨by rw [HE.out]; rfl, by go_grown⟩
  · have HE := hide (HF.out.trans (if_neg hx))
    obtain rfl : x = 0 := Decidable.not_not.1 hx
    obtain rfl : y = 0 := by have := HZ.out rfl; simpa using this
    clear hx
    have HV2 := hide (HV.out.below HBW.out)
    by_cases h1 : T < t
    · have HE2 := hide (HE.out.trans (HO.out.trans (decide_eq_true (.inl h1))))
      have hd : decide (T < t) = true := decide_eq_true h1
      go_wp2_with (first
        | (go_at_call 102; refine (HL.out _ HV2.out).mono ?_; rintro e w2 ⟨rfl, rfl⟩)
        | (refine wpList_store_blk rfl rfl rfl rfl HR.out rfl Try.sizeFaultE rfl ?_; intro w8 hR8 hg8; have HR8 := hide hR8; have HG8 := hide hg8; clear hR8 hg8))
      refine bodyPost_ret (v := .tuple #[.bool true, .agg #[.int .i64 0, .int .i64 0]]) (results2_tc Try.results94 rfl rfl (run_loadVar_blk HR8.out Try.underlying30 rfl Try.sizeFaultE)) rfl ?_
      exact ⟨by rw [HE2.out]; rfl, below_grownO HBW.out HG8.out (fun k hk => by cases hk; omega) HBW.out.size⟩
    · have hd : decide (T < t) = false := decide_eq_false h1
      by_cases h2 : T = t
      · have HE2 := hide (show oldR l n t = decide ((l.length : Int) < n) by rw [HE.out, HO.out]; simp [h2])
        have hq : (T == t) = true := by simp [h2]
        clear h2 h1
        go_wp2_with (first
          | (go_at_call 102; refine (HL.out _ HV2.out).mono ?_; rintro e w2 ⟨rfl, rfl⟩)
          | (refine wpList_store_blk rfl rfl rfl rfl HR.out rfl Try.sizeFaultE rfl ?_; intro w8 hR8 hg8; have HR8 := hide hR8; have HG8 := hide hg8; clear hR8 hg8))
        refine bodyPost_ret (v := .tuple #[.bool (decide ((l.length : Int) < n)), .agg #[.int .i64 0, .int .i64 0]]) (results2_tc Try.results94 rfl rfl (run_loadVar_blk HR8.out Try.underlying30 rfl Try.sizeFaultE)) rfl ?_
        exact ⟨by rw [HE2.out]; rfl, below_grownO HBW.out HG8.out (fun k hk => by cases hk; omega) HBW.out.size⟩
      · have HE2 := hide (show oldR l n t = false by rw [HE.out, HO.out]; simp [h2]; omega)
        have hq : (T == t) = false := beq_eq_false_iff_ne.2 h2
        clear h2 h1
        go_wp2_with (first
          | (go_at_call 102; refine (HL.out _ HV2.out).mono ?_; rintro e w2 ⟨rfl, rfl⟩)
          | (refine wpList_store_blk rfl rfl rfl rfl HR.out rfl Try.sizeFaultE rfl ?_; intro w8 hR8 hg8; have HR8 := hide hR8; have HG8 := hide hg8; clear hR8 hg8))
        refine bodyPost_ret (v := .tuple #[.bool false, .agg #[.int .i64 0, .int .i64 0]]) (results2_tc Try.results94 rfl rfl (run_loadVar_blk HR8.out Try.underlying30 rfl Try.sizeFaultE)) rfl ?_
        exact ⟨by rw [HE2.out]; rfl, below_grownO HBW.out HG8.out (fun k hk => by cases hk; omega) HBW.out.size⟩


end Go.Proofs.Ytbffmdhogehfnaa

/-
  slices.Grow's append of a make; lists of lists of structures. Nothing of a program stands here.
-/
namespace Go.Proofs.Ytbffmdhogehfnaa
open Go.RowKit

theorem zeroCells_len (z : Array Value) (k : Nat) : (Builtin.zeroCells z k).size = k * z.size := by
  simp [Builtin.zeroCells]

/-- 'append([]T(nil), make([]T, n)...)', of which nothing is kept but the room. -/
theorem run_grow_nil {P : Program} (w : World) {t tn ty e : TypeId} {z : Value} {K bytes : Nat} (ht : P.underlying t = some (.slice e)) (htn : P.underlying tn = some (.int .i64)) (hinf : (P.info? e).map (fun i => (i.zero, i.size, i.bytes)) = some (some z, K, bytes)) (hzs : z.cells.size = K) (hK : 0 < K) (hbytes : bytes ≤ 128) (n : Nat) (h0 : 0 < n) (hn : n ≤ 1000000) :
    ∃ G w1, (Builtin.append_ #[t, tn] ty #[.slice none 0 0, .int .i64 n]).run P w = .ok (.slice (some ⟨w.heap.size, 0, none⟩) n G) w1 ∧ n ≤ G ∧ G ≤ maxLen ∧ w1.ownsRow w.heap.size e K (.slice (some ⟨w.heap.size, 0, none⟩) 0 G) 0 [] ∧ Below w.heap.size w w1 := by
  obtain ⟨i, hi, hz, hsize, hby⟩ := info_parts hinf
  have hb : n * bytes ≤ 1000000 * 128 := Nat.mul_le_mul hn hbytes
  have h := Lib.run_append_nil_zeros (P := P) w t tn ty e i z .i64 .i64 ht htn hi hz n h0 (by omega) (by omega) (by rw [hby]; omega)
  have hGn := grownCap_ge w n 0 e
  have hGm := grownCap_le_maxLen w n 0 e (by unfold maxLen; omega)
  refine ⟨_, _, h, hGn, hGm, ?_, (Below.drew (Below.refl _ _)).alloc (Nat.le_refl _) _⟩
  refine World.ownsRow_made w.drew _ _ (Nat.le_refl _) hGm ?_
  rw [Array.size_append, zeroCells_len, zeroCells_len, hzs, ← Nat.add_mul]
  congr 1
  omega

/-- The slice v reads as lists of structures. -/
def RdLG {α : Type} {K : Nat} (E : En α K) (w : World) (v : Value) (ls : List (List α)) : Prop :=
  ∃ us : List Value, Rd w v us ∧ us.length = ls.length ∧ ∀ (i : Nat) u l, us[i]? = some u → ls[i]? = some l → RdG E w u l

section
variable {α : Type} {K : Nat} {E : En α K}

theorem RdLG.shape {w : World} {v : Value} {ls : List (List α)} (h : RdLG E w v ls) : ∃ ao cap, v = .slice ao ls.length cap ∧ ls.length ≤ cap ∧ cap ≤ maxLen := by
  obtain ⟨us, h1, h2, _⟩ := h
  obtain ⟨ao, cap, h3, h4, h5⟩ := h1.shape
  rw [h2] at h3 h4
  exact ⟨ao, cap, h3, h4, h5⟩

theorem RdLG.below {w w' : World} {v : Value} {ls : List (List α)} (h : RdLG E w v ls) (hb : Below w.heap.size w w') : RdLG E w' v ls := by
  obtain ⟨us, h1, h2, h3⟩ := h
  exact ⟨us, h1.below hb, h2, fun i u l hu hl => (h3 i u l hu hl).below hb⟩

theorem RdLG.here {w : World} {ao : Option Addr} {n cap : Nat} {ls : List (List α)} (h : RdLG E w (.slice ao n cap) ls) {i : Nat} {l : List α} (hi : ls[i]? = some l) :
    ∃ b off u, ao = some ⟨b, off, none⟩ ∧ b < w.heap.size ∧ w.cell? ⟨b, off + i, none⟩ = some u ∧ RdG E w u l := by
  obtain ⟨us, h1, h2, h3⟩ := h
  have hl := (List.getElem?_eq_some_iff.1 hi).1
  obtain ⟨b, off, cap', hv, _, _, hb, hc⟩ := h1.pos (by omega)
  simp only [Value.slice.injEq] at hv
  obtain ⟨rfl, _, _⟩ := hv
  have hu : us[i]? = some (us[i]'(by omega)) := List.getElem?_eq_getElem _
  exact ⟨b, off, _, rfl, hb, hc i _ hu, h3 i _ l hu hi⟩

/-- A block of three slices that was laid for them. -/
theorem RdLG.three (w : World) (e : TypeId) {a b c : Value} {la lb lc : List α} (ha : RdG E w a la) (hb : RdG E w b lb) (hc : RdG E w c lc) :
    RdLG E (w.alloc (.cells #[a, b, c] e)) (.slice (some ⟨w.heap.size, 0, none⟩) 3 3) [la, lb, lc] := by
  refine ⟨[a, b, c], ⟨some ⟨w.heap.size, 0, none⟩, 3, rfl, Nat.le_refl _, by decide, (fun h => by cases h), fun ad had j v hv => ?_⟩, rfl, fun i u l hu hl => ?_⟩
  · cases had
    rw [Addr.add_lit, Nat.zero_add, ← hv]
    have := cell_of_row (w.alloc (.cells #[a, b, c] e)) w.heap.size j _ e (0, 0) (heap_alloc_new w _)
    rw [this]
    simp
  · match i, hu, hl with
    | 0, hu, hl => simp at hu hl; subst hu hl; exact ha.alloc _
    | 1, hu, hl => simp at hu hl; subst hu hl; exact hb.alloc _
    | 2, hu, hl => simp at hu hl; subst hu hl; exact hc.alloc _

end

end Go.Proofs.Ytbffmdhogehfnaa

/-
  The walks over slices.Clone, Grow and Concat of entries, entry.putBehind and entry.Put.
-/
namespace Go.Proofs.Ytbffmdhogehfnaa
open Go.RowKit
set_option linter.unusedVariables false

/-- A block of two slices that was laid for them. -/
theorem RdLG.two {α : Type} {K : Nat} {E : En α K} (w : World) (e : TypeId) {a b : Value} {la lb : List α} (ha : RdG E w a la) (hb : RdG E w b lb) :
    RdLG E (w.alloc (.cells #[a, b] e)) (.slice (some ⟨w.heap.size, 0, none⟩) 2 2) [la, lb] := by
  refine ⟨[a, b], ⟨some ⟨w.heap.size, 0, none⟩, 2, rfl, Nat.le_refl _, by decide, (fun h => by cases h), fun ad had j v hv => ?_⟩, rfl, fun i u l hu hl => ?_⟩
  · cases had
    rw [Addr.add_lit, Nat.zero_add, ← hv]
    have := cell_of_row (w.alloc (.cells #[a, b] e)) w.heap.size j _ e (0, 0) (heap_alloc_new w _)
    rw [this]
    simp
  · match i, hu, hl with
    | 0, hu, hl => simp at hu hl; subst hu hl; exact ha.alloc _
    | 1, hu, hl => simp at hu hl; subst hu hl; exact hb.alloc _

set_option maxRecDepth 100000 in
set_option maxHeartbeats 1000000 in
theorem growE_any (n : Nat) (w : World) (hn : n ≤ 1000000) :
    Calls Try.prog 108 #[.slice none 0 0, .int .i64 n] w fun e w' => ∃ v', e = .returned v' ∧ w'.ownsRow w.heap.size 65 2 v' 0 (eE.vs []) ∧ Below w.heap.size w w' := by
  by_cases h0 : n = 0
  · subst h0
    go_enter Try.func108, Try.ntmps108
    go_wp2_with fail
    go_ret
    exact ⟨_, rfl, World.ownsRow_nil _ _ _ _, Below.refl _ _⟩
  · obtain ⟨G, w1, hr, hg1, hg2, hown, hbel⟩ := run_grow_nil (P := Try.prog) w (ty := 22) Try.underlying22 Try.underlying3 infoEntry rfl (by decide) (by decide) n (by omega) hn
    have hs1 := run_slice_uptoK (K := 2) (P := Try.prog) Try.underlying22 (by kernel_rfl) infoEntry none 0 0 0 (0 : Int) rfl (Nat.le_refl _)
    have hs2 := run_slice_uptoK (K := 2) (P := Try.prog) Try.underlying22 (by kernel_rfl) infoEntry (some ⟨w.heap.size, 0, none⟩) n G 0 (0 : Int) rfl (Nat.zero_le _)
    have e1 : Go.sliced none 0 0 0 2 = .slice none 0 0 := rfl
    have e2 : Go.sliced (some ⟨w.heap.size, 0, none⟩) 0 0 G 2 = .slice (some ⟨w.heap.size, 0, none⟩) 0 G := by unfold Go.sliced; split <;> simp [Addr.add]
    rw [e1] at hs1
    rw [e2] at hs2
    have h1 : (0 : Int) < (n : Int) := by omega
    unfold maxLen at hg2
    clear e1 e2
    go_enter Try.func108, Try.ntmps108
    go_wp2_with (at_builtin; refine Lib.wpList_append_run _ rfl _ _ _ _ rfl _ _ rfl rfl _ _ hr ?_)
    go_ret
    exact ⟨_, rfl, hown, hbel⟩

/-- How many there are in the first lists. -/
def tlenE (ls : List (List Et)) : Nat := ls.flatten.length

theorem take_flatE {ls : List (List Et)} {k : Nat} {l : List Et} (h : ls[k]? = some l) : (ls.take (k + 1)).flatten = (ls.take k).flatten ++ l := by
  obtain ⟨hl, rfl⟩ := List.getElem?_eq_some_iff.1 h
  rw [List.take_succ_eq_append_getElem hl, List.flatten_append]
  simp

theorem flat_leE {ls : List (List Et)} (k : Nat) : (ls.take k).flatten.length ≤ ls.flatten.length := by
  have : ls.flatten = (ls.take k).flatten ++ (ls.drop k).flatten := by rw [← List.flatten_append, List.take_append_drop]
  rw [this, List.length_append]
  omega

set_option maxRecDepth 100000 in
set_option maxHeartbeats 2000000 in
theorem concatE_any (v : Value) (ls : List (List Et)) (w : World) (hv : RdLG eE w v ls) (hl : ls.flatten.length ≤ 100000) :
    Calls Try.prog 105 #[v] w fun e w' => ∃ v', e = .returned v' ∧ RdG eE w' v' ls.flatten ∧ Below w.heap.size w w' ∧ New w.heap.size v' := by
  obtain ⟨ao, cap, hvv, hc1, hc2⟩ := hv.shape
  subst hvv
  unfold maxLen at hc2
  go_enter Try.func105, Try.ntmps105
  go_wp2_with fail
  go_loop [3, 11] (fun sv iv => ∃ (j : Nat), j ≤ ls.length ∧ iv = .int .i64 j ∧ sv = .int .i64 ((ls.take j).flatten.length))
    (fun _ iv => ls.length - (intOf iv).toNat)
  case atStart => exact ⟨0, by omega, rfl, by simp⟩
  case round =>
    obtain ⟨j, hj, rfl, rfl⟩ := hrel
    have hle := flat_leE (ls := ls) j
    generalize hN : (ls.take j).flatten.length = N at *
    by_cases hlt : j < ls.length
    · obtain ⟨l, hx⟩ : ∃ x, ls[j]? = some x := ⟨_, List.getElem?_eq_getElem hlt⟩
      obtain ⟨b, off, u, rfl, hb, hc, hru⟩ := hv.here hx
      obtain ⟨uo, uc, huu, hu1, hu2⟩ := hru.shape
      subst huu
      have hk1 : (0 : Int) ≤ (j : Int) := by omega
      have hk2 : (j : Int) < (ls.length : Int) := by omega
      have hle2 := flat_leE (ls := ls) (j + 1)
      have HT := hide (show (ls.take (j + 1)).flatten.length = N + l.length by rw [take_flatE hx, List.length_append, hN])
      have hsm : N + l.length ≤ 100000 := by rw [← HT.out]; omega
      have hnn : ¬ ((N : Int) + (l.length : Int) < 0) := by omega
      clear hN hx hle hle2
      go_wp2_with fail
      go_round
      case rel => exact ⟨j + 1, by omega, by go_num, by rw [HT.out]; go_num⟩
      case measure => simp [intOf]; omega
    · have hje : j = ls.length := by omega
      subst hje
      rw [List.take_length] at hN
      have hN2 : N ≤ 1000000 := by omega
      have HN := hide hN
      clear hN hle
      go_wp2_with fail
      refine (growE_any N _ hN2).mono ?_
      rintro e w1 ⟨v1, rfl, hown1, hb1⟩
      obtain ⟨vo, vc, hvs⟩ : ∃ ao cap, v1 = .slice ao 0 cap := by
        rcases hown1.2 with ⟨rfl, hn⟩ | ⟨g, cap, cur, rfl, _⟩
        · exact ⟨none, 0, rfl⟩
        · exact ⟨_, _, rfl⟩
      subst hvs
      go_wp2_with fail
      go_loopw [6, 27] (fun sv iv wr => ∃ (j : Nat) (s : Value), j ≤ ls.length ∧ iv = .int .i64 j ∧ s = sv ∧ wr.ownsRow w.heap.size 65 2 s (ls.take j).flatten.length (eE.vs (ls.take j).flatten) ∧ Below w.heap.size w wr)
        (fun _ iv _ => ls.length - (intOf iv).toNat)
      case atStart => exact ⟨0, _, by omega, rfl, rfl, by simpa using hown1, hb1⟩
      case round =>
        obtain ⟨j, s, hj, rfl, rfl, hown, hbel⟩ := hrel
        have hle := flat_leE (ls := ls) j
        by_cases hlt : j < ls.length
        · obtain ⟨l, hx⟩ : ∃ x, ls[j]? = some x := ⟨_, List.getElem?_eq_getElem hlt⟩
          obtain ⟨b, off, u, rfl, hb, hc, hru⟩ := (hv.below hbel).here hx
          obtain ⟨uo, uc, huu, hu1, hu2⟩ := hru.shape
          subst huu
          have hk1 : (0 : Int) ≤ (j : Int) := by omega
          have hk2 : (j : Int) < (ls.length : Int) := by omega
          have hle2 := flat_leE (ls := ls) (j + 1)
          have HT := hide (take_flatE hx)
          rw [take_flatE hx, List.length_append] at hle2
          generalize (ls.take j).flatten = F at *
          obtain ⟨so, sc, hso⟩ : ∃ ao cap, s = .slice ao F.length cap := by
            rcases hown.2 with ⟨rfl, hn⟩ | ⟨g, cap, cur, rfl, _⟩
            · exact ⟨none, 0, by rw [hn]⟩
            · exact ⟨_, _, rfl⟩
          subst hso
          have h63 : F.length + l.length ≤ 1000000000 := by omega
          have hbs := hbel.size
          clear hx
          go_wp2_with (at_builtin; go_must (refine wpList_append_rdG hown hru Try.underlying22 infoEntry rfl rfl rfl rfl rfl h63 (by decide) hbs ?_); intro v2 w2 hown2 hb2 hg2; clear hg2)
          go_roundw
          case rel => exact ⟨j + 1, _, by omega, by go_num, rfl, by rw [HT.out, List.length_append]; exact hown2, hbel.trans hb2⟩
          case measure => simp [intOf]; omega
        · have hje : j = ls.length := by omega
          subst hje
          rw [List.take_length] at hown
          go_wp2_with fail
          go_ret
          exact ⟨_, rfl, RdG.ofOwns hown, hbel, New.owns hown⟩

set_option maxRecDepth 100000 in
set_option maxHeartbeats 1000000 in
theorem CloneE_any (v : Value) (l : List Et) (w : World) (hv : RdG eE w v l) (hl : l.length ≤ 1000) :
    Calls Try.prog 62 #[v] w fun e w' => ∃ v', e = .returned v' ∧ w'.ownsRow w.heap.size 65 2 v' l.length (eE.vs l) ∧ Below w.heap.size w w' := by
  have HV := hide hv
  obtain ⟨ao, cap, rfl, hc1, hc2⟩ := hv.shape
  cases ao with
  | none =>
    have hcap : cap = 0 := by
      obtain ⟨ao', cap', e, h1, h2, h3, _⟩ := hv
      simp only [Value.slice.injEq] at e
      obtain ⟨rfl, _, rfl⟩ := e
      exact h3 rfl
    subst hcap
    obtain rfl : l = [] := List.eq_nil_of_length_eq_zero (by omega)
    clear hv
    show Calls Try.prog 62 #[.slice none 0 0] w _
    have heq : ∀ W, (binOp .eql 22 (.slice none 0 0) (.slice none 0 0)).run Try.prog W = .ok (.bool true) W := fun W => by kernel_rfl
    go_enter Try.func62, Try.ntmps62
    go_wp2_with fail
    go_ret
    exact ⟨_, rfl, World.ownsRow_nil _ _ _ _, Below.refl _ _⟩
  | some a =>
    have hl2 : 0 + l.length ≤ 1000000000 := by omega
    have hown : (w.alloc (.cells #[] 65)).ownsRow w.heap.size 65 2 (.slice (some ⟨w.heap.size, 0, none⟩) 0 0) 0 (eE.vs []) := World.ownsRow_made w #[] 0 (Nat.le_refl _) (by decide) rfl
    have hb8 : w.heap.size ≤ (w.alloc (.cells #[] 65)).heap.size := by simp
    have heq : ∀ W, (binOp .eql 22 (.slice (some a) l.length cap) (.slice none 0 0)).run Try.prog W = .ok (.bool false) W := fun W => Lib.run_eql_slice_nil W _ _ _ _ _ _ _ Try.underlying22
    have HV1 := hide (hv.alloc (.cells #[] 65))
    have HBA := hide (below_allocG w (.cells #[] 65))
    clear hv
    go_enter Try.func62, Try.ntmps62
    go_wp2_with (at_builtin; go_must (refine wpList_append_rdG (E := eE) (cs := []) hown HV1.out Try.underlying22 infoEntry rfl rfl rfl rfl rfl hl2 (by decide) hb8 ?_); intro v1 w1 ho1 hb1 hg1; clear hg1)
    go_ret
    exact ⟨_, rfl, by simpa using ho1, HBA.out.trans hb1⟩


set_option maxRecDepth 100000 in
set_option maxHeartbeats 2000000 in
theorem putBehind_any (v o : Value) (l m : List Et) (k : Nat) (A : Int) (w : World) (hv : RdG eE w v l) (ho : RdG eE w o m) (hA : A = k) (hk : k ≤ l.length) (hl : l.length ≤ 1000) (hm : m.length ≤ 1000) :
    Calls Try.prog 97 #[v, .int .i64 A, o] w fun e w' => ∃ v', e = .returned v' ∧ RdG eE w' v' (putGo l k m) ∧ Below w.heap.size w w' := by
  have HV := hide hv
  have HO := hide ho
  obtain ⟨ao, cap, rfl, hc1, hc2⟩ := hv.shape
  obtain ⟨oo, oc, rfl, hc3, hc4⟩ := ho.shape
  subst hA
  unfold maxLen at hc2 hc4
  have HG0 : Hid (putGo l k m = putGo l k m) := hide rfl
  generalize hP : putGo l k m = P at HG0 ⊢
  have HP := hide hP
  clear hv ho hP
  go_enter Try.func97, Try.ntmps97
  go_wp2_with fail
  go_loopw [11] (fun iv wr => ∃ (j : Nat), j ≤ m.length ∧ iv = .int .i64 j ∧ k + j ≤ l.length ∧ putGo l (k + j) (m.drop j) = P ∧ Below w.heap.size w wr)
    (fun iv _ => m.length - (intOf iv).toNat)
  case atStart => exact ⟨0, by omega, rfl, by omega, HP.out, Below.refl _ _⟩
  case round =>
    obtain ⟨j, hj, rfl, hkj, hgo, hbr⟩ := hrel
    have HGO := hide hgo
    have HBR := hide hbr
    clear hgo
    by_cases hlt : j < m.length
    · obtain ⟨c, hc⟩ : ∃ c, m[j]? = some c := ⟨_, List.getElem?_eq_getElem hlt⟩
      have HD := hide (drop_consE hc)
      rw [HD.out, putGo] at HGO
      obtain ⟨b, off, rfl, hb, hat⟩ := HO.out.here hc
      obtain ⟨q0, q1⟩ := hat.ent
      have r0 := cell_belowG q0 hbr
      have r1 := cell_belowG q1 hbr
      have hb' : b < wr.heap.size := Nat.lt_of_lt_of_le hb hbr.size
      have hk1 : (0 : Int) ≤ (j : Int) := by omega
      have hk2 : (j : Int) < (m.length : Int) := by omega
      obtain ⟨t, x⟩ := c
      simp only at r0 r1 HGO
      have hbA := below_allocG wr (.cells #[.int .i64 t, .string x] 65)
      have hV1 := (HV.out.below hbr).below hbA
      have hO1 := (HO.out.below hbr).below hbA
      have HHAS := hide (has_any _ l (k + j + 1) ((k : Int) + (j : Int) + 1) t _ hV1 (by omega) (by omega))
      clear q0 q1 hat hc
      cases hh : hasE l (k + j + 1) t
      · have HE := hide (HGO.out.symm.trans (if_neg (by rw [hh]; simp)))
        rw [hh] at HHAS
        have hs1 := run_slice_uptoK (K := 2) (P := Try.prog) Try.underlying22 (by kernel_rfl) infoEntry ao l.length cap (k + j) ((k : Int) + (j : Int)) (by omega) (by omega)
        have hs2 := run_slice_fromK (K := 2) (P := Try.prog) Try.underlying22 (by kernel_rfl) infoEntry (some ⟨b, off, none⟩) m.length oc j j rfl hj
        have hr1 := hV1.upto (hi := k + j) hkj
        have hr2 := hO1.from (lo := j) hj
        obtain ⟨x1, hx1⟩ : ∃ x, Go.sliced ao 0 (k + j) cap 2 = x := ⟨_, rfl⟩
        obtain ⟨x2, hx2⟩ : ∃ x, Go.sliced (some ⟨b, off, none⟩) j m.length oc 2 = x := ⟨_, rfl⟩
        rw [hx1] at hs1 hr1
        rw [hx2] at hs2 hr2
        obtain ⟨y1, z1, hy1, _, _⟩ := hr1.shape
        obtain ⟨y2, z2, hy2, _, _⟩ := hr2.shape
        subst hy1 hy2
        have hll := RdLG.two (wr.alloc (.cells #[.int .i64 t, .string x] 65)).drew 22 hr1.drew hr2.drew
        have hsz : [l.take (k + j), m.drop j].flatten.length ≤ 100000 := by simp; omega
        have HLL := hide (concatE_any _ _ _ hll hsz)
        rw [show [l.take (k + j), m.drop j].flatten = P by rw [HE.out, HD.out]; simp] at HLL
        have hbs := hbr.size
        have HBA := hide (show Below w.heap.size w ((wr.alloc (.cells #[.int .i64 t, .string x] 65)).drew.alloc (.cells #[.slice y1 (l.take (k + j)).length z1, .slice y2 (m.drop j).length z2] 22)) by go_grown)
        have hwr : IntKind.i64.wrap ((k : Int) + (j : Int)) = (k : Int) + (j : Int) := by rw [IntKind.wrap_i64]; omega
        have hi0 : (0 : Int) ≤ (k : Int) + (j : Int) := by omega
        have hi1 : (k : Int) + (j : Int) ≤ (l.length : Int) := by omega
        have hi2 : (k : Int) + (j : Int) ≤ (cap : Int) := by omega
        have hi3 : (j : Int) ≤ (m.length : Int) := by omega
        clear hx1 hx2 hr1 hr2 hll hV1 hO1 hbA hsz hh hbr
        generalize l.take (k + j) = L1 at *
        generalize m.drop j = L2 at *
        go_wp2_with (go_at_call 96; refine HHAS.out.mono ?_; rintro e w2 ⟨rfl, rfl⟩)
        generalize hA : wr.alloc (.cells #[.int .i64 t, .string x] 65) = A at HLL HBA ⊢
        clear hA
        go_region_held3 (fun _ => True) (trivial) (first
          | (go_at_call 105; refine HLL.out.mono ?_; rintro e w2 ⟨v2, rfl, hr2, hb2, hn2⟩))
        all_goals
          go_wp2_with fail
          go_ret
          exact ⟨_, rfl, hr2, HBA.out.trans (hb2.mono HBA.out.size)⟩
      · have HE := hide (HGO.out.symm.trans (if_pos hh))
        have hle := hasE_le hh
        rw [hh] at HHAS
        clear hV1 hO1 hh hbr hbA
        go_wp2_with (go_at_call 96; refine HHAS.out.mono ?_; rintro e w2 ⟨rfl, rfl⟩)
        go_roundw
        case rel => exact ⟨j + 1, by omega, by go_num, by omega, HE.out.symm, HBR.out.trans ((below_allocG wr _).mono HBR.out.size)⟩
        case measure => simp [intOf]; omega
    · have hje : j = m.length := by omega
      subst hje
      rw [List.drop_length, putGo] at HGO
      have HC := hide (CloneE_any _ l _ (HV.out.below hbr) hl)
      clear hbr
      go_wp2_with fail
      refine HC.out.mono ?_
      rintro e w2 ⟨v2, rfl, ho2, hb2⟩
      go_wp2_with fail
      go_ret
      exact ⟨_, rfl, by rw [← HGO.out]; exact RdG.ofOwns ho2, HBR.out.trans (hb2.mono HBR.out.size)⟩

end Go.Proofs.Ytbffmdhogehfnaa

/-
  The walk over entry.Put.
-/
namespace Go.Proofs.Ytbffmdhogehfnaa
open Go.RowKit
set_option linter.unusedVariables false

theorem results3_ttc {P : Program} {fn : Func} {i i2 j : Tmp} {u : TypeId} {tmps : Array Value} {C : Nat} {v1 v2 v3 : Value} {w : World} (h : fn.results = #[.tmp i, .tmp i2, .cell j u]) (hp : tmps[i]?.getD undef = v1) (hp2 : tmps[i2]?.getD undef = v2) (hq : tmps[j]?.getD undef = .pointer (some ⟨C, 0, none⟩)) (hm : (loadVar u ⟨C, 0, none⟩).run P w = .ok v3 w) :
    (results fn tmps).run P w = .ok (.tuple #[v1, v2, v3]) w := by
  simp [results, h, hp, hp2, hq, asAddr, hm]

theorem owns_shapeE {w : World} {base : Nat} {e : TypeId} {K : Nat} {v : Value} {n : Nat} {xs : List Value} (h : w.ownsRow base e K v n xs) : ∃ ao cap, v = .slice ao n cap := by
  rcases h.2 with ⟨rfl, hn⟩ | ⟨g, cap, cur, rfl, _⟩
  · exact ⟨none, 0, by rw [hn]⟩
  · exact ⟨_, _, rfl⟩

/-- Entries never lie in a block of two numbers. -/
theorem RdG.grownEnt {w w' : World} {v : Value} {xs : List Et} {R : Nat} {t : TypeId} {a b : Int} (hr : RdG eE w v xs) (hg : w.grownBy w' (some R)) (hB : Blk w R t #[.int .i64 a, .int .i64 b]) : RdG eE w' v xs := by
  obtain ⟨ao, cap, rfl, h1, h2, h3, h4⟩ := hr
  refine ⟨ao, cap, rfl, h1, h2, h3, fun ad ha j u hu => ?_⟩
  have hc := h4 ad ha j u hu
  have hlt := World.block_lt_of_cell? w _ hc
  have e : (ad.add j).block = ad.block := by unfold Addr.add; split <;> rfl
  have hne : ad.block ≠ R := by
    intro q
    cases xs with
    | nil => simp [En.vs] at hu
    | cons x xs' =>
      have hs := h4 ad ha 1 (.string x.text) (by simp [En.vs, eE])
      have h0 := h4 ad ha 0 (.int .i64 x.term) (by simp [En.vs, eE])
      obtain ⟨b', o, rfl⟩ := add_spot h0
      rw [Addr.add_lit] at hs
      simp only at q
      subst q
      rw [hB.cell (o + 1)] at hs
      match o, hs with
      | 0, hs => simp at hs
      | o + 1, hs => simp at hs
  rw [← hc]
  exact World.cell?_of_block (hg.block _ hlt (by rw [e]; intro q; cases q; exact hne rfl))

set_option maxRecDepth 100000 in
set_option maxHeartbeats 4000000 in
theorem Put_any (v u : Value) (l m : List Et) (n t : Int) (w : World) (hv : RdG eE w v l) (hu : RdG eE w u m) :
    Calls Try.prog 89 #[v, .int .i64 n, .int .i64 t, u] w fun e w' => ∃ v', e = .returned (.tuple #[v', .bool (putI l n t m), flt (putX l n t m)]) ∧ RdG eE w' v' (putL l n t m) ∧ Below w.heap.size w w' := by
  have HF1 : Hid (putL l n t m = if (ptF l n t m).1 ≠ 0 then [] else if hasE l n.toNat t = false then l else if (outF (putGo l n.toNat m)).1 ≠ 0 then [] else putGo l n.toNat m) := hide rfl
  have HF2 : Hid (putI l n t m = if (ptF l n t m).1 ≠ 0 then false else if hasE l n.toNat t = false then false else if (outF (putGo l n.toNat m)).1 ≠ 0 then false else true) := hide rfl
  have HF3 : Hid (putX l n t m = if (ptF l n t m).1 ≠ 0 then ptF l n t m else if hasE l n.toNat t = false then (0, 0) else outF (putGo l n.toNat m)) := hide rfl
  have HI := hide (putFault_any v u l m n t _ (hv.alloc (.cells #[.int .i64 0, .int .i64 0] 30)) (hu.alloc _))
  have HV := hide hv
  have HU := hide hu
  obtain ⟨ao, cap, rfl, _, _⟩ := hv.shape
  obtain ⟨bo, cbp, rfl, _, _⟩ := hu.shape
  have HR0 := hide (Blk.new w 30 #[.int .i64 0, .int .i64 0])
  have HB0 := hide (below_allocG w (.cells #[.int .i64 0, .int .i64 0] 30))
  have HZ := hide (ptF_z l n t m)
  have HOK := hide (fun h => ptF_ok (l := l) (n := n) (t := t) (m := m) h)
  generalize hK : ptF l n t m = K at *
  obtain ⟨x, y⟩ := K
  clear hv hK hu
  generalize putL l n t m = RL at *
  generalize putI l n t m = RI at *
  generalize putX l n t m = RX at *
  go_enter Try.func89, Try.ntmps89
  go_wp2_with fail
  refine HI.out.mono ?_
  rintro e w1 ⟨rfl, hb1⟩
  have HBW := hide ((HB0.out.trans (hb1.mono HB0.out.size)).trans ((below_allocG w1 (.cells #[.int .i64 x, .int .i64 y] 30)).mono (HB0.out.trans (hb1.mono HB0.out.size)).size))
  have HR := hide ((HR0.out.later hb1).later (below_allocG w1 (.cells #[.int .i64 x, .int .i64 y] 30)))
  have hrl := (HR0.out.later hb1).lt
  have HRw := hide (HR0.out.later hb1)
  have HBw := hide (HB0.out.trans (hb1.mono HB0.out.size))
  clear hb1 HI HR0 HB0
  unfold flt
  by_cases hx : x ≠ 0
  · have HE1 := hide (HF1.out.trans (if_pos hx))
    have HE2 := hide (HF2.out.trans (if_pos hx))
    have HE3 := hide (HF3.out.trans (if_pos hx))
    have hq : (x == 0) = false := beq_eq_false_iff_ne.2 hx
    have hq2 : (x != 0) = true := by simp [hx]
    clear hx
    have r0 := HRw.out.cell 0
    have r1 := HRw.out.cell 1
    have z0 := HRw.out.frozen 0
    have z1 := HRw.out.frozen 1
    simp at r0 r1
    go_wp2_with fail
    go_region
    have hbw := HBw.out
    go_wp2_with fail
    refine bodyPost_ret (v := .tuple #[.slice none 0 0, .bool false, .agg #[.int .i64 x, .int .i64 y]]) (results3_ttc Try.results89 rfl rfl rfl (run_loadVar_blk (xs := #[.int .i64 x, .int .i64 y]) (HRw.out.two) Try.underlying30 rfl Try.sizeFaultE)) rfl ?_
    exact ⟨_, by rw [HE2.out, HE3.out]; rfl, by rw [HE1.out]; exact RdG.nil _, by go_grown⟩
  · have HG1 := hide (HF1.out.trans (if_neg hx))
    have HG2 := hide (HF2.out.trans (if_neg hx))
    have HG3 := hide (HF3.out.trans (if_neg hx))
    obtain rfl : x = 0 := Decidable.not_not.1 hx
    obtain rfl : y = 0 := by have := HZ.out rfl; simpa using this
    obtain ⟨k1, k2, k3, k4⟩ := HOK.out rfl
    obtain ⟨n0, n1⟩ := numL_iff.1 k3
    have l1 := (chkE_fine k1).2
    have l2 := (chkE_fine k2).2
    have hnn : n = ((n.toNat : Nat) : Int) := by omega
    have hn2 : n.toNat ≤ 2000000000 := by omega
    clear hx HF1 HF2 HF3 HOK k1 k2 k3 k4
    generalize hN : n.toNat = N at *
    have HHAS := hide (has_any _ l N n t _ (HV.out.below HBW.out) hnn hn2)
    have HNN := hide hnn
    clear hnn hN n0 n1
    cases hh : hasE l N t
    · have HE1 := hide (HG1.out.trans (if_pos hh))
      have HE2 := hide (HG2.out.trans (if_pos hh))
      have HE3 := hide (HG3.out.trans (if_pos hh))
      rw [hh] at HHAS
      have HC := hide (CloneE_any _ l _ (HV.out.below HBW.out) (by omega))
      clear hh
      go_wp2_with (go_at_call 96; refine HHAS.out.mono ?_; rintro e w2 ⟨rfl, rfl⟩)
      refine HC.out.mono ?_
      rintro e w2 ⟨v2, rfl, ho2, hb2⟩
      obtain ⟨so, sc, rfl⟩ := owns_shapeE ho2
      have HO2 := hide ho2
      have HR2 := hide (HR.out.later hb2)
      have HB2 := hide (HBW.out.trans (hb2.mono HBW.out.size))
      clear ho2 hb2
      go_wp2_with (refine wpList_store_blk rfl rfl rfl rfl HR2.out rfl Try.sizeFaultE rfl ?_; intro w8 hR8 hg8; have HR8 := hide hR8; have HG8 := hide hg8; clear hR8 hg8)
      refine bodyPost_ret (v := .tuple #[.slice so l.length sc, .bool false, .agg #[.int .i64 0, .int .i64 0]]) (results3_ttc Try.results89 rfl rfl rfl (run_loadVar_blk HR8.out Try.underlying30 rfl Try.sizeFaultE)) rfl ?_
      exact ⟨_, by rw [HE2.out, HE3.out]; rfl, by rw [HE1.out]; exact RdG.ofOwns (owns_grownO HO2.out HG8.out (.inr (owns_off HO2.out HR2.out (by decide)))), below_grownO HB2.out HG8.out (fun k hk => by cases hk; omega) HB2.out.size⟩
    · have HH1 := hide (HG1.out.trans (if_neg (by rw [hh]; simp)))
      have HH2 := hide (HG2.out.trans (if_neg (by rw [hh]; simp)))
      have HH3 := hide (HG3.out.trans (if_neg (by rw [hh]; simp)))
      have hle := hasE_le hh
      rw [hh] at HHAS
      have HPB := hide (putBehind_any _ _ l m N n _ (HV.out.below HBW.out) (HU.out.below HBW.out) HNN.out hle (by omega) (by omega))
      have HZ2 := hide (outF_z (putGo l N m))
      have HOF := hide (fun V W (h : RdG eE W V (putGo l N m)) => outFault_any V _ W h)
      generalize putGo l N m = PG at *
      generalize hO : outF PG = O at *
      obtain ⟨p, q⟩ := O
      clear hh hO
      go_wp2_with (go_at_call 96; refine HHAS.out.mono ?_; rintro e w2 ⟨rfl, rfl⟩)
      refine HPB.out.mono ?_
      rintro e w2 ⟨v2, rfl, hr2, hb2⟩
      obtain ⟨so, sc, rfl, _, _⟩ := hr2.shape
      have HRD2 := hide hr2
      have HR2 := hide (HR.out.later hb2)
      have HB2 := hide (HBW.out.trans (hb2.mono HBW.out.size))
      clear hr2 hb2
      go_wp2_with fail
      refine (HOF.out _ _ HRD2.out).mono ?_
      rintro e w3 ⟨rfl, hb3⟩
      have HRD3 := hide (HRD2.out.below hb3)
      have HR3 := hide (HR2.out.later hb3)
      have HB3 := hide (HB2.out.trans (hb3.mono HB2.out.size))
      have hrl3 := HR3.out.lt
      clear hb3 HRD2 HR2 HB2
      unfold flt
      by_cases hp : p ≠ 0
      · have HE1 := hide (HH1.out.trans (if_pos hp))
        have HE2 := hide (HH2.out.trans (if_pos hp))
        have hq : (p == 0) = false := beq_eq_false_iff_ne.2 hp
        have hq2 : (p != 0) = true := by simp [hp]
        clear hp
        have r0 := HR3.out.cell 0
        have r1 := HR3.out.cell 1
        have z0 := HR3.out.frozen 0
        have z1 := HR3.out.frozen 1
        simp at r0 r1
        go_wp2_with fail
        go_region
        have hbw := HB3.out
        go_wp2_with fail
        refine bodyPost_ret (v := .tuple #[.slice none 0 0, .bool false, .agg #[.int .i64 p, .int .i64 q]]) (results3_ttc Try.results89 rfl rfl rfl (run_loadVar_blk (xs := #[.int .i64 p, .int .i64 q]) (HR3.out.two) Try.underlying30 rfl Try.sizeFaultE)) rfl ?_
        exact ⟨_, by rw [HE2.out, HH3.out]; rfl, by rw [HE1.out]; exact RdG.nil _, by go_grown⟩
      · have HE1 := hide (HH1.out.trans (if_neg hp))
        have HE2 := hide (HH2.out.trans (if_neg hp))
        obtain rfl : p = 0 := Decidable.not_not.1 hp
        obtain rfl : q = 0 := by have := HZ2.out rfl; simpa using this
        have HR4 := hide (HR3.out.later (below_allocG w3 (.cells #[.int .i64 0, .int .i64 0] 30)))
        have HB4 := hide (HB3.out.trans ((below_allocG w3 (.cells #[.int .i64 0, .int .i64 0] 30)).mono HB3.out.size))
        have HRD4 := hide (HRD3.out.below (below_allocG w3 (.cells #[.int .i64 0, .int .i64 0] 30)))
        clear hp
        go_wp2_with (refine wpList_store_blk rfl rfl rfl rfl HR4.out rfl Try.sizeFaultE rfl ?_; intro w8 hR8 hg8; have HR8 := hide hR8; have HG8 := hide hg8; clear hR8 hg8)
        refine bodyPost_ret (v := .tuple #[.slice so PG.length sc, .bool true, .agg #[.int .i64 0, .int .i64 0]]) (results3_ttc Try.results89 rfl rfl rfl (run_loadVar_blk HR8.out Try.underlying30 rfl Try.sizeFaultE)) rfl ?_
        refine ⟨_, by rw [HE2.out, HH3.out]; rfl, ?_, below_grownO HB4.out HG8.out (fun k hk => by cases hk; omega) HB4.out.size⟩
        rw [HE1.out]
        exact HRD4.out.grownEnt HG8.out HR4.out

end Go.Proofs.Ytbffmdhogehfnaa
