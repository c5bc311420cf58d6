/-
  Texts joined: FileMath2, CellB1, FileB, CellR1, CellR2, LawFTorn, Frame.
-/
import Derived.Test.YtlebbkbbmgmmjacMFileTorn8
import Derived.Deep.AppendLies
import Derived.ProofKit
import Derived.OpenShut
import Derived.ShutString
import Derived.ChangeOld
import Derived.Below
import Derived.SliceStrings
import Derived.SizedLaws
import Derived.Deep.Slices
/-
  Files that are made: their frames, whole and torn: plain mathematics.
-/
namespace Go.Proofs.Ytlebbkbbmgmmjac
open Go.RowKit

theorem bodiesGo_flat : ∀ (l : List (List UInt8)) (f : Nat) (acc : List (List UInt8)) (tail : List UInt8), (∀ b ∈ l, b.length ≤ 65535) → l.length ≤ f → bodiesGo (f + 1) (flatF l ++ tail) acc = bodiesGo (f + 1 - l.length) tail (acc ++ l)
  | [], f, acc, tail, _, _ => by simp [flatF]
  | b :: l, 0, acc, tail, _, h => by simp at h
  | b :: l, f + 1, acc, tail, hb, hf => by
    have hne : flatF (b :: l) ++ tail ≠ [] := by
      intro e
      have := congrArg List.length e
      rw [flatF_cons, List.length_append, List.length_append, framed_length] at this
      simp at this
    have hfr : frameAt (flatF (b :: l) ++ tail) = some b := by
      rw [flatF_cons, List.append_assoc]
      exact frameAt_framed b _ (hb b (List.mem_cons_self ..))
    rw [bodiesGo_step hne hfr]
    have hd : (flatF (b :: l) ++ tail).drop (b.length + 6) = flatF l ++ tail := by
      rw [flatF_cons, List.append_assoc, ← framed_length b, List.drop_left]
    rw [hd, bodiesGo_flat l f _ tail (fun x hx => hb x (List.mem_cons_of_mem _ hx)) (by simpa using hf)]
    simp

theorem flatF_len : ∀ (l : List (List UInt8)), l.length ≤ (flatF l).length
  | [] => by simp
  | b :: l => by
    have := flatF_len l
    rw [flatF_cons, List.length_append, framed_length, List.length_cons]
    omega

theorem bodiesR_flat {l : List (List UInt8)} (hb : ∀ b ∈ l, b.length ≤ 65535) : bodiesR (flatF l) = some l := by
  have h := bodiesGo_flat l (flatF l).length [] [] hb (flatF_len l)
  rw [List.append_nil] at h
  rw [bodiesR, h]
  have := flatF_len l
  obtain ⟨m, hm⟩ : ∃ m, (flatF l).length + 1 - l.length = m + 1 := ⟨(flatF l).length - l.length, by omega⟩
  rw [hm, bodiesGo_end]
  simp

theorem unGo_flat : ∀ (l : List (List UInt8)) (f k : Nat) (acc : List (List UInt8)), (∀ b ∈ l, b.length ≤ 65535) → l.length ≤ f → (unGo (f + 1) (flatF l) acc k).1 = acc ++ l
  | [], f, k, acc, _, _ => by
    rw [unGo_end (by rfl)]
    simp
  | b :: l, 0, k, acc, _, h => by simp at h
  | b :: l, f + 1, k, acc, hb, hf => by
    have hfr : frameAt (flatF (b :: l)) = some b := by
      rw [flatF_cons]
      exact frameAt_framed b _ (hb b (List.mem_cons_self ..))
    have hd : (flatF (b :: l)).drop (b.length + 6) = flatF l := by rw [flatF_cons, ← framed_length b, List.drop_left]
    rw [unGo_step hfr, hd, unGo_flat l f _ _ (fun x hx => hb x (List.mem_cons_of_mem _ hx)) (by simpa using hf)]
    simp

theorem un_flat {l : List (List UInt8)} (hb : ∀ b ∈ l, b.length ≤ 65535) : (unGo ((flatF l).length + 1) (flatF l) [] 0).1 = l := by
  rw [unGo_flat l _ _ _ hb (flatF_len l)]
  rfl

/-- With one byte of a body or a sum another one there are not all frames. -/
theorem bodies_torn (l : List (List UInt8)) (i k : Nat) (tb : UInt8) (hb : ∀ b ∈ l, b.length ≤ 65535) (hk : k < l.length) (h2 : (flatF (l.take k)).length + 2 ≤ i) (h3 : i < (flatF (l.take k)).length + l[k].length + 6)
    (hne : (flatF l)[i]? ≠ some tb) : bodiesR ((flatF l).set i tb) = none := by
  have e0 : flatF l = flatF (l.take k) ++ (framed l[k] ++ flatF (l.drop (k + 1))) := by
    rw [← flatF_cons, ← drop_cons l k hk]
    exact flatF_split l k
  have hfl := framed_length l[k]
  have e : (flatF l).set i tb = flatF (l.take k) ++ ((framed l[k]).set (i - (flatF (l.take k)).length) tb ++ flatF (l.drop (k + 1))) := by
    rw [e0, List.set_append_right _ _ (by omega), List.set_append_left _ _ (by omega)]
  have hne' : (framed l[k])[i - (flatF (l.take k)).length]? ≠ some tb := by
    intro h
    apply hne
    rw [e0, List.getElem?_append_right (by omega), List.getElem?_append_left (by omega), h]
  have hfn := frameAt_set l[k] (flatF (l.drop (k + 1))) _ tb (hb _ (List.getElem_mem hk)) (by omega) (by omega) hne'
  have hlen : (flatF (l.take k)).length ≤ ((flatF l).set i tb).length := by rw [e, List.length_append]; omega
  have htl := flatF_len (l.take k)
  unfold bodiesR
  rw [e]
  rw [e] at hlen
  rw [bodiesGo_flat (l.take k) _ [] _ (fun b h => hb b (List.mem_of_mem_take h)) (by omega)]
  obtain ⟨m, hm⟩ : ∃ m, (flatF (l.take k) ++ ((framed l[k]).set (i - (flatF (l.take k)).length) tb ++ flatF (l.drop (k + 1)))).length + 1 - (l.take k).length = m + 1 := ⟨(flatF (l.take k) ++ ((framed l[k]).set (i - (flatF (l.take k)).length) tb ++ flatF (l.drop (k + 1)))).length - (l.take k).length, by omega⟩
  rw [hm]
  refine bodiesGo_bad ?_ hfn
  intro e2
  have := congrArg List.length e2
  rw [List.length_append, List.length_set, hfl] at this
  simp at this

/-- A file that is made, where there is no fault. -/
theorem makeF_ok {cs : List Cl} {size : Int} (h : (makeF cs size).2.1 = 0) : (checkC cs).1 = 0 ∧ cs.length ≤ 500 ∧ 50 ≤ size ∧ size ≤ 4000 ∧ makeF cs size = (flatF (fileBB cs size.toNat), (0, 0)) ∧ (flatF (fileBB cs size.toNat)).length ≤ 60000 := by
  by_cases hc : (checkC cs).1 = 0
  · by_cases h5 : 500 < cs.length
    · rw [makeF_many hc h5] at h
      simp at h
    · by_cases hs : size < 50 ∨ 4000 < size
      · rw [makeF_size hc h5 hs] at h
        simp at h
      · rw [makeF_go hc h5 hs] at h ⊢
        obtain ⟨_, h2, h3⟩ := framesR_zero h
        exact ⟨hc, by omega, by omega, by omega, by rw [h3], h2⟩
  · rw [makeF_bad hc] at h
    exact absurd h hc

end Go.Proofs.Ytlebbkbbmgmmjac

/-
  The walks beneath the laws of cells: the example, copies.
-/
namespace Go.Proofs.Ytlebbkbbmgmmjac
open Go.RowKit

def verC : List Cl := [⟨⟨#[114]⟩, ⟨#[99]⟩, 2, false, ⟨#[98]⟩⟩, ⟨⟨#[114]⟩, ⟨#[99]⟩, 1, false, ⟨#[97]⟩⟩]

set_option maxRecDepth 100000 in
set_option maxHeartbeats 400000 in
theorem versions_any (w : World) : Calls Try.prog 44 #[] w fun e w' => ∃ v', e = .returned v' ∧ RdC w' v' verC ∧ Below w.heap.size w w' := by
  go_enter Try.func44, Try.ntmps44
  go_wp2_with fail
  go_ret
  refine ⟨_, rfl, ?_, by go_grown⟩
  refine ⟨some ⟨w.heap.size, 0, none⟩, 2, rfl, by decide, by decide, (fun h => by cases h), fun a ha j v hv => ?_⟩
  cases ha
  rw [Addr.add_lit, Nat.zero_add, ← hv]
  refine ((Bk.new w 53 _).cell j).trans ?_
  simp [cc, cv, verC]

theorem getC_ver1 : getC verC ⟨#[114]⟩ ⟨#[99]⟩ 1 = (⟨#[97]⟩, true, (0, 0)) := by decide +kernel
theorem getC_ver0 : getC verC ⟨#[114]⟩ ⟨#[99]⟩ 0 = (⟨#[]⟩, false, (0, 0)) := by decide +kernel


set_option maxRecDepth 100000 in
set_option maxHeartbeats 400000 in
theorem ownCells_any (v : Value) (cs : List Cl) (w : World) (hv : RdC w v cs) (hl : cs.length ≤ 1000000) :
    Calls Try.prog 11 #[v] w fun e w' => ∃ v', e = .returned v' ∧ RdC w' v' cs ∧ Below w.heap.size w w' ∧ New w.heap.size v' := by
  obtain ⟨ao, cap, hvv, hc1, hc2⟩ := hv.shape
  subst hvv
  have hl2 : 0 + cs.length ≤ 1000000000 := by omega
  go_enter Try.func11, Try.ntmps11
  go_wp2_with (at_builtin; go_must (refine wpList_append_rdC (cs := []) (World.ownsRow_nil w w.heap.size 53 5) hv Try.underlying22 Try.info53 rfl rfl rfl rfl rfl hl2 (by decide) (Nat.le_refl _) ?_); intro v1 w1 ho1 hb1 hg1; clear hg1)
  go_ret
  exact ⟨_, rfl, RdC.ofOwns ho1, hb1, New.owns ho1⟩

def manyB (n : Int) : Bool := decide (150 < n ∧ n < 1000 ∨ 2000 < n)


end Go.Proofs.Ytlebbkbbmgmmjac

/-
  The walk over what the laws of files begin with.
-/
namespace Go.Proofs.Ytlebbkbbmgmmjac
open Go.RowKit

/-- 'append(out, xs...)' behind a guard that holds. -/
theorem wpList_append_rdW {P : Program} {w : World} {ops : Array Oper} {rest : List Oper} {o : Oper} {a : Act} {Q : Exit → Act → World → Prop} {s x : Operand} {t : TypeId} {base : Nat} {e : TypeId} {z : Value} {bytes : Nat}
    {v : Value} {n : Nat} {xs : List Value} {vx : Value} {news : List Value}
    (hown : w.ownsRow base e 1 v n xs) (hrd : Rd w vx news)
    (ht : P.underlying t = some (.slice e)) (hinf : (P.info? e).map (fun i => (i.zero, i.size, i.bytes)) = some (some z, 1, bytes)) (hzs : z.cells.size = 1)
    (hw : Region.wanted o (yielded ops a.tmps) = true) (ho : o.op = .call { callee := .builtin .append, args := #[s, x], argTypes := #[t, t] })
    (hs : a.eval s = v) (hx : a.eval x = vx) (h1 : ∀ u ∈ news, u.oneCell' = true)
    (h63 : n + news.length ≤ 2000000000000) (hbytes : bytes ≤ 64) (hbase : base ≤ w.heap.size)
    (h : ∀ v' w', w'.ownsRow base e 1 v' (n + news.length) (xs ++ news) → Below base w w' → wpList P ops Q rest (a.put o.dst v') w') : wpList P ops Q (o :: rest) a w := by
  refine wpList_step fun K hK => ?_
  rw [if_pos hw]
  obtain ⟨v', w', hr, h2, h3, h4⟩ := run_append_rd (ty := o.type) hown hrd ht hinf hzs h1 h63 hbytes hbase
  unfold Oper.wp execOp
  simp only [ho, resolve, invoke, builtin, Sem.run_bind, Sem.run_pure, Result.andThen_ok, List.map_toArray, List.map_cons, List.map_nil, hs, hx, hr]
  exact hK _ _ (h v' w' h2 h3)

theorem make_nil : makeF [] 50 = (framed [] ++ framed [0], (0, 0)) := by decide +kernel
theorem make_ver : (makeF verC 50).2 = (0, 0) ∧ (openF (makeF verC 50).1).2 = (0, 0) ∧ (openF (makeF verC 50).1).1.1.length = 2 := by decide +kernel

set_option maxRecDepth 100000 in
set_option maxHeartbeats 1000000 in
theorem fileBegun_any (w : World) : Calls Try.prog 9 #[] w fun e w' => e = .returned (.bool true) ∧ Below w.heap.size w w' := by
  obtain ⟨hm1, hm2, hm3⟩ := make_ver
  have HM3 := hide hm3
  go_enter Try.func9, Try.ntmps9
  go_wp2_with fail
  refine (Make_any _ [] 50 _ (RdC.nil _)).mono ?_
  rintro e w1 ⟨v1, rfl, hr1, hb1, _⟩
  rw [make_nil] at hr1 ⊢
  simp only at hr1 ⊢
  obtain ⟨o1, c1, hv1, _, _⟩ := hr1.shape
  subst hv1
  unfold fltC
  have hA1 := Bk.new w1 26 #[.int .i64 0, .int .i64 0]
  have hbA : Below w.heap.size w (w1.alloc (.cells #[.int .i64 0, .int .i64 0] 26)) := hb1.alloc hb1.size _
  have hrA := hr1.alloc (.cells #[.int .i64 0, .int .i64 0] 26)
  go_wp2_with fail
  generalize w1.alloc (.cells #[.int .i64 0, .int .i64 0] 26) = wA at *
  generalize w1.heap.size = zA at *
  refine (versions_any _).mono ?_
  rintro e w2 ⟨v2, rfl, hr2, hb2⟩
  go_wp2_with fail
  refine (Make_any _ verC 50 _ hr2).mono ?_
  rintro e w3 ⟨v3, rfl, hr3, hb3, _⟩
  rw [hm1]
  unfold fltC
  generalize hX : (makeF verC 50).1 = X at *
  obtain ⟨o3, c3, hv3, _, _⟩ := hr3.shape
  subst hv3
  have hb23 : Below wA.heap.size wA w3 := hb2.trans (hb3.mono hb2.size)
  have hA3 := hA1.below hb23 hA1.lt
  have hr13 := hrA.below hb23
  have hbw3 : Below w.heap.size w w3 := hbA.trans (hb23.mono hbA.size)
  have hB3 := Bk.new w3 26 #[.int .i64 0, .int .i64 0]
  have hA4 := hA3.below (below_alloc' w3 (.cells #[.int .i64 0, .int .i64 0] 26)) hA3.lt
  have hr14 := hr13.alloc (.cells #[.int .i64 0, .int .i64 0] 26)
  have hr34 := hr3.alloc (.cells #[.int .i64 0, .int .i64 0] 26)
  have hbw4 : Below w.heap.size w (w3.alloc (.cells #[.int .i64 0, .int .i64 0] 26)) := hbw3.alloc hbw3.size _
  clear hb2 hb3 hr2 hA1 hrA hb1 hbA hb23 hA3 hr13 hr3 hr1
  go_wp2_with fail
  generalize w3.alloc (.cells #[.int .i64 0, .int .i64 0] 26) = wB at *
  generalize w3.heap.size = zB at *
  refine (FOpen_any _ X _ hr34).mono ?_
  rintro e w5 ⟨v5, rfl, hr5, hb5⟩
  rw [hm2]
  unfold fltC
  obtain ⟨o5, c5, hv5, _, _⟩ := hr5.shape
  rw [HM3.out] at hv5
  subst hv5
  have hA5 := (hA4.below hb5 hA4.lt).below (below_alloc' w5 (.cells #[.int .i64 0, .int .i64 0] 26)) (hA4.below hb5 hA4.lt).lt
  have hB5 := (hB3.below hb5 hB3.lt).below (below_alloc' w5 (.cells #[.int .i64 0, .int .i64 0] 26)) (hB3.below hb5 hB3.lt).lt
  have hr15 := (hr14.below hb5).alloc (.cells #[.int .i64 0, .int .i64 0] 26)
  have hbw5 : Below w.heap.size w (w5.alloc (.cells #[.int .i64 0, .int .i64 0] 26)) := (hbw4.trans (hb5.mono hbw4.size)).alloc (by have := hb5.size; have := hbw4.size; omega) _
  have a0 := hA5.cell 0
  have b0 := hB5.cell 0
  simp at a0 b0
  clear hA4 hB3 hr14 hr34 hbw4 hr5 hb5 hm1 hm2 hm3 hX
  go_wp2_with fail
  refine (Framed_own _ [] _ (Rd.nil _) (by simp)).mono ?_
  rintro e w6 ⟨v6, rfl, ho6, hb6⟩
  go_wp2_with fail
  have hlit : Rd (w6.alloc (.cells #[.int .u8 0] 5)) (.slice (some ⟨w6.heap.size, 0, none⟩) 1 1) (bc [0]) := Rd.new w6 (.int .u8 0) 5
  refine (Framed_own _ [0] _ hlit (by simp)).mono ?_
  rintro e w7 ⟨v7, rfl, ho7, hb7⟩
  have hb67 : Below w6.heap.size w6 w7 := (below_alloc' w6 _).trans (hb7.mono (by simp))
  have ho67 := owns_below ho6 hb67
  have hl6 : (framed []).length = 6 := framed_length []
  have hl7 : (framed [0]).length = 7 := framed_length [0]
  have hr7 := Rd.ofOwns ho7
  obtain ⟨o7, c7, hv7⟩ := owns_shape ho7
  subst hv7
  generalize w5.alloc (.cells #[.int .i64 0, .int .i64 0] 26) = wC at *
  have hbC7 : Below wC.heap.size wC w7 := hb6.trans (hb67.mono hb6.size)
  have hz7 := hbC7.size
  go_wp2_with (at_builtin; go_must (refine wpList_append_rdW ho67 hr7 Try.underlying24 Try.info5 rfl rfl rfl rfl rfl (bc_one _) (by rw [bc_length, hl6, hl7]; omega) (by decide) hz7 ?_); intro v8 w8 ho8 hb8)
  rw [← bc_append, bc_length, ← List.length_append] at ho8
  have hbC8 := hbC7.trans hb8
  refine (Same_any _ _ (framed [] ++ framed [0]) (framed [] ++ framed [0]) _ (hr15.below hbC8) (Rd.ofOwns ho8)).mono ?_
  rintro e w9 ⟨rfl, rfl⟩
  go_wp2_with fail
  go_ret
  exact ⟨by simp, hbw5.trans (hbC8.mono hbw5.size)⟩

end Go.Proofs.Ytlebbkbbmgmmjac

/-
  The walks over the document's answers of cells: their faults, and whether two lists are the same.
-/
namespace Go.Proofs.Ytlebbkbbmgmmjac
open Go.RowKit

theorem isNumB_true {n : Int} (h1 : 0 ≤ n) (h2 : n ≤ 1000000000) : isNumB n = true := by unfold isNumB; simp; omega
theorem isNumB_false {n : Int} (h : n < 0 ∨ 1000000000 < n) : isNumB n = false := by unfold isNumB; simp; omega

set_option maxRecDepth 100000 in
set_option maxHeartbeats 400000 in
theorem CellCode_any (c : Cl) (w : World) : Calls Try.prog 50 #[cA c] w fun e w' => e = .returned (.int .i64 (codeC c)) ∧ Below w.heap.size w w' := by
  unfold cA
  have hall : c.row.toList.isEmpty = true ∨ (c.row.toList.isEmpty = false ∧ 40 < (c.row.size : Int)) ∨ (c.row.toList.isEmpty = false ∧ (c.row.size : Int) ≤ 40 ∧ 40 < (c.col.size : Int)) ∨ (c.row.toList.isEmpty = false ∧ (c.row.size : Int) ≤ 40 ∧ (c.col.size : Int) ≤ 40 ∧ 200 < (c.val.size : Int)) ∨ (c.row.toList.isEmpty = false ∧ (c.row.size : Int) ≤ 40 ∧ (c.col.size : Int) ≤ 40 ∧ (c.val.size : Int) ≤ 200) := by
    cases c.row.toList.isEmpty
    · simp only [Bool.false_eq_true, false_or, true_and]
      omega
    · exact .inl rfl
  rcases hall with h0 | ⟨h0, h1⟩ | ⟨h0, h1, h2⟩ | ⟨h0, h1, h2, h3⟩ | ⟨h0, h1, h2, h3⟩
  iterate 4
    · have HE := hide (show codeC c = 8 by unfold codeC; rw [if_pos (by simp only [h0]; simp; try omega)])
      go_enter Try.func50, Try.ntmps50
      go_wp2_with fail
      go_ret
      exact ⟨by rw [HE.out]; rfl, by go_grown⟩
  · have hn : ¬ (c.row.toList.isEmpty = true ∨ 40 < (c.row.size : Int) ∨ 40 < (c.col.size : Int) ∨ 200 < (c.val.size : Int)) := by simp only [h0]; simp; omega
    have h4 : c.time < 0 ∨ (¬ c.time < 0 ∧ 1000000000 < c.time) ∨ (¬ c.time < 0 ∧ c.time ≤ 1000000000) := by omega
    rcases h4 with h4 | ⟨h4, h5⟩ | ⟨h4, h5⟩
    · have HE := hide (show codeC c = 3 by unfold codeC; rw [if_neg hn, if_pos (isNumB_false (by omega))])
      clear hn
      go_enter Try.func50, Try.ntmps50
      go_wp2_with fail
      go_ret
      exact ⟨by rw [HE.out]; rfl, by go_grown⟩
    · have HE := hide (show codeC c = 3 by unfold codeC; rw [if_neg hn, if_pos (isNumB_false (by omega))])
      clear hn
      go_enter Try.func50, Try.ntmps50
      go_wp2_with fail
      go_ret
      exact ⟨by rw [HE.out]; rfl, by go_grown⟩
    · have hi := isNumB_true (n := c.time) (by omega) h5
      cases h7 : c.gone <;> cases h6 : c.val.toList.isEmpty
      all_goals
        have HE := hide (show codeC c = _ by unfold codeC; rw [if_neg hn, if_neg (by rw [hi]; decide), h7, h6])
        clear hn hi
        go_enter Try.func50, Try.ntmps50
        go_wp2_with fail
        go_ret
        exact ⟨by rw [HE.out]; rfl, by go_grown⟩

/-- Does a stand ahead of b? -/
def aheadB (a b : Cl) : Bool := if a.row.toList == b.row.toList then (if a.col.toList == b.col.toList then decide (b.time < a.time) else Op.bytesLess a.col.toList b.col.toList) else Op.bytesLess a.row.toList b.row.toList

theorem aheadB_iff {a b : Cl} : aheadB a b = true ↔ Lt a b := by
  unfold aheadB Lt kl rc
  by_cases h1 : a.row.toList = b.row.toList
  · by_cases h2 : a.col.toList = b.col.toList
    · simp [h1, h2, bl_irrefl]
    · simp [h1, h2, bl_irrefl]
  · simp [h1]

theorem aheadB_ord {a b : Cl} : aheadB a b = decide (ordC a b < 0) := by
  rw [Bool.eq_iff_iff, aheadB_iff, decide_eq_true_eq, ordC_neg]

set_option maxRecDepth 100000 in
set_option maxHeartbeats 400000 in
theorem Ahead_any (a b : Cl) (w : World) : Calls Try.prog 51 #[cA a, cA b] w fun e w' => e = .returned (.bool (aheadB a b)) ∧ Below w.heap.size w w' := by
  unfold cA
  cases h1 : (a.row.toList == b.row.toList) <;> cases h2 : (a.col.toList == b.col.toList)
  all_goals
    have HE := hide (show aheadB a b = _ by unfold aheadB; rw [h1, h2])
    go_enter Try.func51, Try.ntmps51
    go_wp2_with fail
    go_ret
    exact ⟨by rw [HE.out]; rfl, by go_grown⟩

set_option maxRecDepth 100000 in
set_option maxHeartbeats 400000 in
theorem FC_any (c a : Int) (w : World) : Calls Try.prog 13 #[.int .i64 c, .int .i64 a] w fun e w' => e = .returned (fltC (c, a)) ∧ Below w.heap.size w w' := by
  go_enter Try.func13, Try.ntmps13
  go_wp2_with fail
  exact bodyPost_ret (v := fltC (c, a)) (by simp [results, Try.results13, go_sem, fltC]) rfl ⟨rfl, by go_grown⟩

/-- A fault's block and what is below, behind a call. -/
theorem flt_later {w wr w1 : World} (hbel : Below (w.heap.size + 1) (w.alloc (.cells #[.int .i64 0, .int .i64 0] 26)) wr) (hb : Below wr.heap.size wr w1) : Below (w.heap.size + 1) (w.alloc (.cells #[.int .i64 0, .int .i64 0] 26)) w1 :=
  hbel.trans (hb.mono (by have := hbel.size; simp at this; omega))

set_option maxRecDepth 100000 in
set_option maxHeartbeats 1000000 in
theorem CellsFault_any (v : Value) (cs : List Cl) (w : World) (hv : RdC w v cs) :
    Calls Try.prog 12 #[v] w fun e w' => e = .returned (fltC (checkC cs)) ∧ Below w.heap.size w w' := by
  obtain ⟨ao, cap, hvv, hc1, hc2, hat⟩ := hv.at
  subst hvv
  unfold maxLen at hc2
  by_cases hbig : 1000 < cs.length
  · have HE := hide (show checkC cs = (2, 0) by simp [checkC, faultR, hbig])
    go_enter Try.func12, Try.ntmps12
    go_wp2_with fail
    refine (FC_any 2 0 _).mono ?_
    rintro e w1 ⟨rfl, hb1⟩
    have hbel := flt_later (Below.refl _ _) hb1
    obtain ⟨hf0, hf1, hfr0, hfr1, hsz⟩ := two_later hbel
    have hbf := below_first hbel
    unfold fltC
    go_wp2_with fail
    exact bodyPost_ret (v := fltC (2, 0)) (by simp [results, Try.results12, go_sem, fltC, hf0, hf1]) rfl ⟨by rw [HE.out], by go_grown⟩
  · have HF := hide (show checkC cs = firstG (codeAt cs) cs.length 0 by simp [checkC, faultR, hbig])
    go_enter Try.func12, Try.ntmps12
    go_wp2_with fail
    go_loopw [3] (fun i wr => ∃ k : Nat, k ≤ cs.length ∧ i = .int .i64 k ∧ firstG (codeAt cs) (cs.length - k) k = checkC cs ∧ Below (w.heap.size + 1) (w.alloc (.cells #[.int .i64 0, .int .i64 0] 26)) wr)
      (fun i _ => cs.length - (intOf i).toNat)
    case atStart => exact ⟨0, by omega, rfl, by rw [HF.out]; rfl, Below.refl _ _⟩
    case round =>
      obtain ⟨k, hk, rfl, hgo, hbel⟩ := hrel
      have HG := hide hgo
      clear hgo
      by_cases hlt : k < cs.length
      · obtain ⟨b, off, rfl, hb, hcl⟩ := hat k hlt
        obtain ⟨c, hc⟩ : ∃ c, cs[k]? = some c := ⟨_, List.getElem?_eq_getElem hlt⟩
        have hck := hcl k hlt
        rw [(List.getElem?_eq_some_iff.1 hc).2] at hck
        have HCK := hide hck
        have hbf := below_first hbel
        obtain ⟨c0, c1, c2, c3, c4⟩ := hck.below hbf
        have hk1 : (0 : Int) ≤ (k : Int) := by omega
        have hk2 : (k : Int) < (cs.length : Int) := by omega
        go_wp2_with fail
        refine (CellCode_any c _).mono ?_
        rintro e w1 ⟨rfl, hb1⟩
        have hbel1 := flt_later hbel hb1
        obtain ⟨gf0, gf1, gfr0, gfr1, gsz⟩ := two_later hbel1
        have hbf1 := below_first hbel1
        clear c0 c1 c2 c3 c4 hb1 hbf hbel
        by_cases h0 : codeC c = 0
        · by_cases hk0 : k = 0
          · subst hk0
            have HE := hide (firstG_next (m := cs.length - 0) (codeAt_first hc h0) (by omega))
            have hd : decide ((0 : Int) < ((0 : Nat) : Int)) = false := by simp
            rw [h0]
            clear hc hcl hat hv hck
            go_wp2_with fail
            go_quiet (fail)
            go_wp2_with fail
            go_roundw
            case rel => exact ⟨1, by omega, by go_num, by rw [← HG.out, HE.out]; rfl, below_drewN hbel1 _⟩
            case measure => simp [intOf]; omega
          · obtain ⟨j, hkj⟩ : ∃ j, k = j + 1 := ⟨k - 1, by omega⟩
            obtain ⟨d, hd⟩ : ∃ c, cs[j]? = some c := ⟨_, List.getElem?_eq_getElem (by omega)⟩
            have hdi := hcl j (by omega)
            rw [(List.getElem?_eq_some_iff.1 hd).2] at hdi
            have HCA : Hid (codeAt cs k = if 0 ≤ ordC d c then 10 else 0) := hide (by rw [hkj] at hc ⊢; exact codeAt_later hc hd h0)
            have hg : decide (0 < k) = true := by simp; omega
            have hw : IntKind.i64.wrap ((k : Int) - 1) = (j : Int) := by rw [IntKind.wrap_i64]; omega
            have hj1 : (0 : Int) ≤ (j : Int) := by omega
            have hj2 : (j : Int) < (cs.length : Int) := by omega
            rw [h0]
            have hkeep : ∀ W, Below w.heap.size w W → (W.cell? ⟨b, off + k * 5, none⟩ = some (.string c.row) ∧ W.cell? ⟨b, off + k * 5 + 1, none⟩ = some (.string c.col) ∧ W.cell? ⟨b, off + k * 5 + 2, none⟩ = some (.int .i64 c.time) ∧ W.cell? ⟨b, off + k * 5 + 3, none⟩ = some (.bool c.gone) ∧ W.cell? ⟨b, off + k * 5 + 4, none⟩ = some (.string c.val)) ∧ (W.cell? ⟨b, off + j * 5, none⟩ = some (.string d.row) ∧ W.cell? ⟨b, off + j * 5 + 1, none⟩ = some (.string d.col) ∧ W.cell? ⟨b, off + j * 5 + 2, none⟩ = some (.int .i64 d.time) ∧ W.cell? ⟨b, off + j * 5 + 3, none⟩ = some (.bool d.gone) ∧ W.cell? ⟨b, off + j * 5 + 4, none⟩ = some (.string d.val)) := fun W h => by
              obtain ⟨c0, c1, c2, c3, c4⟩ := HCK.out.below h
              obtain ⟨d0, d1, d2, d3, d4⟩ := hdi.below h
              exact ⟨⟨c0, c1, c2, c3, c4⟩, d0, d1, d2, d3, d4⟩
            have HK := hide hkeep
            obtain ⟨⟨c0, c1, c2, c3, c4⟩, d0, d1, d2, d3, d4⟩ := hkeep w1 hbf1
            clear hkeep hcl hat hv hc hd hck hdi hkj hk0
            go_wp2_with fail
            cases h7 : aheadB d c
            · have HE : Hid (codeAt cs k = 10) := hide (HCA.out.trans (if_pos (by rw [aheadB_ord, decide_eq_false_iff_not] at h7; omega)))
              have HFG := hide (firstG_hit (f := codeAt cs) (m := cs.length - k) (i := k) (by rw [HE.out]; decide) (by omega))
              go_region_held3 (fun W => (W.cell? ⟨b, off + k * 5, none⟩ = some (.string c.row) ∧ W.cell? ⟨b, off + k * 5 + 1, none⟩ = some (.string c.col) ∧ W.cell? ⟨b, off + k * 5 + 2, none⟩ = some (.int .i64 c.time) ∧ W.cell? ⟨b, off + k * 5 + 3, none⟩ = some (.bool c.gone) ∧ W.cell? ⟨b, off + k * 5 + 4, none⟩ = some (.string c.val)) ∧ (W.cell? ⟨b, off + j * 5, none⟩ = some (.string d.row) ∧ W.cell? ⟨b, off + j * 5 + 1, none⟩ = some (.string d.col) ∧ W.cell? ⟨b, off + j * 5 + 2, none⟩ = some (.int .i64 d.time) ∧ W.cell? ⟨b, off + j * 5 + 3, none⟩ = some (.bool d.gone) ∧ W.cell? ⟨b, off + j * 5 + 4, none⟩ = some (.string d.val))) (exact HK.out _ (by go_grown)) (first
                | (go_at_call 51; refine (Ahead_any d c _).mono ?_; rintro e w2 ⟨rfl, hb2⟩; rw [h7]; have hb12 : Below w1.heap.size w1 w2 := Below.trans (by go_grown) hb2; have hbw2 : Below w.heap.size w w2 := hbf1.trans (hb12.mono (by omega))))
              have hbel2 := flt_later hbel1 hb12
              go_wp2_with fail
              refine (FC_any 10 k _).mono ?_
              rintro e w3 ⟨rfl, hb3⟩
              have hbel3 := flt_later hbel2 hb3
              clear gf0 gf1 gfr0 gfr1 gsz
              obtain ⟨gf0, gf1, gfr0, gfr1, gsz⟩ := two_later hbel3
              have hbf3 := below_first hbel3
              unfold fltC
              go_wp2_with fail
              exact bodyPost_ret (v := fltC (10, k)) (by simp [results, Try.results12, go_sem, fltC, gf0, gf1]) rfl ⟨by rw [← HG.out, HFG.out, HE.out], by go_grown⟩
            · have HE : Hid (codeAt cs k = 0) := hide (HCA.out.trans (if_neg (by rw [aheadB_ord, decide_eq_true_eq] at h7; omega)))
              have HFG := hide (firstG_next (m := cs.length - k) HE.out (by omega))
              go_region_held3 (fun W => (W.cell? ⟨b, off + k * 5, none⟩ = some (.string c.row) ∧ W.cell? ⟨b, off + k * 5 + 1, none⟩ = some (.string c.col) ∧ W.cell? ⟨b, off + k * 5 + 2, none⟩ = some (.int .i64 c.time) ∧ W.cell? ⟨b, off + k * 5 + 3, none⟩ = some (.bool c.gone) ∧ W.cell? ⟨b, off + k * 5 + 4, none⟩ = some (.string c.val)) ∧ (W.cell? ⟨b, off + j * 5, none⟩ = some (.string d.row) ∧ W.cell? ⟨b, off + j * 5 + 1, none⟩ = some (.string d.col) ∧ W.cell? ⟨b, off + j * 5 + 2, none⟩ = some (.int .i64 d.time) ∧ W.cell? ⟨b, off + j * 5 + 3, none⟩ = some (.bool d.gone) ∧ W.cell? ⟨b, off + j * 5 + 4, none⟩ = some (.string d.val))) (exact HK.out _ (by go_grown)) (first
                | (go_at_call 51; refine (Ahead_any d c _).mono ?_; rintro e w2 ⟨rfl, hb2⟩; rw [h7]; have hb12 : Below w1.heap.size w1 w2 := Below.trans (by go_grown) hb2; have hbw2 : Below w.heap.size w w2 := hbf1.trans (hb12.mono (by omega))))
              have hbel2 := flt_later hbel1 hb12
              go_wp2_with fail
              go_roundw
              case rel => exact ⟨k + 1, by omega, by go_num, by rw [← HG.out, HFG.out]; congr 1, hbel2⟩
              case measure => simp [intOf]; omega
        · have hb : (codeC c != 0) = true := by simp [h0]
          have HC := hide (codeAt_own hc h0)
          have HE := hide (firstG_hit (f := codeAt cs) (m := cs.length - k) (i := k) (by rw [HC.out]; exact h0) (by omega))
          clear h0 hc hcl hat hv hck
          go_wp2_with fail
          refine (FC_any _ k _).mono ?_
          rintro e w2 ⟨rfl, hb2⟩
          have hbel2 := flt_later hbel1 hb2
          clear gf0 gf1 gfr0 gfr1 gsz
          obtain ⟨gf0, gf1, gfr0, gfr1, gsz⟩ := two_later hbel2
          have hbf2 := below_first hbel2
          unfold fltC
          go_wp2_with fail
          exact bodyPost_ret (v := fltC (codeC c, k)) (by simp [results, Try.results12, go_sem, fltC, gf0, gf1]) rfl ⟨by rw [← HG.out, HE.out, HC.out], by go_grown⟩
      · have hz : cs.length - k = 0 := by omega
        rw [hz] at HG
        obtain ⟨gf0, gf1, gfr0, gfr1, gsz⟩ := two_later hbel
        have hbf := below_first hbel
        go_wp2_with fail
        exact bodyPost_ret (v := fltC (0, 0)) (by simp [results, Try.results12, go_sem, fltC, gf0, gf1]) rfl ⟨by rw [← HG.out]; rfl, by go_grown⟩

end Go.Proofs.Ytlebbkbbmgmmjac

/-
  The walks over the document's answers of cells: the same cells.
-/
namespace Go.Proofs.Ytlebbkbbmgmmjac
open Go.RowKit

theorem ba_ext {a b : ByteArray} (h : a.toList = b.toList) : a = b := by
  rw [ByteArray.toList_eq, ByteArray.toList_eq] at h
  cases a; cases b
  simp at h
  rw [h]

/-- Are two cells the same? -/
def eqC (a b : Cl) : Bool := (a.row.toList == b.row.toList) && ((a.col.toList == b.col.toList) && (decide (a.time = b.time) && ((a.gone == b.gone) && (a.val.toList == b.val.toList))))

theorem eqC_iff {a b : Cl} : eqC a b = true ↔ a = b := by
  unfold eqC
  constructor
  · intro h
    simp only [Bool.and_eq_true, beq_iff_eq, decide_eq_true_eq] at h
    obtain ⟨h1, h2, h3, h4, h5⟩ := h
    cases a; cases b
    simp only at h1 h2 h3 h4 h5
    rw [ba_ext h1, ba_ext h2, h3, h4, ba_ext h5]
  · rintro rfl
    simp

def sameC : List Cl → List Cl → Bool
  | [], [] => true
  | a :: l, b :: m => eqC a b && sameC l m
  | _, _ => false

theorem sameC_refl : ∀ l : List Cl, sameC l l = true
  | [] => rfl
  | a :: l => by simp [sameC, eqC_iff.2 rfl, sameC_refl l]

set_option maxRecDepth 100000 in
set_option maxHeartbeats 1000000 in
theorem SameCells_any (v u : Value) (cs : List Cl) (w : World) (hv : RdC w v cs) (hu : RdC w u cs) :
    Calls Try.prog 18 #[v, u] w fun e w' => e = .returned (.bool true) ∧ Below w.heap.size w w' := by
  obtain ⟨ao, cap, hvv, hc1, hc2, hat⟩ := hv.at
  obtain ⟨bo, cbp, huu, hd1, hd2, hbt⟩ := hu.at
  subst hvv huu
  unfold maxLen at hc2 hd2
  have hnb : ((cs.length : Int) != cs.length) = false := by simp
  go_enter Try.func18, Try.ntmps18
  go_wp2_with fail
  go_loopw [5] (fun i wr => ∃ k : Nat, k ≤ cs.length ∧ i = .int .i64 k ∧ Below w.heap.size w wr)
    (fun i _ => cs.length - (intOf i).toNat)
  case atStart => exact ⟨0, by omega, rfl, Below.refl _ _⟩
  case round =>
    obtain ⟨k, hk, rfl, hbel⟩ := hrel
    by_cases hlt : k < cs.length
    · obtain ⟨b, off, rfl, hb, hcl⟩ := hat k hlt
      obtain ⟨b2, off2, rfl, hb2, hcl2⟩ := hbt k hlt
      have h1 := (hcl k hlt).below hbel
      have h2 := (hcl2 k hlt).below hbel
      generalize cs[k] = c at *
      obtain ⟨c0, c1, c2, c3, c4⟩ := h1
      obtain ⟨d0, d1, d2, d3, d4⟩ := h2
      have hk1 : (0 : Int) ≤ (k : Int) := by omega
      have hk2 : (k : Int) < (cs.length : Int) := by omega
      clear hcl hcl2 hat hbt hv hu
      go_wp2_with fail
      go_quiet (fail)
      go_wp2_with fail
      go_roundw
      case rel => exact ⟨k + 1, by omega, by go_num, below_drewN hbel _⟩
      case measure => simp [intOf]; omega
    · go_wp2_with fail
      go_ret
      exact ⟨rfl, hbel⟩

end Go.Proofs.Ytlebbkbbmgmmjac

/-
  The walk over the law FileTorn.
-/
namespace Go.Proofs.Ytlebbkbbmgmmjac
open Go.RowKit

set_option maxRecDepth 100000 in
set_option maxHeartbeats 400000 in
theorem ownBytes_own (v : Value) (zs : List UInt8) (w : World) (h : Rd w v (bc zs)) (hl : zs.length ≤ 1000000000) :
    Calls Try.prog 19 #[v] w fun e w' => ∃ v', e = .returned v' ∧ w'.ownsRow w.heap.size 5 1 v' zs.length (bc zs) ∧ Below w.heap.size w w' := by
  go_enter Try.func19, Try.ntmps19
  go_wp2_with (at_builtin; go_must (refine wpList_append_rd (World.ownsRow_nil w w.heap.size 5 1) h Try.underlying24 Try.info5 rfl rfl rfl rfl rfl (bc_one _) (by rw [bc_length]; omega) (by decide) (Nat.le_refl _) ?_); intro v1 w1 ho1 hb1 hg1; clear hg1)
  go_ret
  exact ⟨v1, rfl, by simpa [bc_length] using ho1, hb1⟩

/-- The frame in which a byte lies. -/
theorem frame_of : ∀ (l : List (List UInt8)) (j : Nat), j < (flatF l).length → ∃ k, ∃ h : k < l.length, (flatF (l.take k)).length ≤ j ∧ j < (flatF (l.take k)).length + l[k].length + 6
  | [], j, h => by simp [flatF] at h
  | b :: l, j, h => by
    rw [flatF_cons, List.length_append, framed_length] at h
    by_cases hj : j < b.length + 6
    · exact ⟨0, by simp, by simp [flatF], by simp [flatF]; omega⟩
    · obtain ⟨k, hk, h1, h2⟩ := frame_of l (j - (b.length + 6)) (by omega)
      refine ⟨k + 1, by simpa using hk, ?_, ?_⟩
      · rw [List.take_succ_cons, flatF_cons, List.length_append, framed_length]; omega
      · rw [List.take_succ_cons, flatF_cons, List.length_append, framed_length, List.getElem_cons_succ]; omega

/-- A file with one byte of a block, the index, the filter or a sum changed. -/
theorem openF_torn {l : List (List UInt8)} {j : Nat} {tb : UInt8} (hl : (flatF l).length ≤ 60000) (hj : j < (flatF l).length) (hne : (flatF l)[j]? ≠ some tb) (hno : ∀ k, k < l.length → j ≠ (flatF (l.take k)).length ∧ j ≠ (flatF (l.take k)).length + 1) : openF ((flatF l).set j tb) = (([], [], []), (5, 0)) := by
  have hb : ∀ b ∈ l, b.length ≤ 65535 := fun b hb => by have := flatF_mem hb; omega
  obtain ⟨k, hk, h1, h2⟩ := frame_of l j hj
  have h3 := hno k hk
  exact openF_pieces (by rw [List.length_set]; omega) (piecesR_no (bodies_torn l j k tb hb hk (by omega) h2 hne))

set_option maxRecDepth 100000 in
set_option maxHeartbeats 4000000 in
theorem fileTorn_any (v : Value) (size i tb : Int) (cs : List Cl) (w : World) (hv : RdC w v cs) (_hsize : -9223372036854775808 ≤ size ∧ size ≤ 9223372036854775807) (hi : -9223372036854775808 ≤ i ∧ i ≤ 9223372036854775807) (htb : 0 ≤ tb ∧ tb ≤ 255) :
    Calls Try.prog 6 #[v, .int .i64 size, .int .i64 i, .int .u8 tb] w fun e w' => e = .returned (.bool true) ∧ Below w.heap.size w w' := by
  obtain ⟨ao, cap, hvv, hc1, hc2⟩ := hv.shape
  subst hvv
  unfold maxLen at hc2
  go_enter Try.func6, Try.ntmps6
  go_wp2_with fail
  refine (fileBegun_any _).mono ?_
  rintro e w1 ⟨rfl, hb1⟩
  by_cases h60 : 60 < cs.length
  · have h60' : (60 : Int) < (cs.length : Int) := by omega
    go_wp2_with fail
    go_ret
    exact ⟨rfl, hb1⟩
  have h60' : (cs.length : Int) ≤ 60 := by omega
  go_wp2_with fail
  refine (Make_any _ cs size _ (hv.below hb1)).mono ?_
  rintro e w2 ⟨v2, rfl, hr2, hb2, _⟩
  have hbw2 : Below w.heap.size w w2 := hb1.trans (hb2.mono hb1.size)
  have hok := @makeF_ok cs size
  generalize hMF : makeF cs size = MF at *
  obtain ⟨X, fx, fy⟩ := MF
  have HMF := hide hMF
  simp only at hr2 hok ⊢
  unfold fltC
  obtain ⟨xo, xcap, hvx, hx1, hx2⟩ := hr2.shape
  rw [bc_length] at hvx hx1
  subst hvx
  unfold maxLen at hx2
  clear hMF
  by_cases hfx : fx = 0
  case neg =>
    have hfb : (fx != 0) = true := by simp [hfx]
    clear hok
    go_wp2_with fail
    go_ret
    exact ⟨rfl, hbw2.alloc hbw2.size _⟩
  subst hfx
  obtain ⟨hck, hl5, hs1, hs2, hXe, hX6⟩ := hok rfl
  simp only [Prod.mk.injEq, true_and] at hXe
  obtain ⟨hXe, rfl⟩ := hXe
  have hl6 : X.length ≤ 60000 := by rw [hXe]; exact hX6
  have HX : Hid (X = flatF (fileBB cs size.toNat)) := hide hXe
  clear hXe
  by_cases hi0 : i < 0
  · go_wp2_with fail
    go_ret
    exact ⟨rfl, hbw2.alloc hbw2.size _⟩
  obtain ⟨j, rfl⟩ := Int.eq_ofNat_of_zero_le (show 0 ≤ i by omega)
  by_cases hjl : X.length ≤ j
  · have hjl' : (X.length : Int) ≤ (j : Int) := by omega
    go_wp2_with fail
    go_ret
    exact ⟨rfl, hbw2.alloc hbw2.size _⟩
  have hjl' : (j : Int) < (X.length : Int) := by omega
  have hj2 : j < X.length := by omega
  obtain ⟨b, off, xc, hvx, _, _, hbb, hcx⟩ := hr2.pos (by rw [bc_length]; omega)
  rw [bc_length] at hvx
  simp only [Value.slice.injEq, true_and] at hvx
  obtain ⟨rfl, rfl⟩ := hvx
  obtain ⟨x, hx⟩ : ∃ x, X[j]? = some x := ⟨_, List.getElem?_eq_getElem hj2⟩
  have hcj : w2.cell? ⟨b, off + j, none⟩ = some (.int .u8 (x.toNat : Int)) := hcx j _ (by simp [bc, hx])
  obtain ⟨t, rfl⟩ : ∃ t : UInt8, tb = (t.toNat : Int) := ⟨UInt8.ofNat tb.toNat, by rw [u8_ofNat_toNat _ (by omega)]; omega⟩
  have hbA : Below w2.heap.size w2 (w2.alloc (.cells #[.int .i64 0, .int .i64 0] 26)) := below_alloc' _ _
  have hcjA := cell_below hcj hbA
  by_cases hxt : x = t
  · have hxb : ((x.toNat : Int) == (t.toNat : Int)) = true := by simp [hxt]
    clear hcx
    go_wp2_with fail
    go_ret
    exact ⟨rfl, hbw2.alloc hbw2.size _⟩
  have hxb : ((x.toNat : Int) == (t.toNat : Int)) = false := beq_eq_false_iff_ne.2 (fun e => hxt (UInt8.toNat_inj.1 (by omega)))
  have hne : X[j]? ≠ some t := by rw [hx]; simpa using hxt
  have hFA := Bk.new w2 26 #[.int .i64 0, .int .i64 0]
  have hrA := hr2.alloc (.cells #[.int .i64 0, .int .i64 0] 26)
  have hbwA : Below w.heap.size w (w2.alloc (.cells #[.int .i64 0, .int .i64 0] 26)) := hbw2.trans (hbA.mono hbw2.size)
  have hBB : ∀ b ∈ fileBB cs size.toNat, b.length ≤ 65535 := fun b hb => by have := flatF_mem hb; omega
  have hun := un_flat hBB
  have htorn := fun hno => @openF_torn (fileBB cs size.toNat) j t hX6 (by rw [← HX.out]; exact hj2) (by rw [← HX.out]; exact hne) hno
  have hbl : (fileBB cs size.toNat).length ≤ 60000 := Nat.le_trans (flatF_len _) hX6
  rw [← HX.out] at hun htorn
  have HUN := hide hun
  have HT := hide htorn
  generalize fileBB cs size.toNat = BB at *
  clear hun htorn hX6 hcx hne hx hck
  go_wp2_with fail
  generalize w2.alloc (.cells #[.int .i64 0, .int .i64 0] 26) = wA at *
  have hzF := hFA.lt
  have hbw2z := hbw2.size
  generalize w2.heap.size = zF at *
  refine (Unframed_any _ X _ hrA hl6).mono ?_
  rintro e w3 ⟨v3, rfl, hB3, hb3⟩
  rw [HUN.out] at hB3
  obtain ⟨bo, bcap, hbv, hd1, hd2, hcell⟩ := hB3.toB.open
  subst hbv
  unfold maxLen at hd2
  have hF3 := hFA.below hb3 hzF
  have hr3 := hrA.below hb3
  have hbw3 : Below w.heap.size w w3 := hbwA.trans (hb3.mono hbwA.size)
  clear hFA hrA hcjA hB3
  go_wp2_with fail
  go_loopw [13, 14] (fun s k wr => ∃ m : Nat, m ≤ BB.length ∧ k = .int .i64 m ∧ s = .int .i64 ((flatF (BB.take m)).length : Nat) ∧ (∀ k, k < m → j ≠ (flatF (BB.take k)).length ∧ j ≠ (flatF (BB.take k)).length + 1) ∧ wr = w3)
    (fun _ k _ => BB.length - (intOf k).toNat)
  case atStart => exact ⟨0, by omega, rfl, by simp [flatF], fun k h => by omega, rfl⟩
  case round =>
    obtain ⟨m, hm, rfl, rfl, hno, rfl⟩ := hrel
    by_cases hlt : m < BB.length
    · obtain ⟨b1, off1, u, rfl, hb1', hcu, hru⟩ := hcell m hlt
      have hsn := flatF_snoc BB m hlt
      have hsl := congrArg List.length hsn
      rw [List.length_append, framed_length] at hsl
      have hbm := hBB BB[m] (List.getElem_mem hlt)
      obtain ⟨uo, ucap, hvu, _, _⟩ := hru.shape
      rw [bc_length] at hvu
      subst hvu
      generalize BB[m] = bd at *
      have hpre : (flatF (BB.take m)).length ≤ 60000 := by
        have h1 := flatF_split BB m
        have h2 := congrArg List.length h1
        rw [List.length_append, ← HX.out] at h2
        omega
      have HSL := hide hsl
      have HNO := hide hno
      clear hcell hsn hsl hno
      generalize hS : (flatF (BB.take m)).length = S at *
      have HS := hide hS
      clear hS
      by_cases h1 : j = S
      · have h1b : ((j : Int) == (S : Int)) = true := by simp [h1]
        clear h1
        go_wp2_with fail
        go_ret
        exact ⟨rfl, hbw3⟩
      · have h1b : ((j : Int) == (S : Int)) = false := beq_eq_false_iff_ne.2 (by omega)
        by_cases h2 : j = S + 1
        · have h2b : ((j : Int) == (S : Int) + 1) = true := by simp [h2]
          clear h2
          go_wp2_with fail
          go_ret
          exact ⟨rfl, hbw3⟩
        · have h2b : ((j : Int) == (S : Int) + 1) = false := beq_eq_false_iff_ne.2 (by omega)
          go_wp2_with fail
          go_roundw
          case rel =>
            refine ⟨m + 1, by omega, by go_num, by rw [HSL.out]; go_num, fun k hk => ?_, by first | rfl | trivial⟩
            by_cases e : k = m
            · subst e; rw [HS.out]; exact ⟨h1, h2⟩
            · exact HNO.out k (by omega)
          case measure => simp [intOf]; omega
    · have HT2 := hide (HT.out (fun k hk => hno k (by omega)))
      clear hcell hno HT
      go_wp2_with fail
      refine (ownBytes_own _ X _ hr3 (by omega)).mono ?_
      rintro e w4 ⟨v4, rfl, ho4, hb4⟩
      have hF4 := hF3.below hb4 hF3.lt
      have hbw4 : Below w.heap.size w w4 := hbw3.trans (hb4.mono hbw3.size)
      obtain ⟨g, c4, hv4, hg1, hg2⟩ := ho4.form (by omega)
      subst hv4
      have hfz := ho4.frozenAt j
      have hc4 := ho4.cells (g := g) rfl j (.int .u8 (X[j].toNat : Int)) (by simp [bc, hj2])
      rw [Addr.add_lit, Nat.zero_add] at hc4
      have hnew := (ho4.stored j (.int .u8 (t.toNat : Int))).1
      rw [bc_set] at hnew
      have hlF := hF3.lt
      have hF5 : Bk (w4.setCell ⟨g, j, none⟩ (.int .u8 (t.toNat : Int))) zF 26 #[.int .i64 0, .int .i64 0] := by
        unfold Bk
        rw [heap_setCell_other w4 ⟨g, j, none⟩ zF _ (by simp only; omega)]
        exact hF4
      have hbw5 : Below w.heap.size w (w4.setCell ⟨g, j, none⟩ (.int .u8 (t.toNat : Int))) := hbw4.setCell (by have := hbw3.size; simp only; omega) _
      go_wp2_with fail
      generalize w4.setCell ⟨g, j, none⟩ (.int .u8 (t.toNat : Int)) = w5 at *
      refine (FOpen_any _ (X.set j t) _ (by have := Rd.ofOwns hnew; simpa using this)).mono ?_
      rintro e w6 ⟨v6, rfl, hr6, hb6⟩
      rw [HT2.out] at hr6 ⊢
      simp only at hr6 ⊢
      unfold fltC
      obtain ⟨o6, c6, hv6, _, _⟩ := hr6.shape
      subst hv6
      simp only [List.length_nil]
      have hF6 := hF5.below hb6 hF5.lt
      have hbw6 : Below w.heap.size w w6 := hbw5.trans (hb6.mono hbw5.size)
      have f0 := hF6.cell 0
      have f1 := hF6.cell 1
      have f2 := hF6.frozen 0
      have f3 := hF6.frozen 1
      have hl6' := hF6.lt
      simp at f0 f1
      clear hc4 hfz hnew ho4 hF4 hF5 hb6 hb4 hF3
      have hzw : w.heap.size ≤ zF := hbw2z
      have hF7 : Bk ((w6.setCell ⟨zF, 0, none⟩ (.int .i64 5)).setCell ⟨zF, 1, none⟩ (.int .i64 0)) zF 26 #[.int .i64 5, .int .i64 0] := (hF6.set 0 _).set 1 _
      have hbw7 : Below w.heap.size w ((w6.setCell ⟨zF, 0, none⟩ (.int .i64 5)).setCell ⟨zF, 1, none⟩ (.int .i64 0)) := (hbw6.setCell (by exact hzw) _).setCell (by exact hzw) _
      go_upto_region 19 with fail
      generalize (w6.setCell ⟨zF, 0, none⟩ (.int .i64 5)).setCell ⟨zF, 1, none⟩ (.int .i64 0) = w7 at *
      have hkeep : ∀ W, Below w7.heap.size w7 W → W.cell? ⟨zF, 0, none⟩ = some (.int .i64 5) ∧ W.cell? ⟨zF, 1, none⟩ = some (.int .i64 0) := fun W h => ⟨(hF7.below h hF7.lt).cell 0, (hF7.below h hF7.lt).cell 1⟩
      have HK := hide hkeep
      clear f0 f1 f2 f3
      obtain ⟨f0, f1⟩ := hkeep w7 (Below.refl _ _)
      clear hkeep
      go_region_held3 (fun W => W.cell? ⟨zF, 0, none⟩ = some (.int .i64 5) ∧ W.cell? ⟨zF, 1, none⟩ = some (.int .i64 0)) (exact HK.out _ (by go_grown)) (first
        | (go_at_call 13; refine (FC_any 5 0 _).mono ?_; rintro e w8 ⟨rfl, hb8⟩; unfold fltC; have hx8 : Below w7.heap.size w7 w8 := Below.trans (by go_grown) hb8))
      all_goals
        go_wp2_with fail
        go_ret
        exact ⟨by simp, hbw7.trans (hx8.mono hbw7.size)⟩

end Go.Proofs.Ytlebbkbbmgmmjac

/-
  From the arguments as the row reads them to what the walks ask of them. Nothing of a program stands here.
-/
namespace Go.Proofs.Ytlebbkbbmgmmjac
open Go.ChangeShapes Go.WideShapes Go.ChangeAt Go.RowKit

section
variable {H : Type} {enc : TypeId × Value → H} {P : Program} {W : World}

theorem rd_of_cells {w : World} {a : Addr} {len cap : Nat} {xs : List Value} (hl : xs.length = len) (h1 : len ≤ cap) (h2 : cap ≤ maxLen) (h : ∀ i, i < len → w.cell? (a.add i) = xs[i]?) : Rd w (.slice (some a) len cap) xs := by
  refine ⟨some a, cap, by rw [hl], by omega, h2, (fun h => by cases h), fun b hb j u hu => ?_⟩
  cases hb
  rw [h j (by have := (List.getElem?_eq_some_iff.1 hu).1; omega), hu]

theorem open_ic {t e : TypeId} {a : Option Addr} {len cap : Nat} {d : DataW H} {ps : List MemPlace} (ht : P.underlying t = some (.slice e)) (he : P.underlying e = some (.int .i64)) (hc : P.cellsOf e = 1)
    (h : DataW.Trod enc P W 0 (fun _ => true) true t (.slice a len cap) d ps) : ∃ zs : List Int, Rd W (.slice a len cap) (ic zs) := by
  obtain ⟨fuel, hf⟩ := h
  rcases open_ints ht he hc hf with ⟨hcs, _⟩ | ⟨x, l, c, zs, hcs, _, hl, hm, hz, _, hcell, hwz⟩
  · simp [Value.cells] at hcs
    obtain ⟨rfl, rfl, rfl⟩ := hcs
    exact ⟨[], Rd.nil _⟩
  · simp [Value.cells] at hcs
    obtain ⟨rfl, rfl, rfl⟩ := hcs
    simp at hz
    refine ⟨zs.take len, rd_of_cells (by rw [ic_length, List.length_take]; omega) hl hm fun i hi => ?_⟩
    rw [hcell i (by omega)]
    simp [ic, List.getD, hi, show i < zs.length by omega]

theorem open_bc {t e : TypeId} {a : Option Addr} {len cap fuel : Nat} {d : DataW H} {ps : List MemPlace} (ht : P.underlying t = some (.slice e)) (he : P.underlying e = some (.int .u8)) (hc : P.cellsOf e = 1)
    (hf : DataW.trod enc P W 0 (fun _ => true) true fuel t [.slice a len cap] = some (d, ps)) : ∃ bs : List UInt8, Rd W (.slice a len cap) (bc bs) := by
  rcases open_ints ht he hc hf with ⟨hcs, _⟩ | ⟨x, l, c, zs, hcs, _, hl, hm, hz, _, hcell, hwz⟩
  · simp at hcs
    obtain ⟨rfl, rfl, rfl⟩ := hcs
    exact ⟨[], Rd.nil _⟩
  · simp at hcs
    obtain ⟨rfl, rfl, rfl⟩ := hcs
    simp at hz
    refine ⟨(zs.take len).map fun n => UInt8.ofNat n.toNat, rd_of_cells (by rw [bc_length, List.length_map, List.length_take]; omega) hl hm fun i hi => ?_⟩
    rw [hcell i (by omega)]
    have hi' : i < zs.length := by omega
    have hb := bounds_u8 (hwz zs[i] (List.getElem_mem hi'))
    have e : ((UInt8.ofNat zs[i].toNat).toNat : Int) = zs[i] := by
      simp only [UInt8.toNat_ofNat']
      omega
    simp only [bc, List.getElem?_map, List.getElem?_take, if_pos hi, List.getElem?_eq_getElem hi', Option.map_some, List.getD, Option.getD_some, e]

theorem open_bc' {t e : TypeId} {a : Option Addr} {len cap : Nat} {d : DataW H} {ps : List MemPlace} (ht : P.underlying t = some (.slice e)) (he : P.underlying e = some (.int .u8)) (hc : P.cellsOf e = 1)
    (h : DataW.Trod enc P W 0 (fun _ => true) true t (.slice a len cap) d ps) : ∃ bs : List UInt8, Rd W (.slice a len cap) (bc bs) := by
  obtain ⟨fuel, hf⟩ := h
  exact open_bc ht he hc (by simpa [Value.cells] using hf)

theorem weightsAll_mem {e : TypeId} : ∀ {l : List (DataW H)} {d : DataW H} {n : Nat}, d ∈ l → n ∈ d.weights P e → n ∈ DataW.weightsAll P e l
  | x :: l, d, n, hd, hn => by
    simp only [DataW.weightsAll, List.mem_append]
    rcases List.mem_cons.1 hd with rfl | hd
    · exact .inl hn
    · exact .inr (weightsAll_mem hd hn)

/-- A list of texts; none is longer than the form's reach. -/
theorem open_sc {t e : TypeId} {a : Option Addr} {len cap : Nat} {d : DataW H} {ps : List MemPlace} (ht : P.underlying t = some (.slice e)) (he : P.underlying e = some .string) (hc : P.cellsOf e = 1)
    (h : DataW.Trod enc P W 0 (fun _ => true) true t (.slice a len cap) d ps) (hw : ∀ n ∈ d.weights P t, n ≤ reachBytes) : ∃ ss : List (List UInt8), Rd W (.slice a len cap) (sc ss) ∧ ∀ s ∈ ss, s.length ≤ 140737488351232 := by
  obtain ⟨fuel, hf⟩ := h
  rcases open_strings ht he hc hf with ⟨hcs, _⟩ | ⟨x, l, c, zs, hcs, _, hl, hm, hz, hx, hcell, hwz⟩
  · simp [Value.cells] at hcs
    obtain ⟨rfl, rfl, rfl⟩ := hcs
    exact ⟨[], Rd.nil _, by simp⟩
  · simp [Value.cells] at hcs
    obtain ⟨rfl, rfl, rfl⟩ := hcs
    simp at hz
    simp only [Prod.mk.injEq] at hx
    obtain ⟨rfl, _⟩ := hx
    refine ⟨(zs.take len).map fun s => s.data.toList, rd_of_cells (by rw [sc_length, List.length_map, List.length_take]; omega) hl hm fun i hi => ?_, fun s hs => ?_⟩
    · rw [hcell i (by omega)]
      have hi' : i < zs.length := by omega
      simp only [sc, List.getElem?_map, List.getElem?_take, if_pos hi, List.getElem?_eq_getElem hi', Option.map_some, List.getD, Option.getD_some, Array.toArray_toList]
    · obtain ⟨y, hy, rfl⟩ := List.mem_map.1 hs
      have := hw y.data.toList.length (by
        simp only [DataW.weights, ht, List.mem_cons, List.mem_append]
        refine .inr (.inl (weightsAll_mem (d := .lit (.string y.data.toList)) (List.mem_map.2 ⟨y, hy, rfl⟩) ?_))
        simp [DataW.weights])
      simpa [reachBytes] using this

end
end Go.Proofs.Ytlebbkbbmgmmjac
