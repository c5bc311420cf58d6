/-
  Texts joined: FileMath2, FileMath3, CellB1, CellR1, CellR2, CellR3, ScansMath.
-/
import Derived.Test.YtlebbkbbmgmmjacMFileOpens8
/-
  Files that are made: their frames, whole and torn: plain mathematics.
-/
namespace Go.Proofs.Ytlebbkbbmgmmjac
open Go.RowKit

theorem bodiesGo_flat : ∀ (l : List (List UInt8)) (f : Nat) (acc : List (List UInt8)) (tail : List UInt8), (∀ b ∈ l, b.length ≤ 65535) → l.length ≤ f → bodiesGo (f + 1) (flatF l ++ tail) acc = bodiesGo (f + 1 - l.length) tail (acc ++ l)
  | [], f, acc, tail, _, _ => by simp [flatF]
  | b :: l, 0, acc, tail, _, h => by simp at h
  | b :: l, f + 1, acc, tail, hb, hf => by
    have hne : flatF (b :: l) ++ tail ≠ [] := by
      intro e
      have := congrArg List.length e
      rw [flatF_cons, List.length_append, List.length_append, framed_length] at this
      simp at this
    have hfr : frameAt (flatF (b :: l) ++ tail) = some b := by
      rw [flatF_cons, List.append_assoc]
      exact frameAt_framed b _ (hb b (List.mem_cons_self ..))
    rw [bodiesGo_step hne hfr]
    have hd : (flatF (b :: l) ++ tail).drop (b.length + 6) = flatF l ++ tail := by
      rw [flatF_cons, List.append_assoc, ← framed_length b, List.drop_left]
    rw [hd, bodiesGo_flat l f _ tail (fun x hx => hb x (List.mem_cons_of_mem _ hx)) (by simpa using hf)]
    simp

theorem flatF_len : ∀ (l : List (List UInt8)), l.length ≤ (flatF l).length
  | [] => by simp
  | b :: l => by
    have := flatF_len l
    rw [flatF_cons, List.length_append, framed_length, List.length_cons]
    omega

theorem bodiesR_flat {l : List (List UInt8)} (hb : ∀ b ∈ l, b.length ≤ 65535) : bodiesR (flatF l) = some l := by
  have h := bodiesGo_flat l (flatF l).length [] [] hb (flatF_len l)
  rw [List.append_nil] at h
  rw [bodiesR, h]
  have := flatF_len l
  obtain ⟨m, hm⟩ : ∃ m, (flatF l).length + 1 - l.length = m + 1 := ⟨(flatF l).length - l.length, by omega⟩
  rw [hm, bodiesGo_end]
  simp

theorem unGo_flat : ∀ (l : List (List UInt8)) (f k : Nat) (acc : List (List UInt8)), (∀ b ∈ l, b.length ≤ 65535) → l.length ≤ f → (unGo (f + 1) (flatF l) acc k).1 = acc ++ l
  | [], f, k, acc, _, _ => by
    rw [unGo_end (by rfl)]
    simp
  | b :: l, 0, k, acc, _, h => by simp at h
  | b :: l, f + 1, k, acc, hb, hf => by
    have hfr : frameAt (flatF (b :: l)) = some b := by
      rw [flatF_cons]
      exact frameAt_framed b _ (hb b (List.mem_cons_self ..))
    have hd : (flatF (b :: l)).drop (b.length + 6) = flatF l := by rw [flatF_cons, ← framed_length b, List.drop_left]
    rw [unGo_step hfr, hd, unGo_flat l f _ _ (fun x hx => hb x (List.mem_cons_of_mem _ hx)) (by simpa using hf)]
    simp

theorem un_flat {l : List (List UInt8)} (hb : ∀ b ∈ l, b.length ≤ 65535) : (unGo ((flatF l).length + 1) (flatF l) [] 0).1 = l := by
  rw [unGo_flat l _ _ _ hb (flatF_len l)]
  rfl

/-- With one byte of a body or a sum another one there are not all frames. -/
theorem bodies_torn (l : List (List UInt8)) (i k : Nat) (tb : UInt8) (hb : ∀ b ∈ l, b.length ≤ 65535) (hk : k < l.length) (h2 : (flatF (l.take k)).length + 2 ≤ i) (h3 : i < (flatF (l.take k)).length + l[k].length + 6)
    (hne : (flatF l)[i]? ≠ some tb) : bodiesR ((flatF l).set i tb) = none := by
  have e0 : flatF l = flatF (l.take k) ++ (framed l[k] ++ flatF (l.drop (k + 1))) := by
    rw [← flatF_cons, ← drop_cons l k hk]
    exact flatF_split l k
  have hfl := framed_length l[k]
  have e : (flatF l).set i tb = flatF (l.take k) ++ ((framed l[k]).set (i - (flatF (l.take k)).length) tb ++ flatF (l.drop (k + 1))) := by
    rw [e0, List.set_append_right _ _ (by omega), List.set_append_left _ _ (by omega)]
  have hne' : (framed l[k])[i - (flatF (l.take k)).length]? ≠ some tb := by
    intro h
    apply hne
    rw [e0, List.getElem?_append_right (by omega), List.getElem?_append_left (by omega), h]
  have hfn := frameAt_set l[k] (flatF (l.drop (k + 1))) _ tb (hb _ (List.getElem_mem hk)) (by omega) (by omega) hne'
  have hlen : (flatF (l.take k)).length ≤ ((flatF l).set i tb).length := by rw [e, List.length_append]; omega
  have htl := flatF_len (l.take k)
  unfold bodiesR
  rw [e]
  rw [e] at hlen
  rw [bodiesGo_flat (l.take k) _ [] _ (fun b h => hb b (List.mem_of_mem_take h)) (by omega)]
  obtain ⟨m, hm⟩ : ∃ m, (flatF (l.take k) ++ ((framed l[k]).set (i - (flatF (l.take k)).length) tb ++ flatF (l.drop (k + 1)))).length + 1 - (l.take k).length = m + 1 := ⟨(flatF (l.take k) ++ ((framed l[k]).set (i - (flatF (l.take k)).length) tb ++ flatF (l.drop (k + 1)))).length - (l.take k).length, by omega⟩
  rw [hm]
  refine bodiesGo_bad ?_ hfn
  intro e2
  have := congrArg List.length e2
  rw [List.length_append, List.length_set, hfl] at this
  simp at this

/-- A file that is made, where there is no fault. -/
theorem makeF_ok {cs : List Cl} {size : Int} (h : (makeF cs size).2.1 = 0) : (checkC cs).1 = 0 ∧ cs.length ≤ 500 ∧ 50 ≤ size ∧ size ≤ 4000 ∧ makeF cs size = (flatF (fileBB cs size.toNat), (0, 0)) ∧ (flatF (fileBB cs size.toNat)).length ≤ 60000 := by
  by_cases hc : (checkC cs).1 = 0
  · by_cases h5 : 500 < cs.length
    · rw [makeF_many hc h5] at h
      simp at h
    · by_cases hs : size < 50 ∨ 4000 < size
      · rw [makeF_size hc h5 hs] at h
        simp at h
      · rw [makeF_go hc h5 hs] at h ⊢
        obtain ⟨_, h2, h3⟩ := framesR_zero h
        exact ⟨hc, by omega, by omega, by omega, by rw [h3], h2⟩
  · rw [makeF_bad hc] at h
    exact absurd h hc

end Go.Proofs.Ytlebbkbbmgmmjac

/-
  Files that are made are opened as they were: plain mathematics.
-/
namespace Go.Proofs.Ytlebbkbbmgmmjac
open Go.RowKit

theorem firstG_allz {f : Nat → Int} : ∀ (m i : Nat), (∀ j, i ≤ j → j < i + m → f j = 0) → firstG f m i = (0, 0)
  | 0, _, _ => rfl
  | m + 1, i, h => by
    rw [firstG, if_neg (by simp [h i (Nat.le_refl _) (by omega)])]
    exact firstG_allz m (i + 1) (fun j h1 h2 => h j (by omega) (by omega))

theorem check_of {cs : List Cl} (hl : cs.length ≤ 1000) (hc : ∀ c ∈ cs, codeC c = 0) (hp : cs.Pairwise Lt) : (checkC cs).1 = 0 := by
  unfold checkC faultR
  rw [if_neg (by omega), firstG_allz]
  intro j _ hj
  rw [Nat.zero_add] at hj
  obtain ⟨c, hcj⟩ : ∃ c, cs[j]? = some c := ⟨_, List.getElem?_eq_getElem hj⟩
  have h0 := hc c (List.mem_of_getElem? hcj)
  cases j with
  | zero => exact codeAt_first hcj h0
  | succ j =>
    obtain ⟨d, hd⟩ : ∃ d, cs[j]? = some d := ⟨_, List.getElem?_eq_getElem (by omega)⟩
    rw [codeAt_later hcj hd h0, if_neg]
    have h1 := List.pairwise_iff_getElem.1 hp j (j + 1) (by omega) hj (by omega)
    rw [(List.getElem?_eq_some_iff.1 hd).2, (List.getElem?_eq_some_iff.1 hcj).2] at h1
    have := ordC_neg.2 h1
    omega

theorem pw_flat : ∀ (L : List (List Cl)), L.flatten.Pairwise Lt → ∀ g ∈ L, g.Pairwise Lt
  | [], _, g, h => by simp at h
  | x :: L, hp, g, h => by
    rw [List.flatten_cons, List.pairwise_append] at hp
    rcases List.mem_cons.1 h with rfl | h
    · exact hp.1
    · exact pw_flat L hp.2.1 g h

/-- The rows with which blocks begin. -/
def headsB (gs : List (List Cl)) : List (List UInt8) := gs.map fun g => (headRow g).data.toList

theorem rix_index : ∀ (gs : List (List Cl)) (acc : List (List UInt8)), (∀ g ∈ gs, (headRow g).data.toList.length ≤ 1000000000 ∧ (flatC g).length ≤ 1000000000) → rixGo (indexB gs) (gs.map flatC) acc = some (acc ++ headsB gs)
  | [], acc, _ => by
    simp [indexB, headsB, rixGo]
  | g :: gs, acc, h => by
    obtain ⟨h1, h2⟩ := h g (List.mem_cons_self ..)
    have e : indexB (g :: gs) = txB (headRow g) ++ (encN (flatC g).length ++ indexB gs) := by simp [indexB, ixB]
    have t1 : textAt (indexB (g :: gs)) = some ((headRow g).data.toList, (txB (headRow g)).length) := by rw [e]; exact textAt_txB _ _ h1
    have e2 : (indexB (g :: gs)).drop (txB (headRow g)).length = encN (flatC g).length ++ indexB gs := by rw [e, List.drop_left]
    have t2 : numAt ((indexB (g :: gs)).drop (txB (headRow g)).length) = some ((flatC g).length, (encN (flatC g).length).length) := by rw [e2]; exact numAt_enc _ _ h2
    rw [List.map_cons, rixGo_ok t1 t2 rfl]
    have e3 : (indexB (g :: gs)).drop ((txB (headRow g)).length + (encN (flatC g).length).length) = indexB gs := by rw [← List.drop_drop, e2, List.drop_left]
    rw [e3, rix_index gs _ (fun x hx => h x (List.mem_cons_of_mem _ hx))]
    simp [headsB]

theorem rb_blocks : ∀ (gs : List (List Cl)) (acc : List Cl), (∀ g ∈ gs, g ≠ [] ∧ (checkC g).1 = 0 ∧ (flatC g).length ≤ 60000) → rbGo (gs.map flatC) (headsB gs) acc = some (acc ++ gs.flatten)
  | [], acc, _ => by simp [rbGo]
  | g :: gs, acc, h => by
    obtain ⟨hn, hc, hl⟩ := h g (List.mem_cons_self ..)
    have hr := read_write hc hl
    cases g with
    | nil => exact absurd rfl hn
    | cons c l =>
      rw [List.map_cons, headsB, List.map_cons, rbGo_ok (c := c) (l := l) (by rw [hr]) (by rw [hr]) (by rfl)]
      have ih := rb_blocks gs (acc ++ (c :: l)) (fun x hx => h x (List.mem_cons_of_mem _ hx))
      rw [headsB] at ih
      rw [List.tail_cons, ih]
      simp

/-- A file that is made is opened as it was. -/
theorem open_made {cs : List Cl} {m : Nat} (hck : (checkC cs).1 = 0) (hl : cs.length ≤ 500) (h6 : (flatF (fileBB cs m)).length ≤ 60000) : openF (flatF (fileBB cs m)) = ((cs, headsB (chunks m cs), filtB cs), (0, 0)) := by
  have hb : ∀ b ∈ fileBB cs m, b.length + 6 ≤ 60000 := fun b hb => by have := flatF_mem hb; omega
  have hcode : ∀ c ∈ cs, codeC c = 0 := fun c h => fine_code hck h
  have hpw := fine_pw hck
  have hfl := chunks_flat m cs
  have hg : ∀ g ∈ chunks m cs, g ≠ [] ∧ (checkC g).1 = 0 ∧ (flatC g).length ≤ 60000 := fun g hg => by
    refine ⟨chunkGo_ne m cs [] g hg, check_of ?_ (fun c hc => hcode c (chunk_mem hg hc)) (pw_flat _ (by rw [hfl]; exact hpw) g hg), ?_⟩
    · have : g.length ≤ cs.length := by
        rw [← hfl]
        exact List.Sublist.length_le (List.sublist_flatten_of_mem hg)
      omega
    · have := hb (flatC g) (by unfold fileBB; exact List.mem_append_left _ (List.mem_map_of_mem hg))
      omega
  have hfn : filtB cs ≠ [] := by
    intro e
    have := filtB_len cs
    rw [e] at this
    have := filtN_pos cs
    simp at *
    omega
  have hbb : fileBB cs m = (chunks m cs).map flatC ++ [indexB (chunks m cs), filtB cs] := rfl
  have hlen : (fileBB cs m).length = (chunks m cs).length + 2 := by rw [hbb]; simp
  have hp : piecesR (flatF (fileBB cs m)) = some ((chunks m cs).map flatC, indexB (chunks m cs), filtB cs) := by
    rw [piecesR_of (bodiesR_flat (fun b h => by have := hb b h; omega))]
    have e1 : (fileBB cs m).getD ((fileBB cs m).length - 1) [] = filtB cs := by
      rw [hlen, hbb, List.getD_eq_getElem?_getD, List.getElem?_append_right (by simp)]
      simp
    have e2 : (fileBB cs m).getD ((fileBB cs m).length - 2) [] = indexB (chunks m cs) := by
      rw [hlen, hbb, List.getD_eq_getElem?_getD, List.getElem?_append_right (by simp)]
      simp
    have e3 : (fileBB cs m).take ((fileBB cs m).length - 2) = (chunks m cs).map flatC := by
      rw [hlen, hbb, List.take_append_of_le_length (by simp), Nat.add_sub_cancel]
      exact List.take_of_length_le (by simp)
    rw [piecesB_ok (by omega) (by rw [e1]; exact hfn), e1, e2, e3]
  have hr := rix_index (chunks m cs) [] (fun g h => ⟨by
    obtain ⟨hn, _⟩ := hg g h
    cases g with
    | nil => exact absurd rfl hn
    | cons c l =>
      have := (codeC_parts (hcode c (chunk_mem h (List.mem_cons_self ..)))).2.1
      show c.row.data.toList.length ≤ 1000000000
      omega, by have := (hg g h).2.2; omega⟩)
  rw [List.nil_append] at hr
  have hB : rbR ((chunks m cs).map flatC) (headsB (chunks m cs)) = some cs := by
    unfold rbR
    rw [rb_blocks _ _ hg, List.nil_append, hfl]
    simp only
    rw [if_pos hl, if_pos hck]
  exact openF_ok (by omega) hp hr hB rfl

/-- What Find comes to. -/
def findF (bs : List UInt8) (row col : ByteArray) (t : Int) : ByteArray × Bool × (Int × Int) :=
  if (openF bs).2.1 ≠ 0 then (⟨#[]⟩, false, (openF bs).2)
  else if (getC (openF bs).1.1 row col t).2.2.1 ≠ 0 then (⟨#[]⟩, false, (getC (openF bs).1.1 row col t).2.2)
  else if hasB (openF bs).1.2.2 row.data.toList = false then (⟨#[]⟩, false, (getC (openF bs).1.1 row col t).2.2)
  else ((getC (openF bs).1.1 row col t).1, (getC (openF bs).1.1 row col t).2.1, (0, 0))

theorem getC_zero {cs : List Cl} {row col : ByteArray} {t : Int} (h : (getC cs row col t).2.2.1 = 0) : (getC cs row col t).2.2 = (0, 0) ∧ (checkC cs).1 = 0 ∧ isNumB t = true := by
  unfold getC at h ⊢
  by_cases hc : (checkC cs).1 = 0
  · rw [if_neg (by omega)] at h ⊢
    by_cases hn : isNumB t = false
    · rw [if_pos hn] at h
      simp at h
    · rw [if_neg hn]
      exact ⟨rfl, hc, by simpa using hn⟩
  · rw [if_pos hc] at h
    exact absurd h hc

/-- No row is missed. -/
theorem find_get {cs : List Cl} {m : Nat} {row col : ByteArray} {t : Int} (hck : (checkC cs).1 = 0) (hl : cs.length ≤ 500) (h6 : (flatF (fileBB cs m)).length ≤ 60000) : findF (flatF (fileBB cs m)) row col t = getC cs row col t := by
  have ho := open_made hck hl h6
  unfold findF
  rw [ho]
  simp only
  rw [if_neg (by simp)]
  by_cases hg : (getC cs row col t).2.2.1 = 0
  · obtain ⟨hz, _, hn⟩ := getC_zero hg
    rw [if_neg (by omega)]
    by_cases hh : hasB (filtB cs) row.data.toList = false
    · rw [if_pos hh]
      have hno : ∀ c ∈ cs, c.row.data.toList ≠ row.data.toList := fun c hc e => by
        have := has_mem hc
        rw [e, hh] at this
        cases this
      have hgc : getC cs row col t = (⟨#[]⟩, false, (0, 0)) := by
        unfold getC
        rw [if_neg (by omega), if_neg (by rw [hn]; decide), getGo_eq]
        have hnone : (visGo t zeroC cs).find? (isAt (row.toList, col.toList)) = none := by
          rw [List.find?_eq_none]
          intro c hc
          have hcs := (visGo_sub t cs zeroC).subset hc
          intro hat
          have := isAt_iff.1 hat
          unfold rc at this
          simp only [Prod.mk.injEq] at this
          exact hno c hcs (by rw [← ba_list, ← ba_list]; exact this.1)
        rw [hnone]
      rw [hgc]
    · rw [if_neg hh]
      generalize getC cs row col t = G at *
      obtain ⟨a, b, c⟩ := G
      simp only at hz ⊢
      rw [hz]
  · rw [if_pos hg]
    unfold getC at hg ⊢
    rw [if_neg (by omega)] at hg ⊢
    by_cases hn : isNumB t = false
    · rw [if_pos hn]
    · rw [if_neg hn] at hg
      simp at hg

end Go.Proofs.Ytlebbkbbmgmmjac

/-
  The walks beneath the laws of cells: the example, copies.
-/
namespace Go.Proofs.Ytlebbkbbmgmmjac
open Go.RowKit

def verC : List Cl := [⟨⟨#[114]⟩, ⟨#[99]⟩, 2, false, ⟨#[98]⟩⟩, ⟨⟨#[114]⟩, ⟨#[99]⟩, 1, false, ⟨#[97]⟩⟩]

set_option maxRecDepth 100000 in
set_option maxHeartbeats 400000 in
theorem versions_any (w : World) : Calls Try.prog 44 #[] w fun e w' => ∃ v', e = .returned v' ∧ RdC w' v' verC ∧ Below w.heap.size w w' := by
  go_enter Try.func44, Try.ntmps44
  go_wp2_with fail
  go_ret
  refine ⟨_, rfl, ?_, by go_grown⟩
  refine ⟨some ⟨w.heap.size, 0, none⟩, 2, rfl, by decide, by decide, (fun h => by cases h), fun a ha j v hv => ?_⟩
  cases ha
  rw [Addr.add_lit, Nat.zero_add, ← hv]
  refine ((Bk.new w 53 _).cell j).trans ?_
  simp [cc, cv, verC]

theorem getC_ver1 : getC verC ⟨#[114]⟩ ⟨#[99]⟩ 1 = (⟨#[97]⟩, true, (0, 0)) := by decide +kernel
theorem getC_ver0 : getC verC ⟨#[114]⟩ ⟨#[99]⟩ 0 = (⟨#[]⟩, false, (0, 0)) := by decide +kernel


set_option maxRecDepth 100000 in
set_option maxHeartbeats 400000 in
theorem ownCells_any (v : Value) (cs : List Cl) (w : World) (hv : RdC w v cs) (hl : cs.length ≤ 1000000) :
    Calls Try.prog 11 #[v] w fun e w' => ∃ v', e = .returned v' ∧ RdC w' v' cs ∧ Below w.heap.size w w' ∧ New w.heap.size v' := by
  obtain ⟨ao, cap, hvv, hc1, hc2⟩ := hv.shape
  subst hvv
  have hl2 : 0 + cs.length ≤ 1000000000 := by omega
  go_enter Try.func11, Try.ntmps11
  go_wp2_with (at_builtin; go_must (refine wpList_append_rdC (cs := []) (World.ownsRow_nil w w.heap.size 53 5) hv Try.underlying22 Try.info53 rfl rfl rfl rfl rfl hl2 (by decide) (Nat.le_refl _) ?_); intro v1 w1 ho1 hb1 hg1; clear hg1)
  go_ret
  exact ⟨_, rfl, RdC.ofOwns ho1, hb1, New.owns ho1⟩

def manyB (n : Int) : Bool := decide (150 < n ∧ n < 1000 ∨ 2000 < n)


end Go.Proofs.Ytlebbkbbmgmmjac

/-
  The walks over the document's answers of cells: their faults, and whether two lists are the same.
-/
namespace Go.Proofs.Ytlebbkbbmgmmjac
open Go.RowKit

theorem isNumB_true {n : Int} (h1 : 0 ≤ n) (h2 : n ≤ 1000000000) : isNumB n = true := by unfold isNumB; simp; omega
theorem isNumB_false {n : Int} (h : n < 0 ∨ 1000000000 < n) : isNumB n = false := by unfold isNumB; simp; omega

set_option maxRecDepth 100000 in
set_option maxHeartbeats 400000 in
theorem CellCode_any (c : Cl) (w : World) : Calls Try.prog 50 #[cA c] w fun e w' => e = .returned (.int .i64 (codeC c)) ∧ Below w.heap.size w w' := by
  unfold cA
  have hall : c.row.toList.isEmpty = true ∨ (c.row.toList.isEmpty = false ∧ 40 < (c.row.size : Int)) ∨ (c.row.toList.isEmpty = false ∧ (c.row.size : Int) ≤ 40 ∧ 40 < (c.col.size : Int)) ∨ (c.row.toList.isEmpty = false ∧ (c.row.size : Int) ≤ 40 ∧ (c.col.size : Int) ≤ 40 ∧ 200 < (c.val.size : Int)) ∨ (c.row.toList.isEmpty = false ∧ (c.row.size : Int) ≤ 40 ∧ (c.col.size : Int) ≤ 40 ∧ (c.val.size : Int) ≤ 200) := by
    cases c.row.toList.isEmpty
    · simp only [Bool.false_eq_true, false_or, true_and]
      omega
    · exact .inl rfl
  rcases hall with h0 | ⟨h0, h1⟩ | ⟨h0, h1, h2⟩ | ⟨h0, h1, h2, h3⟩ | ⟨h0, h1, h2, h3⟩
  iterate 4
    · have HE := hide (show codeC c = 8 by unfold codeC; rw [if_pos (by simp only [h0]; simp; try omega)])
      go_enter Try.func50, Try.ntmps50
      go_wp2_with fail
      go_ret
      exact ⟨by rw [HE.out]; rfl, by go_grown⟩
  · have hn : ¬ (c.row.toList.isEmpty = true ∨ 40 < (c.row.size : Int) ∨ 40 < (c.col.size : Int) ∨ 200 < (c.val.size : Int)) := by simp only [h0]; simp; omega
    have h4 : c.time < 0 ∨ (¬ c.time < 0 ∧ 1000000000 < c.time) ∨ (¬ c.time < 0 ∧ c.time ≤ 1000000000) := by omega
    rcases h4 with h4 | ⟨h4, h5⟩ | ⟨h4, h5⟩
    · have HE := hide (show codeC c = 3 by unfold codeC; rw [if_neg hn, if_pos (isNumB_false (by omega))])
      clear hn
      go_enter Try.func50, Try.ntmps50
      go_wp2_with fail
      go_ret
      exact ⟨by rw [HE.out]; rfl, by go_grown⟩
    · have HE := hide (show codeC c = 3 by unfold codeC; rw [if_neg hn, if_pos (isNumB_false (by omega))])
      clear hn
      go_enter Try.func50, Try.ntmps50
      go_wp2_with fail
      go_ret
      exact ⟨by rw [HE.out]; rfl, by go_grown⟩
    · have hi := isNumB_true (n := c.time) (by omega) h5
      cases h7 : c.gone <;> cases h6 : c.val.toList.isEmpty
      all_goals
        have HE := hide (show codeC c = _ by unfold codeC; rw [if_neg hn, if_neg (by rw [hi]; decide), h7, h6])
        clear hn hi
        go_enter Try.func50, Try.ntmps50
        go_wp2_with fail
        go_ret
        exact ⟨by rw [HE.out]; rfl, by go_grown⟩

/-- Does a stand ahead of b? -/
def aheadB (a b : Cl) : Bool := if a.row.toList == b.row.toList then (if a.col.toList == b.col.toList then decide (b.time < a.time) else Op.bytesLess a.col.toList b.col.toList) else Op.bytesLess a.row.toList b.row.toList

theorem aheadB_iff {a b : Cl} : aheadB a b = true ↔ Lt a b := by
  unfold aheadB Lt kl rc
  by_cases h1 : a.row.toList = b.row.toList
  · by_cases h2 : a.col.toList = b.col.toList
    · simp [h1, h2, bl_irrefl]
    · simp [h1, h2, bl_irrefl]
  · simp [h1]

theorem aheadB_ord {a b : Cl} : aheadB a b = decide (ordC a b < 0) := by
  rw [Bool.eq_iff_iff, aheadB_iff, decide_eq_true_eq, ordC_neg]

set_option maxRecDepth 100000 in
set_option maxHeartbeats 400000 in
theorem Ahead_any (a b : Cl) (w : World) : Calls Try.prog 51 #[cA a, cA b] w fun e w' => e = .returned (.bool (aheadB a b)) ∧ Below w.heap.size w w' := by
  unfold cA
  cases h1 : (a.row.toList == b.row.toList) <;> cases h2 : (a.col.toList == b.col.toList)
  all_goals
    have HE := hide (show aheadB a b = _ by unfold aheadB; rw [h1, h2])
    go_enter Try.func51, Try.ntmps51
    go_wp2_with fail
    go_ret
    exact ⟨by rw [HE.out]; rfl, by go_grown⟩

set_option maxRecDepth 100000 in
set_option maxHeartbeats 400000 in
theorem FC_any (c a : Int) (w : World) : Calls Try.prog 13 #[.int .i64 c, .int .i64 a] w fun e w' => e = .returned (fltC (c, a)) ∧ Below w.heap.size w w' := by
  go_enter Try.func13, Try.ntmps13
  go_wp2_with fail
  exact bodyPost_ret (v := fltC (c, a)) (by simp [results, Try.results13, go_sem, fltC]) rfl ⟨rfl, by go_grown⟩

/-- A fault's block and what is below, behind a call. -/
theorem flt_later {w wr w1 : World} (hbel : Below (w.heap.size + 1) (w.alloc (.cells #[.int .i64 0, .int .i64 0] 26)) wr) (hb : Below wr.heap.size wr w1) : Below (w.heap.size + 1) (w.alloc (.cells #[.int .i64 0, .int .i64 0] 26)) w1 :=
  hbel.trans (hb.mono (by have := hbel.size; simp at this; omega))

set_option maxRecDepth 100000 in
set_option maxHeartbeats 1000000 in
theorem CellsFault_any (v : Value) (cs : List Cl) (w : World) (hv : RdC w v cs) :
    Calls Try.prog 12 #[v] w fun e w' => e = .returned (fltC (checkC cs)) ∧ Below w.heap.size w w' := by
  obtain ⟨ao, cap, hvv, hc1, hc2, hat⟩ := hv.at
  subst hvv
  unfold maxLen at hc2
  by_cases hbig : 1000 < cs.length
  · have HE := hide (show checkC cs = (2, 0) by simp [checkC, faultR, hbig])
    go_enter Try.func12, Try.ntmps12
    go_wp2_with fail
    refine (FC_any 2 0 _).mono ?_
    rintro e w1 ⟨rfl, hb1⟩
    have hbel := flt_later (Below.refl _ _) hb1
    obtain ⟨hf0, hf1, hfr0, hfr1, hsz⟩ := two_later hbel
    have hbf := below_first hbel
    unfold fltC
    go_wp2_with fail
    exact bodyPost_ret (v := fltC (2, 0)) (by simp [results, Try.results12, go_sem, fltC, hf0, hf1]) rfl ⟨by rw [HE.out], by go_grown⟩
  · have HF := hide (show checkC cs = firstG (codeAt cs) cs.length 0 by simp [checkC, faultR, hbig])
    go_enter Try.func12, Try.ntmps12
    go_wp2_with fail
    go_loopw [3] (fun i wr => ∃ k : Nat, k ≤ cs.length ∧ i = .int .i64 k ∧ firstG (codeAt cs) (cs.length - k) k = checkC cs ∧ Below (w.heap.size + 1) (w.alloc (.cells #[.int .i64 0, .int .i64 0] 26)) wr)
      (fun i _ => cs.length - (intOf i).toNat)
    case atStart => exact ⟨0, by omega, rfl, by rw [HF.out]; rfl, Below.refl _ _⟩
    case round =>
      obtain ⟨k, hk, rfl, hgo, hbel⟩ := hrel
      have HG := hide hgo
      clear hgo
      by_cases hlt : k < cs.length
      · obtain ⟨b, off, rfl, hb, hcl⟩ := hat k hlt
        obtain ⟨c, hc⟩ : ∃ c, cs[k]? = some c := ⟨_, List.getElem?_eq_getElem hlt⟩
        have hck := hcl k hlt
        rw [(List.getElem?_eq_some_iff.1 hc).2] at hck
        have HCK := hide hck
        have hbf := below_first hbel
        obtain ⟨c0, c1, c2, c3, c4⟩ := hck.below hbf
        have hk1 : (0 : Int) ≤ (k : Int) := by omega
        have hk2 : (k : Int) < (cs.length : Int) := by omega
        go_wp2_with fail
        refine (CellCode_any c _).mono ?_
        rintro e w1 ⟨rfl, hb1⟩
        have hbel1 := flt_later hbel hb1
        obtain ⟨gf0, gf1, gfr0, gfr1, gsz⟩ := two_later hbel1
        have hbf1 := below_first hbel1
        clear c0 c1 c2 c3 c4 hb1 hbf hbel
        by_cases h0 : codeC c = 0
        · by_cases hk0 : k = 0
          · subst hk0
            have HE := hide (firstG_next (m := cs.length - 0) (codeAt_first hc h0) (by omega))
            have hd : decide ((0 : Int) < ((0 : Nat) : Int)) = false := by simp
            rw [h0]
            clear hc hcl hat hv hck
            go_wp2_with fail
            go_quiet (fail)
            go_wp2_with fail
            go_roundw
            case rel => exact ⟨1, by omega, by go_num, by rw [← HG.out, HE.out]; rfl, below_drewN hbel1 _⟩
            case measure => simp [intOf]; omega
          · obtain ⟨j, hkj⟩ : ∃ j, k = j + 1 := ⟨k - 1, by omega⟩
            obtain ⟨d, hd⟩ : ∃ c, cs[j]? = some c := ⟨_, List.getElem?_eq_getElem (by omega)⟩
            have hdi := hcl j (by omega)
            rw [(List.getElem?_eq_some_iff.1 hd).2] at hdi
            have HCA : Hid (codeAt cs k = if 0 ≤ ordC d c then 10 else 0) := hide (by rw [hkj] at hc ⊢; exact codeAt_later hc hd h0)
            have hg : decide (0 < k) = true := by simp; omega
            have hw : IntKind.i64.wrap ((k : Int) - 1) = (j : Int) := by rw [IntKind.wrap_i64]; omega
            have hj1 : (0 : Int) ≤ (j : Int) := by omega
            have hj2 : (j : Int) < (cs.length : Int) := by omega
            rw [h0]
            have hkeep : ∀ W, Below w.heap.size w W → (W.cell? ⟨b, off + k * 5, none⟩ = some (.string c.row) ∧ W.cell? ⟨b, off + k * 5 + 1, none⟩ = some (.string c.col) ∧ W.cell? ⟨b, off + k * 5 + 2, none⟩ = some (.int .i64 c.time) ∧ W.cell? ⟨b, off + k * 5 + 3, none⟩ = some (.bool c.gone) ∧ W.cell? ⟨b, off + k * 5 + 4, none⟩ = some (.string c.val)) ∧ (W.cell? ⟨b, off + j * 5, none⟩ = some (.string d.row) ∧ W.cell? ⟨b, off + j * 5 + 1, none⟩ = some (.string d.col) ∧ W.cell? ⟨b, off + j * 5 + 2, none⟩ = some (.int .i64 d.time) ∧ W.cell? ⟨b, off + j * 5 + 3, none⟩ = some (.bool d.gone) ∧ W.cell? ⟨b, off + j * 5 + 4, none⟩ = some (.string d.val)) := fun W h => by
              obtain ⟨c0, c1, c2, c3, c4⟩ := HCK.out.below h
              obtain ⟨d0, d1, d2, d3, d4⟩ := hdi.below h
              exact ⟨⟨c0, c1, c2, c3, c4⟩, d0, d1, d2, d3, d4⟩
            have HK := hide hkeep
            obtain ⟨⟨c0, c1, c2, c3, c4⟩, d0, d1, d2, d3, d4⟩ := hkeep w1 hbf1
            clear hkeep hcl hat hv hc hd hck hdi hkj hk0
            go_wp2_with fail
            cases h7 : aheadB d c
            · have HE : Hid (codeAt cs k = 10) := hide (HCA.out.trans (if_pos (by rw [aheadB_ord, decide_eq_false_iff_not] at h7; omega)))
              have HFG := hide (firstG_hit (f := codeAt cs) (m := cs.length - k) (i := k) (by rw [HE.out]; decide) (by omega))
              go_region_held3 (fun W => (W.cell? ⟨b, off + k * 5, none⟩ = some (.string c.row) ∧ W.cell? ⟨b, off + k * 5 + 1, none⟩ = some (.string c.col) ∧ W.cell? ⟨b, off + k * 5 + 2, none⟩ = some (.int .i64 c.time) ∧ W.cell? ⟨b, off + k * 5 + 3, none⟩ = some (.bool c.gone) ∧ W.cell? ⟨b, off + k * 5 + 4, none⟩ = some (.string c.val)) ∧ (W.cell? ⟨b, off + j * 5, none⟩ = some (.string d.row) ∧ W.cell? ⟨b, off + j * 5 + 1, none⟩ = some (.string d.col) ∧ W.cell? ⟨b, off + j * 5 + 2, none⟩ = some (.int .i64 d.time) ∧ W.cell? ⟨b, off + j * 5 + 3, none⟩ = some (.bool d.gone) ∧ W.cell? ⟨b, off + j * 5 + 4, none⟩ = some (.string d.val))) (exact HK.out _ (by go_grown)) (first
                | (go_at_call 51; refine (Ahead_any d c _).mono ?_; rintro e w2 ⟨rfl, hb2⟩; rw [h7]; have hb12 : Below w1.heap.size w1 w2 := Below.trans (by go_grown) hb2; have hbw2 : Below w.heap.size w w2 := hbf1.trans (hb12.mono (by omega))))
              have hbel2 := flt_later hbel1 hb12
              go_wp2_with fail
              refine (FC_any 10 k _).mono ?_
              rintro e w3 ⟨rfl, hb3⟩
              have hbel3 := flt_later hbel2 hb3
              clear gf0 gf1 gfr0 gfr1 gsz
              obtain ⟨gf0, gf1, gfr0, gfr1, gsz⟩ := two_later hbel3
              have hbf3 := below_first hbel3
              unfold fltC
              go_wp2_with fail
              exact bodyPost_ret (v := fltC (10, k)) (by simp [results, Try.results12, go_sem, fltC, gf0, gf1]) rfl ⟨by rw [← HG.out, HFG.out, HE.out], by go_grown⟩
            · have HE : Hid (codeAt cs k = 0) := hide (HCA.out.trans (if_neg (by rw [aheadB_ord, decide_eq_true_eq] at h7; omega)))
              have HFG := hide (firstG_next (m := cs.length - k) HE.out (by omega))
              go_region_held3 (fun W => (W.cell? ⟨b, off + k * 5, none⟩ = some (.string c.row) ∧ W.cell? ⟨b, off + k * 5 + 1, none⟩ = some (.string c.col) ∧ W.cell? ⟨b, off + k * 5 + 2, none⟩ = some (.int .i64 c.time) ∧ W.cell? ⟨b, off + k * 5 + 3, none⟩ = some (.bool c.gone) ∧ W.cell? ⟨b, off + k * 5 + 4, none⟩ = some (.string c.val)) ∧ (W.cell? ⟨b, off + j * 5, none⟩ = some (.string d.row) ∧ W.cell? ⟨b, off + j * 5 + 1, none⟩ = some (.string d.col) ∧ W.cell? ⟨b, off + j * 5 + 2, none⟩ = some (.int .i64 d.time) ∧ W.cell? ⟨b, off + j * 5 + 3, none⟩ = some (.bool d.gone) ∧ W.cell? ⟨b, off + j * 5 + 4, none⟩ = some (.string d.val))) (exact HK.out _ (by go_grown)) (first
                | (go_at_call 51; refine (Ahead_any d c _).mono ?_; rintro e w2 ⟨rfl, hb2⟩; rw [h7]; have hb12 : Below w1.heap.size w1 w2 := Below.trans (by go_grown) hb2; have hbw2 : Below w.heap.size w w2 := hbf1.trans (hb12.mono (by omega))))
              have hbel2 := flt_later hbel1 hb12
              go_wp2_with fail
              go_roundw
              case rel => exact ⟨k + 1, by omega, by go_num, by rw [← HG.out, HFG.out]; congr 1, hbel2⟩
              case measure => simp [intOf]; omega
        · have hb : (codeC c != 0) = true := by simp [h0]
          have HC := hide (codeAt_own hc h0)
          have HE := hide (firstG_hit (f := codeAt cs) (m := cs.length - k) (i := k) (by rw [HC.out]; exact h0) (by omega))
          clear h0 hc hcl hat hv hck
          go_wp2_with fail
          refine (FC_any _ k _).mono ?_
          rintro e w2 ⟨rfl, hb2⟩
          have hbel2 := flt_later hbel1 hb2
          clear gf0 gf1 gfr0 gfr1 gsz
          obtain ⟨gf0, gf1, gfr0, gfr1, gsz⟩ := two_later hbel2
          have hbf2 := below_first hbel2
          unfold fltC
          go_wp2_with fail
          exact bodyPost_ret (v := fltC (codeC c, k)) (by simp [results, Try.results12, go_sem, fltC, gf0, gf1]) rfl ⟨by rw [← HG.out, HE.out, HC.out], by go_grown⟩
      · have hz : cs.length - k = 0 := by omega
        rw [hz] at HG
        obtain ⟨gf0, gf1, gfr0, gfr1, gsz⟩ := two_later hbel
        have hbf := below_first hbel
        go_wp2_with fail
        exact bodyPost_ret (v := fltC (0, 0)) (by simp [results, Try.results12, go_sem, fltC, gf0, gf1]) rfl ⟨by rw [← HG.out]; rfl, by go_grown⟩

end Go.Proofs.Ytlebbkbbmgmmjac

/-
  The walks over the document's answers of cells: the same cells.
-/
namespace Go.Proofs.Ytlebbkbbmgmmjac
open Go.RowKit

theorem ba_ext {a b : ByteArray} (h : a.toList = b.toList) : a = b := by
  rw [ByteArray.toList_eq, ByteArray.toList_eq] at h
  cases a; cases b
  simp at h
  rw [h]

/-- Are two cells the same? -/
def eqC (a b : Cl) : Bool := (a.row.toList == b.row.toList) && ((a.col.toList == b.col.toList) && (decide (a.time = b.time) && ((a.gone == b.gone) && (a.val.toList == b.val.toList))))

theorem eqC_iff {a b : Cl} : eqC a b = true ↔ a = b := by
  unfold eqC
  constructor
  · intro h
    simp only [Bool.and_eq_true, beq_iff_eq, decide_eq_true_eq] at h
    obtain ⟨h1, h2, h3, h4, h5⟩ := h
    cases a; cases b
    simp only at h1 h2 h3 h4 h5
    rw [ba_ext h1, ba_ext h2, h3, h4, ba_ext h5]
  · rintro rfl
    simp

def sameC : List Cl → List Cl → Bool
  | [], [] => true
  | a :: l, b :: m => eqC a b && sameC l m
  | _, _ => false

theorem sameC_refl : ∀ l : List Cl, sameC l l = true
  | [] => rfl
  | a :: l => by simp [sameC, eqC_iff.2 rfl, sameC_refl l]

set_option maxRecDepth 100000 in
set_option maxHeartbeats 1000000 in
theorem SameCells_any (v u : Value) (cs : List Cl) (w : World) (hv : RdC w v cs) (hu : RdC w u cs) :
    Calls Try.prog 18 #[v, u] w fun e w' => e = .returned (.bool true) ∧ Below w.heap.size w w' := by
  obtain ⟨ao, cap, hvv, hc1, hc2, hat⟩ := hv.at
  obtain ⟨bo, cbp, huu, hd1, hd2, hbt⟩ := hu.at
  subst hvv huu
  unfold maxLen at hc2 hd2
  have hnb : ((cs.length : Int) != cs.length) = false := by simp
  go_enter Try.func18, Try.ntmps18
  go_wp2_with fail
  go_loopw [5] (fun i wr => ∃ k : Nat, k ≤ cs.length ∧ i = .int .i64 k ∧ Below w.heap.size w wr)
    (fun i _ => cs.length - (intOf i).toNat)
  case atStart => exact ⟨0, by omega, rfl, Below.refl _ _⟩
  case round =>
    obtain ⟨k, hk, rfl, hbel⟩ := hrel
    by_cases hlt : k < cs.length
    · obtain ⟨b, off, rfl, hb, hcl⟩ := hat k hlt
      obtain ⟨b2, off2, rfl, hb2, hcl2⟩ := hbt k hlt
      have h1 := (hcl k hlt).below hbel
      have h2 := (hcl2 k hlt).below hbel
      generalize cs[k] = c at *
      obtain ⟨c0, c1, c2, c3, c4⟩ := h1
      obtain ⟨d0, d1, d2, d3, d4⟩ := h2
      have hk1 : (0 : Int) ≤ (k : Int) := by omega
      have hk2 : (k : Int) < (cs.length : Int) := by omega
      clear hcl hcl2 hat hbt hv hu
      go_wp2_with fail
      go_quiet (fail)
      go_wp2_with fail
      go_roundw
      case rel => exact ⟨k + 1, by omega, by go_num, below_drewN hbel _⟩
      case measure => simp [intOf]; omega
    · go_wp2_with fail
      go_ret
      exact ⟨rfl, hbel⟩

end Go.Proofs.Ytlebbkbbmgmmjac

/-
  The walks over the document's answers of cells: what is seen.
-/
namespace Go.Proofs.Ytlebbkbbmgmmjac
open Go.RowKit

/-- A place at a time. -/
def hitB (k : Ky) (t : Int) (c : Cl) : Bool := isAt k c && decide (c.time ≤ t)
/-- The cell that the document sees. -/
def seenR (cs : List Cl) (k : Ky) (t : Int) : Cl × Bool :=
  match cs.find? (hitB k t) with
  | none => (zeroC, false)
  | some c => if c.gone then (zeroC, false) else (c, true)

theorem find_snoc {p : Cl → Bool} {cs : List Cl} {k : Nat} {c : Cl} (hc : cs[k]? = some c) (h : (cs.take k).find? p = none) (hp : p c = false) : (cs.take (k + 1)).find? p = none := by
  rw [List.take_add_one, hc, List.find?_append, h]
  simp [hp]

theorem find_now {p : Cl → Bool} {cs : List Cl} {k : Nat} {c : Cl} (hc : cs[k]? = some c) (h : (cs.take k).find? p = none) (hp : p c = true) : cs.find? p = some c := by
  obtain ⟨hk, e⟩ := List.getElem?_eq_some_iff.1 hc
  have : cs = cs.take k ++ c :: cs.drop (k + 1) := by rw [← e, ← List.drop_eq_getElem_cons hk, List.take_append_drop]
  rw [this, List.find?_append, h]
  simp [hp]

theorem hitB_later {cs : List Cl} (hp : cs.Pairwise Lt) {j k : Nat} {c d : Cl} (hj : cs[j]? = some d) (hk : cs[k]? = some c) (hjk : j < k) (hrc : rc c = rc d) : decide (d.time < c.time) = false := by
  obtain ⟨h1, e1⟩ := List.getElem?_eq_some_iff.1 hj
  obtain ⟨h2, e2⟩ := List.getElem?_eq_some_iff.1 hk
  have := List.pairwise_iff_getElem.1 hp j k h1 h2 hjk
  rw [e1, e2] at this
  rcases this with h | ⟨_, h⟩
  · exact absurd hrc.symm (kl_ne h)
  · simp; omega

theorem hit_cases (row col : ByteArray) (t : Int) (c : Cl) : hitB (row.toList, col.toList) t c = false ∧ (c.row.toList == row.toList) = false ∨ hitB (row.toList, col.toList) t c = false ∧ (c.row.toList == row.toList) = true ∧ (c.col.toList == col.toList) = false ∨ hitB (row.toList, col.toList) t c = false ∧ (c.row.toList == row.toList) = true ∧ (c.col.toList == col.toList) = true ∧ decide (c.time ≤ t) = false ∨ hitB (row.toList, col.toList) t c = true ∧ (c.row.toList == row.toList) = true ∧ (c.col.toList == col.toList) = true ∧ decide (c.time ≤ t) = true := by
  unfold hitB isAt
  cases (c.row.toList == row.toList) <;> cases (c.col.toList == col.toList) <;> cases decide (c.time ≤ t) <;> simp

theorem hitB_rc {k : Ky} {t : Int} {c : Cl} (h : hitB k t c = true) : rc c = k := by
  unfold hitB at h
  rw [Bool.and_eq_true] at h
  exact isAt_iff.1 h.1

theorem RdC.hereC {w : World} {ao : Option Addr} {n cap : Nat} {cs : List Cl} (h : RdC w (.slice ao n cap) cs) {i : Nat} {c : Cl} (hi : cs[i]? = some c) :
    ∃ b off, ao = some ⟨b, off, none⟩ ∧ b < w.heap.size ∧ At w b (off + i * 5) c := by
  obtain ⟨ao', cap', hv, _, _, hat⟩ := h.at
  simp only [Value.slice.injEq] at hv
  obtain ⟨rfl, _, _⟩ := hv
  obtain ⟨hl, e⟩ := List.getElem?_eq_some_iff.1 hi
  obtain ⟨b, off, ha, hb, hc⟩ := hat i hl
  exact ⟨b, off, ha, hb, e ▸ hc i hl⟩

set_option maxRecDepth 100000 in
set_option maxHeartbeats 2000000 in
theorem SeenCell_any (v : Value) (cs : List Cl) (row col : ByteArray) (t : Int) (w : World) (hv : RdC w v cs) (hp : cs.Pairwise Lt) :
    Calls Try.prog 28 #[v, .string row, .string col, .int .i64 t] w fun e w' => e = .returned (.tuple #[cA (seenR cs (row.toList, col.toList) t).1, .bool (seenR cs (row.toList, col.toList) t).2]) ∧ Below w.heap.size w w' := by
  obtain ⟨ao, cap, hvv, hc1, hc2⟩ := hv.shape
  subst hvv
  unfold maxLen at hc2
  have HP := hide hp
  clear hp
  go_enter Try.func28, Try.ntmps28
  go_wp2_with fail
  have hR0 : Bk (w.alloc (.cells #[.string ⟨#[]⟩, .string ⟨#[]⟩, .int .i64 0, .bool false, .string ⟨#[]⟩] 53)) w.heap.size 53 (ca zeroC) := Bk.new w _ _
  have hbC : Below w.heap.size w (w.alloc (.cells #[.string ⟨#[]⟩, .string ⟨#[]⟩, .int .i64 0, .bool false, .string ⟨#[]⟩] 53)) := below_alloc' _ _
  generalize w.alloc (.cells #[.string ⟨#[]⟩, .string ⟨#[]⟩, .int .i64 0, .bool false, .string ⟨#[]⟩] 53) = wA at *
  have hvA := hv.below hbC
  have hsA := hR0.lt
  clear hv
  go_loopw [10, 11] (fun bst i wr => ∃ k : Nat, k ≤ cs.length ∧ i = .int .i64 k ∧ ((bst = .int .i64 (-1) ∧ (cs.take k).find? (hitB (row.toList, col.toList) t) = none) ∨ (∃ (j : Nat) (d : Cl), bst = .int .i64 j ∧ cs[j]? = some d ∧ j < k ∧ cs.find? (hitB (row.toList, col.toList) t) = some d)) ∧ Below wA.heap.size wA wr)
    (fun _ i _ => cs.length - (intOf i).toNat)
  case atStart => exact ⟨0, by omega, rfl, .inl ⟨rfl, by simp⟩, Below.refl _ _⟩
  case round =>
    obtain ⟨k, hk, rfl, hbst, hbel⟩ := hrel
    have hzr := hbel.size
    by_cases hlt : k < cs.length
    · obtain ⟨c, hc⟩ : ∃ c, cs[k]? = some c := ⟨_, List.getElem?_eq_getElem hlt⟩
      obtain ⟨b, off, rfl, hb, hck⟩ := hvA.hereC hc
      obtain ⟨c0, c1, c2, c3, c4⟩ := hck.below hbel
      have hk1 : (0 : Int) ≤ (k : Int) := by omega
      have hk2 : (k : Int) < (cs.length : Int) := by omega
      have hhit := hit_cases row col t c
      rcases hbst with ⟨rfl, hnone⟩ | ⟨j, d, rfl, hj, hjk, hfnd⟩
      · have HN := hide hnone
        clear hnone
        rcases hhit with ⟨h0, h1⟩ | ⟨h0, h1, h2⟩ | ⟨h0, h1, h2, h3⟩ | ⟨h0, h1, h2, h3⟩
        iterate 3
          · have HF := hide (find_snoc hc HN.out h0)
            clear h0 hc hck
            go_wp2_with fail
            go_quiet (fail)
            go_wp2_with fail
            go_roundw
            case rel => exact ⟨k + 1, by omega, by go_num, .inl ⟨rfl, HF.out⟩, below_drewN hbel _⟩
            case measure => simp [intOf]; omega
        · have HF := hide (find_now hc HN.out h0)
          have HC := hide hc
          clear h0 hc hck
          go_wp2_with fail
          go_quiet (fail)
          go_wp2_with fail
          go_roundw
          case rel => exact ⟨k + 1, by omega, by go_num, .inr ⟨k, c, rfl, HC.out, by omega, HF.out⟩, below_drewN hbel _⟩
          case measure => simp [intOf]; omega
      · have HJ := hide hj
        have HF := hide hfnd
        obtain ⟨b2, off2, he, _, hdk⟩ := hvA.hereC hj
        simp only [Option.some.injEq, Addr.mk.injEq, and_true] at he
        obtain ⟨rfl, rfl⟩ := he
        obtain ⟨d0, d1, d2, d3, d4⟩ := hdk.below hbel
        have hj1 : (0 : Int) ≤ (j : Int) := by omega
        have hj2 : (j : Int) < (cs.length : Int) := by omega
        have hd1 : decide ((j : Int) < 0) = false := by simp
        rcases hhit with ⟨h0, h1⟩ | ⟨h0, h1, h2⟩ | ⟨h0, h1, h2, h3⟩ | ⟨h0, h1, h2, h3⟩
        iterate 3
          · clear h0 hc hck hj hfnd hdk
            go_wp2_with fail
            go_quiet (fail)
            go_wp2_with fail
            go_roundw
            case rel => exact ⟨k + 1, by omega, by go_num, .inr ⟨j, d, rfl, HJ.out, by omega, HF.out⟩, below_drewN hbel _⟩
            case measure => simp [intOf]; omega
        · have h4 := hitB_later HP.out hj hc hjk ((hitB_rc h0).trans (hitB_rc (List.find?_some hfnd)).symm)
          clear h0 hc hck hj hfnd hdk
          go_wp2_with fail
          go_quiet (fail)
          go_wp2_with fail
          go_roundw
          case rel => exact ⟨k + 1, by omega, by go_num, .inr ⟨j, d, rfl, HJ.out, by omega, HF.out⟩, below_drewN hbel _⟩
          case measure => simp [intOf]; omega
    · have hRr := hR0.below hbel hsA
      have hbw : Below w.heap.size w wr := hbC.trans (hbel.mono (by omega))
      obtain ⟨r0, r1, r2, r3, r4⟩ := hRr.facts
      obtain ⟨t0, t1, t2, t3, t4⟩ := hRr.thaw
      have hsr := hRr.lt
      rcases hbst with ⟨rfl, hnone⟩ | ⟨j, d, rfl, hj, hjk, hfnd⟩
      · rw [List.take_of_length_le (by omega)] at hnone
        have HE : Hid (seenR cs (row.toList, col.toList) t = (zeroC, false)) := hide (by unfold seenR; rw [hnone])
        clear hnone
        go_wp2_with fail
        exact bodyPost_ret (v := .tuple #[cA zeroC, .bool false]) (by simp [results, Try.results28, go_sem, cA, zeroC, r0, r1, r2, r3, r4]) rfl ⟨by rw [HE.out], by go_grown⟩
      · obtain ⟨b2, off2, rfl, _, hdk⟩ := hvA.hereC hj
        obtain ⟨d0, d1, d2, d3, d4⟩ := hdk.below hbel
        have hj1 : (0 : Int) ≤ (j : Int) := by omega
        have hj2 : (j : Int) < (cs.length : Int) := by omega
        have hd1 : decide ((j : Int) < 0) = false := by simp
        cases hg : d.gone
        · have HE : Hid (seenR cs (row.toList, col.toList) t = (d, true)) := hide (by unfold seenR; rw [hfnd]; simp [hg])
          clear hfnd hdk hj
          rw [hg] at d3
          go_wp2_with fail
          exact bodyPost_ret (v := .tuple #[cA d, .bool true]) (by simp [results, Try.results28, go_sem, cA, hg, r0, r1, r2, r3, r4]) rfl ⟨by rw [HE.out], by go_grown⟩
        · have HE : Hid (seenR cs (row.toList, col.toList) t = (zeroC, false)) := hide (by unfold seenR; rw [hfnd]; simp [hg])
          clear hfnd hdk hj
          rw [hg] at d3
          go_wp2_with fail
          exact bodyPost_ret (v := .tuple #[cA zeroC, .bool false]) (by simp [results, Try.results28, go_sem, cA, zeroC, r0, r1, r2, r3, r4]) rfl ⟨by rw [HE.out], by go_grown⟩

end Go.Proofs.Ytlebbkbbmgmmjac

/-
  Plain maths of the law CellScans.
-/
namespace Go.Proofs.Ytlebbkbbmgmmjac
open Go.RowKit

theorem vis_sub (t : Int) (cs : List Cl) : (vis t cs).Sublist cs := visGo_sub t cs zeroC

/-- Where Scan has no fault. -/
theorem scanC_fine {cs : List Cl} {a b : ByteArray} {t m : Int} (h : (scanC cs a b t m).2.1 = 0) :
    (checkC cs).1 = 0 ∧ isNumB t = true ∧ 0 ≤ m ∧ m ≤ 1000 ∧ (scanC cs a b t m).1 = ((vis t cs).filter fun c => askB a b c.row).take m.toNat := by
  unfold scanC at h ⊢
  by_cases h1 : (checkC cs).1 = 0
  · rw [if_neg (by omega)] at h ⊢
    by_cases h2 : isNumB t = false
    · rw [if_pos h2] at h; simp at h
    · rw [if_neg h2] at h ⊢
      by_cases h3 : m < 0 ∨ 1000 < m
      · rw [if_pos h3] at h; simp at h
      · rw [if_neg h3]
        refine ⟨h1, by simpa using h2, by omega, by omega, ?_⟩
        rw [scanGo_eq]
        simp [vis]
  · rw [if_pos h1] at h
    exact absurd h h1

theorem getC_fine {cs : List Cl} {row col : ByteArray} {t : Int} (h1 : (checkC cs).1 = 0) (h2 : isNumB t = true) :
    getC cs row col t = match (vis t cs).find? (isAt (row.toList, col.toList)) with
      | some c => (c.val, true, (0, 0))
      | none => (⟨#[]⟩, false, (0, 0)) := by
  rw [getC_ok h1 h2, getGo_eq]
  unfold vis
  cases (visGo t zeroC cs).find? (isAt (row.toList, col.toList)) <;> rfl

/-- What Scan tells is what Get tells. -/
theorem scan_get {cs : List Cl} {a b : ByteArray} {t m : Int} (h : (scanC cs a b t m).2.1 = 0) {c : Cl} (hc : c ∈ (scanC cs a b t m).1) : getC cs c.row c.col t = (c.val, true, (0, 0)) := by
  obtain ⟨h1, h2, _, _, h5⟩ := scanC_fine h
  rw [h5] at hc
  have hv : c ∈ vis t cs := (List.mem_filter.1 (List.mem_of_mem_take hc)).1
  rw [getC_fine h1 h2, show (c.row.toList, c.col.toList) = rc c from rfl, find_pw (vis_pw t h1) hv]

theorem scan_pw {cs : List Cl} {a b : ByteArray} {t m : Int} (h : (scanC cs a b t m).2.1 = 0) : (scanC cs a b t m).1.Pairwise (fun a b => kl (rc a) (rc b)) := by
  obtain ⟨h1, _, _, _, h5⟩ := scanC_fine h
  rw [h5]
  exact ((vis_pw t h1).filter _).take

/-- The test that the law makes of two neighbours. -/
theorem kl_tests {c d : Cl} (h : kl (rc c) (rc d)) : bl d.row.toList c.row.toList = false ∧ ((d.row.toList == c.row.toList) = false ∨ (d.row.toList == c.row.toList) = true ∧ bl d.col.toList c.col.toList = false ∧ (d.col.toList == c.col.toList) = false) := by
  rcases h with h | ⟨e, h⟩
  · have := bl_ne h
    exact ⟨bl_asymm h, .inl (beq_eq_false_iff_ne.2 (fun e => this e.symm))⟩
  · have e' : c.row.toList = d.row.toList := e
    have := bl_ne h
    exact ⟨by rw [e']; exact bl_irrefl _, .inr ⟨beq_iff_eq.2 e'.symm, bl_asymm h, beq_eq_false_iff_ne.2 (fun e => this e.symm)⟩⟩

/-- How many numbers below k pass. -/
def cntUp (f : Nat → Bool) : Nat → Nat
  | 0 => 0
  | k + 1 => cntUp f k + if f k then 1 else 0

theorem cntUp_no {f : Nat → Bool} {k : Nat} (h : f k = false) : cntUp f (k + 1) = cntUp f k := by simp [cntUp, h]
theorem cntUp_yes {f : Nat → Bool} {k : Nat} (h : f k = true) : cntUp f (k + 1) = cntUp f k + 1 := by simp [cntUp, h]

theorem cntUp_le (f : Nat → Bool) : ∀ k, cntUp f k ≤ k
  | 0 => Nat.le_refl _
  | k + 1 => by have := cntUp_le f k; unfold cntUp; split <;> omega

theorem cntUp_eq (f : Nat → Bool) : ∀ k, cntUp f k = ((List.range k).filter f).length
  | 0 => rfl
  | k + 1 => by
    rw [List.range_succ, List.filter_append, List.length_append, ← cntUp_eq f k, cntUp]
    cases h : f k <;> simp [h]

/-- A number at which another place begins. -/
def headB (cs : List Cl) (i : Nat) : Bool := i == 0 || rc (cs.getD (i - 1) zeroC) != rc (cs.getD i zeroC)
/-- Does the law count this number? -/
def okScan (cs : List Cl) (a b : ByteArray) (t : Int) (i : Nat) : Bool :=
  headB cs i && askB a b (cs.getD i zeroC).row && ((vis t cs).find? (isAt (rc (cs.getD i zeroC)))).isSome

theorem pw_get {cs : List Cl} (h : cs.Pairwise Lt) {i j : Nat} (hj : j < cs.length) (hij : i < j) : Lt (cs.getD i zeroC) (cs.getD j zeroC) := by
  have := List.pairwise_iff_getElem.1 h i j (by omega) hj hij
  simpa [List.getD_eq_getElem?_getD, hj, show i < cs.length by omega] using this

theorem head_kl {cs : List Cl} (h : cs.Pairwise Lt) {i j : Nat} (hj : j < cs.length) (hij : i < j) (hh : headB cs j = true) : kl (rc (cs.getD i zeroC)) (rc (cs.getD j zeroC)) := by
  unfold headB at hh
  have hj0 : (j == 0) = false := by simp; omega
  rw [hj0, Bool.false_or, bne_iff_ne] at hh
  have h1 := (Lt_le (pw_get h hj (show j - 1 < j by omega))).resolve_right hh
  by_cases e : i = j - 1
  · rw [e]; exact h1
  · rcases Lt_le (pw_get h (show j - 1 < cs.length by omega) (show i < j - 1 by omega)) with h2 | h2
    · exact kl_trans h2 h1
    · rw [h2]; exact h1

/-- There is a first number of a place. -/
theorem head_of {cs : List Cl} : ∀ (j : Nat), j < cs.length → ∃ i, i ≤ j ∧ headB cs i = true ∧ rc (cs.getD i zeroC) = rc (cs.getD j zeroC)
  | 0, _ => ⟨0, Nat.le_refl _, rfl, rfl⟩
  | j + 1, hj => by
    by_cases e : rc (cs.getD j zeroC) = rc (cs.getD (j + 1) zeroC)
    · obtain ⟨i, h1, h2, h3⟩ := head_of (cs := cs) j (by omega)
      exact ⟨i, by omega, h2, h3.trans e⟩
    · refine ⟨j + 1, Nat.le_refl _, ?_, rfl⟩
      unfold headB
      rw [show j + 1 - 1 = j from rfl, bne_iff_ne.2 e, Bool.or_true]

theorem askB_rc {a b : ByteArray} {c d : Cl} (h : rc c = rc d) : askB a b c.row = askB a b d.row := by
  have : c.row.toList = d.row.toList := congrArg Prod.fst h
  unfold askB
  rw [this]

/-- What the law counts is as many as are seen. -/
theorem cnt_all {cs : List Cl} (a b : ByteArray) (t : Int) (h : (checkC cs).1 = 0) : cntUp (okScan cs a b t) cs.length = ((vis t cs).filter fun c => askB a b c.row).length := by
  have hp := fine_pw h
  have hv := vis_pw t h
  have hall : ((List.range cs.length).filter (okScan cs a b t)).map (fun i => rc (cs.getD i zeroC)) = ((vis t cs).filter fun c => askB a b c.row).map rc := ?_
  · have := congrArg List.length hall
    rw [List.length_map, List.length_map] at this
    rw [cntUp_eq, this]
  refine pw_ext kl_irrefl (fun _ _ _ => kl_trans) ?_ ?_ ?_
  · rw [List.pairwise_map]
    have h1 : ((List.range cs.length).filter (okScan cs a b t)).Pairwise (· < ·) := List.pairwise_lt_range.filter _
    refine h1.imp_of_mem fun {i j} hi hj hij => ?_
    rw [List.mem_filter, List.mem_range] at hi hj
    have hh : headB cs j = true := by
      have := hj.2
      unfold okScan at this
      simp only [Bool.and_eq_true] at this
      exact this.1.1
    exact head_kl hp hj.1 hij hh
  · rw [List.pairwise_map]
    exact hv.filter _
  · intro k
    simp only [List.mem_map, List.mem_filter, List.mem_range]
    constructor
    · rintro ⟨i, ⟨hi, hok⟩, rfl⟩
      unfold okScan at hok
      simp only [Bool.and_eq_true, Option.isSome_iff_exists] at hok
      obtain ⟨⟨_, h2⟩, d, hd⟩ := hok
      have hd1 := isAt_iff.1 (List.find?_some hd)
      exact ⟨d, ⟨List.mem_of_find?_eq_some hd, by rw [askB_rc hd1]; exact h2⟩, hd1⟩
    · rintro ⟨d, ⟨hd, hask⟩, rfl⟩
      obtain ⟨j, hj, e⟩ := List.getElem_of_mem ((vis_sub t cs).subset hd)
      have ej : cs.getD j zeroC = d := by simp [List.getD_eq_getElem?_getD, hj, e]
      obtain ⟨i, h1, h2, h3⟩ := head_of (cs := cs) j hj
      rw [ej] at h3
      refine ⟨i, ⟨by omega, ?_⟩, h3⟩
      unfold okScan
      rw [h2, askB_rc h3, hask, h3, find_pw hv hd]
      rfl

theorem okAt_get {cs : List Cl} {a b : ByteArray} {t : Int} (h1 : (checkC cs).1 = 0) (h2 : isNumB t = true) {i : Nat} {c : Cl} (hc : cs.getD i zeroC = c) : okScan cs a b t i = (headB cs i && askB a b c.row && (getC cs c.row c.col t).2.1) := by
  unfold okScan
  rw [hc, getC_fine h1 h2, show (c.row.toList, c.col.toList) = rc c from rfl]
  cases (vis t cs).find? (isAt (rc c)) <;> rfl

theorem getC_code {cs : List Cl} {row col : ByteArray} {t : Int} (h1 : (checkC cs).1 = 0) (h2 : isNumB t = true) : (getC cs row col t).2.2 = (0, 0) := by
  rw [getC_ok h1 h2]

theorem getC_split {cs : List Cl} {row col : ByteArray} {t : Int} (h : (getC cs row col t).2.2 = (0, 0)) : ∃ gv gi, getC cs row col t = (gv, gi, (0, 0)) :=
  ⟨(getC cs row col t).1, (getC cs row col t).2.1, by rw [← h]⟩

theorem head_cases {cs : List Cl} {k : Nat} {c d : Cl} (hk : k ≠ 0) (hc : cs.getD k zeroC = c) (hd : cs.getD (k - 1) zeroC = d) :
    headB cs k = false ∧ (d.row.toList == c.row.toList) = true ∧ (d.col.toList == c.col.toList) = true ∨ headB cs k = true ∧ (d.row.toList == c.row.toList) = true ∧ (d.col.toList == c.col.toList) = false ∨ headB cs k = true ∧ (d.row.toList == c.row.toList) = false := by
  have hk0 : (k == 0) = false := by simp [hk]
  have e : headB cs k = !((d.row.toList == c.row.toList) && (d.col.toList == c.col.toList)) := by
    unfold headB
    rw [hd, hc, hk0]
    simp only [Bool.false_or, rc]
    rfl
  rw [e]
  cases (d.row.toList == c.row.toList) <;> cases (d.col.toList == c.col.toList) <;> simp

theorem ask_cases (a b row : ByteArray) : askB a b row = false ∧ Op.bytesLess row.toList a.toList = true ∨ askB a b row = true ∧ Op.bytesLess row.toList a.toList = false ∧ b.toList.isEmpty = true ∨ askB a b row = true ∧ Op.bytesLess row.toList a.toList = false ∧ b.toList.isEmpty = false ∧ Op.bytesLess row.toList b.toList = true ∨ askB a b row = false ∧ Op.bytesLess row.toList a.toList = false ∧ b.toList.isEmpty = false ∧ Op.bytesLess row.toList b.toList = false := by
  unfold askB
  cases Op.bytesLess row.toList a.toList <;> cases b.toList.isEmpty <;> cases Op.bytesLess row.toList b.toList <;> simp

theorem scan_count {cs : List Cl} {a b : ByteArray} {t m : Int} (h : (scanC cs a b t m).2.1 = 0) (hl : ((scanC cs a b t m).1.length : Int) ≠ m) : cntUp (okScan cs a b t) cs.length = (scanC cs a b t m).1.length := by
  obtain ⟨h1, _, h3, _, h5⟩ := scanC_fine h
  rw [cnt_all a b t h1, h5, List.length_take]
  rw [h5, List.length_take] at hl
  omega

end Go.Proofs.Ytlebbkbbmgmmjac
