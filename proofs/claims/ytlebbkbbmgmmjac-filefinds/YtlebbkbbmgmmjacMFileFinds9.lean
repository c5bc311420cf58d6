/-
  Texts joined: FileMath2, FileMath3, FileW10, CellB1, FileB, LawFFinds, Frame.
-/
import Derived.Test.YtlebbkbbmgmmjacMFileFinds8
import Derived.ProofKit
import Derived.OpenShut
import Derived.ShutString
import Derived.ChangeOld
import Derived.Below
import Derived.SliceStrings
import Derived.SizedLaws
import Derived.Deep.Slices
/-
  Files that are made: their frames, whole and torn: plain mathematics.
-/
namespace Go.Proofs.Ytlebbkbbmgmmjac
open Go.RowKit

theorem bodiesGo_flat : ∀ (l : List (List UInt8)) (f : Nat) (acc : List (List UInt8)) (tail : List UInt8), (∀ b ∈ l, b.length ≤ 65535) → l.length ≤ f → bodiesGo (f + 1) (flatF l ++ tail) acc = bodiesGo (f + 1 - l.length) tail (acc ++ l)
  | [], f, acc, tail, _, _ => by simp [flatF]
  | b :: l, 0, acc, tail, _, h => by simp at h
  | b :: l, f + 1, acc, tail, hb, hf => by
    have hne : flatF (b :: l) ++ tail ≠ [] := by
      intro e
      have := congrArg List.length e
      rw [flatF_cons, List.length_append, List.length_append, framed_length] at this
      simp at this
    have hfr : frameAt (flatF (b :: l) ++ tail) = some b := by
      rw [flatF_cons, List.append_assoc]
      exact frameAt_framed b _ (hb b (List.mem_cons_self ..))
    rw [bodiesGo_step hne hfr]
    have hd : (flatF (b :: l) ++ tail).drop (b.length + 6) = flatF l ++ tail := by
      rw [flatF_cons, List.append_assoc, ← framed_length b, List.drop_left]
    rw [hd, bodiesGo_flat l f _ tail (fun x hx => hb x (List.mem_cons_of_mem _ hx)) (by simpa using hf)]
    simp

theorem flatF_len : ∀ (l : List (List UInt8)), l.length ≤ (flatF l).length
  | [] => by simp
  | b :: l => by
    have := flatF_len l
    rw [flatF_cons, List.length_append, framed_length, List.length_cons]
    omega

theorem bodiesR_flat {l : List (List UInt8)} (hb : ∀ b ∈ l, b.length ≤ 65535) : bodiesR (flatF l) = some l := by
  have h := bodiesGo_flat l (flatF l).length [] [] hb (flatF_len l)
  rw [List.append_nil] at h
  rw [bodiesR, h]
  have := flatF_len l
  obtain ⟨m, hm⟩ : ∃ m, (flatF l).length + 1 - l.length = m + 1 := ⟨(flatF l).length - l.length, by omega⟩
  rw [hm, bodiesGo_end]
  simp

theorem unGo_flat : ∀ (l : List (List UInt8)) (f k : Nat) (acc : List (List UInt8)), (∀ b ∈ l, b.length ≤ 65535) → l.length ≤ f → (unGo (f + 1) (flatF l) acc k).1 = acc ++ l
  | [], f, k, acc, _, _ => by
    rw [unGo_end (by rfl)]
    simp
  | b :: l, 0, k, acc, _, h => by simp at h
  | b :: l, f + 1, k, acc, hb, hf => by
    have hfr : frameAt (flatF (b :: l)) = some b := by
      rw [flatF_cons]
      exact frameAt_framed b _ (hb b (List.mem_cons_self ..))
    have hd : (flatF (b :: l)).drop (b.length + 6) = flatF l := by rw [flatF_cons, ← framed_length b, List.drop_left]
    rw [unGo_step hfr, hd, unGo_flat l f _ _ (fun x hx => hb x (List.mem_cons_of_mem _ hx)) (by simpa using hf)]
    simp

theorem un_flat {l : List (List UInt8)} (hb : ∀ b ∈ l, b.length ≤ 65535) : (unGo ((flatF l).length + 1) (flatF l) [] 0).1 = l := by
  rw [unGo_flat l _ _ _ hb (flatF_len l)]
  rfl

/-- With one byte of a body or a sum another one there are not all frames. -/
theorem bodies_torn (l : List (List UInt8)) (i k : Nat) (tb : UInt8) (hb : ∀ b ∈ l, b.length ≤ 65535) (hk : k < l.length) (h2 : (flatF (l.take k)).length + 2 ≤ i) (h3 : i < (flatF (l.take k)).length + l[k].length + 6)
    (hne : (flatF l)[i]? ≠ some tb) : bodiesR ((flatF l).set i tb) = none := by
  have e0 : flatF l = flatF (l.take k) ++ (framed l[k] ++ flatF (l.drop (k + 1))) := by
    rw [← flatF_cons, ← drop_cons l k hk]
    exact flatF_split l k
  have hfl := framed_length l[k]
  have e : (flatF l).set i tb = flatF (l.take k) ++ ((framed l[k]).set (i - (flatF (l.take k)).length) tb ++ flatF (l.drop (k + 1))) := by
    rw [e0, List.set_append_right _ _ (by omega), List.set_append_left _ _ (by omega)]
  have hne' : (framed l[k])[i - (flatF (l.take k)).length]? ≠ some tb := by
    intro h
    apply hne
    rw [e0, List.getElem?_append_right (by omega), List.getElem?_append_left (by omega), h]
  have hfn := frameAt_set l[k] (flatF (l.drop (k + 1))) _ tb (hb _ (List.getElem_mem hk)) (by omega) (by omega) hne'
  have hlen : (flatF (l.take k)).length ≤ ((flatF l).set i tb).length := by rw [e, List.length_append]; omega
  have htl := flatF_len (l.take k)
  unfold bodiesR
  rw [e]
  rw [e] at hlen
  rw [bodiesGo_flat (l.take k) _ [] _ (fun b h => hb b (List.mem_of_mem_take h)) (by omega)]
  obtain ⟨m, hm⟩ : ∃ m, (flatF (l.take k) ++ ((framed l[k]).set (i - (flatF (l.take k)).length) tb ++ flatF (l.drop (k + 1)))).length + 1 - (l.take k).length = m + 1 := ⟨(flatF (l.take k) ++ ((framed l[k]).set (i - (flatF (l.take k)).length) tb ++ flatF (l.drop (k + 1)))).length - (l.take k).length, by omega⟩
  rw [hm]
  refine bodiesGo_bad ?_ hfn
  intro e2
  have := congrArg List.length e2
  rw [List.length_append, List.length_set, hfl] at this
  simp at this

/-- A file that is made, where there is no fault. -/
theorem makeF_ok {cs : List Cl} {size : Int} (h : (makeF cs size).2.1 = 0) : (checkC cs).1 = 0 ∧ cs.length ≤ 500 ∧ 50 ≤ size ∧ size ≤ 4000 ∧ makeF cs size = (flatF (fileBB cs size.toNat), (0, 0)) ∧ (flatF (fileBB cs size.toNat)).length ≤ 60000 := by
  by_cases hc : (checkC cs).1 = 0
  · by_cases h5 : 500 < cs.length
    · rw [makeF_many hc h5] at h
      simp at h
    · by_cases hs : size < 50 ∨ 4000 < size
      · rw [makeF_size hc h5 hs] at h
        simp at h
      · rw [makeF_go hc h5 hs] at h ⊢
        obtain ⟨_, h2, h3⟩ := framesR_zero h
        exact ⟨hc, by omega, by omega, by omega, by rw [h3], h2⟩
  · rw [makeF_bad hc] at h
    exact absurd h hc

end Go.Proofs.Ytlebbkbbmgmmjac

/-
  Files that are made are opened as they were: plain mathematics.
-/
namespace Go.Proofs.Ytlebbkbbmgmmjac
open Go.RowKit

theorem firstG_allz {f : Nat → Int} : ∀ (m i : Nat), (∀ j, i ≤ j → j < i + m → f j = 0) → firstG f m i = (0, 0)
  | 0, _, _ => rfl
  | m + 1, i, h => by
    rw [firstG, if_neg (by simp [h i (Nat.le_refl _) (by omega)])]
    exact firstG_allz m (i + 1) (fun j h1 h2 => h j (by omega) (by omega))

theorem check_of {cs : List Cl} (hl : cs.length ≤ 1000) (hc : ∀ c ∈ cs, codeC c = 0) (hp : cs.Pairwise Lt) : (checkC cs).1 = 0 := by
  unfold checkC faultR
  rw [if_neg (by omega), firstG_allz]
  intro j _ hj
  rw [Nat.zero_add] at hj
  obtain ⟨c, hcj⟩ : ∃ c, cs[j]? = some c := ⟨_, List.getElem?_eq_getElem hj⟩
  have h0 := hc c (List.mem_of_getElem? hcj)
  cases j with
  | zero => exact codeAt_first hcj h0
  | succ j =>
    obtain ⟨d, hd⟩ : ∃ d, cs[j]? = some d := ⟨_, List.getElem?_eq_getElem (by omega)⟩
    rw [codeAt_later hcj hd h0, if_neg]
    have h1 := List.pairwise_iff_getElem.1 hp j (j + 1) (by omega) hj (by omega)
    rw [(List.getElem?_eq_some_iff.1 hd).2, (List.getElem?_eq_some_iff.1 hcj).2] at h1
    have := ordC_neg.2 h1
    omega

theorem pw_flat : ∀ (L : List (List Cl)), L.flatten.Pairwise Lt → ∀ g ∈ L, g.Pairwise Lt
  | [], _, g, h => by simp at h
  | x :: L, hp, g, h => by
    rw [List.flatten_cons, List.pairwise_append] at hp
    rcases List.mem_cons.1 h with rfl | h
    · exact hp.1
    · exact pw_flat L hp.2.1 g h

/-- The rows with which blocks begin. -/
def headsB (gs : List (List Cl)) : List (List UInt8) := gs.map fun g => (headRow g).data.toList

theorem rix_index : ∀ (gs : List (List Cl)) (acc : List (List UInt8)), (∀ g ∈ gs, (headRow g).data.toList.length ≤ 1000000000 ∧ (flatC g).length ≤ 1000000000) → rixGo (indexB gs) (gs.map flatC) acc = some (acc ++ headsB gs)
  | [], acc, _ => by
    simp [indexB, headsB, rixGo]
  | g :: gs, acc, h => by
    obtain ⟨h1, h2⟩ := h g (List.mem_cons_self ..)
    have e : indexB (g :: gs) = txB (headRow g) ++ (encN (flatC g).length ++ indexB gs) := by simp [indexB, ixB]
    have t1 : textAt (indexB (g :: gs)) = some ((headRow g).data.toList, (txB (headRow g)).length) := by rw [e]; exact textAt_txB _ _ h1
    have e2 : (indexB (g :: gs)).drop (txB (headRow g)).length = encN (flatC g).length ++ indexB gs := by rw [e, List.drop_left]
    have t2 : numAt ((indexB (g :: gs)).drop (txB (headRow g)).length) = some ((flatC g).length, (encN (flatC g).length).length) := by rw [e2]; exact numAt_enc _ _ h2
    rw [List.map_cons, rixGo_ok t1 t2 rfl]
    have e3 : (indexB (g :: gs)).drop ((txB (headRow g)).length + (encN (flatC g).length).length) = indexB gs := by rw [← List.drop_drop, e2, List.drop_left]
    rw [e3, rix_index gs _ (fun x hx => h x (List.mem_cons_of_mem _ hx))]
    simp [headsB]

theorem rb_blocks : ∀ (gs : List (List Cl)) (acc : List Cl), (∀ g ∈ gs, g ≠ [] ∧ (checkC g).1 = 0 ∧ (flatC g).length ≤ 60000) → rbGo (gs.map flatC) (headsB gs) acc = some (acc ++ gs.flatten)
  | [], acc, _ => by simp [rbGo]
  | g :: gs, acc, h => by
    obtain ⟨hn, hc, hl⟩ := h g (List.mem_cons_self ..)
    have hr := read_write hc hl
    cases g with
    | nil => exact absurd rfl hn
    | cons c l =>
      rw [List.map_cons, headsB, List.map_cons, rbGo_ok (c := c) (l := l) (by rw [hr]) (by rw [hr]) (by rfl)]
      have ih := rb_blocks gs (acc ++ (c :: l)) (fun x hx => h x (List.mem_cons_of_mem _ hx))
      rw [headsB] at ih
      rw [List.tail_cons, ih]
      simp

/-- A file that is made is opened as it was. -/
theorem open_made {cs : List Cl} {m : Nat} (hck : (checkC cs).1 = 0) (hl : cs.length ≤ 500) (h6 : (flatF (fileBB cs m)).length ≤ 60000) : openF (flatF (fileBB cs m)) = ((cs, headsB (chunks m cs), filtB cs), (0, 0)) := by
  have hb : ∀ b ∈ fileBB cs m, b.length + 6 ≤ 60000 := fun b hb => by have := flatF_mem hb; omega
  have hcode : ∀ c ∈ cs, codeC c = 0 := fun c h => fine_code hck h
  have hpw := fine_pw hck
  have hfl := chunks_flat m cs
  have hg : ∀ g ∈ chunks m cs, g ≠ [] ∧ (checkC g).1 = 0 ∧ (flatC g).length ≤ 60000 := fun g hg => by
    refine ⟨chunkGo_ne m cs [] g hg, check_of ?_ (fun c hc => hcode c (chunk_mem hg hc)) (pw_flat _ (by rw [hfl]; exact hpw) g hg), ?_⟩
    · have : g.length ≤ cs.length := by
        rw [← hfl]
        exact List.Sublist.length_le (List.sublist_flatten_of_mem hg)
      omega
    · have := hb (flatC g) (by unfold fileBB; exact List.mem_append_left _ (List.mem_map_of_mem hg))
      omega
  have hfn : filtB cs ≠ [] := by
    intro e
    have := filtB_len cs
    rw [e] at this
    have := filtN_pos cs
    simp at *
    omega
  have hbb : fileBB cs m = (chunks m cs).map flatC ++ [indexB (chunks m cs), filtB cs] := rfl
  have hlen : (fileBB cs m).length = (chunks m cs).length + 2 := by rw [hbb]; simp
  have hp : piecesR (flatF (fileBB cs m)) = some ((chunks m cs).map flatC, indexB (chunks m cs), filtB cs) := by
    rw [piecesR_of (bodiesR_flat (fun b h => by have := hb b h; omega))]
    have e1 : (fileBB cs m).getD ((fileBB cs m).length - 1) [] = filtB cs := by
      rw [hlen, hbb, List.getD_eq_getElem?_getD, List.getElem?_append_right (by simp)]
      simp
    have e2 : (fileBB cs m).getD ((fileBB cs m).length - 2) [] = indexB (chunks m cs) := by
      rw [hlen, hbb, List.getD_eq_getElem?_getD, List.getElem?_append_right (by simp)]
      simp
    have e3 : (fileBB cs m).take ((fileBB cs m).length - 2) = (chunks m cs).map flatC := by
      rw [hlen, hbb, List.take_append_of_le_length (by simp), Nat.add_sub_cancel]
      exact List.take_of_length_le (by simp)
    rw [piecesB_ok (by omega) (by rw [e1]; exact hfn), e1, e2, e3]
  have hr := rix_index (chunks m cs) [] (fun g h => ⟨by
    obtain ⟨hn, _⟩ := hg g h
    cases g with
    | nil => exact absurd rfl hn
    | cons c l =>
      have := (codeC_parts (hcode c (chunk_mem h (List.mem_cons_self ..)))).2.1
      show c.row.data.toList.length ≤ 1000000000
      omega, by have := (hg g h).2.2; omega⟩)
  rw [List.nil_append] at hr
  have hB : rbR ((chunks m cs).map flatC) (headsB (chunks m cs)) = some cs := by
    unfold rbR
    rw [rb_blocks _ _ hg, List.nil_append, hfl]
    simp only
    rw [if_pos hl, if_pos hck]
  exact openF_ok (by omega) hp hr hB rfl

/-- What Find comes to. -/
def findF (bs : List UInt8) (row col : ByteArray) (t : Int) : ByteArray × Bool × (Int × Int) :=
  if (openF bs).2.1 ≠ 0 then (⟨#[]⟩, false, (openF bs).2)
  else if (getC (openF bs).1.1 row col t).2.2.1 ≠ 0 then (⟨#[]⟩, false, (getC (openF bs).1.1 row col t).2.2)
  else if hasB (openF bs).1.2.2 row.data.toList = false then (⟨#[]⟩, false, (getC (openF bs).1.1 row col t).2.2)
  else ((getC (openF bs).1.1 row col t).1, (getC (openF bs).1.1 row col t).2.1, (0, 0))

theorem getC_zero {cs : List Cl} {row col : ByteArray} {t : Int} (h : (getC cs row col t).2.2.1 = 0) : (getC cs row col t).2.2 = (0, 0) ∧ (checkC cs).1 = 0 ∧ isNumB t = true := by
  unfold getC at h ⊢
  by_cases hc : (checkC cs).1 = 0
  · rw [if_neg (by omega)] at h ⊢
    by_cases hn : isNumB t = false
    · rw [if_pos hn] at h
      simp at h
    · rw [if_neg hn]
      exact ⟨rfl, hc, by simpa using hn⟩
  · rw [if_pos hc] at h
    exact absurd h hc

/-- No row is missed. -/
theorem find_get {cs : List Cl} {m : Nat} {row col : ByteArray} {t : Int} (hck : (checkC cs).1 = 0) (hl : cs.length ≤ 500) (h6 : (flatF (fileBB cs m)).length ≤ 60000) : findF (flatF (fileBB cs m)) row col t = getC cs row col t := by
  have ho := open_made hck hl h6
  unfold findF
  rw [ho]
  simp only
  rw [if_neg (by simp)]
  by_cases hg : (getC cs row col t).2.2.1 = 0
  · obtain ⟨hz, _, hn⟩ := getC_zero hg
    rw [if_neg (by omega)]
    by_cases hh : hasB (filtB cs) row.data.toList = false
    · rw [if_pos hh]
      have hno : ∀ c ∈ cs, c.row.data.toList ≠ row.data.toList := fun c hc e => by
        have := has_mem hc
        rw [e, hh] at this
        cases this
      have hgc : getC cs row col t = (⟨#[]⟩, false, (0, 0)) := by
        unfold getC
        rw [if_neg (by omega), if_neg (by rw [hn]; decide), getGo_eq]
        have hnone : (visGo t zeroC cs).find? (isAt (row.toList, col.toList)) = none := by
          rw [List.find?_eq_none]
          intro c hc
          have hcs := (visGo_sub t cs zeroC).subset hc
          intro hat
          have := isAt_iff.1 hat
          unfold rc at this
          simp only [Prod.mk.injEq] at this
          exact hno c hcs (by rw [← ba_list, ← ba_list]; exact this.1)
        rw [hnone]
      rw [hgc]
    · rw [if_neg hh]
      generalize getC cs row col t = G at *
      obtain ⟨a, b, c⟩ := G
      simp only at hz ⊢
      rw [hz]
  · rw [if_pos hg]
    unfold getC at hg ⊢
    rw [if_neg (by omega)] at hg ⊢
    by_cases hn : isNumB t = false
    · rw [if_pos hn]
    · rw [if_neg hn] at hg
      simp at hg

end Go.Proofs.Ytlebbkbbmgmmjac

/-
  The walks over file.May and file.Find, of files that are opened without a fault.
-/
namespace Go.Proofs.Ytlebbkbbmgmmjac
open Go.RowKit

theorem Bk.setO9 {w : World} {B : Nat} {t : TypeId} {xs : Array Value} (h : Bk w B t xs) {p : Addr} (hne : B ≠ p.block) (u : Value) : Bk (w.setCell p u) B t xs := by
  unfold Bk
  rw [heap_setCell_other w p _ u hne]
  exact h

set_option maxRecDepth 100000 in
set_option maxHeartbeats 1000000 in
theorem May_ok (v : Value) (bs : List UInt8) (row : ByteArray) (w : World) (cs : List Cl) (rows : List (List UInt8)) (bits : List UInt8) (hO : openF bs = ((cs, rows, bits), (0, 0))) (hrd : Rd w v (bc bs)) (hrow : row.size ≤ 9223372036854775807) (hn1 : 0 < bits.length) (hn2 : bits.length ≤ 1000000) :
    Calls Try.prog 20 #[v, .string row] w fun e w' => e = .returned (.tuple #[.bool (hasB bits row.data.toList), fltC (0, 0)]) ∧ Below w.heap.size w w' := by
  obtain ⟨ao, cap, hv, hc1, hc2⟩ := hrd.shape
  rw [bc_length] at hc1 hv
  subst hv
  have hR0 := Bk.new w 26 #[.int .i64 0, .int .i64 0]
  have hop := opened_any _ bs _ (hrd.alloc (.cells #[.int .i64 0, .int .i64 0] 26))
  rw [hO] at hop
  have HOP := hide hop
  clear hop hO
  go_enter Try.func20, Try.ntmps20
  go_wp2_with fail
  refine HOP.out.mono ?_
  rintro e w1 ⟨o1, n1, c1, o2, n2, c2, o3, n3, c3, rfl, _, _, hF, hb1⟩
  have hR1 := hR0.below hb1 (by simp)
  have hbw1 : Below w.heap.size w w1 := (below_alloc' _ _).trans (hb1.mono (by simp))
  clear hR0 hb1
  unfold fltC
  simp only at hF ⊢
  have hbT := below_alloc' w1 (.cells #[.slice o1 n1 c1, .slice o2 n2 c2, .slice o3 n3 c3] 91)
  have hbF := below_alloc' (w1.alloc (.cells #[.slice o1 n1 c1, .slice o2 n2 c2, .slice o3 n3 c3] 91)) (.cells #[.int .i64 0, .int .i64 0] 26)
  have hbA := hbT.trans (hbF.mono (by simp))
  have hRA := hR1.below hbA hR1.lt
  have hFA := hF.below hbA
  have hbwA := hbw1.trans (hbA.mono hbw1.size)
  clear hbT hbF hR1 hF
  go_wp2_with fail
  generalize (w1.alloc (.cells #[.slice o1 n1 c1, .slice o2 n2 c2, .slice o3 n3 c3] 91)).alloc (.cells #[.int .i64 0, .int .i64 0] 26) = wA at *
  refine (has_any _ bits row _ hFA hn1 hn2 hrow).mono ?_
  rintro e w2 ⟨rfl, hb2⟩
  have hR2 := hRA.below hb2 hRA.lt
  have hbw2 := hbwA.trans (hb2.mono hbwA.size)
  have r0 := hR2.cell 0
  have r1 := hR2.cell 1
  have r2 := hR2.frozen 0
  have r3 := hR2.frozen 1
  have hlt := hR2.lt
  simp at r0 r1
  go_wp2_with fail
  exact bodyPost_ret (v := .tuple #[.bool (hasB bits row.data.toList), fltC (0, 0)]) (by simp [results, Try.results20, go_sem, fltC, r0, r1]) rfl ⟨rfl, by go_grown⟩

set_option maxRecDepth 100000 in
set_option maxHeartbeats 1000000 in
theorem blocksToRead_any (v : Value) (rows : List (List UInt8)) (row : ByteArray) (w : World) (hR : Rd w v (sc rows)) :
    Calls Try.prog 58 #[v, .string row] w fun e w' => (∃ n : Int, e = .returned (.int .i64 n)) ∧ w' = w := by
  obtain ⟨ro, rcap, hrv, he1, he2, hrcell⟩ := hR.open
  rw [sc_length] at hrv he1 hrcell
  subst hrv
  unfold maxLen at he2
  go_enter Try.func58, Try.ntmps58
  go_wp2_with fail
  go_loopw [5, 6, 11] (fun a b i wr => ∃ x y k : Nat, k ≤ rows.length ∧ x ≤ k ∧ y ≤ k ∧ a = .int .i64 x ∧ b = .int .i64 y ∧ i = .int .i64 k ∧ wr = w) (fun _ _ i _ => rows.length - (intOf i).toNat)
  case atStart => exact ⟨0, 0, 0, by omega, by omega, by omega, rfl, rfl, rfl, rfl⟩
  case round =>
    obtain ⟨x, y, k, hk, hx, hy, rfl, rfl, rfl, rfl⟩ := hrel
    by_cases hlt : k < rows.length
    · obtain ⟨b, off, rfl, hb, hcl⟩ := hrcell k hlt
      have hck : wr.cell? ⟨b, off + k, none⟩ = some (.string ⟨rows[k].toArray⟩) := hcl k _ (by simp [sc, hlt])
      generalize rows[k] = r at *
      clear hrcell hcl
      go_wp2_with fail
      all_goals
        go_roundw
        case rel => first | exact ⟨x + 1, y + 1, k + 1, by omega, by omega, by omega, by go_num, by go_num, by go_num, by first | rfl | trivial⟩ | exact ⟨x, y + 1, k + 1, by omega, by omega, by omega, by go_num, by go_num, by go_num, by first | rfl | trivial⟩ | exact ⟨x + 1, y, k + 1, by omega, by omega, by omega, by go_num, by go_num, by go_num, by first | rfl | trivial⟩ | exact ⟨x, y, k + 1, by omega, by omega, by omega, by go_num, by go_num, by go_num, by first | rfl | trivial⟩
        case measure => simp [intOf]; omega
    · have hsp : (x : Int) - 1 < 0 ∨ 0 ≤ (x : Int) - 1 := by omega
      rcases hsp with h1 | h1
      all_goals
        go_wp2_with fail
        go_ret
        exact ⟨⟨_, rfl⟩, rfl⟩

set_option maxRecDepth 100000 in
set_option maxHeartbeats 2000000 in
theorem Find_ok (v : Value) (bs : List UInt8) (row col : ByteArray) (t : Int) (w : World) (cs : List Cl) (rows : List (List UInt8)) (bits : List UInt8) (hO : openF bs = ((cs, rows, bits), (0, 0))) (hrd : Rd w v (bc bs)) (hrow : row.size ≤ 9223372036854775807) (hn1 : 0 < bits.length) (hn2 : bits.length ≤ 1000000) :
    Calls Try.prog 21 #[v, .string row, .string col, .int .i64 t] w fun e w' => ∃ n : Int, e = .returned (.tuple #[.string (findF bs row col t).1, .bool (findF bs row col t).2.1, .int .i64 n, fltC (findF bs row col t).2.2]) ∧ Below w.heap.size w w' := by
  obtain ⟨ao, cap, hv, hc1, hc2⟩ := hrd.shape
  rw [bc_length] at hc1 hv
  subst hv
  have hR0 := Bk.new w 26 #[.int .i64 0, .int .i64 0]
  have hop := opened_any _ bs _ (hrd.alloc (.cells #[.int .i64 0, .int .i64 0] 26))
  have hff : findF bs row col t = if (getC cs row col t).2.2.1 ≠ 0 then (⟨#[]⟩, false, (getC cs row col t).2.2) else if hasB bits row.data.toList = false then (⟨#[]⟩, false, (getC cs row col t).2.2) else ((getC cs row col t).1, (getC cs row col t).2.1, (0, 0)) := by
    unfold findF
    rw [hO]
    simp
  rw [hO] at hop
  have HOP := hide hop
  have HFF := hide hff
  clear hop hO hff
  go_enter Try.func21, Try.ntmps21
  go_wp2_with fail
  refine HOP.out.mono ?_
  rintro e w1 ⟨o1, n1, c1, o2, n2, c2, o3, n3, c3, rfl, hC, hR, hF, hb1⟩
  have hR1 := hR0.below hb1 (by simp)
  have hbw1 : Below w.heap.size w w1 := (below_alloc' _ _).trans (hb1.mono (by simp))
  clear hR0 hb1
  unfold fltC
  simp only at hC hR hF ⊢
  have hbT := below_alloc' w1 (.cells #[.slice o1 n1 c1, .slice o2 n2 c2, .slice o3 n3 c3] 91)
  have hbF := below_alloc' (w1.alloc (.cells #[.slice o1 n1 c1, .slice o2 n2 c2, .slice o3 n3 c3] 91)) (.cells #[.int .i64 0, .int .i64 0] 26)
  have hbA := hbT.trans (hbF.mono (by simp))
  have hTA := (Bk.new w1 91 #[.slice o1 n1 c1, .slice o2 n2 c2, .slice o3 n3 c3]).below hbF (by simp)
  have hFB := Bk.new2 w1 (.cells #[.slice o1 n1 c1, .slice o2 n2 c2, .slice o3 n3 c3] 91) 26 #[.int .i64 0, .int .i64 0]
  have hRA := hR1.below hbA hR1.lt
  have hCA := hC.below hbA
  have hRrA := hR.below hbA
  have hFA := hF.below hbA
  have hbwA := hbw1.trans (hbA.mono hbw1.size)
  have hlR := hR1.lt
  clear hbT hbF hR1 hF hC hR
  go_wp2_with fail
  generalize (w1.alloc (.cells #[.slice o1 n1 c1, .slice o2 n2 c2, .slice o3 n3 c3] 91)).alloc (.cells #[.int .i64 0, .int .i64 0] 26) = wA at *
  have hzT : w.heap.size < w1.heap.size := hlR
  generalize w1.heap.size = zT at *
  have hzF : zT + 1 = zT + 1 := rfl
  generalize hzFe : zT + 1 = zF at *
  have hTF : zT ≠ zF := by omega
  have hRF : w.heap.size ≠ zF := by omega
  have hwF : w.heap.size ≤ zF := by omega
  clear hzF hzFe
  refine (Get_any _ cs row col t _ hCA).mono ?_
  rintro e w2 ⟨rfl, hb2⟩
  have hT2 := hTA.below hb2 hTA.lt
  have hF2 := hFB.below hb2 hFB.lt
  have hR2 := hRA.below hb2 hRA.lt
  have hRr2 := hRrA.below hb2
  have hFl2 := hFA.below hb2
  have hbw2 := hbwA.trans (hb2.mono hbwA.size)
  have hgz := @getC_zero cs row col t
  generalize hG : getC cs row col t = G at *
  obtain ⟨val, is, x, y⟩ := G
  have HGZ : Hid (x = 0 → y = 0) := hide (fun h => by have := (hgz h).1; simp at this; exact this.2)
  clear hG hgz
  simp only at HFF ⊢
  unfold fltC
  have f0 := hF2.cell 0
  have f1 := hF2.cell 1
  have f2 := hF2.frozen 0
  have f3 := hF2.frozen 1
  have hl2 := hF2.lt
  simp at f0 f1
  have hT3 : Bk ((w2.setCell ⟨zF, 0, none⟩ (.int .i64 x)).setCell ⟨zF, 1, none⟩ (.int .i64 y)) zT 91 #[.slice o1 n1 c1, .slice o2 n2 c2, .slice o3 n3 c3] := (hT2.setO9 (by exact hTF) _).setO9 (by exact hTF) _
  have hR3 : Bk ((w2.setCell ⟨zF, 0, none⟩ (.int .i64 x)).setCell ⟨zF, 1, none⟩ (.int .i64 y)) w.heap.size 26 #[.int .i64 0, .int .i64 0] := (hR2.setO9 (by exact hRF) _).setO9 (by exact hRF) _
  have hF3 : Bk ((w2.setCell ⟨zF, 0, none⟩ (.int .i64 x)).setCell ⟨zF, 1, none⟩ (.int .i64 y)) zF 26 #[.int .i64 x, .int .i64 y] := (hF2.set 0 _).set 1 _
  have nF := hFl2.notIn hF2 (fun u hu h => by simp only [bc, List.mem_map] at hu; obtain ⟨s, _, rfl⟩ := hu; simp at h)
  have nR := hRr2.notIn hF2 (fun u hu h => by simp only [sc, List.mem_map] at hu; obtain ⟨s, _, rfl⟩ := hu; simp at h)
  have hg3 := grownT_trans (grownT_set w2 zF 0 (.int .i64 x)) (grownT_set _ zF 1 (.int .i64 y))
  have hFl3 := hFl2.grownT hg3 nF
  have hRr3 := hRr2.grownT hg3 nR
  have hbw3 : Below w.heap.size w ((w2.setCell ⟨zF, 0, none⟩ (.int .i64 x)).setCell ⟨zF, 1, none⟩ (.int .i64 y)) := (hbw2.setCell (by exact hwF) _).setCell (by exact hwF) _
  clear hTA hFB hRA hCA hRrA hFA hbwA hT2 hR2 hRr2 hFl2 hg3 nF nR hb2
  go_upto_region 5 with fail
  generalize (w2.setCell ⟨zF, 0, none⟩ (.int .i64 x)).setCell ⟨zF, 1, none⟩ (.int .i64 y) = w3 at *
  clear f0 f1 f2 f3 hF2 hl2
  have f0 := hF3.cell 0
  have f1 := hF3.cell 1
  have t1 := hT3.cell 1
  have t2 := hT3.cell 2
  have r0 := hR3.cell 0
  have r1 := hR3.cell 1
  have r2 := hR3.frozen 0
  have r3 := hR3.frozen 1
  have hlt := hR3.lt
  simp at f0 f1 t1 t2 r0 r1
  by_cases hx : x = 0
  · have hy := HGZ.out hx
    subst hx hy
    rw [if_neg (by simp)] at HFF
    go_wp2_with fail
    refine (has_any _ bits row _ hFl3 hn1 hn2 hrow).mono ?_
    rintro e w4 ⟨rfl, hb4⟩
    have hF4 := hF3.below hb4 hF3.lt
    have hT4 := hT3.below hb4 hT3.lt
    have hR4 := hR3.below hb4 hR3.lt
    have hRr4 := hRr3.below hb4
    have hbw4 := hbw3.trans (hb4.mono hbw3.size)
    clear f0 f1 t1 t2 r0 r1 r2 r3 hlt
    have f0 := hF4.cell 0
    have f1 := hF4.cell 1
    have t1 := hT4.cell 1
    have r0 := hR4.cell 0
    have r1 := hR4.cell 1
    have r2 := hR4.frozen 0
    have r3 := hR4.frozen 1
    have hlt := hR4.lt
    simp at f0 f1 t1 r0 r1
    cases hh : hasB bits row.data.toList
    · rw [if_pos hh] at HFF
      go_wp2_with fail
      go_region
      all_goals
        go_wp2_with fail
        exact bodyPost_ret (v := .tuple #[.string ⟨#[]⟩, .bool false, .int .i64 0, fltC (0, 0)]) (by simp [results, Try.results21, go_sem, fltC, r0, r1]) rfl ⟨0, by rw [HFF.out], by go_grown⟩
    · rw [if_neg (by rw [hh]; decide)] at HFF
      go_wp2_with fail
      refine (blocksToRead_any _ rows row _ hRr4).mono ?_
      rintro e w5 ⟨⟨n, rfl⟩, rfl⟩
      go_wp2_with fail
      exact bodyPost_ret (v := .tuple #[.string val, .bool is, .int .i64 n, fltC (0, 0)]) (by simp [results, Try.results21, go_sem, fltC, r0, r1]) rfl ⟨n, by rw [HFF.out], by go_grown⟩
  · have hxb : (x == 0) = false := beq_eq_false_iff_ne.2 hx
    have HX := hide hx
    rw [if_pos hx] at HFF
    clear hx
    go_wp2_with fail
    go_region
    all_goals
      go_wp2_with fail
      exact bodyPost_ret (v := .tuple #[.string ⟨#[]⟩, .bool false, .int .i64 0, fltC (x, y)]) (by simp [results, Try.results21, go_sem, fltC, r0, r1]) rfl ⟨0, by rw [HFF.out], by go_grown⟩

end Go.Proofs.Ytlebbkbbmgmmjac

/-
  The walks beneath the laws of cells: the example, copies.
-/
namespace Go.Proofs.Ytlebbkbbmgmmjac
open Go.RowKit

def verC : List Cl := [⟨⟨#[114]⟩, ⟨#[99]⟩, 2, false, ⟨#[98]⟩⟩, ⟨⟨#[114]⟩, ⟨#[99]⟩, 1, false, ⟨#[97]⟩⟩]

set_option maxRecDepth 100000 in
set_option maxHeartbeats 400000 in
theorem versions_any (w : World) : Calls Try.prog 44 #[] w fun e w' => ∃ v', e = .returned v' ∧ RdC w' v' verC ∧ Below w.heap.size w w' := by
  go_enter Try.func44, Try.ntmps44
  go_wp2_with fail
  go_ret
  refine ⟨_, rfl, ?_, by go_grown⟩
  refine ⟨some ⟨w.heap.size, 0, none⟩, 2, rfl, by decide, by decide, (fun h => by cases h), fun a ha j v hv => ?_⟩
  cases ha
  rw [Addr.add_lit, Nat.zero_add, ← hv]
  refine ((Bk.new w 53 _).cell j).trans ?_
  simp [cc, cv, verC]

theorem getC_ver1 : getC verC ⟨#[114]⟩ ⟨#[99]⟩ 1 = (⟨#[97]⟩, true, (0, 0)) := by decide +kernel
theorem getC_ver0 : getC verC ⟨#[114]⟩ ⟨#[99]⟩ 0 = (⟨#[]⟩, false, (0, 0)) := by decide +kernel


set_option maxRecDepth 100000 in
set_option maxHeartbeats 400000 in
theorem ownCells_any (v : Value) (cs : List Cl) (w : World) (hv : RdC w v cs) (hl : cs.length ≤ 1000000) :
    Calls Try.prog 11 #[v] w fun e w' => ∃ v', e = .returned v' ∧ RdC w' v' cs ∧ Below w.heap.size w w' ∧ New w.heap.size v' := by
  obtain ⟨ao, cap, hvv, hc1, hc2⟩ := hv.shape
  subst hvv
  have hl2 : 0 + cs.length ≤ 1000000000 := by omega
  go_enter Try.func11, Try.ntmps11
  go_wp2_with (at_builtin; go_must (refine wpList_append_rdC (cs := []) (World.ownsRow_nil w w.heap.size 53 5) hv Try.underlying22 Try.info53 rfl rfl rfl rfl rfl hl2 (by decide) (Nat.le_refl _) ?_); intro v1 w1 ho1 hb1 hg1; clear hg1)
  go_ret
  exact ⟨_, rfl, RdC.ofOwns ho1, hb1, New.owns ho1⟩

def manyB (n : Int) : Bool := decide (150 < n ∧ n < 1000 ∨ 2000 < n)


end Go.Proofs.Ytlebbkbbmgmmjac

/-
  The walk over what the laws of files begin with.
-/
namespace Go.Proofs.Ytlebbkbbmgmmjac
open Go.RowKit

/-- 'append(out, xs...)' behind a guard that holds. -/
theorem wpList_append_rdW {P : Program} {w : World} {ops : Array Oper} {rest : List Oper} {o : Oper} {a : Act} {Q : Exit → Act → World → Prop} {s x : Operand} {t : TypeId} {base : Nat} {e : TypeId} {z : Value} {bytes : Nat}
    {v : Value} {n : Nat} {xs : List Value} {vx : Value} {news : List Value}
    (hown : w.ownsRow base e 1 v n xs) (hrd : Rd w vx news)
    (ht : P.underlying t = some (.slice e)) (hinf : (P.info? e).map (fun i => (i.zero, i.size, i.bytes)) = some (some z, 1, bytes)) (hzs : z.cells.size = 1)
    (hw : Region.wanted o (yielded ops a.tmps) = true) (ho : o.op = .call { callee := .builtin .append, args := #[s, x], argTypes := #[t, t] })
    (hs : a.eval s = v) (hx : a.eval x = vx) (h1 : ∀ u ∈ news, u.oneCell' = true)
    (h63 : n + news.length ≤ 2000000000000) (hbytes : bytes ≤ 64) (hbase : base ≤ w.heap.size)
    (h : ∀ v' w', w'.ownsRow base e 1 v' (n + news.length) (xs ++ news) → Below base w w' → wpList P ops Q rest (a.put o.dst v') w') : wpList P ops Q (o :: rest) a w := by
  refine wpList_step fun K hK => ?_
  rw [if_pos hw]
  obtain ⟨v', w', hr, h2, h3, h4⟩ := run_append_rd (ty := o.type) hown hrd ht hinf hzs h1 h63 hbytes hbase
  unfold Oper.wp execOp
  simp only [ho, resolve, invoke, builtin, Sem.run_bind, Sem.run_pure, Result.andThen_ok, List.map_toArray, List.map_cons, List.map_nil, hs, hx, hr]
  exact hK _ _ (h v' w' h2 h3)

theorem make_nil : makeF [] 50 = (framed [] ++ framed [0], (0, 0)) := by decide +kernel
theorem make_ver : (makeF verC 50).2 = (0, 0) ∧ (openF (makeF verC 50).1).2 = (0, 0) ∧ (openF (makeF verC 50).1).1.1.length = 2 := by decide +kernel

set_option maxRecDepth 100000 in
set_option maxHeartbeats 1000000 in
theorem fileBegun_any (w : World) : Calls Try.prog 9 #[] w fun e w' => e = .returned (.bool true) ∧ Below w.heap.size w w' := by
  obtain ⟨hm1, hm2, hm3⟩ := make_ver
  have HM3 := hide hm3
  go_enter Try.func9, Try.ntmps9
  go_wp2_with fail
  refine (Make_any _ [] 50 _ (RdC.nil _)).mono ?_
  rintro e w1 ⟨v1, rfl, hr1, hb1, _⟩
  rw [make_nil] at hr1 ⊢
  simp only at hr1 ⊢
  obtain ⟨o1, c1, hv1, _, _⟩ := hr1.shape
  subst hv1
  unfold fltC
  have hA1 := Bk.new w1 26 #[.int .i64 0, .int .i64 0]
  have hbA : Below w.heap.size w (w1.alloc (.cells #[.int .i64 0, .int .i64 0] 26)) := hb1.alloc hb1.size _
  have hrA := hr1.alloc (.cells #[.int .i64 0, .int .i64 0] 26)
  go_wp2_with fail
  generalize w1.alloc (.cells #[.int .i64 0, .int .i64 0] 26) = wA at *
  generalize w1.heap.size = zA at *
  refine (versions_any _).mono ?_
  rintro e w2 ⟨v2, rfl, hr2, hb2⟩
  go_wp2_with fail
  refine (Make_any _ verC 50 _ hr2).mono ?_
  rintro e w3 ⟨v3, rfl, hr3, hb3, _⟩
  rw [hm1]
  unfold fltC
  generalize hX : (makeF verC 50).1 = X at *
  obtain ⟨o3, c3, hv3, _, _⟩ := hr3.shape
  subst hv3
  have hb23 : Below wA.heap.size wA w3 := hb2.trans (hb3.mono hb2.size)
  have hA3 := hA1.below hb23 hA1.lt
  have hr13 := hrA.below hb23
  have hbw3 : Below w.heap.size w w3 := hbA.trans (hb23.mono hbA.size)
  have hB3 := Bk.new w3 26 #[.int .i64 0, .int .i64 0]
  have hA4 := hA3.below (below_alloc' w3 (.cells #[.int .i64 0, .int .i64 0] 26)) hA3.lt
  have hr14 := hr13.alloc (.cells #[.int .i64 0, .int .i64 0] 26)
  have hr34 := hr3.alloc (.cells #[.int .i64 0, .int .i64 0] 26)
  have hbw4 : Below w.heap.size w (w3.alloc (.cells #[.int .i64 0, .int .i64 0] 26)) := hbw3.alloc hbw3.size _
  clear hb2 hb3 hr2 hA1 hrA hb1 hbA hb23 hA3 hr13 hr3 hr1
  go_wp2_with fail
  generalize w3.alloc (.cells #[.int .i64 0, .int .i64 0] 26) = wB at *
  generalize w3.heap.size = zB at *
  refine (FOpen_any _ X _ hr34).mono ?_
  rintro e w5 ⟨v5, rfl, hr5, hb5⟩
  rw [hm2]
  unfold fltC
  obtain ⟨o5, c5, hv5, _, _⟩ := hr5.shape
  rw [HM3.out] at hv5
  subst hv5
  have hA5 := (hA4.below hb5 hA4.lt).below (below_alloc' w5 (.cells #[.int .i64 0, .int .i64 0] 26)) (hA4.below hb5 hA4.lt).lt
  have hB5 := (hB3.below hb5 hB3.lt).below (below_alloc' w5 (.cells #[.int .i64 0, .int .i64 0] 26)) (hB3.below hb5 hB3.lt).lt
  have hr15 := (hr14.below hb5).alloc (.cells #[.int .i64 0, .int .i64 0] 26)
  have hbw5 : Below w.heap.size w (w5.alloc (.cells #[.int .i64 0, .int .i64 0] 26)) := (hbw4.trans (hb5.mono hbw4.size)).alloc (by have := hb5.size; have := hbw4.size; omega) _
  have a0 := hA5.cell 0
  have b0 := hB5.cell 0
  simp at a0 b0
  clear hA4 hB3 hr14 hr34 hbw4 hr5 hb5 hm1 hm2 hm3 hX
  go_wp2_with fail
  refine (Framed_own _ [] _ (Rd.nil _) (by simp)).mono ?_
  rintro e w6 ⟨v6, rfl, ho6, hb6⟩
  go_wp2_with fail
  have hlit : Rd (w6.alloc (.cells #[.int .u8 0] 5)) (.slice (some ⟨w6.heap.size, 0, none⟩) 1 1) (bc [0]) := Rd.new w6 (.int .u8 0) 5
  refine (Framed_own _ [0] _ hlit (by simp)).mono ?_
  rintro e w7 ⟨v7, rfl, ho7, hb7⟩
  have hb67 : Below w6.heap.size w6 w7 := (below_alloc' w6 _).trans (hb7.mono (by simp))
  have ho67 := owns_below ho6 hb67
  have hl6 : (framed []).length = 6 := framed_length []
  have hl7 : (framed [0]).length = 7 := framed_length [0]
  have hr7 := Rd.ofOwns ho7
  obtain ⟨o7, c7, hv7⟩ := owns_shape ho7
  subst hv7
  generalize w5.alloc (.cells #[.int .i64 0, .int .i64 0] 26) = wC at *
  have hbC7 : Below wC.heap.size wC w7 := hb6.trans (hb67.mono hb6.size)
  have hz7 := hbC7.size
  go_wp2_with (at_builtin; go_must (refine wpList_append_rdW ho67 hr7 Try.underlying24 Try.info5 rfl rfl rfl rfl rfl (bc_one _) (by rw [bc_length, hl6, hl7]; omega) (by decide) hz7 ?_); intro v8 w8 ho8 hb8)
  rw [← bc_append, bc_length, ← List.length_append] at ho8
  have hbC8 := hbC7.trans hb8
  refine (Same_any _ _ (framed [] ++ framed [0]) (framed [] ++ framed [0]) _ (hr15.below hbC8) (Rd.ofOwns ho8)).mono ?_
  rintro e w9 ⟨rfl, rfl⟩
  go_wp2_with fail
  go_ret
  exact ⟨by simp, hbw5.trans (hbC8.mono hbw5.size)⟩

end Go.Proofs.Ytlebbkbbmgmmjac

/-
  The walk over the law FileFinds.
-/
namespace Go.Proofs.Ytlebbkbbmgmmjac
open Go.RowKit

theorem make_50 {cs : List Cl} (h : (checkC cs).1 = 0) (hl : cs.length ≤ 500) : (makeF cs 50).2.1 = 0 ∨ (makeF cs 50).2.1 = 9 := by
  rw [makeF_go h (by omega) (by omega)]
  have hb : ¬ 1000 < (fileBB cs (50 : Int).toNat).length := by
    unfold fileBB
    have := chunks_len (50 : Int).toNat cs
    simp at this ⊢
    omega
  by_cases h6 : 60000 < (flatF (fileBB cs (50 : Int).toNat)).length
  · right
    rw [framesR_much hb h6]
  · left
    rw [framesR_ok hb h6]

theorem filtB_le {cs : List Cl} (hl : cs.length ≤ 500) : 0 < (filtB cs).length ∧ (filtB cs).length ≤ 1000000 := by
  rw [filtB_len]
  refine ⟨filtN_pos cs, ?_⟩
  have := rowsGo_len cs none
  unfold filtN rowsU
  omega

set_option maxRecDepth 100000 in
set_option maxHeartbeats 4000000 in
theorem fileFinds_any (v : Value) (size t : Int) (cs : List Cl) (row col : ByteArray) (w : World) (hv : RdC w v cs) (_hsize : -9223372036854775808 ≤ size ∧ size ≤ 9223372036854775807) (_ht : -9223372036854775808 ≤ t ∧ t ≤ 9223372036854775807) (hrow : row.size ≤ 9223372036854775807) :
    Calls Try.prog 5 #[v, .int .i64 size, .string row, .string col, .int .i64 t] w fun e w' => e = .returned (.bool true) ∧ Below w.heap.size w w' := by
  obtain ⟨ao, cap, hvv, hc1, hc2⟩ := hv.shape
  subst hvv
  unfold maxLen at hc2
  go_enter Try.func5, Try.ntmps5
  go_wp2_with fail
  refine (fileBegun_any _).mono ?_
  rintro e w1 ⟨rfl, hb1⟩
  by_cases h60 : 150 < cs.length
  · have h60' : (150 : Int) < (cs.length : Int) := by omega
    go_wp2_with fail
    go_ret
    exact ⟨rfl, hb1⟩
  have h60' : (cs.length : Int) ≤ 150 := by omega
  go_wp2_with fail
  refine (Make_any _ cs size _ (hv.below hb1)).mono ?_
  rintro e w2 ⟨v2, rfl, hr2, hb2, _⟩
  have hbw2 : Below w.heap.size w w2 := hb1.trans (hb2.mono hb1.size)
  have hok := @makeF_ok cs size
  generalize hMF : makeF cs size = MF at *
  obtain ⟨X, fx, fy⟩ := MF
  simp only at hr2 hok ⊢
  unfold fltC
  obtain ⟨xo, xcap, hvx, hx1, hx2⟩ := hr2.shape
  rw [bc_length] at hvx hx1
  subst hvx
  clear hMF
  by_cases hfx : fx = 0
  case neg =>
    have hfb : (fx != 0) = true := by simp [hfx]
    clear hok
    go_wp2_with fail
    go_ret
    exact ⟨rfl, hbw2.alloc hbw2.size _⟩
  subst hfx
  obtain ⟨hck, hl5, _, _, hXe, hX6⟩ := hok rfl
  simp only [Prod.mk.injEq, true_and] at hXe
  obtain ⟨hXe, rfl⟩ := hXe
  have hop := open_made hck hl5 hX6
  have hfg := fun (m : Nat) h6 => @find_get cs m row col t hck hl5 h6
  have HF1 : Hid (findF X row col t = getC cs row col t) := hide (by rw [hXe]; exact hfg _ hX6)
  rw [← hXe] at hop
  have HOP := hide hop
  have HFG := hide hfg
  have HCK := hide hck
  obtain ⟨hn1, hn2⟩ := filtB_le hl5
  have hrA := hr2.alloc (.cells #[.int .i64 0, .int .i64 0] 26)
  have hbwA : Below w.heap.size w (w2.alloc (.cells #[.int .i64 0, .int .i64 0] 26)) := hbw2.alloc hbw2.size _
  have HCODE : Hid (∀ c ∈ cs, codeC c = 0) := hide (fun c h => fine_code hck h)
  clear hop hfg hXe hX6 hok hck
  go_wp2_with fail
  generalize w2.alloc (.cells #[.int .i64 0, .int .i64 0] 26) = wA at *
  go_loopw [13] (fun i wr => ∃ k : Nat, k ≤ cs.length ∧ i = .int .i64 k ∧ Below wA.heap.size wA wr) (fun i _ => cs.length - (intOf i).toNat)
  case atStart => exact ⟨0, by omega, rfl, Below.refl _ _⟩
  case round =>
    obtain ⟨k, hk, rfl, hbel⟩ := hrel
    have hbwr : Below w.heap.size w wr := hbwA.trans (hbel.mono hbwA.size)
    have hXr := hrA.below hbel
    have hszr := hbel.size
    by_cases hlt : k < cs.length
    · obtain ⟨c, hc⟩ : ∃ c, cs[k]? = some c := ⟨_, List.getElem?_eq_getElem hlt⟩
      have hmem := List.mem_of_getElem? hc
      obtain ⟨b, off, rfl, hbb, hat⟩ := hv.hereD hc
      obtain ⟨c0, c1, c2, c3, c4⟩ := hat.below hbwr
      have hk1 : (0 : Int) ≤ (k : Int) := by omega
      have hk2 : (k : Int) < (cs.length : Int) := by omega
      have hhas := has_mem hmem
      have hrl : c.row.size ≤ 9223372036854775807 := by rw [ba_size]; have := (codeC_parts (HCODE.out c hmem)).2.1; omega
      clear hat hc
      go_wp2_with fail
      refine (May_ok _ X c.row _ cs _ _ HOP.out hXr hrl hn1 hn2).mono ?_
      rintro e w3 ⟨rfl, hb3⟩
      rw [hhas]
      unfold fltC
      have hb4 : Below wA.heap.size wA (w3.alloc (.cells #[.int .i64 0, .int .i64 0] 26)) := (hbel.trans (hb3.mono hszr)).alloc (by have := hb3.size; omega) _
      clear c0 c1 c2 c3 c4
      go_wp2_with fail
      go_roundw
      case rel => exact ⟨k + 1, by omega, by go_num, hb4⟩
      case measure => simp [intOf]; omega
    · go_wp2_with fail
      refine (Find_ok _ X row col t _ cs _ _ HOP.out hXr hrow hn1 hn2).mono ?_
      rintro e w3 ⟨n, rfl, hb3⟩
      rw [HF1.out]
      have hgz := @getC_zero cs row col t
      have hg0 := Get_any _ cs row col t (w3.alloc (.cells #[.int .i64 (getC cs row col t).2.2.1, .int .i64 (getC cs row col t).2.2.2] 26)) ((hv.below (hbwr.trans (hb3.mono hbwr.size))).alloc _)
      generalize hG : getC cs row col t = G at *
      obtain ⟨val, is, x, y⟩ := G
      have HGZ : Hid (x = 0 → y = 0) := hide (fun h => by have := (hgz h).1; simp at this; exact this.2)
      have HG := hide hG
      simp only at hg0 ⊢
      have HG0 := hide hg0
      clear hgz hG hg0
      have hbw3 : Below w.heap.size w w3 := hbwr.trans (hb3.mono hbwr.size)
      have hP3 := Bk.new w3 26 #[.int .i64 x, .int .i64 y]
      have hbw4 : Below w.heap.size w (w3.alloc (.cells #[.int .i64 x, .int .i64 y] 26)) := hbw3.alloc hbw3.size _
      unfold fltC
      simp only
      go_wp2_with fail
      refine HG0.out.mono ?_
      rintro e w5 ⟨rfl, hb5⟩
      have hP5 := hP3.below hb5 hP3.lt
      have hbw5 := hbw4.trans (hb5.mono hbw4.size)
      clear HG0 hP3 hbw4 hb5 hXr hbel
      unfold fltC
      simp only
      have hQ6 := Bk.new w5 26 #[.int .i64 x, .int .i64 y]
      have hP6 := hP5.below (below_alloc' w5 (.cells #[.int .i64 x, .int .i64 y] 26)) hP5.lt
      have hbw6 : Below w.heap.size w (w5.alloc (.cells #[.int .i64 x, .int .i64 y] 26)) := hbw5.alloc hbw5.size _
      have hzP := hP5.lt
      have p0 := hP6.cell 0
      have p1 := hP6.cell 1
      simp at p0 p1
      by_cases hx : x = 0
      · have hy := HGZ.out hx
        subst hx hy
        go_wp2_with fail
        generalize w5.alloc (.cells #[.int .i64 0, .int .i64 0] 26) = w6 at *
        refine (Make_any _ cs 50 _ (hv.below hbw6)).mono ?_
        rintro e w7 ⟨v7, rfl, hr7, hb7, _⟩
        have hbw7 := hbw6.trans (hb7.mono hbw6.size)
        have hok := @makeF_ok cs 50
        have h09 := make_50 HCK.out hl5
        generalize hMF : makeF cs 50 = MF at *
        obtain ⟨Y, gx, gy⟩ := MF
        simp only at hr7 hok h09 ⊢
        unfold fltC
        obtain ⟨yo, ycap, hvy, _, _⟩ := hr7.shape
        rw [bc_length] at hvy
        subst hvy
        clear hMF
        rcases h09 with rfl | rfl
        · obtain ⟨_, _, _, _, hYe, hY6⟩ := hok rfl
          simp only [Prod.mk.injEq, true_and] at hYe
          obtain ⟨hYe, rfl⟩ := hYe
          have HF2 : Hid (findF Y row col t = (val, is, 0, 0)) := hide (by rw [hYe]; exact HFG.out _ hY6)
          have hop2 := open_made HCK.out hl5 hY6
          rw [← hYe] at hop2
          have HOP2 := hide hop2
          have hr8 := hr7.alloc (.cells #[.int .i64 0, .int .i64 0] 26)
          have hbw8 : Below w.heap.size w (w7.alloc (.cells #[.int .i64 0, .int .i64 0] 26)) := hbw7.alloc hbw7.size _
          clear hop2 hYe hY6 hok
          go_wp2_with fail
          refine (Find_ok _ Y row col t _ cs _ _ HOP2.out hr8 hrow hn1 hn2).mono ?_
          rintro e w9 ⟨n9, rfl, hb9⟩
          rw [HF2.out]
          unfold fltC
          simp only
          have hbw9 := hbw8.trans (hb9.mono hbw8.size)
          go_wp2_with fail
          go_ret
          exact ⟨by simp, hbw9.alloc hbw9.size _⟩
        · clear hok
          go_wp2_with fail
          go_ret
          exact ⟨by simp, hbw7.alloc hbw7.size _⟩
      · have hxb : (x != 0) = true := by simp [hx]
        go_wp2_with fail
        go_ret
        exact ⟨by simp, hbw6⟩

end Go.Proofs.Ytlebbkbbmgmmjac

/-
  From the arguments as the row reads them to what the walks ask of them. Nothing of a program stands here.
-/
namespace Go.Proofs.Ytlebbkbbmgmmjac
open Go.ChangeShapes Go.WideShapes Go.ChangeAt Go.RowKit

section
variable {H : Type} {enc : TypeId × Value → H} {P : Program} {W : World}

theorem rd_of_cells {w : World} {a : Addr} {len cap : Nat} {xs : List Value} (hl : xs.length = len) (h1 : len ≤ cap) (h2 : cap ≤ maxLen) (h : ∀ i, i < len → w.cell? (a.add i) = xs[i]?) : Rd w (.slice (some a) len cap) xs := by
  refine ⟨some a, cap, by rw [hl], by omega, h2, (fun h => by cases h), fun b hb j u hu => ?_⟩
  cases hb
  rw [h j (by have := (List.getElem?_eq_some_iff.1 hu).1; omega), hu]

theorem open_ic {t e : TypeId} {a : Option Addr} {len cap : Nat} {d : DataW H} {ps : List MemPlace} (ht : P.underlying t = some (.slice e)) (he : P.underlying e = some (.int .i64)) (hc : P.cellsOf e = 1)
    (h : DataW.Trod enc P W 0 (fun _ => true) true t (.slice a len cap) d ps) : ∃ zs : List Int, Rd W (.slice a len cap) (ic zs) := by
  obtain ⟨fuel, hf⟩ := h
  rcases open_ints ht he hc hf with ⟨hcs, _⟩ | ⟨x, l, c, zs, hcs, _, hl, hm, hz, _, hcell, hwz⟩
  · simp [Value.cells] at hcs
    obtain ⟨rfl, rfl, rfl⟩ := hcs
    exact ⟨[], Rd.nil _⟩
  · simp [Value.cells] at hcs
    obtain ⟨rfl, rfl, rfl⟩ := hcs
    simp at hz
    refine ⟨zs.take len, rd_of_cells (by rw [ic_length, List.length_take]; omega) hl hm fun i hi => ?_⟩
    rw [hcell i (by omega)]
    simp [ic, List.getD, hi, show i < zs.length by omega]

theorem open_bc {t e : TypeId} {a : Option Addr} {len cap fuel : Nat} {d : DataW H} {ps : List MemPlace} (ht : P.underlying t = some (.slice e)) (he : P.underlying e = some (.int .u8)) (hc : P.cellsOf e = 1)
    (hf : DataW.trod enc P W 0 (fun _ => true) true fuel t [.slice a len cap] = some (d, ps)) : ∃ bs : List UInt8, Rd W (.slice a len cap) (bc bs) := by
  rcases open_ints ht he hc hf with ⟨hcs, _⟩ | ⟨x, l, c, zs, hcs, _, hl, hm, hz, _, hcell, hwz⟩
  · simp at hcs
    obtain ⟨rfl, rfl, rfl⟩ := hcs
    exact ⟨[], Rd.nil _⟩
  · simp at hcs
    obtain ⟨rfl, rfl, rfl⟩ := hcs
    simp at hz
    refine ⟨(zs.take len).map fun n => UInt8.ofNat n.toNat, rd_of_cells (by rw [bc_length, List.length_map, List.length_take]; omega) hl hm fun i hi => ?_⟩
    rw [hcell i (by omega)]
    have hi' : i < zs.length := by omega
    have hb := bounds_u8 (hwz zs[i] (List.getElem_mem hi'))
    have e : ((UInt8.ofNat zs[i].toNat).toNat : Int) = zs[i] := by
      simp only [UInt8.toNat_ofNat']
      omega
    simp only [bc, List.getElem?_map, List.getElem?_take, if_pos hi, List.getElem?_eq_getElem hi', Option.map_some, List.getD, Option.getD_some, e]

theorem open_bc' {t e : TypeId} {a : Option Addr} {len cap : Nat} {d : DataW H} {ps : List MemPlace} (ht : P.underlying t = some (.slice e)) (he : P.underlying e = some (.int .u8)) (hc : P.cellsOf e = 1)
    (h : DataW.Trod enc P W 0 (fun _ => true) true t (.slice a len cap) d ps) : ∃ bs : List UInt8, Rd W (.slice a len cap) (bc bs) := by
  obtain ⟨fuel, hf⟩ := h
  exact open_bc ht he hc (by simpa [Value.cells] using hf)

theorem weightsAll_mem {e : TypeId} : ∀ {l : List (DataW H)} {d : DataW H} {n : Nat}, d ∈ l → n ∈ d.weights P e → n ∈ DataW.weightsAll P e l
  | x :: l, d, n, hd, hn => by
    simp only [DataW.weightsAll, List.mem_append]
    rcases List.mem_cons.1 hd with rfl | hd
    · exact .inl hn
    · exact .inr (weightsAll_mem hd hn)

/-- A list of texts; none is longer than the form's reach. -/
theorem open_sc {t e : TypeId} {a : Option Addr} {len cap : Nat} {d : DataW H} {ps : List MemPlace} (ht : P.underlying t = some (.slice e)) (he : P.underlying e = some .string) (hc : P.cellsOf e = 1)
    (h : DataW.Trod enc P W 0 (fun _ => true) true t (.slice a len cap) d ps) (hw : ∀ n ∈ d.weights P t, n ≤ reachBytes) : ∃ ss : List (List UInt8), Rd W (.slice a len cap) (sc ss) ∧ ∀ s ∈ ss, s.length ≤ 140737488351232 := by
  obtain ⟨fuel, hf⟩ := h
  rcases open_strings ht he hc hf with ⟨hcs, _⟩ | ⟨x, l, c, zs, hcs, _, hl, hm, hz, hx, hcell, hwz⟩
  · simp [Value.cells] at hcs
    obtain ⟨rfl, rfl, rfl⟩ := hcs
    exact ⟨[], Rd.nil _, by simp⟩
  · simp [Value.cells] at hcs
    obtain ⟨rfl, rfl, rfl⟩ := hcs
    simp at hz
    simp only [Prod.mk.injEq] at hx
    obtain ⟨rfl, _⟩ := hx
    refine ⟨(zs.take len).map fun s => s.data.toList, rd_of_cells (by rw [sc_length, List.length_map, List.length_take]; omega) hl hm fun i hi => ?_, fun s hs => ?_⟩
    · rw [hcell i (by omega)]
      have hi' : i < zs.length := by omega
      simp only [sc, List.getElem?_map, List.getElem?_take, if_pos hi, List.getElem?_eq_getElem hi', Option.map_some, List.getD, Option.getD_some, Array.toArray_toList]
    · obtain ⟨y, hy, rfl⟩ := List.mem_map.1 hs
      have := hw y.data.toList.length (by
        simp only [DataW.weights, ht, List.mem_cons, List.mem_append]
        refine .inr (.inl (weightsAll_mem (d := .lit (.string y.data.toList)) (List.mem_map.2 ⟨y, hy, rfl⟩) ?_))
        simp [DataW.weights])
      simpa [reachBytes] using this

end
end Go.Proofs.Ytlebbkbbmgmmjac
