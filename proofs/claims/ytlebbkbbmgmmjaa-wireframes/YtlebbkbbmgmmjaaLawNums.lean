/-
  The law WireNums: its walk.
-/
import Derived.Test.YtlebbkbbmgmmjaaLawNums1
namespace Go.Proofs.Ytlebbkbbmgmmjaa
open Go.RowKit

/-- The fault alone. -/
def numsFlt : List Int → Nat → Int × Int
  | [], _ => (0, 0)
  | z :: zs, k => if z < 0 ∨ 1000000000 < z then (3, (k : Int)) else numsFlt zs (k + 1)

theorem numsFlt_go : ∀ (zs : List Int) (k : Nat) (acc : List UInt8), (numsGo zs k acc).2 = numsFlt zs k
  | [], _, _ => rfl
  | z :: zs, k, acc => by
    rw [numsGo, numsFlt]
    split
    · rfl
    · exact numsFlt_go zs (k + 1) _

theorem numsR_big {zs : List Int} (h : 1000 < zs.length) : numsR zs = ([], 2, 0) := by rw [numsR, if_pos h]
theorem numsR_small {zs : List Int} (h : ¬ 1000 < zs.length) : (numsR zs).2 = numsFlt zs 0 := by rw [numsR, if_neg h, numsFlt_go]
theorem numsR_ok {zs : List Int} (h : (numsR zs).2.1 = 0) : zs.length ≤ 1000 ∧ (∀ z ∈ zs, okNum z) ∧ numsR zs = (flat zs, 0, 0) := by
  by_cases hb : 1000 < zs.length
  · rw [numsR_big hb] at h; simp at h
  · unfold numsR at h ⊢
    rw [if_neg hb] at h ⊢
    have hok := numsGo_ok zs 0 [] h
    exact ⟨by omega, hok, by rw [numsGo_of zs 0 [] hok]; simp⟩

theorem numsGo_none : ∀ (zs : List Int) (k : Nat) (acc : List UInt8), (numsGo zs k acc).2.1 ≠ 0 → (numsGo zs k acc).1 = []
  | [], _, _, h => by simp [numsGo] at h
  | z :: zs, k, acc, h => by
    rw [numsGo] at h ⊢
    split at h
    · rename_i hb; rw [if_pos hb]
    · rename_i hb; rw [if_neg hb]; exact numsGo_none zs _ _ h

theorem numsR_none {zs : List Int} (h : (numsR zs).2.1 ≠ 0) : (numsR zs).1 = [] := by
  unfold numsR at h ⊢
  split at h
  · rename_i hb; rw [if_pos hb]
  · rename_i hb; rw [if_neg hb]; exact numsGo_none zs _ _ h

theorem rd_ref : ∀ (f : Nat) (bs : List UInt8) (acc : List Int), bs.length ≤ f →
    rdNums (f + 1) bs acc = if 0 ≤ (refNums (f + 1) bs acc).2 then ([], 5, (refNums (f + 1) bs acc).2) else if 1000 < (refNums (f + 1) bs acc).1.length then ([], 2, 0) else ((refNums (f + 1) bs acc).1, 0, 0)
  | f, [], acc, _ => by
    rw [refNums_end]
    by_cases h : 1000 < acc.length
    · rw [rdNums_many h]; simp [h]
    · rw [rdNums_end (by omega)]; simp [h]
  | 0, b :: bs, acc, hf => by simp at hf
  | f + 1, b :: bs, acc, hf => by
    cases hn : numAt (b :: bs) with
    | none =>
      rw [rdNums_bad (by simp) hn, refNums_bad (by simp) hn]
      simp
    | some p =>
      obtain ⟨n, k⟩ := p
      have hl := numAt_len hn
      rw [rdNums_step (by simp) hn, refNums_step (by simp) hn]
      exact rd_ref f _ _ (by rw [List.length_drop]; omega)

theorem readNums_ref {bs : List UInt8} (h : ¬ 60000 < bs.length) :
    readNumsR bs = if 0 ≤ (refNums (bs.length + 1) bs []).2 then ([], 5, (refNums (bs.length + 1) bs []).2) else if 1000 < (refNums (bs.length + 1) bs []).1.length then ([], 2, 0) else ((refNums (bs.length + 1) bs []).1, 0, 0) := by
  rw [readNumsR, if_neg h]
  exact rd_ref _ _ _ (Nat.le_refl _)

theorem readNums_big {bs : List UInt8} (h : 60000 < bs.length) : readNumsR bs = ([], 8, 0) := by rw [readNumsR, if_pos h]

theorem Rd.lt {w : World} {v : Value} {xs : List Value} (h : Rd w v xs) : ∀ a l c, v = .slice (some a) l c → 0 < xs.length → a.block < w.heap.size := by
  intro a l c e hp
  subst e
  exact h.block_lt hp

/-- A block of two numbers. -/
def Fb (w : World) (B : Nat) (c a : Int) : Prop := w.heap[B]? = some (.cells #[.int .i64 c, .int .i64 a] 26 (0, 0))
theorem Fb.facts {w : World} {B : Nat} {c a : Int} (h : Fb w B c a) : w.cell? ⟨B, 0, none⟩ = some (.int .i64 c) ∧ w.cell? ⟨B, 1, none⟩ = some (.int .i64 a) ∧ w.frozen? ⟨B, 0, none⟩ = false ∧ w.frozen? ⟨B, 1, none⟩ = false ∧ B < w.heap.size := by
  refine ⟨?_, ?_, frozen_of_row _ _ _ _ _ h, frozen_of_row _ _ _ _ _ h, (Array.getElem?_eq_some_iff.1 h).1⟩
  · rw [cell_of_row _ _ _ _ _ _ h]; rfl
  · rw [cell_of_row _ _ _ _ _ _ h]; rfl

theorem Fb.below {w w' : World} {B : Nat} {c a : Int} (h : Fb w B c a) (hb : Below w.heap.size w w') : Fb w' B c a := by
  unfold Fb
  rw [hb.block _ h.facts.2.2.2.2]
  exact h

theorem Fb.grown {w w' : World} {B R : Nat} {c a : Int} (h : Fb w B c a) (hg : w.grownBy w' (some R)) (hR : B ≠ R) : Fb w' B c a := by
  unfold Fb
  rw [hg.block _ h.facts.2.2.2.2 (by simpa using hR)]
  exact h

theorem Fb.new (w : World) (c a : Int) : Fb (w.alloc (.cells #[.int .i64 c, .int .i64 a] 26)) w.heap.size c a := heap_alloc_new _ _
theorem Fb.set {w : World} {B : Nat} {c a : Int} (h : Fb w B c a) (c' a' : Int) : Fb ((w.setCell ⟨B, 0, none⟩ (.int .i64 c')).setCell ⟨B, 1, none⟩ (.int .i64 a')) B c' a' := by
  unfold Fb
  rw [heap_setCell_same _ B 1 #[.int .i64 c', .int .i64 a] _ (.int .i64 a')]
  · rfl
  · rw [heap_setCell_same _ B 0 _ _ (.int .i64 c') h]
    rfl

theorem grown_set_alloc (w : World) (o : Obj) (B : Nat) (x y : Value) : w.grownBy (((w.setCell ⟨B, 0, none⟩ x).setCell ⟨B, 1, none⟩ y).alloc o) (some B) :=
  World.grownBy.trans (World.grownBy.trans (grown_set _ B 0 x) (grown_set _ B 1 y)) (World.grownBy_alloc _ o (some B))

theorem Fb.set_alloc {w : World} {B : Nat} {c a : Int} (h : Fb w B c a) (c' a' : Int) (o : Obj) : Fb (((w.setCell ⟨B, 0, none⟩ (.int .i64 c')).setCell ⟨B, 1, none⟩ (.int .i64 a')).alloc o) B c' a' :=
  (h.set c' a').below ((Below.refl _ _).alloc (Nat.le_refl _) o)

theorem numsFlt_end (zs : List Int) (k : Nat) (h : zs.length ≤ k) : numsFlt (zs.drop k) k = (0, 0) := by
  rw [List.drop_eq_nil_of_le h, numsFlt]

theorem numsFlt_bad (zs : List Int) (k : Nat) (h : k < zs.length) (h1 : zs[k] < 0 ∨ 1000000000 < zs[k]) : numsFlt (zs.drop k) k = (3, (k : Int)) := by
  rw [drop_cons zs k h, numsFlt, if_pos h1]

theorem numsFlt_step (zs : List Int) (k : Nat) (h : k < zs.length) (h1 : 0 ≤ zs[k]) (h2 : zs[k] ≤ 1000000000) : numsFlt (zs.drop k) k = numsFlt (zs.drop (k + 1)) (k + 1) := by
  rw [drop_cons zs k h, numsFlt, if_neg (by omega)]

set_option maxRecDepth 100000 in
set_option maxHeartbeats 1000000 in
theorem wireNums_any (u x : Value) (zs : List Int) (bs : List UInt8) (w : World) (h1 : Rd w u (ic zs)) (h2 : Rd w x (bc bs)) :
    Calls Try.prog 3 #[u, x] w fun e w' => e = .returned (.bool true) ∧ Below w.heap.size w w' := by
  obtain ⟨ao, cap, hu, hc1, hc2, hcell⟩ := h1.open
  obtain ⟨bo, cbp, hx, hd1, hd2, _⟩ := h2.open
  rw [ic_length] at hc1 hu hcell
  rw [bc_length] at hd1 hx
  subst hu hx
  unfold maxLen at hc2 hd2
  go_enter Try.func3, Try.ntmps3
  go_wp2_with fail
  refine (wireBegun_any _).mono ?_
  rintro e w1 ⟨rfl, hb1⟩
  have hLB : w1.cell? ⟨w.heap.size, 0, none⟩ = some (.slice ao zs.length cap) := cell_below (by simp) hb1
  have hbw1 : Below w.heap.size w w1 := ((Below.refl _ _).alloc (Nat.le_refl _) _).trans (hb1.mono (by simp))
  have hsz1 := hb1.size
  simp only [World.size_alloc] at hsz1
  by_cases hg1 : 3000 < zs.length
  · go_wp2_with fail
    go_ret
    exact ⟨rfl, hbw1⟩
  by_cases hg2 : 100000 < bs.length
  · go_wp2_with fail
    go_ret
    exact ⟨rfl, hbw1⟩
  go_wp2_with fail
  refine (own_any _ zs _ (h1.below hbw1) (by omega)).mono ?_
  rintro e w2 ⟨v2, rfl, hr2, hb2, _⟩
  go_wp2_with fail
  refine (Nums_any _ zs _ hr2).mono ?_
  rintro e w3 ⟨v3, rfl, hr3, hb3, hn3⟩
  have hb3' : Below w1.heap.size w1 w3 := hb2.trans (hb3.mono hb2.size)
  have hLB3 := cell_below hLB hb3'
  have hbw3 : Below w.heap.size w w3 := hbw1.trans (hb3'.mono (by omega))
  have hsz3 := hb3'.size
  generalize hN : numsR zs = N at hr3 ⊢
  obtain ⟨nb, nc, na⟩ := N
  have HN := hide hN
  clear hN hb2 hr2 hb3 hLB hb3'
  simp only [flt] at hr3 ⊢
  go_wp2_with fail
  have hbA : Below w3.heap.size w3 (w3.alloc (.cells #[.int .i64 nc, .int .i64 na] 26)) := (Below.refl _ _).alloc (Nat.le_refl _) _
  refine (ownBytes_any _ bs _ ((h2.below hbw3).alloc _) (by omega)).mono ?_
  rintro e w4 ⟨v4, rfl, hr4, hb4, _⟩
  go_wp2_with fail
  refine (ReadNums_any _ bs _ hr4).mono ?_
  rintro e w5 ⟨v5, rfl, hr5, hb5, hn5⟩
  have hsz4 := hb4.size
  have hsz5 := hb5.size
  simp only [World.size_alloc] at hsz4
  have hb5' : Below (w3.alloc (.cells #[.int .i64 nc, .int .i64 na] 26)).heap.size (w3.alloc (.cells #[.int .i64 nc, .int .i64 na] 26)) w5 := hb4.trans (hb5.mono hb4.size)
  have hX5 := (Fb.new w3 nc na).below hb5'
  have hb53 : Below w3.heap.size w3 w5 := hbA.trans (hb5'.mono (by simp))
  have hLB5 := cell_below hLB3 hb53
  have hr35 := hr3.below hb53
  have hbw5 : Below w.heap.size w w5 := hbw3.trans (hb53.mono (by omega))
  generalize hM : readNumsR bs = M at hr5 ⊢
  obtain ⟨rb, rc, ra⟩ := M
  have HM := hide hM
  have hLs : w.heap.size < w5.heap.size := by omega
  have hLne : w.heap.size ≠ w5.heap.size + 1 := by omega
  have hXs : w3.heap.size < w5.heap.size := by omega
  clear hM hb4 hr4 hb5 hb5' hr3 hLB3 hb53
  simp only [flt] at hr5 ⊢
  go_upto_if 38 with fail
  have hB0 := Fb.new (w5.alloc (.cells #[.int .i64 rc, .int .i64 ra] 26)) 0 0
  simp only [World.size_alloc] at hB0
  have hbB : Below w5.heap.size w5 ((w5.alloc (.cells #[.int .i64 rc, .int .i64 ra] 26)).alloc (.cells #[.int .i64 0, .int .i64 0] 26)) := ((Below.refl _ _).alloc (Nat.le_refl _) _).alloc (by simp) _
  have hGB : Fb ((w5.alloc (.cells #[.int .i64 rc, .int .i64 ra] 26)).alloc (.cells #[.int .i64 0, .int .i64 0] 26)) w5.heap.size rc ra := (Fb.new w5 rc ra).below ((Below.refl _ _).alloc (Nat.le_refl _) _)
  have hLBB := cell_below hLB5 hbB
  have hr35lt := hr35.lt
  have hr5lt := hr5.lt
  have hXB := hX5.below hbB
  have hr3B := hr35.below hbB
  have hr5B := hr5.below hbB
  have hbwB := hbw5.trans (hbB.mono (by omega))
  have hszB : w5.heap.size + 2 ≤ ((w5.alloc (.cells #[.int .i64 rc, .int .i64 ra] 26)).alloc (.cells #[.int .i64 0, .int .i64 0] 26)).heap.size := by simp
  generalize (w5.alloc (.cells #[.int .i64 rc, .int .i64 ra] 26)).alloc (.cells #[.int .i64 0, .int .i64 0] 26) = wB at *
  clear hbB hLB5 hX5 hr35 hr5 hbw5
  go_cut [] (fun wc => wB.grownBy wc (some (w5.heap.size + 1)) ∧ Fb wc (w5.heap.size + 1) (if 1000 < zs.length then 2 else 0) 0)
  case first =>
    obtain ⟨b0, b1, f0, f1, bs0⟩ := hB0.facts
    by_cases hbig : 1000 < zs.length
    · go_wp2_with fail
      refine (F_any 2 0 _).mono ?_
      rintro e w6 ⟨rfl, rfl⟩
      simp only [flt]
      go_wp2_with fail
      go_meet
      case rel => exact ⟨grown_set_alloc _ _ _ _ _, by rw [if_pos hbig]; exact hB0.set_alloc 2 0 _⟩
    · go_wp2_with fail
      go_meet
      case rel => exact ⟨World.grownBy.refl _ _, by rw [if_neg hbig]; exact hB0⟩
  case rest =>
    obtain ⟨hgr, hFw⟩ := hcut
    rename World => wC
    go_upto_block 0 with fail
    go_cut [10] (fun _ wc => wB.grownBy wc (some (w5.heap.size + 1)) ∧ Fb wc (w5.heap.size + 1) nc na)
    case first =>
      go_wp2_with fail
      go_loopw [10] (fun i wr => ∃ (k : Nat) (c a : Int), k ≤ zs.length ∧ i = .int .i64 k ∧ wB.grownBy wr (some (w5.heap.size + 1)) ∧ Fb wr (w5.heap.size + 1) c a ∧ ((c = 0 ∧ a = 0 ∧ numsFlt (zs.drop k) k = (nc, na)) ∨ (c ≠ 0 ∧ c = nc ∧ a = na))) (fun i _ => zs.length - (intOf i).toNat)
      case atStart =>
        by_cases hbig : 1000 < zs.length
        · refine ⟨0, 2, 0, by omega, rfl, hgr, by rw [if_pos hbig] at hFw; exact hFw, .inr ⟨by decide, ?_⟩⟩
          have := HN.out
          rw [numsR_big hbig] at this
          simp only [Prod.mk.injEq] at this
          exact ⟨this.2.1, this.2.2⟩
        · refine ⟨0, 0, 0, by omega, rfl, hgr, by rw [if_neg hbig] at hFw; exact hFw, .inl ⟨rfl, rfl, ?_⟩⟩
          rw [List.drop_zero, ← numsR_small hbig, HN.out]
      case round =>
        obtain ⟨k, c, a, hk, rfl, hgr', hFr, hor⟩ := hrel
        obtain ⟨b0, b1, f0, f1, bs0⟩ := hFr.facts
        have hLr : wr.cell? ⟨w.heap.size, 0, none⟩ = some (.slice ao zs.length cap) := hgr'.cell hLBB (by simp; omega)
        rcases hor with ⟨rfl, rfl, hfl⟩ | ⟨hc0, hcn, han⟩
        · have HFl := hide hfl
          clear hfl
          by_cases hlt : k < zs.length
          · obtain ⟨b, off, rfl, hb, hcl⟩ := hcell k hlt
            have hck : wr.cell? ⟨b, off + k, none⟩ = some (.int .i64 zs[k]) := by
              refine hgr'.cell ?_ (by simp; omega)
              rw [hbwB.cell (by exact hb)]
              exact hcl k _ (by simp [ic, hlt])
            clear hcell hcl
            have hbad := numsFlt_bad zs k hlt
            have hstep := numsFlt_step zs k hlt
            generalize zs[k] = z at *
            by_cases hz1 : z < 0
            · have HB := hide (hbad (by omega))
              clear hbad hstep
              go_wp2_with fail
              refine (F_any 3 k _).mono ?_
              rintro e w6 ⟨rfl, rfl⟩
              simp only [flt]
              go_wp2_with fail
              go_roundw
              case rel => exact ⟨k + 1, 3, k, by omega, by go_num, World.grownBy.trans hgr' (grown_set_alloc _ _ _ _ _), hFr.set_alloc 3 k _, .inr ⟨by decide, by have := HFl.out; rw [HB.out] at this; simp only [Prod.mk.injEq] at this; exact this.1, by have := HFl.out; rw [HB.out] at this; simp only [Prod.mk.injEq] at this; exact this.2⟩⟩
              case measure => simp [intOf]; omega
            · by_cases hz2 : 1000000000 < z
              · have HB := hide (hbad (by omega))
                clear hbad hstep
                go_wp2_with fail
                refine (F_any 3 k _).mono ?_
                rintro e w6 ⟨rfl, rfl⟩
                simp only [flt]
                go_wp2_with fail
                go_roundw
                case rel => exact ⟨k + 1, 3, k, by omega, by go_num, World.grownBy.trans hgr' (grown_set_alloc _ _ _ _ _), hFr.set_alloc 3 k _, .inr ⟨by decide, by have := HFl.out; rw [HB.out] at this; simp only [Prod.mk.injEq] at this; exact this.1, by have := HFl.out; rw [HB.out] at this; simp only [Prod.mk.injEq] at this; exact this.2⟩⟩
                case measure => simp [intOf]; omega
              · have HB := hide (hstep (by omega) (by omega))
                clear hbad hstep
                go_wp2_with fail
                go_roundw
                case rel => exact ⟨k + 1, 0, 0, by omega, by go_num, hgr', hFr, .inl ⟨rfl, rfl, by rw [← HB.out]; exact HFl.out⟩⟩
                case measure => simp [intOf]; omega
          · go_wp2_with fail
            go_meet
            case rel =>
              have := HFl.out
              rw [numsFlt_end zs k (by omega)] at this
              simp only [Prod.mk.injEq] at this
              exact ⟨hgr', by rw [← this.1, ← this.2]; exact hFr⟩
        · have hcb : (c == 0) = false := beq_eq_false_iff_ne.2 hc0
          clear hc0
          have HC := hide hcn
          have HA := hide han
          clear hcn han
          by_cases hlt : k < zs.length
          all_goals
            go_wp2_with fail
            go_meet
            case rel => exact ⟨hgr', by rw [← HC.out, ← HA.out]; exact hFr⟩
    case rest =>
      clear hgr hFw hB0 hcell hLne
      obtain ⟨hgr, hFw⟩ := hcut
      rename World => wD
      have hLD : wD.cell? ⟨w.heap.size, 0, none⟩ = some (.slice ao zs.length cap) := hgr.cell hLBB (by simp; omega)
      have hXD := hXB.grown hgr (by omega)
      have hGD := hGB.grown hgr (by omega)
      have hr3D := hr3B.grown hgr (fun a l c e hp => by have := hr35lt a l c e hp; omega)
      have hr5D := hr5B.grown hgr (fun a l c e hp => by have := hr5lt a l c e hp; omega)
      have hbwD : Below w.heap.size w wD := hbwB.grown hgr (by have := hbwB.size; omega) (fun j hj => by simp at hj; omega)
      have huD := h1.below hbwD
      clear hgr hLBB hXB hGB hr3B hr5B
      obtain ⟨b0, b1, _, _, bs0⟩ := hFw.facts
      obtain ⟨x0, x1, _, _, xs0⟩ := hXD.facts
      go_upto_region 15 with fail
      go_cut [70] (fun s wc => s = .bool false ∧ Below wD.heap.size wD wc)
      case first =>
        by_cases hnc : nc = 0
        · obtain ⟨hl1, hok, heq⟩ := numsR_ok (zs := zs) (by rw [HN.out]; exact hnc)
          rw [HN.out] at heq
          simp only [Prod.mk.injEq] at heq
          obtain ⟨rfl, rfl, rfl⟩ := heq
          have HOK := hide hok
          clear hok hnc
          go_wp2_with fail
          refine (bytesAs15_ok w.heap.size _ v3 zs (flat zs) wD hLD huD hl1 HOK.out hr3D).mono ?_
          rintro e w7 ⟨rfl, hb7⟩
          rw [beq_self_eq_true]
          go_wp2_with fail
          go_meet
          case rel => exact ⟨rfl, hb7⟩
        · have hnb : nb = [] := by have := numsR_none (zs := zs) (by rw [HN.out]; exact hnc); rw [HN.out] at this; exact this
          subst hnb
          have HNC := hide hnc
          clear hnc
          go_wp2_with fail
          refine (bytesAs_bad v3 _ nc na wD HNC.out hr3D).mono ?_
          rintro e w7 ⟨rfl, hb7⟩
          go_wp2_with fail
          go_meet
          case rel => exact ⟨rfl, hb7⟩
      case rest =>
        obtain ⟨rfl, hb7⟩ := hcut
        have hGE := hGD.below hb7
        have hr5E := hr5D.below hb7
        have hbwE := hbwD.trans (hb7.mono hbwD.size)
        clear hGD hr5D hLD hXD hr3D huD b0 b1 x0 x1 bs0 xs0 hFw hr35lt hr5lt
        rename World => wE
        obtain ⟨g0, g1, _, _, gs0⟩ := hGE.facts
        by_cases hbb : 60000 < bs.length
        · have heq := HM.out
          rw [readNums_big hbb] at heq
          simp only [Prod.mk.injEq] at heq
          obtain ⟨rfl, rfl, rfl⟩ := heq
          obtain ⟨yo, ycap, hy, _, _, _⟩ := hr5E.open
          rw [ic_length] at hy
          subst hy
          go_wp2_with fail
          go_region_held3 (fun w' => w'.cell? ⟨w5.heap.size, 0, none⟩ = some (.int .i64 (8)) ∧ w'.cell? ⟨w5.heap.size, 1, none⟩ = some (.int .i64 (0))) (go_keep) (first | (go_at_call 14; refine (F_any _ _ _).mono ?_; rintro e w9 ⟨rfl, rfl⟩; simp only [flt]))
          all_goals
            go_wp2_with fail
            go_ret
            exact ⟨rfl, by go_grown⟩
        · go_wp2_with fail
          refine (ReadNumbers_any _ bs _ (h2.below hbwE) (by omega)).mono ?_
          rintro e w8 ⟨v8, rfl, hr8, hb8, _⟩
          have heq := HM.out
          rw [readNums_ref hbb] at heq
          generalize refNums (bs.length + 1) bs [] = RN at *
          obtain ⟨rn, rbad⟩ := RN
          simp only at hr8 heq ⊢
          have hGF := hGE.below hb8
          have hr5F := hr5E.below hb8
          have hbwF := hbwE.trans (hb8.mono hbwE.size)
          clear hGE hr5E g0 g1
          obtain ⟨g0, g1, _, _, gs0⟩ := hGF.facts
          by_cases hrb : 0 ≤ rbad
          · rw [if_pos hrb] at heq
            simp only [Prod.mk.injEq] at heq
            obtain ⟨rfl, rfl, rfl⟩ := heq
            obtain ⟨yo, ycap, hy, _, _, _⟩ := hr5F.open
            rw [ic_length] at hy
            subst hy
            go_wp2_with fail
            go_region_held3 (fun w' => w'.cell? ⟨w5.heap.size, 0, none⟩ = some (.int .i64 (5)) ∧ w'.cell? ⟨w5.heap.size, 1, none⟩ = some (.int .i64 (rbad))) (go_keep) (first | (go_at_call 14; refine (F_any _ _ _).mono ?_; rintro e w9 ⟨rfl, rfl⟩; simp only [flt]))
            all_goals
              go_wp2_with fail
              go_ret
              exact ⟨rfl, by go_grown⟩
          · rw [if_neg hrb] at heq
            obtain ⟨wo, wcap, hwv, hw1, hw2, _⟩ := hr8.open
            rw [ic_length] at hwv hw1
            subst hwv
            unfold maxLen at hw2
            by_cases hmany : 1000 < rn.length
            · rw [if_pos hmany] at heq
              simp only [Prod.mk.injEq] at heq
              obtain ⟨rfl, rfl, rfl⟩ := heq
              obtain ⟨yo, ycap, hy, _, _, _⟩ := hr5F.open
              rw [ic_length] at hy
              subst hy
              go_wp2_with fail
              go_region_held3 (fun w' => w'.cell? ⟨w5.heap.size, 0, none⟩ = some (.int .i64 (2)) ∧ w'.cell? ⟨w5.heap.size, 1, none⟩ = some (.int .i64 (0))) (go_keep) (first | (go_at_call 14; refine (F_any _ _ _).mono ?_; rintro e w9 ⟨rfl, rfl⟩; simp only [flt]))
              all_goals
                go_wp2_with fail
                go_ret
                exact ⟨rfl, by go_grown⟩
            · rw [if_neg hmany] at heq
              simp only [Prod.mk.injEq] at heq
              obtain ⟨rfl, rfl, rfl⟩ := heq
              go_wp2_with fail
              refine (Ints_any _ _ rn rn _ hr5F hr8).mono ?_
              rintro e w9 ⟨rfl, q, rfl⟩
              rw [beq_self_eq_true]
              go_wp2_with fail
              go_ret
              exact ⟨rfl, below_drewN hbwF q⟩

end Go.Proofs.Ytlebbkbbmgmmjaa
