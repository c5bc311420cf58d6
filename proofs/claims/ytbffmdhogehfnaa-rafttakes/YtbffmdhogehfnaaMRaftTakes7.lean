/-
  Texts joined: RaftT2, RaftT3, RaftT6, EntR1, RaftR7, RaftB, RaftU1.
-/
import Derived.Test.YtbffmdhogehfnaaMRaftTakes6
/-
  Nodes that are answered; the walk over raft.Propose.
-/
namespace Go.Proofs.Ytbffmdhogehfnaa
open Go.RowKit Go.Maps
set_option linter.unusedVariables false

/-- A node that is answered, in new memory. -/
structure AnsN (w : World) (base : Nat) (x : Nd) (lv vv nv hv : Value) : Prop where
  rd : RdNd w x lv vv nv hv
  n1 : New base lv
  n2 : New base vv
  n3 : New base nv
  n4 : New base hv

def noNd : Nd := ⟨0, 0, 0, 0, [], 0, 0, [], [], []⟩

theorem RdNd.no (w : World) : RdNd w noNd (.slice none 0 0) (.slice none 0 0) (.slice none 0 0) (.slice none 0 0) := ⟨RdG.nil w, RdG.nil w, RdG.nil w, RdG.nil w⟩

theorem AnsN.no (w : World) (base : Nat) : AnsN w base noNd (.slice none 0 0) (.slice none 0 0) (.slice none 0 0) (.slice none 0 0) :=
  ⟨RdNd.no w, New.nil _, New.nil _, New.nil _, New.nil _⟩

theorem AnsN.below {w w' : World} {base : Nat} {x : Nd} {lv vv nv hv : Value} (h : AnsN w base x lv vv nv hv) (hb : Below w.heap.size w w') : AnsN w' base x lv vv nv hv := ⟨h.rd.below hb, h.n1, h.n2, h.n3, h.n4⟩

theorem AnsN.base {w : World} {base b2 : Nat} {x : Nd} {lv vv nv hv : Value} (h : AnsN w base x lv vv nv hv) (hb : b2 ≤ base) : AnsN w b2 x lv vv nv hv := ⟨h.rd, h.n1.mono hb, h.n2.mono hb, h.n3.mono hb, h.n4.mono hb⟩

theorem RdG.offB {α : Type} {K : Nat} {E : En α K} {w w' : World} {base B : Nat} {v : Value} {xs : List α} (h : RdG E w v xs) (hn : New base v) (hg : w.grownBy w' (some B)) (hB : B < base) : RdG E w' v xs := by
  obtain ⟨ao, cap, hv, h1, h2, h3, h4⟩ := h
  refine ⟨ao, cap, hv, h1, h2, h3, fun a ha j u hu => ?_⟩
  have hc := h4 a ha j u hu
  have hlt := World.block_lt_of_cell? w _ hc
  have e : (a.add j).block = a.block := by unfold Addr.add; split <;> rfl
  have hb := hn a _ _ (by rw [hv, ha])
  rw [← hc]
  exact World.cell?_of_block (hg.block _ hlt (by rw [e]; intro q; cases q; omega))

/-- What is answered, while an older block is written. -/
theorem AnsN.offB {w w' : World} {base B : Nat} {x : Nd} {lv vv nv hv : Value} (h : AnsN w base x lv vv nv hv) (hg : w.grownBy w' (some B)) (hB : B < base) : AnsN w' base x lv vv nv hv :=
  ⟨⟨h.rd.log.offB h.n1 hg hB, h.rd.votes.offB h.n2 hg hB, h.rd.next.offB h.n3 hg hB, h.rd.hav.offB h.n4 hg hB⟩, h.n1, h.n2, h.n3, h.n4⟩

theorem Row.new {w : World} {lab : Nat → Nat} {i : Nat} {e : TypeId} {K : Nat} {v : Value} {n : Nat} {xs : List Value} {C : Nat} (h : Row w lab i e K v n xs) (hi : i ≠ 0) (hl : ∀ g, g < C → lab g = 0) : New C v := by
  intro a l c hv
  rcases h.1.2 with ⟨q, _⟩ | ⟨g, cap, cur, q, _⟩
  · rw [q] at hv; cases hv
  · rw [q] at hv
    cases hv
    have := h.2 g (by rw [q]; simp [Value.ownBlock])
    show C ≤ g
    apply Nat.le_of_not_lt
    intro hg
    rw [hl g hg] at this
    exact hi this.symm

theorem Nm.ans {w : World} {lab : Nat → Nat} {B C : Nat} {x : Nd} {lv vv nv hv : Value} (h : Nm w lab B x lv vv nv hv) (hl : ∀ g, g < C → lab g = 0) : AnsN w C x lv vv nv hv :=
  ⟨h.nr.rd, h.log.new (by omega) hl, h.vot.new (by omega) hl, h.nxt.new (by omega) hl, h.hav.new (by omega) hl⟩

/-- A node is laid. -/
theorem Nw.lay {w : World} {lab : Nat → Nat} {x : Nd} {lv vv nv hv : Value} (h : Nw w lab x lv vv nv hv) : Nm (w.alloc (.cells (ndA x lv vv nv hv) 52)) (labTo lab (some w.heap.size) 5) w.heap.size x lv vv nv hv := by
  have hb := below_allocG w (.cells (ndA x lv vv nv hv) 52)
  have hc : Chg 0 w (w.alloc (.cells (ndA x lv vv nv hv) 52)) lab (labTo lab (some w.heap.size) 5) (fun _ => False) := by
    refine ⟨hb.os, hb.tape, hb.output, hb.size, fun k hk _ => hb.block k hk, fun k hk => ?_, fun g hg => ?_⟩
    · unfold labTo
      rw [if_neg (fun q => by simp at q; omega)]
    · simp at hg
      unfold labTo
      rw [if_neg (fun q => by simp at q; omega)]
      exact h.ok g (by omega)
  refine ⟨Blk.new w _ _, ?_, h.log.keep hc (fun q => q), h.vot.keep hc (fun q => q), h.nxt.keep hc (fun q => q), h.hav.keep hc (fun q => q), hc.ok⟩
  unfold labTo
  rw [if_pos rfl]

/-- Behind what was done to a node that was laid: what was there is as it was. -/
theorem laid_below {w1 w2 : World} {lab lab2 : Nat → Nat} {o : Obj} {C : Nat} (hc : Chg 0 (w1.alloc o) w2 (labTo lab (some w1.heap.size) 5) lab2 (fun i => i ≠ 0)) (hl : ∀ g, g < C → lab g = 0) (hC : C ≤ w1.heap.size) :
    Below C w1 w2 ∧ ∀ g, g < C → lab2 g = 0 := by
  have h0 : ∀ g, g < C → labTo lab (some w1.heap.size) 5 g = 0 := fun g hg => by
    unfold labTo
    rw [if_neg (fun q => by simp at q; omega)]
    exact hl g hg
  refine ⟨(below_allocG w1 o).mono hC |>.trans (Below.ofChg hc (fun k hk q => q (h0 k hk)) (by simp; omega)), fun g hg => ?_⟩
  rw [hc.labs g (by simp; omega)]
  exact h0 g hg

def proN (x : Nd) (t : ByteArray) : Nd := if (proF x t).1 = 0 then x.prop t else noNd

theorem proF_ok {x : Nd} {t : ByteArray} (h : (proF x t).1 = 0) : FineN x ∧ x.role = 2 ∧ t.size ≤ 200 ∧ x.log.length < 100 := by
  unfold proF at h
  by_cases h1 : (ledF x).1 ≠ 0
  · rw [if_pos h1] at h; exact absurd h h1
  rw [if_neg h1] at h
  by_cases h2 : 200 < t.size
  · rw [if_pos h2] at h; simp at h
  rw [if_neg h2] at h
  by_cases h3 : x.log.length = 100
  · rw [if_pos h3] at h; simp at h
  have h1' := Decidable.not_not.1 h1
  unfold ledF at h1'
  by_cases h4 : (chkN x).1 ≠ 0
  · rw [if_pos h4] at h1'; exact absurd h1' h4
  rw [if_neg h4] at h1'
  by_cases h5 : x.role ≠ 2
  · rw [if_pos h5] at h1'; simp at h1'
  have hf := chkN_fine (Decidable.not_not.1 h4)
  have := hf.loglen
  exact ⟨hf, Decidable.not_not.1 h5, by omega, by omega⟩

theorem FineN.lens {x : Nd} (h : FineN x) (hr : x.role = 2) : (x.next.length : Int) = x.n ∧ (x.hav.length : Int) = x.n ∧ (∀ u ∈ x.next, 1 ≤ u ∧ u ≤ x.log.length + 1) ∧ (∀ u ∈ x.hav, 0 ≤ u ∧ u ≤ x.log.length) ∧ x.votes = [] := by
  have h1 := h.kn
  have h2 := h.vo
  unfold knownB ofB at h1
  unfold votesB at h2
  rw [if_pos hr, if_pos hr] at h1
  rw [if_neg (by omega)] at h2
  simp only [Bool.and_eq_true, decide_eq_true_eq, Bool.not_eq_true', List.any_eq_false, Bool.not_eq_false, wiB_true] at h1 h2
  obtain ⟨⟨a1, a2⟩, a3, a4⟩ := h1
  exact ⟨a1, a3, a2, a4, List.eq_nil_of_length_eq_zero h2⟩

theorem FineN.small {x : Nd} (h : FineN x) : x.log.length ≤ 100 ∧ x.votes.length ≤ 7 ∧ x.next.length ≤ 7 ∧ x.hav.length ≤ 7 := by
  have hn := h.n7
  refine ⟨h.loglen, ?_, ?_, ?_⟩
  · have h2 := h.vo
    unfold votesB at h2
    split at h2
    · simp only [Bool.and_eq_true, Bool.not_eq_true'] at h2
      have := h2.2.2
      unfold mostB at this
      simp at this
      have := h.n1
      omega
    · simp at h2
      simp [h2]
  · have h1 := h.kn
    unfold knownB ofB at h1
    split at h1
    · simp only [Bool.and_eq_true, decide_eq_true_eq] at h1
      omega
    · simp at h1
      simp [h1.1]
  · have h1 := h.kn
    unfold knownB ofB at h1
    split at h1
    · simp only [Bool.and_eq_true, decide_eq_true_eq] at h1
      omega
    · simp at h1
      simp [h1.2]

end Go.Proofs.Ytbffmdhogehfnaa

/-
  The walk over raft.Propose. (Written by rt3.py.)
-/
namespace Go.Proofs.Ytbffmdhogehfnaa
open Go.RowKit Go.Maps
set_option linter.unusedVariables false

/-- Values laid one behind the other into a block. -/
def setL (w : World) (B : Nat) : Nat → List Value → World
  | _, [] => w
  | k, v :: vs => setL (w.setCell ⟨B, k, none⟩ v) B (k + 1) vs

theorem setL_grown (B : Nat) : ∀ (vs : List Value) (w : World) (k : Nat), w.grownBy (setL w B k vs) (some B)
  | [], w, k => World.grownBy.refl _ _
  | v :: vs, w, k => grown_same (grown_setCell w B k v) (setL_grown B vs _ _)

theorem setL_blk {B : Nat} {t : TypeId} : ∀ (vs : List Value) (w : World) (k : Nat) (xs : Array Value), Blk w B t xs → k + vs.length = xs.size → Blk (setL w B k vs) B t (xs.toList.take k ++ vs).toArray
  | [], w, k, xs, h, hk => by
    have : xs.toList.take k = xs.toList := List.take_of_length_le (by simp at hk ⊢; omega)
    rw [this, List.append_nil]
    exact h
  | v :: vs, w, k, xs, h, hk => by
    have hk' : k < xs.size := by simp at hk; omega
    have h1 := setL_blk vs (w.setCell ⟨B, k, none⟩ v) (k + 1) (xs.setIfInBounds k v) (h.set k v) (by simp at hk ⊢; omega)
    have e : (xs.setIfInBounds k v).toList.take (k + 1) ++ vs = xs.toList.take k ++ (v :: vs) := by
      rw [Array.toList_setIfInBounds, List.take_set, List.take_add_one, List.getElem?_eq_getElem (by simpa using hk')]
      rw [List.set_append, if_neg (by simp [Nat.min_le_left]), List.length_take]
      simp [Nat.min_eq_left (Nat.le_of_lt hk')]
    rw [e] at h1
    exact h1

/-- A whole variable, and another one, are written. -/
theorem setL_two {w A : World} {R Q C : Nat} {t1 t2 : TypeId} {xs ys : Array Value} (vs us : List Value) (hR : Blk A R t1 xs) (hQ : Blk A Q t2 ys) (hne : R ≠ Q) (h1 : vs.length = xs.size) (h2 : us.length = ys.size) (hb : Below C w A) (hCR : C ≤ R) (hCQ : C ≤ Q) :
    Blk (setL (setL A R 0 vs) Q 0 us).drew R t1 vs.toArray ∧ Blk (setL (setL A R 0 vs) Q 0 us).drew Q t2 us.toArray ∧ Below C w (setL (setL A R 0 vs) Q 0 us).drew ∧ A.heap.size ≤ (setL (setL A R 0 vs) Q 0 us).drew.heap.size ∧ (∀ k, k < A.heap.size → k ≠ R → k ≠ Q → (setL (setL A R 0 vs) Q 0 us).drew.heap[k]? = A.heap[k]?) := by
  have g1 := setL_grown R vs A 0
  have g2 := setL_grown Q us (setL A R 0 vs) 0
  have b1 := setL_blk vs A 0 xs hR (by omega)
  have b2 := setL_blk us (setL A R 0 vs) 0 ys (hQ.grown g1 (by simp; omega)) (by omega)
  simp only [List.take_zero, List.nil_append] at b1 b2
  have hl1 := hR.lt
  have hC1 : C ≤ A.heap.size := by omega
  have k1 := below_grownO hb g1 (fun k hk => by cases hk; exact hCR) hC1
  have k2 := below_grownO k1 g2 (fun k hk => by cases hk; exact hCQ) (Nat.le_trans hC1 g1.size)
  have b1' := b1.grown g2 (by simp; omega)
  refine ⟨b1', b2, k2.drew, Nat.le_trans g1.size g2.size, fun k hk hkR hkQ => ?_⟩
  exact (g2.block k (Nat.lt_of_lt_of_le hk g1.size) (by simp; omega)).trans (g1.block k hk (by simp; omega))

/-- The same, without a draw. -/
theorem setL_two0 {w A : World} {R Q C : Nat} {t1 t2 : TypeId} {xs ys : Array Value} (vs us : List Value) (hR : Blk A R t1 xs) (hQ : Blk A Q t2 ys) (hne : R ≠ Q) (h1 : vs.length = xs.size) (h2 : us.length = ys.size) (hb : Below C w A) (hCR : C ≤ R) (hCQ : C ≤ Q) :
    Blk (setL (setL A R 0 vs) Q 0 us) R t1 vs.toArray ∧ Blk (setL (setL A R 0 vs) Q 0 us) Q t2 us.toArray ∧ Below C w (setL (setL A R 0 vs) Q 0 us) ∧ A.heap.size ≤ (setL (setL A R 0 vs) Q 0 us).heap.size ∧ (∀ k, k < A.heap.size → k ≠ R → k ≠ Q → (setL (setL A R 0 vs) Q 0 us).heap[k]? = A.heap[k]?) := by
  have g1 := setL_grown R vs A 0
  have g2 := setL_grown Q us (setL A R 0 vs) 0
  have b1 := setL_blk vs A 0 xs hR (by omega)
  have b2 := setL_blk us (setL A R 0 vs) 0 ys (hQ.grown g1 (by simp; omega)) (by omega)
  simp only [List.take_zero, List.nil_append] at b1 b2
  have hl1 := hR.lt
  have hC1 : C ≤ A.heap.size := by omega
  have k1 := below_grownO hb g1 (fun k hk => by cases hk; exact hCR) hC1
  have k2 := below_grownO k1 g2 (fun k hk => by cases hk; exact hCQ) (Nat.le_trans hC1 g1.size)
  have b1' := b1.grown g2 (by simp; omega)
  refine ⟨b1', b2, k2, Nat.le_trans g1.size g2.size, fun k hk hkR hkQ => ?_⟩
  exact (g2.block k (Nat.lt_of_lt_of_le hk g1.size) (by simp; omega)).trans (g1.block k hk (by simp; omega))

theorem three_atR (w : World) (xs ys zs : Array Value) (t1 t2 t3 : TypeId) :
    Blk (((w.alloc (.cells xs t1)).alloc (.cells ys t2)).alloc (.cells zs t3)) w.heap.size t1 xs ∧ Blk (((w.alloc (.cells xs t1)).alloc (.cells ys t2)).alloc (.cells zs t3)) (w.heap.size + 1) t2 ys ∧ Blk (((w.alloc (.cells xs t1)).alloc (.cells ys t2)).alloc (.cells zs t3)) (w.heap.size + 1 + 1) t3 zs ∧ Below w.heap.size w (((w.alloc (.cells xs t1)).alloc (.cells ys t2)).alloc (.cells zs t3)) ∧ w.heap.size + 3 = (((w.alloc (.cells xs t1)).alloc (.cells ys t2)).alloc (.cells zs t3)).heap.size :=
  ⟨Blk.at0of3 _ _ _ _ _, Blk.at1of3 _ _ _ _ _, Blk.at2 _ _ _ _ _, below_alloc3 _ _ _ _, by simp⟩

set_option maxRecDepth 100000 in
set_option maxHeartbeats 8000000 in
theorem Propose_any (x : Nd) (tx : ByteArray) (lv vv nv hv : Value) (w : World) (hx : RdNd w x lv vv nv hv) (hwf : ∀ v ∈ x.votes, WfI v) :
    Calls Try.prog 11 #[ndV x lv vv nv hv, .string tx] w fun e w' => ∃ lv' vv' nv' hv', e = .returned (.tuple #[ndV (proN x tx) lv' vv' nv' hv', flt (proF x tx)]) ∧ AnsN w' w.heap.size (proN x tx) lv' vv' nv' hv' ∧ Below w.heap.size w w' := by
  have HOK := hide (@proF_ok x tx)
  have HX := hide hx
  have HZ := hide (proF_z x tx)
  obtain ⟨n, id, te, vo, lo, ro, co, vs, ns, hs⟩ := x
  obtain ⟨h1, h2, h3, h4⟩ := hx
  simp only at h1 h2 h3 h4
  obtain ⟨ao, cap, rfl, hc1, hc2⟩ := h1.shape
  obtain ⟨bo, cap2, rfl, hd1, hd2⟩ := h2.shape
  obtain ⟨no, cap3, rfl, _, _⟩ := h3.shape
  obtain ⟨ho, cap4, rfl, _, _⟩ := h4.shape
  have hN3 := three_atR w #[.int .i64 n, .int .i64 id, .int .i64 te, .int .i64 vo, .slice ao lo.length cap, .int .i64 ro, .int .i64 co, .slice bo vs.length cap2, .slice no ns.length cap3, .slice ho hs.length cap4] #[.int .i64 0, .int .i64 0, .int .i64 0, .int .i64 0, .slice none 0 0, .int .i64 0, .int .i64 0, .slice none 0 0, .slice none 0 0, .slice none 0 0] #[.int .i64 0, .int .i64 0] 25 25 30
  obtain ⟨hP, hR, hQ, hA, hS⟩ := hN3
  have HC1 := hide (proposeFault_any ⟨n, id, te, vo, lo, ro, co, vs, ns, hs⟩ _ _ _ _ tx _ (HX.out.below hA) hwf)
  generalize hK : proF ⟨n, id, te, vo, lo, ro, co, vs, ns, hs⟩ tx = F at *
  have HFK := hide hK
  obtain ⟨p, q⟩ := F
  unfold ndV ndA at HC1
  unfold ndV ndA
  have HP := hide hP
  have HR := hide hR
  have HQ := hide hQ
  have HA := hide hA
  have HS := hide hS
  clear h1 h2 h3 h4 hP hR hQ hA hS hK
  go_enter Try.func11, Try.ntmps11
  go_wp2_with (refine wpList_load_blk HP.out Try.underlying25 rfl Try.sizeNode rfl rfl rfl ?_)
  refine HC1.out.mono ?_
  rintro e w1 ⟨rfl, hb1⟩
  have hN := below_allocG w1 (.cells #[.int .i64 p, .int .i64 q] 30)
  have HP1 := hide ((HP.out.later hb1).later hN)
  have HR1 := hide ((HR.out.later hb1).later hN)
  have HQ1 := hide ((HQ.out.later hb1).later hN)
  have hAA := HA.out.trans (hb1.mono HA.out.size)
  have HA1 := hide (hAA.trans (hN.mono hAA.size))
  have HS1 := hide (show w.heap.size + 3 ≤ w1.heap.size by have := hb1.size; have := HS.out; omega)
  have hW1 := (Blk.new w1 30 #[.int .i64 p, .int .i64 q])
  have f0 := hW1.cell 0
  have f1 := hW1.cell 1
  simp at f0 f1
  clear hb1 hN hAA hW1 HC1 HP HR HQ HA HS
  unfold flt
  by_cases hp : p ≠ 0
  · have hq : (p == 0) = false := beq_eq_false_iff_ne.2 hp
    have hq2 : (p != 0) = true := by simp [hp]
    have HE := hide (show proN ⟨n, id, te, vo, lo, ro, co, vs, ns, hs⟩ tx = noNd from if_neg (by rw [HFK.out]; exact hp))
    clear hp
    have hrq : w.heap.size + 1 ≠ w.heap.size + 1 + 1 := by omega
    have hqr : w.heap.size + 1 + 1 ≠ w.heap.size + 1 := by omega
    have hfr : w1.heap.size ≠ w.heap.size + 1 := by have := HS1.out; omega
    have hfq : w1.heap.size ≠ w.heap.size + 1 + 1 := by have := HS1.out; omega
    have ra0 := HR1.out.cell 0
    have raz0 := HR1.out.frozen 0
    have ra1 := HR1.out.cell 1
    have raz1 := HR1.out.frozen 1
    have ra2 := HR1.out.cell 2
    have raz2 := HR1.out.frozen 2
    have ra3 := HR1.out.cell 3
    have raz3 := HR1.out.frozen 3
    have ra4 := HR1.out.cell 4
    have raz4 := HR1.out.frozen 4
    have ra5 := HR1.out.cell 5
    have raz5 := HR1.out.frozen 5
    have ra6 := HR1.out.cell 6
    have raz6 := HR1.out.frozen 6
    have ra7 := HR1.out.cell 7
    have raz7 := HR1.out.frozen 7
    have ra8 := HR1.out.cell 8
    have raz8 := HR1.out.frozen 8
    have ra9 := HR1.out.cell 9
    have raz9 := HR1.out.frozen 9
    have ral := HR1.out.lt
    simp at ra0 ra1 ra2 ra3 ra4 ra5 ra6 ra7 ra8 ra9
    have qa0 := HQ1.out.cell 0
    have qaz0 := HQ1.out.frozen 0
    have qa1 := HQ1.out.cell 1
    have qaz1 := HQ1.out.frozen 1
    have qal := HQ1.out.lt
    simp at qa0 qa1
    go_wp2_with fail
    go_region
    all_goals
      obtain ⟨hR9, hQ9, hA9, _, _⟩ := setL_two (w := w) (C := w.heap.size) [.int .i64 0, .int .i64 0, .int .i64 0, .int .i64 0, .slice none 0 0, .int .i64 0, .int .i64 0, .slice none 0 0, .slice none 0 0, .slice none 0 0] [.int .i64 p, .int .i64 q] HR1.out HQ1.out hrq rfl rfl HA1.out (by omega) (by omega)
      have HR9 := hide hR9
      have HQ9 := hide hQ9
      have HA9 := hide hA9
      simp only [setL] at HR9 HQ9 HA9
      clear hR9 hQ9 hA9 ra0 raz0 ra1 raz1 ra2 raz2 ra3 raz3 ra4 raz4 ra5 raz5 ra6 raz6 ra7 raz7 ra8 raz8 ra9 raz9 ral qa0 qaz0 qa1 qaz1 qal f0 f1
      generalize (((((((((((((w1.alloc (.cells #[.int .i64 p, .int .i64 q] 30)).setCell ⟨w.heap.size + 1, 0, none⟩ (.int .i64 0)).setCell ⟨w.heap.size + 1, 1, none⟩ (.int .i64 0)).setCell ⟨w.heap.size + 1, 2, none⟩ (.int .i64 0)).setCell ⟨w.heap.size + 1, 3, none⟩ (.int .i64 0)).setCell ⟨w.heap.size + 1, 4, none⟩ (.slice none 0 0)).setCell ⟨w.heap.size + 1, 5, none⟩ (.int .i64 0)).setCell ⟨w.heap.size + 1, 6, none⟩ (.int .i64 0)).setCell ⟨w.heap.size + 1, 7, none⟩ (.slice none 0 0)).setCell ⟨w.heap.size + 1, 8, none⟩ (.slice none 0 0)).setCell ⟨w.heap.size + 1, 9, none⟩ (.slice none 0 0)).setCell ⟨w.heap.size + 1 + 1, 0, none⟩ (.int .i64 p)).setCell ⟨w.heap.size + 1 + 1, 1, none⟩ (.int .i64 q)).drew = wz at HR9 HQ9 HA9 ⊢
      go_wp2_with fail
      refine bodyPost_ret (results2_cells Try.results11 rfl rfl (run_loadVar_blk HR9.out Try.underlying25 rfl Try.sizeNode) (run_loadVar_blk HQ9.out Try.underlying30 rfl Try.sizeFaultR)) rfl ?_
      rw [HE.out]
      exact ⟨_, _, _, _, rfl, AnsN.no _ _, HA9.out⟩
  · obtain rfl : p = 0 := Decidable.not_not.1 hp
    obtain rfl : q = 0 := by have := HZ.out rfl; simpa using this
    have HE := hide (show proN ⟨n, id, te, vo, lo, ro, co, vs, ns, hs⟩ tx = Nd.prop ⟨n, id, te, vo, lo, ro, co, vs, ns, hs⟩ tx from if_pos (by rw [HFK.out]))
    obtain ⟨hfine, hrole, _, hlg⟩ := HOK.out rfl
    obtain ⟨ln1, ln2, ln3, ln4, ln5⟩ := hfine.lens hrole
    obtain ⟨sm1, sm2, sm3, sm4⟩ := hfine.small
    have HCP := hide (copied_any ⟨n, id, te, vo, lo, ro, co, vs, ns, hs⟩ _ _ _ _ _ (HX.out.below HA1.out) (by omega) (by omega) (by omega) (by omega))
    have fn1 := hfine.n1
    have fn7 := hfine.n7
    have fid := hfine.id0
    have fin := hfine.idn
    have fc := hfine.c0
    simp only at hlg ln1 ln2 sm1 fn1 fn7 fid fin fc
    have HFN := hide (And.intro fn1 (And.intro fn7 (And.intro fid (And.intro fin (And.intro hlg (And.intro fc (And.intro ln1 ln2)))))))
    unfold ndV ndA at HCP
    clear hp hfine hrole ln1 ln2 ln3 ln4 ln5 sm1 sm2 sm3 sm4 fn1 fn7 fid fin fc hlg f0 f1
    have HSW := hide (show w.heap.size + 3 ≤ (w1.alloc (.cells #[.int .i64 0, .int .i64 0] 30)).heap.size by have := HS1.out; simp; omega)
    go_upto_region 4 with fail
    generalize hW : w1.alloc (.cells #[.int .i64 0, .int .i64 0] 30) = W at HP1 HR1 HQ1 HA1 HCP HSW ⊢
    clear hW HS1
    go_wp2_with (refine wpList_load_blk HP1.out Try.underlying25 rfl Try.sizeNode rfl rfl rfl ?_)
    refine HCP.out.mono ?_
    rintro e w2 ⟨lab, lv2, vv2, nv2, hv2, rfl, hnw, hlab, hb2⟩
    obtain ⟨lo2, lc2, hs1⟩ := owns_shapeK hnw.log.1
    obtain ⟨vo2, vc2, hs2⟩ := owns_shapeK hnw.vot.1
    obtain ⟨no2, nc2, hs3⟩ := owns_shapeK hnw.nxt.1
    obtain ⟨ho2, hc2', hs4⟩ := owns_shapeK hnw.hav.1
    subst hs1 hs2 hs3 hs4
    have hlay := hnw.lay
    have HPR := hide (propose_any _ ⟨n, id, te, vo, lo, ro, co, vs, ns, hs⟩ tx _ _ _ _ _ _ hlay HFN.out.1 HFN.out.2.1 HFN.out.2.2.1 HFN.out.2.2.2.1 (by have := HFN.out.2.2.2.2.1; simp only; omega) HFN.out.2.2.2.2.2.1 HFN.out.2.2.2.2.2.2.1 HFN.out.2.2.2.2.2.2.2)
    have HLB := hide hlab
    have HB2 := hide hb2
    unfold ndA at HPR
    dsimp only at HPR ⊢
    clear hnw hlab hb2 hlay HCP
    go_wp2_with fail
    refine HPR.out.mono ?_
    rintro e w3 ⟨lab3, lv3, rfl, hN3, hC3⟩
    obtain ⟨hbl, hlb3⟩ := laid_below hC3 HLB.out HB2.out.size
    have hb3 := HB2.out.trans hbl
    have HN3 := hide hN3
    have HR3 := hide (HR1.out.later hb3)
    have HQ3 := hide (HQ1.out.later hb3)
    have HA3 := hide (HA1.out.trans (hb3.mono HA1.out.size))
    have HAN := hide (hN3.ans hlb3)
    have HBN := hide hN3.blk
    obtain ⟨lo3, lc3, hs1⟩ := owns_shapeK hN3.log.1
    subst hs1
    unfold ndA at HBN
    clear hN3 hC3 hbl hlb3 hb3 HPR HB2 HLB
    go_wp2_with (first
      | (refine wpList_load_blk HBN.out Try.underlying25 rfl Try.sizeNode rfl rfl rfl ?_)
      | (refine wpList_store_blk rfl rfl rfl rfl HR3.out rfl Try.sizeNode rfl ?_; intro w8 hR8 hg8; have HR8 := hide hR8; have HQ8 := hide (HQ3.out.grown hg8 (by simp)); have HA8 := hide (below_grownO HA3.out hg8 (fun k hk => by cases hk; omega) HA3.out.size); have HN8 := hide (HAN.out.offB hg8 (by have := HSW.out; omega)); clear hR8 hg8)
      | (refine wpList_store_blk rfl rfl rfl rfl HQ8.out rfl Try.sizeFaultR rfl ?_; intro w9 hQ9 hg9; have HQ9 := hide hQ9; have HR9 := hide (HR8.out.grown hg9 (by simp)); have HA9 := hide (below_grownO HA8.out hg9 (fun k hk => by cases hk; omega) HA8.out.size); have HN9 := hide (HN8.out.offB hg9 (by have := HSW.out; omega)); clear hQ9 hg9))
    refine bodyPost_ret (results2_cells Try.results11 rfl rfl (run_loadVar_blk HR9.out Try.underlying25 rfl Try.sizeNode) (run_loadVar_blk HQ9.out Try.underlying30 rfl Try.sizeFaultR)) rfl ?_
    rw [HE.out]
    exact ⟨_, _, _, _, rfl, HN9.out.base (by have := HSW.out; omega), HA9.out⟩

end Go.Proofs.Ytbffmdhogehfnaa

/-
  The walk over raft.Stand. (Written by rt3.py.)
-/
namespace Go.Proofs.Ytbffmdhogehfnaa
open Go.RowKit Go.Maps
set_option linter.unusedVariables false

def stdN (x : Nd) : Nd := if (stdF x).1 = 0 then x.stand else noNd
def stdM (x : Nd) : List Ml := if (stdF x).1 = 0 then x.stand.asks else []

theorem stdF_ok {x : Nd} (h : (stdF x).1 = 0) : FineN x ∧ x.role ≠ 2 ∧ x.term < 1000000000 := by
  unfold stdF at h
  by_cases h4 : (chkN x).1 ≠ 0
  · rw [if_pos h4] at h; exact absurd h h4
  rw [if_neg h4] at h
  by_cases h5 : x.role = 2
  · rw [if_pos h5] at h; simp at h
  rw [if_neg h5] at h
  by_cases h6 : x.term = 1000000000
  · rw [if_pos h6] at h; simp at h
  have hf := chkN_fine (Decidable.not_not.1 h4)
  have := hf.t1
  exact ⟨hf, h5, by omega⟩

theorem results3_ctc {P : Program} {fn : Func} {i i2 j : Tmp} {t u : TypeId} {tmps : Array Value} {B C : Nat} {v1 v2 v3 : Value} {w : World} (h : fn.results = #[.cell i t, .tmp i2, .cell j u]) (hp : tmps[i]?.getD undef = .pointer (some ⟨B, 0, none⟩)) (hp2 : tmps[i2]?.getD undef = v2) (hq : tmps[j]?.getD undef = .pointer (some ⟨C, 0, none⟩)) (hl : (loadVar t ⟨B, 0, none⟩).run P w = .ok v1 w) (hm : (loadVar u ⟨C, 0, none⟩).run P w = .ok v3 w) :
    (results fn tmps).run P w = .ok (.tuple #[v1, v2, v3]) w := by
  simp [results, h, hp, hp2, hq, asAddr, hl, hm]

theorem stand_n (x : Nd) : x.stand.n = x.n := by
  unfold Nd.stand Nd.elect
  split <;> rfl

theorem OwM.offB {w w' : World} {base B : Nat} {v : Value} {ms : List Ml} (h : OwM w base v ms) (hg : w.grownBy w' (some B)) (hB : B < base) : OwM w' base v ms := by
  obtain ⟨fs, h1, h2, h3⟩ := h
  exact ⟨fs, owns_offB h1 hg hB, h2, fun f hf => owns_offB (h3 f hf) hg hB⟩

set_option maxRecDepth 100000 in
set_option maxHeartbeats 8000000 in
theorem Stand_any (x : Nd) (lv vv nv hv : Value) (w : World) (hx : RdNd w x lv vv nv hv) (hwf : ∀ v ∈ x.votes, WfI v) :
    Calls Try.prog 10 #[ndV x lv vv nv hv] w fun e w' => ∃ lv' vv' nv' hv' mv, e = .returned (.tuple #[ndV (stdN x) lv' vv' nv' hv', mv, flt (stdF x)]) ∧ AnsN w' w.heap.size (stdN x) lv' vv' nv' hv' ∧ OwM w' w.heap.size mv (stdM x) ∧ Below w.heap.size w w' := by
  have HOK := hide (@stdF_ok x)
  have HX := hide hx
  have HZ := hide (stdF_z x)
  obtain ⟨n, id, te, vo, lo, ro, co, vs, ns, hs⟩ := x
  obtain ⟨h1, h2, h3, h4⟩ := hx
  simp only at h1 h2 h3 h4
  obtain ⟨ao, cap, rfl, hc1, hc2⟩ := h1.shape
  obtain ⟨bo, cap2, rfl, hd1, hd2⟩ := h2.shape
  obtain ⟨no, cap3, rfl, _, _⟩ := h3.shape
  obtain ⟨ho, cap4, rfl, _, _⟩ := h4.shape
  have hN3 := three_atR w #[.int .i64 n, .int .i64 id, .int .i64 te, .int .i64 vo, .slice ao lo.length cap, .int .i64 ro, .int .i64 co, .slice bo vs.length cap2, .slice no ns.length cap3, .slice ho hs.length cap4] #[.int .i64 0, .int .i64 0, .int .i64 0, .int .i64 0, .slice none 0 0, .int .i64 0, .int .i64 0, .slice none 0 0, .slice none 0 0, .slice none 0 0] #[.int .i64 0, .int .i64 0] 25 25 30
  obtain ⟨hP, hR, hQ, hA, hS⟩ := hN3
  have HC1 := hide (standFault_any ⟨n, id, te, vo, lo, ro, co, vs, ns, hs⟩ _ _ _ _ _ (HX.out.below hA) hwf)
  generalize hK : stdF ⟨n, id, te, vo, lo, ro, co, vs, ns, hs⟩ = F at *
  have HFK := hide hK
  obtain ⟨p, q⟩ := F
  unfold ndV ndA at HC1
  unfold ndV ndA
  have HP := hide hP
  have HR := hide hR
  have HQ := hide hQ
  have HA := hide hA
  have HS := hide hS
  clear h1 h2 h3 h4 hP hR hQ hA hS hK
  go_enter Try.func10, Try.ntmps10
  go_wp2_with (refine wpList_load_blk HP.out Try.underlying25 rfl Try.sizeNode rfl rfl rfl ?_)
  refine HC1.out.mono ?_
  rintro e w1 ⟨rfl, hb1⟩
  have hN := below_allocG w1 (.cells #[.int .i64 p, .int .i64 q] 30)
  have HP1 := hide ((HP.out.later hb1).later hN)
  have HR1 := hide ((HR.out.later hb1).later hN)
  have HQ1 := hide ((HQ.out.later hb1).later hN)
  have hAA := HA.out.trans (hb1.mono HA.out.size)
  have HA1 := hide (hAA.trans (hN.mono hAA.size))
  have HS1 := hide (show w.heap.size + 3 ≤ w1.heap.size by have := hb1.size; have := HS.out; omega)
  have hW1 := (Blk.new w1 30 #[.int .i64 p, .int .i64 q])
  have f0 := hW1.cell 0
  have f1 := hW1.cell 1
  simp at f0 f1
  clear hb1 hN hAA hW1 HC1 HP HR HQ HA HS
  unfold flt
  by_cases hp : p ≠ 0
  · have hq : (p == 0) = false := beq_eq_false_iff_ne.2 hp
    have hq2 : (p != 0) = true := by simp [hp]
    have HE := hide (show stdN ⟨n, id, te, vo, lo, ro, co, vs, ns, hs⟩ = noNd from if_neg (by rw [HFK.out]; exact hp))
    have HE2 := hide (show stdM ⟨n, id, te, vo, lo, ro, co, vs, ns, hs⟩ = [] from if_neg (by rw [HFK.out]; exact hp))
    clear hp
    have hrq : w.heap.size + 1 ≠ w.heap.size + 1 + 1 := by omega
    have hqr : w.heap.size + 1 + 1 ≠ w.heap.size + 1 := by omega
    have hfr : w1.heap.size ≠ w.heap.size + 1 := by have := HS1.out; omega
    have hfq : w1.heap.size ≠ w.heap.size + 1 + 1 := by have := HS1.out; omega
    have ra0 := HR1.out.cell 0
    have raz0 := HR1.out.frozen 0
    have ra1 := HR1.out.cell 1
    have raz1 := HR1.out.frozen 1
    have ra2 := HR1.out.cell 2
    have raz2 := HR1.out.frozen 2
    have ra3 := HR1.out.cell 3
    have raz3 := HR1.out.frozen 3
    have ra4 := HR1.out.cell 4
    have raz4 := HR1.out.frozen 4
    have ra5 := HR1.out.cell 5
    have raz5 := HR1.out.frozen 5
    have ra6 := HR1.out.cell 6
    have raz6 := HR1.out.frozen 6
    have ra7 := HR1.out.cell 7
    have raz7 := HR1.out.frozen 7
    have ra8 := HR1.out.cell 8
    have raz8 := HR1.out.frozen 8
    have ra9 := HR1.out.cell 9
    have raz9 := HR1.out.frozen 9
    have ral := HR1.out.lt
    simp at ra0 ra1 ra2 ra3 ra4 ra5 ra6 ra7 ra8 ra9
    have qa0 := HQ1.out.cell 0
    have qaz0 := HQ1.out.frozen 0
    have qa1 := HQ1.out.cell 1
    have qaz1 := HQ1.out.frozen 1
    have qal := HQ1.out.lt
    simp at qa0 qa1
    go_wp2_with fail
    go_region
    all_goals
      obtain ⟨hR9, hQ9, hA9, _, _⟩ := setL_two (w := w) (C := w.heap.size) [.int .i64 0, .int .i64 0, .int .i64 0, .int .i64 0, .slice none 0 0, .int .i64 0, .int .i64 0, .slice none 0 0, .slice none 0 0, .slice none 0 0] [.int .i64 p, .int .i64 q] HR1.out HQ1.out hrq rfl rfl HA1.out (by omega) (by omega)
      have HR9 := hide hR9
      have HQ9 := hide hQ9
      have HA9 := hide hA9
      simp only [setL] at HR9 HQ9 HA9
      clear hR9 hQ9 hA9 ra0 raz0 ra1 raz1 ra2 raz2 ra3 raz3 ra4 raz4 ra5 raz5 ra6 raz6 ra7 raz7 ra8 raz8 ra9 raz9 ral qa0 qaz0 qa1 qaz1 qal f0 f1
      generalize (((((((((((((w1.alloc (.cells #[.int .i64 p, .int .i64 q] 30)).setCell ⟨w.heap.size + 1, 0, none⟩ (.int .i64 0)).setCell ⟨w.heap.size + 1, 1, none⟩ (.int .i64 0)).setCell ⟨w.heap.size + 1, 2, none⟩ (.int .i64 0)).setCell ⟨w.heap.size + 1, 3, none⟩ (.int .i64 0)).setCell ⟨w.heap.size + 1, 4, none⟩ (.slice none 0 0)).setCell ⟨w.heap.size + 1, 5, none⟩ (.int .i64 0)).setCell ⟨w.heap.size + 1, 6, none⟩ (.int .i64 0)).setCell ⟨w.heap.size + 1, 7, none⟩ (.slice none 0 0)).setCell ⟨w.heap.size + 1, 8, none⟩ (.slice none 0 0)).setCell ⟨w.heap.size + 1, 9, none⟩ (.slice none 0 0)).setCell ⟨w.heap.size + 1 + 1, 0, none⟩ (.int .i64 p)).setCell ⟨w.heap.size + 1 + 1, 1, none⟩ (.int .i64 q)).drew = wz at HR9 HQ9 HA9 ⊢
      go_wp2_with fail
      refine bodyPost_ret (results3_ctc Try.results10 rfl rfl rfl (run_loadVar_blk HR9.out Try.underlying25 rfl Try.sizeNode) (run_loadVar_blk HQ9.out Try.underlying30 rfl Try.sizeFaultR)) rfl ?_
      rw [HE.out, HE2.out]
      exact ⟨_, _, _, _, _, rfl, AnsN.no _ _, OwM.nil _ _, HA9.out⟩
  · obtain rfl : p = 0 := Decidable.not_not.1 hp
    obtain rfl : q = 0 := by have := HZ.out rfl; simpa using this
    have HE := hide (show stdN ⟨n, id, te, vo, lo, ro, co, vs, ns, hs⟩ = Nd.stand ⟨n, id, te, vo, lo, ro, co, vs, ns, hs⟩ from if_pos (by rw [HFK.out]))
    have HE2 := hide (show stdM ⟨n, id, te, vo, lo, ro, co, vs, ns, hs⟩ = (Nd.stand ⟨n, id, te, vo, lo, ro, co, vs, ns, hs⟩).asks from if_pos (by rw [HFK.out]))
    obtain ⟨hfine, hmore⟩ := HOK.out rfl
    obtain ⟨sm1, sm2, sm3, sm4⟩ := hfine.small
    have HFI := hide hfine
    have HMO := hide hmore
    clear hp hfine hmore f0 f1
    have HSW := hide (show w.heap.size + 3 ≤ (w1.alloc (.cells #[.int .i64 0, .int .i64 0] 30)).heap.size by have := HS1.out; simp; omega)
    have HCP := hide (copied_any ⟨n, id, te, vo, lo, ro, co, vs, ns, hs⟩ _ _ _ _ _ (HX.out.below HA1.out) (by omega) (by omega) (by omega) (by omega))
    unfold ndV ndA at HCP
    go_upto_region 4 with fail
    generalize hW : w1.alloc (.cells #[.int .i64 0, .int .i64 0] 30) = W at HP1 HR1 HQ1 HA1 HCP HSW ⊢
    clear hW HS1
    go_wp2_with (refine wpList_load_blk HP1.out Try.underlying25 rfl Try.sizeNode rfl rfl rfl ?_)
    refine HCP.out.mono ?_
    rintro e w2 ⟨lab, lv2, vv2, nv2, hv2, rfl, hnw, hlab, hb2⟩
    obtain ⟨lo2, lc2, hs1⟩ := owns_shapeK hnw.log.1
    obtain ⟨vo2, vc2, hs2⟩ := owns_shapeK hnw.vot.1
    obtain ⟨no2, nc2, hs3⟩ := owns_shapeK hnw.nxt.1
    obtain ⟨ho2, hc2', hs4⟩ := owns_shapeK hnw.hav.1
    subst hs1 hs2 hs3 hs4
    have hlay := hnw.lay
    have HPR := hide (stand_any _ ⟨n, id, te, vo, lo, ro, co, vs, ns, hs⟩ _ _ _ _ _ _ hlay HFI.out.n1 HFI.out.n7 HFI.out.id0 HFI.out.idn (by simp only at sm1 ⊢; omega) HFI.out.c0 HFI.out.t0 HFI.out.t1)
    have HLB := hide hlab
    have HB2 := hide hb2
    unfold ndA at HPR
    dsimp only at HPR ⊢
    clear hnw hlab hb2 hlay HCP
    go_wp2_with fail
    refine HPR.out.mono ?_
    rintro e w3 ⟨lab3, vv3, nv3, hv3, rfl, hN3, hC3⟩
    obtain ⟨hbl, hlb3⟩ := laid_below hC3 HLB.out HB2.out.size
    have hb3 := HB2.out.trans hbl
    have HR3 := hide (HR1.out.later hb3)
    have HQ3 := hide (HQ1.out.later hb3)
    have HA3 := hide (HA1.out.trans (hb3.mono HA1.out.size))
    have HAN := hide (hN3.ans hlb3)
    have hnN := stand_n ⟨n, id, te, vo, lo, ro, co, vs, ns, hs⟩
    have hD : Below w3.heap.size w3 w3.drew := Below.drew (Below.refl _ _)
    have HAK := hide (askForVotes_any _ (Nd.stand ⟨n, id, te, vo, lo, ro, co, vs, ns, hs⟩) _ _ _ _ w3.drew (hN3.nr.below hD) (by rw [hnN]; have := HFI.out.n1; simp only at this ⊢; omega) (by rw [hnN]; exact HFI.out.n7))
    obtain ⟨lo3, lc3, hs1⟩ := owns_shapeK hN3.log.1
    obtain ⟨vo3, vc3, hs2⟩ := owns_shapeK hN3.vot.1
    obtain ⟨no3, nc3, hs3⟩ := owns_shapeK hN3.nxt.1
    obtain ⟨ho3, hc3', hs4⟩ := owns_shapeK hN3.hav.1
    have HBN := hide hN3.blk
    rw [hs1] at HAN HBN
    subst hs2 hs3 hs4
    have HD := hide hD
    generalize hST : Nd.stand ⟨n, id, te, vo, lo, ro, co, vs, ns, hs⟩ = S at *
    unfold ndA at HBN
    clear hST hs1 hnN
    have bn0 := HBN.out.cell 0
    have bnz0 := HBN.out.frozen 0
    have bn1 := HBN.out.cell 1
    have bnz1 := HBN.out.frozen 1
    have bn2 := HBN.out.cell 2
    have bnz2 := HBN.out.frozen 2
    have bn3 := HBN.out.cell 3
    have bnz3 := HBN.out.frozen 3
    have bn4 := HBN.out.cell 4
    have bnz4 := HBN.out.frozen 4
    have bn5 := HBN.out.cell 5
    have bnz5 := HBN.out.frozen 5
    have bn6 := HBN.out.cell 6
    have bnz6 := HBN.out.frozen 6
    have bn7 := HBN.out.cell 7
    have bnz7 := HBN.out.frozen 7
    have bn8 := HBN.out.cell 8
    have bnz8 := HBN.out.frozen 8
    have bn9 := HBN.out.cell 9
    have bnz9 := HBN.out.frozen 9
    have bnl := HBN.out.lt
    simp at bn0 bn1 bn2 bn3 bn4 bn5 bn6 bn7 bn8 bn9
    have ra0 := HR3.out.cell 0
    have raz0 := HR3.out.frozen 0
    have ra1 := HR3.out.cell 1
    have raz1 := HR3.out.frozen 1
    have ra2 := HR3.out.cell 2
    have raz2 := HR3.out.frozen 2
    have ra3 := HR3.out.cell 3
    have raz3 := HR3.out.frozen 3
    have ra4 := HR3.out.cell 4
    have raz4 := HR3.out.frozen 4
    have ra5 := HR3.out.cell 5
    have raz5 := HR3.out.frozen 5
    have ra6 := HR3.out.cell 6
    have raz6 := HR3.out.frozen 6
    have ra7 := HR3.out.cell 7
    have raz7 := HR3.out.frozen 7
    have ra8 := HR3.out.cell 8
    have raz8 := HR3.out.frozen 8
    have ra9 := HR3.out.cell 9
    have raz9 := HR3.out.frozen 9
    have ral := HR3.out.lt
    simp at ra0 ra1 ra2 ra3 ra4 ra5 ra6 ra7 ra8 ra9
    have qa0 := HQ3.out.cell 0
    have qaz0 := HQ3.out.frozen 0
    have qa1 := HQ3.out.cell 1
    have qaz1 := HQ3.out.frozen 1
    have qal := HQ3.out.lt
    simp at qa0 qa1
    have hrq : w.heap.size + 1 ≠ w.heap.size + 1 + 1 := by omega
    have hqr : w.heap.size + 1 + 1 ≠ w.heap.size + 1 := by omega
    have hBR : w2.heap.size ≠ w.heap.size + 1 := by have := HB2.out.size; have := HSW.out; omega
    have hBQ : w2.heap.size ≠ w.heap.size + 1 + 1 := by have := HB2.out.size; have := HSW.out; omega
    have HSZ := hide (show W.heap.size ≤ w3.heap.size from hb3.size)
    clear hN3 hC3 hbl hlb3 hb3 HPR HLB hD
    go_wp2_with fail
    go_region_with (go_at_call 33; refine HAK.out.mono ?_; rintro e w5 ⟨mv, rfl, hO5, hb5⟩; have HO5 := hide hO5; have hb6 := HD.out.trans (hb5.mono HD.out.size); have HB6 := hide hb6; have HR5 := hide (HR3.out.later hb6); have HQ5 := hide (HQ3.out.later hb6); have HBN5 := hide (HBN.out.later hb6); clear hO5 hb5 hb6; have bm0 := HBN5.out.cell 0; have bmz0 := HBN5.out.frozen 0; have bm1 := HBN5.out.cell 1; have bmz1 := HBN5.out.frozen 1; have bm2 := HBN5.out.cell 2; have bmz2 := HBN5.out.frozen 2; have bm3 := HBN5.out.cell 3; have bmz3 := HBN5.out.frozen 3; have bm4 := HBN5.out.cell 4; have bmz4 := HBN5.out.frozen 4; have bm5 := HBN5.out.cell 5; have bmz5 := HBN5.out.frozen 5; have bm6 := HBN5.out.cell 6; have bmz6 := HBN5.out.frozen 6; have bm7 := HBN5.out.cell 7; have bmz7 := HBN5.out.frozen 7; have bm8 := HBN5.out.cell 8; have bmz8 := HBN5.out.frozen 8; have bm9 := HBN5.out.cell 9; have bmz9 := HBN5.out.frozen 9; have bml := HBN5.out.lt; simp at bm0 bm1 bm2 bm3 bm4 bm5 bm6 bm7 bm8 bm9; have rb0 := HR5.out.cell 0; have rbz0 := HR5.out.frozen 0; have rb1 := HR5.out.cell 1; have rbz1 := HR5.out.frozen 1; have rb2 := HR5.out.cell 2; have rbz2 := HR5.out.frozen 2; have rb3 := HR5.out.cell 3; have rbz3 := HR5.out.frozen 3; have rb4 := HR5.out.cell 4; have rbz4 := HR5.out.frozen 4; have rb5 := HR5.out.cell 5; have rbz5 := HR5.out.frozen 5; have rb6 := HR5.out.cell 6; have rbz6 := HR5.out.frozen 6; have rb7 := HR5.out.cell 7; have rbz7 := HR5.out.frozen 7; have rb8 := HR5.out.cell 8; have rbz8 := HR5.out.frozen 8; have rb9 := HR5.out.cell 9; have rbz9 := HR5.out.frozen 9; have rbl := HR5.out.lt; simp at rb0 rb1 rb2 rb3 rb4 rb5 rb6 rb7 rb8 rb9; have qb0 := HQ5.out.cell 0; have qbz0 := HQ5.out.frozen 0; have qb1 := HQ5.out.cell 1; have qbz1 := HQ5.out.frozen 1; have qbl := HQ5.out.lt; simp at qb0 qb1)
    all_goals
      obtain ⟨hR9, hQ9, hA9, _, _⟩ := setL_two0 (w := w) (C := w.heap.size) [.int .i64 S.n, .int .i64 S.id, .int .i64 S.term, .int .i64 S.vote, .slice lo3 S.log.length lc3, .int .i64 S.role, .int .i64 S.com, .slice vo3 S.votes.length vc3, .slice no3 S.next.length nc3, .slice ho3 S.hav.length hc3'] [.int .i64 0, .int .i64 0] HR5.out HQ5.out hrq rfl rfl (HA3.out.trans (HB6.out.mono HA3.out.size)) (by omega) (by omega)
      have hN9 := ((HAN.out.below HB6.out).offB (setL_grown (w.heap.size + 1) [.int .i64 S.n, .int .i64 S.id, .int .i64 S.term, .int .i64 S.vote, .slice lo3 S.log.length lc3, .int .i64 S.role, .int .i64 S.com, .slice vo3 S.votes.length vc3, .slice no3 S.next.length nc3, .slice ho3 S.hav.length hc3'] w5 0) (by have := HSW.out; omega)).offB (setL_grown (w.heap.size + 1 + 1) [.int .i64 0, .int .i64 0] _ 0) (by have := HSW.out; omega)
      have hO9 := ((HO5.out.base (b2 := W.heap.size) HSZ.out).offB (setL_grown (w.heap.size + 1) [.int .i64 S.n, .int .i64 S.id, .int .i64 S.term, .int .i64 S.vote, .slice lo3 S.log.length lc3, .int .i64 S.role, .int .i64 S.com, .slice vo3 S.votes.length vc3, .slice no3 S.next.length nc3, .slice ho3 S.hav.length hc3'] w5 0) (by have := HSW.out; omega)).offB (setL_grown (w.heap.size + 1 + 1) [.int .i64 0, .int .i64 0] _ 0) (by have := HSW.out; omega)
      have HR9 := hide hR9
      have HQ9 := hide hQ9
      have HA9 := hide hA9
      have HN9 := hide hN9
      have HO9 := hide hO9
      simp only [setL] at HR9 HQ9 HA9 HN9 HO9
      clear hR9 hQ9 hA9 hN9 hO9 bn0 bnz0 bn1 bnz1 bn2 bnz2 bn3 bnz3 bn4 bnz4 bn5 bnz5 bn6 bnz6 bn7 bnz7 bn8 bnz8 bn9 bnz9 bnl ra0 raz0 ra1 raz1 ra2 raz2 ra3 raz3 ra4 raz4 ra5 raz5 ra6 raz6 ra7 raz7 ra8 raz8 ra9 raz9 ral qa0 qaz0 qa1 qaz1 qal bm0 bmz0 bm1 bmz1 bm2 bmz2 bm3 bmz3 bm4 bmz4 bm5 bmz5 bm6 bmz6 bm7 bmz7 bm8 bmz8 bm9 bmz9 bml rb0 rbz0 rb1 rbz1 rb2 rbz2 rb3 rbz3 rb4 rbz4 rb5 rbz5 rb6 rbz6 rb7 rbz7 rb8 rbz8 rb9 rbz9 rbl qb0 qbz0 qb1 qbz1 qbl
      generalize ((((((((((((w5.setCell ⟨w.heap.size + 1, 0, none⟩ (.int .i64 S.n)).setCell ⟨w.heap.size + 1, 1, none⟩ (.int .i64 S.id)).setCell ⟨w.heap.size + 1, 2, none⟩ (.int .i64 S.term)).setCell ⟨w.heap.size + 1, 3, none⟩ (.int .i64 S.vote)).setCell ⟨w.heap.size + 1, 4, none⟩ (.slice lo3 S.log.length lc3)).setCell ⟨w.heap.size + 1, 5, none⟩ (.int .i64 S.role)).setCell ⟨w.heap.size + 1, 6, none⟩ (.int .i64 S.com)).setCell ⟨w.heap.size + 1, 7, none⟩ (.slice vo3 S.votes.length vc3)).setCell ⟨w.heap.size + 1, 8, none⟩ (.slice no3 S.next.length nc3)).setCell ⟨w.heap.size + 1, 9, none⟩ (.slice ho3 S.hav.length hc3')).setCell ⟨w.heap.size + 1 + 1, 0, none⟩ (.int .i64 0)).setCell ⟨w.heap.size + 1 + 1, 1, none⟩ (.int .i64 0)) = wz at HR9 HQ9 HA9 HN9 HO9 ⊢
      go_wp2_with fail
      refine bodyPost_ret (results3_ctc Try.results10 rfl rfl rfl (run_loadVar_blk HR9.out Try.underlying25 rfl Try.sizeNode) (run_loadVar_blk HQ9.out Try.underlying30 rfl Try.sizeFaultR)) rfl ?_
      rw [HE.out, HE2.out]
      exact ⟨_, _, _, _, _, rfl, HN9.out.base (by have := HSW.out; omega), HO9.out.base (by have := HSW.out; omega), HA9.out⟩

end Go.Proofs.Ytbffmdhogehfnaa

/-
  The walks over the document's answers of logs: LogFault, LogsFault, PlaceFault, SameLog, CopyLog, LastTerm, OlderLog. (Written by er1.py.)
-/
namespace Go.Proofs.Ytbffmdhogehfnaa
open Go.RowKit
set_option linter.unusedVariables false

/-- The Term ahead of a place. -/
def Prev (l : List Et) (j : Nat) (a : Int) : Prop := (j = 0 ∧ a = 0) ∨ ∃ k p, j = k + 1 ∧ l[k]? = some p ∧ a = p.term

set_option maxRecDepth 100000 in
set_option maxHeartbeats 2000000 in
theorem LogFault_any (v : Value) (l : List Et) (w : World) (hv : RdG eE w v l) :
    Calls Try.prog 42 #[v] w fun e w' => e = .returned (flt (chkE l)) ∧ Below w.heap.size w w' := by
  have HF : Hid (chkE l = if 100 < l.length then (2, -1) else chkGo 0 0 l) := hide rfl
  have HV := hide hv
  obtain ⟨ao, cap, rfl, hc1, hc2⟩ := hv.shape
  unfold maxLen at hc2
  have HR0 := hide (Blk.new w 30 #[.int .i64 0, .int .i64 0])
  have HB0 := hide (below_allocG w (.cells #[.int .i64 0, .int .i64 0] 30))
  clear hv
  by_cases h1 : 100 < l.length
  · have HE := hide (HF.out.trans (if_pos h1))
    go_enter Try.func42, Try.ntmps42
    go_wp2_with (first
      | (go_at_call 40; refine (lF_any _ _ _).mono ?_; rintro e w2 ⟨rfl, hb2⟩; have HR2 := hide (HR0.out.later hb2); have HB2 := hide (HB0.out.trans (hb2.mono HB0.out.size)); clear hb2; unfold flt)
      | (refine wpList_store_blk rfl rfl rfl rfl HR2.out rfl Try.sizeFaultE rfl ?_; intro w8 hR8 hg8; have HR8 := hide hR8; have HG8 := hide hg8; clear hR8 hg8))
    refine bodyPost_ret (v := .agg #[.int .i64 (2), .int .i64 (-1)]) (results1_cell Try.results42 rfl (run_loadVar_blk HR8.out Try.underlying30 rfl Try.sizeFaultE)) rfl ?_
    exact ⟨by rw [HE.out] <;> rfl, below_grownO HB2.out HG8.out (fun k hk => by cases hk; omega) HB2.out.size⟩
  have HFa := hide (HF.out.trans (if_neg h1))
  clear HF
  go_enter Try.func42, Try.ntmps42
  go_wp2_with fail
  go_loopw [3] (fun iv wr => ∃ (j : Nat) (a : Int), j ≤ l.length ∧ iv = .int .i64 j ∧ Prev l j a ∧ chkGo a j (l.drop j) = chkGo 0 0 l ∧ Below (w.heap.size + 1) (w.alloc (.cells #[.int .i64 0, .int .i64 0] 30)) wr)
    (fun iv _ => l.length - (intOf iv).toNat)
  case atStart => exact ⟨0, 0, by omega, rfl, .inl ⟨rfl, rfl⟩, rfl, Below.refl _ _⟩
  case round =>
    obtain ⟨j, a, hj, rfl, hprev, hgo, hbr⟩ := hrel
    have HPR := hide hprev
    have HGO := hide hgo
    have hbw := HB0.out.trans (hbr.mono (by omega))
    have HBW := hide hbw
    have HBR := hide hbr
    have HRr := hide (HR0.out.below hbr (by omega))
    have hrl := HRr.out.lt
    clear hgo hprev
    by_cases hlt : j < l.length
    · obtain ⟨c, hc⟩ : ∃ c, l[j]? = some c := ⟨_, List.getElem?_eq_getElem hlt⟩
      rw [drop_consE hc, chkGo] at HGO
      have HC := hide hc
      obtain ⟨b, off, rfl, hb, hat⟩ := HV.out.here hc
      obtain ⟨q0, q1⟩ := hat.ent
      have r0 := cell_belowG q0 hbw
      have r1 := cell_belowG q1 hbw
      have hb' : b < wr.heap.size := Nat.lt_of_lt_of_le hb hbw.size
      have hk1 : (0 : Int) ≤ (j : Int) := by omega
      have hk2 : (j : Int) < (l.length : Int) := by omega
      obtain ⟨t, x⟩ := c
      simp only at r0 r1 HGO
      have HCB : Hid (codeB a ⟨t, x⟩ = if t = 0 ∨ numL t = false then 3 else if t < a then 11 else if 200 < x.size then 8 else 0) := hide rfl
      generalize codeB a ⟨t, x⟩ = K at *
      clear q0 q1 hat hc hbw hbr
      by_cases h1 : t < 1
      · have hK : K = 3 := HCB.out.trans (if_pos (by by_cases h0 : t = 0; exact .inl h0; right; rw [Bool.eq_false_iff]; intro q; have := numL_iff.1 q; omega))
        have HE := hide (show chkE l = (3, (j : Int)) by rw [HFa.out, ← HGO.out, hK]; rfl)
        have hd : decide (t < 1) = true := decide_eq_true h1
        clear hK
        go_wp2_with (first
          | (go_at_call 40; refine (lF_any _ _ _).mono ?_; rintro e w2 ⟨rfl, hb2⟩; have HR2 := hide (HRr.out.later hb2); have HB2 := hide (HBW.out.trans (hb2.mono HBW.out.size)); clear hb2; unfold flt)
          | (refine wpList_store_blk rfl rfl rfl rfl HR2.out rfl Try.sizeFaultE rfl ?_; intro w8 hR8 hg8; have HR8 := hide hR8; have HG8 := hide hg8; clear hR8 hg8))
        refine bodyPost_ret (v := .agg #[.int .i64 (3), .int .i64 (j)]) (results1_cell Try.results42 rfl (run_loadVar_blk HR8.out Try.underlying30 rfl Try.sizeFaultE)) rfl ?_
        exact ⟨by rw [HE.out] <;> rfl, below_grownO HB2.out HG8.out (fun k hk => by cases hk; omega) HB2.out.size⟩
      have hd : decide (t < 1) = false := decide_eq_false h1
      by_cases h2 : 1000000000 < t
      · have hK : K = 3 := HCB.out.trans (if_pos (by right; rw [Bool.eq_false_iff]; intro q; have := numL_iff.1 q; omega))
        have HE := hide (show chkE l = (3, (j : Int)) by rw [HFa.out, ← HGO.out, hK]; rfl)
        have hd2 : decide (1000000000 < t) = true := decide_eq_true h2
        clear hK
        go_wp2_with (first
          | (go_at_call 40; refine (lF_any _ _ _).mono ?_; rintro e w2 ⟨rfl, hb2⟩; have HR2 := hide (HRr.out.later hb2); have HB2 := hide (HBW.out.trans (hb2.mono HBW.out.size)); clear hb2; unfold flt)
          | (refine wpList_store_blk rfl rfl rfl rfl HR2.out rfl Try.sizeFaultE rfl ?_; intro w8 hR8 hg8; have HR8 := hide hR8; have HG8 := hide hg8; clear hR8 hg8))
        refine bodyPost_ret (v := .agg #[.int .i64 (3), .int .i64 (j)]) (results1_cell Try.results42 rfl (run_loadVar_blk HR8.out Try.underlying30 rfl Try.sizeFaultE)) rfl ?_
        exact ⟨by rw [HE.out] <;> rfl, below_grownO HB2.out HG8.out (fun k hk => by cases hk; omega) HB2.out.size⟩
      have hd2 : decide (1000000000 < t) = false := decide_eq_false h2
      have HCC := hide (HCB.out.trans (if_neg (by rw [numL_true (by omega) (by omega)]; simp; omega)))
      clear HCB
      go_upto_region 8 with fail
      go_cut [45] (fun x wc => x = .bool (decide (t < a)) ∧ Below wr.heap.size wr wc)
      case first =>
        rcases HPR.out with ⟨hj0, ha0⟩ | ⟨k, p, hjk, hp, ha⟩
        · have HD := hide (show decide (t < a) = false by rw [ha0]; exact decide_eq_false (by omega))
          have hd3 : decide (0 < (j : Int)) = false := decide_eq_false (by omega)
          have hd4 : decide (0 < j) = false := decide_eq_false (by omega)
          clear hj0 ha0
          go_quiet (fail)
          go_wp2_with fail
          go_meet
          case rel => exact ⟨by rw [HD.out], below_drewN (Below.refl _ _) _⟩
        · obtain ⟨b2, off2, hao, hb2, hat2⟩ := HV.out.here hp
          cases hao
          obtain ⟨q0, q1⟩ := (hat2.below HBW.out).ent
          have hd3 : decide (0 < (j : Int)) = true := decide_eq_true (by omega)
          have hd4 : decide (0 < j) = true := decide_eq_true (by omega)
          have hwk : IntKind.i64.wrap ((j : Int) - 1) = (k : Int) := by rw [IntKind.wrap_i64]; omega
          have hk3 : (0 : Int) ≤ (k : Int) := by omega
          have hk4 : (k : Int) < (l.length : Int) := by omega
          have HA := hide ha
          clear hjk hp ha hat2
          go_quiet (fail)
          go_wp2_with fail
          go_meet
          case rel => exact ⟨by rw [HA.out], below_drewN (Below.refl _ _) _⟩
      case rest =>
        obtain ⟨rfl, hbc⟩ := hcut
        have s0 := cell_belowG r0 hbc
        have s1 := cell_belowG r1 hbc
        have hb2 : b < wc.heap.size := Nat.lt_of_lt_of_le hb' hbc.size
        have HRc := hide (HRr.out.later hbc)
        have HBc := hide (HBW.out.trans (hbc.mono HBW.out.size))
        have HBd := hide (HBR.out.trans (hbc.mono hrl))
        clear r0 r1 hbc
        by_cases h3 : t < a
        · have hK : K = 11 := HCC.out.trans (if_pos h3)
          have HE := hide (show chkE l = (11, (j : Int)) by rw [HFa.out, ← HGO.out, hK]; rfl)
          have hd3 : decide (t < a) = true := decide_eq_true h3
          clear hK
          go_wp2_with (first
            | (go_at_call 40; refine (lF_any _ _ _).mono ?_; rintro e w2 ⟨rfl, hb2⟩; have HR2 := hide (HRc.out.later hb2); have HB2 := hide (HBc.out.trans (hb2.mono HBc.out.size)); clear hb2; unfold flt)
            | (refine wpList_store_blk rfl rfl rfl rfl HR2.out rfl Try.sizeFaultE rfl ?_; intro w8 hR8 hg8; have HR8 := hide hR8; have HG8 := hide hg8; clear hR8 hg8))
          refine bodyPost_ret (v := .agg #[.int .i64 (11), .int .i64 (j)]) (results1_cell Try.results42 rfl (run_loadVar_blk HR8.out Try.underlying30 rfl Try.sizeFaultE)) rfl ?_
          exact ⟨by rw [HE.out] <;> rfl, below_grownO HB2.out HG8.out (fun k hk => by cases hk; omega) HB2.out.size⟩
        have hd3 : decide (t < a) = false := decide_eq_false h3
        have HCD := hide (HCC.out.trans (if_neg h3))
        by_cases h4 : 200 < x.size
        · have hK : K = 8 := HCD.out.trans (if_pos h4)
          have HE := hide (show chkE l = (8, (j : Int)) by rw [HFa.out, ← HGO.out, hK]; rfl)
          clear hK
          go_wp2_with (first
            | (go_at_call 40; refine (lF_any _ _ _).mono ?_; rintro e w2 ⟨rfl, hb2⟩; have HR2 := hide (HRc.out.later hb2); have HB2 := hide (HBc.out.trans (hb2.mono HBc.out.size)); clear hb2; unfold flt)
            | (refine wpList_store_blk rfl rfl rfl rfl HR2.out rfl Try.sizeFaultE rfl ?_; intro w8 hR8 hg8; have HR8 := hide hR8; have HG8 := hide hg8; clear hR8 hg8))
          refine bodyPost_ret (v := .agg #[.int .i64 (8), .int .i64 (j)]) (results1_cell Try.results42 rfl (run_loadVar_blk HR8.out Try.underlying30 rfl Try.sizeFaultE)) rfl ?_
          exact ⟨by rw [HE.out] <;> rfl, below_grownO HB2.out HG8.out (fun k hk => by cases hk; omega) HB2.out.size⟩
        · have hK : K = 0 := HCD.out.trans (if_neg h4)
          have HS := hide (show chkGo t (j + 1) (l.drop (j + 1)) = chkGo 0 0 l by rw [← HGO.out, hK]; rfl)
          clear hK
          go_wp2_with fail
          go_roundw
          case rel => exact ⟨j + 1, t, by omega, by go_num, .inr ⟨j, ⟨t, x⟩, rfl, HC.out, rfl⟩, HS.out, HBd.out⟩
          case measure => simp [intOf]; omega
    · have hje : j = l.length := by omega
      subst hje
      rw [List.drop_length, chkGo] at HGO
      have HE := hide (HFa.out.trans HGO.out.symm)
      clear hbw hbr
      go_wp2_with (refine wpList_store_blk rfl rfl rfl rfl HRr.out rfl Try.sizeFaultE rfl ?_; intro w8 hR8 hg8; have HR8 := hide hR8; have HG8 := hide hg8; clear hR8 hg8)
      refine bodyPost_ret (v := .agg #[.int .i64 (0), .int .i64 (0)]) (results1_cell Try.results42 rfl (run_loadVar_blk HR8.out Try.underlying30 rfl Try.sizeFaultE)) rfl ?_
      exact ⟨by rw [HE.out] <;> rfl, below_grownO HBW.out HG8.out (fun k hk => by cases hk; omega) HBW.out.size⟩

set_option maxRecDepth 100000 in
set_option maxHeartbeats 1000000 in
theorem PlaceFault_any (n t : Int) (w : World) : Calls Try.prog 79 #[.int .i64 n, .int .i64 t] w fun e w' => e = .returned (flt (plF n t)) ∧ Below w.heap.size w w' := by
  have HF : Hid (plF n t = if numL n = false then (3, -1) else if numL t = false then (3, -2) else (0, 0)) := hide rfl
  have HR0 := hide (Blk.new w 30 #[.int .i64 0, .int .i64 0])
  have HB0 := hide (below_allocG w (.cells #[.int .i64 0, .int .i64 0] 30))
  cases h1 : numL n
  · have HE := hide (HF.out.trans (if_pos h1))
    have HN := hide h1
    clear h1
    go_enter Try.func79, Try.ntmps79
    go_wp2_with fail
    refine (lNum_any n _).mono ?_
    rw [HN.out]
    rintro e w1 ⟨rfl, rfl⟩
    go_wp2_with (first
      | (go_at_call 40; refine (lF_any _ _ _).mono ?_; rintro e w2 ⟨rfl, hb2⟩; have HR2 := hide (HR0.out.later hb2); have HB2 := hide (HB0.out.trans (hb2.mono HB0.out.size)); clear hb2; unfold flt)
      | (refine wpList_store_blk rfl rfl rfl rfl HR2.out rfl Try.sizeFaultE rfl ?_; intro w8 hR8 hg8; have HR8 := hide hR8; have HG8 := hide hg8; clear hR8 hg8))
    refine bodyPost_ret (v := .agg #[.int .i64 (3), .int .i64 (-1)]) (results1_cell Try.results79 rfl (run_loadVar_blk HR8.out Try.underlying30 rfl Try.sizeFaultE)) rfl ?_
    exact ⟨by rw [HE.out] <;> rfl, below_grownO HB2.out HG8.out (fun k hk => by cases hk; omega) HB2.out.size⟩
  have HFa := hide (HF.out.trans (if_neg (by rw [h1]; simp)))
  cases h2 : numL t
  · have HE := hide (HFa.out.trans (if_pos h2))
    have HN := hide h1
    have HT := hide h2
    clear h1 h2
    go_enter Try.func79, Try.ntmps79
    go_wp2_with fail
    refine (lNum_any n _).mono ?_
    rw [HN.out]
    rintro e w1 ⟨rfl, rfl⟩
    go_wp2_with fail
    refine (lNum_any t _).mono ?_
    rw [HT.out]
    rintro e w1 ⟨rfl, rfl⟩
    go_wp2_with (first
      | (go_at_call 40; refine (lF_any _ _ _).mono ?_; rintro e w2 ⟨rfl, hb2⟩; have HR2 := hide (HR0.out.later hb2); have HB2 := hide (HB0.out.trans (hb2.mono HB0.out.size)); clear hb2; unfold flt)
      | (refine wpList_store_blk rfl rfl rfl rfl HR2.out rfl Try.sizeFaultE rfl ?_; intro w8 hR8 hg8; have HR8 := hide hR8; have HG8 := hide hg8; clear hR8 hg8))
    refine bodyPost_ret (v := .agg #[.int .i64 (3), .int .i64 (-2)]) (results1_cell Try.results79 rfl (run_loadVar_blk HR8.out Try.underlying30 rfl Try.sizeFaultE)) rfl ?_
    exact ⟨by rw [HE.out] <;> rfl, below_grownO HB2.out HG8.out (fun k hk => by cases hk; omega) HB2.out.size⟩
  · have HE := hide (HFa.out.trans (if_neg (by rw [h2]; simp)))
    have HN := hide h1
    have HT := hide h2
    clear h1 h2
    go_enter Try.func79, Try.ntmps79
    go_wp2_with fail
    refine (lNum_any n _).mono ?_
    rw [HN.out]
    rintro e w1 ⟨rfl, rfl⟩
    go_wp2_with fail
    refine (lNum_any t _).mono ?_
    rw [HT.out]
    rintro e w1 ⟨rfl, rfl⟩
    go_wp2_with (refine wpList_store_blk rfl rfl rfl rfl HR0.out rfl Try.sizeFaultE rfl ?_; intro w8 hR8 hg8; have HR8 := hide hR8; have HG8 := hide hg8; clear hR8 hg8)
    refine bodyPost_ret (v := .agg #[.int .i64 (0), .int .i64 (0)]) (results1_cell Try.results79 rfl (run_loadVar_blk HR8.out Try.underlying30 rfl Try.sizeFaultE)) rfl ?_
    exact ⟨by rw [HE.out] <;> rfl, below_grownO HB0.out HG8.out (fun k hk => by cases hk; omega) HB0.out.size⟩

set_option maxRecDepth 100000 in
set_option maxHeartbeats 1000000 in
theorem LogsFault_any (v u : Value) (a b : List Et) (w : World) (hv : RdG eE w v a) (hu : RdG eE w u b) :
    Calls Try.prog 78 #[v, u] w fun e w' => e = .returned (flt (bothF a b)) ∧ Below w.heap.size w w' := by
  have HF : Hid (bothF a b = if (chkE a).1 ≠ 0 then chkE a else secF (chkE b)) := hide rfl
  have HI := hide (LogFault_any v a _ (hv.alloc (.cells #[.int .i64 0, .int .i64 0] 30)))
  have HU := hide hu
  obtain ⟨ao, cap, rfl, _, _⟩ := hv.shape
  obtain ⟨bo, cbp, rfl, _, _⟩ := hu.shape
  have HR0 := hide (Blk.new w 30 #[.int .i64 0, .int .i64 0])
  have HB0 := hide (below_allocG w (.cells #[.int .i64 0, .int .i64 0] 30))
  have HZ := hide (chkE_z a)
  have HZ2 := hide (chkE_z b)
  have HS : Hid (secF (chkE b) = if (chkE b).1 ≠ 0 then ((chkE b).1, (chkE b).2 - 1000) else (0, 0)) := hide rfl
  have hbd := chkE_at (l := b)
  have HI2 := hide (fun W (h : RdG eE W (.slice bo b.length cbp) b) => LogFault_any _ b W h)
  generalize hK : chkE a = K at *
  obtain ⟨x, y⟩ := K
  generalize hP : chkE b = P at *
  obtain ⟨p, q⟩ := P
  clear hv hK hP hu
  simp only at HS hbd
  have hw1 : IntKind.i64.wrap (q - 1000) = q - 1000 := by rw [IntKind.wrap_i64]; omega
  clear hbd
  go_enter Try.func78, Try.ntmps78
  go_wp2_with fail
  refine HI.out.mono ?_
  rintro e w1 ⟨rfl, hb1⟩
  have HBW := hide ((HB0.out.trans (hb1.mono HB0.out.size)).trans ((below_allocG w1 (.cells #[.int .i64 x, .int .i64 y] 30)).mono (HB0.out.trans (hb1.mono HB0.out.size)).size))
  have HR := hide ((HR0.out.later hb1).later (below_allocG w1 (.cells #[.int .i64 x, .int .i64 y] 30)))
  have HN1 := hide (Blk.new w1 30 #[.int .i64 x, .int .i64 y])
  have hrl := (HR0.out.later hb1).lt
  clear hb1 HI HR0 HB0
  unfold flt
  by_cases hx : x ≠ 0
  · have HE := hide (HF.out.trans (if_pos hx))
    have hq : (x == 0) = false := beq_eq_false_iff_ne.2 hx
    clear hx
    go_wp2_with (refine wpList_store_blk rfl rfl rfl rfl HR.out rfl Try.sizeFaultE rfl ?_; intro w8 hR8 hg8; have HR8 := hide hR8; have HG8 := hide hg8; clear hR8 hg8)
    refine bodyPost_ret (v := .agg #[.int .i64 (x), .int .i64 (y)]) (results1_cell Try.results78 rfl (run_loadVar_blk HR8.out Try.underlying30 rfl Try.sizeFaultE)) rfl ?_
    exact ⟨by rw [HE.out] <;> rfl, below_grownO HBW.out HG8.out (fun k hk => by cases hk; omega) HBW.out.size⟩
  · have HE0 := hide (HF.out.trans (if_neg hx))
    obtain rfl : x = 0 := Decidable.not_not.1 hx
    obtain rfl : y = 0 := by have := HZ.out rfl; simpa using this
    clear hx
    go_wp2_with fail
    refine (HI2.out _ (HU.out.below HBW.out)).mono ?_
    rintro e w2 ⟨rfl, hb2⟩
    have HB2 := hide (HBW.out.trans (hb2.mono HBW.out.size))
    have HR2 := hide (HR.out.later hb2)
    have HN2 := hide (HN1.out.later hb2)
    have hn2 := HN2.out.lt
    clear hb2
    unfold flt
    go_upto_region 4 with (refine wpList_store_blk rfl rfl rfl rfl HN2.out rfl Try.sizeFaultE rfl ?_; intro w3 hN3 hg3; have HN3 := hide hN3; have HR3 := hide (HR2.out.grown hg3 (fun z => by simp at z; omega)); have HB3 := hide (below_grownO HB2.out hg3 (fun k hk => by cases hk; omega) HB2.out.size); clear hN3 hg3)
    have c0 := HN3.out.cell 0
    have c1 := HN3.out.cell 1
    have cl := HN3.out.lt
    simp at c0 c1
    by_cases hp : p ≠ 0
    · have HE := hide (HE0.out.trans (HS.out.trans (if_pos hp)))
      have hq : (p == 0) = false := beq_eq_false_iff_ne.2 hp
      have hq2 : (p != 0) = true := by simp [hp]
      clear hp
      go_wp2_with (first
        | (refine wpList_store_int (k := 1) rfl rfl rfl rfl HN3.out rfl Try.sizeIntE ?_; intro w7 hN7 hg7; have HN7 := hide hN7; have HR7 := hide (HR3.out.grown hg7 (fun z => by simp at z; omega)); have HB7 := hide (below_grownO HB3.out hg7 (fun k hk => by cases hk; omega) HB3.out.size); clear hN7 hg7)
        | (refine wpList_load_blk HN7.out Try.underlying30 rfl Try.sizeFaultE rfl rfl rfl ?_)
        | (refine wpList_store_blk rfl rfl rfl rfl HR7.out rfl Try.sizeFaultE rfl ?_; intro w8 hR8 hg8; have HR8 := hide hR8; have HG8 := hide hg8; clear hR8 hg8))
      refine bodyPost_ret (v := .agg #[.int .i64 (p), .int .i64 (q - 1000)]) (results1_cell Try.results78 rfl (run_loadVar_blk HR8.out Try.underlying30 rfl Try.sizeFaultE)) rfl ?_
      exact ⟨by rw [HE.out] <;> rfl, below_grownO HB7.out HG8.out (fun k hk => by cases hk; omega) HB7.out.size⟩
    · have HE := hide (HE0.out.trans (HS.out.trans (if_neg hp)))
      obtain rfl : p = 0 := Decidable.not_not.1 hp
      obtain rfl : q = 0 := by have := HZ2.out rfl; simpa using this
      clear hp
      go_wp2_with (refine wpList_store_blk rfl rfl rfl rfl HR3.out rfl Try.sizeFaultE rfl ?_; intro w8 hR8 hg8; have HR8 := hide hR8; have HG8 := hide hg8; clear hR8 hg8)
      refine bodyPost_ret (v := .agg #[.int .i64 (0), .int .i64 (0)]) (results1_cell Try.results78 rfl (run_loadVar_blk HR8.out Try.underlying30 rfl Try.sizeFaultE)) rfl ?_
      exact ⟨by rw [HE.out] <;> rfl, below_grownO HB3.out HG8.out (fun k hk => by cases hk; omega) HB3.out.size⟩

set_option maxRecDepth 100000 in
set_option maxHeartbeats 1000000 in
theorem SameLog_q (v u : Value) (l : List Et) (w : World) (hv : RdG eE w v l) (hu : RdG eE w u l) :
    Calls Try.prog 24 #[v, u] w fun e w' => e = .returned (.bool true) ∧ ∃ m, w' = w.drewN m := by
  obtain ⟨ao, cap, hvv, hc1, hc2⟩ := hv.shape
  obtain ⟨bo, cbp, huu, hd1, hd2⟩ := hu.shape
  subst hvv huu
  unfold maxLen at hc2 hd2
  have hnb : ((l.length : Int) != l.length) = false := by simp
  go_enter Try.func24, Try.ntmps24
  go_wp2_with fail
  go_loopw [5] (fun i wr => ∃ (k m : Nat), k ≤ l.length ∧ i = .int .i64 k ∧ wr = w.drewN m)
    (fun i _ => l.length - (intOf i).toNat)
  case atStart => exact ⟨0, 0, by omega, rfl, rfl⟩
  case round =>
    obtain ⟨k, m, hk, rfl, rfl⟩ := hrel
    by_cases hlt : k < l.length
    · obtain ⟨p, hp⟩ : ∃ p, l[k]? = some p := ⟨_, List.getElem?_eq_getElem hlt⟩
      obtain ⟨b, off, rfl, hb, hat⟩ := hv.here hp
      obtain ⟨b2, off2, rfl, hb2, hat2⟩ := hu.here hp
      obtain ⟨c0, c1⟩ := hat.ent
      obtain ⟨d0, d1⟩ := hat2.ent
      have hk1 : (0 : Int) ≤ (k : Int) := by omega
      have hk2 : (k : Int) < (l.length : Int) := by omega
      clear hat hat2 hp hv hu
      go_wp2_with fail
      go_quiet (fail)
      go_wp2_with fail
      go_roundw
      case rel => exact ⟨k + 1, _, by omega, by go_num, by first | rfl | rw [World.drewN_drewN]⟩
      case measure => simp [intOf]; omega
    · go_wp2_with fail
      go_ret
      exact ⟨rfl, m, rfl⟩

theorem SameLog_any (v u : Value) (l : List Et) (w : World) (hv : RdG eE w v l) (hu : RdG eE w u l) :
    Calls Try.prog 24 #[v, u] w fun e w' => e = .returned (.bool true) ∧ Below w.heap.size w w' :=
  (SameLog_q v u l w hv hu).mono fun _ _ ⟨h, m, hm⟩ => ⟨h, by rw [hm]; exact below_drewN (Below.refl _ _) _⟩

set_option maxRecDepth 100000 in
set_option maxHeartbeats 400000 in
theorem CopyLog_any (v : Value) (l : List Et) (w : World) (hv : RdG eE w v l) (hl : l.length ≤ 1000000) :
    Calls Try.prog 22 #[v] w fun e w' => ∃ v', e = .returned v' ∧ w'.ownsRow w.heap.size 65 2 v' l.length (eE.vs l) ∧ Below w.heap.size w w' := by
  obtain ⟨ao, cap, hvv, hc1, hc2⟩ := hv.shape
  subst hvv
  have hl2 : 0 + l.length ≤ 1000000000 := by omega
  go_enter Try.func22, Try.ntmps22
  go_wp2_with (at_builtin; go_must (refine wpList_append_rdG (cs := []) (World.ownsRow_nil w w.heap.size 65 2) hv Try.underlying22 infoEntry rfl rfl rfl rfl rfl hl2 (by decide) (Nat.le_refl _) ?_); intro v1 w1 ho1 hb1 hg1; clear hg1)
  go_ret
  exact ⟨_, rfl, by simpa using ho1, hb1⟩

set_option maxRecDepth 100000 in
set_option maxHeartbeats 1000000 in
theorem LastTerm_any (v : Value) (l : List Et) (w : World) (hv : RdG eE w v l) :
    Calls Try.prog 43 #[v] w fun e w' => e = .returned (.int .i64 (lastT l)) ∧ w' = w := by
  obtain ⟨ao, cap, rfl, hc1, hc2⟩ := hv.shape
  unfold maxLen at hc2
  by_cases h0 : l.length = 0
  · obtain rfl : l = [] := List.eq_nil_of_length_eq_zero h0
    clear hv h0
    go_enter Try.func43, Try.ntmps43
    go_wp2_with fail
    go_ret
    exact ⟨rfl, rfl⟩
  · obtain ⟨k, hk⟩ : ∃ k, k + 1 = l.length := ⟨l.length - 1, by omega⟩
    obtain ⟨x, hx⟩ : ∃ x, l[k]? = some x := ⟨_, List.getElem?_eq_getElem (by omega)⟩
    have HE := hide (lastT_at hx hk)
    obtain ⟨b, off, rfl, hb, hat⟩ := hv.here hx
    obtain ⟨q0, q1⟩ := hat.ent
    have h1 : IntKind.i64.wrap ((l.length : Int) - 1) = (k : Int) := by rw [IntKind.wrap_i64]; omega
    have h2 : (0 : Int) ≤ (k : Int) := by omega
    have h3 : (k : Int) < (l.length : Int) := by omega
    have h4 : ((l.length : Int) == 0) = false := beq_eq_false_iff_ne.2 (by omega)
    clear hv hat hx hk
    go_enter Try.func43, Try.ntmps43
    go_wp2_with fail
    go_ret
    exact ⟨by rw [HE.out]; rfl, rfl⟩

set_option maxRecDepth 100000 in
set_option maxHeartbeats 1000000 in
theorem OlderLog_any (v : Value) (l : List Et) (n t : Int) (w : World) (hv : RdG eE w v l) :
    Calls Try.prog 53 #[v, .int .i64 n, .int .i64 t] w fun e w' => e = .returned (.bool (oldB l n t)) ∧ w' = w := by
  have HO : Hid (oldB l n t = decide (lastT l < t ∨ (lastT l = t ∧ (l.length : Int) < n))) := hide rfl
  have HL := hide (LastTerm_any v l w hv)
  obtain ⟨ao, cap, rfl, hc1, hc2⟩ := hv.shape
  generalize lastT l = T at *
  clear hv
  by_cases h2 : T = t
  · have HE := hide (show oldB l n t = decide ((l.length : Int) < n) by rw [HO.out]; simp [h2])
    have hq : (T != t) = false := by simp [h2]
    clear h2
    go_enter Try.func53, Try.ntmps53
    go_wp2_with (go_at_call 43; refine HL.out.mono ?_; rintro e w2 ⟨rfl, rfl⟩)
    go_ret
    exact ⟨by rw [HE.out]; rfl, rfl⟩
  · have HE := hide (show oldB l n t = decide (T < t) by rw [HO.out]; simp [h2])
    have hq : (T != t) = true := by simp [h2]
    clear h2
    go_enter Try.func53, Try.ntmps53
    go_wp2_with (go_at_call 43; refine HL.out.mono ?_; rintro e w2 ⟨rfl, rfl⟩)
    go_ret
    exact ⟨by rw [HE.out]; rfl, rfl⟩

end Go.Proofs.Ytbffmdhogehfnaa

/-
  The walk over the document's SameMails, of the same. (Written by rr7.py.)
-/
namespace Go.Proofs.Ytbffmdhogehfnaa
open Go.RowKit Go.Maps
set_option linter.unusedVariables false

theorem RdM.here {w : World} {ao : Option Addr} {n cap : Nat} {ms : List Ml} (h : RdM w (.slice ao n cap) ms) {i : Nat} {m : Ml} (hi : ms[i]? = some m) :
    ∃ b off so sc, ao = some ⟨b, off, none⟩ ∧ b < w.heap.size ∧ w.cell? ⟨b, off + i * 9, none⟩ = some (.int .i64 m.kind) ∧ w.cell? ⟨b, off + i * 9 + 1, none⟩ = some (.int .i64 m.frm) ∧ w.cell? ⟨b, off + i * 9 + 2, none⟩ = some (.int .i64 m.to_) ∧ w.cell? ⟨b, off + i * 9 + 3, none⟩ = some (.int .i64 m.term) ∧ w.cell? ⟨b, off + i * 9 + 4, none⟩ = some (.int .i64 m.a) ∧ w.cell? ⟨b, off + i * 9 + 5, none⟩ = some (.int .i64 m.b) ∧ w.cell? ⟨b, off + i * 9 + 6, none⟩ = some (.int .i64 m.c) ∧ w.cell? ⟨b, off + i * 9 + 7, none⟩ = some (.slice so m.ents.length sc) ∧ w.cell? ⟨b, off + i * 9 + 8, none⟩ = some (.bool m.ok) ∧ RdG eE w (.slice so m.ents.length sc) m.ents := by
  obtain ⟨fs, h1, h2, h3⟩ := h
  obtain ⟨f, hf, rfl⟩ : ∃ f, fs[i]? = some f ∧ f.m = m := by
    rw [← h2, List.getElem?_map] at hi
    cases hq : fs[i]? with
    | none => rw [hq] at hi; cases hi
    | some f => rw [hq] at hi; cases hi; exact ⟨f, rfl, rfl⟩
  obtain ⟨b, off, rfl, hb, hat⟩ := h1.here hf
  have he := h3 f (List.mem_of_getElem? hf)
  have hl : f.s.n = f.m.ents.length := he.len.1
  have c7 := hat 7 _ rfl
  refine ⟨b, off, f.s.ao, f.s.c, rfl, hb, hat 0 _ rfl, hat 1 _ rfl, hat 2 _ rfl, hat 3 _ rfl, hat 4 _ rfl, hat 5 _ rfl, hat 6 _ rfl, ?_, hat 8 _ rfl, ?_⟩
  · rw [← hl]; exact c7
  · rw [← hl]; exact he

theorem RdM.shape {w : World} {v : Value} {ms : List Ml} (h : RdM w v ms) : ∃ ao cap, v = .slice ao ms.length cap ∧ ms.length ≤ cap ∧ cap ≤ maxLen := by
  obtain ⟨fs, h1, h2, _⟩ := h
  have hl : fs.length = ms.length := by rw [← h2, List.length_map]
  obtain ⟨ao, cap, e, a, b⟩ := h1.shape
  rw [hl] at e a
  exact ⟨ao, cap, e, a, b⟩

set_option maxRecDepth 100000 in
set_option maxHeartbeats 8000000 in
theorem SameMails_eq (u v : Value) (ms : List Ml) (w : World) (hu : RdM w u ms) (hv : RdM w v ms) :
    Calls Try.prog 20 #[u, v] w fun e w' => e = .returned (.bool true) ∧ Below w.heap.size w w' := by
  have HU := hide hu
  have HV := hide hv
  obtain ⟨ao, cap, rfl, hc1, hc2⟩ := hu.shape
  obtain ⟨bo, cap2, rfl, _, _⟩ := hv.shape
  unfold maxLen at hc2
  clear hu hv
  go_enter Try.func20, Try.ntmps20
  go_wp2_with fail
  go_loopw [5] (fun iv wr => ∃ j : Nat, j ≤ ms.length ∧ iv = .int .i64 j ∧ Below w.heap.size w wr)
    (fun iv _ => ms.length - (intOf iv).toNat)
  case atStart => exact ⟨0, by omega, rfl, Below.refl _ _⟩
  case round =>
    obtain ⟨j, hj, rfl, hbr⟩ := hrel
    have HBR := hide hbr
    by_cases hlt : j < ms.length
    · obtain ⟨m, hm⟩ : ∃ r, ms[j]? = some r := ⟨_, List.getElem?_eq_getElem hlt⟩
      obtain ⟨b1, o1, so1, sc1, rfl, hb1, p0, p1, p2, p3, p4, p5, p6, p7, p8, hr1⟩ := (HU.out.below hbr).here hm
      obtain ⟨b2, o2, so2, sc2, rfl, hb2, q0, q1, q2, q3, q4, q5, q6, q7, q8, hr2⟩ := (HV.out.below hbr).here hm
      have hk1 : (0 : Int) ≤ (j : Int) := by omega
      have hk2 : (j : Int) < (ms.length : Int) := by omega
      clear hm hbr
      have HR1 := hide hr1
      have HR2 := hide hr2
      clear hr1 hr2
      go_upto_region 6 with fail
      go_cut [6, 7] (fun y6 y7 wc => ∃ P Q : Nat, y6 = .pointer (some ⟨P, 0, none⟩) ∧ y7 = .pointer (some ⟨Q, 0, none⟩) ∧ Blk wc P 44 #[.int .i64 m.kind, .int .i64 m.frm, .int .i64 m.to_, .int .i64 m.term, .int .i64 m.a, .int .i64 m.b, .int .i64 m.c, .slice so1 m.ents.length sc1, .bool m.ok] ∧ Blk wc Q 44 #[.int .i64 m.kind, .int .i64 m.frm, .int .i64 m.to_, .int .i64 m.term, .int .i64 m.a, .int .i64 m.b, .int .i64 m.c, .slice so2 m.ents.length sc2, .bool m.ok] ∧ Below wr.heap.size wr wc)
      case first =>
        go_region
        all_goals
          go_wp2_with fail
          go_meet
          case rel =>
            first
              | exact ⟨_, _, rfl, rfl, Blk.at1 wr _ _ _, Blk.at0of2 wr _ _ _, (below_alloc2 wr _ _).drew⟩
              | exact ⟨_, _, rfl, rfl, Blk.at0of2 wr _ _ _, Blk.at1 wr _ _ _, (below_alloc2 wr _ _).drew⟩
      case rest =>
        obtain ⟨P, Q, rfl, rfl, hP, hQ, hbc⟩ := hcut
        have HSL := hide (SameLog_any _ _ m.ents wc (HR1.out.below hbc) (HR2.out.below hbc))
        have HBC := hide (HBR.out.trans (hbc.mono HBR.out.size))
        have r0 := hP.cell 0
        have t0 := hQ.cell 0
        have r1 := hP.cell 1
        have t1 := hQ.cell 1
        have r2 := hP.cell 2
        have t2 := hQ.cell 2
        have r3 := hP.cell 3
        have t3 := hQ.cell 3
        have r4 := hP.cell 4
        have t4 := hQ.cell 4
        have r5 := hP.cell 5
        have t5 := hQ.cell 5
        have r6 := hP.cell 6
        have t6 := hQ.cell 6
        have r7 := hP.cell 7
        have t7 := hQ.cell 7
        have r8 := hP.cell 8
        have t8 := hQ.cell 8
        have rl := hP.lt
        have tl := hQ.lt
        simp at r0 t0 r1 t1 r2 t2 r3 t3 r4 t4 r5 t5 r6 t6 r7 t7 r8 t8
        clear hP hQ hbc p0 p1 p2 p3 p4 p5 p6 p7 p8 q0 q1 q2 q3 q4 q5 q6 q7 q8
        go_wp2_with (go_at_call 24; refine HSL.out.mono ?_; rintro e w9 ⟨rfl, hb9⟩; have HB9 := hide (HBC.out.trans (hb9.mono HBC.out.size)); clear hb9)
        go_roundw
        case rel => exact ⟨j + 1, by omega, by go_num, HB9.out⟩
        case measure => simp [intOf]; omega
    · have hje : j = ms.length := by omega
      subst hje
      clear hbr
      go_wp2_with fail
      go_ret
      exact ⟨rfl, HBR.out⟩

end Go.Proofs.Ytbffmdhogehfnaa

/-
  The walk over raftBegun. (Written by rlaw.py.)
-/
namespace Go.Proofs.Ytbffmdhogehfnaa
open Go.RowKit Go.Maps
set_option linter.unusedVariables false

theorem boxes2 {w1 w2 w3 : World} {t u : TypeId} {z y xs ys : Array Value} (hN : Blk w2 w1.heap.size t xs) (hg2 : ((w1.alloc (.cells z t)).alloc (.cells y u)).grownBy w2 (some w1.heap.size)) (hF : Blk w3 (w1.heap.size + 1) u ys) (hg3 : w2.grownBy w3 (some (w1.heap.size + 1))) :
    Blk w3 w1.heap.size t xs ∧ Below w1.heap.size w1 w3 := by
  have hb := below_alloc2 w1 (.cells z t) (.cells y u)
  have h2 := below_grownO hb hg2 (fun k hk => by cases hk; exact Nat.le_refl _) hb.size
  exact ⟨hN.grown hg3 (by simp), below_grownO h2 hg3 (fun k hk => by cases hk; exact Nat.le_succ _) h2.size⟩

def exN : Nd := ⟨1, 0, 0, 0, [], 0, 0, [], [], []⟩
def exS : Nd := ⟨1, 0, 1, 1, [], 2, 0, [], [1], [0]⟩
def exQ : Nd := ⟨1, 0, 1, 1, [⟨1, ⟨#[97]⟩⟩], 2, 1, [], [2], [1]⟩

theorem ex_sn : stdN exN = exS := by kernel_rfl
theorem ex_sf : stdF exN = (0, 0) := by kernel_rfl
theorem ex_sm : stdM exN = [] := by kernel_rfl
theorem ex_pn : proN exS ⟨#[97]⟩ = exQ := by kernel_rfl
theorem ex_pf : proF exS ⟨#[97]⟩ = (0, 0) := by kernel_rfl

set_option maxRecDepth 100000 in
set_option maxHeartbeats 4000000 in
theorem raftBegun_any (w : World) : Calls Try.prog 6 #[] w fun e w' => e = .returned (.bool true) ∧ Below w.heap.size w w' := by
  have hst := Stand_any exN (.slice none 0 0) (.slice none 0 0) (.slice none 0 0) (.slice none 0 0) w ⟨RdG.nil _, RdG.nil _, RdG.nil _, RdG.nil _⟩ (fun v hv => by cases hv)
  rw [ex_sn, ex_sf, ex_sm] at hst
  have HST := hide hst
  have HPR := hide (fun W lv vv nv hv h => Propose_any exS ⟨#[97]⟩ lv vv nv hv W h (fun v hv => by cases hv))
  rw [ex_pn, ex_pf] at HPR
  unfold ndV ndA flt at HST
  unfold flt at HPR
  clear hst
  go_enter Try.func6, Try.ntmps6
  go_wp2_with fail
  refine HST.out.mono ?_
  rintro e w1 ⟨lv1, vv1, nv1, hv1, mv1, rfl, han1, how1, hb1⟩
  have hrd := han1.rd
  obtain ⟨lo1, lc1, hs1, _, _⟩ := hrd.log.shape
  obtain ⟨vo1, vc1, hs2, _, _⟩ := hrd.votes.shape
  obtain ⟨no1, nc1, hs3, _, _⟩ := hrd.next.shape
  obtain ⟨ho1, hc1, hs4, _, _⟩ := hrd.hav.shape
  subst hs1 hs2 hs3 hs4
  obtain ⟨mo1, mc1, hms, _, _⟩ := how1.rd.shape
  subst hms
  have HRD := hide hrd
  have HB1 := hide hb1
  have HA0 := hide (Blk.at0of2 w1 (.cells #[.int .i64 0, .int .i64 0] 30) 25 #[.int .i64 0, .int .i64 0, .int .i64 0, .int .i64 0, .slice none 0 0, .int .i64 0, .int .i64 0, .slice none 0 0, .slice none 0 0, .slice none 0 0])
  have HA1 := hide (Blk.at1 w1 (.cells #[.int .i64 0, .int .i64 0, .int .i64 0, .int .i64 0, .slice none 0 0, .int .i64 0, .int .i64 0, .slice none 0 0, .slice none 0 0, .slice none 0 0] 25) 30 #[.int .i64 0, .int .i64 0])
  clear han1 how1 hb1 hrd
  go_upto_region 2 with (first
    | (refine wpList_store_blk rfl rfl rfl rfl HA0.out rfl Try.sizeNode rfl ?_; intro w2 hN2 hg2; have HN2 := hide hN2; have HG2 := hide hg2; clear hN2 hg2)
    | (refine wpList_store_blk rfl rfl rfl rfl (HA1.out.grown HG2.out (by simp)) rfl Try.sizeFaultR rfl ?_; intro w3 hF3 hg3; have HF3 := hide hF3; have HG3 := hide hg3; clear hF3 hg3))
  have h23 := boxes2 HN2.out HG2.out HF3.out HG3.out
  have HN3 := hide h23.1
  have HB3 := hide (HB1.out.trans (h23.2.mono HB1.out.size))
  have HR3 := hide (HRD.out.below h23.2)
  have HPP := hide (HPR.out _ _ _ _ _ HR3.out)
  unfold ndV ndA at HPP
  clear h23
  go_wp2_with (refine wpList_load_blk HN3.out Try.underlying25 rfl Try.sizeNode rfl rfl rfl ?_)
  refine HPP.out.mono ?_
  rintro e w4 ⟨lv4, vv4, nv4, hv4, rfl, han4, hb4⟩
  have hrd := han4.rd
  obtain ⟨lo4, lc4, hs1, _, _⟩ := hrd.log.shape
  obtain ⟨vo4, vc4, hs2, _, _⟩ := hrd.votes.shape
  obtain ⟨no4, nc4, hs3, _, _⟩ := hrd.next.shape
  obtain ⟨ho4, hc4, hs4, _, _⟩ := hrd.hav.shape
  subst hs1 hs2 hs3 hs4
  have HB4 := hide (HB3.out.trans (hb4.mono HB3.out.size))
  have HN4 := hide (HN3.out.later hb4)
  have HF4 := hide (HF3.out.later hb4)
  have HC0 := hide (Blk.at0of2 w4 (.cells #[.int .i64 0, .int .i64 0] 30) 25 #[.int .i64 0, .int .i64 0, .int .i64 0, .int .i64 0, .slice none 0 0, .int .i64 0, .int .i64 0, .slice none 0 0, .slice none 0 0, .slice none 0 0])
  have HC1 := hide (Blk.at1 w4 (.cells #[.int .i64 0, .int .i64 0, .int .i64 0, .int .i64 0, .slice none 0 0, .int .i64 0, .int .i64 0, .slice none 0 0, .slice none 0 0, .slice none 0 0] 25) 30 #[.int .i64 0, .int .i64 0])
  clear han4 hb4 hrd
  go_upto_region 3 with (first
    | (refine wpList_store_blk rfl rfl rfl rfl HC0.out rfl Try.sizeNode rfl ?_; intro w5 hN5 hg5; have HN5 := hide hN5; have HG5 := hide hg5; clear hN5 hg5)
    | (refine wpList_store_blk rfl rfl rfl rfl (HC1.out.grown HG5.out (by simp)) rfl Try.sizeFaultR rfl ?_; intro w6 hF6 hg6; have HF6 := hide hF6; have HG6 := hide hg6; clear hF6 hg6))
  have h56 := boxes2 HN5.out HG5.out HF6.out HG6.out
  have hx := HN4.out.later h56.2
  have hy := HF4.out.later h56.2
  have HB6 := hide (HB4.out.trans (h56.2.mono HB4.out.size))
  have x5 := hx.cell 5
  have x2 := hx.cell 2
  have xl := hx.lt
  have y0 := hy.cell 0
  have yl := hy.lt
  have z6 := h56.1.cell 6
  have zl := h56.1.lt
  have g0 := HF6.out.cell 0
  have gl := HF6.out.lt
  simp at x5 x2 y0 z6 g0
  clear hx hy h56
  go_wp2_with fail
  go_ret
  exact ⟨rfl, HB6.out⟩

end Go.Proofs.Ytbffmdhogehfnaa

/-
  The walks over raft.isSentTo, areMailNumbers, areBrought. (Written by ru1.py.)
-/
namespace Go.Proofs.Ytbffmdhogehfnaa
open Go.RowKit Go.Maps
set_option linter.unusedVariables false

def mlV (m : Ml) (ev : Value) : Value := .agg (mlA m ev)

set_option maxRecDepth 100000 in
set_option maxHeartbeats 4000000 in
theorem isSentTo_any (x : Nd) (lv vv nv hv : Value) (m : Ml) (ev : Value) (w : World) (hx : RdNd w x lv vv nv hv) (he : RdG eE w ev m.ents) (hn0 : 0 ≤ x.n) (hn7 : x.n ≤ 1000) :
    Calls Try.prog 70 #[ndV x lv vv nv hv, mlV m ev] w fun e w' => e = .returned (.bool (sentB x m)) ∧ Below w.heap.size w w' := by
  obtain ⟨n, id, te, vo, lo, ro, co, vs, ns, hs⟩ := x
  obtain ⟨h1, h2, h3, h4⟩ := hx
  simp only at h1 h2 h3 h4
  obtain ⟨ao, cap, rfl, hc1, hc2⟩ := h1.shape
  obtain ⟨bo, cap2, rfl, hd1, hd2⟩ := h2.shape
  obtain ⟨no, cap3, rfl, _, _⟩ := h3.shape
  obtain ⟨ho, cap4, rfl, _, _⟩ := h4.shape
  obtain ⟨ki, fr, dt, mt, ma, mb, mc, es, ok⟩ := m
  simp only at he
  obtain ⟨eo, ec, rfl, he1, he2⟩ := he.shape
  have HE : Hid (sentB ⟨n, id, te, vo, lo, ro, co, vs, ns, hs⟩ ⟨ki, fr, dt, mt, ma, mb, mc, es, ok⟩ = (wiB ki 1 4 && (decide (dt = id) && (wiB fr 0 (n - 1) && !decide (fr = id))))) := hide rfl
  have HW := hide (below_alloc2 w (.cells #[.int .i64 n, .int .i64 id, .int .i64 te, .int .i64 vo, .slice ao lo.length cap, .int .i64 ro, .int .i64 co, .slice bo vs.length cap2, .slice no ns.length cap3, .slice ho hs.length cap4] 25) (.cells #[.int .i64 ki, .int .i64 fr, .int .i64 dt, .int .i64 mt, .int .i64 ma, .int .i64 mb, .int .i64 mc, .slice eo es.length ec, .bool ok] 44))
  have hP := Blk.at0of2 w (.cells #[.int .i64 ki, .int .i64 fr, .int .i64 dt, .int .i64 mt, .int .i64 ma, .int .i64 mb, .int .i64 mc, .slice eo es.length ec, .bool ok] 44) 25 #[.int .i64 n, .int .i64 id, .int .i64 te, .int .i64 vo, .slice ao lo.length cap, .int .i64 ro, .int .i64 co, .slice bo vs.length cap2, .slice no ns.length cap3, .slice ho hs.length cap4]
  have hM := Blk.at1 w (.cells #[.int .i64 n, .int .i64 id, .int .i64 te, .int .i64 vo, .slice ao lo.length cap, .int .i64 ro, .int .i64 co, .slice bo vs.length cap2, .slice no ns.length cap3, .slice ho hs.length cap4] 25) 44 #[.int .i64 ki, .int .i64 fr, .int .i64 dt, .int .i64 mt, .int .i64 ma, .int .i64 mb, .int .i64 mc, .slice eo es.length ec, .bool ok]
  have p0 := hP.cell 0
  have p1 := hP.cell 1
  have pl := hP.lt
  have m0 := hM.cell 0
  have m1 := hM.cell 1
  have m2 := hM.cell 2
  have ml := hM.lt
  simp at p0 p1 m0 m1 m2
  simp only at hn0 hn7
  have HC2 := hide (fun W => isNode_any fr n W hn0 hn7)
  have HC1 := hide (fun W => isWithin_any ki 1 4 W)
  unfold ndV ndA mlV mlA
  clear h1 h2 h3 h4 he hP hM
  generalize wiB ki 1 4 = A at HE HC1
  generalize wiB fr 0 (n - 1) = C at HE HC2
  have HD1 : Hid ((dt == id) = decide (dt = id)) := hide (by by_cases h : dt = id <;> simp [h])
  have HD2 : Hid ((fr != id) = !decide (fr = id)) := hide (by by_cases h : fr = id <;> simp [h])
  generalize decide (dt = id) = B at HE HD1
  generalize decide (fr = id) = D at HE HD2
  have hd1 := HD1.out
  have hd2 := HD2.out
  cases A
  · go_enter Try.func70, Try.ntmps70
    go_wp2_with (go_at_call 55; refine (HC1.out _).mono ?_; rintro e w1 ⟨rfl, rfl⟩)
    go_ret
    exact ⟨by rw [HE.out]; rfl, HW.out⟩
  cases B
  · go_enter Try.func70, Try.ntmps70
    go_wp2_with (go_at_call 55; refine (HC1.out _).mono ?_; rintro e w1 ⟨rfl, rfl⟩)
    go_ret
    exact ⟨by rw [HE.out]; rfl, HW.out⟩
  cases C
  · go_enter Try.func70, Try.ntmps70
    go_wp2_with (first
      | (go_at_call 55; refine (HC1.out _).mono ?_; rintro e w1 ⟨rfl, rfl⟩)
      | (go_at_call 56; refine (HC2.out _).mono ?_; rintro e w1 ⟨rfl, rfl⟩))
    go_ret
    exact ⟨by rw [HE.out]; rfl, HW.out⟩
  cases D
  all_goals
    go_enter Try.func70, Try.ntmps70
    go_wp2_with (first
      | (go_at_call 55; refine (HC1.out _).mono ?_; rintro e w1 ⟨rfl, rfl⟩)
      | (go_at_call 56; refine (HC2.out _).mono ?_; rintro e w1 ⟨rfl, rfl⟩))
    go_ret
    exact ⟨by rw [HE.out]; rfl, HW.out⟩

set_option maxRecDepth 100000 in
set_option maxHeartbeats 4000000 in
theorem areMailNumbers_any (m : Ml) (ev : Value) (w : World) (he : RdG eE w ev m.ents) :
    Calls Try.prog 71 #[mlV m ev] w fun e w' => e = .returned (.bool (numsB m)) ∧ Below w.heap.size w w' := by
  obtain ⟨ki, fr, dt, mt, ma, mb, mc, es, ok⟩ := m
  simp only at he
  obtain ⟨eo, ec, rfl, he1, he2⟩ := he.shape
  have HE : Hid (numsB ⟨ki, fr, dt, mt, ma, mb, mc, es, ok⟩ = (wiB mt 1 1000000000 && (numL ma && (numL mb && numL mc)))) := hide rfl
  have HW := hide (below_allocG w (.cells #[.int .i64 ki, .int .i64 fr, .int .i64 dt, .int .i64 mt, .int .i64 ma, .int .i64 mb, .int .i64 mc, .slice eo es.length ec, .bool ok] 44))
  have hM := Blk.new w 44 #[.int .i64 ki, .int .i64 fr, .int .i64 dt, .int .i64 mt, .int .i64 ma, .int .i64 mb, .int .i64 mc, .slice eo es.length ec, .bool ok]
  have m3 := hM.cell 3
  have m4 := hM.cell 4
  have m5 := hM.cell 5
  have m6 := hM.cell 6
  have ml := hM.lt
  simp at m3 m4 m5 m6
  have HC1 := hide (fun W => isWithin_any mt 1 1000000000 W)
  unfold mlV mlA
  clear he hM
  generalize wiB mt 1 1000000000 = A at HE HC1
  cases A
  · go_enter Try.func71, Try.ntmps71
    go_wp2_with (go_at_call 55; refine (HC1.out _).mono ?_; rintro e w1 ⟨rfl, rfl⟩)
    go_ret
    exact ⟨by rw [HE.out]; rfl, HW.out⟩
  cases hB : numL ma
  · go_enter Try.func71, Try.ntmps71
    go_wp2_with (first | (go_at_call 55; refine (HC1.out _).mono ?_; rintro e w1 ⟨rfl, rfl⟩) | (go_at_call 57; refine (lIsNum_any _ _).mono ?_; rintro e w1 ⟨rfl, rfl⟩; first | rw [hB] | rw [hC] | rw [hD]))
    go_ret
    exact ⟨by rw [HE.out, hB]; rfl, HW.out⟩
  cases hC : numL mb
  · go_enter Try.func71, Try.ntmps71
    go_wp2_with (first | (go_at_call 55; refine (HC1.out _).mono ?_; rintro e w1 ⟨rfl, rfl⟩) | (go_at_call 57; refine (lIsNum_any _ _).mono ?_; rintro e w1 ⟨rfl, rfl⟩; first | rw [hB] | rw [hC] | rw [hD]))
    go_ret
    exact ⟨by rw [HE.out, hB, hC]; rfl, HW.out⟩
  cases hD : numL mc
  all_goals
    go_enter Try.func71, Try.ntmps71
    go_wp2_with (first | (go_at_call 55; refine (HC1.out _).mono ?_; rintro e w1 ⟨rfl, rfl⟩) | (go_at_call 57; refine (lIsNum_any _ _).mono ?_; rintro e w1 ⟨rfl, rfl⟩; first | rw [hB] | rw [hC] | rw [hD]))
    go_ret
    exact ⟨by rw [HE.out, hB, hC, hD]; rfl, HW.out⟩

set_option maxRecDepth 100000 in
set_option maxHeartbeats 4000000 in
theorem areBrought_any (m : Ml) (ev : Value) (w : World) (he : RdG eE w ev m.ents) :
    Calls Try.prog 72 #[mlV m ev] w fun e w' => e = .returned (.bool (brgB m)) ∧ Below w.heap.size w w' := by
  obtain ⟨ki, fr, dt, mt, ma, mb, mc, es, ok⟩ := m
  simp only at he
  obtain ⟨eo, ec, rfl, he1, he2⟩ := he.shape
  have HE : Hid (brgB ⟨ki, fr, dt, mt, ma, mb, mc, es, ok⟩ = if es.length = 0 then true else decide (ki = 3) && (decide (es.length ≤ 5) && (decide ((chkE es).1 = 0) && decide (lastT es ≤ mt)))) := hide rfl
  have hW := below_allocG w (.cells #[.int .i64 ki, .int .i64 fr, .int .i64 dt, .int .i64 mt, .int .i64 ma, .int .i64 mb, .int .i64 mc, .slice eo es.length ec, .bool ok] 44)
  have HW := hide hW
  have hM := Blk.new w 44 #[.int .i64 ki, .int .i64 fr, .int .i64 dt, .int .i64 mt, .int .i64 ma, .int .i64 mb, .int .i64 mc, .slice eo es.length ec, .bool ok]
  have HM := hide hM
  have m0 := hM.cell 0
  have m3 := hM.cell 3
  have m7 := hM.cell 7
  have ml := hM.lt
  simp at m0 m3 m7
  have HEE := hide (he.below hW)
  unfold mlV mlA
  unfold maxLen at he2
  clear he hM hW
  go_enter Try.func72, Try.ntmps72
  by_cases h0 : es.length = 0
  · have HF := hide (HE.out.trans (if_pos h0))
    have hq : ((es.length : Int) == 0) = true := by simp [h0]
    clear h0
    go_wp2_with fail
    go_ret
    exact ⟨by rw [HF.out]; rfl, HW.out⟩
  have HF := hide (HE.out.trans (if_neg h0))
  have hq : ((es.length : Int) == 0) = false := by simp [h0]
  by_cases hk : ki = 3
  case neg =>
    have hq2 : (ki == 3) = false := by simp [hk]
    have HG := hide (show brgB ⟨ki, fr, dt, mt, ma, mb, mc, es, ok⟩ = false by rw [HF.out]; simp [hk])
    clear h0 hk
    go_upto_region 3 with fail
    go_quiet (fail)
    go_wp2_with fail
    go_ret
    exact ⟨by rw [HG.out]; rfl, below_drewN HW.out _⟩
  have hq2 : (ki == 3) = true := by simp [hk]
  by_cases h5 : es.length ≤ 5
  case neg =>
    have hq3 : decide ((es.length : Int) ≤ 5) = false := decide_eq_false (by omega)
    have HG := hide (show brgB ⟨ki, fr, dt, mt, ma, mb, mc, es, ok⟩ = false by rw [HF.out]; simp [h5])
    clear h0 hk h5
    go_upto_region 3 with fail
    go_quiet (fail)
    go_wp2_with fail
    go_ret
    exact ⟨by rw [HG.out]; rfl, below_drewN HW.out _⟩
  have hq3 : decide ((es.length : Int) ≤ 5) = true := decide_eq_true (by omega)
  have HF2 := hide (show brgB ⟨ki, fr, dt, mt, ma, mb, mc, es, ok⟩ = (decide ((chkE es).1 = 0) && decide (lastT es ≤ mt)) by rw [HF.out]; simp [hk, h5])
  clear h0 hk h5
  go_upto_region 3 with fail
  generalize hWA : w.alloc (.cells #[.int .i64 ki, .int .i64 fr, .int .i64 dt, .int .i64 mt, .int .i64 ma, .int .i64 mb, .int .i64 mc, .slice eo es.length ec, .bool ok] 44) = A at HW HM HEE ml ⊢
  clear m0 m3 m7 ml
  have m0 := HM.out.cell 0
  have m3 := HM.out.cell 3
  have m7 := HM.out.cell 7
  have ml := HM.out.lt
  simp at m0 m3 m7
  have HCK := hide (fun W (h : Below A.heap.size A W) => (ECheck_any _ es W (HEE.out.below h)).mono fun e W' (h2 : _ ∧ _) => And.intro h2.1 (h.trans (h2.2.mono h.size)))
  have HLT := hide (fun W (h : Below A.heap.size A W) => rLast_any _ es W (HEE.out.below h))
  have HKEEP : Hid (∀ W, Below A.heap.size A W → W.cell? ⟨w.heap.size, 0, none⟩ = some (.int .i64 ki) ∧ W.cell? ⟨w.heap.size, 7, none⟩ = some (.slice eo es.length ec) ∧ W.cell? ⟨w.heap.size, 3, none⟩ = some (.int .i64 mt)) := hide (fun W hW => ⟨(HM.out.later hW).cell 0, (HM.out.later hW).cell 7, (HM.out.later hW).cell 3⟩)
  have HDR := hide (show Below A.heap.size A A.drew from Below.drew (Below.refl _ _))
  have HZ := hide (chkE_z es)
  clear hWA HM HEE
  generalize lastT es = L at HF2 HLT
  generalize chkE es = CK at HF2 HCK HZ
  obtain ⟨p, q⟩ := CK
  unfold flt at HCK
  by_cases hp : p ≠ 0
  · have hqp : (p == 0) = false := beq_eq_false_iff_ne.2 hp
    have HG := hide (show brgB ⟨ki, fr, dt, mt, ma, mb, mc, es, ok⟩ = false by rw [HF2.out]; simp [hp])
    clear hp
    first | go_region_with (first | (go_at_call 58; refine (HCK.out _ HDR.out).mono ?_; rintro e w8 ⟨rfl, hbL1⟩)) | fail
    all_goals
      go_wp2_with fail
      go_ret
      exact ⟨by rw [HG.out]; rfl, HW.out.trans (hbL1.mono HW.out.size)⟩
  obtain rfl : p = 0 := Decidable.not_not.1 hp
  obtain rfl : q = 0 := by have := HZ.out rfl; simpa using this
  clear hp
  by_cases hl : L ≤ mt
  all_goals
    first
      | (have hq4 : decide (L ≤ mt) = true := decide_eq_true hl)
      | (have hq4 : decide (L ≤ mt) = false := decide_eq_false hl)
    have HG := hide (show brgB ⟨ki, fr, dt, mt, ma, mb, mc, es, ok⟩ = decide (L ≤ mt) by rw [HF2.out]; simp)
    rw [hq4] at HG
    clear hl
    go_region_held3 (fun W => W.cell? ⟨w.heap.size, 0, none⟩ = some (.int .i64 ki) ∧ W.cell? ⟨w.heap.size, 7, none⟩ = some (.slice eo es.length ec) ∧ W.cell? ⟨w.heap.size, 3, none⟩ = some (.int .i64 mt)) (first | exact HKEEP.out _ hbL1 | exact HKEEP.out _ (by go_grown)) (first
      | (go_at_call 59; refine (HLT.out _ hbL1).mono ?_; rintro e w9 ⟨rfl, rfl⟩)
      | (go_at_call 58; refine (HCK.out _ HDR.out).mono ?_; rintro e w8 ⟨rfl, hbL1⟩))
    all_goals
      go_wp2_with fail
      go_ret
      exact ⟨by rw [HG.out]; rfl, HW.out.trans (hbL1.mono HW.out.size)⟩

end Go.Proofs.Ytbffmdhogehfnaa
