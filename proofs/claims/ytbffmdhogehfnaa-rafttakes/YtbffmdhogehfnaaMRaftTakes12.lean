/-
  Texts joined: RaftS1, RaftV3a, GenR, RaftV3b, RaftR6, RaftS2, EntR2.
-/
import Derived.Test.YtbffmdhogehfnaaMRaftTakes11
import Derived.Great.BuildSlice
/-
  Plain maths: a node that takes a mail stays one that may be. Nothing of a program stands here.
-/
namespace Go.Proofs.Ytbffmdhogehfnaa
open Go.RowKit
set_option linter.unusedVariables false

theorem votes_nil {x : Nd} (hr : x.role ≠ 1) (hv : x.votes = []) : votesB x = true := by
  unfold votesB
  rw [if_neg hr, hv]
  rfl

theorem known_nil {x : Nd} (hr : x.role ≠ 2) (h1 : x.next = []) (h2 : x.hav = []) : knownB x = true := by
  unfold knownB ofB
  rw [if_neg hr, if_neg hr, h1, h2]
  rfl

/-- One that follows. -/
theorem FineN.follow {x : Nd} (h : FineN x) : FineN x.follow :=
  ⟨h.n1, h.n7, h.id0, h.idn, h.t0, h.t1, h.v0, h.vn, by simp [Nd.follow], by simp [Nd.follow], h.c0, h.cl, h.log, h.lt, votes_nil (by simp [Nd.follow]) rfl, known_nil (by simp [Nd.follow]) rfl rfl⟩

theorem FineN.hear {x : Nd} (h : FineN x) {t : Int} (h2 : t ≤ 1000000000) : FineN (x.hear t) := by
  unfold Nd.hear
  split
  · rename_i ht
    have f := h.follow
    have := h.t0
    have := h.lt
    have := h.n1
    exact ⟨f.n1, f.n7, f.id0, f.idn, by simp only; omega, h2, by simp only; omega, by simp only; show (0 : Int) ≤ x.n; omega, f.r0, f.r2, f.c0, f.cl, f.log, by simp only; show lastT x.log ≤ t; omega, f.vo, f.kn⟩
  · exact h

theorem hear_term {x : Nd} {t : Int} : t ≤ (x.hear t).term ∧ x.term ≤ (x.hear t).term ∧ ((x.hear t).term = x.term → x.hear t = x) := by
  unfold Nd.hear
  split
  · simp only
    refine ⟨Int.le_refl _, by omega, fun h => by omega⟩
  · exact ⟨by omega, Int.le_refl _, fun _ => rfl⟩

theorem coGo_ge (x : Nd) : ∀ k, x.com ≤ coGo x k
  | 0 => Int.le_refl _
  | k + 1 => by
    unfold coGo
    split
    · exact Int.le_refl _
    split
    · omega
    · exact coGo_ge x k

theorem coGo_top (x : Nd) : ∀ k : Nat, coGo x k ≤ max x.com k
  | 0 => by unfold coGo; omega
  | k + 1 => by
    unfold coGo
    split
    · omega
    split
    · omega
    · have := coGo_top x k
      omega

theorem FineN.count {x : Nd} (h : FineN x) : FineN x.count := by
  have h1 := coGo_ge x x.log.length
  have h2 := coGo_top x x.log.length
  have := h.c0
  have := h.cl
  exact ⟨h.n1, h.n7, h.id0, h.idn, h.t0, h.t1, h.v0, h.vn, h.r0, h.r2, by show 0 ≤ coGo x x.log.length; omega, by show coGo x x.log.length ≤ x.log.length; omega, h.log, h.lt, h.vo, h.kn⟩

theorem any_none {l : List Int} {a b : Int} (h : ∀ v ∈ l, a ≤ v ∧ v ≤ b) : (l.any fun v => !wiB v a b) = false := by
  rw [List.any_eq_false]
  intro v hv
  rw [wiB_true.2 (h v hv)]
  simp

theorem known_lead {x : Nd} (hr : x.role = 2) (h1 : (x.next.length : Int) = x.n) (h2 : (x.hav.length : Int) = x.n) (h3 : ∀ u ∈ x.next, 1 ≤ u ∧ u ≤ x.log.length + 1) (h4 : ∀ u ∈ x.hav, 0 ≤ u ∧ u ≤ x.log.length) : knownB x = true := by
  unfold knownB ofB
  rw [if_pos hr, if_pos hr, any_none h3, any_none h4]
  simp [h1, h2]

theorem lead_known {x : Nd} (h : FineN x) (hr : x.role = 2) : (x.next.length : Int) = x.n ∧ (x.hav.length : Int) = x.n ∧ (∀ u ∈ x.next, 1 ≤ u ∧ u ≤ x.log.length + 1) ∧ (∀ u ∈ x.hav, 0 ≤ u ∧ u ≤ x.log.length) ∧ x.votes = [] := by
  have h1 := h.kn
  have h2 := h.vo
  unfold knownB ofB at h1
  unfold votesB at h2
  rw [if_pos hr, if_pos hr] at h1
  rw [if_neg (by omega)] at h2
  simp only [Bool.and_eq_true, decide_eq_true_eq, Bool.not_eq_true', List.any_eq_false, Bool.not_eq_false, wiB_true] at h1 h2
  obtain ⟨⟨a1, a2⟩, a3, a4⟩ := h1
  exact ⟨a1, a3, a2, a4, List.eq_nil_of_length_eq_zero h2⟩

theorem mem_setI {l : List Int} {k : Nat} {a u : Int} (h : u ∈ l.set k a) : u ∈ l ∨ u = a := List.mem_or_eq_of_mem_set h

theorem FineN.lead0 {x : Nd} (h : FineN x) : FineN x.lead0 := by
  have := h.n1
  refine ⟨h.n1, h.n7, h.id0, h.idn, h.t0, h.t1, h.v0, h.vn, by simp [Nd.lead0], by simp [Nd.lead0], h.c0, h.cl, h.log, h.lt, votes_nil (by simp [Nd.lead0]) rfl, known_lead rfl ?_ ?_ ?_ ?_⟩
  · show ((List.replicate x.n.toNat ((x.log.length : Int) + 1)).length : Int) = x.n
    rw [List.length_replicate]; omega
  · show (((List.replicate x.n.toNat (0 : Int)).set x.id.toNat x.log.length).length : Int) = x.n
    rw [List.length_set, List.length_replicate]; omega
  · intro u hu
    have : u = (x.log.length : Int) + 1 := List.eq_of_mem_replicate hu
    show 1 ≤ u ∧ u ≤ (x.log.length : Int) + 1
    omega
  · intro u hu
    show 0 ≤ u ∧ u ≤ (x.log.length : Int)
    rcases mem_setI hu with q | q
    · have := List.eq_of_mem_replicate q; omega
    · omega

theorem FineN.lead {x : Nd} (h : FineN x) : FineN x.lead := h.lead0.count

theorem voGo_snoc {n who : Int} : ∀ (l s : List Int), voGo n s l = true → 0 ≤ who → who < n → ¬ who ∈ s → ¬ who ∈ l → voGo n s (l ++ [who]) = true
  | [], s, _, h0, h1, hs, _ => by
    simp only [List.nil_append, voGo, Bool.and_true, Bool.and_eq_true, wiB_true, Bool.not_eq_true', decide_eq_false_iff_not]
    exact ⟨⟨h0, by omega⟩, hs⟩
  | v :: l, s, h, h0, h1, hs, hl => by
    simp only [voGo, Bool.and_eq_true, List.cons_append] at h ⊢
    refine ⟨h.1, voGo_snoc l (s ++ [v]) h.2 h0 h1 ?_ (fun q => hl (List.mem_cons_of_mem _ q))⟩
    intro q
    rcases List.mem_append.1 q with q | q
    · exact hs q
    · exact hl (by rw [List.mem_singleton.1 q]; exact List.mem_cons_self)

theorem FineN.elect {x : Nd} (h : FineN x) (hr : x.role = 1) {who : Int} (h0 : 0 ≤ who) (h1 : who < x.n) : FineN (x.elect who) := by
  have hvo := h.vo
  unfold votesB at hvo
  rw [if_pos hr] at hvo
  simp only [Bool.and_eq_true, decide_eq_true_eq, Bool.not_eq_true'] at hvo
  obtain ⟨v1, v2, v3⟩ := hvo
  have p1 : voGo x.n [] (putV x.votes who) = true := by
    unfold putV
    split
    · exact v1
    · exact voGo_snoc _ _ v1 h0 h1 (by simp) (by assumption)
  have p2 : x.id ∈ putV x.votes who := by
    unfold putV
    split
    · exact v2
    · exact List.mem_append_left _ v2
  unfold Nd.elect
  split
  · have f : FineN { x.voted who with role := 0, votes := [], next := [], hav := [] } := ⟨h.n1, h.n7, h.id0, h.idn, h.t0, h.t1, h.v0, h.vn, by simp, by simp, h.c0, h.cl, h.log, h.lt, votes_nil (by simp) rfl, known_nil (by simp) rfl rfl⟩
    exact f.lead
  · rename_i q
    refine ⟨h.n1, h.n7, h.id0, h.idn, h.t0, h.t1, h.v0, h.vn, h.r0, h.r2, h.c0, h.cl, h.log, h.lt, ?_, ?_⟩
    · unfold votesB
      rw [if_pos (show (x.voted who).role = 1 from hr)]
      simp only [Bool.and_eq_true, decide_eq_true_eq, Bool.not_eq_true']
      exact ⟨p1, p2, show mostB (putV x.votes who).length x.n = false from Bool.eq_false_iff.2 q⟩
    · have hk := h.kn
      unfold knownB ofB at hk ⊢
      exact hk

theorem elect_com {x : Nd} {who : Int} : x.com ≤ (x.elect who).com ∧ (x.elect who).log = x.log ∧ (x.elect who).term = x.term ∧ (x.elect who).vote = x.vote ∧ (x.elect who).n = x.n ∧ (x.elect who).id = x.id := by
  unfold Nd.elect
  split
  · exact ⟨coGo_ge (x.voted who).lead0 _, rfl, rfl, rfl, rfl, rfl⟩
  · exact ⟨Int.le_refl _, rfl, rfl, rfl, rfl, rfl⟩

/-- What stays of a node. -/
structure Stay (x y : Nd) : Prop where
  fine : FineN y
  n : y.n = x.n
  id : y.id = x.id
  term : x.term ≤ y.term
  vote : y.term = x.term → x.vote ≠ 0 → y.vote = x.vote
  com : x.com ≤ y.com
  log : y.log.take x.com.toNat = x.log.take x.com.toNat

theorem Stay.refl {x : Nd} (h : FineN x) : Stay x x := ⟨h, rfl, rfl, Int.le_refl _, fun _ _ => rfl, Int.le_refl _, rfl⟩

theorem Stay.hear {x y : Nd} {t : Int} (h : Stay (x.hear t) y) (hx : FineN x) : Stay x y := by
  obtain ⟨a1, a2, a3⟩ := hear_term (x := x) (t := t)
  have e1 : (x.hear t).n = x.n ∧ (x.hear t).id = x.id ∧ (x.hear t).com = x.com ∧ (x.hear t).log = x.log := by
    unfold Nd.hear; split <;> exact ⟨rfl, rfl, rfl, rfl⟩
  obtain ⟨b1, b2, b3, b4⟩ := e1
  refine ⟨h.fine, h.n.trans b1, h.id.trans b2, Int.le_trans a2 h.term, fun q hv => ?_, by rw [← b3]; exact h.com, ?_⟩
  · have h5 := h.term
    have : x.hear t = x := a3 (by omega)
    have h6 := h.vote
    rw [this] at h6
    exact h6 q hv
  · have := h.log
    rw [b3, b4] at this
    exact this

end Go.Proofs.Ytbffmdhogehfnaa

/-
  What the walks over the document's TakeNode want of plain maths, and of a node while blocks beside it are written.
-/
namespace Go.Proofs.Ytbffmdhogehfnaa
open Go.RowKit Go.Maps
set_option linter.unusedVariables false

theorem Dm.off0 {w w' : World} {lab : Nat → Nat} {B K : Nat} {x : Nd} {lv vv nv hv : Value} (h : Dm w lab B x lv vv nv hv) (hg : w.grownBy w' (some K)) (hK : lab K = 0) : Dm w' lab B x lv vv nv hv :=
  h.keep (Chg.grown (S := fun i => i = 0) h.ok hg hK) (fun i h1 _ => by omega)

/-- One's own log is the newer one. -/
def newB (l : List Et) (n t : Int) : Bool := !oldB l n t && (decide (n ≠ l.length) || decide (t ≠ lastT l))

theorem notOld_new {l : List Et} {n t : Int} (hc : (chkE l).1 = 0) (h1 : 0 ≤ n) (h2 : n ≤ 1000000000) (h3 : 0 ≤ t) (h4 : t ≤ 1000000000) : notOldB l n t = !newB l n t := by
  have e : (oldF l n t).1 = 0 := by
    have q1 : numL n = true := numL_iffN.2 ⟨h1, h2⟩
    have q2 : numL t = true := numL_iffN.2 ⟨h3, h4⟩
    unfold oldF plF
    simp [hc, q1, q2]
  unfold notOldB notOldB.oldR' newB
  rw [if_neg (by rw [e]; simp)]
  cases oldB l n t
  · by_cases a : n = l.length
    · by_cases b : t = lastT l <;> simp [a, b]
    · simp [a]
  · rfl

theorem give_doc {x : Nd} {m : Ml} (hx : FineN x) (h1 : 0 ≤ m.a) (h2 : m.a ≤ 1000000000) (h3 : 0 ≤ m.b) (h4 : m.b ≤ 1000000000) :
    giveB x m = (decide (m.term = x.term) && ((decide (x.vote = 0) || decide (x.vote = m.frm + 1)) && !newB x.log m.a m.b)) := by
  unfold giveB
  rw [notOld_new hx.log h1 h2 h3 h4]

end Go.Proofs.Ytbffmdhogehfnaa

/-
  'return x, v, y' of whole variables that lie in blocks, as a region that draws its order: two laws, one for a v that is given and one for a slice of one structure. Nothing of a program stands here.
-/
namespace Go.Proofs.Ytbffmdhogehfnaa
open Go.RowKit Go.Maps

/-- A place that a row has: said so that the kernel need not reckon the row's length. -/
theorem of_drop {α : Type} {xs : Array α} {d : Nat} (h : (xs.toList.drop d).isEmpty = false) : d < xs.size := by
  by_cases q : d < xs.size
  · exact q
  · rw [List.drop_eq_nil_of_le (by simpa using q)] at h
    simp at h

def isAgg : TypeDesc → Bool
  | .struct _ => true
  | .array _ _ => true
  | _ => false

section
variable {P : Program} {ops : Array Oper} {Q : Exit → Act → World → Prop}

theorem exec_load_bk {w : World} {o : Oper} {a : Act} {x : Operand} {B : Nat} {t ty : TypeId} {xs : Array Value} {d : TypeDesc} (hB : Blk w B t xs) (hu : P.underlying ty = some d) (hd : isAgg d = true) (hi : (P.info? ty).map (·.size) = some xs.size) (ho : o.op = .load ty x) (hx : a.eval x = .pointer (some ⟨B, 0, none⟩)) :
    (execOp a.eval o).run P w = .ok (.value (.agg xs)) w := by
  unfold execOp
  simp only [ho, hx, run_loadAt_blk hB hu (by cases d <;> first | rfl | exact hd) hi, Sem.run_bind, Sem.run_pure, Result.andThen_ok]

theorem step_assign {w : World} {o : Oper} {a : Act} {K : Act → World → Prop} {EE : Prop} {x : Operand}
    (hgd : o.guard = none) (ho : o.op = .assign x) (h : K (a.put o.dst (a.eval x)) w) : if Region.wanted o (yielded ops a.tmps) = true then Oper.wp P o a w K Q else EE := by
  have hw : Region.wanted o (yielded ops a.tmps) = true := by simp [Region.wanted, hgd]
  rw [if_pos hw]
  unfold Oper.wp execOp
  simp only [ho, Sem.run_pure]
  exact h

theorem step_build1 {w : World} {o : Oper} {a : Act} {K : Act → World → Prop} {EE : Prop} {t e : TypeId} {x : Operand} {xs : Array Value} {ie : TypeInfo} {z : Value}
    (hgd : o.guard = none) (ho : o.op = .buildSlice t 1 #[(0, x)]) (hx : a.eval x = .agg xs) (hu : P.underlying t = some (.slice e)) (hie : P.info? e = some ie) (hz : ie.zero = some z) (hsmall : ¬ 1 * ie.size > 2 ^ 24) (hpos : ¬ 1 * ie.size = 0)
    (hf : Instr.fill (fun i => some (i * ie.size, ie.size)) ((Array.range (1 * ie.size)).map (z.cells[· % z.cells.size]!)) [(0, .agg xs)] = some xs)
    (h : K (a.put o.dst (.slice (some ⟨w.heap.size, 0, none⟩) 1 1)) (w.alloc (.cells xs e))) : if Region.wanted o (yielded ops a.tmps) = true then Oper.wp P o a w K Q else EE := by
  have hw : Region.wanted o (yielded ops a.tmps) = true := by simp [Region.wanted, hgd]
  rw [if_pos hw]
  exact wp_buildSlice t e 1 #[(0, x)] ho xs ie z hu hie hz hsmall hpos (by simpa [hx] using hf) h

theorem put_other {a : Act} {d t : Tmp} {v : Value} (h : t ≠ d) : (a.put (some d) v).eval (.tmp t) = a.eval (.tmp t) := by
  simp [Act.eval, Act.put, Ne.symm h]

theorem put_self {a : Act} {d : Tmp} {v : Value} (h : d < a.tmps.size) : (a.put (some d) v).eval (.tmp d) = v := by
  simp [Act.eval, Act.put, h]

theorem put_size {a : Act} {d : Option Tmp} {v : Value} : (a.put d v).tmps.size = a.tmps.size := by cases d <;> simp [Act.put]

/-- What a return leaves of a frame: but for some slots it is as it was. -/
structure KeptBut (a a9 : Act) (ds : List Tmp) : Prop where
  tmps : ∀ t, ds.all (fun d => !Nat.beq t d) = true → a9.tmps[t]?.getD undef = a.tmps[t]?.getD undef
  defers : a9.defers = a.defers

theorem eval_tmp (a : Act) (t : Tmp) : a.eval (.tmp t) = a.tmps[t]?.getD undef := by simp [Act.eval, Array.getD_eq_getD_getElem?]

theorem KeptBut.refl (a : Act) (ds : List Tmp) : KeptBut a a ds := ⟨fun _ _ => rfl, rfl⟩

theorem KeptBut.put {a a9 : Act} {ds : List Tmp} {d : Tmp} {v : Value} (h : KeptBut a a9 ds) (hd : d ∈ ds) : KeptBut a (a9.put (some d) v) ds := by
  refine ⟨fun t ht => ?_, h.defers⟩
  rw [← h.tmps t ht]
  have hne : d ≠ t := by
    intro q
    have := List.all_eq_true.1 ht d hd
    rw [q] at this
    simp at this
  simp [Act.put, hne]

/-- 'return x, v, y'. -/
theorem wp_ret5 {id : Nat} {a : Act} {w : World} {o0 o1 o2 o3 o4 : Oper} {tN tF : TypeId} {x0 x1 x2 x3 x4 y2 y4 : Operand} {B F R C : Nat} {tB tG tR tC : TypeId} {ys fs r0 c0 : Array Value} {dN dF : TypeDesc} {v3 : Value}
    (hB : Blk w B tB ys) (hF : Blk w F tG fs) (hR : Blk w R tR r0) (hC : Blk w C tC c0) (hRB : R ≠ B) (hRF : R ≠ F) (hRC : R ≠ C) (hCB : C ≠ B) (hCF : C ≠ F)
    (hm : P.follows .mixedOrders = true) (hns : Region.noSelect ops = true) (hops : ops.toList = [o0, o1, o2, o3, o4])
    (hf0 : Region.free .any ops #[false, false, false, false, false] 0 = true) (hr0 : (Region.ready .any ops #[false, false, false, false, false]).contains 0 = true)
    (hf1 : Region.free .any ops #[true, false, false, false, false] 1 = true) (hr1 : (Region.ready .any ops #[true, false, false, false, false]).contains 1 = true)
    (hr2 : Region.ready .any ops #[true, true, false, false, false] = [2]) (hr3 : Region.ready .any ops #[true, true, true, false, false] = [3]) (hr4 : Region.ready .any ops #[true, true, true, true, false] = [4]) (hr5 : Region.ready .any ops #[true, true, true, true, true] = [])
    (hg : (o0.guard = none ∧ o1.guard = none) ∧ o2.guard = none ∧ o3.guard = none ∧ o4.guard = none)
    (ho : (o0.op = .load tN x0 ∧ o1.op = .load tF x1) ∧ o2.op = .store tN x2 y2 ∧ o3.op = .assign x3 ∧ o4.op = .store tF x4 y4)
    (hpn : ∀ c a w v, Q (.panic c) (a.put o0.dst v) w → Q (.panic c) a w) (hpn1 : ∀ c a w v, Q (.panic c) (a.put o1.dst v) w → Q (.panic c) a w)
    (h0 : a.eval x0 = .pointer (some ⟨B, 0, none⟩)) (h1 : (a.put o0.dst (.agg ys)).eval x1 = .pointer (some ⟨F, 0, none⟩))
    (h2 : ((a.put o0.dst (.agg ys)).put o1.dst (.agg fs)).eval x2 = .pointer (some ⟨R, 0, none⟩)) (h2' : ((a.put o0.dst (.agg ys)).put o1.dst (.agg fs)).eval y2 = .agg ys)
    (hd2 : o2.dst = none) (h3 : ((a.put o0.dst (.agg ys)).put o1.dst (.agg fs)).eval x3 = v3)
    (h4 : (((a.put o0.dst (.agg ys)).put o1.dst (.agg fs)).put o3.dst v3).eval x4 = .pointer (some ⟨C, 0, none⟩)) (h4' : (((a.put o0.dst (.agg ys)).put o1.dst (.agg fs)).put o3.dst v3).eval y4 = .agg fs) (hd4 : o4.dst = none)
    (huN : P.underlying tN = some dN) (hdN : isAgg dN = true) (hiN : (P.info? tN).map (·.size) = some ys.size)
    (huF : P.underlying tF = some dF) (hdF : isAgg dF = true) (hiF : (P.info? tF).map (·.size) = some fs.size)
    (hz2 : r0.size = ys.size) (hc2 : ys.toList.all (·.oneCell') = true) (hz4 : c0.size = fs.size) (hc4 : fs.toList.all (·.oneCell') = true)
    (h : ∀ wm w9, w.grownBy wm (some R) → wm.grownBy w9 (some C) → Blk w9 R tR ys → Blk w9 C tC fs → Q .normal (((a.put o0.dst (.agg ys)).put o1.dst (.agg fs)).put o3.dst v3) w9) : (Code.region id ops true).wp P Q a w := by
  obtain ⟨⟨g0, g1⟩, g2, g3, g4⟩ := hg
  obtain ⟨⟨p0, p1⟩, p2, p3, p4⟩ := ho
  have hD : Below w.heap.size w w.drew := Below.drew (Below.refl _ _)
  have hsz : ops.size = 5 := by rw [← Array.length_toList, hops]; rfl
  refine wp_region_heldD (S := fun W => Blk W B tB ys ∧ Blk W F tG fs) (n := 5) (l := #[false, false, false, false, false]) hm hsz rfl hns ⟨hB.later hD, hF.later hD⟩ (fun _ hS => ?_)
  have hw0 : ∀ a' : Act, Region.wanted o0 (yielded ops a'.tmps) = true := fun a' => by simp [Region.wanted, g0]
  have hw1 : ∀ a' : Act, Region.wanted o1 (yielded ops a'.tmps) = true := fun a' => by simp [Region.wanted, g1]
  refine wpAnyH_takeD (l' := #[true, false, false, false, false]) (i := 0) (oi := o0) (v := .agg ys) (fuel := 4) (by rw [hops]; rfl) hns hf0 hr0 rfl (fun c a w => hpn c a w _) (hw0 _) (fun W hW => exec_load_bk hW.1 huN hdN hiN p0 h0) hS ?_
  refine wpAnyH_takeD (l' := #[true, true, false, false, false]) (i := 1) (oi := o1) (v := .agg fs) (fuel := 3) (by rw [hops]; rfl) hns hf1 hr1 rfl (fun c a w => hpn1 c a w _) (hw1 _) (fun W hW => exec_load_bk hW.2 huF hdF hiF p1 h1) hS ?_
  refine wpAnyH_oneD (l' := #[true, true, true, false, false]) (i := 2) (o := o2) (fuel := 2) (by rw [hops]; rfl) hr2 rfl (fun K2 hK2 => ?_)
  refine step_store_blk g2 p2 h2 h2' (hR.later hD) hz2 hiN hc2 ?_
  intro w2 hR2 hg2
  have hS2 : Blk w2 B tB ys ∧ Blk w2 F tG fs := ⟨hS.1.grown hg2 (by simp; omega), hS.2.grown hg2 (by simp; omega)⟩
  refine hK2.out _ _ hS2 (fun _ => ?_)
  rw [hd2]
  refine wpAnyH_oneD (l' := #[true, true, true, true, false]) (i := 3) (o := o3) (fuel := 1) (by rw [hops]; rfl) hr3 rfl (fun K3 hK3 => ?_)
  refine step_assign g3 p3 ?_
  refine hK3.out _ _ hS2 (fun _ => ?_)
  refine wpAnyH_oneD (l' := #[true, true, true, true, true]) (i := 4) (o := o4) (fuel := 0) (by rw [hops]; rfl) hr4 rfl (fun K4 hK4 => ?_)
  refine step_store_blk g4 p4 (by rw [show (((a.put o0.dst (.agg ys)).put o1.dst (.agg fs)).put none undef).eval x3 = v3 from h3]; exact h4) (by rw [show (((a.put o0.dst (.agg ys)).put o1.dst (.agg fs)).put none undef).eval x3 = v3 from h3]; exact h4') (((hC.later hD).grown hg2 (by simp; omega))) hz4 hiF hc4 ?_
  intro w4 hC4 hg4
  have gw2 := grown_via hD hg2
  have hS4 : Blk w4 B tB ys ∧ Blk w4 F tG fs := ⟨hS2.1.grown hg4 (by simp; omega), hS2.2.grown hg4 (by simp; omega)⟩
  refine hK4.out _ _ hS4 (fun _ => ?_)
  rw [hd4]
  refine wpAnyH_done hr5 ?_ _
  rw [show (((a.put o0.dst (.agg ys)).put o1.dst (.agg fs)).put none undef).eval x3 = v3 from h3]
  exact h w2 w4 gw2 hg4 (hR2.grown hg4 (by simp; omega)) hC4

theorem foldl_setG : ∀ (l : List Value) (s : Nat) (cs : Array Value), s + l.length ≤ cs.size → ((l.zipIdx s).foldl (fun cs p => cs.setIfInBounds p.2 p.1) cs).toList = cs.toList.take s ++ l ++ cs.toList.drop (s + l.length)
  | [], s, cs, h => by simp
  | a :: l, s, cs, h => by
    have hl : s < cs.size := by simp at h; omega
    rw [List.zipIdx_cons, List.foldl_cons, foldl_setG l (s + 1) (cs.setIfInBounds s a) (by simp at h ⊢; omega)]
    simp only [Array.toList_setIfInBounds, List.length_cons]
    have e1 : (cs.toList.set s a).take (s + 1) = cs.toList.take s ++ [a] := by
      rw [List.take_set, List.take_succ_eq_append_getElem (by simpa using hl), List.set_append_right _ _ (by simp; omega)]
      simp [Nat.min_eq_left (Nat.le_of_lt hl)]
    have e2 : (cs.toList.set s a).drop (s + 1 + l.length) = cs.toList.drop (s + (l.length + 1)) := by
      rw [List.drop_set_of_lt (by omega)]
      congr 1
      omega
    rw [e1, e2]
    simp

/-- A slice literal of one structure that is given whole. -/
theorem fill_one {ms cs : Array Value} {n : Nat} (h1 : ms.size = n) (h2 : cs.size = n) : Instr.fill (fun i => some (i * n, n)) cs [(0, .agg ms)] = some ms := by
  have h3 := foldl_setG ms.toList 0 cs (by simp; omega)
  have h4 : (ms.toList.zipIdx 0).foldl (fun cs p => cs.setIfInBounds p.2 p.1) cs = ms := by
    apply Array.toList_inj.1
    rw [h3]
    have : cs.toList.drop (0 + ms.toList.length) = [] := List.drop_eq_nil_of_le (by simp; omega)
    rw [this]
    simp
  have hc : (Value.agg ms).cells = ms := rfl
  unfold Instr.fill
  simp only [Nat.zero_mul, hc, Nat.zero_add]
  rw [if_neg (by simp; omega)]
  unfold Instr.fill
  rw [← Array.foldl_toList, Array.toList_zipIdx]
  exact congrArg some h4

/-- 'return x, []T{b}, y'. -/
theorem wp_ret7 {id : Nat} {a : Act} {w : World} {o0 o1 o2 o3 o4 o5 o6 : Oper} {tN tM tF tL eM : TypeId} {x0 x1 xb x3 : Operand} {i4 j4 i6 j6 d0 d1 d2 d3 d5 : Tmp} {B M F R C : Nat} {tB tMm tG tR tC : TypeId} {ys ms fs r0 c0 : Array Value} {dN dM dF : TypeDesc} {z : Value} {n : Nat}
    (hB : Blk w B tB ys) (hM : Blk w M tMm ms) (hF : Blk w F tG fs) (hR : Blk w R tR r0) (hC : Blk w C tC c0) (hRB : R ≠ B) (hRM : R ≠ M) (hRF : R ≠ F) (hRC : R ≠ C) (hCB : C ≠ B) (hCM : C ≠ M) (hCF : C ≠ F)
    (hm : P.follows .mixedOrders = true) (hns : Region.noSelect ops = true) (hops : ops.toList = [o0, o1, o2, o3, o4, o5, o6])
    (hfr : Region.free .any ops #[false, false, false, false, false, false, false] 0 = true ∧ Region.free .any ops #[true, false, false, false, false, false, false] 1 = true ∧ Region.free .any ops #[true, true, false, false, false, false, false] 3 = true)
    (hcn : (Region.ready .any ops #[false, false, false, false, false, false, false]).contains 0 = true ∧ (Region.ready .any ops #[true, false, false, false, false, false, false]).contains 1 = true ∧ (Region.ready .any ops #[true, true, false, false, false, false, false]).contains 3 = true)
    (hr3 : Region.ready .any ops #[true, true, false, true, false, false, false] = [2, 4]) (hr4a : Region.ready .any ops #[true, true, true, true, false, false, false] = [4]) (hr4b : Region.ready .any ops #[true, true, false, true, true, false, false] = [2]) (hr5 : Region.ready .any ops #[true, true, true, true, true, false, false] = [5]) (hr6 : Region.ready .any ops #[true, true, true, true, true, true, false] = [6]) (hr7 : Region.ready .any ops #[true, true, true, true, true, true, true] = [])
    (hg : (o0.guard = none ∧ o1.guard = none ∧ o3.guard = none) ∧ o2.guard = none ∧ o4.guard = none ∧ o5.guard = none ∧ o6.guard = none)
    (ho : (o0.op = .load tN x0 ∧ o1.op = .load tM x1 ∧ o3.op = .load tF x3) ∧ o2.op = .buildSlice tL 1 #[(0, xb)] ∧ o4.op = .store tN (.tmp i4) (.tmp j4) ∧ o5.op = .assign (.tmp d2) ∧ o6.op = .store tF (.tmp i6) (.tmp j6))
    (hpn0 : ∀ c a w v, Q (.panic c) (a.put o0.dst v) w → Q (.panic c) a w) (hpn1 : ∀ c a w v, Q (.panic c) (a.put o1.dst v) w → Q (.panic c) a w) (hpn3 : ∀ c a w v, Q (.panic c) (a.put o3.dst v) w → Q (.panic c) a w)
    (h0 : a.eval x0 = .pointer (some ⟨B, 0, none⟩)) (h1 : (a.put o0.dst (.agg ys)).eval x1 = .pointer (some ⟨M, 0, none⟩))
    (h3 : ((a.put o0.dst (.agg ys)).put o1.dst (.agg ms)).eval x3 = .pointer (some ⟨F, 0, none⟩))
    (hb : (((a.put o0.dst (.agg ys)).put o1.dst (.agg ms)).put o3.dst (.agg fs)).eval xb = .agg ms)
    (h4 : (((a.put o0.dst (.agg ys)).put o1.dst (.agg ms)).put o3.dst (.agg fs)).eval (.tmp i4) = .pointer (some ⟨R, 0, none⟩)) (h4' : (((a.put o0.dst (.agg ys)).put o1.dst (.agg ms)).put o3.dst (.agg fs)).eval (.tmp j4) = .agg ys)
    (h6 : (((a.put o0.dst (.agg ys)).put o1.dst (.agg ms)).put o3.dst (.agg fs)).eval (.tmp i6) = .pointer (some ⟨C, 0, none⟩)) (h6' : (((a.put o0.dst (.agg ys)).put o1.dst (.agg ms)).put o3.dst (.agg fs)).eval (.tmp j6) = .agg fs)
    (hdd : (o2.dst = some d2 ∧ o5.dst = some d5) ∧ (i4 ≠ d2 ∧ j4 ≠ d2) ∧ (i6 ≠ d2 ∧ j6 ≠ d2) ∧ (i6 ≠ d5 ∧ j6 ≠ d5)) (hds : (a.tmps.toList.drop d2).isEmpty = false)
    (hd4 : o4.dst = none) (hd6 : o6.dst = none)
    (huN : P.underlying tN = some dN) (hdN : isAgg dN = true) (hiN : (P.info? tN).map (·.size) = some ys.size)
    (huM : P.underlying tM = some dM) (hdM : isAgg dM = true) (hiM : (P.info? tM).map (·.size) = some ms.size)
    (huF : P.underlying tF = some dF) (hdF : isAgg dF = true) (hiF : (P.info? tF).map (·.size) = some fs.size)
    (hu : P.underlying tL = some (.slice eM)) (hinf : (P.info? eM).map (fun i => (i.zero, i.size)) = some (some z, n)) (hsmall : ¬ 1 * n > 2 ^ 24) (hpos : ¬ 1 * n = 0)
    (hms : ms.size = n)
    (hz2 : r0.size = ys.size) (hc2 : ys.toList.all (·.oneCell') = true) (hz4 : c0.size = fs.size) (hc4 : fs.toList.all (·.oneCell') = true)
    (hde : o0.dst = some d0 ∧ o1.dst = some d1 ∧ o3.dst = some d3) (hds5 : (a.tmps.toList.drop d5).isEmpty = false)
    (h : ∀ k wm w9 a9, KeptBut a a9 [d0, d1, d3, d2, d5] → a9.tmps[d5]?.getD undef = .slice (some ⟨k, 0, none⟩) 1 1 → w.grownBy wm (some R) → wm.grownBy w9 (some C) → Blk w9 R tR ys → Blk w9 C tC fs → w.heap.size ≤ k → Blk w9 k eM ms → Q .normal a9 w9) : (Code.region id ops true).wp P Q a w := by
  obtain ⟨⟨g0, g1, g3⟩, g2, g4, g5, g6⟩ := hg
  obtain ⟨⟨p0, p1, p3⟩, p2, p4, p5, p6⟩ := ho
  obtain ⟨hf0, hf1, hf3⟩ := hfr
  obtain ⟨⟨e2, e5⟩, ⟨n4, n4'⟩, ⟨n6, n6'⟩, n6a, n6b⟩ := hdd
  have hf : Instr.fill (fun i => some (i * n, n)) ((Array.range (1 * n)).map (z.cells[· % z.cells.size]!)) [(0, .agg ms)] = some ms := fill_one hms (by simp)
  obtain ⟨ie, hie, hz, rfl⟩ : ∃ ie, P.info? eM = some ie ∧ ie.zero = some z ∧ ie.size = n := by
    cases hq : P.info? eM with
    | none => rw [hq] at hinf; simp at hinf
    | some ie => rw [hq] at hinf; simp at hinf; exact ⟨ie, rfl, hinf.1, hinf.2⟩
  obtain ⟨hn0, hn1, hn3⟩ := hcn
  have hD : Below w.heap.size w w.drew := Below.drew (Below.refl _ _)
  have hsz : ops.size = 7 := by rw [← Array.length_toList, hops]; rfl
  refine wp_region_heldD (S := fun W => Blk W B tB ys ∧ Blk W M tMm ms ∧ Blk W F tG fs) (n := 7) (l := #[false, false, false, false, false, false, false]) hm hsz rfl hns ⟨hB.later hD, hM.later hD, hF.later hD⟩ (fun _ hS => ?_)
  have hw0 : ∀ a' : Act, Region.wanted o0 (yielded ops a'.tmps) = true := fun a' => by simp [Region.wanted, g0]
  have hw1 : ∀ a' : Act, Region.wanted o1 (yielded ops a'.tmps) = true := fun a' => by simp [Region.wanted, g1]
  have hw3 : ∀ a' : Act, Region.wanted o3 (yielded ops a'.tmps) = true := fun a' => by simp [Region.wanted, g3]
  refine wpAnyH_takeD (l' := #[true, false, false, false, false, false, false]) (i := 0) (oi := o0) (v := .agg ys) (fuel := 6) (by rw [hops]; rfl) hns hf0 hn0 rfl (fun c a w => hpn0 c a w _) (hw0 _) (fun W hW => exec_load_bk hW.1 huN hdN hiN p0 h0) hS ?_
  refine wpAnyH_takeD (l' := #[true, true, false, false, false, false, false]) (i := 1) (oi := o1) (v := .agg ms) (fuel := 5) (by rw [hops]; rfl) hns hf1 hn1 rfl (fun c a w => hpn1 c a w _) (hw1 _) (fun W hW => exec_load_bk hW.2.1 huM hdM hiM p1 h1) hS ?_
  refine wpAnyH_takeD (l' := #[true, true, false, true, false, false, false]) (i := 3) (oi := o3) (v := .agg fs) (fuel := 4) (by rw [hops]; rfl) hns hf3 hn3 rfl (fun c a w => hpn3 c a w _) (hw3 _) (fun W hW => exec_load_bk hW.2.2 huF hdF hiF p3 h3) hS ?_
  have hds := of_drop hds
  have hds5 := of_drop hds5
  obtain ⟨q0, q1, q3⟩ := hde
  have hkb : KeptBut a (((a.put o0.dst (.agg ys)).put o1.dst (.agg ms)).put o3.dst (.agg fs)) [d0, d1, d3, d2, d5] := by
    rw [q0, q1, q3]
    exact (((KeptBut.refl a _).put (by simp)).put (by simp)).put (by simp)
  have hsA : (((a.put o0.dst (.agg ys)).put o1.dst (.agg ms)).put o3.dst (.agg fs)).tmps.size = a.tmps.size := by rw [q0, q1, q3]; simp [Act.put]
  generalize ((a.put o0.dst (.agg ys)).put o1.dst (.agg ms)).put o3.dst (.agg fs) = A at *
  have hRD := hR.later hD
  have hCD := hC.later hD
  have hzD : w.heap.size ≤ w.drew.heap.size := hD.size
  generalize w.drew = W at *
  -- behind both: the assign and the last store
  have tail : ∀ (k : Nat) (w2 : World), w.grownBy w2 (some R) → Blk w2 R tR ys → w.heap.size ≤ k → Blk w2 k eM ms → wpAnyH P .any ops Q (fun W => Blk W B tB ys ∧ Blk W M tMm ms ∧ Blk W F tG fs) 2 #[true, true, true, true, true, false, false] (A.put o2.dst (.slice (some ⟨k, 0, none⟩) 1 1)) w2 := by
    intro k w2 hg2 hR2 hk hK2
    have hS2 : Blk w2 B tB ys ∧ Blk w2 M tMm ms ∧ Blk w2 F tG fs := ⟨hB.grown hg2 (by simp; omega), hM.grown hg2 (by simp; omega), hF.grown hg2 (by simp; omega)⟩
    have hC2 := hC.grown hg2 (by simp; omega)
    have hcl := hC.lt
    refine wpAnyH_oneD (l' := #[true, true, true, true, true, true, false]) (i := 5) (o := o5) (fuel := 1) (by rw [hops]; rfl) hr5 rfl (fun K3 hK3 => ?_)
    refine step_assign g5 p5 ?_
    refine hK3.out _ _ hS2 (fun _ => ?_)
    rw [e2, put_self (by rw [hsA]; exact hds)]
    refine wpAnyH_oneD (l' := #[true, true, true, true, true, true, true]) (i := 6) (o := o6) (fuel := 0) (by rw [hops]; rfl) hr6 rfl (fun K4 hK4 => ?_)
    refine step_store_blk g6 p6 (by rw [e5, put_other n6a, put_other n6]; exact h6) (by rw [e5, put_other n6b, put_other n6']; exact h6') hC2 hz4 hiF hc4 ?_
    intro w4 hC4 hg4
    have hS4 : Blk w4 B tB ys ∧ Blk w4 M tMm ms ∧ Blk w4 F tG fs := ⟨hS2.1.grown hg4 (by simp; omega), hS2.2.1.grown hg4 (by simp; omega), hS2.2.2.grown hg4 (by simp; omega)⟩
    refine hK4.out _ _ hS4 (fun _ => ?_)
    rw [hd6]
    rw [← e2]
    exact wpAnyH_done hr7 (h k w2 w4 _ (by rw [e2, e5]; exact (hkb.put (by simp)).put (by simp)) (by rw [e2, e5, ← eval_tmp]; exact put_self (by simp only [put_size]; rw [hsA]; exact hds5)) hg2 hg4 (hR2.grown hg4 (by simp; omega)) hC4 hk (hK2.grown hg4 (by simp; omega))) _
  have hrl := hR.lt
  refine wpAnyH_ready hr3 (by simp) (AllReadyH.cons (at_of_drop (oi := o2) (by rw [hops]; rfl)) (fun K1 hK1 => ?_) (AllReadyH.cons (at_of_drop (oi := o4) (by rw [hops]; rfl)) (fun K1 hK1 => ?_) AllReadyH.nil))
  · refine step_build1 g2 p2 hb hu hie hz hsmall hpos hf ?_
    have hN := below_allocG W (.cells ms eM)
    refine hK1.out _ _ ⟨hS.1.later hN, hS.2.1.later hN, hS.2.2.later hN⟩ (fun hS1 => ?_)
    rw [show (#[true, true, false, true, false, false, false] : Array Bool).setIfInBounds 2 true = #[true, true, true, true, false, false, false] from rfl]
    refine wpAnyH_oneD (l' := #[true, true, true, true, true, false, false]) (i := 4) (o := o4) (fuel := 2) (by rw [hops]; rfl) hr4a rfl (fun K2 hK2 => ?_)
    refine step_store_blk g4 p4 (by rw [e2, put_other n4]; exact h4) (by rw [e2, put_other n4']; exact h4') (hRD.later hN) hz2 hiN hc2 ?_
    intro w2 hR2 hg2
    have gw := grown_via (hD.trans (hN.mono hzD)) hg2
    refine hK2.out _ _ ⟨hS1.1.grown hg2 (by simp; omega), hS1.2.1.grown hg2 (by simp; omega), hS1.2.2.grown hg2 (by simp; omega)⟩ (fun _ => ?_)
    rw [hd4]
    exact tail W.heap.size w2 gw hR2 hzD ((Blk.new W eM ms).grown hg2 (by simp; omega))
  · refine step_store_blk g4 p4 h4 h4' hRD hz2 hiN hc2 ?_
    intro w2 hR2 hg2
    have gw := grown_via hD hg2
    have hS1 : Blk w2 B tB ys ∧ Blk w2 M tMm ms ∧ Blk w2 F tG fs := ⟨hS.1.grown hg2 (by simp; omega), hS.2.1.grown hg2 (by simp; omega), hS.2.2.grown hg2 (by simp; omega)⟩
    refine hK1.out _ _ hS1 (fun _ => ?_)
    rw [hd4, show (#[true, true, false, true, false, false, false] : Array Bool).setIfInBounds 4 true = #[true, true, false, true, true, false, false] from rfl]
    refine wpAnyH_oneD (l' := #[true, true, true, true, true, false, false]) (i := 2) (o := o2) (fuel := 2) (by rw [hops]; rfl) hr4b rfl (fun K2 hK2 => ?_)
    refine step_build1 g2 p2 hb hu hie hz hsmall hpos hf ?_
    have hN := below_allocG w2 (.cells ms eM)
    refine hK2.out _ _ ⟨hS1.1.later hN, hS1.2.1.later hN, hS1.2.2.later hN⟩ (fun _ => ?_)
    exact tail w2.heap.size _ (grown_below gw hN) (hR2.later hN) (by have := gw.size; omega) (Blk.new w2 eM ms)

theorem step_callR {w : World} {o : Oper} {a : Act} {K : Act → World → Prop} {E : Prop} {f : FuncId} {x : Operand} {ats : Array TypeId} {v : Value} {R : Value → World → Prop}
    (hc : Calls P f #[v] w fun e w' => ∃ u, e = .returned u ∧ R u w') (hcf : ∀ args W, (callFunc f args).run P W = .ok (.enter f args) W)
    (hgd : o.guard = none) (ho : o.op = .call { callee := .value (.func f), args := #[x], argTypes := ats }) (hx : a.eval x = v)
    (h : ∀ u w', R u w' → K (a.put o.dst u) w') :
    if Region.wanted o (yielded ops a.tmps) = true then Oper.wp P o a w K Q else E := by
  have hw : Region.wanted o (yielded ops a.tmps) = true := by simp [Region.wanted, hgd]
  rw [if_pos hw]
  have he : execOp a.eval o = callFunc f #[v] := by
    cases o
    simp only at ho
    subst ho
    rw [execOp_call_go]
    simp [hx]
  unfold Oper.wp
  rw [he, hcf, Oper.upon_enter]
  exact hc.mono (by rintro e w' ⟨u, rfl, hr⟩; exact h u w' hr)

/-- 'return x, f(x), y'. -/
theorem wp_ret7c {id : Nat} {a : Act} {w : World} {o0 o1 o2 o3 o4 o5 o6 : Oper} {f : FuncId} {ats : Array TypeId} {tN tF : TypeId} {x0 x1 xb x3 : Operand} {i4 j4 i6 j6 d0 d1 d2 d3 d5 : Tmp} {B F R C : Nat} {tB tG tR tC : TypeId} {ys fs r0 c0 : Array Value} {dN dF : TypeDesc} {Rel : Value → World → Prop}
    (hB : Blk w B tB ys) (hF : Blk w F tG fs) (hR : Blk w R tR r0) (hC : Blk w C tC c0) (hRB : R ≠ B) (hRF : R ≠ F) (hRC : R ≠ C) (hCB : C ≠ B) (hCF : C ≠ F)
    (hcall : Calls P f #[.agg ys] w.drew fun e w' => ∃ u, e = .returned u ∧ Rel u w') (hrel : ∀ u W, Rel u W → Below w.drew.heap.size w.drew W) (hcf : ∀ args W, (callFunc f args).run P W = .ok (.enter f args) W)
    (hm : P.follows .mixedOrders = true) (hns : Region.noSelect ops = true) (hops : ops.toList = [o0, o1, o2, o3, o4, o5, o6])
    (hfr : Region.free .any ops #[false, false, false, false, false, false, false] 0 = true ∧ Region.free .any ops #[true, false, false, false, false, false, false] 1 = true ∧ Region.free .any ops #[true, true, false, false, false, false, false] 3 = true)
    (hcn : (Region.ready .any ops #[false, false, false, false, false, false, false]).contains 0 = true ∧ (Region.ready .any ops #[true, false, false, false, false, false, false]).contains 1 = true ∧ (Region.ready .any ops #[true, true, false, false, false, false, false]).contains 3 = true)
    (hr3 : Region.ready .any ops #[true, true, false, true, false, false, false] = [2]) (hr4 : Region.ready .any ops #[true, true, true, true, false, false, false] = [4]) (hr5 : Region.ready .any ops #[true, true, true, true, true, false, false] = [5]) (hr6 : Region.ready .any ops #[true, true, true, true, true, true, false] = [6]) (hr7 : Region.ready .any ops #[true, true, true, true, true, true, true] = [])
    (hg : (o0.guard = none ∧ o1.guard = none ∧ o3.guard = none) ∧ o2.guard = none ∧ o4.guard = none ∧ o5.guard = none ∧ o6.guard = none)
    (ho : (o0.op = .load tN x0 ∧ o1.op = .load tN x1 ∧ o3.op = .load tF x3) ∧ o2.op = .call { callee := .value (.func f), args := #[xb], argTypes := ats } ∧ o4.op = .store tN (.tmp i4) (.tmp j4) ∧ o5.op = .assign (.tmp d2) ∧ o6.op = .store tF (.tmp i6) (.tmp j6))
    (hpn0 : ∀ c a w v, Q (.panic c) (a.put o0.dst v) w → Q (.panic c) a w) (hpn1 : ∀ c a w v, Q (.panic c) (a.put o1.dst v) w → Q (.panic c) a w) (hpn3 : ∀ c a w v, Q (.panic c) (a.put o3.dst v) w → Q (.panic c) a w)
    (h0 : a.eval x0 = .pointer (some ⟨B, 0, none⟩)) (h1 : (a.put o0.dst (.agg ys)).eval x1 = .pointer (some ⟨B, 0, none⟩))
    (h3 : ((a.put o0.dst (.agg ys)).put o1.dst (.agg ys)).eval x3 = .pointer (some ⟨F, 0, none⟩))
    (hb : (((a.put o0.dst (.agg ys)).put o1.dst (.agg ys)).put o3.dst (.agg fs)).eval xb = .agg ys)
    (h4 : (((a.put o0.dst (.agg ys)).put o1.dst (.agg ys)).put o3.dst (.agg fs)).eval (.tmp i4) = .pointer (some ⟨R, 0, none⟩)) (h4' : (((a.put o0.dst (.agg ys)).put o1.dst (.agg ys)).put o3.dst (.agg fs)).eval (.tmp j4) = .agg ys)
    (h6 : (((a.put o0.dst (.agg ys)).put o1.dst (.agg ys)).put o3.dst (.agg fs)).eval (.tmp i6) = .pointer (some ⟨C, 0, none⟩)) (h6' : (((a.put o0.dst (.agg ys)).put o1.dst (.agg ys)).put o3.dst (.agg fs)).eval (.tmp j6) = .agg fs)
    (hdd : (o2.dst = some d2 ∧ o5.dst = some d5) ∧ (i4 ≠ d2 ∧ j4 ≠ d2) ∧ (i6 ≠ d2 ∧ j6 ≠ d2) ∧ (i6 ≠ d5 ∧ j6 ≠ d5)) (hds : (a.tmps.toList.drop d2).isEmpty = false)
    (hd4 : o4.dst = none) (hd6 : o6.dst = none)
    (huN : P.underlying tN = some dN) (hdN : isAgg dN = true) (hiN : (P.info? tN).map (·.size) = some ys.size)
    (huF : P.underlying tF = some dF) (hdF : isAgg dF = true) (hiF : (P.info? tF).map (·.size) = some fs.size)
    (hz2 : r0.size = ys.size) (hc2 : ys.toList.all (·.oneCell') = true) (hz4 : c0.size = fs.size) (hc4 : fs.toList.all (·.oneCell') = true)
    (hde : o0.dst = some d0 ∧ o1.dst = some d1 ∧ o3.dst = some d3) (hds5 : (a.tmps.toList.drop d5).isEmpty = false)
    (h : ∀ u W wm w9 a9, KeptBut a a9 [d0, d1, d3, d2, d5] → a9.tmps[d5]?.getD undef = u → Rel u W → Below w.heap.size w W → W.grownBy wm (some R) → wm.grownBy w9 (some C) → Blk w9 R tR ys → Blk w9 C tC fs → Q .normal a9 w9) : (Code.region id ops true).wp P Q a w := by
  obtain ⟨⟨g0, g1, g3⟩, g2, g4, g5, g6⟩ := hg
  obtain ⟨⟨p0, p1, p3⟩, p2, p4, p5, p6⟩ := ho
  obtain ⟨hf0, hf1, hf3⟩ := hfr
  obtain ⟨⟨e2, e5⟩, ⟨n4, n4'⟩, ⟨n6, n6'⟩, n6a, n6b⟩ := hdd
  obtain ⟨hn0, hn1, hn3⟩ := hcn
  have hD : Below w.heap.size w w.drew := Below.drew (Below.refl _ _)
  have hsz : ops.size = 7 := by rw [← Array.length_toList, hops]; rfl
  refine wp_region_heldD (S := fun W => Blk W B tB ys ∧ Blk W F tG fs) (n := 7) (l := #[false, false, false, false, false, false, false]) hm hsz rfl hns ⟨hB.later hD, hF.later hD⟩ (fun _ hS => ?_)
  have hw0 : ∀ a' : Act, Region.wanted o0 (yielded ops a'.tmps) = true := fun a' => by simp [Region.wanted, g0]
  have hw1 : ∀ a' : Act, Region.wanted o1 (yielded ops a'.tmps) = true := fun a' => by simp [Region.wanted, g1]
  have hw3 : ∀ a' : Act, Region.wanted o3 (yielded ops a'.tmps) = true := fun a' => by simp [Region.wanted, g3]
  refine wpAnyH_takeD (l' := #[true, false, false, false, false, false, false]) (i := 0) (oi := o0) (v := .agg ys) (fuel := 6) (by rw [hops]; rfl) hns hf0 hn0 rfl (fun c a w => hpn0 c a w _) (hw0 _) (fun W hW => exec_load_bk hW.1 huN hdN hiN p0 h0) hS ?_
  refine wpAnyH_takeD (l' := #[true, true, false, false, false, false, false]) (i := 1) (oi := o1) (v := .agg ys) (fuel := 5) (by rw [hops]; rfl) hns hf1 hn1 rfl (fun c a w => hpn1 c a w _) (hw1 _) (fun W hW => exec_load_bk hW.1 huN hdN hiN p1 h1) hS ?_
  refine wpAnyH_takeD (l' := #[true, true, false, true, false, false, false]) (i := 3) (oi := o3) (v := .agg fs) (fuel := 4) (by rw [hops]; rfl) hns hf3 hn3 rfl (fun c a w => hpn3 c a w _) (hw3 _) (fun W hW => exec_load_bk hW.2 huF hdF hiF p3 h3) hS ?_
  have hds := of_drop hds
  have hds5 := of_drop hds5
  obtain ⟨q0, q1, q3⟩ := hde
  have hkb : KeptBut a (((a.put o0.dst (.agg ys)).put o1.dst (.agg ys)).put o3.dst (.agg fs)) [d0, d1, d3, d2, d5] := by
    rw [q0, q1, q3]
    exact (((KeptBut.refl a _).put (by simp)).put (by simp)).put (by simp)
  have hsA : (((a.put o0.dst (.agg ys)).put o1.dst (.agg ys)).put o3.dst (.agg fs)).tmps.size = a.tmps.size := by rw [q0, q1, q3]; simp [Act.put]
  generalize ((a.put o0.dst (.agg ys)).put o1.dst (.agg ys)).put o3.dst (.agg fs) = A at *
  refine wpAnyH_oneD (l' := #[true, true, true, true, false, false, false]) (i := 2) (o := o2) (fuel := 3) (by rw [hops]; rfl) hr3 rfl (fun K1 hK1 => ?_)
  refine step_callR hcall hcf g2 p2 hb ?_
  intro u W hu
  have hbW := hrel u W hu
  have hbw : Below w.heap.size w W := hD.trans (hbW.mono hD.size)
  have hS1 : Blk W B tB ys ∧ Blk W F tG fs := ⟨hB.later hbw, hF.later hbw⟩
  refine hK1.out _ _ hS1 (fun _ => ?_)
  refine wpAnyH_oneD (l' := #[true, true, true, true, true, false, false]) (i := 4) (o := o4) (fuel := 2) (by rw [hops]; rfl) hr4 rfl (fun K2 hK2 => ?_)
  refine step_store_blk g4 p4 (by rw [e2, put_other n4]; exact h4) (by rw [e2, put_other n4']; exact h4') (hR.later hbw) hz2 hiN hc2 ?_
  intro w2 hR2 hg2
  have hS2 : Blk w2 B tB ys ∧ Blk w2 F tG fs := ⟨hS1.1.grown hg2 (by simp; omega), hS1.2.grown hg2 (by simp; omega)⟩
  have hC2 := (hC.later hbw).grown hg2 (by simp; omega)
  refine hK2.out _ _ hS2 (fun _ => ?_)
  rw [hd4]
  refine wpAnyH_oneD (l' := #[true, true, true, true, true, true, false]) (i := 5) (o := o5) (fuel := 1) (by rw [hops]; rfl) hr5 rfl (fun K3 hK3 => ?_)
  refine step_assign g5 p5 ?_
  refine hK3.out _ _ hS2 (fun _ => ?_)
  rw [show ((A.put o2.dst u).put none undef).eval (.tmp d2) = u from by rw [e2]; exact put_self (by rw [hsA]; exact hds)]
  refine wpAnyH_oneD (l' := #[true, true, true, true, true, true, true]) (i := 6) (o := o6) (fuel := 0) (by rw [hops]; rfl) hr6 rfl (fun K4 hK4 => ?_)
  refine step_store_blk g6 p6 (by rw [e2, e5]; exact (put_other n6a).trans ((put_other n6).trans h6)) (by rw [e2, e5]; exact (put_other n6b).trans ((put_other n6').trans h6')) hC2 hz4 hiF hc4 ?_
  intro w4 hC4 hg4
  have hS4 : Blk w4 B tB ys ∧ Blk w4 F tG fs := ⟨hS2.1.grown hg4 (by simp; omega), hS2.2.grown hg4 (by simp; omega)⟩
  refine hK4.out _ _ hS4 (fun _ => ?_)
  rw [hd6]
  exact wpAnyH_done hr7 (h u W w2 w4 _ (by rw [e2, e5]; exact (hkb.put (by simp)).put (by simp)) (by rw [e2, e5, ← eval_tmp]; exact put_self (by simp only [put_size]; rw [hsA]; exact hds5)) hu hbw hg2 hg4 (hR2.grown hg4 (by simp; omega)) hC4) _

/-- 'return f(x), v, y'. -/
theorem wp_ret6c {id : Nat} {a : Act} {w : World} {o0 o1 o2 o3 o4 o5 : Oper} {f : FuncId} {ats : Array TypeId} {tN tF : TypeId} {x0 xb x2 x3 y3 x4 x5 y5 : Operand} {B F R C : Nat} {tB tG tR tC : TypeId} {ys us fs r0 c0 : Array Value} {dN dF : TypeDesc} {v4 : Value}
    (hB : Blk w B tB ys) (hF : Blk w F tG fs) (hR : Blk w R tR r0) (hC : Blk w C tC c0) (hRB : R ≠ B) (hRF : R ≠ F) (hRC : R ≠ C) (hCB : C ≠ B) (hCF : C ≠ F)
    (hcall : Calls P f #[.agg ys] w.drew fun e w' => ∃ u, e = .returned u ∧ (u = .agg us ∧ Below w.drew.heap.size w.drew w')) (hcf : ∀ args W, (callFunc f args).run P W = .ok (.enter f args) W)
    (hm : P.follows .mixedOrders = true) (hns : Region.noSelect ops = true) (hops : ops.toList = [o0, o1, o2, o3, o4, o5])
    (hfr : Region.free .any ops #[false, false, false, false, false, false] 0 = true ∧ Region.free .any ops #[true, false, false, false, false, false] 2 = true)
    (hcn : (Region.ready .any ops #[false, false, false, false, false, false]).contains 0 = true ∧ (Region.ready .any ops #[true, false, false, false, false, false]).contains 2 = true)
    (hr3 : Region.ready .any ops #[true, false, true, false, false, false] = [1]) (hr4 : Region.ready .any ops #[true, true, true, false, false, false] = [3]) (hr5 : Region.ready .any ops #[true, true, true, true, false, false] = [4]) (hr6 : Region.ready .any ops #[true, true, true, true, true, false] = [5]) (hr7 : Region.ready .any ops #[true, true, true, true, true, true] = [])
    (hg : (o0.guard = none ∧ o2.guard = none) ∧ o1.guard = none ∧ o3.guard = none ∧ o4.guard = none ∧ o5.guard = none)
    (ho : (o0.op = .load tN x0 ∧ o2.op = .load tF x2) ∧ o1.op = .call { callee := .value (.func f), args := #[xb], argTypes := ats } ∧ o3.op = .store tN x3 y3 ∧ o4.op = .assign x4 ∧ o5.op = .store tF x5 y5)
    (hpn0 : ∀ c a w v, Q (.panic c) (a.put o0.dst v) w → Q (.panic c) a w) (hpn2 : ∀ c a w v, Q (.panic c) (a.put o2.dst v) w → Q (.panic c) a w)
    (h0 : a.eval x0 = .pointer (some ⟨B, 0, none⟩)) (h2 : (a.put o0.dst (.agg ys)).eval x2 = .pointer (some ⟨F, 0, none⟩))
    (hb : ((a.put o0.dst (.agg ys)).put o2.dst (.agg fs)).eval xb = .agg ys)
    (h3 : (((a.put o0.dst (.agg ys)).put o2.dst (.agg fs)).put o1.dst (.agg us)).eval x3 = .pointer (some ⟨R, 0, none⟩)) (h3' : (((a.put o0.dst (.agg ys)).put o2.dst (.agg fs)).put o1.dst (.agg us)).eval y3 = .agg us)
    (h4 : (((a.put o0.dst (.agg ys)).put o2.dst (.agg fs)).put o1.dst (.agg us)).eval x4 = v4)
    (h5 : ((((a.put o0.dst (.agg ys)).put o2.dst (.agg fs)).put o1.dst (.agg us)).put o4.dst v4).eval x5 = .pointer (some ⟨C, 0, none⟩)) (h5' : ((((a.put o0.dst (.agg ys)).put o2.dst (.agg fs)).put o1.dst (.agg us)).put o4.dst v4).eval y5 = .agg fs)
    (hd3 : o3.dst = none) (hd5 : o5.dst = none)
    (huN : P.underlying tN = some dN) (hdN : isAgg dN = true) (hiN : (P.info? tN).map (·.size) = some ys.size) (hus : us.size = ys.size)
    (huF : P.underlying tF = some dF) (hdF : isAgg dF = true) (hiF : (P.info? tF).map (·.size) = some fs.size)
    (hz2 : r0.size = us.size) (hc2 : us.toList.all (·.oneCell') = true) (hz4 : c0.size = fs.size) (hc4 : fs.toList.all (·.oneCell') = true)
    (h : ∀ W wm w9, Below w.heap.size w W → W.grownBy wm (some R) → wm.grownBy w9 (some C) → Blk w9 R tR us → Blk w9 C tC fs → Q .normal ((((a.put o0.dst (.agg ys)).put o2.dst (.agg fs)).put o1.dst (.agg us)).put o4.dst v4) w9) : (Code.region id ops true).wp P Q a w := by
  obtain ⟨⟨g0, g2⟩, g1, g3, g4, g5⟩ := hg
  obtain ⟨⟨p0, p2⟩, p1, p3, p4, p5⟩ := ho
  obtain ⟨hf0, hf1⟩ := hfr
  obtain ⟨hn0, hn1⟩ := hcn
  have hD : Below w.heap.size w w.drew := Below.drew (Below.refl _ _)
  have hsz : ops.size = 6 := by rw [← Array.length_toList, hops]; rfl
  refine wp_region_heldD (S := fun W => Blk W B tB ys ∧ Blk W F tG fs) (n := 6) (l := #[false, false, false, false, false, false]) hm hsz rfl hns ⟨hB.later hD, hF.later hD⟩ (fun _ hS => ?_)
  have hw0 : ∀ a' : Act, Region.wanted o0 (yielded ops a'.tmps) = true := fun a' => by simp [Region.wanted, g0]
  have hw2 : ∀ a' : Act, Region.wanted o2 (yielded ops a'.tmps) = true := fun a' => by simp [Region.wanted, g2]
  refine wpAnyH_takeD (l' := #[true, false, false, false, false, false]) (i := 0) (oi := o0) (v := .agg ys) (fuel := 5) (by rw [hops]; rfl) hns hf0 hn0 rfl (fun c a w => hpn0 c a w _) (hw0 _) (fun W hW => exec_load_bk hW.1 huN hdN hiN p0 h0) hS ?_
  refine wpAnyH_takeD (l' := #[true, false, true, false, false, false]) (i := 2) (oi := o2) (v := .agg fs) (fuel := 4) (by rw [hops]; rfl) hns hf1 hn1 rfl (fun c a w => hpn2 c a w _) (hw2 _) (fun W hW => exec_load_bk hW.2 huF hdF hiF p2 h2) hS ?_
  generalize (a.put o0.dst (.agg ys)).put o2.dst (.agg fs) = A at *
  refine wpAnyH_oneD (l' := #[true, true, true, false, false, false]) (i := 1) (o := o1) (fuel := 3) (by rw [hops]; rfl) hr3 rfl (fun K1 hK1 => ?_)
  refine step_callR hcall hcf g1 p1 hb ?_
  rintro u W ⟨rfl, hbW⟩
  have hbw : Below w.heap.size w W := hD.trans (hbW.mono hD.size)
  have hS1 : Blk W B tB ys ∧ Blk W F tG fs := ⟨hB.later hbw, hF.later hbw⟩
  refine hK1.out _ _ hS1 (fun _ => ?_)
  refine wpAnyH_oneD (l' := #[true, true, true, true, false, false]) (i := 3) (o := o3) (fuel := 2) (by rw [hops]; rfl) hr4 rfl (fun K2 hK2 => ?_)
  refine step_store_blk g3 p3 h3 h3' (hR.later hbw) hz2 (by rw [hiN, hus]) hc2 ?_
  intro w2 hR2 hg2
  have hS2 : Blk w2 B tB ys ∧ Blk w2 F tG fs := ⟨hS1.1.grown hg2 (by simp; omega), hS1.2.grown hg2 (by simp; omega)⟩
  have hC2 := (hC.later hbw).grown hg2 (by simp; omega)
  refine hK2.out _ _ hS2 (fun _ => ?_)
  rw [hd3]
  refine wpAnyH_oneD (l' := #[true, true, true, true, true, false]) (i := 4) (o := o4) (fuel := 1) (by rw [hops]; rfl) hr5 rfl (fun K3 hK3 => ?_)
  refine step_assign g4 p4 ?_
  refine hK3.out _ _ hS2 (fun _ => ?_)
  rw [show ((A.put o1.dst (.agg us)).put none undef).eval x4 = v4 from h4]
  refine wpAnyH_oneD (l' := #[true, true, true, true, true, true]) (i := 5) (o := o5) (fuel := 0) (by rw [hops]; rfl) hr6 rfl (fun K4 hK4 => ?_)
  refine step_store_blk g5 p5 h5 h5' hC2 hz4 hiF hc4 ?_
  intro w4 hC4 hg4
  have hS4 : Blk w4 B tB ys ∧ Blk w4 F tG fs := ⟨hS2.1.grown hg4 (by simp; omega), hS2.2.grown hg4 (by simp; omega)⟩
  refine hK4.out _ _ hS4 (fun _ => ?_)
  rw [hd5]
  exact wpAnyH_done hr7 (h W w2 w4 hbw hg2 hg4 (hR2.grown hg4 (by simp; omega)) hC4) _

end
end Go.Proofs.Ytbffmdhogehfnaa

/-
  What the walks over the document's TakeNode end with: what is told of the blocks behind a return.
-/
namespace Go.Proofs.Ytbffmdhogehfnaa
open Go.RowKit Go.Maps
set_option linter.unusedVariables false

theorem TnTo.fin {x : Nd} {m : Ml} {w w9 : World} {y : Nd} {lv vv nv hv mv : Value} {ms : List Ml} (h1 : takN x m = y) (h2 : takM x m = ms) (h3 : takF x m = (0, 0)) (hd : RdNd w9 y lv vv nv hv) (hm : RdM w9 mv ms) (hb : Below w.heap.size w w9) :
    TnTo x m w (.returned (.tuple #[ndV y lv vv nv hv, mv, flt (0, 0)])) w9 := by
  subst h1 h2
  unfold TnTo
  rw [h3]
  exact ⟨lv, vv, nv, hv, mv, rfl, hd, hm, hb⟩

theorem Dm.ret {w wm w9 : World} {lab : Nat → Nat} {B R C : Nat} {x : Nd} {lv vv nv hv : Value} (h : Dm w lab B x lv vv nv hv) (hg : w.grownBy wm (some R)) (hg2 : wm.grownBy w9 (some C)) (hR : lab R = 0) (hC : lab C = 0) : Dm w9 lab B x lv vv nv hv :=
  (h.off0 hg hR).off0 hg2 hC

theorem below_ret {w0 w wm w9 : World} {D R C : Nat} (hA : Below D w0 w) (hg : w.grownBy wm (some R)) (hg2 : wm.grownBy w9 (some C)) (hR : D ≤ R) (hC : D ≤ C) (hD : D ≤ w.heap.size) : Below D w0 w9 := by
  have h1 := below_grownO hA hg (fun k hk => by cases hk; exact hR) hD
  exact below_grownO h1 hg2 (fun k hk => by cases hk; exact hC) (Nat.le_trans hD hg.size)

theorem RdM.oneB {w : World} {m : Ml} {B : Nat} (hm : m.ents = []) (hB : Blk w B 44 (mlA m (.slice none 0 0))) : RdM w (.slice (some ⟨B, 0, none⟩) 1 1) [m] := by
  have h : OwM w 0 (.slice (some ⟨B, 0, none⟩) 1 1) [m] := by
    refine ⟨[⟨m, ⟨none, 0, 0⟩⟩], ?_, rfl, fun f hf => ?_⟩
    · exact ⟨rfl, .inr ⟨B, 1, mlA m (.slice none 0 0), rfl, Nat.zero_le _, hB, Nat.le_refl _, by decide, rfl, rfl⟩⟩
    · obtain rfl := List.mem_singleton.1 hf
      show w.ownsRow 0 _ 2 (.slice none 0 0) m.ents.length (eE.vs m.ents)
      rw [hm]
      exact World.ownsRow_nil _ _ _ _
  exact h.rd

theorem RdM.nilW (w : World) : RdM w (.slice none 0 0) [] := (OwM.nil w 0).rd

end Go.Proofs.Ytbffmdhogehfnaa

/-
  The walk over the document's Beats. (Written by rr6.py.)
-/
namespace Go.Proofs.Ytbffmdhogehfnaa
open Go.RowKit Go.Maps
set_option linter.unusedVariables false

theorem lastT_take {l : List Et} {A : Nat} (h : A ≤ l.length) : lastT (l.take A) = termP l A := by
  rw [← termP_last]
  have hl : (l.take A).length = A := by simp; omega
  rw [hl]
  cases A with
  | zero => rfl
  | succ k => rw [termP, termP, List.getElem?_take, if_pos (by omega)]

set_option maxRecDepth 100000 in
set_option maxHeartbeats 8000000 in
theorem Beats_any (x : Nd) (lv vv nv hv : Value) (w : World) (hx : RdNd w x lv vv nv hv) (hn0 : 0 ≤ x.n) (hn7 : x.n ≤ 7) (hll : x.log.length ≤ 1000) (hnl : (x.next.length : Int) = x.n) (hnx : ∀ u ∈ x.next, 1 ≤ u ∧ u ≤ x.log.length + 1) :
    Calls Try.prog 49 #[ndV x lv vv nv hv] w fun e w' => ∃ v', e = .returned v' ∧ OwM w' w.heap.size v' x.beats ∧ Below w.heap.size w w' := by
  obtain ⟨X, hX⟩ : ∃ X, X = x := ⟨_, rfl⟩
  have HEX := hide hX
  obtain ⟨n, id, te, vo, lo, ro, co, vs, ns, hs⟩ := x
  obtain ⟨h1, h2, h3, h4⟩ := hx
  simp only at h1 h2 h3 h4
  obtain ⟨ao, cap, rfl, hc1, hc2⟩ := h1.shape
  obtain ⟨bo, cap2, rfl, hd1, hd2⟩ := h2.shape
  obtain ⟨no, cap3, rfl, _, _⟩ := h3.shape
  obtain ⟨ho, cap4, rfl, _, _⟩ := h4.shape
  simp only at hn0 hn7 hll hnl hnx
  have HVN := hide h3
  have HVL := hide h1
  have HA := hide (below_allocG w (.cells #[.int .i64 n, .int .i64 id, .int .i64 te, .int .i64 vo, .slice ao lo.length cap, .int .i64 ro, .int .i64 co, .slice bo vs.length cap2, .slice no ns.length cap3, .slice ho hs.length cap4] 25))
  have HB := hide (Blk.new w 25 #[.int .i64 n, .int .i64 id, .int .i64 te, .int .i64 vo, .slice ao lo.length cap, .int .i64 ro, .int .i64 co, .slice bo vs.length cap2, .slice no ns.length cap3, .slice ho hs.length cap4])
  obtain ⟨N, hN⟩ : ∃ N : Nat, n = N := ⟨n.toNat, by omega⟩
  have HBT : Hid (Nd.beats ⟨n, id, te, vo, lo, ro, co, vs, ns, hs⟩ = othGo X.id (beatM X) N) := hide (by rw [hX, show N = n.toNat by rw [hN]; rfl]; rfl)
  have HXI := hide (show X.id = id by rw [hX])
  have HMB : Hid (∀ k nx, ns[k]? = some nx → 1 ≤ nx → nx ≤ (lo.length : Int) + 1 → ∃ A : Nat, nx - 1 = (A : Int) ∧ A ≤ lo.length ∧ beatM X k = ⟨3, id, k, te, A, termP lo A, co, (lo.drop A).take 5, false⟩) := hide (fun k nx h a b => ⟨(nx - 1).toNat, by omega, by omega, by
    rw [hX]
    unfold beatM nxA mailN
    simp only [h, Option.getD_some]⟩)
  have hN7 : N ≤ 7 := by omega
  have HNX := hide hnx
  rw [HBT.out]
  unfold ndV ndA
  have hnlN : ns.length = N := by omega
  have HNL := hide hnlN
  subst hN
  clear h1 h2 h3 h4 hX hnl hnlN hnx
  go_enter Try.func49, Try.ntmps49
  have HSA := hide (show (w.alloc (.cells #[.int .i64 (N : Int), .int .i64 id, .int .i64 te, .int .i64 vo, .slice ao lo.length cap, .int .i64 ro, .int .i64 co, .slice bo vs.length cap2, .slice no ns.length cap3, .slice ho hs.length cap4] 25)).heap.size = w.heap.size + 1 by simp)
  generalize hA0 : w.alloc (.cells #[.int .i64 (N : Int), .int .i64 id, .int .i64 te, .int .i64 vo, .slice ao lo.length cap, .int .i64 ro, .int .i64 co, .slice bo vs.length cap2, .slice no ns.length cap3, .slice ho hs.length cap4] 25) = A0 at HA HB HSA
  go_upto_region 1 with fail
  try rw [hA0]
  clear hA0
  have HA1S := hide (show A0.heap.size = w.heap.size + 1 from HSA.out)
  go_wp2_with fail
  go_loopw [3, 4] (fun ov iv wr => ∃ k : Nat, k ≤ N ∧ iv = .int .i64 k ∧ OwM wr w.heap.size ov (othGo X.id (beatM X) k) ∧ Below A0.heap.size A0 wr)
    (fun _ iv _ => N - (intOf iv).toNat)
  case atStart => exact ⟨0, by omega, rfl, OwM.nil _ _, Below.refl _ _⟩
  case round =>
    obtain ⟨k, hk, rfl, how, hbr⟩ := hrel
    have HOW := hide how
    have HBR := hide hbr
    have HBr := hide (HB.out.later hbr)
    have HAr := hide (HA.out.trans (hbr.mono HA.out.size))
    have HLr := hide (HVL.out.below HAr.out)
    obtain ⟨fs, hrow, hmap, hents⟩ := how
    obtain ⟨oo, oc, hov⟩ := owns_shapeK hrow
    subst hov
    have d0 := HBr.out.cell 0
    have d1 := HBr.out.cell 1
    have d2 := HBr.out.cell 2
    have d4 := HBr.out.cell 4
    have d6 := HBr.out.cell 6
    have d8 := HBr.out.cell 8
    have dl := HBr.out.lt
    simp at d0 d1 d2 d4 d6 d8
    clear hbr
    by_cases hlt : k < N
    · have hd : decide ((k : Int) < (N : Int)) = true := decide_eq_true (by omega)
      by_cases hid : (k : Int) = id
      · have hq : ((k : Int) == id) = true := beq_iff_eq.2 hid
        have HS := hide (othGo_skip (f := beatM X) (show (k : Int) = X.id by rw [HXI.out]; exact hid))
        clear hid hrow hmap hents
        go_wp2_with fail
        go_roundw
        case rel => exact ⟨k + 1, by omega, by go_num, by rw [HS.out]; exact HOW.out, HBR.out⟩
        case measure => simp [intOf]; omega
      · have hq : ((k : Int) == id) = false := beq_eq_false_iff_ne.2 hid
        have HS := hide (othGo_one (f := beatM X) (show ¬ (k : Int) = X.id by rw [HXI.out]; exact hid))
        have hfl : fs.length ≤ 100 := by
          have h1 : fs.length = (othGo X.id (beatM X) k).length := by rw [← hmap, List.length_map]
          have h2 : ∀ j, (othGo X.id (beatM X) j).length ≤ j := by
            intro j
            induction j with
            | zero => simp [othGo]
            | succ j ih => rw [othGo]; split <;> simp <;> omega
          have := h2 k
          omega
        obtain ⟨nx, hnx0⟩ : ∃ u, ns[k]? = some u := ⟨_, List.getElem?_eq_getElem (by have := HNL.out; omega)⟩
        have hnb := HNX.out nx (List.mem_of_getElem? hnx0)
        obtain ⟨A, hA1, hA2, hMk⟩ := HMB.out k nx hnx0 hnb.1 hnb.2
        obtain ⟨b, off, rfl, hb, q⟩ := (HVN.out.below HAr.out).hereI hnx0
        have hk1 : (0 : Int) ≤ (k : Int) := by omega
        have hk2 : (k : Int) < (ns.length : Int) := by have := HNL.out; omega
        have hw1 : IntKind.i64.wrap (nx - 1) = (A : Int) := by rw [hA1, IntKind.wrap_i64]; omega
        have hw5 : IntKind.i64.wrap ((A : Int) + 5) = (A : Int) + 5 := by rw [IntKind.wrap_i64]; omega
        have hi0 : (0 : Int) ≤ (A : Int) := by omega
        have hi1 : (A : Int) ≤ (lo.length : Int) := by omega
        have hi2 : (A : Int) ≤ (cap : Int) := by omega
        have HLT := hide (fun W (hW : Below wr.heap.size wr W) => LastTerm_any _ (lo.take A) W ((HLr.out.upto2 (hi := A) hA2).below hW))
        rw [lastT_take hA2] at HLT
        have HMK := hide hMk
        generalize hL5 : (lo.drop A).take 5 = L5 at *
        have HL5 := hide hL5
        have hLn : L5.length ≤ 5 := by rw [← hL5]; simp; omega
        have HDR := hide (show Below wr.heap.size wr wr.drew from Below.drew (Below.refl _ _))
        have HMV := hide (show ∀ so9 sc9, mfE.v ⟨beatM X k, ⟨so9, L5.length, sc9⟩⟩ = [.int .i64 3, .int .i64 id, .int .i64 k, .int .i64 te, .int .i64 A, .int .i64 (termP lo A), .int .i64 co, .slice so9 L5.length sc9, .bool false] by intro so9 sc9; rw [hMk]; rfl)
        have HROWA := hide (show ∀ w9 so9 sc9, Below wr.heap.size wr w9 → (w9.alloc (.cells #[.int .i64 3, .int .i64 id, .int .i64 k, .int .i64 te, .int .i64 A, .int .i64 (termP lo A), .int .i64 co, .slice so9 L5.length sc9, .bool false] 44)).ownsRow w.heap.size 44 9 (.slice oo fs.length oc) fs.length (mfE.vs fs) from fun w9 so9 sc9 hb => (owns_later hrow hb).alloc _)
        have HROO := hide (show ∀ (w9 : World) (so9 : Option Addr) (sc9 : Nat), RdG mfE (w9.alloc (.cells #[.int .i64 3, .int .i64 id, .int .i64 k, .int .i64 te, .int .i64 A, .int .i64 (termP lo A), .int .i64 co, .slice so9 L5.length sc9, .bool false] 44)) (.slice (some ⟨w9.heap.size, 0, none⟩) 1 1) [⟨beatM X k, ⟨so9, L5.length, sc9⟩⟩] from fun w9 so9 sc9 => RdG.newL w9 [_] _ _ (by rw [vs_one1, HMV.out]) (by simp))
        have HSZZ := hide (show ∀ w9 so9 sc9, Below wr.heap.size wr w9 → w.heap.size ≤ (w9.alloc (.cells #[.int .i64 3, .int .i64 id, .int .i64 k, .int .i64 te, .int .i64 A, .int .i64 (termP lo A), .int .i64 co, .slice so9 L5.length sc9, .bool false] 44)).heap.size from fun w9 so9 sc9 hb => by have := hb.size; have := HAr.out.size; simp; omega)
        have HLL := hide (show ∀ f : Mf, fs.length + [f].length ≤ 1000000000 from fun f => by simp; omega)
        have HROW := hide hrow
        have HKEEP : Hid (∀ W, Below wr.heap.size wr W → W.cell? ⟨w.heap.size, 1, none⟩ = some (.int .i64 id) ∧ W.cell? ⟨w.heap.size, 2, none⟩ = some (.int .i64 te) ∧ W.cell? ⟨w.heap.size, 4, none⟩ = some (.slice ao lo.length cap) ∧ W.cell? ⟨w.heap.size, 6, none⟩ = some (.int .i64 co)) := hide (fun W hW => ⟨cell_belowG d1 hW, cell_belowG d2 hW, cell_belowG d4 hW, cell_belowG d6 hW⟩)
        have HKA := hide (show ∀ (w9 w5 : World) so9 sc9, Below wr.heap.size wr w9 → (w9.alloc (.cells #[.int .i64 3, .int .i64 id, .int .i64 k, .int .i64 te, .int .i64 A, .int .i64 (termP lo A), .int .i64 co, .slice so9 L5.length sc9, .bool false] 44)).grownBy w5 (Value.slice oo fs.length oc).ownBlock → w5.cell? ⟨w.heap.size, 1, none⟩ = some (.int .i64 id) ∧ w5.cell? ⟨w.heap.size, 2, none⟩ = some (.int .i64 te) ∧ w5.cell? ⟨w.heap.size, 4, none⟩ = some (.slice ao lo.length cap) ∧ w5.cell? ⟨w.heap.size, 6, none⟩ = some (.int .i64 co) from fun w9 w5 so9 sc9 hb hg => by
          have h1 := HROWA.out w9 so9 sc9 hb
          have h2 := (HBr.out.later hb).later (below_allocG w9 (.cells #[.int .i64 3, .int .i64 id, .int .i64 k, .int .i64 te, .int .i64 A, .int .i64 (termP lo A), .int .i64 co, .slice so9 L5.length sc9, .bool false] 44))
          have h3 := h2.grown hg (fun q => owns_off h1 h2 (by decide) q.symm)
          exact ⟨h3.cell 1, h3.cell 2, h3.cell 4, h3.cell 6⟩)
        have HMAP := hide hmap
        have HENT := hide hents
        clear hid hrow hmap hents hnx0 hnb hMk hA1 hL5
        by_cases h5 : (lo.length : Int) < (A : Int) + 5
        · have y5 : decide ((lo.length : Int) < (A : Int) + 5) = true := decide_eq_true h5
          have hsl := run_slice_lhK (K := 2) (P := Try.prog) Try.underlying22 (by kernel_rfl) infoEntry ao lo.length cap A lo.length A ((lo.length : Int)) rfl (by omega) (by omega) (by omega)
          have hr := HLr.out.sliced (lo := A) (hi := lo.length) (by omega) (by omega)
          rw [show (lo.drop A).take (lo.length - A) = (lo.drop A).take 5 by rw [List.take_of_length_le (by simp), List.take_of_length_le (by simp; omega)], HL5.out] at hr
          obtain ⟨x1, hx1⟩ : ∃ x, Go.sliced ao A lo.length cap 2 = x := ⟨_, rfl⟩
          rw [hx1] at hsl hr
          obtain ⟨so, sc, hso, _, _⟩ := hr.shape
          subst hso
          have HCL := hide (CopyLog_any _ _ wr.drew hr.drew (by omega))
          have hj1 : (A : Int) ≤ (lo.length : Int) := by omega
          have hj2 : (lo.length : Int) ≤ (cap : Int) := by omega
          have hj3 : (0 : Int) ≤ (lo.length : Int) := by omega
          clear hr hx1
          go_upto_region 10 with fail
          go_region_held3 (fun W => W.cell? ⟨w.heap.size, 1, none⟩ = some (.int .i64 id) ∧ W.cell? ⟨w.heap.size, 2, none⟩ = some (.int .i64 te) ∧ W.cell? ⟨w.heap.size, 4, none⟩ = some (.slice ao lo.length cap) ∧ W.cell? ⟨w.heap.size, 6, none⟩ = some (.int .i64 co)) (first | exact k5 | exact HKEEP.out _ (by go_grown)) (first
            | (have k9 := ho9; refine step_append_rdAt (E := mfE) (cs := fs) (news := [⟨beatM X k, ⟨so9, L5.length, sc9⟩⟩]) (by exact HRA.out) (by exact HRO.out) Try.underlying32 infoMail rfl (by rfl) (by rfl) (by rfl) (by rfl) (by exact HLL.out _) (by decide) (by exact HSZ.out) ?_; intro v5 w5 ho5 hg5 hat5; obtain ⟨mo5, mc5, hv5⟩ := owns_shapeK ho5; subst hv5; have HO5 := hide ho5; have HG5 := hide hg5; have k5 := HKA.out w9 w5 so9 sc9 hb8 hg5)
            | (go_at_call 22; refine HCL.out.mono ?_; rintro e w9 ⟨v9, rfl, ho9, hb9⟩; obtain ⟨so9, sc9, hv9⟩ := owns_shapeK ho9; subst hv9; have hb8 := HDR.out.trans (hb9.mono HDR.out.size); have hz9 := hb8.size; have HRA := hide (HROWA.out w9 so9 sc9 hb8); have HRO := hide (HROO.out w9 so9 sc9); have HSZ := hide (HSZZ.out w9 so9 sc9 hb8); have HO9 := hide ho9)
            | (go_at_call 43; refine (HLT.out _ (by go_grown)).mono ?_; rintro e wl ⟨rfl, hwl⟩; rw [hwl]; clear hwl wl))
          all_goals
            go_wp2_with fail
            go_roundw
            case rel =>
              have hbA2 := below_allocG w9 (.cells #[.int .i64 3, .int .i64 id, .int .i64 k, .int .i64 te, .int .i64 A, .int .i64 (termP lo A), .int .i64 co, .slice so9 L5.length sc9, .bool false] 44)
              refine ⟨k + 1, by omega, by go_num, ⟨fs ++ [⟨beatM X k, ⟨so9, L5.length, sc9⟩⟩], by rw [List.length_append]; exact HO5.out, by rw [List.map_append, HMAP.out, HS.out]; rfl, fun f hf => ?_⟩, ?_⟩
              · have key : ∀ {v : Value} {n : Nat} {xs : List Value}, w9.ownsRow w.heap.size 65 2 v n xs → w5.ownsRow w.heap.size 65 2 v n xs := fun h => owns_grownO (owns_later h hbA2) HG5.out (owns_ne (owns_later h hbA2) HRA.out (by decide))
                rcases List.mem_append.1 hf with hf | hf
                · exact key (owns_later (HENT.out f hf) hb8)
                · obtain rfl := List.mem_singleton.1 hf
                  refine key (owns_baseR (b1 := wr.heap.size) ?_ HAr.out.size)
                  show w9.ownsRow wr.heap.size 65 2 (.slice so9 L5.length sc9) (beatM X k).ents.length (eE.vs (beatM X k).ents)
                  rw [show (beatM X k).ents = L5 by rw [HMK.out]]
                  exact HO9.out
              · have h8 := HBR.out.trans (hb8.mono HBR.out.size)
                refine below_grownO (h8.trans (hbA2.mono h8.size)) HG5.out (fun j hj => ?_) (by have := h8.size; simp; omega)
                have h1 := (HRA.out.lt j hj).1
                have h2 := owns_off HRA.out ((HBr.out.later hb8).later hbA2) (by decide)
                have h3 : j ≠ w.heap.size := fun q => h2 (by rw [hj, q])
                have h4 := HA1S.out
                omega
            case measure => simp [intOf]; omega
        · have y5 : decide ((lo.length : Int) < (A : Int) + 5) = false := decide_eq_false h5
          have hsl := run_slice_lhK (K := 2) (P := Try.prog) Try.underlying22 (by kernel_rfl) infoEntry ao lo.length cap A (A + 5) A ((A : Int) + 5) rfl (by omega) (by omega) (by omega)
          have hr := HLr.out.sliced (lo := A) (hi := (A + 5)) (by omega) (by omega)
          rw [show (lo.drop A).take ((A + 5) - A) = (lo.drop A).take 5 by congr 1; omega, HL5.out] at hr
          obtain ⟨x1, hx1⟩ : ∃ x, Go.sliced ao A (A + 5) cap 2 = x := ⟨_, rfl⟩
          rw [hx1] at hsl hr
          obtain ⟨so, sc, hso, _, _⟩ := hr.shape
          subst hso
          have HCL := hide (CopyLog_any _ _ wr.drew hr.drew (by omega))
          have hj1 : (A : Int) ≤ (A : Int) + 5 := by omega
          have hj2 : (A : Int) + 5 ≤ (cap : Int) := by omega
          have hj3 : (0 : Int) ≤ (A : Int) + 5 := by omega
          clear hr hx1
          go_upto_region 10 with fail
          go_region_held3 (fun W => W.cell? ⟨w.heap.size, 1, none⟩ = some (.int .i64 id) ∧ W.cell? ⟨w.heap.size, 2, none⟩ = some (.int .i64 te) ∧ W.cell? ⟨w.heap.size, 4, none⟩ = some (.slice ao lo.length cap) ∧ W.cell? ⟨w.heap.size, 6, none⟩ = some (.int .i64 co)) (first | exact k5 | exact HKEEP.out _ (by go_grown)) (first
            | (have k9 := ho9; refine step_append_rdAt (E := mfE) (cs := fs) (news := [⟨beatM X k, ⟨so9, L5.length, sc9⟩⟩]) (by exact HRA.out) (by exact HRO.out) Try.underlying32 infoMail rfl (by rfl) (by rfl) (by rfl) (by rfl) (by exact HLL.out _) (by decide) (by exact HSZ.out) ?_; intro v5 w5 ho5 hg5 hat5; obtain ⟨mo5, mc5, hv5⟩ := owns_shapeK ho5; subst hv5; have HO5 := hide ho5; have HG5 := hide hg5; have k5 := HKA.out w9 w5 so9 sc9 hb8 hg5)
            | (go_at_call 22; refine HCL.out.mono ?_; rintro e w9 ⟨v9, rfl, ho9, hb9⟩; obtain ⟨so9, sc9, hv9⟩ := owns_shapeK ho9; subst hv9; have hb8 := HDR.out.trans (hb9.mono HDR.out.size); have hz9 := hb8.size; have HRA := hide (HROWA.out w9 so9 sc9 hb8); have HRO := hide (HROO.out w9 so9 sc9); have HSZ := hide (HSZZ.out w9 so9 sc9 hb8); have HO9 := hide ho9)
            | (go_at_call 43; refine (HLT.out _ (by go_grown)).mono ?_; rintro e wl ⟨rfl, hwl⟩; rw [hwl]; clear hwl wl))
          all_goals
            go_wp2_with fail
            go_roundw
            case rel =>
              have hbA2 := below_allocG w9 (.cells #[.int .i64 3, .int .i64 id, .int .i64 k, .int .i64 te, .int .i64 A, .int .i64 (termP lo A), .int .i64 co, .slice so9 L5.length sc9, .bool false] 44)
              refine ⟨k + 1, by omega, by go_num, ⟨fs ++ [⟨beatM X k, ⟨so9, L5.length, sc9⟩⟩], by rw [List.length_append]; exact HO5.out, by rw [List.map_append, HMAP.out, HS.out]; rfl, fun f hf => ?_⟩, ?_⟩
              · have key : ∀ {v : Value} {n : Nat} {xs : List Value}, w9.ownsRow w.heap.size 65 2 v n xs → w5.ownsRow w.heap.size 65 2 v n xs := fun h => owns_grownO (owns_later h hbA2) HG5.out (owns_ne (owns_later h hbA2) HRA.out (by decide))
                rcases List.mem_append.1 hf with hf | hf
                · exact key (owns_later (HENT.out f hf) hb8)
                · obtain rfl := List.mem_singleton.1 hf
                  refine key (owns_baseR (b1 := wr.heap.size) ?_ HAr.out.size)
                  show w9.ownsRow wr.heap.size 65 2 (.slice so9 L5.length sc9) (beatM X k).ents.length (eE.vs (beatM X k).ents)
                  rw [show (beatM X k).ents = L5 by rw [HMK.out]]
                  exact HO9.out
              · have h8 := HBR.out.trans (hb8.mono HBR.out.size)
                refine below_grownO (h8.trans (hbA2.mono h8.size)) HG5.out (fun j hj => ?_) (by have := h8.size; simp; omega)
                have h1 := (HRA.out.lt j hj).1
                have h2 := owns_off HRA.out ((HBr.out.later hb8).later hbA2) (by decide)
                have h3 : j ≠ w.heap.size := fun q => h2 (by rw [hj, q])
                have h4 := HA1S.out
                omega
            case measure => simp [intOf]; omega
    · have hd : decide ((k : Int) < (N : Int)) = false := decide_eq_false (by omega)
      obtain rfl : k = N := by omega
      clear hrow hmap hents
      go_wp2_with fail
      go_ret
      exact ⟨_, rfl, HOW.out, HAr.out⟩

end Go.Proofs.Ytbffmdhogehfnaa

/-
  Plain maths: what stays of a node that takes a mail, and what it sends. Nothing of a program stands here.
-/
namespace Go.Proofs.Ytbffmdhogehfnaa
open Go.RowKit
set_option linter.unusedVariables false

theorem t1_stay {x : Nd} {m : Ml} (h : FineN x) (h0 : 0 ≤ m.frm) (h1 : m.frm < x.n) : Stay x (t1N x m) := by
  unfold t1N
  split
  · rename_i hg
    unfold giveB at hg
    simp only [Bool.and_eq_true, Bool.or_eq_true, decide_eq_true_eq] at hg
    refine ⟨⟨h.n1, h.n7, h.id0, h.idn, h.t0, h.t1, by simp only; omega, by simp only; omega, h.r0, h.r2, h.c0, h.cl, h.log, h.lt, ?_, ?_⟩, rfl, rfl, Int.le_refl _, fun _ hv => ?_, Int.le_refl _, rfl⟩
    · have := h.vo
      unfold votesB at this ⊢
      exact this
    · have := h.kn
      unfold knownB ofB at this ⊢
      exact this
    · rcases hg.2.1 with q | q
      · exact absurd q hv
      · exact q.symm
  · exact Stay.refl h

theorem t2_stay {x : Nd} {m : Ml} (h : FineN x) (h0 : 0 ≤ m.frm) (h1 : m.frm < x.n) : Stay x (t2N x m) := by
  unfold t2N
  split
  · exact Stay.refl h
  · rename_i q
    have hr : x.role = 1 := Decidable.not_not.1 (fun p => q (.inl p))
    obtain ⟨e1, e2, e3, e4, e5, e6⟩ := elect_com (x := x) (who := m.frm)
    exact ⟨h.elect hr h0 h1, e5, e6, by rw [e3]; exact Int.le_refl _, fun _ _ => e4, e1, by rw [e2]⟩

theorem lastT_append {a b : List Et} (h : b ≠ []) : lastT (a ++ b) = lastT b := by
  unfold lastT
  rw [List.getLast?_append]
  cases hb : b.getLast? with
  | none => exact absurd (List.getLast?_eq_none_iff.1 hb) h
  | some e => simp

theorem putGo_last : ∀ (m l : List Et) (k : Nat), lastT (putGo l k m) = lastT l ∨ (m ≠ [] ∧ lastT (putGo l k m) = lastT m)
  | [], l, k => .inl rfl
  | e :: m, l, k => by
    unfold putGo
    split
    · rcases putGo_last m l (k + 1) with q | ⟨q1, q2⟩
      · exact .inl q
      · refine .inr ⟨by simp, q2.trans ?_⟩
        exact (lastT_append (a := [e]) q1).symm
    · exact .inr ⟨by simp, lastT_append (by simp)⟩

theorem FineM.lastE {x : Nd} {m : Ml} (h : FineM x m) : lastT m.ents ≤ m.term := by
  have h1 := h.br
  have := h.t1
  unfold brgB at h1
  by_cases h0 : m.ents.length = 0
  · rw [List.eq_nil_of_length_eq_zero h0]
    show (0 : Int) ≤ _
    omega
  · rw [if_neg h0] at h1
    simp only [Bool.and_eq_true, decide_eq_true_eq] at h1
    exact h1.2.2.2

theorem follow_stay {x : Nd} (h : FineN x) : Stay x x.follow := ⟨h.follow, rfl, rfl, Int.le_refl _, fun _ _ => rfl, Int.le_refl _, rfl⟩

theorem t3_stay {x : Nd} {m : Ml} (h : FineN x) (ha : 0 ≤ m.a) (hc : 0 ≤ m.c) (hl : lastT m.ents ≤ m.term) (hy : m.term ≤ x.term) : Stay x (t3N x m) := by
  unfold t3N
  cases hk : t3K x m with
  | old => exact Stay.refl h
  | leads => exact Stay.refl h
  | none => exact follow_stay h
  | no => exact follow_stay h
  | yes =>
    simp only
    unfold t3K at hk
    by_cases k1 : m.term < x.term
    · rw [if_pos k1] at hk; cases hk
    rw [if_neg k1] at hk
    by_cases k2 : x.role = 2
    · rw [if_pos k2] at hk; cases hk
    rw [if_neg k2] at hk
    by_cases k3 : (putX x.log m.a m.b m.ents).1 ≠ 0
    · rw [if_pos k3] at hk; cases hk
    rw [if_neg k3] at hk
    by_cases k4 : begB (putL x.log m.a m.b m.ents) (x.log.take x.com.toNat) = false
    · rw [if_pos k4] at hk; cases hk
    rw [if_neg k4] at hk
    by_cases k5 : putI x.log m.a m.b m.ents = false
    · rw [if_pos k5] at hk; cases hk
    have k5' : putI x.log m.a m.b m.ents = true := by simpa using k5
    have k4' : begB (putL x.log m.a m.b m.ents) (x.log.take x.com.toNat) = true := by simpa using k4
    unfold putI at k5'
    by_cases g1 : (ptF x.log m.a m.b m.ents).1 ≠ 0
    · rw [if_pos g1] at k5'; cases k5'
    rw [if_neg g1] at k5'
    by_cases g2 : hasE x.log m.a.toNat m.b = false
    · rw [if_pos g2] at k5'; cases k5'
    rw [if_neg g2] at k5'
    by_cases g3 : (outF (putGo x.log m.a.toNat m.ents)).1 ≠ 0
    · rw [if_pos g3] at k5'; cases k5'
    have eL : putL x.log m.a m.b m.ents = putGo x.log m.a.toNat m.ents := by
      unfold putL
      rw [if_neg g1, if_neg g2, if_neg g3]
    rw [eL] at k4' ⊢
    have hle := hasE_le (show hasE x.log m.a.toNat m.b = true by simpa using g2)
    have hge := putGo_ge (m := m.ents) hle
    have hout : (chkE (putGo x.log m.a.toNat m.ents)).1 = 0 := by
      have g3' := Decidable.not_not.1 g3
      unfold outF at g3'
      by_cases g4 : (chkE (putGo x.log m.a.toNat m.ents)).1 = 0 ∨ (chkE (putGo x.log m.a.toNat m.ents)).1 = 2
      · rw [if_pos g4] at g3'; exact g3'
      · rw [if_neg g4] at g3'; simp at g3'
    have hc0 := h.c0
    have hcl := h.cl
    unfold begB at k4'
    simp only [Bool.and_eq_true, decide_eq_true_eq, List.length_take] at k4'
    obtain ⟨b1, b2⟩ := k4'
    rw [Nat.min_eq_left (by omega)] at b1 b2
    have f := h.follow
    refine ⟨⟨f.n1, f.n7, f.id0, f.idn, f.t0, f.t1, f.v0, f.vn, f.r0, f.r2, ?_, ?_, hout, ?_, f.vo, ?_⟩, rfl, rfl, Int.le_refl _, fun _ _ => rfl, ?_, b2⟩
    · show 0 ≤ max x.com (min m.c (m.a + m.ents.length)); omega
    · show max x.com (min m.c (m.a + m.ents.length)) ≤ ((putGo x.log m.a.toNat m.ents).length : Int); omega
    · show lastT (putGo x.log m.a.toNat m.ents) ≤ x.term
      have := h.lt
      rcases putGo_last m.ents x.log m.a.toNat with q | ⟨_, q⟩
      · omega
      · omega
    · exact known_nil (by simp [Nd.follow]) rfl rfl
    · show x.com ≤ max x.com (min m.c (m.a + m.ents.length)); omega

theorem gI_mem {l : List Int} {k : Int} (h0 : 0 ≤ k) (h1 : k < (l.length : Int)) : gI l k ∈ l := by
  unfold gI
  have : k.toNat < l.length := by omega
  rw [List.getElem?_eq_getElem this]
  exact List.getElem_mem this

theorem t4_stay {x : Nd} {m : Ml} (h : FineN x) (h0 : 0 ≤ m.frm) (h1 : m.frm < x.n) (ha : 0 ≤ m.a) : Stay x (t4N x m) := by
  unfold t4N
  split
  · exact Stay.refl h
  rename_i q
  have hr : x.role = 2 := Decidable.not_not.1 (fun p => q (.inl p))
  obtain ⟨k1, k2, k3, k4, k5⟩ := lead_known h hr
  have b1 := k4 _ (gI_mem (k := m.frm) h0 (by omega))
  have b2 := k3 _ (gI_mem (k := m.frm) h0 (by omega))
  split
  · refine ⟨⟨h.n1, h.n7, h.id0, h.idn, h.t0, h.t1, h.v0, h.vn, h.r0, h.r2, h.c0, h.cl, h.log, h.lt, ?_, known_lead hr ?_ k2 ?_ k4⟩, rfl, rfl, Int.le_refl _, fun _ _ => rfl, Int.le_refl _, rfl⟩
    · have := h.vo
      unfold votesB at this ⊢
      exact this
    · simp only [List.length_set]; exact k1
    · intro u hu
      rcases mem_setI hu with p | p
      · exact k3 u p
      · simp only; omega
  · have f : FineN { x with hav := x.hav.set m.frm.toNat (max (gI x.hav m.frm) (min m.a x.log.length)), next := x.next.set m.frm.toNat (max (gI x.hav m.frm) (min m.a x.log.length) + 1) } := by
      refine ⟨h.n1, h.n7, h.id0, h.idn, h.t0, h.t1, h.v0, h.vn, h.r0, h.r2, h.c0, h.cl, h.log, h.lt, ?_, known_lead hr ?_ ?_ ?_ ?_⟩
      · have := h.vo
        unfold votesB at this ⊢
        exact this
      · simp only [List.length_set]; exact k1
      · simp only [List.length_set]; exact k2
      · intro u hu
        rcases mem_setI hu with p | p
        · exact k3 u p
        · simp only; omega
      · intro u hu
        rcases mem_setI hu with p | p
        · exact k4 u p
        · simp only; omega
    exact ⟨f.count, rfl, rfl, Int.le_refl _, fun _ _ => rfl, coGo_ge _ _, rfl⟩

theorem take_stay {x : Nd} {m : Ml} (h : FineN x) (hm : FineM x m) : Stay x (x.take m) := by
  have hY := h.hear hm.t2
  obtain ⟨e1, e2, e3, e4, e5, e6⟩ := hear_fix x m.term
  have h1 : m.frm < (x.hear m.term).n := by rw [e1]; exact hm.fn
  refine Stay.hear (t := m.term) ?_ h
  unfold Nd.take
  split
  · exact t1_stay hY hm.f0 h1
  split
  · exact t2_stay hY hm.f0 h1
  split
  · exact t3_stay hY hm.a0 hm.c0 hm.lastE hear_term.1
  · exact t4_stay hY hm.f0 h1 hm.a0

theorem take_term (x : Nd) (m : Ml) : (x.take m).term = (x.hear m.term).term := by
  unfold Nd.take
  split
  · unfold t1N; split <;> rfl
  split
  · unfold t2N; split
    · rfl
    · exact elect_com.2.2.1
  split
  · unfold t3N; split <;> rfl
  · unfold t4N; split
    · rfl
    split <;> rfl

theorem othGo_mem {id : Int} {f : Nat → Ml} {s : Ml} : ∀ {k : Nat}, s ∈ othGo id f k → ∃ j, j < k ∧ (j : Int) ≠ id ∧ s = f j
  | 0, h => by cases h
  | k + 1, h => by
    unfold othGo at h
    rcases List.mem_append.1 h with h | h
    · obtain ⟨j, h1, h2, h3⟩ := othGo_mem h
      exact ⟨j, by omega, h2, h3⟩
    · split at h
      · cases h
      · rename_i q
        exact ⟨k, by omega, q, List.mem_singleton.1 h⟩

/-- What a mail that is sent keeps to. -/
structure SentM (x y : Nd) (s : Ml) : Prop where
  frm : s.frm = x.id
  to1 : s.to_ ≠ x.id
  to2 : 0 ≤ s.to_
  to3 : s.to_ < x.n
  term : s.term = y.term

theorem ansM_sent {x y Y : Nd} {m s : Ml} {k : Int} {ok : Bool} {a : Int} (hm : FineM x m) (hi : Y.id = x.id) (ht : y.term = Y.term) (h : s ∈ ansM Y m k ok a) : SentM x y s := by
  have := List.mem_singleton.1 h
  subst this
  exact ⟨hi, hm.fi, hm.f0, hm.fn, ht.symm⟩

theorem take_sends {x : Nd} {m s : Ml} (h : FineN x) (hm : FineM x m) (hs : s ∈ x.sends m) : SentM x (x.take m) s := by
  have ht := take_term x m
  obtain ⟨e1, e2, e3, e4, e5, e6⟩ := hear_fix x m.term
  unfold Nd.sends at hs
  split at hs
  · exact ansM_sent hm e2 ht hs
  split at hs
  · unfold t2M at hs
    split at hs
    · cases hs
    split at hs
    · obtain ⟨j, h1, h2, rfl⟩ := othGo_mem hs
      obtain ⟨g1, g2, g3, g4, g5, g6⟩ := elect_com (x := x.hear m.term) (who := m.frm)
      have hn1 := h.n1
      refine ⟨g6.trans e2, by rw [← e2, ← g6]; exact h2, Int.natCast_nonneg _, ?_, ?_⟩
      · show (j : Int) < x.n
        rw [g5, e1] at h1
        omega
      · show ((x.hear m.term).elect m.frm).term = _
        rw [ht, g3]
    · cases hs
  split at hs
  · unfold t3M at hs
    split at hs
    · exact ansM_sent hm e2 ht hs
    · cases hs
    · cases hs
    · exact ansM_sent hm e2 ht hs
    · exact ansM_sent hm e2 ht hs
  · cases hs

end Go.Proofs.Ytbffmdhogehfnaa

/-
  The walk over the document's PutLog.
-/
namespace Go.Proofs.Ytbffmdhogehfnaa
open Go.RowKit
set_option linter.unusedVariables false

theorem Blk.two0 {w : World} {B : Nat} {t : TypeId} {a b x y : Value} (h : Blk w B t #[a, b]) : Blk ((w.setCell ⟨B, 0, none⟩ x).setCell ⟨B, 1, none⟩ y) B t #[x, y] := by
  have := (h.set 0 x).set 1 y
  simpa using this

theorem RdG.two0 {w : World} {v : Value} {xs : List Et} {B : Nat} {t : TypeId} {a b x y : Int} (hr : RdG eE w v xs) (h : Blk w B t #[.int .i64 a, .int .i64 b]) : RdG eE ((w.setCell ⟨B, 0, none⟩ (.int .i64 x)).setCell ⟨B, 1, none⟩ (.int .i64 y)) v xs := by
  have h1 : Blk (w.setCell ⟨B, 0, none⟩ (.int .i64 x)) B t #[.int .i64 x, .int .i64 b] := by
    have := h.set 0 (.int .i64 x)
    simpa using this
  exact (hr.grownEnt (grown_setCell w B 0 _) h).grownEnt (grown_setCell _ B 1 _) h1

/-- Is the next one there? -/
def nxB (l m : List Et) (N j : Nat) : Bool := match m[j]? with
  | some e => hasE l (N + j + 1) e.term
  | none => false

theorem nxB_some {l m : List Et} {N j : Nat} {e : Et} (h : m[j]? = some e) : nxB l m N j = hasE l (N + j + 1) e.term := by unfold nxB; rw [h]
theorem nxB_none {l m : List Et} {N j : Nat} (h : m.length ≤ j) : nxB l m N j = false := by unfold nxB; rw [List.getElem?_eq_none h]

theorem set_selfE {l : List Et} {k : Nat} {e : Et} (h : l[k]? = some e) : l.set k e = l := by
  apply List.ext_getElem?
  intro i
  rw [List.getElem?_set]
  by_cases hi : k = i
  · subst hi
    have := (List.getElem?_eq_some_iff.1 h).1
    rw [if_pos rfl, if_pos this, h]
  · rw [if_neg hi]

set_option maxRecDepth 100000 in
set_option maxHeartbeats 8000000 in
theorem PutLog_any (v u : Value) (l m : List Et) (n t : Int) (w : World) (hv : RdG eE w v l) (hu : RdG eE w u m) :
    Calls Try.prog 54 #[v, .int .i64 n, .int .i64 t, u] w fun e w' => ∃ v', e = .returned (.tuple #[v', .bool (putI l n t m), flt (putX l n t m)]) ∧ RdG eE w' v' (putL l n t m) ∧ Below w.heap.size w w' := by
  have HF1 : Hid (putL l n t m = if (ptF l n t m).1 ≠ 0 then [] else if hasE l n.toNat t = false then l else if (outF (putGo l n.toNat m)).1 ≠ 0 then [] else putGo l n.toNat m) := hide rfl
  have HF2 : Hid (putI l n t m = if (ptF l n t m).1 ≠ 0 then false else if hasE l n.toNat t = false then false else if (outF (putGo l n.toNat m)).1 ≠ 0 then false else true) := hide rfl
  have HF3 : Hid (putX l n t m = if (ptF l n t m).1 ≠ 0 then ptF l n t m else if hasE l n.toNat t = false then (0, 0) else outF (putGo l n.toNat m)) := hide rfl
  have HPT : Hid (ptF l n t m = if (bothF l m).1 ≠ 0 then bothF l m else plF n t) := hide rfl
  have HI := hide (LogsFault_any v u l m _ (hv.alloc (.cells #[.int .i64 0, .int .i64 0] 30)) (hu.alloc _))
  have HV := hide hv
  have HU := hide hu
  obtain ⟨ao, cap, rfl, hcap1, hcap2⟩ := hv.shape
  obtain ⟨bo, cbp, rfl, hcbp1, hcbp2⟩ := hu.shape
  have HR0 := hide (Blk.new w 30 #[.int .i64 0, .int .i64 0])
  have HB0 := hide (below_allocG w (.cells #[.int .i64 0, .int .i64 0] 30))
  have HZ := hide (bothF_z l m)
  have HZP := hide (plF_z n t)
  have HOK := hide (fun h => ptF_ok (l := l) (n := n) (t := t) (m := m) h)
  generalize hK : bothF l m = K at *
  obtain ⟨x, y⟩ := K
  generalize hPL : plF n t = PL at *
  have HPL := hide hPL
  obtain ⟨p, q⟩ := PL
  generalize ptF l n t m = PT at *
  clear hv hK hu hPL
  generalize putL l n t m = RL at *
  generalize putI l n t m = RI at *
  generalize putX l n t m = RX at *
  go_enter Try.func54, Try.ntmps54
  go_wp2_with fail
  refine HI.out.mono ?_
  rintro e w1 ⟨rfl, hb1⟩
  have HBW := hide ((HB0.out.trans (hb1.mono HB0.out.size)).trans ((below_allocG w1 (.cells #[.int .i64 x, .int .i64 y] 30)).mono (HB0.out.trans (hb1.mono HB0.out.size)).size))
  have HR := hide ((HR0.out.later hb1).later (below_allocG w1 (.cells #[.int .i64 x, .int .i64 y] 30)))
  have HN1 := hide (Blk.new w1 30 #[.int .i64 x, .int .i64 y])
  have hrl := (HR0.out.later hb1).lt
  have HRw := hide (HR0.out.later hb1)
  have HBw := hide (HB0.out.trans (hb1.mono HB0.out.size))
  clear hb1 HI HR0 HB0
  unfold flt
  by_cases hx : x ≠ 0
  · have hPT := HPT.out.trans (if_pos hx)
    have HE1 := hide (show RL = [] by rw [HF1.out, hPT, if_pos hx])
    have HE2 := hide (show RI = false by rw [HF2.out, hPT, if_pos hx])
    have HE3 := hide (show RX = (x, y) by rw [HF3.out, hPT, if_pos hx])
    have hq : (x == 0) = false := beq_eq_false_iff_ne.2 hx
    have hq2 : (x != 0) = true := by simp [hx]
    clear hx hPT
    have r0 := HRw.out.cell 0
    have r1 := HRw.out.cell 1
    have z0 := HRw.out.frozen 0
    have z1 := HRw.out.frozen 1
    simp at r0 r1
    go_wp2_with fail
    go_region
    have hbw := HBw.out
    go_wp2_with fail
    refine bodyPost_ret (v := .tuple #[.slice none 0 0, .bool false, .agg #[.int .i64 x, .int .i64 y]]) (results3_ttc Try.results54 rfl rfl rfl (run_loadVar_blk (xs := #[.int .i64 x, .int .i64 y]) (HRw.out.two) Try.underlying30 rfl Try.sizeFaultE)) rfl ?_
    exact ⟨_, by rw [HE2.out, HE3.out]; rfl, by rw [HE1.out]; exact RdG.nil _, by go_grown⟩
  have HPT2 := hide (HPT.out.trans (if_neg hx))
  obtain rfl : x = 0 := Decidable.not_not.1 hx
  obtain rfl : y = 0 := by have := HZ.out rfl; simpa using this
  clear hx HPT
  go_upto_region 4 with (first
    | (go_at_call 79; refine (PlaceFault_any n t _).mono ?_; rw [HPL.out]; rintro e w2 ⟨rfl, hb2⟩; have HR2 := hide (HR.out.later hb2); have HN2 := hide (HN1.out.later hb2); have HB2 := hide (HBW.out.trans (hb2.mono HBW.out.size)); clear hb2; unfold flt)
    | (refine wpList_store_blk rfl rfl rfl rfl HN2.out rfl Try.sizeFaultE rfl ?_; intro w3 hN3 hg3; have HN3 := hide hN3; have HR3 := hide (HR2.out.grown hg3 (fun z => by simp at z; omega)); have HB3 := hide (below_grownO HB2.out hg3 (fun k hk => by cases hk; omega) HB2.out.size); clear hN3 hg3))
  clear HR HN1 HBW HR2 HN2 HB2
  have hn3 := HN3.out.lt
  have hr3 := HR3.out.lt
  have c0 := HN3.out.cell 0
  have c1 := HN3.out.cell 1
  simp at c0 c1
  by_cases hp : p ≠ 0
  · have HE1 := hide (show RL = [] by rw [HF1.out, HPT2.out, if_pos hp])
    have HE2 := hide (show RI = false by rw [HF2.out, HPT2.out, if_pos hp])
    have HE3 := hide (show RX = (p, q) by rw [HF3.out, HPT2.out, if_pos hp])
    have hq : (p == 0) = false := beq_eq_false_iff_ne.2 hp
    have hq2 : (p != 0) = true := by simp [hp]
    clear hp
    have r0 := HR3.out.cell 0
    have r1 := HR3.out.cell 1
    have z0 := HR3.out.frozen 0
    have z1 := HR3.out.frozen 1
    simp at r0 r1
    go_wp2_with fail
    go_region
    have hbw := HB3.out
    go_wp2_with fail
    refine bodyPost_ret (v := .tuple #[.slice none 0 0, .bool false, .agg #[.int .i64 p, .int .i64 q]]) (results3_ttc Try.results54 rfl rfl rfl (run_loadVar_blk (xs := #[.int .i64 p, .int .i64 q]) (HR3.out.two0) Try.underlying30 rfl Try.sizeFaultE)) rfl ?_
    exact ⟨_, by rw [HE2.out, HE3.out]; rfl, by rw [HE1.out]; exact RdG.nil _, by go_grown⟩
  obtain rfl : p = 0 := Decidable.not_not.1 hp
  obtain rfl : q = 0 := by have := HZP.out rfl; simpa using this
  clear hp HZP
  have HG1 := hide (show RL = if hasE l n.toNat t = false then l else if (outF (putGo l n.toNat m)).1 ≠ 0 then [] else putGo l n.toNat m by rw [HF1.out, HPT2.out, if_neg (by simp)])
  have HG2 := hide (show RI = if hasE l n.toNat t = false then false else if (outF (putGo l n.toNat m)).1 ≠ 0 then false else true by rw [HF2.out, HPT2.out, if_neg (by simp)])
  have HG3 := hide (show RX = if hasE l n.toNat t = false then (0, 0) else outF (putGo l n.toNat m) by rw [HF3.out, HPT2.out, if_neg (by simp)])
  obtain ⟨k1, k2, k3, k4⟩ := HOK.out (by rw [HPT2.out])
  obtain ⟨n0, n1⟩ := numL_iff.1 k3
  have l1 := (chkE_fine k1).2
  have l2 := (chkE_fine k2).2
  have HFN := hide (fun N => putGo_fine (k := N) (chkE_fine k1).1 (chkE_fine k2).1)
  have hnn : n = ((n.toNat : Nat) : Int) := by omega
  clear HF1 HF2 HF3 HOK k1 k2 k3 k4 HPT2
  generalize hN : n.toNat = N at *
  subst hnn
  clear hN
  have HV3 := hide (HV.out.below HB3.out)
  unfold maxLen at hcap2 hcbp2
  go_upto_region 6 with fail
  go_cut [53] (fun x wc => x = .bool (!hasE l N t) ∧ w3 = wc)
  case first =>
    by_cases hle : N ≤ l.length
    · have hd1 : decide ((l.length : Int) < (N : Int)) = false := decide_eq_false (by omega)
      have hd2 : decide (l.length < N) = false := decide_eq_false (by omega)
      by_cases hN0 : N = 0
      · have HE : Hid (hasE l N t = decide (t = 0)) := hide (by rw [hN0]; rfl)
        have h0 : ((N : Int) == 0) = true := by simp [hN0]
        have h5 : decide (0 < (N : Int)) = false := decide_eq_false (by omega)
        have h6 : decide (0 < N) = false := decide_eq_false (by omega)
        clear hN0
        by_cases ht : t = 0
        · have HE2 := hide (HE.out.trans (decide_eq_true ht))
          have hq : (t != 0) = false := by simp [ht]
          clear ht
          go_wp2_with fail
          go_meet
          case rel => exact ⟨by rw [HE2.out]; first | rfl | (simp; omega), rfl⟩
        · have HE2 := hide (HE.out.trans (decide_eq_false ht))
          have hq : (t != 0) = true := by simp [ht]
          clear ht
          go_wp2_with fail
          go_meet
          case rel => exact ⟨by rw [HE2.out]; first | rfl | (simp; omega), rfl⟩
      · obtain ⟨k, hk⟩ : ∃ k, N = k + 1 := ⟨N - 1, by omega⟩
        obtain ⟨f, hf⟩ : ∃ f, l[k]? = some f := ⟨_, List.getElem?_eq_getElem (by omega)⟩
        have HE := hide (show hasE l N t = decide (f.term = t) by rw [hk]; exact hasE_some (t := t) hf)
        obtain ⟨b, off, rfl, hb, hat⟩ := HV3.out.here hf
        obtain ⟨q0, q1⟩ := hat.ent
        have hw1 : IntKind.i64.wrap ((N : Int) - 1) = (k : Int) := by rw [IntKind.wrap_i64]; omega
        have h2 : (0 : Int) ≤ (k : Int) := by omega
        have h3 : (k : Int) < (l.length : Int) := by omega
        have h0 : ((N : Int) == 0) = false := beq_eq_false_iff_ne.2 (by omega)
        have h5 : decide (0 < (N : Int)) = true := decide_eq_true (by omega)
        have h6 : decide (0 < N) = true := decide_eq_true (by omega)
        clear hk hN0 hat hf
        by_cases ht : f.term = t
        · have HE2 := hide (HE.out.trans (decide_eq_true ht))
          have hq : (f.term != t) = false := by simp [ht]
          clear ht
          go_wp2_with fail
          go_meet
          case rel => exact ⟨by rw [HE2.out]; first | rfl | (simp; omega), rfl⟩
        · have HE2 := hide (HE.out.trans (decide_eq_false ht))
          have hq : (f.term != t) = true := by simp [ht]
          clear ht
          go_wp2_with fail
          go_meet
          case rel => exact ⟨by rw [HE2.out]; first | rfl | (simp; omega), rfl⟩
    · have HE := hide (show hasE l N t = false by rw [Bool.eq_false_iff]; intro q; exact hle (hasE_le q))
      have hd1 : decide ((l.length : Int) < (N : Int)) = true := decide_eq_true (by omega)
      have hd2 : decide (l.length < N) = true := decide_eq_true (by omega)
      go_wp2_with fail
      go_meet
      case rel => exact ⟨by rw [HE.out]; rfl, rfl⟩
  case rest =>
  obtain ⟨rfl, rfl⟩ := hcut
  cases hh : hasE l N t
  · have HE1 := hide (HG1.out.trans (if_pos hh))
    have HE2 := hide (HG2.out.trans (if_pos hh))
    have HE3 := hide (HG3.out.trans (if_pos hh))
    have HCP := hide (CopyLog_any _ l _ (HV3.out.drew) (by omega))
    have r0 := HR3.out.cell 0
    have r1 := HR3.out.cell 1
    have z0 := HR3.out.frozen 0
    have z1 := HR3.out.frozen 1
    simp at r0 r1
    clear hh
    go_wp2_with fail
    go_region_with (go_at_call 22; refine HCP.out.mono ?_; rintro e w5 ⟨v5, rfl, ho5, hb5⟩; obtain ⟨so, sc, rfl⟩ := owns_shapeE ho5; have HO5 := hide ho5; have hb6 := (Below.drew (Below.refl w3.heap.size w3)).trans (hb5.mono (Nat.le_refl _)); have HB5 := hide hb6; have hR5 := HR3.out.later hb6; have HR5 := hide hR5; have d0 := cell_belowG c0 hb6; have d1 := cell_belowG c1 hb6; have e0 := hR5.cell 0; have e1 := hR5.cell 1; have f0 := hR5.frozen 0; have f1 := hR5.frozen 1; simp at e0 e1; clear ho5 hb5 hb6 hR5)
    all_goals
      have hbw := HB3.out.trans (HB5.out.mono HB3.out.size)
      go_wp2_with fail
      refine bodyPost_ret (v := .tuple #[.slice so l.length sc, .bool false, .agg #[.int .i64 0, .int .i64 0]]) (results3_ttc Try.results54 rfl rfl rfl (run_loadVar_blk (xs := #[.int .i64 0, .int .i64 0]) (HR5.out.two0) Try.underlying30 rfl Try.sizeFaultE)) rfl ?_
      exact ⟨_, by rw [HE2.out, HE3.out]; rfl, by rw [HE1.out]; exact (RdG.ofOwns HO5.out).two0 HR5.out, by go_grown⟩
  have HH1 := hide (HG1.out.trans (if_neg (by rw [hh]; simp)))
  have HH2 := hide (HG2.out.trans (if_neg (by rw [hh]; simp)))
  have HH3 := hide (HG3.out.trans (if_neg (by rw [hh]; simp)))
  have hNle := hasE_le hh
  have HSM := hide (out_same (HFN.out N))
  have HGE := hide (putGo_len m l N)
  generalize hPG : putGo l N m = PG at *
  have HPG := hide hPG
  have HU3 := hide (HU.out.below HB3.out)
  clear hh hPG HG1 HG2 HG3
  go_wp2_with fail
  go_loopw [12] (fun iv wr => ∃ (j : Nat), j ≤ m.length ∧ iv = .int .i64 j ∧ N + j ≤ l.length ∧ putGo l (N + j) (m.drop j) = PG ∧ Below w3.heap.size w3 wr)
    (fun iv _ => m.length - (intOf iv).toNat)
  case atStart => exact ⟨0, by omega, rfl, by omega, HPG.out, Below.refl _ _⟩
  case round =>
    obtain ⟨j, hj, rfl, hNj, hgo, hbr⟩ := hrel
    have HGO := hide hgo
    have HBR := hide hbr
    clear hgo
    go_upto_region 9 with fail
    go_cut [83] (fun x wc => x = .bool (nxB l m N j) ∧ Below wr.heap.size wr wc)
    case first =>
      by_cases hlt : j < m.length
      · obtain ⟨e, he⟩ : ∃ e, m[j]? = some e := ⟨_, List.getElem?_eq_getElem hlt⟩
        have HE := hide (nxB_some (l := l) (N := N) he)
        obtain ⟨b2, off2, rfl, hb2, hat2⟩ := HU3.out.here he
        obtain ⟨q0, q1⟩ := (hat2.below hbr).ent
        have hd1 : decide ((j : Int) < (m.length : Int)) = true := decide_eq_true (by omega)
        have hd1' : decide (j < m.length) = true := decide_eq_true (by omega)
        have hk1 : (0 : Int) ≤ (j : Int) := by omega
        have hk2 : (j : Int) < (m.length : Int) := by omega
        have hwr : IntKind.i64.wrap ((N : Int) + (j : Int)) = (N : Int) + (j : Int) := by rw [IntKind.wrap_i64]; omega
        clear hat2 he
        by_cases hlt2 : N + j < l.length
        · obtain ⟨f, hf⟩ : ∃ f, l[N + j]? = some f := ⟨_, List.getElem?_eq_getElem hlt2⟩
          have HE2 := hide (HE.out.trans (hasE_some hf))
          obtain ⟨b, off, rfl, hb, hat⟩ := HV3.out.here hf
          obtain ⟨p0, p1⟩ := (hat.below hbr).ent
          have hd2 : decide ((N : Int) + (j : Int) < (l.length : Int)) = true := decide_eq_true (by omega)
          have hd3 : decide (N + j < l.length) = true := decide_eq_true (by omega)
          have hk3 : (0 : Int) ≤ (N : Int) + (j : Int) := by omega
          have hk4 : (N : Int) + (j : Int) < (l.length : Int) := by omega
          have hto : ((N : Int) + (j : Int)).toNat = N + j := by omega
          clear hat hf
          go_quiet (fail)
          go_wp2_with fail
          go_meet
          case rel => exact ⟨by rw [HE2.out]; first | rfl | simp, below_drewN (Below.refl _ _) _⟩
        · have HE2 := hide (HE.out.trans (hasE_none (by omega)))
          have hd2 : decide ((N : Int) + (j : Int) < (l.length : Int)) = false := decide_eq_false (by omega)
          have hd3 : decide (N + j < l.length) = false := decide_eq_false (by omega)
          go_quiet (fail)
          go_wp2_with fail
          go_meet
          case rel => exact ⟨by rw [HE2.out] <;> rfl, below_drewN (Below.refl _ _) _⟩
      · have HE := hide (nxB_none (l := l) (m := m) (N := N) (j := j) (by omega))
        have hd1 : decide ((j : Int) < (m.length : Int)) = false := decide_eq_false (by omega)
        have hd1' : decide (j < m.length) = false := decide_eq_false (by omega)
        go_quiet (fail)
        go_wp2_with fail
        go_meet
        case rel => exact ⟨by rw [HE.out] <;> rfl, below_drewN (Below.refl _ _) _⟩
    case rest =>
      obtain ⟨rfl, hbc⟩ := hcut
      have HBc := hide (HBR.out.trans (hbc.mono HBR.out.size))
      clear hbc hbr
      cases hnx : nxB l m N j
      · have HVc := hide (HV3.out.below HBc.out)
        have HUc := hide (HU3.out.below HBc.out)
        have HRc := hide (HR3.out.later HBc.out)
        have HNc := hide (HN3.out.later HBc.out)
        have HBWc := hide (HB3.out.trans (HBc.out.mono HB3.out.size))
        have hrc := HRc.out.lt
        have hnc := HNc.out.lt
        have HC1 := hide (CopyLog_any _ l _ HVc.out (by omega))
        have HNX := hide hnx
        clear hnx
        go_wp2_with fail
        refine HC1.out.mono ?_
        rintro e w4 ⟨v4, rfl, ho4, hb4⟩
        obtain ⟨so, sc, rfl⟩ := owns_shapeE ho4
        have HO4 := hide ho4
        have HB4 := hide hb4
        clear ho4 hb4 HC1
        go_upto_if 91 with fail
        go_cut [13] (fun x wd => ∃ s, s = x ∧ RdG eE wd s PG ∧ Below wc.heap.size wc wd)
        case first =>
          by_cases hlt : j < m.length
          · obtain ⟨e, he⟩ : ∃ e, m[j]? = some e := ⟨_, List.getElem?_eq_getElem hlt⟩
            have HPE := hide (show PG = l.take (N + j) ++ m.drop j by
              rw [← HGO.out, drop_consE he, putGo, if_neg]
              rw [nxB_some he] at HNX
              rw [HNX.out]
              simp)
            have HV4 := HVc.out.below HB4.out
            have HU4 := HUc.out.below HB4.out
            have hs1 := run_slice_uptoK (K := 2) (P := Try.prog) Try.underlying22 (by kernel_rfl) infoEntry ao l.length cap (N + j) ((N : Int) + (j : Int)) (by omega) (by omega)
            have hs2 := run_slice_fromK (K := 2) (P := Try.prog) Try.underlying22 (by kernel_rfl) infoEntry bo m.length cbp j j rfl hj
            have hr1 := HV4.upto (hi := N + j) hNj
            have hr2 := HU4.from (lo := j) hj
            obtain ⟨x1, hx1⟩ : ∃ x, Go.sliced ao 0 (N + j) cap 2 = x := ⟨_, rfl⟩
            obtain ⟨x2, hx2⟩ : ∃ x, Go.sliced bo j m.length cbp 2 = x := ⟨_, rfl⟩
            rw [hx1] at hs1 hr1
            rw [hx2] at hs2 hr2
            obtain ⟨y1, z1, hy1, _, _⟩ := hr1.shape
            obtain ⟨y2, z2, hy2, _, _⟩ := hr2.shape
            subst hy1 hy2
            have hL1 : (l.take (N + j)).length ≤ 1000 := by simp; omega
            have hL2 : (m.drop j).length ≤ 1000 := by simp; omega
            have hL3 : 0 < (m.drop j).length := by simp; omega
            have HCP := hide (CopyLog_any _ _ _ hr1.drew (by omega))
            have hwr : IntKind.i64.wrap ((N : Int) + (j : Int)) = (N : Int) + (j : Int) := by rw [IntKind.wrap_i64]; omega
            have hi0 : (0 : Int) ≤ (N : Int) + (j : Int) := by omega
            have hi1 : (N : Int) + (j : Int) ≤ (l.length : Int) := by omega
            have hi2 : (N : Int) + (j : Int) ≤ (cap : Int) := by omega
            have hi3 : (j : Int) ≤ (m.length : Int) := by omega
            have hd1 : decide ((j : Int) < (m.length : Int)) = true := decide_eq_true (by omega)
            have hd2 : decide (j < m.length) = true := decide_eq_true (by omega)
            have HGT := hide (show ∀ i e, j ≤ i → m[i]? = some e → PG[N + i]? = some e by
              intro i e hji hi
              rw [HPE.out, List.getElem?_append_right (by simp; omega), List.length_take, Nat.min_eq_left (by omega), List.getElem?_drop, show j + (N + i - (N + j)) = i by omega, hi])
            have HPL := hide (show PG.length = (l.take (N + j)).length + (m.drop j).length by rw [HPE.out, List.length_append])
            have HPN := hide (show PG.length = N + m.length by rw [HPE.out, List.length_append, List.length_take, List.length_drop]; omega)
            have HRD2 := hide hr2
            clear hx1 hx2 hr1 hr2 HV4 HU4 he
            generalize hL1g : l.take (N + j) = L1 at *
            generalize hL2g : m.drop j = L2 at *
            have hsz : L1.length + L2.length ≤ 1000000000 := by omega
            clear hL1g hL2g
            go_wp2_with fail
            go_region_held3 (fun _ => True) (trivial) (first
              | (go_at_call 22; refine HCP.out.mono ?_; rintro e w5 ⟨v5, rfl, ho5, hb5⟩; obtain ⟨so5, sc5, rfl⟩ := owns_shapeE ho5; have HO5 := hide ho5; have hb5' := (Below.drew (Below.refl w4.heap.size w4)).trans (hb5.mono (Nat.le_refl _)); have HB5 := hide hb5'; have HR25 := hide (HRD2.out.below hb5'); clear ho5 hb5 hb5')
              | (refine step_append_rdK HO5.out HR25.out Try.underlying22 infoEntry rfl rfl rfl rfl rfl hsz (by decide) HB5.out.size ?_; intro v6 w6 ho6 hg6; obtain ⟨so6, sc6, rfl⟩ := owns_shapeE ho6; have HO6 := hide ho6; have HG6 := hide hg6; clear ho6 hg6))
            have HB6 := hide (below_grownO HB5.out HG6.out (fun k hk => (HO5.out.lt k hk).1) HB5.out.size)
            have HO7 := hide (show w6.ownsRow w4.heap.size 65 2 (.slice so6 (L1.length + L2.length) sc6) (L1.length + L2.length) (eE.vs PG) by rw [HPE.out]; exact HO6.out)
            obtain ⟨g, gc, cur, hgv, hgb, _⟩ := owns_pos HO7.out (by omega)
            simp only [Value.slice.injEq] at hgv
            obtain ⟨rfl, _, rfl⟩ := hgv
            clear HO6 HO5 HG6 HB5 HR25 HPE
            generalize hn6 : L1.length + L2.length = n6 at HO7 HPL ⊢
            have hn61 : N + m.length ≤ n6 := by rw [← HPN.out, HPL.out]; exact Nat.le_refl _
            have hn62 : n6 ≤ 1000 := by rw [← HPL.out, HPN.out]; omega
            have HU6 := hide (HUc.out.below HB4.out)
            clear hn6
            go_wp2_with fail
            go_loopw [14] (fun iv wr => ∃ i : Nat, j ≤ i ∧ i ≤ m.length ∧ iv = .int .i64 i ∧ wr.ownsRow w4.heap.size 65 2 (.slice (some ⟨g, 0, none⟩) n6 sc6) n6 (eE.vs PG) ∧ Below w4.heap.size w4 wr)
              (fun iv _ => m.length - (intOf iv).toNat)
            case atStart => exact ⟨j, Nat.le_refl _, by omega, rfl, HO7.out, HB6.out⟩
            case round =>
              obtain ⟨i, hji, him, rfl, hown, hbr⟩ := hrel
              have HOW := hide hown
              have HBr := hide hbr
              by_cases hlt3 : i < m.length
              · obtain ⟨e, he⟩ : ∃ e, m[i]? = some e := ⟨_, List.getElem?_eq_getElem hlt3⟩
                obtain ⟨b, off, rfl, hb, hat⟩ := HU6.out.here he
                obtain ⟨q0, q1⟩ := (hat.below hbr).ent
                have HSE := hide (set_selfE (HGT.out i e hji he))
                have hk1 : (0 : Int) ≤ (i : Int) := by omega
                have hk2 : (i : Int) < (m.length : Int) := by omega
                have hwr2 : IntKind.i64.wrap ((N : Int) + (i : Int)) = (N : Int) + (i : Int) := by rw [IntKind.wrap_i64]; omega
                have hk3 : (0 : Int) ≤ (N : Int) + (i : Int) := by omega
                have hk4 : (N : Int) + (i : Int) < (n6 : Int) := by omega
                have hto : ((N : Int) + (i : Int)).toNat = N + i := by omega
                have hk5 : N + i < n6 := by omega
                clear hat he hown hbr
                go_wp2_with (refine wpList_store_own (E := eE) (cs := PG) (c := e) (k := N + i) HOW.out hk5 rfl rfl rfl rfl rfl rfl Try.sizeEntry ?_; intro w9 ho9 hg9; rw [HSE.out] at ho9; have HO9 := hide ho9; have HG9 := hide hg9; clear ho9 hg9)
                go_roundw
                case rel => exact ⟨i + 1, by omega, by omega, by go_num, HO9.out, below_grownO HBr.out HG9.out (fun k hk => by cases hk; exact hgb) HBr.out.size⟩
                case measure => simp [intOf]; omega
              · clear hown hbr
                go_wp2_with fail
                go_meet
                case rel => exact ⟨_, rfl, RdG.ofOwns HOW.out, HB4.out.trans (HBr.out.mono HB4.out.size)⟩
          · have HPE := hide (show PG = l by
              rw [← HGO.out, List.drop_of_length_le (by omega), putGo])
            have hd1 : decide ((j : Int) < (m.length : Int)) = false := decide_eq_false (by omega)
            have hd2 : decide (j < m.length) = false := decide_eq_false (by omega)
            go_wp2_with fail
            go_meet
            case rel => exact ⟨_, rfl, by rw [HPE.out]; exact RdG.ofOwns HO4.out, HB4.out⟩
        case rest =>
          obtain ⟨s, rfl, hrd, hbd⟩ := hcut
          obtain ⟨so2, sc2, rfl, _, _⟩ := hrd.shape
          have HRd := hide (HRc.out.later hbd)
          have HNd := hide (HNc.out.later hbd)
          have HBd := hide (HBWc.out.trans (hbd.mono HBWc.out.size))
          have HRD := hide hrd
          have HLF := hide (LogFault_any _ PG _ hrd)
          have HZC := hide (chkE_z PG)
          have HOR : Hid (outR PG = if (chkE PG).1 ≠ 0 then ((chkE PG).1, -1) else (0, 0)) := hide rfl
          rw [HSM.out] at HOR
          generalize hCK : chkE PG = CK at *
          obtain ⟨c, d⟩ := CK
          clear hrd hbd hCK
          go_wp2_with fail
          refine HLF.out.mono ?_
          rintro e w6 ⟨rfl, hb6⟩
          have HR6 := hide (HRd.out.later hb6)
          have HN6 := hide (HNd.out.later hb6)
          have HB6 := hide (HBd.out.trans (hb6.mono HBd.out.size))
          have HRD6 := hide (HRD.out.below hb6)
          have hn6 := HN6.out.lt
          clear hb6
          unfold flt
          go_upto_region 19 with (refine wpList_store_blk rfl rfl rfl rfl HN6.out rfl Try.sizeFaultE rfl ?_; intro w7 hN7 hg7; have HN7 := hide hN7; have HR7 := hide (HR6.out.grown hg7 (fun z => by simp at z; omega)); have HB7 := hide (below_grownO HB6.out hg7 (fun k hk => by cases hk; omega) HB6.out.size); have HRD7 := hide (HRD6.out.grownEnt hg7 HN6.out); clear hN7 hg7)
          have g0 := HN7.out.cell 0
          have g1 := HN7.out.cell 1
          have gl := HN7.out.lt
          simp at g0 g1
          by_cases hc : c ≠ 0
          · have hOF := HOR.out.trans (if_pos hc)
            have HE1 := hide (show RL = [] by rw [HH1.out, hOF, if_pos hc])
            have HE2 := hide (show RI = false by rw [HH2.out, hOF, if_pos hc])
            have HE3 := hide (show RX = (c, -1) by rw [HH3.out, hOF])
            have hq : (c == 0) = false := beq_eq_false_iff_ne.2 hc
            have hq2 : (c != 0) = true := by simp [hc]
            clear hc hOF
            go_wp2_with (first
              | (go_at_call 40; refine (lF_any _ _ _).mono ?_; rintro e w8 ⟨rfl, hb8⟩; have HR8 := hide (HR7.out.later hb8); have HB8 := hide (HB7.out.trans (hb8.mono HB7.out.size)); clear hb8; unfold flt)
              | (refine wpList_store_blk rfl rfl rfl rfl HR8.out rfl Try.sizeFaultE rfl ?_; intro w9 hR9 hg9; have HR9 := hide hR9; have HG9 := hide hg9; clear hR9 hg9))
            refine bodyPost_ret (v := .tuple #[.slice none 0 0, .bool false, .agg #[.int .i64 c, .int .i64 (-1)]]) (results3_ttc Try.results54 rfl rfl rfl (run_loadVar_blk HR9.out Try.underlying30 rfl Try.sizeFaultE)) rfl ?_
            exact ⟨_, by rw [HE2.out, HE3.out]; rfl, by rw [HE1.out]; exact RdG.nil _, below_grownO HB8.out HG9.out (fun k hk => by cases hk; omega) HB8.out.size⟩
          · have hOF := HOR.out.trans (if_neg hc)
            have HE1 := hide (show RL = PG by rw [HH1.out, hOF, if_neg (by simp)])
            have HE2 := hide (show RI = true by rw [HH2.out, hOF, if_neg (by simp)])
            have HE3 := hide (show RX = (0, 0) by rw [HH3.out, hOF])
            obtain rfl : c = 0 := Decidable.not_not.1 hc
            obtain rfl : d = 0 := by have := HZC.out rfl; simpa using this
            have r0 := HR7.out.cell 0
            have r1 := HR7.out.cell 1
            have z0 := HR7.out.frozen 0
            have z1 := HR7.out.frozen 1
            simp at r0 r1
            clear hc hOF
            go_wp2_with fail
            go_region
            have hbw := HB7.out
            go_wp2_with fail
            refine bodyPost_ret (v := .tuple #[.slice so2 PG.length sc2, .bool true, .agg #[.int .i64 0, .int .i64 0]]) (results3_ttc Try.results54 rfl rfl rfl (run_loadVar_blk (xs := #[.int .i64 0, .int .i64 0]) (HR7.out.two0) Try.underlying30 rfl Try.sizeFaultE)) rfl ?_
            exact ⟨_, by rw [HE2.out, HE3.out]; rfl, by rw [HE1.out]; exact HRD7.out.two0 HR7.out, by go_grown⟩
      · have hlt : j < m.length := by
          apply Decidable.byContradiction
          intro q
          rw [nxB_none (by omega)] at hnx
          contradiction
        obtain ⟨e, he⟩ : ∃ e, m[j]? = some e := ⟨_, List.getElem?_eq_getElem hlt⟩
        rw [nxB_some he] at hnx
        have hle2 := hasE_le hnx
        have HS := hide (show putGo l (N + (j + 1)) (m.drop (j + 1)) = PG by rw [← HGO.out, drop_consE he, putGo, if_pos hnx]; rfl)
        clear hnx he
        go_wp2_with fail
        go_roundw
        case rel => exact ⟨j + 1, by omega, by go_num, by omega, HS.out, HBc.out⟩
        case measure => simp [intOf]; omega

end Go.Proofs.Ytbffmdhogehfnaa
