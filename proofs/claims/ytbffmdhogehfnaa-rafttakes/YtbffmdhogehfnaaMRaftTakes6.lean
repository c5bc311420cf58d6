/-
  Texts joined: RaftM1, RaftM2, RaftM3, RaftT1, RaftN6, RaftN7, RaftM4.
-/
import Derived.Test.YtbffmdhogehfnaaMRaftTakes5
/-
  Mails: as values and in memory; the walks over a node's mail and the functions that fill mails.
-/
namespace Go.Proofs.Ytbffmdhogehfnaa
open Go.RowKit Go.Maps
set_option linter.unusedVariables false

theorem Try.sizeMail : (Try.prog.info? 44).map (·.size) = some 9 := by kernel_rfl

theorem infoMail : (Try.prog.info? 44).map (fun i => (i.zero, i.size, i.bytes)) = some (some (.agg #[.int .i64 0, .int .i64 0, .int .i64 0, .int .i64 0, .int .i64 0, .int .i64 0, .int .i64 0, .slice none 0 0, .bool false]), 9, 88) := by kernel_rfl

/-- A slice's three numbers. -/
structure Sc where
  ao : Option Addr
  n : Nat
  c : Nat

def Sc.v (s : Sc) : Value := .slice s.ao s.n s.c

/-- A mail's nine places. -/
def mlA (m : Ml) (ev : Value) : Array Value := #[.int .i64 m.kind, .int .i64 m.frm, .int .i64 m.to_, .int .i64 m.term, .int .i64 m.a, .int .i64 m.b, .int .i64 m.c, ev, .bool m.ok]

/-- A mail and where its entries lie. -/
structure Mf where
  m : Ml
  s : Sc

def mfE : En Mf 9 where
  v f := [.int .i64 f.m.kind, .int .i64 f.m.frm, .int .i64 f.m.to_, .int .i64 f.m.term, .int .i64 f.m.a, .int .i64 f.m.b, .int .i64 f.m.c, f.s.v, .bool f.m.ok]
  len _ := rfl
  one p u hu := by
    simp only [List.mem_cons, List.not_mem_nil, or_false] at hu
    rcases hu with rfl | rfl | rfl | rfl | rfl | rfl | rfl | rfl | rfl <;> rfl
  pos := by decide

/-- Mails that are read. -/
def RdM (w : World) (v : Value) (ms : List Ml) : Prop :=
  ∃ fs : List Mf, RdG mfE w v fs ∧ fs.map (·.m) = ms ∧ ∀ f ∈ fs, RdG eE w f.s.v f.m.ents

/-- Mails in new memory. -/
def OwM (w : World) (base : Nat) (v : Value) (ms : List Ml) : Prop :=
  ∃ fs : List Mf, w.ownsRow base 44 9 v fs.length (mfE.vs fs) ∧ fs.map (·.m) = ms ∧ ∀ f ∈ fs, w.ownsRow base 65 2 f.s.v f.m.ents.length (eE.vs f.m.ents)

theorem OwM.rd {w : World} {base : Nat} {v : Value} {ms : List Ml} (h : OwM w base v ms) : RdM w v ms := by
  obtain ⟨fs, h1, h2, h3⟩ := h
  exact ⟨fs, RdG.ofOwns h1, h2, fun f hf => RdG.ofOwns (h3 f hf)⟩

theorem RdM.below {w w' : World} {v : Value} {ms : List Ml} (h : RdM w v ms) (hb : Below w.heap.size w w') : RdM w' v ms := by
  obtain ⟨fs, h1, h2, h3⟩ := h
  exact ⟨fs, h1.below hb, h2, fun f hf => (h3 f hf).below hb⟩

theorem OwM.nil (w : World) (base : Nat) : OwM w base (.slice none 0 0) [] :=
  ⟨[], ⟨by simp [En.vs], .inl ⟨rfl, rfl⟩⟩, rfl, fun f hf => by cases hf⟩

theorem owns_later {w w' : World} {base : Nat} {e : TypeId} {K : Nat} {v : Value} {n : Nat} {xs : List Value} (h : w.ownsRow base e K v n xs) (hb : Below w.heap.size w w') : w'.ownsRow base e K v n xs := by
  refine ⟨h.1, ?_⟩
  rcases h.2 with q | ⟨g, cap, cur, hv, hb1, hg, r⟩
  · exact .inl q
  · refine .inr ⟨g, cap, cur, hv, hb1, ?_, r⟩
    rw [hb.block g (Array.getElem?_eq_some_iff.1 hg).1]
    exact hg

theorem OwM.below {w w' : World} {base : Nat} {v : Value} {ms : List Ml} (h : OwM w base v ms) (hb : Below w.heap.size w w') : OwM w' base v ms := by
  obtain ⟨fs, h1, h2, h3⟩ := h
  exact ⟨fs, owns_later h1 hb, h2, fun f hf => owns_later (h3 f hf) hb⟩

theorem OwM.base {w : World} {base b2 : Nat} {v : Value} {ms : List Ml} (h : OwM w base v ms) (hb : b2 ≤ base) : OwM w b2 v ms := by
  have key : ∀ {e : TypeId} {K : Nat} {v : Value} {n : Nat} {xs : List Value}, w.ownsRow base e K v n xs → w.ownsRow b2 e K v n xs := by
    intro e K v n xs h
    refine ⟨h.1, ?_⟩
    rcases h.2 with q | ⟨g, cap, cur, hv, hb1, r⟩
    · exact .inl q
    · exact .inr ⟨g, cap, cur, hv, by omega, r⟩
  obtain ⟨fs, h1, h2, h3⟩ := h
  exact ⟨fs, key h1, h2, fun f hf => key (h3 f hf)⟩

set_option maxRecDepth 100000 in
set_option maxHeartbeats 2000000 in
theorem mail_any (B : Nat) (x : Nd) (kind to_ : Int) (lv vv nv hv : Value) (w : World) (hm : Nr w B x lv vv nv hv) :
    Calls Try.prog 85 #[.pointer (some ⟨B, 0, none⟩), .int .i64 kind, .int .i64 to_] w fun e w' => e = .returned (.agg (mlA ⟨kind, x.id, to_, x.term, 0, 0, 0, [], false⟩ (.slice none 0 0))) ∧ Below w.heap.size w w' := by
  have c1 := hm.blk.cell 1
  have c2 := hm.blk.cell 2
  have bl := hm.blk.lt
  simp [ndA] at c1 c2
  clear hm
  unfold mlA
  go_enter Try.func85, Try.ntmps85
  go_wp2_with fail
  go_region
  all_goals
    go_wp2_with fail
    refine bodyPost_ret (by simp [results, Try.results85, go_sem] <;> rfl) rfl ?_
    exact ⟨rfl, by go_grown⟩

end Go.Proofs.Ytbffmdhogehfnaa

/-
  The walks over the functions that fill mails.
-/
namespace Go.Proofs.Ytbffmdhogehfnaa
open Go.RowKit Go.Maps
set_option linter.unusedVariables false

/-- What a function that fills mails finds: a node that was there ahead of the mail, and where its number stands. -/
structure FlAt (w0 w : World) (Y B M : Nat) (x : Nd) (lv vv nv hv : Value) : Prop where
  nr : Nr w0 B x lv vv nv hv
  cap : w0.cell? ⟨Y, 0, none⟩ = some (.pointer (some ⟨B, 0, none⟩))
  below : Below w0.heap.size w0 w
  new : w0.heap.size ≤ M

theorem FlAt.grown {w0 w w' : World} {Y B M : Nat} {x : Nd} {lv vv nv hv : Value} (h : FlAt w0 w Y B M x lv vv nv hv) (hg : w.grownBy w' (some M)) : FlAt w0 w' Y B M x lv vv nv hv :=
  ⟨h.nr, h.cap, below_grownO h.below hg (fun k hk => by cases hk; exact h.new) h.below.size, h.new⟩

theorem FlAt.later {w0 w w' : World} {Y B M : Nat} {x : Nd} {lv vv nv hv : Value} (h : FlAt w0 w Y B M x lv vv nv hv) (hb : Below w.heap.size w w') : FlAt w0 w' Y B M x lv vv nv hv :=
  ⟨h.nr, h.cap, h.below.trans (hb.mono h.below.size), h.new⟩

theorem FlAt.n {w0 w : World} {Y B M : Nat} {x : Nd} {lv vv nv hv : Value} (h : FlAt w0 w Y B M x lv vv nv hv) : Nr w B x lv vv nv hv := h.nr.below h.below

theorem FlAt.y {w0 w : World} {Y B M : Nat} {x : Nd} {lv vv nv hv : Value} (h : FlAt w0 w Y B M x lv vv nv hv) : w.cell? ⟨Y, 0, none⟩ = some (.pointer (some ⟨B, 0, none⟩)) := cell_belowG h.cap h.below

theorem FlAt.yl {w0 w : World} {Y B M : Nat} {x : Nd} {lv vv nv hv : Value} (h : FlAt w0 w Y B M x lv vv nv hv) : Y < w.heap.size := World.block_lt_of_cell? w _ h.y

set_option maxRecDepth 100000 in
set_option maxHeartbeats 2000000 in
theorem askFill_any (w0 : World) (Y B M : Nat) (x : Nd) (lv vv nv hv : Value) (m : Ml) (ev : Value) (w : World) (hf : FlAt w0 w Y B M x lv vv nv hv) (hM : Blk w M 44 (mlA m ev)) :
    Calls Try.prog 66 #[.pointer (some ⟨M, 0, none⟩), .pointer (some ⟨Y, 0, none⟩)] w fun e w' => e = .returned (.tuple #[]) ∧ Blk w' M 44 (mlA { m with a := x.log.length, b := lastT x.log } ev) ∧ w.grownBy w' (some M) := by
  have HF := hide hf
  have HM := hide hM
  obtain ⟨lo, lc, rfl, _, _⟩ := hf.n.rd.log.shape
  have c4 := hf.n.blk.cell 4
  have y0 := hf.y
  have bl := hf.n.blk.lt
  have yl := hf.yl
  simp [ndA] at c4
  unfold mlA at HM
  clear hf hM
  go_enter Try.func66, Try.ntmps66
  go_wp2_with (first
    | (refine wpList_store_int (k := 4) rfl rfl rfl rfl HM.out rfl Try.sizeIntR ?_; intro w1 hM1 hg1; have hF1 := HF.out.grown hg1; have HM1 := hide hM1; have HG1 := hide hg1; have d4 := hF1.n.blk.cell 4; have z0 := hF1.y; have bl1 := hF1.n.blk.lt; have yl1 := hF1.yl; simp [ndA] at d4; have HF1 := hide hF1; have HL1 := hide (rLast_any _ x.log w1 hF1.n.rd.log); clear hM1 hg1 hF1)
    | (go_at_call 59; refine HL1.out.mono ?_; rintro e w9 ⟨rfl, hw9⟩; rw [hw9]; clear hw9 w9)
    | (refine wpList_store_int (k := 5) rfl rfl rfl rfl HM1.out rfl Try.sizeIntR ?_; intro w2 hM2 hg2; have HM2 := hide hM2; have HG2 := hide (grown_same HG1.out hg2); clear hM2 hg2))
  refine bodyPost_end (v := .tuple #[]) (by simp [results, Try.results66]) rfl ?_
  exact ⟨rfl, HM2.out, HG2.out⟩

end Go.Proofs.Ytbffmdhogehfnaa

/-
  The walk over the function that fills the mails of a beat.
-/
namespace Go.Proofs.Ytbffmdhogehfnaa
open Go.RowKit Go.Maps
set_option linter.unusedVariables false

theorem owns_baseR {w : World} {b1 b2 : Nat} {e : TypeId} {K : Nat} {v : Value} {n : Nat} {xs : List Value} (h : w.ownsRow b1 e K v n xs) (hb : b2 ≤ b1) : w.ownsRow b2 e K v n xs := by
  refine ⟨h.1, ?_⟩
  rcases h.2 with hn | ⟨g, cap, cur, rfl, hg, r⟩
  · exact .inl hn
  · exact .inr ⟨g, cap, cur, rfl, by omega, r⟩

theorem Blk.grown5 {w w' : World} {B M : Nat} {t t2 : TypeId} {xs ys : Array Value} (h : Blk w B t xs) (h2 : Blk w M t2 ys) (hne : t ≠ t2) (hg : w.grownBy w' (some M)) : Blk w' B t xs := by
  refine h.grown hg ?_
  intro q
  simp only [Option.some.injEq] at q
  subst q
  unfold Blk at h h2
  rw [h] at h2
  simp at h2
  exact hne h2.2

set_option maxRecDepth 100000 in
set_option maxHeartbeats 8000000 in
theorem beatFill_any (w0 : World) (Y B M K : Nat) (x : Nd) (lv vv nv hv : Value) (m : Ml) (ev : Value) (NX : Int) (w : World) (hf : FlAt w0 w Y B M x lv vv nv hv) (hM : Blk w M 44 (mlA m ev)) (hto : m.to_ = K) (hnx : x.next[K]? = some NX) (h1 : 1 ≤ NX) (h2 : NX ≤ x.log.length + 1) (hll : x.log.length ≤ 1000) :
    Calls Try.prog 68 #[.pointer (some ⟨M, 0, none⟩), .pointer (some ⟨Y, 0, none⟩)] w fun e w' => ∃ ev', e = .returned (.tuple #[]) ∧ Blk w' M 44 (mlA { m with a := nxA x K, b := termP x.log (nxA x K), c := x.com, ents := (x.log.drop (nxA x K)).take 5 } ev') ∧ w'.ownsRow w.heap.size 65 2 ev' ((x.log.drop (nxA x K)).take 5).length (eE.vs ((x.log.drop (nxA x K)).take 5)) ∧ w.grownBy w' (some M) := by
  have HNA := hide (show NX - 1 = (nxA x K : Int) by unfold nxA; rw [hnx]; simp; omega)
  have hAl : nxA x K ≤ x.log.length := by have := HNA.out; omega
  generalize nxA x K = A at *
  have HF := hide hf
  have HM := hide hM
  obtain ⟨lo, lc, rfl, hlc, hlm⟩ := hf.n.rd.log.shape
  have hnl := (List.getElem?_eq_some_iff.1 hnx).1
  obtain ⟨no, nc, rfl, _, _⟩ := hf.n.rd.next.shape
  obtain ⟨nb, noff, rfl, nbl, nq⟩ := hf.n.rd.next.hereI hnx
  have c8 := hf.n.blk.cell 8
  have y0 := hf.y
  have bl := hf.n.blk.lt
  have yl := hf.yl
  simp [ndA] at c8
  have m2 := hM.cell 2
  have m4 := hM.cell 4
  have z4 := hM.frozen 4
  have ml := hM.lt
  simp [mlA] at m2 m4
  rw [hto] at m2
  have hk1 : (0 : Int) ≤ (K : Int) := by omega
  have hk2 : (K : Int) < (x.next.length : Int) := by omega
  have hw1 : IntKind.i64.wrap (NX - 1) = (A : Int) := by rw [HNA.out, IntKind.wrap_i64]; omega
  have HTO := hide hto
  clear hf hM hnx hto
  go_enter Try.func68, Try.ntmps68
  go_upto_region 0 with fail
  go_cut [15] (fun _ wc => Blk wc M 44 (mlA { m with a := A } ev) ∧ w.grownBy wc (some M))
  case first =>
    go_region
    all_goals
      have hb4 := HM.out.set 4 (.int .i64 A)
      have HB4 := hide (show Blk (w.setCell ⟨M, 4, none⟩ (.int .i64 A)).drew M 44 (mlA { m with a := A } ev) from hb4)
      have HG4 := hide (grown_below (grown_setCell w M 4 (.int .i64 A)) (Below.drew (Below.refl _ _)))
      clear hb4 m2 m4 z4
      generalize (w.setCell ⟨M, 4, none⟩ (.int .i64 A)).drew = wz at HB4 HG4 ⊢
      go_wp2_with fail
      go_meet
      case rel => exact ⟨HB4.out, HG4.out⟩
  case rest =>
    obtain ⟨hM1, hG1⟩ := hcut
    have hF1 := HF.out.grown hG1
    have HF1 := hide hF1
    have HM1 := hide hM1
    have HG1 := hide hG1
    have d4 := hF1.n.blk.cell 4
    have y1 := hF1.y
    have bl1 := hF1.n.blk.lt
    have yl1 := hF1.yl
    simp [ndA] at d4
    have p4 := hM1.cell 4
    have p5 := hM1.cell 5
    have q5 := hM1.frozen 5
    have pl := hM1.lt
    simp [mlA] at p4 p5
    have HT := hide (termAt_any _ x.log A A wc.drew hF1.n.rd.log.drew rfl hAl)
    clear hM1 hG1 hF1 c8 y0 bl yl m2 m4 z4 ml nq nbl HM
    go_upto_region 1 with fail
    go_cut [28] (fun _ wd => Blk wd M 44 (mlA { m with a := A, b := termP x.log A } ev) ∧ w.grownBy wd (some M))
    case first =>
      go_region_with (go_at_call 69; refine HT.out.mono ?_; rintro e w9 ⟨rfl, hw9⟩; rw [hw9]; clear hw9 w9)
      all_goals
        have hb5 := HM1.out.set 5 (.int .i64 (termP x.log A))
        have HB5 := hide (show Blk (wc.setCell ⟨M, 5, none⟩ (.int .i64 (termP x.log A))).drew M 44 (mlA { m with a := A, b := termP x.log A } ev) from hb5)
        have HG5 := hide (grown_below (grown_same HG1.out (grown_setCell wc M 5 (.int .i64 (termP x.log A)))) (Below.drew (Below.refl _ _)))
        clear hb5 p4 p5 q5
        generalize (wc.setCell ⟨M, 5, none⟩ (.int .i64 (termP x.log A))).drew = wz at HB5 HG5 ⊢
        go_wp2_with fail
        go_meet
        case rel => exact ⟨HB5.out, HG5.out⟩
    case rest =>
      obtain ⟨hM2, hG2⟩ := hcut
      have hF2 := HF.out.grown hG2
      have HM2 := hide hM2
      have HG2 := hide hG2
      have f6 := hF2.n.blk.cell 6
      have y2 := hF2.y
      have bl2 := hF2.n.blk.lt
      have yl2 := hF2.yl
      simp [ndA] at f6
      unfold mlA at HM2
      clear hM2 hG2 hF2 d4 y1 bl1 yl1 p4 p5 q5 pl HM1 HG1 HF1 HT
      go_upto_region 3 with (refine wpList_store_int (k := 6) rfl rfl rfl rfl HM2.out rfl Try.sizeIntR ?_; intro w3 hM3 hg3; have HM3 := hide hM3; have HG3 := hide (grown_same HG2.out hg3); clear hM3 hg3)
      dsimp only [Act.put]
      have hF3 := HF.out.grown HG3.out
      have e4 := hF3.n.blk.cell 4
      have y3 := hF3.y
      have bl3 := hF3.n.blk.lt
      have yl3 := hF3.yl
      simp [ndA] at e4
      have m4 := HM3.out.cell 4
      have m7 := HM3.out.cell 7
      have z7 := HM3.out.frozen 7
      have ml3 := HM3.out.lt
      simp at m4 m7
      have HLG := hide hF3.n.rd.log
      have hw5 : IntKind.i64.wrap ((A : Int) + 5) = (A : Int) + 5 := by rw [IntKind.wrap_i64]; omega
      have hi0 : (0 : Int) ≤ (A : Int) := by omega
      have hi2 : (A : Int) ≤ (lc : Int) := by omega
      clear hF3 f6 y2 bl2 yl2 HM2 HG2
      have HDR := hide (show Below w3.heap.size w3 w3.drew from Below.drew (Below.refl _ _))
      have HEND : Hid (∀ (w9 : World) (so9 : Option Addr) (sc9 : Nat), w9.ownsRow w3.heap.size 65 2 (.slice so9 ((x.log.drop A).take 5).length sc9) ((x.log.drop A).take 5).length (eE.vs ((x.log.drop A).take 5)) → Below w3.heap.size w3 w9 →
          Blk (w9.setCell ⟨M, 7, none⟩ (.slice so9 ((x.log.drop A).take 5).length sc9)) M 44 (mlA { m with a := A, b := termP x.log A, c := x.com, ents := (x.log.drop A).take 5 } (.slice so9 ((x.log.drop A).take 5).length sc9)) ∧
          (w9.setCell ⟨M, 7, none⟩ (.slice so9 ((x.log.drop A).take 5).length sc9)).ownsRow w.heap.size 65 2 (.slice so9 ((x.log.drop A).take 5).length sc9) ((x.log.drop A).take 5).length (eE.vs ((x.log.drop A).take 5)) ∧ w.grownBy (w9.setCell ⟨M, 7, none⟩ (.slice so9 ((x.log.drop A).take 5).length sc9)) (some M)) := hide (fun w9 so9 sc9 ho hb => by
        have hM9 := HM3.out.later hb
        have h1 := hM9.set 7 (.slice so9 ((x.log.drop A).take 5).length sc9)
        refine ⟨h1, owns_baseR (owns_setOther ho (owns_off ho hM9 (by decide)) _) HG3.out.size, grown_same (grown_below HG3.out hb) (grown_setCell w9 M 7 _)⟩)
      generalize hL5 : (x.log.drop A).take 5 = L5 at *
      have HL5 := hide hL5
      clear hL5
      have HKEEP : Hid (∀ W, Below w3.heap.size w3 W → W.cell? ⟨Y, 0, none⟩ = some (.pointer (some ⟨B, 0, none⟩)) ∧ W.cell? ⟨B, 4, none⟩ = some (.slice lo x.log.length lc) ∧ W.cell? ⟨M, 4, none⟩ = some (.int .i64 A)) := hide (fun W hW => ⟨cell_belowG y3 hW, cell_belowG e4 hW, cell_belowG m4 hW⟩)
      have HK9 : Hid (∀ (W9 : World) (u : Value), Below w3.heap.size w3 W9 → (W9.setCell ⟨M, 7, none⟩ u).cell? ⟨Y, 0, none⟩ = some (.pointer (some ⟨B, 0, none⟩)) ∧ (W9.setCell ⟨M, 7, none⟩ u).cell? ⟨B, 4, none⟩ = some (.slice lo x.log.length lc) ∧ (W9.setCell ⟨M, 7, none⟩ u).cell? ⟨M, 4, none⟩ = some (.int .i64 A)) := hide (fun W9 u hW => by
        obtain ⟨q1, q2, q3⟩ := HKEEP.out W9 hW
        have hM9 := HM3.out.later hW
        refine ⟨?_, ?_, ?_⟩
        · rw [World.cell?_of_block (heap_setCell_other W9 ⟨M, 7, none⟩ _ u (fun q => ?_))]
          · exact q1
          · have h1 := hM9.cell 0
            simp only at q
            rw [q] at q1
            rw [q1] at h1
            simp at h1
        · rw [World.cell?_of_block (heap_setCell_other W9 ⟨M, 7, none⟩ _ u (fun q => ?_))]
          · exact q2
          · have h1 := hM9.cell 4
            simp only at q
            rw [q] at q2
            rw [q2] at h1
            simp at h1
        · have := (hM9.set 7 u).cell 4
          simpa using this)
      obtain ⟨E, hE1, hE2, hE3, hEm, hte⟩ : ∃ E : Nat, A ≤ E ∧ E ≤ x.log.length ∧ E ≤ lc ∧ (if (x.log.length : Int) < (A : Int) + 5 then (x.log.length : Int) else (A : Int) + 5) = (E : Int) ∧ (x.log.drop A).take (E - A) = (x.log.drop A).take 5 := by
        by_cases h5 : (x.log.length : Int) < (A : Int) + 5
        · exact ⟨x.log.length, by omega, by omega, by omega, by rw [if_pos h5], by rw [List.take_of_length_le (by simp), List.take_of_length_le (by simp; omega)]⟩
        · exact ⟨A + 5, by omega, by omega, by omega, by rw [if_neg h5]; omega, by congr 1; omega⟩
      have hmin : ∀ (ts : Array TypeId) (t : TypeId) (W : World), (Builtin.min_ ts t #[.int .i64 ((A : Int) + 5), .int .i64 (x.log.length : Int)]).run Try.prog W = .ok (.int .i64 (E : Int)) W := fun ts t W => by rw [run_min_int2, hEm]
      have hsl := run_slice_lhK (K := 2) (P := Try.prog) Try.underlying22 (by kernel_rfl) infoEntry lo x.log.length lc A E A E rfl rfl hE1 hE3
      have hr := HLG.out.sliced (lo := A) (hi := E) hE1 hE2
      rw [hte, HL5.out] at hr
      obtain ⟨x1, hx1⟩ : ∃ x, Go.sliced lo A E lc 2 = x := ⟨_, rfl⟩
      rw [hx1] at hsl hr
      obtain ⟨so, sc, hso, _, _⟩ := hr.shape
      subst hso
      have hLn : L5.length ≤ 5 := by rw [← HL5.out]; simp; omega
      have HCL := hide (CloneE_any _ _ w3.drew hr.drew (by omega))
      have hj1 : (A : Int) ≤ (E : Int) := by omega
      have hj2 : (E : Int) ≤ (lc : Int) := by omega
      clear hr hx1 hte hEm hE1 hE2 hE3 HLG
      go_region_held3 (fun W => W.cell? ⟨Y, 0, none⟩ = some (.pointer (some ⟨B, 0, none⟩)) ∧ W.cell? ⟨B, 4, none⟩ = some (.slice lo x.log.length lc) ∧ W.cell? ⟨M, 4, none⟩ = some (.int .i64 A)) (first | exact k9 | exact HKEEP.out _ (by go_grown)) (first
        | (go_at_call 62; refine HCL.out.mono ?_; rintro e w9 ⟨v9, rfl, ho9, hb9⟩; obtain ⟨so9, sc9, hv9⟩ := owns_shapeK ho9; subst hv9; have hb8 := HDR.out.trans (hb9.mono HDR.out.size); have hM9 := HM3.out.later hb8; have k7 := hM9.cell 7; have kz := hM9.frozen 7; have kl := hM9.lt; have k9 := HK9.out w9 (.slice so9 L5.length sc9) hb8; simp at k7))
      all_goals
        obtain ⟨hM8, hO8, hG8⟩ := HEND.out w9 so9 sc9 ho9 hb8
        have HM8 := hide hM8
        have HO8 := hide hO8
        have HG8 := hide hG8
        clear hM8 hO8 hG8 ho9 hb9 hb8 hM9 k7 kz kl k9 m4 m7 z7 e4 y3
        generalize w9.setCell ⟨M, 7, none⟩ (.slice so9 L5.length sc9) = wz at HM8 HO8 HG8 ⊢
        go_wp2_with fail
        refine bodyPost_end (v := .tuple #[]) (by simp [results, Try.results68]) rfl ?_
        rw [HL5.out]
        exact ⟨_, rfl, HM8.out, HO8.out, HG8.out⟩

end Go.Proofs.Ytbffmdhogehfnaa

/-
  The walks over slices.Clone of numbers and raft.copied.
-/
namespace Go.Proofs.Ytbffmdhogehfnaa
open Go.RowKit Go.Maps
set_option linter.unusedVariables false

set_option maxRecDepth 100000 in
set_option maxHeartbeats 1000000 in
theorem rClone_any (v : Value) (l : List Int) (w : World) (hv : RdG iE w v l) (hl : l.length ≤ 100000) :
    Calls Try.prog 63 #[v] w fun e w' => ∃ v', e = .returned v' ∧ w'.ownsRow w.heap.size 3 1 v' l.length (iE.vs l) ∧ Below w.heap.size w w' := by
  have HV := hide hv
  obtain ⟨ao, cap, rfl, hc1, hc2⟩ := hv.shape
  cases ao with
  | none =>
    have hcap : cap = 0 := by
      obtain ⟨ao', cap', e, h1, h2, h3, _⟩ := hv
      simp only [Value.slice.injEq] at e
      obtain ⟨rfl, _, rfl⟩ := e
      exact h3 rfl
    subst hcap
    obtain rfl : l = [] := List.eq_nil_of_length_eq_zero (by omega)
    clear hv
    show Calls Try.prog 63 #[.slice none 0 0] w _
    have heq : ∀ W, (binOp .eql 23 (.slice none 0 0) (.slice none 0 0)).run Try.prog W = .ok (.bool true) W := fun W => by kernel_rfl
    go_enter Try.func63, Try.ntmps63
    go_wp2_with fail
    go_ret
    exact ⟨_, rfl, World.ownsRow_nil _ _ _ _, Below.refl _ _⟩
  | some a =>
    have hl2 : 0 + l.length ≤ 1000000000 := by omega
    have hown : (w.alloc (.cells #[] 3)).ownsRow w.heap.size 3 1 (.slice (some ⟨w.heap.size, 0, none⟩) 0 0) 0 (iE.vs []) := World.ownsRow_made w #[] 0 (Nat.le_refl _) (by decide) rfl
    have hb8 : w.heap.size ≤ (w.alloc (.cells #[] 3)).heap.size := by simp
    have heq : ∀ W, (binOp .eql 23 (.slice (some a) l.length cap) (.slice none 0 0)).run Try.prog W = .ok (.bool false) W := fun W => Lib.run_eql_slice_nil W _ _ _ _ _ _ _ Try.underlying23
    have HV1 := hide (hv.alloc (.cells #[] 3))
    have HBA := hide (below_allocG w (.cells #[] 3))
    clear hv
    go_enter Try.func63, Try.ntmps63
    go_wp2_with (at_builtin; go_must (refine wpList_append_rdG (E := iE) (cs := []) hown HV1.out Try.underlying23 infoIntR rfl rfl rfl rfl rfl hl2 (by decide) hb8 ?_); intro v1 w1 ho1 hb1 hg1; clear hg1)
    go_ret
    exact ⟨_, rfl, by simpa using ho1, HBA.out.trans hb1⟩

/-- A node's rows, labelled. -/
structure Nw (w : World) (lab : Nat → Nat) (x : Nd) (lv vv nv hv : Value) : Prop where
  log : Row w lab 1 65 2 lv x.log.length (eE.vs x.log)
  vot : Row w lab 2 3 1 vv x.votes.length (iE.vs x.votes)
  nxt : Row w lab 3 3 1 nv x.next.length (iE.vs x.next)
  hav : Row w lab 4 3 1 hv x.hav.length (iE.vs x.hav)
  ok : LbOk 0 w lab

theorem rows_label {w : World} {x : Nd} {lv vv nv hv : Value} {b1 b2 b3 b4 : Nat} (h1 : w.ownsRow b1 65 2 lv x.log.length (eE.vs x.log)) (h2 : w.ownsRow b2 3 1 vv x.votes.length (iE.vs x.votes)) (h3 : w.ownsRow b3 3 1 nv x.next.length (iE.vs x.next)) (h4 : w.ownsRow b4 3 1 hv x.hav.length (iE.vs x.hav))
    (l1 : ∀ g, lv.ownBlock = some g → g < b2) (l2 : ∀ g, vv.ownBlock = some g → g < b3) (l3 : ∀ g, nv.ownBlock = some g → g < b4) (b12 : b1 ≤ b2) (b23 : b2 ≤ b3) (b34 : b3 ≤ b4) :
    ∃ lab, Nw w lab x lv vv nv hv ∧ ∀ g, g < b1 → lab g = 0 := by
  have g1 := fun g hg => (h1.lt g hg)
  have g2 := fun g hg => (h2.lt g hg)
  have g3 := fun g hg => (h3.lt g hg)
  have g4 := fun g hg => (h4.lt g hg)
  refine ⟨fun g => if lv.ownBlock = some g then 1 else if vv.ownBlock = some g then 2 else if nv.ownBlock = some g then 3 else if hv.ownBlock = some g then 4 else 0, ⟨⟨owns_zero h1, fun g hg => ?_⟩, ⟨owns_zero h2, fun g hg => ?_⟩, ⟨owns_zero h3, fun g hg => ?_⟩, ⟨owns_zero h4, fun g hg => ?_⟩, fun g hg => ?_⟩, fun g hg => ?_⟩
  · show (if _ then _ else _) = _
    rw [if_pos hg]
  · show (if _ then _ else _) = _
    rw [if_neg (fun q => by have := l1 g q; have := (g2 g hg).1; omega), if_pos hg]
  · show (if _ then _ else _) = _
    rw [if_neg (fun q => by have := l1 g q; have := (g3 g hg).1; omega), if_neg (fun q => by have := l2 g q; have := (g3 g hg).1; omega), if_pos hg]
  · show (if _ then _ else _) = _
    rw [if_neg (fun q => by have := l1 g q; have := (g4 g hg).1; omega), if_neg (fun q => by have := l2 g q; have := (g4 g hg).1; omega), if_neg (fun q => by have := l3 g q; have := (g4 g hg).1; omega), if_pos hg]
  · show (if _ then _ else _) = _
    rw [if_neg (fun q => by have := (g1 g q).2; omega), if_neg (fun q => by have := (g2 g q).2; omega), if_neg (fun q => by have := (g3 g q).2; omega), if_neg (fun q => by have := (g4 g q).2; omega)]
  · show (if _ then _ else _) = _
    rw [if_neg (fun q => by have := (g1 g q).1; omega), if_neg (fun q => by have := (g2 g q).1; omega), if_neg (fun q => by have := (g3 g q).1; omega), if_neg (fun q => by have := (g4 g q).1; omega)]

theorem owns_offB {w w' : World} {base B : Nat} {e : TypeId} {K : Nat} {v : Value} {n : Nat} {xs : List Value} (h : w.ownsRow base e K v n xs) (hg : w.grownBy w' (some B)) (hB : B < base) : w'.ownsRow base e K v n xs := by
  refine owns_grownO h hg ?_
  cases hv : v.ownBlock with
  | none => exact .inl rfl
  | some g =>
    right
    intro q
    cases q
    have := (h.lt _ hv).1
    omega

set_option maxRecDepth 100000 in
set_option maxHeartbeats 4000000 in
theorem copied_any (x : Nd) (lv vv nv hv : Value) (w : World) (hx : RdNd w x lv vv nv hv) (hl1 : x.log.length ≤ 1000) (hl2 : x.votes.length ≤ 1000) (hl3 : x.next.length ≤ 1000) (hl4 : x.hav.length ≤ 1000) :
    Calls Try.prog 31 #[ndV x lv vv nv hv] w fun e w' => ∃ lab lv' vv' nv' hv', e = .returned (ndV x lv' vv' nv' hv') ∧ Nw w' lab x lv' vv' nv' hv' ∧ (∀ g, g < w.heap.size → lab g = 0) ∧ Below w.heap.size w w' := by
  have HX := hide hx
  obtain ⟨n, id, te, vo, lo, ro, co, vs, ns, hs⟩ := x
  obtain ⟨h1, h2, h3, h4⟩ := hx
  simp only at h1 h2 h3 h4 hl1 hl2 hl3 hl4
  obtain ⟨ao, cap, rfl, _, _⟩ := h1.shape
  obtain ⟨bo, cap2, rfl, _, _⟩ := h2.shape
  obtain ⟨no, cap3, rfl, _, _⟩ := h3.shape
  obtain ⟨ho, cap4, rfl, _, _⟩ := h4.shape
  have hZ : Hid (#[Value.int .i64 0, .int .i64 0, .int .i64 0, .int .i64 0, .slice none 0 0, .int .i64 0, .int .i64 0, .slice none 0 0, .slice none 0 0, .slice none 0 0].size = 10) := hide rfl
  have hA := below_alloc2 w (.cells #[.int .i64 n, .int .i64 id, .int .i64 te, .int .i64 vo, .slice ao lo.length cap, .int .i64 ro, .int .i64 co, .slice bo vs.length cap2, .slice no ns.length cap3, .slice ho hs.length cap4] 25) (.cells #[.int .i64 0, .int .i64 0, .int .i64 0, .int .i64 0, .slice none 0 0, .int .i64 0, .int .i64 0, .slice none 0 0, .slice none 0 0, .slice none 0 0] 52)
  have hB := Blk.at0of2 w (.cells #[.int .i64 0, .int .i64 0, .int .i64 0, .int .i64 0, .slice none 0 0, .int .i64 0, .int .i64 0, .slice none 0 0, .slice none 0 0, .slice none 0 0] 52) 25 #[.int .i64 n, .int .i64 id, .int .i64 te, .int .i64 vo, .slice ao lo.length cap, .int .i64 ro, .int .i64 co, .slice bo vs.length cap2, .slice no ns.length cap3, .slice ho hs.length cap4]
  have hR := Blk.at1 w (.cells #[.int .i64 n, .int .i64 id, .int .i64 te, .int .i64 vo, .slice ao lo.length cap, .int .i64 ro, .int .i64 co, .slice bo vs.length cap2, .slice no ns.length cap3, .slice ho hs.length cap4] 25) 52 #[.int .i64 0, .int .i64 0, .int .i64 0, .int .i64 0, .slice none 0 0, .int .i64 0, .int .i64 0, .slice none 0 0, .slice none 0 0, .slice none 0 0]
  have hs0 : w.heap.size + 2 ≤ ((w.alloc (.cells #[.int .i64 n, .int .i64 id, .int .i64 te, .int .i64 vo, .slice ao lo.length cap, .int .i64 ro, .int .i64 co, .slice bo vs.length cap2, .slice no ns.length cap3, .slice ho hs.length cap4] 25)).alloc (.cells #[.int .i64 0, .int .i64 0, .int .i64 0, .int .i64 0, .slice none 0 0, .int .i64 0, .int .i64 0, .slice none 0 0, .slice none 0 0, .slice none 0 0] 52)).heap.size := by simp
  unfold ndV ndA
  have HC2 := hide (fun W (hW : Below w.heap.size w W) => rClone_any _ vs W (h2.below hW) (by omega))
  have HC3 := hide (fun W (hW : Below w.heap.size w W) => rClone_any _ ns W (h3.below hW) (by omega))
  have HC4 := hide (fun W (hW : Below w.heap.size w W) => rClone_any _ hs W (h4.below hW) (by omega))
  have HC1 := hide (CloneE_any _ lo _ (h1.below hA) hl1)
  go_enter Try.func31, Try.ntmps31
  generalize hA0 : (w.alloc (.cells #[.int .i64 n, .int .i64 id, .int .i64 te, .int .i64 vo, .slice ao lo.length cap, .int .i64 ro, .int .i64 co, .slice bo vs.length cap2, .slice no ns.length cap3, .slice ho hs.length cap4] 25)).alloc (.cells #[.int .i64 0, .int .i64 0, .int .i64 0, .int .i64 0, .slice none 0 0, .int .i64 0, .int .i64 0, .slice none 0 0, .slice none 0 0, .slice none 0 0] 52) = A0 at hA hB hR hs0 HC1
  have HA := hide hA
  have HB := hide hB
  have HR := hide hR
  clear h1 h2 h3 h4 hA hB hR
  go_upto_region 1 with fail
  try rw [hA0]
  have b4 := HB.out.cell 4
  have bl := HB.out.lt
  simp at b4
  clear hA0
  go_wp2_with fail
  refine HC1.out.mono ?_
  rintro e w1 ⟨v1, rfl, o1, hb1⟩
  obtain ⟨ao1, ac1, hv1⟩ := owns_shapeK o1
  subst hv1
  have HBc1 := hide (HB.out.later hb1)
  have HRc1 := hide (HR.out.later hb1)
  have HAc1 := hide (HA.out.trans (hb1.mono HA.out.size))
  have HO1c1 := hide o1
  have hz1 := hb1.size
  clear o1 hb1 HC1 b4 bl
  go_wp2_with (refine wpList_store_slice (k := 4) rfl rfl rfl rfl HBc1.out rfl Try.sizeEntsR ?_; intro W1 hB hg; have HB1 := hide hB; have HR1 := hide (HRc1.out.grown hg (by simp)); have HA1 := hide (below_grownO HAc1.out hg (fun k hk => by cases hk; omega) HAc1.out.size); have HO11 := hide (owns_offB HO1c1.out hg (by omega)); have zz1 := hg.size; have q7 := hB.cell 7; have ql7 := hB.lt; simp at q7; clear hB hg)
  refine (HC2.out _ HA1.out).mono ?_
  rintro e u2 ⟨v2, rfl, o, hb⟩
  obtain ⟨ao2, ac2, hv2⟩ := owns_shapeK o
  subst hv2
  have HBc2 := hide (HB1.out.later hb)
  have HRc2 := hide (HR1.out.later hb)
  have HAc2 := hide (HA1.out.trans (hb.mono HA1.out.size))
  have HO1c2 := hide (owns_later HO11.out hb)
  have HO2c2 := hide o
  have yy2 := hb.size
  have LT1 := hide (fun g hg => (HO11.out.lt g hg).2)
  clear o hb
  go_wp2_with (refine wpList_store_slice (k := 7) rfl rfl rfl rfl HBc2.out rfl Try.sizeIntsR ?_; intro W2 hB hg; have HB2 := hide hB; have HR2 := hide (HRc2.out.grown hg (by simp)); have HA2 := hide (below_grownO HAc2.out hg (fun k hk => by cases hk; omega) HAc2.out.size); have HO12 := hide (owns_offB HO1c2.out hg (by omega)); have HO22 := hide (owns_offB HO2c2.out hg (by omega)); have zz2 := hg.size; have q8 := hB.cell 8; have ql8 := hB.lt; simp at q8; clear hB hg)
  refine (HC3.out _ HA2.out).mono ?_
  rintro e u3 ⟨v3, rfl, o, hb⟩
  obtain ⟨ao3, ac3, hv3⟩ := owns_shapeK o
  subst hv3
  have HBc3 := hide (HB2.out.later hb)
  have HRc3 := hide (HR2.out.later hb)
  have HAc3 := hide (HA2.out.trans (hb.mono HA2.out.size))
  have HO1c3 := hide (owns_later HO12.out hb)
  have HO2c3 := hide (owns_later HO22.out hb)
  have HO3c3 := hide o
  have yy3 := hb.size
  have LT2 := hide (fun g hg => (HO22.out.lt g hg).2)
  clear o hb
  go_wp2_with (refine wpList_store_slice (k := 8) rfl rfl rfl rfl HBc3.out rfl Try.sizeIntsR ?_; intro W3 hB hg; have HB3 := hide hB; have HR3 := hide (HRc3.out.grown hg (by simp)); have HA3 := hide (below_grownO HAc3.out hg (fun k hk => by cases hk; omega) HAc3.out.size); have HO13 := hide (owns_offB HO1c3.out hg (by omega)); have HO23 := hide (owns_offB HO2c3.out hg (by omega)); have HO33 := hide (owns_offB HO3c3.out hg (by omega)); have zz3 := hg.size; have q9 := hB.cell 9; have ql9 := hB.lt; simp at q9; clear hB hg)
  refine (HC4.out _ HA3.out).mono ?_
  rintro e u4 ⟨v4, rfl, o, hb⟩
  obtain ⟨ao4, ac4, hv4⟩ := owns_shapeK o
  subst hv4
  have HBc4 := hide (HB3.out.later hb)
  have HRc4 := hide (HR3.out.later hb)
  have HAc4 := hide (HA3.out.trans (hb.mono HA3.out.size))
  have HO1c4 := hide (owns_later HO13.out hb)
  have HO2c4 := hide (owns_later HO23.out hb)
  have HO3c4 := hide (owns_later HO33.out hb)
  have HO4c4 := hide o
  have yy4 := hb.size
  have LT3 := hide (fun g hg => (HO33.out.lt g hg).2)
  clear o hb
  go_wp2_with (first
    | (refine wpList_store_slice (k := 9) rfl rfl rfl rfl HBc4.out rfl Try.sizeIntsR ?_; intro W4 hB hg; have HB4 := hide hB; have HR4 := hide (HRc4.out.grown hg (by simp)); have HA4 := hide (below_grownO HAc4.out hg (fun k hk => by cases hk; omega) HAc4.out.size); have HO14 := hide (owns_offB HO1c4.out hg (by omega)); have HO24 := hide (owns_offB HO2c4.out hg (by omega)); have HO34 := hide (owns_offB HO3c4.out hg (by omega)); have HO44 := hide (owns_offB HO4c4.out hg (by omega)); have zz4 := hg.size; clear hB hg)
    | (refine wpList_load_blk HB4.out Try.underlying25 rfl Try.sizeNode rfl rfl rfl ?_)
    | (refine wpList_store_blk rfl rfl rfl rfl HR4.out rfl Try.sizeNodeR rfl ?_; intro W9 hR9 hg9; have HR9 := hide hR9; have HG9 := hide hg9; clear hR9 hg9))
  refine bodyPost_ret (results1_cell Try.results31 rfl (run_loadVar_blk HR9.out Try.underlying52 rfl Try.sizeNodeR)) rfl ?_
  obtain ⟨lab, hnw, hlab⟩ := rows_label (x := ⟨n, id, te, vo, lo, ro, co, vs, ns, hs⟩) (owns_offB HO14.out HG9.out (by omega)) (owns_offB HO24.out HG9.out (by omega)) (owns_offB HO34.out HG9.out (by omega)) (owns_offB HO44.out HG9.out (by omega)) LT1.out LT2.out LT3.out (by omega) (by omega) (by omega)
  exact ⟨lab, _, _, _, _, rfl, hnw, fun g hg => hlab g (by omega), below_grownO HA4.out HG9.out (fun k hk => by cases hk; omega) HA4.out.size⟩

end Go.Proofs.Ytbffmdhogehfnaa

/-
  The walk over a node's stand.
-/
namespace Go.Proofs.Ytbffmdhogehfnaa
open Go.RowKit Go.Maps
set_option linter.unusedVariables false

set_option maxRecDepth 100000 in
set_option maxHeartbeats 4000000 in
theorem stand_any (B : Nat) (x : Nd) (lv vv nv hv : Value) (lab : Nat → Nat) (w : World) (hm : Nm w lab B x lv vv nv hv) (hn0 : 1 ≤ x.n) (hn7 : x.n ≤ 7) (hi0 : 0 ≤ x.id) (hin : x.id < x.n) (hll : x.log.length ≤ 1000) (hc0 : 0 ≤ x.com) (ht0 : 0 ≤ x.term) (ht1 : x.term ≤ 1000000000) :
    Calls Try.prog 32 #[.pointer (some ⟨B, 0, none⟩)] w fun e w' => ∃ lab' vv' nv' hv', e = .returned (.tuple #[]) ∧ Nm w' lab' B x.stand lv vv' nv' hv' ∧ Chg 0 w w' lab lab' (fun i => i ≠ 0) := by
  have HFO := hide (follow_any B x lv vv nv hv lab w hm)
  have HE : Hid (x.stand = x.stand0.elect x.id) := hide rfl
  have hw1 : IntKind.i64.wrap (x.term + 1) = x.term + 1 := by rw [IntKind.wrap_i64]; omega
  have hw2 : IntKind.i64.wrap (x.id + 1) = x.id + 1 := by rw [IntKind.wrap_i64]; omega
  clear hm
  go_enter Try.func32, Try.ntmps32
  go_wp2_with fail
  refine HFO.out.mono ?_
  rintro e w1 ⟨rfl, hN1, hC1⟩
  have HN1 := hide hN1
  have HC1 := hide hC1
  have HB1 := hide hN1.blk
  have c2 := hN1.blk.cell 2
  have c1 := hN1.blk.cell 1
  have cl := hN1.blk.lt
  simp [ndA, Nd.follow] at c1 c2
  unfold ndA Nd.follow at HB1
  clear hN1 hC1 HFO
  go_upto_region 4 with (first
    | (refine wpList_store_int (k := 2) rfl rfl rfl rfl HB1.out rfl Try.sizeIntR ?_; intro w2 hB2 hg2; have HB2 := hide hB2; have HG2 := hide hg2; have d1 := hB2.cell 1; have dl := hB2.lt; simp at d1; clear hB2 hg2)
    | (refine wpList_store_int (k := 3) rfl rfl rfl rfl HB2.out rfl Try.sizeIntR ?_; intro w3 hB3 hg3; have HB3 := hide hB3; have HG3 := hide (grown_same HG2.out hg3); clear hB3 hg3)
    | (refine wpList_store_int (k := 5) rfl rfl rfl rfl HB3.out rfl Try.sizeIntR ?_; intro w4 hB4 hg4; have e1 := hB4.cell 1; have el := hB4.lt; simp at e1; have HB4 := hide hB4; have HG4 := hide (grown_same HG3.out hg4); clear hB4 hg4))
  obtain ⟨hN4, hC4⟩ := HN1.out.wrote (y := x.stand0) HG4.out HB4.out rfl (.inl ⟨rfl, rfl⟩) (.inl ⟨rfl, rfl⟩) (.inl ⟨rfl, rfl⟩)
  have HC4 := hide (HC1.out.trans hC4)
  have HEL := hide (elect_any B x.stand0 x.id _ _ _ _ lab w4 hN4 hn0 hn7 hi0 hin hll hc0 (by simp [Nd.stand0]))
  clear hN4 hC4 c1 c2 d1
  go_wp2_with (go_at_call 64; refine HEL.out.mono ?_; rintro e w9 ⟨lab9, vv9, nv9, hv9, rfl, hN9, hC9⟩; have HN9 := hide hN9; have HC9 := hide hC9; clear hN9 hC9)
  refine bodyPost_end (v := .tuple #[]) (by simp [results, Try.results32]) rfl ?_
  rw [HE.out]
  exact ⟨_, _, _, _, rfl, HN9.out, (HC4.out.mono (fun i hi => (by omega : i ≠ 0))).trans HC9.out⟩

end Go.Proofs.Ytbffmdhogehfnaa

/-
  The walk over a node's propose.
-/
namespace Go.Proofs.Ytbffmdhogehfnaa
open Go.RowKit Go.Maps
set_option linter.unusedVariables false

theorem RdG.oneE (w : World) (e : Et) : RdG eE (w.alloc (.cells #[.int .i64 e.term, .string e.text] 65)) (.slice (some ⟨w.heap.size, 0, none⟩) 1 1) [e] := RdG.newL w [e] _ _ rfl (by simp)

/-- A place of a row of numbers. -/
theorem Row.atI {w : World} {lab : Nat → Nat} {i : Nat} {v : Value} {l : List Int} (h : Row w lab i 3 1 v l.length (iE.vs l)) {k : Nat} {u : Int} (hk : l[k]? = some u) :
    ∃ g cap, v = .slice (some ⟨g, 0, none⟩) l.length cap ∧ g < w.heap.size ∧ w.cell? ⟨g, k, none⟩ = some (.int .i64 u) ∧ w.frozen? ⟨g, k, none⟩ = false := by
  have hl := (List.getElem?_eq_some_iff.1 hk).1
  obtain ⟨g, cap, cur, rfl, hb, hg, h1, h2, h3, h4⟩ := owns_pos h.1 (by omega)
  obtain ⟨b, off, e, hb2, q⟩ := (RdG.ofOwns h.1).hereI hk
  cases e
  rw [Nat.zero_add] at q
  exact ⟨g, cap, rfl, hb2, q, Blk.frozen (w := w) (B := g) (t := 3) hg k⟩

set_option maxRecDepth 100000 in
set_option maxHeartbeats 4000000 in
theorem propose_any (B : Nat) (x : Nd) (tx : ByteArray) (lv vv nv hv : Value) (lab : Nat → Nat) (w : World) (hm : Nm w lab B x lv vv nv hv) (hn0 : 1 ≤ x.n) (hn7 : x.n ≤ 7) (hi0 : 0 ≤ x.id) (hin : x.id < x.n) (hll : x.log.length ≤ 900) (hc0 : 0 ≤ x.com) (hnx : (x.next.length : Int) = x.n) (hha : (x.hav.length : Int) = x.n) :
    Calls Try.prog 35 #[.pointer (some ⟨B, 0, none⟩), .string tx] w fun e w' => ∃ lab' lv', e = .returned (.tuple #[]) ∧ Nm w' lab' B (x.prop tx) lv' vv nv hv ∧ Chg 0 w w' lab lab' (fun i => i ≠ 0) := by
  have HM := hide hm
  obtain ⟨lo, lc, hlv⟩ := owns_shapeK hm.log.1
  subst hlv
  have c2 := hm.blk.cell 2
  have c4 := hm.blk.cell 4
  have bl := hm.blk.lt
  simp [ndA] at c2 c4
  have HB := hide hm.blk
  unfold ndA at HB
  have HL2 := hide (show x.log.length + [(⟨x.term, tx⟩ : Et)].length ≤ 1000000000 by simp; omega)
  have HON := hide (show (w.alloc (.cells #[.int .i64 x.term, .string tx] 65)).drew.ownsRow 0 65 2 _ _ _ from hm.log.1.alloc (.cells #[.int .i64 x.term, .string tx] 65))
  have HRO := hide (RdG.oneE w ⟨x.term, tx⟩).drew
  have HBA := hide (HB.out.later (Below.drew (below_allocG w (.cells #[.int .i64 x.term, .string tx] 65))))
  have HOF := hide (owns_off HON.out HBA.out (by decide))
  clear hm
  go_enter Try.func35, Try.ntmps35
  go_upto_region 0 with fail
  go_cut [18] (fun _ wc => ∃ lab1 lv1, Nm wc lab1 B { x with log := x.log ++ [⟨x.term, tx⟩] } lv1 vv nv hv ∧ Chg 0 w wc lab lab1 (fun i => i ≠ 0))
  case first =>
    go_region_law (refine step_append_rdAt (E := eE) (cs := x.log) (news := [⟨x.term, tx⟩]) (by exact HON.out) (by exact HRO.out) Try.underlying22 infoEntry rfl (by rfl) (by rfl) (by rfl) (by rfl) (by exact HL2.out) (by decide) (Nat.zero_le _) ?_; intro v5 w5 ho5 hg5 hat5; obtain ⟨ao5, cap5, hv5⟩ := owns_shapeK ho5; subst hv5; have hB5 := HBA.out.grown hg5 (fun q => HOF.out q.symm); have k4 := hB5.cell 4; have kz := hB5.frozen 4; have kl := hB5.lt; simp at k4)
    all_goals
      have hb1 : Below w.heap.size w (w.alloc (.cells #[.int .i64 x.term, .string tx] 65)).drew := Below.drew (below_allocG w (.cells #[.int .i64 x.term, .string tx] 65))
      have ho6 : w5.ownsRow 0 65 2 (.slice ao5 (x.log.length + 1) cap5) (x.log ++ [(⟨x.term, tx⟩ : Et)]).length (eE.vs (x.log ++ [(⟨x.term, tx⟩ : Et)])) := by rw [List.length_append]; exact ho5
      obtain ⟨hN6, hC6⟩ := HM.out.appLog (l := x.log ++ [⟨x.term, tx⟩]) hb1 ho6 hg5 hat5 (grown_setCell w5 B 4 (.slice ao5 (x.log.length + 1) cap5)) (hB5.set 4 (.slice ao5 (x.log.length + 1) cap5))
      have HN6 := hide hN6
      have HC6 := hide hC6
      clear hN6 hC6 ho6 ho5 hg5 hat5 hB5 k4 kz kl c2 c4 hb1
      generalize w5.setCell ⟨B, 4, none⟩ (.slice ao5 (x.log.length + 1) cap5) = wz at HN6 HC6 ⊢
      go_wp2_with fail
      go_meet
      case rel => exact ⟨_, _, HN6.out, HC6.out.mono (fun i hi => (by omega : i ≠ 0))⟩
  case rest =>
    obtain ⟨lab1, lv1, hN1, hC1⟩ := hcut
    clear HON HRO HBA HOF HB c2 c4 bl HL2 HM
    obtain ⟨I, hI⟩ : ∃ I : Nat, x.id = I := ⟨x.id.toNat, by omega⟩
    obtain ⟨u, hu⟩ : ∃ u, x.hav[I]? = some u := ⟨_, List.getElem?_eq_getElem (by omega)⟩
    obtain ⟨u2, hu2⟩ : ∃ u, x.next[I]? = some u := ⟨_, List.getElem?_eq_getElem (by omega)⟩
    obtain ⟨g, gcap, rfl, gl, gc, gz⟩ := hN1.hav.atI hu
    obtain ⟨g2, gcap2, rfl, _, _, _⟩ := hN1.nxt.atI hu2
    obtain ⟨lo1, lc1, hl1⟩ := owns_shapeK hN1.log.1
    have hl1' : lv1 = .slice lo1 (x.log.length + 1) lc1 := by rw [hl1]; simp
    subst hl1'
    have HN1 := hide hN1
    have HC1 := hide hC1
    have HII := hide hI
    have e1 := hN1.blk.cell 1
    have e4 := hN1.blk.cell 4
    have e9 := hN1.blk.cell 9
    have el := hN1.blk.lt
    simp [ndA] at e1 e4 e9
    rw [hI] at e1
    have hk1 : (0 : Int) ≤ (I : Int) := by omega
    have hk2 : (I : Int) < (x.hav.length : Int) := by omega
    have hk3 : (I : Int) < (x.next.length : Int) := by omega
    have HU2 := hide hu2
    clear hN1 hC1 hl1 hI hu hu2
    go_upto_region 1 with fail
    go_cut [38] (fun _ wd => Nm wd lab1 B { x with log := x.log ++ [⟨x.term, tx⟩], hav := x.hav.set I ((x.log.length : Int) + 1) } (.slice lo1 (x.log.length + 1) lc1) vv (.slice (some ⟨g2, 0, none⟩) x.next.length gcap2) (.slice (some ⟨g, 0, none⟩) x.hav.length gcap) ∧ Chg 0 w wd lab lab1 (fun i => i ≠ 0))
    case first =>
      go_region
      all_goals
        obtain ⟨hN7, hC7⟩ := HN1.out.setHave I ((x.log.length : Int) + 1)
        have hD : Below (wc.setCell ⟨g, I, none⟩ (.int .i64 ((x.log.length : Int) + 1))).heap.size (wc.setCell ⟨g, I, none⟩ (.int .i64 ((x.log.length : Int) + 1))) (wc.setCell ⟨g, I, none⟩ (.int .i64 ((x.log.length : Int) + 1))).drew := Below.drew (Below.refl _ _)
        have HN8 := hide (hN7.below hD)
        have HC8 := hide ((HC1.out.trans (hC7.mono (fun i hi => (by omega : i ≠ 0)))).trans (Chg.below _ hN7.ok hD))
        simp only at HN8
        clear hN7 hC7 hD
        generalize (wc.setCell ⟨g, I, none⟩ (.int .i64 ((x.log.length : Int) + 1))).drew = wz at HN8 HC8 ⊢
        go_wp2_with fail
        go_meet
        case rel => exact ⟨HN8.out, HC8.out⟩
    case rest =>
      obtain ⟨hN2, hC2⟩ := hcut
      obtain ⟨g3, gcap3, hq3, g3l, g3c, g3z⟩ := hN2.nxt.atI HU2.out
      simp only [Value.slice.injEq, Option.some.injEq, Addr.mk.injEq] at hq3
      obtain ⟨⟨rfl, _, _⟩, _, rfl⟩ := hq3
      have HN2 := hide hN2
      have HC2 := hide hC2
      have f1 := hN2.blk.cell 1
      have f4 := hN2.blk.cell 4
      have f8 := hN2.blk.cell 8
      have fl := hN2.blk.lt
      simp [ndA] at f1 f4 f8
      rw [HII.out] at f1
      have hw1 : IntKind.i64.wrap ((x.log.length : Int) + 1 + 1) = (x.log.length : Int) + 1 + 1 := by rw [IntKind.wrap_i64]; omega
      clear hN2 hC2 e1 e4 e9 gc gz
      go_upto_region 2 with fail
      go_cut [56] (fun _ wd => Nm wd lab1 B { x with log := x.log ++ [⟨x.term, tx⟩], hav := x.hav.set I ((x.log.length : Int) + 1), next := x.next.set I ((x.log.length : Int) + 1 + 1) } (.slice lo1 (x.log.length + 1) lc1) vv (.slice (some ⟨g2, 0, none⟩) x.next.length gcap2) (.slice (some ⟨g, 0, none⟩) x.hav.length gcap) ∧ Chg 0 w wd lab lab1 (fun i => i ≠ 0))
      case first =>
        go_region
        all_goals
          obtain ⟨hN7, hC7⟩ := HN2.out.setNext I ((x.log.length : Int) + 1 + 1)
          have hD : Below (wc.setCell ⟨g2, I, none⟩ (.int .i64 ((x.log.length : Int) + 1 + 1))).heap.size (wc.setCell ⟨g2, I, none⟩ (.int .i64 ((x.log.length : Int) + 1 + 1))) (wc.setCell ⟨g2, I, none⟩ (.int .i64 ((x.log.length : Int) + 1 + 1))).drew := Below.drew (Below.refl _ _)
          have HN8 := hide (hN7.below hD)
          have HC8 := hide ((HC2.out.trans (hC7.mono (fun i hi => (by omega : i ≠ 0)))).trans (Chg.below _ hN7.ok hD))
          simp only at HN8
          clear hN7 hC7 hD
          generalize (wc.setCell ⟨g2, I, none⟩ (.int .i64 ((x.log.length : Int) + 1 + 1))).drew = wz at HN8 HC8 ⊢
          go_wp2_with fail
          go_meet
          case rel => exact ⟨HN8.out, HC8.out⟩
      case rest =>
        obtain ⟨hN3, hC3⟩ := hcut
        have HE := hide (show ({ x with log := x.log ++ [⟨x.term, tx⟩], hav := x.hav.set I ((x.log.length : Int) + 1), next := x.next.set I ((x.log.length : Int) + 1 + 1) } : Nd) = x.prop0 tx by
          have e2 : I = x.id.toNat := by rw [HII.out]; rfl
          rw [e2]
          rfl)
        have HL : Hid (x.prop tx = (x.prop0 tx).count) := hide rfl
        rw [HE.out] at hN3
        have HC3 := hide hC3
        have HCO := hide (count_any B (x.prop0 tx) _ _ _ _ lab1 _ hN3 (show 0 ≤ x.n by omega) (show x.n ≤ 1000 by omega) (by simp [Nd.prop0]; omega) (by simp [Nd.prop0]; omega) hc0)
        clear hN3 hC3 f1 f4 f8 g3c g3z HN2 HC2
        go_wp2_with (go_at_call 67; refine HCO.out.mono ?_; rintro e w9 ⟨rfl, hN9, hC9⟩; have HN9 := hide hN9; have HC9 := hide hC9; clear hN9 hC9)
        refine bodyPost_end (v := .tuple #[]) (by simp [results, Try.results35]) rfl ?_
        rw [HL.out]
        exact ⟨rfl, _, ⟨_, HN9.out⟩, HC3.out.trans (HC9.out.mono (fun i hi => (by omega : i ≠ 0)))⟩

end Go.Proofs.Ytbffmdhogehfnaa

/-
  The walks over toOthers with each of the functions that fill mails; askForVotes and beat. (Written by rm4.py.)
-/
namespace Go.Proofs.Ytbffmdhogehfnaa
open Go.RowKit Go.Maps
set_option linter.unusedVariables false

theorem othGo_skip {id : Int} {f : Nat → Ml} {k : Nat} (h : (k : Int) = id) : othGo id f (k + 1) = othGo id f k := by rw [othGo, if_pos h, List.append_nil]
theorem othGo_one {id : Int} {f : Nat → Ml} {k : Nat} (h : ¬ (k : Int) = id) : othGo id f (k + 1) = othGo id f k ++ [f k] := by rw [othGo, if_neg h]

theorem RdG.oneM (w : World) (f : Mf) : RdG mfE (w.alloc (.cells (mfE.v f).toArray 44)) (.slice (some ⟨w.heap.size, 0, none⟩) 1 1) [f] := RdG.newL w [f] _ _ (by rw [vs_one1]) (by simp)

set_option maxRecDepth 100000 in
set_option maxHeartbeats 8000000 in
theorem toAsk_any (Y B : Nat) (x : Nd) (lv vv nv hv : Value) (w : World) (hm : Nr w B x lv vv nv hv) (hY : w.cell? ⟨Y, 0, none⟩ = some (.pointer (some ⟨B, 0, none⟩))) (hn0 : 0 ≤ x.n) (hn7 : x.n ≤ 7) :
    Calls Try.prog 65 #[.pointer (some ⟨B, 0, none⟩), .int .i64 1, .func (.func 66) #[] #[.pointer (some ⟨Y, 0, none⟩)]] w fun e w' => ∃ v', e = .returned v' ∧ OwM w' w.heap.size v' (othGo x.id (askM x) x.n.toNat) ∧ Below w.heap.size w w' := by
  have HM := hide hm
  have HY := hide hY
  obtain ⟨N, hN⟩ : ∃ N : Nat, x.n = N := ⟨x.n.toNat, by omega⟩
  have HN := hide hN
  have c0 := hm.blk.cell 0
  have bl := hm.blk.lt
  have yl : Y < w.heap.size := World.block_lt_of_cell? w _ hY
  simp [ndA] at c0
  rw [hN] at c0
  have hN7 : N ≤ 7 := by omega
  rw [show x.n.toNat = N by rw [hN]; rfl]
  clear hm hY hN
  go_enter Try.func65, Try.ntmps65
  go_wp2_with fail
  go_loopw [7, 15] (fun ov iv wr => ∃ k : Nat, k ≤ N ∧ iv = .int .i64 k ∧ OwM wr w.heap.size ov (othGo x.id (askM x) k) ∧ Below w.heap.size w wr)
    (fun _ iv _ => N - (intOf iv).toNat)
  case atStart => exact ⟨0, by omega, rfl, OwM.nil _ _, Below.refl _ _⟩
  case round =>
    obtain ⟨k, hk, rfl, how, hbr⟩ := hrel
    have HOW := hide how
    have HBR := hide hbr
    obtain ⟨fs, hrow, hmap, hents⟩ := how
    obtain ⟨oo, oc, hov⟩ := owns_shapeK hrow
    subst hov
    have d1 := (HM.out.blk.later hbr).cell 1
    have bl1 : B < wr.heap.size := Nat.lt_of_lt_of_le bl hbr.size
    simp [ndA] at d1
    by_cases hlt : k < N
    · have hd : decide ((k : Int) < (N : Int)) = true := decide_eq_true (by omega)
      by_cases hid : (k : Int) = x.id
      · have hq : ((k : Int) == x.id) = true := beq_iff_eq.2 hid
        have HS := hide (othGo_skip (f := askM x) hid)
        clear hid hrow hmap hents hbr
        go_wp2_with fail
        go_roundw
        case rel => exact ⟨k + 1, by omega, by go_num, by rw [HS.out]; exact HOW.out, HBR.out⟩
        case measure => simp [intOf]; omega
      · have hq : ((k : Int) == x.id) = false := beq_eq_false_iff_ne.2 hid
        have HS := hide (othGo_one (f := askM x) hid)
        have hfl : fs.length ≤ 100 := by
          have h1 : fs.length = (othGo x.id (askM x) k).length := by rw [← hmap, List.length_map]
          have h2 : ∀ j, (othGo x.id (askM x) j).length ≤ j := by
            intro j
            induction j with
            | zero => simp [othGo]
            | succ j ih => rw [othGo]; split <;> simp <;> omega
          have := h2 k
          omega
        have HML := hide (mail_any B x 1 k lv vv nv hv wr (HM.out.below hbr))
        have HROW := hide hrow
        have HMAP := hide hmap
        have HENT := hide hents
        clear hid hrow hmap hents hbr
        go_wp2_with fail
        refine HML.out.mono ?_
        rintro e w1 ⟨rfl, hb1⟩
        unfold mlA
        have hM1 := Blk.new w1 44 #[.int .i64 1, .int .i64 x.id, .int .i64 k, .int .i64 x.term, .int .i64 0, .int .i64 0, .int .i64 0, .slice none 0 0, .bool false]
        have hbA := hb1.trans ((below_allocG w1 (.cells #[.int .i64 1, .int .i64 x.id, .int .i64 k, .int .i64 x.term, .int .i64 0, .int .i64 0, .int .i64 0, .slice none 0 0, .bool false] 44)).mono hb1.size)
        have hFA : FlAt wr (w1.alloc (.cells #[.int .i64 1, .int .i64 x.id, .int .i64 k, .int .i64 x.term, .int .i64 0, .int .i64 0, .int .i64 0, .slice none 0 0, .bool false] 44)) Y B w1.heap.size x lv vv nv hv := ⟨HM.out.below HBR.out, cell_belowG HY.out HBR.out, hbA, hb1.size⟩
        have HFI := hide (askFill_any wr Y B w1.heap.size x lv vv nv hv (mailN x 1 k) (.slice none 0 0) _ hFA hM1)
        have HBA := hide hbA
        have hz1 := hb1.size
        clear hM1 hFA hbA hb1 HML
        go_wp2_with fail
        refine HFI.out.mono ?_
        rintro e w2 ⟨rfl, hM2, hG2⟩
        obtain ⟨eo, el, ec, hee⟩ : ∃ eo el ec, (Value.slice none 0 0) = .slice eo el ec := ⟨none, 0, 0, rfl⟩
        have hev2 : w2.ownsRow w.heap.size 65 2 (.slice eo el ec) (askM x k).ents.length (eE.vs (askM x k).ents) := by rw [← hee]; exact World.ownsRow_nil _ _ _ _
        rw [hee] at hM2
        clear hee
        have hbw2 : Below wr.heap.size wr w2 := below_grownO HBA.out hG2 (fun j hj => by cases hj; exact hz1) HBA.out.size
        have HB2 := hide (HBR.out.trans (hbw2.mono HBR.out.size))
        have hro2 := owns_later HROW.out hbw2
        have hen2 := fun f hf => owns_later (HENT.out f hf) hbw2
        have HM2 := hide hM2
        have HEV := hide hev2
        have HRA := hide (hro2.alloc (.cells (mfE.v ⟨askM x k, ⟨eo, el, ec⟩⟩).toArray 44))
        have HRO := hide (RdG.oneM w2 ⟨askM x k, ⟨eo, el, ec⟩⟩)
        have HEN := hide hen2
        have hl2 := hide (show fs.length + [(⟨askM x k, ⟨eo, el, ec⟩⟩ : Mf)].length ≤ 1000000000 by simp; omega)
        have HS2 := hide HB2.out.size
        unfold mlA at HM2
        clear hM2 hev2 hro2 hen2 hG2 hbw2
        go_wp2_with (first
          | (refine wpList_load_blk HM2.out Try.underlying44 rfl Try.sizeMail rfl rfl rfl ?_)
          | (at_builtin; go_must (refine wpList_append_rdAt (E := mfE) (cs := fs) (news := [⟨askM x k, ⟨eo, el, ec⟩⟩]) HRA.out HRO.out Try.underlying32 infoMail rfl rfl rfl rfl rfl hl2.out (by decide) (Nat.le_trans HS2.out (by simp)) ?_); intro v5 w5 ho5 hg5 hat5; have HO5 := hide ho5; have HG5 := hide hg5; clear ho5 hg5 hat5))
        go_roundw
        case rel =>
          have hbA2 := below_allocG w2 (.cells (mfE.v ⟨askM x k, ⟨eo, el, ec⟩⟩).toArray 44)
          refine ⟨k + 1, by omega, by go_num, ⟨fs ++ [⟨askM x k, ⟨eo, el, ec⟩⟩], by rw [List.length_append]; exact HO5.out, by rw [List.map_append, HMAP.out, HS.out]; rfl, fun f hf => ?_⟩, ?_⟩
          · have key : ∀ {v : Value} {n : Nat} {xs : List Value}, w2.ownsRow w.heap.size 65 2 v n xs → w5.ownsRow w.heap.size 65 2 v n xs := fun h => owns_grownO (owns_later h hbA2) HG5.out (owns_ne (owns_later h hbA2) HRA.out (by decide))
            rcases List.mem_append.1 hf with hf | hf
            · exact key (HEN.out f hf)
            · obtain rfl := List.mem_singleton.1 hf
              exact key HEV.out
          · refine below_grownO (HB2.out.trans (hbA2.mono HB2.out.size)) HG5.out (fun j hj => ?_) (by simp; have := HS2.out; omega)
            exact (HRA.out.lt j hj).1
        case measure => simp [intOf]; omega
    · have hd : decide ((k : Int) < (N : Int)) = false := decide_eq_false (by omega)
      obtain rfl : k = N := by omega
      clear hrow hmap hents hbr
      go_wp2_with fail
      go_ret
      exact ⟨_, rfl, HOW.out, HBR.out⟩

set_option maxRecDepth 100000 in
set_option maxHeartbeats 8000000 in
theorem toBeat_any (Y B : Nat) (x : Nd) (lv vv nv hv : Value) (w : World) (hm : Nr w B x lv vv nv hv) (hY : w.cell? ⟨Y, 0, none⟩ = some (.pointer (some ⟨B, 0, none⟩))) (hn0 : 0 ≤ x.n) (hn7 : x.n ≤ 7) (hll : x.log.length ≤ 1000) (hnl : (x.next.length : Int) = x.n) (hnx : ∀ u ∈ x.next, 1 ≤ u ∧ u ≤ x.log.length + 1) :
    Calls Try.prog 65 #[.pointer (some ⟨B, 0, none⟩), .int .i64 3, .func (.func 68) #[] #[.pointer (some ⟨Y, 0, none⟩)]] w fun e w' => ∃ v', e = .returned v' ∧ OwM w' w.heap.size v' (othGo x.id (beatM x) x.n.toNat) ∧ Below w.heap.size w w' := by
  have HM := hide hm
  have HY := hide hY
  obtain ⟨N, hN⟩ : ∃ N : Nat, x.n = N := ⟨x.n.toNat, by omega⟩
  have HN := hide hN
  have c0 := hm.blk.cell 0
  have bl := hm.blk.lt
  have yl : Y < w.heap.size := World.block_lt_of_cell? w _ hY
  simp [ndA] at c0
  rw [hN] at c0
  have hN7 : N ≤ 7 := by omega
  rw [show x.n.toNat = N by rw [hN]; rfl]
  clear hm hY hN
  go_enter Try.func65, Try.ntmps65
  go_wp2_with fail
  go_loopw [7, 15] (fun ov iv wr => ∃ k : Nat, k ≤ N ∧ iv = .int .i64 k ∧ OwM wr w.heap.size ov (othGo x.id (beatM x) k) ∧ Below w.heap.size w wr)
    (fun _ iv _ => N - (intOf iv).toNat)
  case atStart => exact ⟨0, by omega, rfl, OwM.nil _ _, Below.refl _ _⟩
  case round =>
    obtain ⟨k, hk, rfl, how, hbr⟩ := hrel
    have HOW := hide how
    have HBR := hide hbr
    obtain ⟨fs, hrow, hmap, hents⟩ := how
    obtain ⟨oo, oc, hov⟩ := owns_shapeK hrow
    subst hov
    have d1 := (HM.out.blk.later hbr).cell 1
    have bl1 : B < wr.heap.size := Nat.lt_of_lt_of_le bl hbr.size
    simp [ndA] at d1
    by_cases hlt : k < N
    · have hd : decide ((k : Int) < (N : Int)) = true := decide_eq_true (by omega)
      by_cases hid : (k : Int) = x.id
      · have hq : ((k : Int) == x.id) = true := beq_iff_eq.2 hid
        have HS := hide (othGo_skip (f := beatM x) hid)
        clear hid hrow hmap hents hbr
        go_wp2_with fail
        go_roundw
        case rel => exact ⟨k + 1, by omega, by go_num, by rw [HS.out]; exact HOW.out, HBR.out⟩
        case measure => simp [intOf]; omega
      · have hq : ((k : Int) == x.id) = false := beq_eq_false_iff_ne.2 hid
        have HS := hide (othGo_one (f := beatM x) hid)
        have hfl : fs.length ≤ 100 := by
          have h1 : fs.length = (othGo x.id (beatM x) k).length := by rw [← hmap, List.length_map]
          have h2 : ∀ j, (othGo x.id (beatM x) j).length ≤ j := by
            intro j
            induction j with
            | zero => simp [othGo]
            | succ j ih => rw [othGo]; split <;> simp <;> omega
          have := h2 k
          omega
        obtain ⟨nx, hnx0⟩ : ∃ u, x.next[k]? = some u := ⟨_, List.getElem?_eq_getElem (by have := HN.out; omega)⟩
        have HNX := hide hnx0
        have HNB := hide (hnx nx (List.mem_of_getElem? hnx0))
        have HML := hide (mail_any B x 3 k lv vv nv hv wr (HM.out.below hbr))
        have HROW := hide hrow
        have HMAP := hide hmap
        have HENT := hide hents
        clear hid hrow hmap hents hbr
        go_wp2_with fail
        refine HML.out.mono ?_
        rintro e w1 ⟨rfl, hb1⟩
        unfold mlA
        have hM1 := Blk.new w1 44 #[.int .i64 3, .int .i64 x.id, .int .i64 k, .int .i64 x.term, .int .i64 0, .int .i64 0, .int .i64 0, .slice none 0 0, .bool false]
        have hbA := hb1.trans ((below_allocG w1 (.cells #[.int .i64 3, .int .i64 x.id, .int .i64 k, .int .i64 x.term, .int .i64 0, .int .i64 0, .int .i64 0, .slice none 0 0, .bool false] 44)).mono hb1.size)
        have hFA : FlAt wr (w1.alloc (.cells #[.int .i64 3, .int .i64 x.id, .int .i64 k, .int .i64 x.term, .int .i64 0, .int .i64 0, .int .i64 0, .slice none 0 0, .bool false] 44)) Y B w1.heap.size x lv vv nv hv := ⟨HM.out.below HBR.out, cell_belowG HY.out HBR.out, hbA, hb1.size⟩
        have HFI := hide (beatFill_any wr Y B w1.heap.size k x lv vv nv hv (mailN x 3 k) (.slice none 0 0) _ _ hFA hM1 rfl HNX.out HNB.out.1 HNB.out.2 hll)
        have HBA := hide hbA
        have HBA2 := hide (Nat.le_trans HBR.out.size hbA.size)
        have hz1 := hb1.size
        clear hM1 hFA hbA hb1 HML
        go_wp2_with fail
        refine HFI.out.mono ?_
        rintro e w2 ⟨ev2, rfl, hM2, hev0, hG2⟩
        obtain ⟨eo, ec, hee⟩ := owns_shapeK hev0
        subst hee
        have hev3 := owns_baseR hev0 (b2 := w.heap.size) HBA2.out
        generalize hel : ((x.log.drop (nxA x k)).take 5).length = el at *
        have hev2 : w2.ownsRow w.heap.size 65 2 (.slice eo el ec) (beatM x k).ents.length (eE.vs (beatM x k).ents) := by rw [show (beatM x k).ents.length = el from hel]; exact hev3
        clear hel hev3 hev0
        have hbw2 : Below wr.heap.size wr w2 := below_grownO HBA.out hG2 (fun j hj => by cases hj; exact hz1) HBA.out.size
        have HB2 := hide (HBR.out.trans (hbw2.mono HBR.out.size))
        have hro2 := owns_later HROW.out hbw2
        have hen2 := fun f hf => owns_later (HENT.out f hf) hbw2
        have HM2 := hide hM2
        have HEV := hide hev2
        have HRA := hide (hro2.alloc (.cells (mfE.v ⟨beatM x k, ⟨eo, el, ec⟩⟩).toArray 44))
        have HRO := hide (RdG.oneM w2 ⟨beatM x k, ⟨eo, el, ec⟩⟩)
        have HEN := hide hen2
        have hl2 := hide (show fs.length + [(⟨beatM x k, ⟨eo, el, ec⟩⟩ : Mf)].length ≤ 1000000000 by simp; omega)
        have HS2 := hide HB2.out.size
        unfold mlA at HM2
        clear hM2 hev2 hro2 hen2 hG2 hbw2
        go_wp2_with (first
          | (refine wpList_load_blk HM2.out Try.underlying44 rfl Try.sizeMail rfl rfl rfl ?_)
          | (at_builtin; go_must (refine wpList_append_rdAt (E := mfE) (cs := fs) (news := [⟨beatM x k, ⟨eo, el, ec⟩⟩]) HRA.out HRO.out Try.underlying32 infoMail rfl rfl rfl rfl rfl hl2.out (by decide) (Nat.le_trans HS2.out (by simp)) ?_); intro v5 w5 ho5 hg5 hat5; have HO5 := hide ho5; have HG5 := hide hg5; clear ho5 hg5 hat5))
        go_roundw
        case rel =>
          have hbA2 := below_allocG w2 (.cells (mfE.v ⟨beatM x k, ⟨eo, el, ec⟩⟩).toArray 44)
          refine ⟨k + 1, by omega, by go_num, ⟨fs ++ [⟨beatM x k, ⟨eo, el, ec⟩⟩], by rw [List.length_append]; exact HO5.out, by rw [List.map_append, HMAP.out, HS.out]; rfl, fun f hf => ?_⟩, ?_⟩
          · have key : ∀ {v : Value} {n : Nat} {xs : List Value}, w2.ownsRow w.heap.size 65 2 v n xs → w5.ownsRow w.heap.size 65 2 v n xs := fun h => owns_grownO (owns_later h hbA2) HG5.out (owns_ne (owns_later h hbA2) HRA.out (by decide))
            rcases List.mem_append.1 hf with hf | hf
            · exact key (HEN.out f hf)
            · obtain rfl := List.mem_singleton.1 hf
              exact key HEV.out
          · refine below_grownO (HB2.out.trans (hbA2.mono HB2.out.size)) HG5.out (fun j hj => ?_) (by simp; have := HS2.out; omega)
            exact (HRA.out.lt j hj).1
        case measure => simp [intOf]; omega
    · have hd : decide ((k : Int) < (N : Int)) = false := decide_eq_false (by omega)
      obtain rfl : k = N := by omega
      clear hrow hmap hents hbr
      go_wp2_with fail
      go_ret
      exact ⟨_, rfl, HOW.out, HBR.out⟩

set_option maxRecDepth 100000 in
set_option maxHeartbeats 2000000 in
theorem askForVotes_any (B : Nat) (x : Nd) (lv vv nv hv : Value) (w : World) (hm : Nr w B x lv vv nv hv) (hn0 : 0 ≤ x.n) (hn7 : x.n ≤ 7) :
    Calls Try.prog 33 #[.pointer (some ⟨B, 0, none⟩)] w fun e w' => ∃ v', e = .returned v' ∧ OwM w' w.heap.size v' x.asks ∧ Below w.heap.size w w' := by
  have hA := below_allocG w (.cells #[.pointer (some ⟨B, 0, none⟩)] 76)
  have hY := (Blk.new w 76 #[.pointer (some ⟨B, 0, none⟩)]).cell 0
  have HT := hide (toAsk_any w.heap.size B x lv vv nv hv _ (hm.below hA) hY hn0 hn7)
  have HA := hide hA
  clear hm hY hA
  go_enter Try.func33, Try.ntmps33
  go_wp2_with (go_at_call 65; refine HT.out.mono ?_; rintro e w9 ⟨v9, rfl, ho9, hb9⟩; have HO9 := hide ho9; have HB9 := hide hb9; clear ho9 hb9)
  go_ret
  exact ⟨_, rfl, HO9.out.base HA.out.size, HA.out.trans (HB9.out.mono HA.out.size)⟩

set_option maxRecDepth 100000 in
set_option maxHeartbeats 2000000 in
theorem beat_any (B : Nat) (x : Nd) (lv vv nv hv : Value) (w : World) (hm : Nr w B x lv vv nv hv) (hn0 : 0 ≤ x.n) (hn7 : x.n ≤ 7) (hll : x.log.length ≤ 1000) (hnl : (x.next.length : Int) = x.n) (hnx : ∀ u ∈ x.next, 1 ≤ u ∧ u ≤ x.log.length + 1) :
    Calls Try.prog 37 #[.pointer (some ⟨B, 0, none⟩)] w fun e w' => ∃ v', e = .returned v' ∧ OwM w' w.heap.size v' x.beats ∧ Below w.heap.size w w' := by
  have hA := below_allocG w (.cells #[.pointer (some ⟨B, 0, none⟩)] 76)
  have hY := (Blk.new w 76 #[.pointer (some ⟨B, 0, none⟩)]).cell 0
  have HT := hide (toBeat_any w.heap.size B x lv vv nv hv _ (hm.below hA) hY hn0 hn7 hll hnl hnx)
  have HA := hide hA
  clear hm hY hA
  go_enter Try.func37, Try.ntmps37
  go_wp2_with (go_at_call 65; refine HT.out.mono ?_; rintro e w9 ⟨v9, rfl, ho9, hb9⟩; have HO9 := hide ho9; have HB9 := hide hb9; clear ho9 hb9)
  go_ret
  exact ⟨_, rfl, HO9.out.base HA.out.size, HA.out.trans (HB9.out.mono HA.out.size)⟩

end Go.Proofs.Ytbffmdhogehfnaa
