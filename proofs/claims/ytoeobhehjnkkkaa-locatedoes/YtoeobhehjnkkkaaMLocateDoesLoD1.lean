/-
  Texts joined: LoD1.
-/
import Derived.Test.YtoeobhehjnkkkaaMLocateDoesLoB
import Derived.Test.YtoeobhehjnkkkaaMLocateDoesLoR3
/-
  The walk over the statement LocateDoes. (Written by lold.py.)
-/
namespace Go.Proofs.Ytoeobhehjnkkkaa
open Go.RowKit Go.Maps
set_option linter.unusedVariables false

theorem appNilK (P : Program) : True := trivial

set_option maxRecDepth 100000 in
set_option maxHeartbeats 1000000 in
theorem ownKnown_any {l : List Kn} (v : Value) (w : World) (hv : RdG knE w v l) (hl : l.length ≤ 1000) :
    Calls Try.prog 21 #[v] w fun e w' => ∃ v', e = .returned v' ∧ w'.ownsRow w.heap.size 61 5 v' l.length (knE.vs l) ∧ Below w.heap.size w w' := by
  obtain ⟨ao, cap, rfl, hc1, hc2⟩ := hv.shape
  have HV := hide hv
  have hl2 : 0 + l.length ≤ 1000000000 := by omega
  have HO := hide (World.ownsRow_nil w w.heap.size 61 5)
  clear hv
  go_enter Try.func21, Try.ntmps21
  go_wp2_with (at_builtin; go_must (refine wpList_append_rdG (E := knE) (cs := []) HO.out HV.out Try.underlying59 infoKnown rfl rfl rfl rfl rfl hl2 (by decide) (Nat.le_refl _) ?_); intro v1 w1 ho1 hb1 hg1; clear hg1)
  go_ret
  exact ⟨_, rfl, by simpa using ho1, hb1⟩

set_option maxRecDepth 100000 in
set_option maxHeartbeats 1000000 in
theorem locD1_any (v : Value) (l : List Kn) (k : Kn) (B C : Nat) (w : World) (hB : Blk w B 59 #[v]) (hC : Blk w C 61 #[.string k.p.fr, .string k.p.to_, .int .i64 k.p.id, .int .i64 k.ho, .int .i64 k.tu]) (hv : RdG knE w v l) (hl : l.length ≤ 1000) :
    Calls Try.prog 30 #[.pointer (some ⟨B, 0, none⟩), .pointer (some ⟨C, 0, none⟩)] w fun e w' => ∃ v', e = .returned v' ∧ RdG knE w' v' (lrnD l k) ∧ Below w.heap.size w w' := by
  have HC := hide hC
  have HL := hide (LearntR_any v l k w hv hl)
  obtain ⟨ao, cap, rfl, hc1, hc2⟩ := hv.shape
  have b0 := hB.cell 0
  have bl := hB.lt
  simp at b0
  clear hB hC hv
  go_enter Try.func30, Try.ntmps30
  go_wp2_with (first
    | (refine wpList_load_blk HC.out Try.underlying61 rfl Try.sizeKnown rfl rfl rfl ?_)
    | (go_at_call 28; refine HL.out.mono ?_; rintro e w1 ⟨v1, rfl, ho1, hb1⟩; obtain ⟨o1, k1, rfl⟩ := owns_shapeA ho1; have HO1 := hide ho1; have HB1 := hide hb1; clear ho1 hb1))
  go_ret
  exact ⟨_, rfl, RdG.ofOwns HO1.out, HB1.out⟩

set_option maxRecDepth 100000 in
set_option maxHeartbeats 4000000 in
theorem knownAs_any (m : Value) (lm : List Kn) (f : Int × Int) (v : Value) (l : List Kn) (k : Kn) (B C : Nat) (w : World) (hm : RdG knE w m lm) (hB : Blk w B 59 #[v]) (hC : Blk w C 61 #[.string k.p.fr, .string k.p.to_, .int .i64 k.p.id, .int .i64 k.ho, .int .i64 k.tu]) (hv : RdG knE w v l) (hl : l.length ≤ 1000) (hz : f.1 ≠ 0 → lm = []) (hs : f.1 = 0 → lm = lrnD l k) :
    Calls Try.prog 29 #[m, flt f, flt f, .func (.func 30) #[] #[.pointer (some ⟨B, 0, none⟩), .pointer (some ⟨C, 0, none⟩)]] w fun e w' => e = .returned (.bool true) ∧ Below w.heap.size w w' := by
  obtain ⟨x, y⟩ := f
  have HD := hide (fun W (hW : Below w.heap.size w W) => locD1_any v l k B C W (hB.later hW) (hC.later hW) (hv.below hW) hl)
  have HM := hide hm
  obtain ⟨ao, cap, rfl, hc1, hc2⟩ := hm.shape
  unfold maxLen at hc2
  have hbT := below_alloc2 w (.cells #[.int .i64 x, .int .i64 y] 30) (.cells #[.int .i64 x, .int .i64 y] 30)
  have HF0 := hide (Blk.at0of2 w (.cells #[.int .i64 x, .int .i64 y] 30) 30 #[.int .i64 x, .int .i64 y])
  have HG0 := hide (Blk.at1 w (.cells #[.int .i64 x, .int .i64 y] 30) 30 #[.int .i64 x, .int .i64 y])
  have HA0 := hide hbT
  generalize hW0 : ((w.alloc (.cells #[.int .i64 x, .int .i64 y] 30)).alloc (.cells #[.int .i64 x, .int .i64 y] 30)) = W0 at HF0 HG0 HA0
  have hz2 : x ≠ 0 → lm = [] := hz
  have hs2 : x = 0 → lm = lrnD l k := hs
  have HZ2 := hide hz2
  have HS2 := hide hs2
  have HD1 := hide (HD.out _ HA0.out)
  clear hm hB hC hv hz hs hz2 hs2 hbT HD
  unfold flt
  dsimp only
  go_enter Try.func29, Try.ntmps29
  go_upto_region 1 with fail
  clear hW0
  have g0 := HG0.out.cell 0
  have gl := HG0.out.lt
  simp at g0
  by_cases hx : x = 0
  · subst hx
    have hlm := HS2.out rfl
    subst hlm
    go_wp2_with (first
      | (refine wpList_load_blk HF0.out Try.underlying30 rfl Try.sizeFaultA rfl rfl rfl ?_)
      | (refine wpList_load_blk HG0.out Try.underlying30 rfl Try.sizeFaultA rfl rfl rfl ?_)
      | (go_at_call 26; refine (SameKnown_eq _ _ (lrnD l k) _ HM1.out HD2.out).mono ?_; rintro e w2 ⟨rfl, hb2⟩; have HB2 := hide (HB1.out.trans (hb2.mono HB1.out.size)); clear hb2)
      | (go_at_call 30; refine HD1.out.mono ?_; rintro e w1 ⟨v1, rfl, hr1, hb1⟩; have HD2 := hide hr1; have HB1 := hide (HA0.out.trans (hb1.mono HA0.out.size)); have HM1 := hide (HM.out.below (HA0.out.trans (hb1.mono HA0.out.size))); clear hr1 hb1))
    go_ret
    exact ⟨rfl, HB2.out⟩
  · have q1 : (x == 0) = false := beq_eq_false_iff_ne.2 hx
    have q2 : (x != 0) = true := by simp [hx]
    have hlm := HZ2.out hx
    subst hlm
    clear hx
    go_wp2_with (first
      | (refine wpList_load_blk HF0.out Try.underlying30 rfl Try.sizeFaultA rfl rfl rfl ?_)
      | (refine wpList_load_blk HG0.out Try.underlying30 rfl Try.sizeFaultA rfl rfl rfl ?_))
    go_ret
    exact ⟨rfl, HA0.out⟩

end Go.Proofs.Ytoeobhehjnkkkaa
