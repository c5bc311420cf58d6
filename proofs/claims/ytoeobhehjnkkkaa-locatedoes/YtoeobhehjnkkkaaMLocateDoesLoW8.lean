/-
  Texts joined: LoW8.
-/
import Derived.Test.YtoeobhehjnkkkaaMLocateDoesLoW7
import Derived.Test.YtoeobhehjnkkkaaMLocateDoesAsR8
/-
  The walks over package locate's findFault, of what is fine, and over the functions that Find makes. (Written by lo8.py.)
-/
namespace Go.Proofs.Ytoeobhehjnkkkaa
open Go.RowKit Go.Maps
set_option linter.unusedVariables false

theorem FineB.hos {b : Bd} (h : FineB b) : ∀ s ∈ b.sl, (Lit.int .i64 s.ho).wf = true := fun s hs => by
  have f := h.sc s hs
  by_cases h0 : s.st = 0
  · rw [f.off h0]; decide
  · have ha := f.al h0
    unfold aliveB at ha
    cases hq : hoF b.hs b.hs.length s.ho with
    | none => rw [hq] at ha; cases ha
    | some x =>
      unfold hoF at hq
      have h2 := List.find?_some hq
      have h3 := List.mem_of_find?_eq_some hq
      have h1 := (h.hi x (List.mem_of_mem_take h3)).1
      simp at h2
      rw [oneB_iff] at h1
      rw [← h2]
      exact wf_num (by unfold numB; simp; omega)

set_option maxRecDepth 100000 in
set_option maxHeartbeats 4000000 in
theorem findFault_fine (b : Bd) (hv sv v : Value) (l : List Kn) (w : World) (hf : FineB b) (hk : FineK l) (hh : RdG hoE w hv b.hs) (hs : RdG slE w sv b.sl) (hl : RdG knE w v l) :
    Calls Try.prog 52 #[bdV hv sv b, v] w fun e w' => e = .returned (.agg #[.int .i64 0, .int .i64 0]) ∧ Below w.heap.size w w' := by
  have hbz : chkB b = (0, 0) := chkB_z (fineB_iff.2 hf)
  have HAC := hide (fun W (hW : Below w.heap.size w W) => ACheck_any b hv sv W (hh.below hW) (hs.below hW) (by have := hf.ok.sl; omega) hf.wfp hf.hos)
  have HKC := hide (fun W (hW : Below w.heap.size w W) => KCheck_any v l W (hl.below hW))
  simp only [hbz] at HAC
  simp only [chkK_fine hk] at HKC
  obtain ⟨ah, ch, rfl, _, _⟩ := hh.shape
  obtain ⟨as_, cs, rfl, _, _⟩ := hs.shape
  obtain ⟨ao, cap, rfl, _, _⟩ := hl.shape
  unfold flt at HAC HKC
  obtain ⟨hB, hR, hA⟩ := two_atK w #[.slice ah b.hs.length ch, .slice as_ b.sl.length cs, .int .i64 b.tu, .int .i64 b.nx] #[.int .i64 0, .int .i64 0] 27 30
  have HB0 := hide hB
  have HR0 := hide hR
  have HA0 := hide hA
  generalize hW0 : ((w.alloc (.cells #[.slice ah b.hs.length ch, .slice as_ b.sl.length cs, .int .i64 b.tu, .int .i64 b.nx] 27)).alloc (.cells #[.int .i64 0, .int .i64 0] 30)) = W0 at HB0 HR0 HA0
  have HC1 := hide (HAC.out _ HA0.out)
  clear hbz hf hk hh hs hl hB hR hA HAC
  unfold bdV
  unfold bdV at HC1
  go_enter Try.func52, Try.ntmps52
  go_upto_region 1 with fail
  clear hW0
  go_upto_region 2 with (first
    | (refine wpList_load_blk HB0.out Try.underlying27 rfl Try.sizeBoard rfl rfl rfl ?_)
    | (go_at_call 35; refine HC1.out.mono ?_; rintro e w1 ⟨rfl, hb1⟩; have HX1 := hide hb1; clear hb1))
  have hbT := below_allocG w1 (.cells #[.int .i64 0, .int .i64 0] 30)
  have hbX := HX1.out.trans (hbT.mono HX1.out.size)
  have HR1 := hide (HR0.out.later hbX)
  have HA1 := hide (HA0.out.trans (hbX.mono HA0.out.size))
  have HT1 := hide (Blk.new w1 30 #[.int .i64 0, .int .i64 0])
  generalize hwX : w1.alloc (.cells #[.int .i64 0, .int .i64 0] 30) = X1 at HR1 HA1 HT1 ⊢
  clear hwX hbT hbX HX1 HB0 HR0 HA0 HC1
  have HC2 := hide (HKC.out _ HA1.out)
  clear HKC
  go_upto_region 5 with (first
    | (refine wpList_load_blk HT1.out Try.underlying30 rfl Try.sizeFaultA rfl rfl rfl ?_)
    | (go_at_call 22; refine HC2.out.mono ?_; rintro e w2 ⟨rfl, hb2⟩; have HX2 := hide hb2; clear hb2))
  have hbT := below_allocG w2 (.cells #[.int .i64 0, .int .i64 0] 30)
  have hbX := HX2.out.trans (hbT.mono HX2.out.size)
  have HR2 := hide (HR1.out.later hbX)
  have HA2 := hide (HA1.out.trans (hbX.mono HA1.out.size))
  have HT2 := hide (Blk.new w2 30 #[.int .i64 0, .int .i64 0])
  generalize hwX : w2.alloc (.cells #[.int .i64 0, .int .i64 0] 30) = X2 at HR2 HA2 HT2 ⊢
  clear hwX hbT hbX HX2 HR1 HA1 HT1 HC2
  go_wp2_with (first
    | (refine wpList_load_blk HT2.out Try.underlying30 rfl Try.sizeFaultA rfl rfl rfl ?_)
    | (refine wpList_store_blk rfl rfl rfl rfl HR2.out rfl Try.sizeFaultA rfl ?_; intro w8 hR8 hg8; have HR8 := hide hR8; have HA8 := hide (below_grownO HA2.out hg8 (fun k hk => by cases hk; omega) HA2.out.size); clear hR8 hg8))
  refine bodyPost_ret (v := .agg #[.int .i64 0, .int .i64 0]) (results1_cell Try.results52 rfl (run_loadVar_blk HR8.out Try.underlying30 rfl Try.sizeFaultA)) rfl ?_
  exact ⟨rfl, HA8.out⟩

theorem results2_ctK {P : Program} {fn : Func} {i j : Tmp} {u : TypeId} {tmps : Array Value} {C : Nat} {v1 v2 : Value} {w : World} (h : fn.results = #[.cell i u, .tmp j]) (hq : tmps[i]?.getD undef = .pointer (some ⟨C, 0, none⟩)) (hm : (loadVar u ⟨C, 0, none⟩).run P w = .ok v1 w) (hp : tmps[j]?.getD undef = v2) :
    (results fn tmps).run P w = .ok (.tuple #[v1, v2]) w := by
  simp [results, h, hp, hq, asAddr, hm]

theorem grown_own {w W0 w2 w3 : World} {C B : Nat} (h1 : Below w.heap.size w W0) (h2 : W0.grownBy w2 (some C)) (h3 : w2.grownBy w3 (some B)) (hB : w.heap.size ≤ B) : w.grownBy w3 (some C) :=
  ⟨(h3.os.trans h2.os).trans h1.os, (h3.tape.trans h2.tape).trans h1.tape, (h3.output.trans h2.output).trans h1.output, Nat.le_trans (Nat.le_trans h1.size h2.size) h3.size, fun k hk hne => ((h3.block k (Nat.lt_of_lt_of_le hk (Nat.le_trans h1.size h2.size)) (fun q => by have q2 := Option.some.inj q; omega)).trans (h2.block k (Nat.lt_of_lt_of_le hk h1.size) hne)).trans (h1.block k hk)⟩

theorem grown_trans {w1 w2 w3 : World} {o : Option Nat} (h1 : w1.grownBy w2 o) (h2 : w2.grownBy w3 o) : w1.grownBy w3 o :=
  ⟨h2.os.trans h1.os, h2.tape.trans h1.tape, h2.output.trans h1.output, Nat.le_trans h1.size h2.size, fun k hk hne => (h2.block k (Nat.lt_of_lt_of_le hk h1.size) hne).trans (h1.block k hk hne)⟩

theorem grown_ofBelow {w w' : World} {o : Option Nat} (h : Below w.heap.size w w') : w.grownBy w' o :=
  ⟨h.os, h.tape, h.output, h.size, fun k hk _ => h.block k hk⟩

/-- The slot as it is learnt. -/
def slK (s : Sl) : Kn := ⟨s.p, s.ho, s.tu⟩

set_option maxRecDepth 100000 in
set_option maxHeartbeats 4000000 in
theorem askBoard_any (s : Sl) (C S : Nat) (n : Int) (w : World) (hC : Blk w C 3 #[.int .i64 n]) (hS : Blk w S 46 #[.string s.p.fr, .string s.p.to_, .int .i64 s.p.id, .int .i64 s.st, .int .i64 s.ho, .int .i64 s.tu]) (hn : 0 ≤ n ∧ n ≤ 10) :
    Calls Try.prog 56 #[.pointer (some ⟨C, 0, none⟩), .pointer (some ⟨S, 0, none⟩)] w fun e w' => e = .returned (.tuple #[.agg #[.string s.p.fr, .string s.p.to_, .int .i64 s.p.id, .int .i64 s.ho, .int .i64 s.tu], .bool (s.st == 2)]) ∧ Blk w' C 3 #[.int .i64 (n + 1)] ∧ w.grownBy w' (some C) := by
  have hwr : IntKind.i64.wrap (n + 1) = n + 1 := by rw [IntKind.wrap_i64]; omega
  have hA := below_allocG w (.cells #[.string ⟨#[]⟩, .string ⟨#[]⟩, .int .i64 0, .int .i64 0, .int .i64 0] 61)
  have HC0 := hide (hC.later hA)
  have HS0 := hide (hS.later hA)
  have HR0 := hide (Blk.new w 61 #[.string ⟨#[]⟩, .string ⟨#[]⟩, .int .i64 0, .int .i64 0, .int .i64 0])
  have HN := hide (show C < w.heap.size ∧ S < w.heap.size from ⟨hC.lt, hS.lt⟩)
  have HNE := hide (show C ≠ S from fun q => by
    subst q
    unfold Blk at hC hS
    rw [hC] at hS
    simp at hS)
  have HA := hide hA
  generalize hW0 : w.alloc (.cells #[.string ⟨#[]⟩, .string ⟨#[]⟩, .int .i64 0, .int .i64 0, .int .i64 0] 61) = W0 at HC0 HS0 HR0 HA
  have c0 := HC0.out.cell 0
  have cl := HC0.out.lt
  simp at c0
  clear hC hS hn hA
  go_enter Try.func56, Try.ntmps56
  go_upto_region 1 with fail
  clear hW0
  go_upto_region 2 with (refine wpList_store_int (k := 0) rfl rfl rfl rfl HC0.out rfl Try.sizeInt1 ?_; intro w2 hC2 hg2; have HC2 := hide (show Blk w2 C 3 #[.int .i64 (n + 1)] from hC2); have HS2 := hide (HS0.out.grown hg2 (fun q => HNE.out (Option.some.inj q).symm)); have HR2 := hide (HR0.out.grown hg2 (fun q => by have q2 := Option.some.inj q; have := HN.out; omega)); have HG2 := hide hg2; clear hC2 hg2)
  clear c0 cl
  have HS2d := hide (show Blk w2.drew S _ _ from HS2.out)
  have HR2d := hide (show Blk w2.drew w.heap.size _ _ from HR2.out)
  have HC2d := hide (show Blk w2.drew C _ _ from HC2.out)
  have HG2d := hide (grown_trans HG2.out (grown_ofBelow (o := some C) (Below.drew (Below.refl _ w2))))
  refine wp_region_heldD (S := fun W => W.cell? ⟨S, 0, none⟩ = some (.string s.p.fr) ∧ W.cell? ⟨S, 1, none⟩ = some (.string s.p.to_) ∧ W.cell? ⟨S, 2, none⟩ = some (.int .i64 s.p.id) ∧ W.cell? ⟨S, 3, none⟩ = some (.int .i64 s.st) ∧ W.cell? ⟨S, 4, none⟩ = some (.int .i64 s.ho) ∧ W.cell? ⟨S, 5, none⟩ = some (.int .i64 s.tu)) (n := 12) (l := (upB 12 0).toArray) (by kernel_rfl) (by kernel_rfl) (by kernel_rfl) (by kernel_rfl) ⟨HS2d.out.cell 0, HS2d.out.cell 1, HS2d.out.cell 2, HS2d.out.cell 3, HS2d.out.cell 4, HS2d.out.cell 5⟩ (fun HNS hHeld => ?_)
  refine wpAnyH_takeD (l' := (upB 12 1).toArray) (i := 0) (fuel := 11) (v := ?v1x0) rfl HNS.out (by kernel_rfl) (by kernel_rfl) (by kernel_rfl) (fun _ _ _ h => h) (by kernel_rfl) ?y1x0 hHeld ?r1x0
  case y1x0 => (intro W hSw; go_simp; first | done | with_reducible rfl)
  try simp only [Act.put, List.setIfInBounds_toArray, List.set_cons_zero, List.set_cons_succ]
  refine wpAnyH_takeD (l' := (upB 12 2).toArray) (i := 1) (fuel := 10) (v := ?v1x1) rfl HNS.out (by kernel_rfl) (by kernel_rfl) (by kernel_rfl) (fun _ _ _ h => h) (by kernel_rfl) ?y1x1 hHeld ?r1x1
  case y1x1 => (intro W hSw; (try dsimp only at hSw); go_simp; first | done | with_reducible rfl)
  try simp only [Act.put, List.setIfInBounds_toArray, List.set_cons_zero, List.set_cons_succ]
  refine wpAnyH_takeD (l' := (upB 12 3).toArray) (i := 2) (fuel := 9) (v := ?v1x2) rfl HNS.out (by kernel_rfl) (by kernel_rfl) (by kernel_rfl) (fun _ _ _ h => h) (by kernel_rfl) ?y1x2 hHeld ?r1x2
  case y1x2 => (intro W hSw; go_simp; first | done | with_reducible rfl)
  try simp only [Act.put, List.setIfInBounds_toArray, List.set_cons_zero, List.set_cons_succ]
  refine wpAnyH_takeD (l' := (upB 12 4).toArray) (i := 3) (fuel := 8) (v := ?v1x3) rfl HNS.out (by kernel_rfl) (by kernel_rfl) (by kernel_rfl) (fun _ _ _ h => h) (by kernel_rfl) ?y1x3 hHeld ?r1x3
  case y1x3 => (intro W hSw; (try dsimp only at hSw); go_simp; first | done | with_reducible rfl)
  try simp only [Act.put, List.setIfInBounds_toArray, List.set_cons_zero, List.set_cons_succ]
  refine wpAnyH_takeD (l' := (upB 12 5).toArray) (i := 4) (fuel := 7) (v := ?v1x4) rfl HNS.out (by kernel_rfl) (by kernel_rfl) (by kernel_rfl) (fun _ _ _ h => h) (by kernel_rfl) ?y1x4 hHeld ?r1x4
  case y1x4 => (intro W hSw; go_simp; first | done | with_reducible rfl)
  try simp only [Act.put, List.setIfInBounds_toArray, List.set_cons_zero, List.set_cons_succ]
  refine wpAnyH_takeD (l' := (upB 12 6).toArray) (i := 5) (fuel := 6) (v := ?v1x5) rfl HNS.out (by kernel_rfl) (by kernel_rfl) (by kernel_rfl) (fun _ _ _ h => h) (by kernel_rfl) ?y1x5 hHeld ?r1x5
  case y1x5 => (intro W hSw; (try dsimp only at hSw); go_simp; first | done | with_reducible rfl)
  try simp only [Act.put, List.setIfInBounds_toArray, List.set_cons_zero, List.set_cons_succ]
  refine wpAnyH_takeD (l' := (upB 12 7).toArray) (i := 6) (fuel := 5) (v := ?v1x6) rfl HNS.out (by kernel_rfl) (by kernel_rfl) (by kernel_rfl) (fun _ _ _ h => h) (by kernel_rfl) ?y1x6 hHeld ?r1x6
  case y1x6 => (intro W hSw; go_simp; first | done | with_reducible rfl)
  try simp only [Act.put, List.setIfInBounds_toArray, List.set_cons_zero, List.set_cons_succ]
  refine wpAnyH_takeD (l' := (upB 12 8).toArray) (i := 7) (fuel := 4) (v := ?v1x7) rfl HNS.out (by kernel_rfl) (by kernel_rfl) (by kernel_rfl) (fun _ _ _ h => h) (by kernel_rfl) ?y1x7 hHeld ?r1x7
  case y1x7 => (intro W hSw; go_simp; first | done | with_reducible rfl)
  try simp only [Act.put, List.setIfInBounds_toArray, List.set_cons_zero, List.set_cons_succ]
  refine wpAnyH_takeD (l' := (upB 12 9).toArray) (i := 8) (fuel := 3) (v := ?v1x8) rfl HNS.out (by kernel_rfl) (by kernel_rfl) (by kernel_rfl) (fun _ _ _ h => h) (by kernel_rfl) ?y1x8 hHeld ?r1x8
  case y1x8 => (intro W hSw; (try dsimp only at hSw); go_simp; first | done | with_reducible rfl)
  try simp only [Act.put, List.setIfInBounds_toArray, List.set_cons_zero, List.set_cons_succ]
  refine wpAnyH_takeD (l' := (upB 12 10).toArray) (i := 9) (fuel := 2) (v := ?v1x9) rfl HNS.out (by kernel_rfl) (by kernel_rfl) (by kernel_rfl) (fun _ _ _ h => h) (by kernel_rfl) ?y1x9 hHeld ?r1x9
  case y1x9 => (intro W hSw; go_simp; first | done | with_reducible rfl)
  try simp only [Act.put, List.setIfInBounds_toArray, List.set_cons_zero, List.set_cons_succ]
  refine wpAnyH_oneD (l' := (upB 12 11).toArray) (i := 10) (fuel := 1) rfl (by kernel_rfl) (by kernel_rfl) (fun Kc hK => ?_)
  refine step_store_blk rfl rfl rfl rfl HR2d.out rfl Try.sizeKnown rfl ?_
  intro w3 hR3 hg3
  have HR3 := hide hR3
  have HC3 := hide (HC2d.out.grown hg3 (fun q => by have q2 := Option.some.inj q; have := HN.out; omega))
  have HS3 := hide (HS2d.out.grown hg3 (fun q => by have q2 := Option.some.inj q; have := HN.out; omega))
  have HG3 := hide (grown_own HA.out (HG2d.out) hg3 (Nat.le_refl _))
  clear hR3 hg3
  have hHeld3 := show w3.cell? ⟨S, 0, none⟩ = some (.string s.p.fr) ∧ w3.cell? ⟨S, 1, none⟩ = some (.string s.p.to_) ∧ w3.cell? ⟨S, 2, none⟩ = some (.int .i64 s.p.id) ∧ w3.cell? ⟨S, 3, none⟩ = some (.int .i64 s.st) ∧ w3.cell? ⟨S, 4, none⟩ = some (.int .i64 s.ho) ∧ w3.cell? ⟨S, 5, none⟩ = some (.int .i64 s.tu) from ⟨HS3.out.cell 0, HS3.out.cell 1, HS3.out.cell 2, HS3.out.cell 3, HS3.out.cell 4, HS3.out.cell 5⟩
  refine hK.out _ _ hHeld3 (fun _ => ?_)
  clear hK Kc
  try simp only [Act.put]
  refine wpAnyH_takeD (l' := (upB 12 12).toArray) (i := 11) (fuel := 0) (v := ?v1x11) rfl HNS.out (by kernel_rfl) (by kernel_rfl) (by kernel_rfl) (fun _ _ _ h => h) (by kernel_rfl) ?y1x11 hHeld3 ?r1x11
  case y1x11 => (intro W hSw; go_simp; first | done | with_reducible rfl)
  try simp only [Act.put, List.setIfInBounds_toArray, List.set_cons_zero, List.set_cons_succ]
  refine wpAnyH_done (by kernel_rfl) ?_ _
  go_wp2_with fail
  refine bodyPost_ret (v := .tuple #[.agg #[.string s.p.fr, .string s.p.to_, .int .i64 s.p.id, .int .i64 s.ho, .int .i64 s.tu], .bool (s.st == 2)]) (results2_ctK Try.results56 rfl (run_loadVar_blk HR3.out Try.underlying61 rfl Try.sizeKnown) rfl) rfl ?_
  exact ⟨rfl, HC3.out, HG3.out⟩

end Go.Proofs.Ytoeobhehjnkkkaa
