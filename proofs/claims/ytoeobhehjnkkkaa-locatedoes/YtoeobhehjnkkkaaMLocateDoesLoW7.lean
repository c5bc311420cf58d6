/-
  Texts joined: LoW7.
-/
import Derived.Test.YtoeobhehjnkkkaaMLocateDoesLoW6
import Derived.Test.YtoeobhehjnkkkaaMLocateDoesAsN1
/-
  The walks over package locate's slotWith, isServed and findFault. (Written by lo7.py.)
-/
namespace Go.Proofs.Ytoeobhehjnkkkaa
open Go.RowKit Go.Maps
set_option linter.unusedVariables false

/-- Which slot has a row. -/
def havS (l : List Sl) (row : ByteArray) : Option Nat := idxP (fun s => inB row s.p.fr s.p.to_) l 0

theorem idxP_at {α : Type} {f : α → Bool} : ∀ {l : List α} {i k : Nat} {x : α}, l[k]? = some x → f x = true → (∀ j y, j < k → l[j]? = some y → f y = false) → idxP f l i = some (i + k)
  | [], _, _, _, h, _, _ => by simp at h
  | y :: r, i, 0, x, h, hf, _ => by
    simp at h
    subst h
    rw [idxP_yes hf, Nat.add_zero]
  | y :: r, i, k + 1, x, h, hf, ha => by
    rw [idxP_no (ha 0 y (by omega) rfl), idxP_at (l := r) (by simpa using h) hf (fun j z hj hz => ha (j + 1) z (by omega) (by simpa using hz))]
    congr 1
    omega

/-- On a fine board one slot has the row, and no other. -/
theorem havS_fine {b : Bd} (h : FineB b) (row : ByteArray) : ∃ i s, havS b.sl row = some i ∧ b.sl[i]? = some s ∧ inB row s.p.fr s.p.to_ = true := by
  obtain ⟨k, p, _, hk, hp, hin, hone⟩ := hvP_one (r := row) h.pt
  have hk2 : k < b.sl.length := by simpa [parts] using hk
  have hs : b.sl[k]? = some b.sl[k] := List.getElem?_eq_getElem hk2
  have hpe : p = b.sl[k].p := by
    unfold parts at hp
    rw [List.getElem?_map, hs] at hp
    simpa using hp.symm
  subst hpe
  refine ⟨k, b.sl[k], ?_, hs, hin⟩
  unfold havS
  rw [idxP_at (i := 0) hs hin (fun j y hj hy => ?_), Nat.zero_add]
  cases hq : inB row y.p.fr y.p.to_
  · rfl
  · have := hone j y.p (by unfold parts; rw [List.getElem?_map, hy]; rfl) hq
    omega

/-- The slot that has a row. -/
def slotR (b : Bd) (row : ByteArray) : Sl := match havS b.sl row with | none => zeroSl | some i => b.sl.getD i zeroSl

theorem slotR_fine {b : Bd} (h : FineB b) (row : ByteArray) : ∃ i, havS b.sl row = some i ∧ b.sl[i]? = some (slotR b row) ∧ inB row (slotR b row).p.fr (slotR b row).p.to_ = true := by
  obtain ⟨i, s, h1, h2, h3⟩ := havS_fine h row
  have : slotR b row = s := by
    unfold slotR
    rw [h1]
    simp [List.getD, h2]
  rw [this]
  exact ⟨i, h1, h2, h3⟩

set_option maxRecDepth 100000 in
set_option maxHeartbeats 1000000 in
theorem slotWith1_any (s : Sl) (C : Nat) (row : ByteArray) (w : World) (hC : Blk w C 9 #[.string row]) :
    Calls Try.prog 87 #[slE.ag s, .pointer (some ⟨C, 0, none⟩)] w fun e w' => e = .returned (.bool (inB row s.p.fr s.p.to_)) ∧ Below w.heap.size w w' := by
  rw [show slE.ag s = .agg #[.string s.p.fr, .string s.p.to_, .int .i64 s.p.id, .int .i64 s.st, .int .i64 s.ho, .int .i64 s.tu] from rfl]
  have c0 := hC.cell 0
  have cl := hC.lt
  simp at c0
  clear hC
  go_enter Try.func87, Try.ntmps87
  go_wp2_with (go_at_call 81; refine (vIsBetween_any row s.p.fr s.p.to_ _).mono ?_; rintro e w1 ⟨rfl, hw⟩; rw [hw]; clear hw)
  go_ret
  exact ⟨rfl, by go_grown⟩

set_option maxRecDepth 100000 in
set_option maxHeartbeats 1000000 in
theorem IndexSlotR_any (C : Nat) (row : ByteArray) (v : Value) (l : List Sl) (w : World) (hv : RdG slE w v l) (hC : Blk w C 9 #[.string row]) :
    Calls Try.prog 86 #[v, .func (.func 87) #[] #[.pointer (some ⟨C, 0, none⟩)]] w fun e w' => e = .returned (.int .i64 (posI (havS l row))) ∧ Below w.heap.size w w' := by
  have HV := hide hv
  obtain ⟨ao, cap, rfl, hc1, hc2⟩ := hv.shape
  unfold maxLen at hc2
  have HC := hide hC
  clear hv hC
  go_enter Try.func86, Try.ntmps86
  go_wp2_with fail
  go_loopw [8] (fun iv wr => ∃ (j : Nat), j ≤ l.length ∧ iv = .int .i64 j ∧ idxP (fun s => inB row s.p.fr s.p.to_) (l.drop j) j = havS l row ∧ Below w.heap.size w wr)
    (fun iv _ => l.length - (intOf iv).toNat)
  case atStart => exact ⟨0, by omega, rfl, rfl, Below.refl _ _⟩
  case round =>
    obtain ⟨j, hj, rfl, hgo, hbr⟩ := hrel
    have HG := hide hgo
    have HB := hide hbr
    clear hgo
    by_cases hlt : j < l.length
    · obtain ⟨x, hx⟩ : ∃ x, l[j]? = some x := ⟨_, List.getElem?_eq_getElem hlt⟩
      obtain ⟨b, off, rfl, hb, hat⟩ := HV.out.here hx
      have hbw : b < wr.heap.size := Nat.lt_of_lt_of_le hb hbr.size
      obtain ⟨c0, c1, c2, c3, c4, c5⟩ := (hat.below hbr).slot
      have HN := hide (slotWith1_any x C row wr (HC.out.later hbr))
      rw [show slE.ag x = .agg #[.string x.p.fr, .string x.p.to_, .int .i64 x.p.id, .int .i64 x.st, .int .i64 x.ho, .int .i64 x.tu] from rfl] at HN
      rw [drop_consI hx] at HG
      have hk1 : (0 : Int) ≤ (j : Int) := by omega
      have hk2 : (j : Int) < (l.length : Int) := by omega
      clear hat hx hbr
      cases hid : inB row x.p.fr x.p.to_
      · have HE := hide ((idxP_no (r := l.drop (j + 1)) (i := j) (f := fun s => inB row s.p.fr s.p.to_) (x := x) hid).symm.trans HG.out)
        rw [hid] at HN
        clear hid
        go_wp2_with (go_at_call 87; refine HN.out.mono ?_; rintro e w1 ⟨rfl, hb1⟩; have HB1 := hide (HB.out.trans (hb1.mono HB.out.size)); clear hb1)
        go_roundw
        case rel => exact ⟨j + 1, by omega, by go_num, HE.out, HB1.out⟩
        case measure => simp [intOf]; omega
      · have HE := hide (HG.out.symm.trans (idxP_yes (by exact hid)))
        rw [hid] at HN
        clear hid
        go_wp2_with (go_at_call 87; refine HN.out.mono ?_; rintro e w1 ⟨rfl, hb1⟩; have HB1 := hide (HB.out.trans (hb1.mono HB.out.size)); clear hb1)
        go_ret
        exact ⟨by rw [HE.out]; rfl, HB1.out⟩
    · have hje : j = l.length := by omega
      subst hje
      rw [List.drop_length] at HG
      have HE := hide HG.out.symm
      clear hbr
      go_wp2_with fail
      go_ret
      exact ⟨by rw [HE.out]; rfl, HB.out⟩

theorem three_atK (w : World) (a b c : Array Value) (t1 t2 t3 : TypeId) :
    Blk (((w.alloc (.cells a t1)).alloc (.cells b t2)).alloc (.cells c t3)) w.heap.size t1 a ∧ Blk (((w.alloc (.cells a t1)).alloc (.cells b t2)).alloc (.cells c t3)) (w.heap.size + 1) t2 b ∧ Blk (((w.alloc (.cells a t1)).alloc (.cells b t2)).alloc (.cells c t3)) (w.heap.size + 2) t3 c ∧ Below w.heap.size w (((w.alloc (.cells a t1)).alloc (.cells b t2)).alloc (.cells c t3)) := by
  obtain ⟨h1, h2, h3⟩ := two_atK w a b t1 t2
  have hb := below_allocG ((w.alloc (.cells a t1)).alloc (.cells b t2)) (.cells c t3)
  refine ⟨h1.later hb, h2.later hb, ?_, h3.trans (hb.mono h3.size)⟩
  have := Blk.new ((w.alloc (.cells a t1)).alloc (.cells b t2)) t3 c
  simpa using this

set_option maxRecDepth 100000 in
set_option maxHeartbeats 4000000 in
theorem slotWith_any (b : Bd) (hv sv : Value) (row : ByteArray) (i : Nat) (s : Sl) (w : World) (hh : RdG hoE w hv b.hs) (hs : RdG slE w sv b.sl) (hi : havS b.sl row = some i) (hx : b.sl[i]? = some s) :
    Calls Try.prog 53 #[bdV hv sv b, .string row] w fun e w' => e = .returned (slE.ag s) ∧ Below w.heap.size w w' := by
  obtain ⟨ah, ch, rfl, _, _⟩ := hh.shape
  obtain ⟨as_, cs, rfl, hc1, hc2⟩ := hs.shape
  unfold maxLen at hc2
  have hil := (List.getElem?_eq_some_iff.1 hx).1
  obtain ⟨hB, hC, hR, hA⟩ := three_atK w #[.slice ah b.hs.length ch, .slice as_ b.sl.length cs, .int .i64 b.tu, .int .i64 b.nx] #[.string row] #[.string ⟨#[]⟩, .string ⟨#[]⟩, .int .i64 0, .int .i64 0, .int .i64 0, .int .i64 0] 27 9 46
  have HB0 := hide hB
  have HR0 := hide hR
  have HA0 := hide hA
  have HIX := hide (fun W (hW : Below (((w.alloc (.cells #[.slice ah b.hs.length ch, .slice as_ b.sl.length cs, .int .i64 b.tu, .int .i64 b.nx] 27)).alloc (.cells #[.string row] 9)).alloc (.cells #[.string ⟨#[]⟩, .string ⟨#[]⟩, .int .i64 0, .int .i64 0, .int .i64 0, .int .i64 0] 46)).heap.size (((w.alloc (.cells #[.slice ah b.hs.length ch, .slice as_ b.sl.length cs, .int .i64 b.tu, .int .i64 b.nx] 27)).alloc (.cells #[.string row] 9)).alloc (.cells #[.string ⟨#[]⟩, .string ⟨#[]⟩, .int .i64 0, .int .i64 0, .int .i64 0, .int .i64 0] 46)) W) => IndexSlotR_any (w.heap.size + 1) row _ b.sl W (hs.below (hA.trans (hW.mono hA.size))) (hC.later hW))
  obtain ⟨gb, go, rfl, hgl, hat⟩ := hs.here hx
  generalize hW0 : (((w.alloc (.cells #[.slice ah b.hs.length ch, .slice (some ⟨gb, go, none⟩) b.sl.length cs, .int .i64 b.tu, .int .i64 b.nx] 27)).alloc (.cells #[.string row] 9)).alloc (.cells #[.string ⟨#[]⟩, .string ⟨#[]⟩, .int .i64 0, .int .i64 0, .int .i64 0, .int .i64 0] 46)) = W0 at HB0 HR0 HA0 HIX
  have HW0 := hide hW0
  simp only [hi, posI] at HIX
  have HKEEP := hide (fun (W : World) (hW : Below W0.heap.size W0 W) => show (W.cell? ⟨w.heap.size, 1, none⟩ = some (.slice (some ⟨gb, go, none⟩) b.sl.length cs)) ∧ W.cell? ⟨gb, go + i * 6, none⟩ = some (.string s.p.fr) ∧ W.cell? ⟨gb, go + i * 6 + 1, none⟩ = some (.string s.p.to_) ∧ W.cell? ⟨gb, go + i * 6 + 2, none⟩ = some (.int .i64 s.p.id) ∧ W.cell? ⟨gb, go + i * 6 + 3, none⟩ = some (.int .i64 s.st) ∧ W.cell? ⟨gb, go + i * 6 + 4, none⟩ = some (.int .i64 s.ho) ∧ W.cell? ⟨gb, go + i * 6 + 5, none⟩ = some (.int .i64 s.tu) from by
    have h1 := HA0.out.trans (hW.mono HA0.out.size)
    obtain ⟨c0, c1, c2, c3, c4, c5⟩ := (hat.below h1).slot
    have hb := (HB0.out.later hW).cell 1
    exact ⟨hb, c0, c1, c2, c3, c4, c5⟩)
  have HAT := hide hat
  have hi1 : (0 : Int) ≤ (i : Int) := by omega
  have hi2 : (i : Int) < (b.sl.length : Int) := by omega
  clear hh hs hB hC hR hA hi hx hat hW0
  rw [show slE.ag s = .agg #[.string s.p.fr, .string s.p.to_, .int .i64 s.p.id, .int .i64 s.st, .int .i64 s.ho, .int .i64 s.tu] from rfl]
  unfold bdV
  go_enter Try.func53, Try.ntmps53
  go_upto_region 1 with fail
  rw [HW0.out]
  clear HW0
  refine wp_region_heldD (S := fun W => (W.cell? ⟨w.heap.size, 1, none⟩ = some (.slice (some ⟨gb, go, none⟩) b.sl.length cs)) ∧ W.cell? ⟨gb, go + i * 6, none⟩ = some (.string s.p.fr) ∧ W.cell? ⟨gb, go + i * 6 + 1, none⟩ = some (.string s.p.to_) ∧ W.cell? ⟨gb, go + i * 6 + 2, none⟩ = some (.int .i64 s.p.id) ∧ W.cell? ⟨gb, go + i * 6 + 3, none⟩ = some (.int .i64 s.st) ∧ W.cell? ⟨gb, go + i * 6 + 4, none⟩ = some (.int .i64 s.ho) ∧ W.cell? ⟨gb, go + i * 6 + 5, none⟩ = some (.int .i64 s.tu)) (n := 9) (l := (upB 9 0).toArray) (by kernel_rfl) (by kernel_rfl) (by kernel_rfl) (by kernel_rfl) (HKEEP.out _ (Below.drew (Below.refl _ _))) (fun HNS hHeld => ?_)
  refine wpAnyH_takeD (l' := (upB 9 1).toArray) (i := 0) (fuel := 8) (v := ?v1x0) rfl HNS.out (by kernel_rfl) (by kernel_rfl) (by kernel_rfl) (fun _ _ _ h => h) (by kernel_rfl) ?y1x0 hHeld ?r1x0
  case y1x0 => (intro W hSw; go_simp; first | done | with_reducible rfl)
  try simp only [Act.put, List.setIfInBounds_toArray, List.set_cons_zero, List.set_cons_succ]
  refine wpAnyH_takeD (l' := (upB 9 2).toArray) (i := 1) (fuel := 7) (v := ?v1x1) rfl HNS.out (by kernel_rfl) (by kernel_rfl) (by kernel_rfl) (fun _ _ _ h => h) (by kernel_rfl) ?y1x1 hHeld ?r1x1
  case y1x1 => (intro W hSw; (try dsimp only at hSw); go_simp; first | done | with_reducible rfl)
  try simp only [Act.put, List.setIfInBounds_toArray, List.set_cons_zero, List.set_cons_succ]
  refine wpAnyH_takeD (l' := (upB 9 3).toArray) (i := 2) (fuel := 6) (v := ?v1x2) rfl HNS.out (by kernel_rfl) (by kernel_rfl) (by kernel_rfl) (fun _ _ _ h => h) (by kernel_rfl) ?y1x2 hHeld ?r1x2
  case y1x2 => (intro W hSw; go_simp; first | done | with_reducible rfl)
  try simp only [Act.put, List.setIfInBounds_toArray, List.set_cons_zero, List.set_cons_succ]
  refine wpAnyH_takeD (l' := (upB 9 4).toArray) (i := 3) (fuel := 5) (v := ?v1x3) rfl HNS.out (by kernel_rfl) (by kernel_rfl) (by kernel_rfl) (fun _ _ _ h => h) (by kernel_rfl) ?y1x3 hHeld ?r1x3
  case y1x3 => (intro W hSw; (try dsimp only at hSw); go_simp; first | done | with_reducible rfl)
  try simp only [Act.put, List.setIfInBounds_toArray, List.set_cons_zero, List.set_cons_succ]
  refine wpAnyH_takeD (l' := (upB 9 5).toArray) (i := 4) (fuel := 4) (v := ?v1x4) rfl HNS.out (by kernel_rfl) (by kernel_rfl) (by kernel_rfl) (fun _ _ _ h => h) (by kernel_rfl) ?y1x4 hHeld ?r1x4
  case y1x4 => (intro W hSw; go_simp; first | done | with_reducible rfl)
  try simp only [Act.put, List.setIfInBounds_toArray, List.set_cons_zero, List.set_cons_succ]
  refine wpAnyH_oneD (l' := (upB 9 6).toArray) (i := 5) (fuel := 3) rfl (by kernel_rfl) (by kernel_rfl) (fun Kc hK => ?_)
  go_simp
  go_at_call 86
  refine (HIX.out _ (Below.drew (Below.refl _ _))).mono ?_
  rintro e w1 ⟨rfl, hb1⟩
  have hbq := (Below.drew (Below.refl W0.heap.size W0)).trans (hb1.mono (Nat.le_refl _))
  have HR1 := hide (HR0.out.later hbq)
  have HB1 := hide (HB0.out.later hbq)
  have HA1 := hide (HA0.out.trans (hbq.mono HA0.out.size))
  have hHeld1 := HKEEP.out w1 hbq
  clear hb1
  go_wp2_with fail
  refine hK.out _ _ hHeld1 (fun _ => ?_)
  clear hK Kc
  try simp only [Act.put, List.setIfInBounds_toArray, List.set_cons_zero, List.set_cons_succ]
  refine wpAnyH_takeD (l' := (upB 9 7).toArray) (i := 6) (fuel := 2) (v := ?v1x6) rfl HNS.out (by kernel_rfl) (by kernel_rfl) (by kernel_rfl) (fun _ _ _ h => h) (by kernel_rfl) ?y1x6 hHeld1 ?r1x6
  case y1x6 => (intro W hSw; go_simp; first | done | with_reducible rfl)
  try simp only [Act.put, List.setIfInBounds_toArray, List.set_cons_zero, List.set_cons_succ]
  refine wpAnyH_takeD (l' := (upB 9 8).toArray) (i := 7) (fuel := 1) (v := ?v1x7) rfl HNS.out (by kernel_rfl) (by kernel_rfl) (by kernel_rfl) (fun _ _ _ h => h) (by kernel_rfl) ?y1x7 hHeld1 ?r1x7
  case y1x7 => (intro W hSw; (try dsimp only at hSw); go_simp; first | done | with_reducible rfl)
  try simp only [Act.put, List.setIfInBounds_toArray, List.set_cons_zero, List.set_cons_succ]
  refine wpAnyH_oneD (l' := (upB 9 9).toArray) (i := 8) (fuel := 0) rfl (by kernel_rfl) (by kernel_rfl) (fun Kc hK => ?_)
  refine step_store_blk rfl rfl rfl rfl HR1.out rfl Try.sizeSlot rfl ?_
  intro w3 hR3 hg3
  have HR3 := hide hR3
  have HA3 := hide (below_grownO HA1.out hg3 (fun k hk => by cases hk; omega) HA1.out.size)
  refine hK.out _ _ (by obtain ⟨c0, c1, c2, c3, c4, c5⟩ := (HAT.out.below HA3.out).slot; exact ⟨(HB1.out.grown hg3 (fun q => by have q2 := Option.some.inj q; omega)).cell 1, c0, c1, c2, c3, c4, c5⟩) (fun _ => ?_)
  clear hK Kc
  try simp only [Act.put]
  refine wpAnyH_done (by kernel_rfl) ?_ _
  go_wp2_with fail
  refine bodyPost_ret (v := .agg #[.string s.p.fr, .string s.p.to_, .int .i64 s.p.id, .int .i64 s.st, .int .i64 s.ho, .int .i64 s.tu]) (results1_cell Try.results53 rfl (run_loadVar_blk HR3.out Try.underlying46 rfl Try.sizeSlot)) rfl ?_
  exact ⟨rfl, HA3.out⟩

set_option maxRecDepth 100000 in
set_option maxHeartbeats 1000000 in
theorem isServed_any (s : Sl) (ho tu : Int) (w : World) :
    Calls Try.prog 55 #[.agg #[.string s.p.fr, .string s.p.to_, .int .i64 s.p.id, .int .i64 s.st, .int .i64 s.ho, .int .i64 s.tu], .int .i64 ho, .int .i64 tu] w fun e w' => e = .returned (.bool (decide (s.st = 2) && (decide (s.ho = ho) && decide (s.tu = tu)))) ∧ Below w.heap.size w w' := by
  have HE := hide (show (decide (s.st = 2) && (decide (s.ho = ho) && decide (s.tu = tu))) = ((s.st == 2) && ((s.ho == ho) && (s.tu == tu))) from rfl)
  cases h1 : (s.st == 2) <;> cases h2 : (s.ho == ho) <;> cases h3 : (s.tu == tu)
  all_goals
    rw [h1, h2, h3] at HE
    go_enter Try.func55, Try.ntmps55
    go_wp2_with fail
    go_ret
    exact ⟨by rw [HE.out]; rfl, by go_grown⟩

end Go.Proofs.Ytoeobhehjnkkkaa
