/-
  Texts joined: AsW6.
-/
import Derived.Test.YtoeobhehjnkkkaaMLocateDoesAsW5
/-
  The walks over package assign's numberOf, slot, slotFault, heldFault, turnOff.
-/
namespace Go.Proofs.Ytoeobhehjnkkkaa
open Go.RowKit Go.Maps
set_option linter.unusedVariables false

/-- A place as Go tells it. -/
def posI : Option Nat → Int
  | none => -1
  | some i => (i : Int)

set_option maxRecDepth 100000 in
set_option maxHeartbeats 1000000 in
theorem numberOf1_any (s : Sl) (C : Nat) (id : Int) (w : World) (hC : Blk w C 3 #[.int .i64 id]) :
    Calls Try.prog 104 #[slE.ag s, .pointer (some ⟨C, 0, none⟩)] w fun e w' => e = .returned (.bool (decide (s.p.id = id))) ∧ Below w.heap.size w w' := by
  rw [show slE.ag s = .agg #[.string s.p.fr, .string s.p.to_, .int .i64 s.p.id, .int .i64 s.st, .int .i64 s.ho, .int .i64 s.tu] from rfl]
  have c0 := hC.cell 0
  have cl := hC.lt
  simp at c0
  by_cases h : s.p.id = id
  · have HE := hide (decide_eq_true h)
    have q1 : (s.p.id == id) = true := by simp [h]
    clear h hC
    go_enter Try.func104, Try.ntmps104
    go_wp2_with fail
    go_ret
    exact ⟨by rw [HE.out]; rfl, by go_grown⟩
  · have HE := hide (decide_eq_false h)
    have q1 : (s.p.id == id) = false := beq_eq_false_iff_ne.2 h
    clear h hC
    go_enter Try.func104, Try.ntmps104
    go_wp2_with fail
    go_ret
    exact ⟨by rw [HE.out]; rfl, by go_grown⟩

set_option maxRecDepth 100000 in
set_option maxHeartbeats 1000000 in
theorem IndexSlot_any (C : Nat) (id : Int) (v : Value) (l : List Sl) (w : World) (hv : RdG slE w v l) (hC : Blk w C 3 #[.int .i64 id]) :
    Calls Try.prog 86 #[v, .func (.func 104) #[] #[.pointer (some ⟨C, 0, none⟩)]] w fun e w' => e = .returned (.int .i64 (posI (idxS l id))) ∧ Below w.heap.size w w' := by
  have HV := hide hv
  obtain ⟨ao, cap, rfl, hc1, hc2⟩ := hv.shape
  unfold maxLen at hc2
  have HC := hide hC
  clear hv hC
  go_enter Try.func86, Try.ntmps86
  go_wp2_with fail
  go_loopw [8] (fun iv wr => ∃ (j : Nat), j ≤ l.length ∧ iv = .int .i64 j ∧ idxP (fun s => decide (s.p.id = id)) (l.drop j) j = idxS l id ∧ Below w.heap.size w wr)
    (fun iv _ => l.length - (intOf iv).toNat)
  case atStart => exact ⟨0, by omega, rfl, rfl, Below.refl _ _⟩
  case round =>
    obtain ⟨j, hj, rfl, hgo, hbr⟩ := hrel
    have HG := hide hgo
    have HB := hide hbr
    clear hgo
    by_cases hlt : j < l.length
    · obtain ⟨x, hx⟩ : ∃ x, l[j]? = some x := ⟨_, List.getElem?_eq_getElem hlt⟩
      obtain ⟨b, off, rfl, hb, hat⟩ := HV.out.here hx
      have hbw : b < wr.heap.size := Nat.lt_of_lt_of_le hb hbr.size
      obtain ⟨c0, c1, c2, c3, c4, c5⟩ := (hat.below hbr).slot
      have HN := hide (numberOf1_any x C id wr (HC.out.later hbr))
      rw [show slE.ag x = .agg #[.string x.p.fr, .string x.p.to_, .int .i64 x.p.id, .int .i64 x.st, .int .i64 x.ho, .int .i64 x.tu] from rfl] at HN
      rw [drop_consI hx] at HG
      have hk1 : (0 : Int) ≤ (j : Int) := by omega
      have hk2 : (j : Int) < (l.length : Int) := by omega
      clear hat hx hbr
      by_cases hid : x.p.id = id
      · have HE := hide (HG.out.symm.trans (idxP_yes (by simp [hid])))
        rw [decide_eq_true hid] at HN
        clear hid
        go_wp2_with (go_at_call 104; refine HN.out.mono ?_; rintro e w1 ⟨rfl, hb1⟩; have HB1 := hide (HB.out.trans (hb1.mono HB.out.size)); clear hb1)
        go_ret
        exact ⟨by rw [HE.out]; rfl, HB1.out⟩
      · have HE := hide ((idxP_no (r := l.drop (j + 1)) (i := j) (f := fun s => decide (s.p.id = id)) (x := x) (by simp [hid])).symm.trans HG.out)
        rw [decide_eq_false hid] at HN
        clear hid
        go_wp2_with (go_at_call 104; refine HN.out.mono ?_; rintro e w1 ⟨rfl, hb1⟩; have HB1 := hide (HB.out.trans (hb1.mono HB.out.size)); clear hb1)
        go_roundw
        case rel => exact ⟨j + 1, by omega, by go_num, HE.out, HB1.out⟩
        case measure => simp [intOf]; omega
    · have hje : j = l.length := by omega
      subst hje
      rw [List.drop_length] at HG
      have HE := hide HG.out.symm
      clear hbr
      go_wp2_with fail
      go_ret
      exact ⟨by rw [HE.out]; rfl, HB.out⟩

set_option maxRecDepth 100000 in
set_option maxHeartbeats 1000000 in
theorem numberOf_any (base B : Nat) (b : Bd) (hv sv : Value) (id : Int) (w : World) (h : BdAt w base B b hv sv) :
    Calls Try.prog 94 #[.pointer (some ⟨B, 0, none⟩), .int .i64 id] w fun e w' => e = .returned (.int .i64 (posI (idxS b.sl id))) ∧ Below w.heap.size w w' := by
  obtain ⟨ah, ch, rfl⟩ := owns_shapeA h.hos
  obtain ⟨as_, cs, rfl⟩ := owns_shapeA h.slo
  have hA := below_allocG w (.cells #[.int .i64 id] 3)
  have HI := hide (IndexSlot_any w.heap.size id _ b.sl _ ((RdG.ofOwns h.slo).below hA) (Blk.new w 3 #[.int .i64 id]))
  have HA := hide hA
  have b1 := (h.blk.later hA).cell 1
  have bl := (h.blk.later hA).lt
  simp only [List.getElem?_toArray, List.getElem?_cons_succ, List.getElem?_cons_zero] at b1
  generalize hW : w.alloc (.cells #[.int .i64 id] 3) = W at HI HA b1 bl
  clear h hA
  go_enter Try.func94, Try.ntmps94
  go_upto_region 1 with fail
  clear hW
  go_wp2_with (go_at_call 86; refine HI.out.mono ?_; rintro e w1 ⟨rfl, hb1⟩; have HB1 := hide (HA.out.trans (hb1.mono HA.out.size)); clear hb1)
  go_ret
  exact ⟨rfl, HB1.out⟩

set_option maxRecDepth 100000 in
set_option maxHeartbeats 1000000 in
theorem slot_any (base B : Nat) (b : Bd) (hv sv : Value) (id : Int) (w : World) (h : BdAt w base B b hv sv) :
    Calls Try.prog 91 #[.pointer (some ⟨B, 0, none⟩), .int .i64 id] w fun e w' => e = .returned (elP sv 6 (idxS b.sl id)) ∧ Below w.heap.size w w' := by
  have HN := hide (numberOf_any base B b hv sv id w h)
  have HS := hide (fun k (hk : idxS b.sl id = some k) => idxS_some hk)
  have HH := hide h
  obtain ⟨ah, ch, rfl⟩ := owns_shapeA h.hos
  obtain ⟨as_, cs, rfl⟩ := owns_shapeA h.slo
  clear h
  cases hk : idxS b.sl id with
  | none =>
    rw [hk] at HN
    clear hk HS HH
    unfold posI at HN
    go_enter Try.func91, Try.ntmps91
    go_wp2_with (go_at_call 94; refine HN.out.mono ?_; rintro e w1 ⟨rfl, hb1⟩)
    go_ret
    exact ⟨rfl, hb1⟩
  | some k =>
    obtain ⟨x, hx, _⟩ := HS.out k hk
    obtain ⟨g, cap, hve, hg1, hg2, hat⟩ := owns_here HH.out.slo hx
    simp only [Value.slice.injEq] at hve
    obtain ⟨rfl, _, rfl⟩ := hve
    have hkl : k < b.sl.length := (List.getElem?_eq_some_iff.1 hx).1
    have hk1 : (0 : Int) ≤ (k : Int) := by omega
    have hk2 : (k : Int) < (b.sl.length : Int) := by omega
    rw [hk] at HN
    clear hk HS hat hx
    unfold posI at HN
    go_enter Try.func91, Try.ntmps91
    go_upto_region 2 with (go_at_call 94; refine HN.out.mono ?_; rintro e w1 ⟨rfl, hb1⟩)
    have b1 := (HH.out.blk.later hb1).cell 1
    have bl := (HH.out.blk.later hb1).lt
    simp at b1
    have HB1 := hide hb1
    clear hb1 HH
    go_wp2_with fail
    go_ret
    exact ⟨rfl, HB1.out⟩

/-- Why a slot is not there, or not in a state. -/
def slF (l : List Sl) (o : Option Nat) (st : Int) : Int × Int :=
  match o with
  | none => (6, -1)
  | some i => if (l.getD i zeroSl).st ≠ st then (11, -1) else (0, 0)

/-- .. or not given so. -/
def heF (l : List Sl) (o : Option Nat) (ho tu st : Int) : Int × Int :=
  match o with
  | none => (6, -1)
  | some i => if (l.getD i zeroSl).ho ≠ ho ∨ (l.getD i zeroSl).tu ≠ tu then (12, -1) else slF l (some i) st

set_option maxRecDepth 100000 in
set_option maxHeartbeats 1000000 in
theorem slotFault_nil (l : List Sl) (sv : Value) (st : Int) (w : World) :
    Calls Try.prog 92 #[elP sv 6 none, .int .i64 st] w fun e w' => e = .returned (flt (slF l none st)) ∧ Below w.heap.size w w' := by
  rw [elP_none]
  go_enter Try.func92, Try.ntmps92
  go_wp2_with fail
  exact bodyPost_ret (v := flt (6, -1)) (by simp [results, Try.results92, go_sem, flt]) rfl ⟨rfl, by go_grown⟩

set_option maxRecDepth 100000 in
set_option maxHeartbeats 1000000 in
theorem slotFault_some (base : Nat) (l : List Sl) (sv : Value) (k : Nat) (st : Int) (w : World) (h : w.ownsRow base 46 6 sv l.length (slE.vs l)) (hk : k < l.length) :
    Calls Try.prog 92 #[elP sv 6 (some k), .int .i64 st] w fun e w' => e = .returned (flt (slF l (some k) st)) ∧ Below w.heap.size w w' := by
  obtain ⟨x, hx⟩ : ∃ x, l[k]? = some x := ⟨_, List.getElem?_eq_getElem hk⟩
  have hgd : l.getD k zeroSl = x := by rw [List.getD_eq_getElem?_getD, hx]; rfl
  obtain ⟨g, cap, rfl, hg1, hg2, hat⟩ := owns_here h hx
  obtain ⟨c0, c1, c2, c3, c4, c5⟩ := hat.slot
  rw [elP_some]
  have HF : Hid (slF l (some k) st = if x.st ≠ st then (11, -1) else (0, 0)) := hide (by simp only [slF, hgd])
  clear h hat hx hgd c0 c1 c2 c4 c5
  by_cases hs : x.st ≠ st
  · have q1 : (x.st != st) = true := by simp [hs]
    have q2 : (x.st == st) = false := beq_eq_false_iff_ne.2 hs
    have HE := hide (HF.out.trans (if_pos hs))
    clear hs HF
    go_enter Try.func92, Try.ntmps92
    go_wp2_with fail
    exact bodyPost_ret (v := flt (11, -1)) (by simp [results, Try.results92, go_sem, flt]) rfl ⟨by rw [HE.out], by go_grown⟩
  · have hs' : x.st = st := Decidable.not_not.1 hs
    have q1 : (x.st != st) = false := by simp [hs']
    have q2 : (x.st == st) = true := by simp [hs']
    have HE := hide (HF.out.trans (if_neg hs))
    clear hs hs' HF
    go_enter Try.func92, Try.ntmps92
    go_wp2_with fail
    exact bodyPost_ret (v := flt (0, 0)) (by simp [results, Try.results92, go_sem, flt]) rfl ⟨by rw [HE.out], by go_grown⟩

end Go.Proofs.Ytoeobhehjnkkkaa
