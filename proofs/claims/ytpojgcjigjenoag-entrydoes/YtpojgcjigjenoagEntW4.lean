/-
  The walks over slices.Clone, Grow and Concat of entries, entry.putBehind and entry.Put.
-/
import Derived.Test.YtpojgcjigjenoagEntW3
import Derived.Test.YtpojgcjigjenoagGenC
import Derived.Lib.SmallJoins
namespace Go.Proofs.Ytpojgcjigjenoag
open Go.RowKit
set_option linter.unusedVariables false

/-- A block of two slices that was laid for them. -/
theorem RdLG.two {α : Type} {K : Nat} {E : En α K} (w : World) (e : TypeId) {a b : Value} {la lb : List α} (ha : RdG E w a la) (hb : RdG E w b lb) :
    RdLG E (w.alloc (.cells #[a, b] e)) (.slice (some ⟨w.heap.size, 0, none⟩) 2 2) [la, lb] := by
  refine ⟨[a, b], ⟨some ⟨w.heap.size, 0, none⟩, 2, rfl, Nat.le_refl _, by decide, (fun h => by cases h), fun ad had j v hv => ?_⟩, rfl, fun i u l hu hl => ?_⟩
  · cases had
    rw [Addr.add_lit, Nat.zero_add, ← hv]
    have := cell_of_row (w.alloc (.cells #[a, b] e)) w.heap.size j _ e (0, 0) (heap_alloc_new w _)
    rw [this]
    simp
  · match i, hu, hl with
    | 0, hu, hl => simp at hu hl; subst hu hl; exact ha.alloc _
    | 1, hu, hl => simp at hu hl; subst hu hl; exact hb.alloc _

set_option maxRecDepth 100000 in
set_option maxHeartbeats 1000000 in
theorem growE_any (n : Nat) (w : World) (hn : n ≤ 1000000) :
    Calls Try.prog 98 #[.slice none 0 0, .int .i64 n] w fun e w' => ∃ v', e = .returned v' ∧ w'.ownsRow w.heap.size 72 2 v' 0 (eE.vs []) ∧ Below w.heap.size w w' := by
  by_cases h0 : n = 0
  · subst h0
    go_enter Try.func98, Try.ntmps98
    go_wp2_with fail
    go_ret
    exact ⟨_, rfl, World.ownsRow_nil _ _ _ _, Below.refl _ _⟩
  · obtain ⟨G, w1, hr, hg1, hg2, hown, hbel⟩ := run_grow_nil (P := Try.prog) w (ty := 59) Try.underlying59 Try.underlying3 infoEntry rfl (by decide) (by decide) n (by omega) hn
    have hs1 := run_slice_uptoK (K := 2) (P := Try.prog) Try.underlying59 (by kernel_rfl) infoEntry none 0 0 0 (0 : Int) rfl (Nat.le_refl _)
    have hs2 := run_slice_uptoK (K := 2) (P := Try.prog) Try.underlying59 (by kernel_rfl) infoEntry (some ⟨w.heap.size, 0, none⟩) n G 0 (0 : Int) rfl (Nat.zero_le _)
    have e1 : Go.sliced none 0 0 0 2 = .slice none 0 0 := rfl
    have e2 : Go.sliced (some ⟨w.heap.size, 0, none⟩) 0 0 G 2 = .slice (some ⟨w.heap.size, 0, none⟩) 0 G := by unfold Go.sliced; split <;> simp [Addr.add]
    rw [e1] at hs1
    rw [e2] at hs2
    have h1 : (0 : Int) < (n : Int) := by omega
    unfold maxLen at hg2
    clear e1 e2
    go_enter Try.func98, Try.ntmps98
    go_wp2_with (at_builtin; refine Lib.wpList_append_run _ rfl _ _ _ _ rfl _ _ rfl rfl _ _ hr ?_)
    go_ret
    exact ⟨_, rfl, hown, hbel⟩

/-- How many there are in the first lists. -/
def tlenE (ls : List (List Et)) : Nat := ls.flatten.length

theorem take_flatE {ls : List (List Et)} {k : Nat} {l : List Et} (h : ls[k]? = some l) : (ls.take (k + 1)).flatten = (ls.take k).flatten ++ l := by
  obtain ⟨hl, rfl⟩ := List.getElem?_eq_some_iff.1 h
  rw [List.take_succ_eq_append_getElem hl, List.flatten_append]
  simp

theorem flat_leE {ls : List (List Et)} (k : Nat) : (ls.take k).flatten.length ≤ ls.flatten.length := by
  have : ls.flatten = (ls.take k).flatten ++ (ls.drop k).flatten := by rw [← List.flatten_append, List.take_append_drop]
  rw [this, List.length_append]
  omega

set_option maxRecDepth 100000 in
set_option maxHeartbeats 2000000 in
theorem concatE_any (v : Value) (ls : List (List Et)) (w : World) (hv : RdLG eE w v ls) (hl : ls.flatten.length ≤ 100000) :
    Calls Try.prog 87 #[v] w fun e w' => ∃ v', e = .returned v' ∧ RdG eE w' v' ls.flatten ∧ Below w.heap.size w w' ∧ New w.heap.size v' := by
  obtain ⟨ao, cap, hvv, hc1, hc2⟩ := hv.shape
  subst hvv
  unfold maxLen at hc2
  go_enter Try.func87, Try.ntmps87
  go_wp2_with fail
  go_loop [3, 11] (fun sv iv => ∃ (j : Nat), j ≤ ls.length ∧ iv = .int .i64 j ∧ sv = .int .i64 ((ls.take j).flatten.length))
    (fun _ iv => ls.length - (intOf iv).toNat)
  case atStart => exact ⟨0, by omega, rfl, by simp⟩
  case round =>
    obtain ⟨j, hj, rfl, rfl⟩ := hrel
    have hle := flat_leE (ls := ls) j
    generalize hN : (ls.take j).flatten.length = N at *
    by_cases hlt : j < ls.length
    · obtain ⟨l, hx⟩ : ∃ x, ls[j]? = some x := ⟨_, List.getElem?_eq_getElem hlt⟩
      obtain ⟨b, off, u, rfl, hb, hc, hru⟩ := hv.here hx
      obtain ⟨uo, uc, huu, hu1, hu2⟩ := hru.shape
      subst huu
      have hk1 : (0 : Int) ≤ (j : Int) := by omega
      have hk2 : (j : Int) < (ls.length : Int) := by omega
      have hle2 := flat_leE (ls := ls) (j + 1)
      have HT := hide (show (ls.take (j + 1)).flatten.length = N + l.length by rw [take_flatE hx, List.length_append, hN])
      have hsm : N + l.length ≤ 100000 := by rw [← HT.out]; omega
      have hnn : ¬ ((N : Int) + (l.length : Int) < 0) := by omega
      clear hN hx hle hle2
      go_wp2_with fail
      go_round
      case rel => exact ⟨j + 1, by omega, by go_num, by rw [HT.out]; go_num⟩
      case measure => simp [intOf]; omega
    · have hje : j = ls.length := by omega
      subst hje
      rw [List.take_length] at hN
      have hN2 : N ≤ 1000000 := by omega
      have HN := hide hN
      clear hN hle
      go_wp2_with fail
      refine (growE_any N _ hN2).mono ?_
      rintro e w1 ⟨v1, rfl, hown1, hb1⟩
      obtain ⟨vo, vc, hvs⟩ : ∃ ao cap, v1 = .slice ao 0 cap := by
        rcases hown1.2 with ⟨rfl, hn⟩ | ⟨g, cap, cur, rfl, _⟩
        · exact ⟨none, 0, rfl⟩
        · exact ⟨_, _, rfl⟩
      subst hvs
      go_wp2_with fail
      go_loopw [6, 27] (fun sv iv wr => ∃ (j : Nat) (s : Value), j ≤ ls.length ∧ iv = .int .i64 j ∧ s = sv ∧ wr.ownsRow w.heap.size 72 2 s (ls.take j).flatten.length (eE.vs (ls.take j).flatten) ∧ Below w.heap.size w wr)
        (fun _ iv _ => ls.length - (intOf iv).toNat)
      case atStart => exact ⟨0, _, by omega, rfl, rfl, by simpa using hown1, hb1⟩
      case round =>
        obtain ⟨j, s, hj, rfl, rfl, hown, hbel⟩ := hrel
        have hle := flat_leE (ls := ls) j
        by_cases hlt : j < ls.length
        · obtain ⟨l, hx⟩ : ∃ x, ls[j]? = some x := ⟨_, List.getElem?_eq_getElem hlt⟩
          obtain ⟨b, off, u, rfl, hb, hc, hru⟩ := (hv.below hbel).here hx
          obtain ⟨uo, uc, huu, hu1, hu2⟩ := hru.shape
          subst huu
          have hk1 : (0 : Int) ≤ (j : Int) := by omega
          have hk2 : (j : Int) < (ls.length : Int) := by omega
          have hle2 := flat_leE (ls := ls) (j + 1)
          have HT := hide (take_flatE hx)
          rw [take_flatE hx, List.length_append] at hle2
          generalize (ls.take j).flatten = F at *
          obtain ⟨so, sc, hso⟩ : ∃ ao cap, s = .slice ao F.length cap := by
            rcases hown.2 with ⟨rfl, hn⟩ | ⟨g, cap, cur, rfl, _⟩
            · exact ⟨none, 0, by rw [hn]⟩
            · exact ⟨_, _, rfl⟩
          subst hso
          have h63 : F.length + l.length ≤ 1000000000 := by omega
          have hbs := hbel.size
          clear hx
          go_wp2_with (at_builtin; go_must (refine wpList_append_rdG hown hru Try.underlying59 infoEntry rfl rfl rfl rfl rfl h63 (by decide) hbs ?_); intro v2 w2 hown2 hb2 hg2; clear hg2)
          go_roundw
          case rel => exact ⟨j + 1, _, by omega, by go_num, rfl, by rw [HT.out, List.length_append]; exact hown2, hbel.trans hb2⟩
          case measure => simp [intOf]; omega
        · have hje : j = ls.length := by omega
          subst hje
          rw [List.take_length] at hown
          go_wp2_with fail
          go_ret
          exact ⟨_, rfl, RdG.ofOwns hown, hbel, New.owns hown⟩

set_option maxRecDepth 100000 in
set_option maxHeartbeats 1000000 in
theorem CloneE_any (v : Value) (l : List Et) (w : World) (hv : RdG eE w v l) (hl : l.length ≤ 1000) :
    Calls Try.prog 67 #[v] w fun e w' => ∃ v', e = .returned v' ∧ w'.ownsRow w.heap.size 72 2 v' l.length (eE.vs l) ∧ Below w.heap.size w w' := by
  have HV := hide hv
  obtain ⟨ao, cap, rfl, hc1, hc2⟩ := hv.shape
  cases ao with
  | none =>
    have hcap : cap = 0 := by
      obtain ⟨ao', cap', e, h1, h2, h3, _⟩ := hv
      simp only [Value.slice.injEq] at e
      obtain ⟨rfl, _, rfl⟩ := e
      exact h3 rfl
    subst hcap
    obtain rfl : l = [] := List.eq_nil_of_length_eq_zero (by omega)
    clear hv
    show Calls Try.prog 67 #[.slice none 0 0] w _
    have heq : ∀ W, (binOp .eql 59 (.slice none 0 0) (.slice none 0 0)).run Try.prog W = .ok (.bool true) W := fun W => by kernel_rfl
    go_enter Try.func67, Try.ntmps67
    go_wp2_with fail
    go_ret
    exact ⟨_, rfl, World.ownsRow_nil _ _ _ _, Below.refl _ _⟩
  | some a =>
    have hl2 : 0 + l.length ≤ 1000000000 := by omega
    have hown : (w.alloc (.cells #[] 72)).ownsRow w.heap.size 72 2 (.slice (some ⟨w.heap.size, 0, none⟩) 0 0) 0 (eE.vs []) := World.ownsRow_made w #[] 0 (Nat.le_refl _) (by decide) rfl
    have hb8 : w.heap.size ≤ (w.alloc (.cells #[] 72)).heap.size := by simp
    have heq : ∀ W, (binOp .eql 59 (.slice (some a) l.length cap) (.slice none 0 0)).run Try.prog W = .ok (.bool false) W := fun W => Lib.run_eql_slice_nil W _ _ _ _ _ _ _ Try.underlying59
    have HV1 := hide (hv.alloc (.cells #[] 72))
    have HBA := hide (below_allocG w (.cells #[] 72))
    clear hv
    go_enter Try.func67, Try.ntmps67
    go_wp2_with (at_builtin; go_must (refine wpList_append_rdG (E := eE) (cs := []) hown HV1.out Try.underlying59 infoEntry rfl rfl rfl rfl rfl hl2 (by decide) hb8 ?_); intro v1 w1 ho1 hb1 hg1; clear hg1)
    go_ret
    exact ⟨_, rfl, by simpa using ho1, HBA.out.trans hb1⟩


set_option maxRecDepth 100000 in
set_option maxHeartbeats 2000000 in
theorem putBehind_any (v o : Value) (l m : List Et) (k : Nat) (A : Int) (w : World) (hv : RdG eE w v l) (ho : RdG eE w o m) (hA : A = k) (hk : k ≤ l.length) (hl : l.length ≤ 1000) (hm : m.length ≤ 1000) :
    Calls Try.prog 68 #[v, .int .i64 A, o] w fun e w' => ∃ v', e = .returned v' ∧ RdG eE w' v' (putGo l k m) ∧ Below w.heap.size w w' := by
  have HV := hide hv
  have HO := hide ho
  obtain ⟨ao, cap, rfl, hc1, hc2⟩ := hv.shape
  obtain ⟨oo, oc, rfl, hc3, hc4⟩ := ho.shape
  subst hA
  unfold maxLen at hc2 hc4
  have HG0 : Hid (putGo l k m = putGo l k m) := hide rfl
  generalize hP : putGo l k m = P at HG0 ⊢
  have HP := hide hP
  clear hv ho hP
  go_enter Try.func68, Try.ntmps68
  go_wp2_with fail
  go_loopw [11] (fun iv wr => ∃ (j : Nat), j ≤ m.length ∧ iv = .int .i64 j ∧ k + j ≤ l.length ∧ putGo l (k + j) (m.drop j) = P ∧ Below w.heap.size w wr)
    (fun iv _ => m.length - (intOf iv).toNat)
  case atStart => exact ⟨0, by omega, rfl, by omega, HP.out, Below.refl _ _⟩
  case round =>
    obtain ⟨j, hj, rfl, hkj, hgo, hbr⟩ := hrel
    have HGO := hide hgo
    have HBR := hide hbr
    clear hgo
    by_cases hlt : j < m.length
    · obtain ⟨c, hc⟩ : ∃ c, m[j]? = some c := ⟨_, List.getElem?_eq_getElem hlt⟩
      have HD := hide (drop_consE hc)
      rw [HD.out, putGo] at HGO
      obtain ⟨b, off, rfl, hb, hat⟩ := HO.out.here hc
      obtain ⟨q0, q1⟩ := hat.ent
      have r0 := cell_belowG q0 hbr
      have r1 := cell_belowG q1 hbr
      have hb' : b < wr.heap.size := Nat.lt_of_lt_of_le hb hbr.size
      have hk1 : (0 : Int) ≤ (j : Int) := by omega
      have hk2 : (j : Int) < (m.length : Int) := by omega
      obtain ⟨t, x⟩ := c
      simp only at r0 r1 HGO
      have hbA := below_allocG wr (.cells #[.int .i64 t, .string x] 72)
      have hV1 := (HV.out.below hbr).below hbA
      have hO1 := (HO.out.below hbr).below hbA
      have HHAS := hide (has_any _ l (k + j + 1) ((k : Int) + (j : Int) + 1) t _ hV1 (by omega) (by omega))
      clear q0 q1 hat hc
      cases hh : hasE l (k + j + 1) t
      · have HE := hide (HGO.out.symm.trans (if_neg (by rw [hh]; simp)))
        rw [hh] at HHAS
        have hs1 := run_slice_uptoK (K := 2) (P := Try.prog) Try.underlying59 (by kernel_rfl) infoEntry ao l.length cap (k + j) ((k : Int) + (j : Int)) (by omega) (by omega)
        have hs2 := run_slice_fromK (K := 2) (P := Try.prog) Try.underlying59 (by kernel_rfl) infoEntry (some ⟨b, off, none⟩) m.length oc j j rfl hj
        have hr1 := hV1.upto (hi := k + j) hkj
        have hr2 := hO1.from (lo := j) hj
        obtain ⟨x1, hx1⟩ : ∃ x, Go.sliced ao 0 (k + j) cap 2 = x := ⟨_, rfl⟩
        obtain ⟨x2, hx2⟩ : ∃ x, Go.sliced (some ⟨b, off, none⟩) j m.length oc 2 = x := ⟨_, rfl⟩
        rw [hx1] at hs1 hr1
        rw [hx2] at hs2 hr2
        obtain ⟨y1, z1, hy1, _, _⟩ := hr1.shape
        obtain ⟨y2, z2, hy2, _, _⟩ := hr2.shape
        subst hy1 hy2
        have hll := RdLG.two (wr.alloc (.cells #[.int .i64 t, .string x] 72)).drew 59 hr1.drew hr2.drew
        have hsz : [l.take (k + j), m.drop j].flatten.length ≤ 100000 := by simp; omega
        have HLL := hide (concatE_any _ _ _ hll hsz)
        rw [show [l.take (k + j), m.drop j].flatten = P by rw [HE.out, HD.out]; simp] at HLL
        have hbs := hbr.size
        have HBA := hide (show Below w.heap.size w ((wr.alloc (.cells #[.int .i64 t, .string x] 72)).drew.alloc (.cells #[.slice y1 (l.take (k + j)).length z1, .slice y2 (m.drop j).length z2] 59)) by go_grown)
        have hwr : IntKind.i64.wrap ((k : Int) + (j : Int)) = (k : Int) + (j : Int) := by rw [IntKind.wrap_i64]; omega
        have hi0 : (0 : Int) ≤ (k : Int) + (j : Int) := by omega
        have hi1 : (k : Int) + (j : Int) ≤ (l.length : Int) := by omega
        have hi2 : (k : Int) + (j : Int) ≤ (cap : Int) := by omega
        have hi3 : (j : Int) ≤ (m.length : Int) := by omega
        clear hx1 hx2 hr1 hr2 hll hV1 hO1 hbA hsz hh hbr
        generalize l.take (k + j) = L1 at *
        generalize m.drop j = L2 at *
        go_wp2_with (go_at_call 66; refine HHAS.out.mono ?_; rintro e w2 ⟨rfl, rfl⟩)
        generalize hA : wr.alloc (.cells #[.int .i64 t, .string x] 72) = A at HLL HBA ⊢
        clear hA
        go_region_held3 (fun _ => True) (trivial) (first
          | (go_at_call 87; refine HLL.out.mono ?_; rintro e w2 ⟨v2, rfl, hr2, hb2, hn2⟩))
        all_goals
          go_wp2_with fail
          go_ret
          exact ⟨_, rfl, hr2, HBA.out.trans (hb2.mono HBA.out.size)⟩
      · have HE := hide (HGO.out.symm.trans (if_pos hh))
        have hle := hasE_le hh
        rw [hh] at HHAS
        clear hV1 hO1 hh hbr hbA
        go_wp2_with (go_at_call 66; refine HHAS.out.mono ?_; rintro e w2 ⟨rfl, rfl⟩)
        go_roundw
        case rel => exact ⟨j + 1, by omega, by go_num, by omega, HE.out.symm, HBR.out.trans ((below_allocG wr _).mono HBR.out.size)⟩
        case measure => simp [intOf]; omega
    · have hje : j = m.length := by omega
      subst hje
      rw [List.drop_length, putGo] at HGO
      have HC := hide (CloneE_any _ l _ (HV.out.below hbr) hl)
      clear hbr
      go_wp2_with fail
      refine HC.out.mono ?_
      rintro e w2 ⟨v2, rfl, ho2, hb2⟩
      go_wp2_with fail
      go_ret
      exact ⟨_, rfl, by rw [← HGO.out]; exact RdG.ofOwns ho2, HBR.out.trans (hb2.mono HBR.out.size)⟩

end Go.Proofs.Ytpojgcjigjenoag
