/-
  Texts joined: WalR4, AppliesMath, LawApplies, Frame, FrameC, FrameL, FrameB.
-/
import Derived.Test.YtdodajalejfbiadMWalApplies12
import Derived.ProofKit
import Derived.OpenShut
import Derived.ShutString
import Derived.ChangeOld
import Derived.Below
import Derived.SliceStrings
import Derived.SizedLaws
import Derived.Deep.Slices
import Derived.Lib.SmallJoins
/-
  The walks over the law's ownNotes, WalApplies' own function, and cellsAs of it.
-/
namespace Go.Proofs.Ytdodajalejfbiad
open Go.RowKit

theorem owns_shape2 {w : World} {base : Nat} {e : TypeId} {v : Value} {n : Nat} {xs : List Value} (h : w.ownsRow base e 2 v n xs) : ∃ ao cap, v = .slice ao n cap := by
  rcases h.2 with ⟨rfl, hn⟩ | ⟨g, cap, cur, rfl, _⟩
  · exact ⟨none, 0, by rw [hn]⟩
  · exact ⟨_, _, rfl⟩

theorem Try.infoN41 : (Try.prog.info? 41).map (fun i => (i.zero, i.size, i.bytes)) = some (some (.agg #[.int .i64 0, .slice none 0 0]), 2, 32) := by kernel_rfl

set_option maxRecDepth 100000 in
set_option maxHeartbeats 1000000 in
theorem ownNotes_any (v : Value) (ns : List Nt) (w : World) (hv : RdN w v ns) (hlen : ns.length ≤ 1100) (hb : ∀ n ∈ ns, n.cells.length ≤ 1000000) :
    Calls Try.prog 44 #[v] w fun e w' => ∃ v' ps, e = .returned v' ∧ w'.ownsRow w.heap.size 41 2 v' ns.length (nn ps) ∧ NtO w' v' ps ns ∧ Below w.heap.size w w' := by
  obtain ⟨ao, cap, hvv, hc1, hc2⟩ := hv.shape
  subst hvv
  unfold maxLen at hc2
  have HB := hide hb
  clear hb
  go_enter Try.func44, Try.ntmps44
  go_wp2_with fail
  go_loopw [3, 4] (fun o i wr => ∃ (k : Nat) (ps : List (Int × Value)), k ≤ ns.length ∧ i = .int .i64 k ∧ NtO wr o ps (ns.take k) ∧ wr.ownsRow w.heap.size 41 2 o k (nn ps) ∧ Below w.heap.size w wr)
    (fun _ i _ => ns.length - (intOf i).toNat)
  case atStart => exact ⟨0, [], by omega, rfl, by simpa using NtO.nil _ _, World.ownsRow_nil _ _ _ _, Below.refl _ _⟩
  case round =>
    obtain ⟨k, ps, hk, rfl, hpc, hown, hbel⟩ := hrel
    have hzr := hbel.size
    by_cases hlt : k < ns.length
    · obtain ⟨n, hn⟩ : ∃ n, ns[k]? = some n := ⟨_, List.getElem?_eq_getElem hlt⟩
      obtain ⟨b1, o1, x, rfl, hb1, k0, k1, hr⟩ := (hv.below hbel).hereD hn
      have hll := HB.out n (List.mem_of_getElem? hn)
      have HTK : Hid (ns.take (k + 1) = ns.take k ++ [n]) := hide (by rw [List.take_add_one, hn]; rfl)
      obtain ⟨s, cs⟩ := n
      simp only at k0 hr hll
      obtain ⟨xo, xc, hxx, _, _⟩ := hr.shape
      subst hxx
      have hk1 : (0 : Int) ≤ (k : Int) := by omega
      have hk2 : (k : Int) < (ns.length : Int) := by omega
      have HPC := hide hpc
      have HR := hide hr
      obtain ⟨oo, ocap, hvo⟩ := owns_shape2 hown
      subst hvo
      have hl8 : k ≤ 100000000 := by omega
      clear hn hpc hr
      go_wp2_with (first
        | (at_builtin; go_must (refine wpList_append_one2E (q := s) rfl how5 Try.underlying62 Try.infoN41 rfl rfl rfl rfl rfl hl8 (by decide) hb8 ?_); intro v6 w6 ho6 hb6 he6)
        | (go_at_call 20; refine (ownNote_any s _ cs _ HR.out hll).mono ?_; rintro e w5 ⟨v5, rfl, hr5, hb5, hn5⟩; obtain ⟨ao5, cap5, hv5, _, _⟩ := hr5.shape; subst hv5; unfold ntA; have how5 := owns_below hown hb5; have hb8 := Nat.le_trans hzr hb5.size))
      have hoff5 : Off (.slice oo k ocap) (.slice ao5 cs.length cap5) := fun a l' c' he _ hg => by
        have h1 := hn5 a l' c' he
        have h2 := (hown.lt a.block hg).2
        omega
      have hpc5 := NtO.snoc (n := ⟨s, cs⟩) (HPC.out.ext (Ext.ofBelow _ hb5)) hr5 hoff5
      have hpc6 := hpc5.ext he6
      rw [← HTK.out] at hpc6
      go_roundw
      case rel => exact ⟨k + 1, _, by omega, by go_num, hpc6, ho6, (hbel.trans (hb5.mono hzr)).trans hb6⟩
      case measure => simp [intOf]; omega
    · have hkl : k = ns.length := by omega
      subst hkl
      rw [List.take_length] at hpc
      have HPC := hide hpc
      have HO := hide hown
      clear hpc hown
      go_wp2_with fail
      go_ret
      exact ⟨_, ps, rfl, HO.out, HPC.out, hbel⟩

set_option maxRecDepth 100000 in
set_option maxHeartbeats 400000 in
theorem Applies1_any (L : Nat) (v : Value) (cs : List Cl) (w : World) (hL : w.cell? ⟨L, 0, none⟩ = some v) (hv : RdC w v cs) :
    Calls Try.prog 49 #[.pointer (some ⟨L, 0, none⟩)] w fun e w' => ∃ v', e = .returned v' ∧ RdC w' v' cs ∧ Below w.heap.size w w' := by
  obtain ⟨ao, cap, hu, hc1, hc2⟩ := hv.shape
  subst hu
  go_enter Try.func49, Try.ntmps49
  go_wp2_with fail
  go_ret
  exact ⟨_, rfl, hv, Below.refl _ _⟩

set_option maxRecDepth 100000 in
set_option maxHeartbeats 1000000 in
theorem cellsAsP_true (p1 v : Value) (cs : List Cl) (c a : Int) (w : World) (hv : RdC w v cs) (hbad : c ≠ 0 → cs = [])
    (hcl : c = 0 → ∀ W, Below w.heap.size w W → Calls Try.prog 49 #[p1] W fun e w' => ∃ v', e = .returned v' ∧ RdC w' v' cs ∧ Below W.heap.size W w') :
    Calls Try.prog 48 #[v, fltC (c, a), fltC (c, a), .func (.func 49) #[] #[p1]] w fun e w' => e = .returned (.bool true) ∧ Below w.heap.size w w' := by
  obtain ⟨ao, cap, hu, hc1, hc2⟩ := hv.shape
  subst hu
  unfold fltC
  have hbC : Below w.heap.size w ((w.alloc (.cells #[.int .i64 c, .int .i64 a] 28)).alloc (.cells #[.int .i64 c, .int .i64 a] 28)) := (below_alloc' _ _).trans ((below_alloc' _ _).mono (by simp))
  have HBC := hide hbC
  by_cases hc : c = 0
  · subst hc
    have HCL := hide (hcl rfl)
    clear hcl hbad hbC
    go_enter Try.func48, Try.ntmps48
    go_wp2_with fail
    refine (HCL.out _ HBC.out).mono ?_
    rintro e w1 ⟨v1, rfl, hr1, hb1⟩
    have hbw1 := HBC.out.trans (hb1.mono (by simp; omega))
    go_wp2_with fail
    refine (SameCells_any _ _ cs _ (hv.below hbw1) hr1).mono ?_
    rintro e w2 ⟨rfl, hb2⟩
    have hbw2 := hbw1.trans (hb2.mono hbw1.size)
    go_wp2_with fail
    go_ret
    exact ⟨rfl, hbw2⟩
  · have hcb : (c != 0) = true := by simp [hc]
    have he := hbad hc
    subst he
    clear hcl hbad hc hbC
    go_enter Try.func48, Try.ntmps48
    go_wp2_with fail
    go_ret
    exact ⟨by simp, HBC.out⟩

end Go.Proofs.Ytdodajalejfbiad

/-
  Plain maths of the law WalApplies.
-/
namespace Go.Proofs.Ytdodajalejfbiad
open Go.RowKit

theorem firstG_okN {f : Nat → Int} : ∀ {m i : Nat}, (∀ j, i ≤ j → j < i + m → f j = 0) → firstG f m i = (0, 0)
  | 0, _, _ => rfl
  | m + 1, i, h => by
    have h0 := h i (by omega) (by omega)
    simp only [firstG, h0, ne_eq, not_true_eq_false, if_false]
    exact firstG_okN fun j h1 h2 => h j (by omega) (by omega)

theorem checkC_okN {l : List Cl} (h1 : l.length ≤ 1000) (h2 : ∀ c ∈ l, codeC c = 0) (h3 : l.Pairwise Lt) : checkC l = (0, 0) := by
  unfold checkC faultR
  rw [if_neg (by omega)]
  refine firstG_okN fun j _ hj => ?_
  have hjl : j < l.length := by omega
  have hg := List.getElem?_eq_getElem hjl
  cases j with
  | zero => exact codeAt_first hg (h2 _ (List.mem_of_getElem? hg))
  | succ j =>
    have hd : l[j]? = some (l[j]'(by omega)) := List.getElem?_eq_getElem (by omega)
    rw [codeAt_later hg hd (h2 _ (List.mem_of_getElem? hg))]
    have hlt : Lt l[j] l[j + 1] := List.pairwise_iff_getElem.1 h3 j (j + 1) (by omega) hjl (by omega)
    have := ordC_neg.2 hlt
    rw [if_neg (by omega)]

theorem mrg_code {l : List Cl} {x : Cl} (hl : l.Pairwise Lt) (h : ∀ c ∈ l, codeC c = 0) (hx : codeC x = 0) : ∀ c ∈ mrg l [x], codeC c = 0 := fun c hc => by
  rcases (mrg_mem l [x] hl (by simp) c).1 hc with h1 | ⟨h1, _⟩
  · simp at h1; rw [h1]; exact hx
  · exact h c h1

theorem putL_code : ∀ (cs l : List Cl), l.Pairwise Lt → (∀ c ∈ l, codeC c = 0) → (∀ c ∈ cs, codeC c = 0) → ∀ c ∈ putL l cs, codeC c = 0
  | [], _, _, h, _ => h
  | x :: cs, l, hp, h, hc => putL_code cs _ (mrg_pw l [x] hp (by simp)) (mrg_code hp h (hc x (by simp))) (fun c hm => hc c (by simp [hm]))

theorem putN_code : ∀ (ns : List Nt) (l : List Cl), l.Pairwise Lt → (∀ c ∈ l, codeC c = 0) → (∀ n ∈ ns, (noteF n.seq n.cells).1 = 0) → ∀ c ∈ putN l ns, codeC c = 0
  | [], _, _, h, _ => h
  | n :: ns, l, hp, h, hn => by
    obtain ⟨_, _, _, _, _, hck⟩ := noteF_zero (hn n (by simp))
    exact putN_code ns _ (putL_pw n.cells l hp) (putL_code n.cells l hp h (fun c hc => fine_code (by rw [hck]) hc)) (fun m hm => hn m (by simp [hm]))

theorem nfGo_ok : ∀ {ns : List Nt} {i : Nat}, (∀ n ∈ ns, (noteF n.seq n.cells).1 = 0) → nfGo ns i = (0, 0)
  | [], _, _ => rfl
  | n :: r, i, h => by
    rw [nfGo, if_neg (by have := h n (by simp); omega)]
    exact nfGo_ok fun m hm => h m (by simp [hm])
theorem notesF_ok {ns : List Nt} (h1 : ns.length ≤ 1000) (h2 : ∀ n ∈ ns, (noteF n.seq n.cells).1 = 0) : notesF ns = (0, 0) := by
  rw [notesF, if_neg (by omega)]
  exact nfGo_ok h2

/-- In two portions it comes to the same. -/
theorem apply_two {l : List Cl} {ns : List Nt} (k : Nat) (h1 : (checkC l).1 = 0) (h2 : (notesF ns).1 = 0) (h3 : ¬ 1000 < (putN l ns).length) :
    applyR l (ns.take k) = (putN l (ns.take k), (0, 0)) ∧ applyR (putN l (ns.take k)) (ns.drop k) = (putN l ns, (0, 0)) := by
  obtain ⟨_, hn, hf⟩ := notesF_zero h2
  have hlt := putN_mono (l := l) (ns := ns) k
  have hft : ∀ n ∈ ns.take k, (noteF n.seq n.cells).1 = 0 := fun n h => hf n (List.mem_of_mem_take h)
  have hfd : ∀ n ∈ ns.drop k, (noteF n.seq n.cells).1 = 0 := fun n h => hf n (List.mem_of_mem_drop h)
  have e : putN (putN l (ns.take k)) (ns.drop k) = putN l ns := by rw [← putN_append, List.take_append_drop]
  refine ⟨applyR_ok h1 ?_ (by omega), ?_⟩
  · rw [notesF_ok (by rw [List.length_take]; omega) hft]
  · rw [applyR_ok ?_ ?_ (by rw [e]; exact h3), e]
    · rw [checkC_okN (by omega) (putN_code _ _ (fine_pw h1) (fun c hc => fine_code h1 hc) hft) (putN_pw _ _ (fine_pw h1))]
    · rw [notesF_ok (by rw [List.length_drop]; omega) hfd]

/-- What the law reckons ahead of all. -/
def lawW (l : List Cl) (ns : List Nt) : Int × Int := if (checkC l).1 ≠ 0 then checkC l else notesF ns

end Go.Proofs.Ytdodajalejfbiad

/-
  The walk over the law WalApplies.
-/
namespace Go.Proofs.Ytdodajalejfbiad
open Go.RowKit

theorem manyB_leP {n : Int} (h : manyB n = false) : n ≤ 2000 := by
  unfold manyB at h
  simp at h
  omega

theorem vastNB_false {ns : List Nt} (h : vastNB ns = false) : ns.length ≤ 1100 ∧ nlen ns ≤ 1300 := by
  unfold vastNB at h
  simp at h
  omega

theorem notesF_go {ns : List Nt} (h : ns.length ≤ 1000) : notesF ns = nfGo ns 0 := by rw [notesF, if_neg (by omega)]
theorem notesF_big {ns : List Nt} (h : 1000 < ns.length) : notesF ns = (2, -1) := by rw [notesF, if_pos h]

theorem fieldFlt (a b : Int) (W : World) : (Instr.field 28 (.agg #[.int .i64 a, .int .i64 b]) 0).run Try.prog W = .ok (.int .i64 a) W := by
  kernel_rfl

set_option maxRecDepth 100000 in
set_option maxHeartbeats 8000000 in
theorem walApplies_any (v u : Value) (att : Int) (l : List Cl) (ns : List Nt) (w : World) (hv : RdC w v l) (hu : RdN w u ns) (hat : -9223372036854775808 ≤ att ∧ att ≤ 9223372036854775807) (hbn : ∀ n ∈ ns, n.cells.length ≤ 2199023255552) :
    Calls Try.prog 7 #[v, u, .int .i64 att] w fun e w' => e = .returned (.bool true) ∧ Below w.heap.size w w' := by
  obtain ⟨ao, cap, hvv, hc1, hc2⟩ := hv.shape
  subst hvv
  unfold maxLen at hc2
  obtain ⟨uo, ucap, huu, hd1, hd2⟩ := hu.shape
  subst huu
  unfold maxLen at hd2
  have HBN := hide hbn
  clear hbn
  have hfld := fun (a b : Int) (W : World) => fieldFlt a b W
  go_enter Try.func7, Try.ntmps7
  go_wp2_with fail
  refine (walBegun_any _).mono ?_
  rintro e w1 ⟨rfl, hbw1⟩
  have hu1 := hu.below hbw1
  cases hq1 : vastNB ns
  case true =>
    go_wp2_with (go_at_call 42; refine (vastNotes_any _ ns _ hu1 HBN.out).mono ?_; rintro e w2 ⟨rfl, hb2⟩; rw [hq1])
    go_ret
    exact ⟨rfl, hbw1.trans (hb2.mono hbw1.size)⟩
  obtain ⟨hn11, hn13⟩ := vastNB_false hq1
  have HN1 : Hid (∀ n ∈ ns, n.cells.length ≤ 1000000) := hide (fun n hn => Nat.le_trans (nlen_mem hn) (by omega))
  go_wp2_with (go_at_call 42; refine (vastNotes_any _ ns _ hu1 HBN.out).mono ?_; rintro e w2 ⟨rfl, hb2⟩; rw [hq1])
  have hbw2 := hbw1.trans (hb2.mono hbw1.size)
  clear hq1 hb2 hbw1 hu1 HBN
  cases hmany : manyB l.length
  case true =>
    go_wp2_with fail
    refine (many_any _ _).mono ?_
    rintro e w3 ⟨rfl, rfl⟩
    rw [hmany]
    go_wp2_with fail
    go_ret
    exact ⟨rfl, hbw2⟩
  have hl2 := manyB_leP hmany
  have hl3 : l.length ≤ 1000000 := by omega
  go_wp2_with fail
  refine (many_any _ _).mono ?_
  rintro e w3 ⟨rfl, rfl⟩
  rw [hmany]
  clear hmany
  go_wp2_with fail
  refine (ownCells_any _ l _ (hv.below hbw2) hl3).mono ?_
  rintro e w4 ⟨vx, rfl, hx4, hb4, _⟩
  obtain ⟨xo, xcap, hvx, _, _⟩ := hx4.shape
  subst hvx
  have hbw4 := hbw2.trans (hb4.mono hbw2.size)
  clear hb4 hbw2
  go_wp2_with fail
  refine (ownNotes_any _ ns _ (hu.below hbw4) hn11 HN1.out).mono ?_
  rintro e w5 ⟨vy, ps, rfl, hy5, hp5, hb5⟩
  have hyy := hp5.rd hy5
  obtain ⟨yo, ycap, hvy, _, _⟩ := hyy.shape
  subst hvy
  have hx5 := hx4.below hb5
  have hbw5 := hbw4.trans (hb5.mono hbw4.size)
  clear hb5 hbw4 hx4 hy5 hp5
  go_wp2_with fail
  refine (Apply_any _ _ l ns _ hx5 hyy).mono ?_
  rintro e w6 ⟨va, rfl, ha6, hb6, _⟩
  have hx6 := hx5.below hb6
  have hy6 := hyy.below hb6
  have hbw6 := hbw5.trans (hb6.mono hbw5.size)
  clear hb6 hbw5 hx5 hyy
  generalize hAR : applyR l ns = AR at *
  obtain ⟨A, fx, fy⟩ := AR
  have HAR := hide hAR
  clear hAR
  simp only at ha6 ⊢
  obtain ⟨aao, acap, hva, _, _⟩ := ha6.shape
  subst hva
  unfold fltC
  go_upto_region 8 with fail
  have hbA := below_alloc' w6 (.cells #[.int .i64 fx, .int .i64 fy] 28)
  have hF7 := Bk.new w6 28 #[.int .i64 fx, .int .i64 fy]
  have hx7 := hx6.below hbA
  have hy7 := hy6.below hbA
  have ha7 := ha6.below hbA
  have hbw7 := hbw6.trans (hbA.mono hbw6.size)
  have hzF0 : w.heap.size ≤ w6.heap.size := hbw6.size
  generalize w6.alloc (.cells #[.int .i64 fx, .int .i64 fy] 28) = w7 at *
  generalize w6.heap.size = zF at *
  clear hbA hx6 hy6 ha6 hbw6
  go_wp2_with fail
  refine (SameCells_any _ _ l _ hx7 (hv.below hbw7)).mono ?_
  rintro e w7a ⟨rfl, hb7⟩
  have hy7a := hy7.below hb7
  have hbw7a := hbw7.trans (hb7.mono hbw7.size)
  have hF7a := hF7.below hb7 hF7.lt
  have ha7a := ha7.below hb7
  clear hb7 hx7 hy7 hbw7 hF7 ha7
  go_wp2_with fail
  refine (SameNotes_any _ _ ns _ hy7a (hu.below hbw7a)).mono ?_
  rintro e w7b ⟨rfl, hb7⟩
  have hbw7b := hbw7a.trans (hb7.mono hbw7a.size)
  have hF7b := hF7a.below hb7 hF7a.lt
  have ha7b := ha7a.below hb7
  clear hb7 hy7a hbw7a hF7a ha7a
  go_wp2_with fail
  refine (CellsFault_any _ l _ (hv.below hbw7b)).mono ?_
  rintro e w8 ⟨rfl, hb8⟩
  have hbw8 := hbw7b.trans (hb8.mono hbw7b.size)
  have hF8 := hF7b.below hb8 hF7b.lt
  have ha8 := ha7b.below hb8
  clear hb8 hbw7b hF7b ha7b
  have HAC := hide (@applyR_cells l ns)
  have HAN := hide (@applyR_notes l ns)
  have HAM := hide (@applyR_much l ns)
  have HAO := hide (@applyR_ok l ns)
  have HCZ := hide (@checkC_zero l)
  have HPW := hide (@fine_pw l)
  have HTWO := hide (fun k => @apply_two l ns k)
  rw [HAR.out] at HAC HAN HAM HAO
  generalize checkC l = CC at *
  obtain ⟨cx, cy⟩ := CC
  simp only at HAC HAN HAM HAO HCZ HPW HTWO
  unfold fltC
  have hW9 := Bk.new w8 28 #[.int .i64 cx, .int .i64 cy]
  have hbA := below_alloc' w8 (.cells #[.int .i64 cx, .int .i64 cy] 28)
  have HW9 := hide hW9
  have HBA := hide hbA
  clear hW9 hbA
  go_upto_region 11 with fail
  generalize w8.alloc (.cells #[.int .i64 cx, .int .i64 cy] 28) = w9 at *
  have hz8F := hF8.lt
  have hW := HW9.out
  have hb89 := HBA.out
  have hF := hF8.below hb89 hF8.lt
  have ha := ha8.below hb89
  have hbT := hbw8.trans (hb89.mono hbw8.size)
  clear HW9 HBA
  by_cases hcx : cx = 0
  case neg =>
    have e9 := HAC.out hcx
    simp only [Prod.mk.injEq] at e9
    obtain ⟨rfl, rfl, rfl⟩ := e9
    clear HAC HAN HAM HAO HCZ HPW HTWO
    have hcb : (fx == 0) = false := beq_eq_false_iff_ne.2 hcx
    have hcb2 : (fx != 0) = true := by simp [hcx]
    have w0 := hW.cell 0
    have w1 := hW.cell 1
    have f0 := hF.cell 0
    have f1 := hF.cell 1
    have w2 := hW.frozen 0
    have w3 := hW.frozen 1
    have hlW := hW.lt
    have hlF := hF.lt
    simp at w0 w1 f0 f1
    go_wp2_with fail
    go_loopw [12] (fun iv wr => iv = .int .i64 0 ∧ wr = w9) (fun _ _ => 0)
    case atStart => exact ⟨rfl, rfl⟩
    case round =>
      obtain ⟨rfl, rfl⟩ := hrel
      rcases Nat.eq_zero_or_pos ns.length with h0 | h0
      · have h01 : ¬ (0 : Int) < (ns.length : Int) := by omega
        go_wp2_with fail
        refine (cellsAsP_true _ _ [] fx fy _ (ha.alloc _) (fun _ => rfl) (fun h => absurd h hcx)).mono ?_
        rintro e wE ⟨rfl, hbE⟩
        have hbTE : Below wr.heap.size wr wE := (below_alloc' _ _).trans (hbE.mono (by simp))
        have hWE := hW.below hbTE hW.lt
        have g0 := hWE.cell 0
        simp at g0
        go_wp2_with fail
        go_ret
        exact ⟨rfl, hbT.trans (hbTE.mono hbT.size)⟩
      · have h01 : (0 : Int) < (ns.length : Int) := by omega
        go_wp2_with fail
        refine (cellsAsP_true _ _ [] fx fy _ (ha.alloc _) (fun _ => rfl) (fun h => absurd h hcx)).mono ?_
        rintro e wE ⟨rfl, hbE⟩
        have hbTE : Below wr.heap.size wr wE := (below_alloc' _ _).trans (hbE.mono (by simp))
        have hWE := hW.below hbTE hW.lt
        have g0 := hWE.cell 0
        simp at g0
        go_wp2_with fail
        go_ret
        exact ⟨rfl, hbT.trans (hbTE.mono hbT.size)⟩
  subst hcx
  have hcy : cy = 0 := by have := HCZ.out rfl; simpa using this
  subst hcy
  have HPW1 := hide (HPW.out rfl)
  have HAN1 := hide (fun h => HAN.out rfl h)
  have HAM1 := hide (fun h => HAM.out rfl h)
  have HAO1 := hide (fun h => HAO.out rfl h)
  have HTWO1 := hide (fun k => HTWO.out k rfl)
  clear HAC HAN HAM HAO HCZ HPW HTWO
  by_cases hbig : 1000 < ns.length
  · have e9 := HAN1.out (by rw [notesF_big hbig]; decide)
    rw [notesF_big hbig] at e9
    simp only [Prod.mk.injEq] at e9
    obtain ⟨rfl, rfl, rfl⟩ := e9
    clear HAN1 HAM1 HAO1 HTWO1 HPW1
    have w0 := hW.cell 0
    have w1 := hW.cell 1
    have f0 := hF.cell 0
    have f1 := hF.cell 1
    have w2 := hW.frozen 0
    have w3 := hW.frozen 1
    have hlW := hW.lt
    have hlF := hF.lt
    simp at w0 w1 f0 f1
    go_wp2_with fail
    refine (F_any 2 (-1) _).mono ?_
    rintro e wQ ⟨rfl, rfl⟩
    unfold flt
    go_wp2_with fail
    go_loopw [12] (fun iv wr => iv = .int .i64 0 ∧ Bk wr w8.heap.size 28 #[.int .i64 2, .int .i64 (-1)] ∧ Below w8.heap.size w8 wr) (fun _ _ => 0)
    case atStart => exact ⟨rfl, hW.store2A _ _ _, by go_grown⟩
    case round =>
      clear hF ha hbT hW f0 f1 w0 w1 w2 w3 hlW hlF
      obtain ⟨rfl, hW, hbel⟩ := hrel
      have hF := hF8.below hbel hF8.lt
      have ha := ha8.below hbel
      have hbT := hbw8.trans (hbel.mono hbw8.size)
      have w0 := hW.cell 0
      have w1 := hW.cell 1
      have f0 := hF.cell 0
      have f1 := hF.cell 1
      have w2 := hW.frozen 0
      have w3 := hW.frozen 1
      have hlW := hW.lt
      have hlF := hF.lt
      simp at w0 w1 f0 f1
      have h01 : (0 : Int) < (ns.length : Int) := by omega
      have h2ne : (2 : Int) ≠ 0 := by decide
      go_wp2_with fail
      refine (cellsAsP_true _ _ [] 2 (-1) _ (ha.alloc _) (fun _ => rfl) (fun h => absurd h h2ne)).mono ?_
      rintro e wE ⟨rfl, hbE⟩
      have hbTE : Below wr.heap.size wr wE := (below_alloc' _ _).trans (hbE.mono (by simp))
      have hWE := hW.below hbTE hW.lt
      have g0 := hWE.cell 0
      simp at g0
      go_wp2_with fail
      go_ret
      exact ⟨rfl, hbT.trans (hbTE.mono hbT.size)⟩
  · have hnl : ns.length ≤ 1000 := by omega
    have HGO := hide (notesF_go hnl)
    have HNZ := hide (@notesF_zero ns)
    have w0 := hW.cell 0
    have w1 := hW.cell 1
    have f0 := hF.cell 0
    have f1 := hF.cell 1
    have w2 := hW.frozen 0
    have w3 := hW.frozen 1
    have hlW := hW.lt
    have hlF := hF.lt
    simp at w0 w1 f0 f1
    go_wp2_with fail
    go_loopw [12] (fun iv wr => ∃ (k : Nat) (ex ey : Int), k ≤ ns.length ∧ iv = .int .i64 k ∧ Bk wr w8.heap.size 28 #[.int .i64 ex, .int .i64 ey] ∧ ((ex = 0 ∧ ey = 0 ∧ nfGo (ns.drop k) k = notesF ns) ∨ (ex ≠ 0 ∧ notesF ns = (ex, ey))) ∧ Below w8.heap.size w8 wr)
      (fun iv _ => ns.length - (intOf iv).toNat)
    case atStart => exact ⟨0, 0, 0, by omega, rfl, hW, .inl ⟨rfl, rfl, by rw [HGO.out]; rfl⟩, hb89⟩
    case round =>
      clear hF ha hbT hW f0 f1 w0 w1 w2 w3 hlW hlF
      obtain ⟨k, ex, ey, hk, rfl, hW, hcase, hbel⟩ := hrel
      have hzr := hbel.size
      have hF := hF8.below hbel hF8.lt
      have ha := ha8.below hbel
      have hbT := hbw8.trans (hbel.mono hbw8.size)
      have w0 := hW.cell 0
      have w1 := hW.cell 1
      have f0 := hF.cell 0
      have f1 := hF.cell 1
      have w2 := hW.frozen 0
      have w3 := hW.frozen 1
      have hlW := hW.lt
      have hlF := hF.lt
      simp at w0 w1 f0 f1
      rcases hcase with ⟨rfl, rfl, hgo⟩ | ⟨hne, hnf⟩
      · by_cases hlt : k < ns.length
        · have HG := hide hgo
          obtain ⟨n, hn⟩ : ∃ n, ns[k]? = some n := ⟨_, List.getElem?_eq_getElem hlt⟩
          have HHIT := hide (@nfGo_hit ns k n hn)
          have HNXT := hide (@nfGo_next ns k n hn)
          obtain ⟨b1, o1, x, rfl, hb1, k0, k1, hr1⟩ := (hu.below hbT).hereD hn
          obtain ⟨sq, cs⟩ := n
          simp only at k0 hr1 HHIT HNXT
          obtain ⟨xo1, xc1, hxx, _, _⟩ := hr1.shape
          subst hxx
          have hk1 : (0 : Int) ≤ (k : Int) := by omega
          have hk2 : (k : Int) < (ns.length : Int) := by omega
          have h00 : ((0 : Int) == 0) = true := rfl
          clear hn hgo
          go_wp2_with fail
          refine (NoteFault_any sq _ cs _ hr1).mono ?_
          rintro e wN ⟨rfl, hbN⟩
          have hbelN := hbel.trans (hbN.mono hzr)
          have hWN := hW.below hbN hW.lt
          have k0N := cell_belowC k0 hbN
          have k1N := cell_belowC k1 hbN
          have hr1N := hr1.below hbN
          have hb1N : b1 < wN.heap.size := Nat.lt_of_lt_of_le hb1 hbN.size
          have HNF := hide (@noteF_zero sq cs)
          generalize hNF : noteF sq cs = NF at *
          obtain ⟨nx, ny⟩ := NF
          have HNE := hide hNF
          clear hNF
          simp only at HHIT HNXT
          clear w0 w1 w2 w3 f0 f1 hlW hlF k0 k1 hr1
          by_cases hnx : nx = 0
          · subst hnx
            have HN1 := hide (HNXT.out rfl)
            clear HHIT HNXT HNF
            unfold fltC
            go_wp2_with fail
            go_roundw
            case rel => exact ⟨k + 1, 0, 0, by omega, by go_num, hWN, .inl ⟨rfl, rfl, by rw [← HN1.out]; exact HG.out⟩, hbelN⟩
            case measure => simp [intOf]; omega
          · have HH1 := hide (HHIT.out hnx)
            have hcb : (nx == 0) = false := beq_eq_false_iff_ne.2 hnx
            have hcb2 : (nx != 0) = true := by simp [hnx]
            clear HHIT HNXT HNF
            unfold fltC
            go_wp2_with fail
            refine (NoteFault_any sq _ cs _ hr1N).mono ?_
            rintro e wM ⟨rfl, hbM⟩
            rw [HNE.out]
            have hbelM := hbelN.trans (hbM.mono hbelN.size)
            have hWM := hWN.below hbM hWN.lt
            have w0 := hWM.cell 0
            have w1 := hWM.cell 1
            have w2 := hWM.frozen 0
            have w3 := hWM.frozen 1
            have hlW := hWM.lt
            simp at w0 w1
            unfold fltC
            go_wp2_with fail
            refine (F_any nx k _).mono ?_
            rintro e wQ ⟨rfl, rfl⟩
            unfold flt
            go_wp2_with fail
            go_roundw
            case rel => exact ⟨k + 1, nx, k, by omega, by go_num, hWM.store2A _ _ _, .inr ⟨hnx, by rw [← HG.out, HH1.out]⟩, by go_grown⟩
            case measure => simp [intOf]; omega
        · rw [List.drop_eq_nil_of_le (by omega)] at hgo
          have hnf : notesF ns = (0, 0) := hgo.symm
          have HNF0 := hide hnf
          clear hgo hnf
          obtain ⟨_, _, hfine⟩ := HNZ.out (by rw [HNF0.out])
          have HF20 : Hid (∀ n ∈ ns, n.cells.length ≤ 20) := hide (fun n hn => (noteF_zero (hfine n hn)).2.2.2.2.1)
          have HAM2 := hide (HAM1.out (by rw [HNF0.out]))
          have HAO2 := hide (HAO1.out (by rw [HNF0.out]))
          have HTW2 := hide (fun k h => HTWO1.out k (by rw [HNF0.out]) h)
          clear HAN1 HAM1 HAO1 HTWO1 hfine HNZ HGO
          have h01 : ¬ (k : Int) < (ns.length : Int) := by omega
          have hbZ := below_alloc' wr (.cells #[.slice none 0 0] 30)
          have hZ0 := Bk.new wr 30 #[.slice none 0 0]
          have HBZ := hide hbZ
          have HZ0 := hide hZ0
          clear hbZ hZ0
          go_upto_region 20 with fail
          have hWz := hW.below HBZ.out hW.lt
          have hFz := hF.below HBZ.out hF.lt
          have haz := ha.below HBZ.out
          have hbTz := hbT.trans (HBZ.out.mono hbT.size)
          generalize wr.alloc (.cells #[.slice none 0 0] 30) = wz at *
          have hZz := HZ0.out
          have hWne : w8.heap.size ≠ wr.heap.size := by omega
          have hFne : zF ≠ wr.heap.size := by omega
          generalize wr.heap.size = zZ at *
          clear HBZ HZ0 hW hF ha hbT w0 w1 w2 w3 f0 f1 hlW hlF hbel
          go_wp2_with fail
          refine (ownCells_any _ l _ (hv.below hbTz) hl3).mono ?_
          rintro e w10 ⟨v10, rfl, h10, hb10, _⟩
          obtain ⟨vo10, vc10, hv10, _, _⟩ := h10.shape
          subst hv10
          have hbT10 := hbTz.trans (hb10.mono hbTz.size)
          go_wp2_with fail
          refine (PutNotes_any _ _ l ns _ h10 (hu.below hbT10) HPW1.out HF20.out (by omega)).mono ?_
          rintro e w11 ⟨v11, rfl, h11, hb11⟩
          have hbz11 := hb10.trans (hb11.mono hb10.size)
          have hW11 := hWz.below hbz11 hWz.lt
          have hF11 := hFz.below hbz11 hFz.lt
          have hZ11 := hZz.below hbz11 hZz.lt
          have ha11 := haz.below hbz11
          have hbT11 := hbT10.trans (hb11.mono hbT10.size)
          generalize hP : putN l ns = P at *
          have HP := hide hP
          clear hP
          obtain ⟨vo11, vc11, hv11, _, _⟩ := h11.shape
          subst hv11
          have hW12 := hW11.othN (p := ⟨zZ, 0, none⟩) (by simpa using hWne) (.slice vo11 P.length vc11)
          have hF12 := hF11.othN (p := ⟨zZ, 0, none⟩) (by simpa using hFne) (.slice vo11 P.length vc11)
          have hZ12 := hZ11.set 0 (.slice vo11 P.length vc11)
          have ha12 := ha11.apartN hZ11 (no_textS _ _ _) 0 (.slice vo11 P.length vc11)
          have h12 := h11.apartN hZ11 (no_textS _ _ _) 0 (.slice vo11 P.length vc11)
          have hzZ : w.heap.size ≤ zZ := by have := hbw8.size; omega
          have hbT12 := hbT11.setCell (p := ⟨zZ, 0, none⟩) hzZ (.slice vo11 P.length vc11)
          have z0 := hZ11.cell 0
          have z2 := hZ11.frozen 0
          have hlZ := hZ11.lt
          simp at z0
          clear hWz hFz hZz haz hbTz hb10 h10 hbT10 hb11 hbz11
          go_upto_region 21 with fail
          generalize w11.setCell ⟨zZ, 0, none⟩ (.slice vo11 P.length vc11) = w12 at *
          clear hW11 hF11 hZ11 ha11 h11 hbT11 z0 z2 hlZ
          have hZ12' : Bk w12 zZ 30 #[.slice vo11 P.length vc11] := hZ12
          clear hZ12
          have z0 := hZ12'.cell 0
          have hlZ := hZ12'.lt
          have w0 := hW12.cell 0
          have w1 := hW12.cell 1
          have w2 := hW12.frozen 0
          have w3 := hW12.frozen 1
          have f0 := hF12.cell 0
          have f1 := hF12.cell 1
          have hlW := hW12.lt
          have hlF := hF12.lt
          simp at z0 w0 w1 f0 f1
          by_cases hmu : 1000 < P.length
          · have e9 := HAM2.out hmu
            simp only [Prod.mk.injEq] at e9
            obtain ⟨rfl, rfl, rfl⟩ := e9
            have hmu' : (1000 : Int) < (P.length : Int) := by omega
            clear HAM2 HAO2 HTW2
            go_wp2_with fail
            refine (F_any 9 (-1) _).mono ?_
            rintro e wQ ⟨rfl, rfl⟩
            have hWQ := hW12.store2A (.int .i64 9) (.int .i64 (-1)) (.cells #[.int .i64 9, .int .i64 (-1)] 28)
            have hFQ := ((hF12.othN (p := ⟨w8.heap.size, 0, none⟩) (by simp only; omega) (.int .i64 9)).othN (p := ⟨w8.heap.size, 1, none⟩) (by simp only; omega) (.int .i64 (-1))).below (below_alloc' _ (.cells #[.int .i64 9, .int .i64 (-1)] 28)) (by simp; omega)
            have haQ := (ha12.setFlt hW12 9 (-1)).alloc (.cells #[.int .i64 9, .int .i64 (-1)] 28)
            unfold flt
            go_upto_region 23 with fail
            have hbTQ : Below w.heap.size w (((w12.setCell ⟨w8.heap.size, 0, none⟩ (.int .i64 9)).setCell ⟨w8.heap.size, 1, none⟩ (.int .i64 (-1))).alloc (.cells #[.int .i64 9, .int .i64 (-1)] 28)) := by have := hbw8.size; go_grown
            generalize ((w12.setCell ⟨w8.heap.size, 0, none⟩ (.int .i64 9)).setCell ⟨w8.heap.size, 1, none⟩ (.int .i64 (-1))).alloc (.cells #[.int .i64 9, .int .i64 (-1)] 28) = wr at *
            clear w0 w1 w2 w3 f0 f1 z0
            have w0 := hWQ.cell 0
            have w1 := hWQ.cell 1
            have f0 := hFQ.cell 0
            have f1 := hFQ.cell 1
            simp at w0 w1 f0 f1
            go_wp2_with fail
            refine (cellsAsP_true _ _ [] 9 (-1) _ haQ (fun _ => rfl) (fun h => absurd h (by decide))).mono ?_
            rintro e wE ⟨rfl, hbE⟩
            have hWE := hWQ.below hbE hWQ.lt
            have g0 := hWE.cell 0
            simp at g0
            clear w0 w1 f0 f1
            go_wp2_with fail
            go_ret
            exact ⟨rfl, hbTQ.trans (hbE.mono hbTQ.size)⟩
          · have e9 := HAO2.out hmu
            simp only [Prod.mk.injEq] at e9
            obtain ⟨rfl, rfl, rfl⟩ := e9
            have hmu' : ¬ (1000 : Int) < (A.length : Int) := by omega
            clear HAM2 HAO2
            have HA12 := hide ha12
            have HZ12 := hide hZ12'
            have H12 := hide h12
            go_wp2_with fail
            refine (cellsAsP_true _ _ A 0 0 _ HA12.out (fun h => absurd rfl h) (fun _ W hW => Applies1_any _ _ A W ((HZ12.out.below hW HZ12.out.lt).cell 0) (H12.out.below hW))).mono ?_
            rintro e w13 ⟨rfl, hb13⟩
            have hW13 := hW12.below hb13 hW12.lt
            have hF13 := hF12.below hb13 hF12.lt
            have ha13 := ha12.below hb13
            have hbT13 := hbT12.trans (hb13.mono hbT12.size)
            clear w0 w1 w2 w3 f0 f1 z0 hlW hlF hlZ hW12 hF12 ha12 h12 hZ12' hbT12 hb13 HA12 HZ12 H12
            have w0 := hW13.cell 0
            have hlW := hW13.lt
            simp at w0
            by_cases h1 : att < 0
            · go_wp2_with fail
              go_ret
              exact ⟨rfl, hbT13⟩
            by_cases h2 : (ns.length : Int) < att
            · go_wp2_with fail
              go_ret
              exact ⟨rfl, hbT13⟩
            obtain ⟨m, rfl⟩ : ∃ m : Nat, att = (m : Int) := ⟨att.toNat, by omega⟩
            have hm : m ≤ ns.length := by omega
            obtain ⟨ht1, ht2⟩ := HTW2.out m hmu
            have HT1 := hide ht1
            have HT2 := hide ht2
            clear ht1 ht2 HTW2
            have hs1 := run_slice_upto2 (P := Try.prog) Try.underlying62 (by kernel_rfl) Try.infoN41 uo ns.length ucap m m rfl (by omega)
            have hs2 := run_slice_from2 (P := Try.prog) Try.underlying62 (by kernel_rfl) Try.infoN41 uo ns.length ucap m m rfl hm
            have hV1 := (hu.below hbT13).uptoN (hi := m) hm
            have hV2 := (hu.below hbT13).fromN (lo := m) hm
            generalize Go.sliced uo 0 m ucap 2 = V1 at hs1 hV1
            generalize hVV : Go.sliced uo m ns.length ucap 2 = V2 at hs2 hV2
            obtain ⟨vo1, vc1, hq1, _, _⟩ := hV1.shape
            obtain ⟨vo2, vc2, hq2, _, _⟩ := hV2.shape
            rw [List.length_take, Nat.min_eq_left hm] at hq1
            rw [List.length_drop] at hq2
            subst hq1 hq2
            have HVV := hide hVV
            clear hVV
            go_wp2_with fail
            refine (Apply_any _ _ l (ns.take m) _ (hv.below hbT13) hV1).mono ?_
            rintro e w14 ⟨vb, rfl, hB14, hb14, _⟩
            rw [HT1.out] at hB14 ⊢
            have hF14 := hF13.below hb14 hF13.lt
            have ha14 := ha13.below hb14
            have hV14 := hV2.below hb14
            have hbT14 := hbT13.trans (hb14.mono hbT13.size)
            simp only at hB14 ⊢
            generalize putN l (ns.take m) = M at *
            obtain ⟨bo, bc1, hqb, _, _⟩ := hB14.shape
            subst hqb
            clear w0 hlW hb14 hF13 ha13 hV1 hV2
            have f0 := hF14.cell 0
            have f1 := hF14.cell 1
            have f2 := hF14.frozen 0
            have f3 := hF14.frozen 1
            have hlF := hF14.lt
            simp at f0 f1
            have hF15 := hF14.store2 (.int .i64 0) (.int .i64 0)
            have ha15 := ha14.setFlt hF14 0 0
            have hB15 := hB14.setFlt hF14 0 0
            have hbT15 := (hbT14.setCell (p := ⟨zF, 0, none⟩) hzF0 (.int .i64 0)).setCell (p := ⟨zF, 1, none⟩) hzF0 (.int .i64 0)
            unfold fltC
            go_upto_region 28 with fail
            generalize (w14.setCell ⟨zF, 0, none⟩ (.int .i64 0)).setCell ⟨zF, 1, none⟩ (.int .i64 0) = w15 at *
            clear f0 f1 f2 f3 hlF hF14 ha14 hB14 hbT14 hV14
            have hV15 := (hu.below hbT15).fromN (lo := m) hm
            have f0 := hF15.cell 0
            have f1 := hF15.cell 1
            simp at f0 f1
            rw [HVV.out] at hV15
            go_wp2_with fail
            refine (Apply_any _ _ M (ns.drop m) _ hB15 hV15).mono ?_
            rintro e w16 ⟨vd, rfl, hD16, hb16, _⟩
            rw [HT2.out] at hD16 ⊢
            have hF16 := hF15.below hb16 hF15.lt
            have ha16 := ha15.below hb16
            have hbT16 := hbT15.trans (hb16.mono hbT15.size)
            simp only at hD16 ⊢
            obtain ⟨do1, dc1, hqd, _, _⟩ := hD16.shape
            subst hqd
            clear f0 f1 hb16 hF15 ha15 hV15 hB15
            have f0 := hF16.cell 0
            have f1 := hF16.cell 1
            have f2 := hF16.frozen 0
            have f3 := hF16.frozen 1
            have hlF := hF16.lt
            simp at f0 f1
            have ha17 := ha16.setFlt hF16 0 0
            have hD17 := hD16.setFlt hF16 0 0
            have hbT17 := (hbT16.setCell (p := ⟨zF, 0, none⟩) hzF0 (.int .i64 0)).setCell (p := ⟨zF, 1, none⟩) hzF0 (.int .i64 0)
            have HA17 := hide ha17
            have HD17 := hide hD17
            have HB17 := hide hbT17
            clear ha17 hD17 hbT17
            unfold fltC
            go_wp2_with fail
            refine (SameCells_any _ _ A _ HD17.out HA17.out).mono ?_
            rintro e w18 ⟨rfl, hb18⟩
            go_wp2_with fail
            go_ret
            exact ⟨rfl, HB17.out.trans (hb18.mono HB17.out.size)⟩
      · have e9 := HAN1.out (by rw [hnf]; exact hne)
        rw [hnf] at e9
        simp only [Prod.mk.injEq] at e9
        obtain ⟨rfl, rfl, rfl⟩ := e9
        clear HAN1 HAM1 HAO1 HTWO1 HPW1 hnf
        have hcb : (fx == 0) = false := beq_eq_false_iff_ne.2 hne
        have hcb2 : (fx != 0) = true := by simp [hne]
        rcases Nat.lt_or_ge k ns.length with h0 | h0
        · have h01 : (k : Int) < (ns.length : Int) := by omega
          go_wp2_with fail
          refine (cellsAsP_true _ _ [] fx fy _ (ha.alloc _) (fun _ => rfl) (fun h => absurd h hne)).mono ?_
          rintro e wE ⟨rfl, hbE⟩
          have hbTE : Below wr.heap.size wr wE := (below_alloc' _ _).trans (hbE.mono (by simp))
          have hWE := hW.below hbTE hW.lt
          have g0 := hWE.cell 0
          simp at g0
          go_wp2_with fail
          go_ret
          exact ⟨rfl, hbT.trans (hbTE.mono hbT.size)⟩
        · have h01 : ¬ (k : Int) < (ns.length : Int) := by omega
          go_wp2_with fail
          refine (cellsAsP_true _ _ [] fx fy _ (ha.alloc _) (fun _ => rfl) (fun h => absurd h hne)).mono ?_
          rintro e wE ⟨rfl, hbE⟩
          have hbTE : Below wr.heap.size wr wE := (below_alloc' _ _).trans (hbE.mono (by simp))
          have hWE := hW.below hbTE hW.lt
          have g0 := hWE.cell 0
          simp at g0
          go_wp2_with fail
          go_ret
          exact ⟨rfl, hbT.trans (hbTE.mono hbT.size)⟩

end Go.Proofs.Ytdodajalejfbiad

/-
  From the arguments as the row reads them to what the walks ask of them. Nothing of a program stands here.
-/
namespace Go.Proofs.Ytdodajalejfbiad
open Go.ChangeShapes Go.WideShapes Go.ChangeAt Go.RowKit

section
variable {H : Type} {enc : TypeId × Value → H} {P : Program} {W : World}

theorem rd_of_cells {w : World} {a : Addr} {len cap : Nat} {xs : List Value} (hl : xs.length = len) (h1 : len ≤ cap) (h2 : cap ≤ maxLen) (h : ∀ i, i < len → w.cell? (a.add i) = xs[i]?) : Rd w (.slice (some a) len cap) xs := by
  refine ⟨some a, cap, by rw [hl], by omega, h2, (fun h => by cases h), fun b hb j u hu => ?_⟩
  cases hb
  rw [h j (by have := (List.getElem?_eq_some_iff.1 hu).1; omega), hu]

theorem open_ic {t e : TypeId} {a : Option Addr} {len cap : Nat} {d : DataW H} {ps : List MemPlace} (ht : P.underlying t = some (.slice e)) (he : P.underlying e = some (.int .i64)) (hc : P.cellsOf e = 1)
    (h : DataW.Trod enc P W 0 (fun _ => true) true t (.slice a len cap) d ps) : ∃ zs : List Int, Rd W (.slice a len cap) (ic zs) := by
  obtain ⟨fuel, hf⟩ := h
  rcases open_ints ht he hc hf with ⟨hcs, _⟩ | ⟨x, l, c, zs, hcs, _, hl, hm, hz, _, hcell, hwz⟩
  · simp [Value.cells] at hcs
    obtain ⟨rfl, rfl, rfl⟩ := hcs
    exact ⟨[], Rd.nil _⟩
  · simp [Value.cells] at hcs
    obtain ⟨rfl, rfl, rfl⟩ := hcs
    simp at hz
    refine ⟨zs.take len, rd_of_cells (by rw [ic_length, List.length_take]; omega) hl hm fun i hi => ?_⟩
    rw [hcell i (by omega)]
    simp [ic, List.getD, hi, show i < zs.length by omega]

theorem open_bc {t e : TypeId} {a : Option Addr} {len cap fuel : Nat} {d : DataW H} {ps : List MemPlace} (ht : P.underlying t = some (.slice e)) (he : P.underlying e = some (.int .u8)) (hc : P.cellsOf e = 1)
    (hf : DataW.trod enc P W 0 (fun _ => true) true fuel t [.slice a len cap] = some (d, ps)) : ∃ bs : List UInt8, Rd W (.slice a len cap) (bc bs) := by
  rcases open_ints ht he hc hf with ⟨hcs, _⟩ | ⟨x, l, c, zs, hcs, _, hl, hm, hz, _, hcell, hwz⟩
  · simp at hcs
    obtain ⟨rfl, rfl, rfl⟩ := hcs
    exact ⟨[], Rd.nil _⟩
  · simp at hcs
    obtain ⟨rfl, rfl, rfl⟩ := hcs
    simp at hz
    refine ⟨(zs.take len).map fun n => UInt8.ofNat n.toNat, rd_of_cells (by rw [bc_length, List.length_map, List.length_take]; omega) hl hm fun i hi => ?_⟩
    rw [hcell i (by omega)]
    have hi' : i < zs.length := by omega
    have hb := bounds_u8 (hwz zs[i] (List.getElem_mem hi'))
    have e : ((UInt8.ofNat zs[i].toNat).toNat : Int) = zs[i] := by
      simp only [UInt8.toNat_ofNat']
      omega
    simp only [bc, List.getElem?_map, List.getElem?_take, if_pos hi, List.getElem?_eq_getElem hi', Option.map_some, List.getD, Option.getD_some, e]

theorem open_bc' {t e : TypeId} {a : Option Addr} {len cap : Nat} {d : DataW H} {ps : List MemPlace} (ht : P.underlying t = some (.slice e)) (he : P.underlying e = some (.int .u8)) (hc : P.cellsOf e = 1)
    (h : DataW.Trod enc P W 0 (fun _ => true) true t (.slice a len cap) d ps) : ∃ bs : List UInt8, Rd W (.slice a len cap) (bc bs) := by
  obtain ⟨fuel, hf⟩ := h
  exact open_bc ht he hc (by simpa [Value.cells] using hf)

theorem weightsAll_mem {e : TypeId} : ∀ {l : List (DataW H)} {d : DataW H} {n : Nat}, d ∈ l → n ∈ d.weights P e → n ∈ DataW.weightsAll P e l
  | x :: l, d, n, hd, hn => by
    simp only [DataW.weightsAll, List.mem_append]
    rcases List.mem_cons.1 hd with rfl | hd
    · exact .inl hn
    · exact .inr (weightsAll_mem hd hn)

/-- A list of texts; none is longer than the form's reach. -/
theorem open_sc {t e : TypeId} {a : Option Addr} {len cap : Nat} {d : DataW H} {ps : List MemPlace} (ht : P.underlying t = some (.slice e)) (he : P.underlying e = some .string) (hc : P.cellsOf e = 1)
    (h : DataW.Trod enc P W 0 (fun _ => true) true t (.slice a len cap) d ps) (hw : ∀ n ∈ d.weights P t, n ≤ reachBytes) : ∃ ss : List (List UInt8), Rd W (.slice a len cap) (sc ss) ∧ ∀ s ∈ ss, s.length ≤ 140737488351232 := by
  obtain ⟨fuel, hf⟩ := h
  rcases open_strings ht he hc hf with ⟨hcs, _⟩ | ⟨x, l, c, zs, hcs, _, hl, hm, hz, hx, hcell, hwz⟩
  · simp [Value.cells] at hcs
    obtain ⟨rfl, rfl, rfl⟩ := hcs
    exact ⟨[], Rd.nil _, by simp⟩
  · simp [Value.cells] at hcs
    obtain ⟨rfl, rfl, rfl⟩ := hcs
    simp at hz
    simp only [Prod.mk.injEq] at hx
    obtain ⟨rfl, _⟩ := hx
    refine ⟨(zs.take len).map fun s => s.data.toList, rd_of_cells (by rw [sc_length, List.length_map, List.length_take]; omega) hl hm fun i hi => ?_, fun s hs => ?_⟩
    · rw [hcell i (by omega)]
      have hi' : i < zs.length := by omega
      simp only [sc, List.getElem?_map, List.getElem?_take, if_pos hi, List.getElem?_eq_getElem hi', Option.map_some, List.getD, Option.getD_some, Array.toArray_toList]
    · obtain ⟨y, hy, rfl⟩ := List.mem_map.1 hs
      have := hw y.data.toList.length (by
        simp only [DataW.weights, ht, List.mem_cons, List.mem_append]
        refine .inr (.inl (weightsAll_mem (d := .lit (.string y.data.toList)) (List.mem_map.2 ⟨y, hy, rfl⟩) ?_))
        simp [DataW.weights])
      simpa [reachBytes] using this

end
end Go.Proofs.Ytdodajalejfbiad

/-
  From lists of cells, and asks, as the row reads them to what the walks ask of them. Nothing of a program stands here.
-/
namespace Go.Proofs.Ytdodajalejfbiad
open Go.ChangeShapes Go.WideShapes Go.ChangeAt Go.RowKit Go.Joins Go.Deep

section
variable {H : Type} {enc : TypeId × Value → H} {P : Program} {W : World}

theorem choose_list {α : Type} {p : Nat → α → Prop} : ∀ (n : Nat), (∀ i, i < n → ∃ x, p i x) → ∃ l : List α, l.length = n ∧ ∀ i x, l[i]? = some x → p i x
  | 0, _ => ⟨[], rfl, fun i x h => by simp at h⟩
  | n + 1, h => by
    obtain ⟨l, hl, hp⟩ := choose_list n (fun i hi => h i (by omega))
    obtain ⟨x, hx⟩ := h n (by omega)
    refine ⟨l ++ [x], by simp [hl], fun i y hy => ?_⟩
    by_cases hi : i < n
    · rw [List.getElem?_append_left (by omega)] at hy
      exact hp i y hy
    · have hlt := (List.getElem?_eq_some_iff.1 hy).1
      simp at hlt
      have e : i = n := by omega
      subst e
      rw [List.getElem?_append_right (by omega), hl] at hy
      simp at hy
      subst hy
      exact hx

theorem cc_div {cs : List Cl} {j : Nat} {u : Value} (h : (cc cs)[j]? = some u) : ∃ i k c, j = i * 5 + k ∧ k < 5 ∧ cs[i]? = some c ∧ (cv c)[k]? = some u := by
  have hl := (List.getElem?_eq_some_iff.1 h).1
  rw [cc_length] at hl
  have hi : j / 5 < cs.length := by omega
  refine ⟨j / 5, j % 5, cs[j / 5], by omega, by omega, List.getElem?_eq_getElem hi, ?_⟩
  rw [← cc_get cs (j / 5) hi (j % 5) (by omega), ← h]
  congr 1
  omega

/-- A list of cells. -/
theorem open_cells {t e : TypeId} {f0 f1 f2 f3 f4 : Field} {v : Value} {fuel : Nat} {y : DataW H × List MemPlace} (ht : P.underlying t = some (.slice e)) (he : P.underlying e = some (.struct #[f0, f1, f2, f3, f4])) (hone : oneCellFields P #[f0, f1, f2, f3, f4] = true) (hC : P.cellsOf e = 5)
    (h0 : P.underlying f0.type = some .string) (h1 : P.underlying f1.type = some .string) (h2 : P.underlying f2.type = some (.int .i64)) (h3 : P.underlying f3.type = some .bool) (h4 : P.underlying f4.type = some .string)
    (h : DataW.trod enc P W 0 (fun _ => true) true fuel t [v] = some y) : ∃ cs : List Cl, RdC W v cs ∧ ∀ c ∈ cs, -9223372036854775808 ≤ c.time ∧ c.time ≤ 9223372036854775807 := by
  rcases open_slice ht h with ⟨hcs, _⟩ | ⟨a, len, cap, m, n, D, Pl, hcs, hb, hl, hm, hmm, hxx, hx⟩
  · simp only [List.cons.injEq, and_true] at hcs
    subst hcs
    exact ⟨[], RdC.nil _, by simp⟩
  · simp only [List.cons.injEq, and_true] at hcs
    subst hcs
    obtain ⟨o0, k0⟩ := hone_of hone 0 f0 rfl
    obtain ⟨o1, k1⟩ := hone_of hone 1 f1 rfl
    obtain ⟨o2, k2⟩ := hone_of hone 2 f2 rfl
    obtain ⟨o3, k3⟩ := hone_of hone 3 f3 rfl
    obtain ⟨o4, k4⟩ := hone_of hone 4 f4 rfl
    have hlm : len ≤ m := by rw [hmm]; split <;> omega
    have each : ∀ i, i < len → ∃ c : Cl, (∀ k u, (cv c)[k]? = some u → W.cell? (a.add (i * 5 + k)) = some u) ∧ -9223372036854775808 ≤ c.time ∧ c.time ≤ 9223372036854775807 := by
      intro i hi
      obtain ⟨cs', g1, g2⟩ := hx i (by omega)
      rw [hC] at g1
      obtain ⟨_, hlen, hcell⟩ := World.cells?_some g1
      obtain ⟨xs, k, hk, hxy, _, hxl, hf⟩ := DataW.trod_struct he g2
      match xs, hxl, cs', hlen with
      | [y0, y1, y2, y3, y4], _, [v0, v1, v2, v3, v4], _ =>
        have q0 := hf 0 f0 rfl
        have q1 := hf 1 f1 rfl
        have q2 := hf 2 f2 rfl
        have q3 := hf 3 f3 rfl
        have q4 := hf 4 f4 rfl
        simp [o0, o1, o2, o3, o4, k0, k1, k2, k3, k4] at q0 q1 q2 q3 q4
        obtain ⟨s0, e0, _, _⟩ := DataW.trod_string h0 q0
        obtain ⟨s1, e1, _, _⟩ := DataW.trod_string h1 q1
        obtain ⟨s2, e2, _, w2⟩ := DataW.trod_int h2 q2
        obtain ⟨s3, e3, _⟩ := DataW.trod_bool h3 q3
        obtain ⟨s4, e4, _, _⟩ := DataW.trod_string h4 q4
        simp only [List.cons.injEq, and_true] at e0 e1 e2 e3 e4
        subst e0 e1 e2 e3 e4
        refine ⟨⟨s0, s1, s2, s3, s4⟩, fun k u hu => ?_, bounds_i64 w2⟩
        have hk5 : k < 5 := by have := (List.getElem?_eq_some_iff.1 hu).1; simpa [cv] using this
        have := hcell k hk5
        rw [add_add] at this
        rw [this, ← hu]
        rfl
    obtain ⟨cs, hcl, hcp⟩ := choose_list len each
    refine ⟨cs, ⟨some a, cap, by rw [hcl], by omega, hm, (fun h => by cases h), fun b hb' j u hu => ?_⟩, fun c hc => ?_⟩
    · cases hb'
      obtain ⟨i, k, c, rfl, _, hi, hk⟩ := cc_div hu
      exact (hcp i c hi).1 k u hk
    · obtain ⟨i, hi, e⟩ := List.getElem_of_mem hc
      exact (hcp i c (by rw [List.getElem?_eq_getElem hi, e])).2

theorem open_cellsV {t e : TypeId} {f0 f1 f2 f3 f4 : Field} {a : Option Addr} {len cap : Nat} {d : DataW H} {ps : List MemPlace} (ht : P.underlying t = some (.slice e)) (he : P.underlying e = some (.struct #[f0, f1, f2, f3, f4])) (hone : oneCellFields P #[f0, f1, f2, f3, f4] = true) (hC : P.cellsOf e = 5)
    (h0 : P.underlying f0.type = some .string) (h1 : P.underlying f1.type = some .string) (h2 : P.underlying f2.type = some (.int .i64)) (h3 : P.underlying f3.type = some .bool) (h4 : P.underlying f4.type = some .string)
    (h : DataW.Trod enc P W 0 (fun _ => true) true t (.slice a len cap) d ps) : ∃ cs : List Cl, RdC W (.slice a len cap) cs ∧ ∀ c ∈ cs, -9223372036854775808 ≤ c.time ∧ c.time ≤ 9223372036854775807 := by
  obtain ⟨fuel, hf⟩ := h
  exact open_cells ht he hone hC h0 h1 h2 h3 h4 (y := (d, ps)) (by simpa [Value.cells] using hf)

/-- An ask: two texts and two numbers. -/
theorem open_ask {r : Reach} {b0 : Nat} {t : TypeId} {f0 f1 f2 f3 : Field} {v : Value} {d : DataW H} {p : List MemPlace} (hs : P.underlying t = some (.struct #[f0, f1, f2, f3])) (hone : oneCellFields P #[f0, f1, f2, f3] = true) (hC : P.cellsOf t = 4)
    (h0 : P.underlying f0.type = some .string) (h1 : P.underlying f1.type = some .string) (h2 : P.underlying f2.type = some (.int .i64)) (h3 : P.underlying f3.type = some (.int .i64))
    (hv : Value.okWide P W r b0 t v) (h : DataW.Trod enc P W 0 (fun _ => true) true t v d p) :
    ∃ (a b : ByteArray) (x y : Int), v = .agg #[.string a, .string b, .int .i64 x, .int .i64 y] ∧ (-9223372036854775808 ≤ x ∧ x ≤ 9223372036854775807) ∧ -9223372036854775808 ≤ y ∧ y ≤ 9223372036854775807 := by
  obtain ⟨c0, c1, c2, c3, y0, y1, y2, y3, m, rfl, rfl, rfl, hy0, hy1, hy2, hy3⟩ := open_agg4 hs hone hC hv h
  obtain ⟨s0, e0, _, _⟩ := DataW.trod_string h0 hy0
  obtain ⟨s1, e1, _, _⟩ := DataW.trod_string h1 hy1
  obtain ⟨s2, e2, _, w2⟩ := DataW.trod_int h2 hy2
  obtain ⟨s3, e3, _, w3⟩ := DataW.trod_int h3 hy3
  simp only [List.cons.injEq, and_true] at e0 e1 e2 e3
  subst e0 e1 e2 e3
  exact ⟨s0, s1, s2, s3, rfl, bounds_i64 w2, bounds_i64 w3⟩

end
end Go.Proofs.Ytdodajalejfbiad

/-
  From a list of lists of cells as the row reads it to what the walks ask of it. Nothing of a program stands here.
-/
namespace Go.Proofs.Ytdodajalejfbiad
open Go.ChangeShapes Go.WideShapes Go.ChangeAt Go.RowKit Go.Joins Go.Deep

section
variable {H : Type} {enc : TypeId × Value → H} {P : Program} {W : World}

/-- A list of cells that is no longer than the form's reach. -/
theorem open_cellsW {t e : TypeId} {f0 f1 f2 f3 f4 : Field} {v : Value} {fuel : Nat} {d : DataW H} {ps : List MemPlace} (ht : P.underlying t = some (.slice e)) (he : P.underlying e = some (.struct #[f0, f1, f2, f3, f4])) (hone : oneCellFields P #[f0, f1, f2, f3, f4] = true) (hC : P.cellsOf e = 5) (hby : P.bytesOf e = 64)
    (h0 : P.underlying f0.type = some .string) (h1 : P.underlying f1.type = some .string) (h2 : P.underlying f2.type = some (.int .i64)) (h3 : P.underlying f3.type = some .bool) (h4 : P.underlying f4.type = some .string)
    (h : DataW.trod enc P W 0 (fun _ => true) true fuel t [v] = some (d, ps)) (hw : ∀ n ∈ d.weights P t, n ≤ reachBytes) : ∃ cs : List Cl, RdC W v cs ∧ cs.length ≤ 2199023255552 := by
  obtain ⟨cs, hcs, _⟩ := open_cells ht he hone hC h0 h1 h2 h3 h4 h
  refine ⟨cs, hcs, ?_⟩
  rcases open_slice ht h with ⟨hv, _⟩ | ⟨a, len, cap, m, n, D, Pl, hv, hb, hl, hm, hmm, hxx, hx⟩
  · simp only [List.cons.injEq, and_true] at hv
    subst hv
    obtain ⟨_, _, hv, _⟩ := hcs
    simp only [Value.slice.injEq] at hv
    omega
  · simp only [List.cons.injEq, and_true] at hv
    subst hv
    obtain ⟨_, _, hv, _⟩ := hcs
    simp only [Value.slice.injEq] at hv
    simp only [Prod.mk.injEq] at hxx
    obtain ⟨rfl, _⟩ := hxx
    have := hw ((len + (m - len)) * P.bytesOf e) (by simp [DataW.weights, ht])
    rw [hby] at this
    simp [reachBytes] at this
    omega

/-- A list of lists of cells. -/
theorem open_ll {t e b : TypeId} {f0 f1 f2 f3 f4 : Field} {a : Option Addr} {len cap : Nat} {d : DataW H} {ps : List MemPlace} (ht : P.underlying t = some (.slice e)) (he : P.underlying e = some (.slice b)) (hb : P.underlying b = some (.struct #[f0, f1, f2, f3, f4])) (hc : P.cellsOf e = 1) (hone : oneCellFields P #[f0, f1, f2, f3, f4] = true) (hC : P.cellsOf b = 5) (hby : P.bytesOf b = 64)
    (h0 : P.underlying f0.type = some .string) (h1 : P.underlying f1.type = some .string) (h2 : P.underlying f2.type = some (.int .i64)) (h3 : P.underlying f3.type = some .bool) (h4 : P.underlying f4.type = some .string)
    (h : DataW.Trod enc P W 0 (fun _ => true) true t (.slice a len cap) d ps) (hw : ∀ n ∈ d.weights P t, n ≤ reachBytes) : ∃ ls : List (List Cl), RdL W (.slice a len cap) ls ∧ ∀ l ∈ ls, l.length ≤ 2199023255552 := by
  obtain ⟨fuel, hf⟩ := h
  rcases Go.Deep.open_slice1 ht hc hf with ⟨hcs, _⟩ | ⟨x, l, c, m, n, V, D, Pl, hcs, _, hl, hm, hmm, hx, hall⟩
  · simp [Value.cells] at hcs
    obtain ⟨rfl, rfl, rfl⟩ := hcs
    exact ⟨[], ⟨[], Rd.nil _, rfl, by simp, fun i u l h => by simp at h⟩, by simp⟩
  · simp [Value.cells] at hcs
    obtain ⟨rfl, rfl, rfl⟩ := hcs
    simp at hmm
    subst hmm
    simp only [Prod.mk.injEq] at hx
    obtain ⟨rfl, _⟩ := hx
    have each : ∀ i, i < len → ∃ cs : List Cl, RdC W (V i) cs ∧ cs.length ≤ 2199023255552 := fun i hi =>
      open_cellsW he hb hone hC hby h0 h1 h2 h3 h4 (hall i (by omega)).2 (fun k hk => hw k (by
        simp only [DataW.weights, ht, List.mem_cons, List.mem_append]
        exact .inr (.inl (weightsAll_mem (d := D i) (List.mem_map.2 ⟨i, List.mem_range.2 hi, rfl⟩) hk))))
    obtain ⟨ls, hll, hp⟩ := choose_list len each
    refine ⟨ls, ⟨(List.range len).map V, rd_of_cells (by simp) hl hm fun i hi => ?_, by simp [hll], fun u hu => ?_, fun i u l hu hl' => ?_⟩, fun l hl' => ?_⟩
    · rw [(hall i (by omega)).1]
      simp [hi]
    · obtain ⟨i, hi, rfl⟩ := List.mem_map.1 hu
      obtain ⟨cs, hcs, _⟩ := each i (List.mem_range.1 hi)
      obtain ⟨_, _, hv, _⟩ := hcs
      rw [hv]
      rfl
    · have hi : i < len := by
        have := (List.getElem?_eq_some_iff.1 hu).1
        simpa using this
      simp [hi] at hu
      subst hu
      exact (hp i l hl').1
    · obtain ⟨i, hi, e⟩ := List.getElem_of_mem hl'
      exact (hp i l (by rw [List.getElem?_eq_getElem hi, e])).2

end
end Go.Proofs.Ytdodajalejfbiad

/-
  From a list of bodies as the row reads it to what the walks ask of it.
-/
namespace Go.Proofs.Ytdodajalejfbiad
open Go.ChangeShapes Go.WideShapes Go.ChangeAt Go.RowKit

section
variable {H : Type} {enc : TypeId × Value → H} {P : Program} {W : World}

theorem open_bcv {t e : TypeId} {v : Value} {fuel : Nat} {d : DataW H} {ps : List MemPlace} (ht : P.underlying t = some (.slice e)) (he : P.underlying e = some (.int .u8)) (hc : P.cellsOf e = 1) (hby : P.bytesOf e = 1)
    (hf : DataW.trod enc P W 0 (fun _ => true) true fuel t [v] = some (d, ps)) (hw : ∀ n ∈ d.weights P t, n ≤ reachBytes) : ∃ bs : List UInt8, Rd W v (bc bs) ∧ bs.length ≤ 140737488351232 := by
  rcases open_ints ht he hc hf with ⟨hcs, _⟩ | ⟨x, l, c, zs, hcs, _, hl, hm, hz, hx, hcell, hwz⟩
  · simp only [List.cons.injEq, and_true] at hcs
    subst hcs
    exact ⟨[], Rd.nil _, by simp⟩
  · simp only [List.cons.injEq, and_true] at hcs
    subst hcs
    obtain ⟨bs, hb⟩ := open_bc ht he hc hf
    refine ⟨bs, hb, ?_⟩
    have hbl : l = bs.length := by
      obtain ⟨_, _, hv, _⟩ := hb
      simp only [Value.slice.injEq, bc_length] at hv
      exact hv.2.1
    simp at hz
    simp only [Prod.mk.injEq] at hx
    obtain ⟨rfl, _⟩ := hx
    have := hw (((zs.take l).length + (zs.drop l).length) * P.bytesOf e) (by simp [DataW.weights, ht, lits])
    rw [hby] at this
    simp [reachBytes] at this
    omega

/-- A list of bodies; none is longer than the form's reach. -/
theorem open_bb {t e b : TypeId} {a : Option Addr} {len cap : Nat} {d : DataW H} {ps : List MemPlace} (ht : P.underlying t = some (.slice e)) (he : P.underlying e = some (.slice b)) (hb : P.underlying b = some (.int .u8)) (hc : P.cellsOf e = 1) (hcb : P.cellsOf b = 1) (hby : P.bytesOf b = 1)
    (h : DataW.Trod enc P W 0 (fun _ => true) true t (.slice a len cap) d ps) (hw : ∀ n ∈ d.weights P t, n ≤ reachBytes) : ∃ bb : List (List UInt8), RdB W (.slice a len cap) bb ∧ ∀ s ∈ bb, s.length ≤ 140737488351232 := by
  obtain ⟨fuel, hf⟩ := h
  rcases Go.Deep.open_slice1 ht hc hf with ⟨hcs, _⟩ | ⟨x, l, c, m, n, V, D, Pl, hcs, _, hl, hm, hmm, hx, hall⟩
  · simp [Value.cells] at hcs
    obtain ⟨rfl, rfl, rfl⟩ := hcs
    exact ⟨[], RdB.nil _, by simp⟩
  · simp [Value.cells] at hcs
    obtain ⟨rfl, rfl, rfl⟩ := hcs
    simp at hmm
    subst hmm
    simp only [Prod.mk.injEq] at hx
    obtain ⟨rfl, _⟩ := hx
    have each : ∀ i, i < len → ∃ bs : List UInt8, Rd W (V i) (bc bs) ∧ bs.length ≤ 140737488351232 := fun i hi =>
      open_bcv he hb hcb hby (hall i (by omega)).2 (fun k hk => hw k (by
        simp only [DataW.weights, ht, List.mem_cons, List.mem_append]
        exact .inr (.inl (weightsAll_mem (d := D i) (List.mem_map.2 ⟨i, List.mem_range.2 hi, rfl⟩) hk))))
    have hch : ∀ k, k ≤ len → ∃ bb : List (List UInt8), bb.length = k ∧ (∀ i (y : List UInt8), bb[i]? = some y → Rd W (V i) (bc y)) ∧ ∀ s ∈ bb, s.length ≤ 140737488351232 := by
      intro k
      induction k with
      | zero => exact fun _ => ⟨[], rfl, by simp, by simp⟩
      | succ k ih =>
        intro hk
        obtain ⟨bb, h1, h2, h3⟩ := ih (by omega)
        obtain ⟨bs, h4, h5⟩ := each k (by omega)
        refine ⟨bb ++ [bs], by simp [h1], fun i y hy => ?_, fun s hs => ?_⟩
        · by_cases hi : i < bb.length
          · rw [List.getElem?_append_left hi] at hy
            exact h2 i y hy
          · rw [List.getElem?_append_right (by omega)] at hy
            have : i = k := by
              have := (List.getElem?_eq_some_iff.1 hy).1
              simp at this
              omega
            subst this
            rw [h1] at hy
            simp at hy
            subst hy
            exact h4
        · rcases List.mem_append.1 hs with hs | hs
          · exact h3 s hs
          · simp at hs
            subst hs
            exact h5
    obtain ⟨bb, h1, h2, h3⟩ := hch len (Nat.le_refl _)
    refine ⟨bb, ⟨(List.range len).map V, rd_of_cells (by simp) hl hm fun i hi => ?_, by simp [h1], fun i u y hu hy => ?_⟩, h3⟩
    · rw [(hall i (by omega)).1]
      simp [hi]
    · have hi : i < len := by
        have := (List.getElem?_eq_some_iff.1 hu).1
        simpa using this
      simp [hi] at hu
      subst hu
      exact h2 i y hy

end
end Go.Proofs.Ytdodajalejfbiad
