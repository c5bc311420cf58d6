/-
  Texts joined: WalR4, WalR5, DoesRef, WalR6, LawNotes, Frame, FrameC.
-/
import Derived.Test.YtdodajalejfbiadMWalLogs12
import Derived.Deep.RegionLaw
import Derived.ProofKit
import Derived.OpenShut
import Derived.ShutString
import Derived.ChangeOld
import Derived.Below
import Derived.SliceStrings
import Derived.SizedLaws
import Derived.Deep.Slices
import Derived.Lib.SmallJoins
/-
  The walks over the law's ownNotes, WalApplies' own function, and cellsAs of it.
-/
namespace Go.Proofs.Ytdodajalejfbiad
open Go.RowKit

theorem owns_shape2 {w : World} {base : Nat} {e : TypeId} {v : Value} {n : Nat} {xs : List Value} (h : w.ownsRow base e 2 v n xs) : ∃ ao cap, v = .slice ao n cap := by
  rcases h.2 with ⟨rfl, hn⟩ | ⟨g, cap, cur, rfl, _⟩
  · exact ⟨none, 0, by rw [hn]⟩
  · exact ⟨_, _, rfl⟩

theorem Try.infoN41 : (Try.prog.info? 41).map (fun i => (i.zero, i.size, i.bytes)) = some (some (.agg #[.int .i64 0, .slice none 0 0]), 2, 32) := by kernel_rfl

set_option maxRecDepth 100000 in
set_option maxHeartbeats 1000000 in
theorem ownNotes_any (v : Value) (ns : List Nt) (w : World) (hv : RdN w v ns) (hlen : ns.length ≤ 1100) (hb : ∀ n ∈ ns, n.cells.length ≤ 1000000) :
    Calls Try.prog 44 #[v] w fun e w' => ∃ v' ps, e = .returned v' ∧ w'.ownsRow w.heap.size 41 2 v' ns.length (nn ps) ∧ NtO w' v' ps ns ∧ Below w.heap.size w w' := by
  obtain ⟨ao, cap, hvv, hc1, hc2⟩ := hv.shape
  subst hvv
  unfold maxLen at hc2
  have HB := hide hb
  clear hb
  go_enter Try.func44, Try.ntmps44
  go_wp2_with fail
  go_loopw [3, 4] (fun o i wr => ∃ (k : Nat) (ps : List (Int × Value)), k ≤ ns.length ∧ i = .int .i64 k ∧ NtO wr o ps (ns.take k) ∧ wr.ownsRow w.heap.size 41 2 o k (nn ps) ∧ Below w.heap.size w wr)
    (fun _ i _ => ns.length - (intOf i).toNat)
  case atStart => exact ⟨0, [], by omega, rfl, by simpa using NtO.nil _ _, World.ownsRow_nil _ _ _ _, Below.refl _ _⟩
  case round =>
    obtain ⟨k, ps, hk, rfl, hpc, hown, hbel⟩ := hrel
    have hzr := hbel.size
    by_cases hlt : k < ns.length
    · obtain ⟨n, hn⟩ : ∃ n, ns[k]? = some n := ⟨_, List.getElem?_eq_getElem hlt⟩
      obtain ⟨b1, o1, x, rfl, hb1, k0, k1, hr⟩ := (hv.below hbel).hereD hn
      have hll := HB.out n (List.mem_of_getElem? hn)
      have HTK : Hid (ns.take (k + 1) = ns.take k ++ [n]) := hide (by rw [List.take_add_one, hn]; rfl)
      obtain ⟨s, cs⟩ := n
      simp only at k0 hr hll
      obtain ⟨xo, xc, hxx, _, _⟩ := hr.shape
      subst hxx
      have hk1 : (0 : Int) ≤ (k : Int) := by omega
      have hk2 : (k : Int) < (ns.length : Int) := by omega
      have HPC := hide hpc
      have HR := hide hr
      obtain ⟨oo, ocap, hvo⟩ := owns_shape2 hown
      subst hvo
      have hl8 : k ≤ 100000000 := by omega
      clear hn hpc hr
      go_wp2_with (first
        | (at_builtin; go_must (refine wpList_append_one2E (q := s) rfl how5 Try.underlying62 Try.infoN41 rfl rfl rfl rfl rfl hl8 (by decide) hb8 ?_); intro v6 w6 ho6 hb6 he6)
        | (go_at_call 20; refine (ownNote_any s _ cs _ HR.out hll).mono ?_; rintro e w5 ⟨v5, rfl, hr5, hb5, hn5⟩; obtain ⟨ao5, cap5, hv5, _, _⟩ := hr5.shape; subst hv5; unfold ntA; have how5 := owns_below hown hb5; have hb8 := Nat.le_trans hzr hb5.size))
      have hoff5 : Off (.slice oo k ocap) (.slice ao5 cs.length cap5) := fun a l' c' he _ hg => by
        have h1 := hn5 a l' c' he
        have h2 := (hown.lt a.block hg).2
        omega
      have hpc5 := NtO.snoc (n := ⟨s, cs⟩) (HPC.out.ext (Ext.ofBelow _ hb5)) hr5 hoff5
      have hpc6 := hpc5.ext he6
      rw [← HTK.out] at hpc6
      go_roundw
      case rel => exact ⟨k + 1, _, by omega, by go_num, hpc6, ho6, (hbel.trans (hb5.mono hzr)).trans hb6⟩
      case measure => simp [intOf]; omega
    · have hkl : k = ns.length := by omega
      subst hkl
      rw [List.take_length] at hpc
      have HPC := hide hpc
      have HO := hide hown
      clear hpc hown
      go_wp2_with fail
      go_ret
      exact ⟨_, ps, rfl, HO.out, HPC.out, hbel⟩

set_option maxRecDepth 100000 in
set_option maxHeartbeats 400000 in
theorem Applies1_any (L : Nat) (v : Value) (cs : List Cl) (w : World) (hL : w.cell? ⟨L, 0, none⟩ = some v) (hv : RdC w v cs) :
    Calls Try.prog 49 #[.pointer (some ⟨L, 0, none⟩)] w fun e w' => ∃ v', e = .returned v' ∧ RdC w' v' cs ∧ Below w.heap.size w w' := by
  obtain ⟨ao, cap, hu, hc1, hc2⟩ := hv.shape
  subst hu
  go_enter Try.func49, Try.ntmps49
  go_wp2_with fail
  go_ret
  exact ⟨_, rfl, hv, Below.refl _ _⟩

set_option maxRecDepth 100000 in
set_option maxHeartbeats 1000000 in
theorem cellsAsP_true (p1 v : Value) (cs : List Cl) (c a : Int) (w : World) (hv : RdC w v cs) (hbad : c ≠ 0 → cs = [])
    (hcl : c = 0 → ∀ W, Below w.heap.size w W → Calls Try.prog 49 #[p1] W fun e w' => ∃ v', e = .returned v' ∧ RdC w' v' cs ∧ Below W.heap.size W w') :
    Calls Try.prog 48 #[v, fltC (c, a), fltC (c, a), .func (.func 49) #[] #[p1]] w fun e w' => e = .returned (.bool true) ∧ Below w.heap.size w w' := by
  obtain ⟨ao, cap, hu, hc1, hc2⟩ := hv.shape
  subst hu
  unfold fltC
  have hbC : Below w.heap.size w ((w.alloc (.cells #[.int .i64 c, .int .i64 a] 28)).alloc (.cells #[.int .i64 c, .int .i64 a] 28)) := (below_alloc' _ _).trans ((below_alloc' _ _).mono (by simp))
  have HBC := hide hbC
  by_cases hc : c = 0
  · subst hc
    have HCL := hide (hcl rfl)
    clear hcl hbad hbC
    go_enter Try.func48, Try.ntmps48
    go_wp2_with fail
    refine (HCL.out _ HBC.out).mono ?_
    rintro e w1 ⟨v1, rfl, hr1, hb1⟩
    have hbw1 := HBC.out.trans (hb1.mono (by simp; omega))
    go_wp2_with fail
    refine (SameCells_any _ _ cs _ (hv.below hbw1) hr1).mono ?_
    rintro e w2 ⟨rfl, hb2⟩
    have hbw2 := hbw1.trans (hb2.mono hbw1.size)
    go_wp2_with fail
    go_ret
    exact ⟨rfl, hbw2⟩
  · have hcb : (c != 0) = true := by simp [hc]
    have he := hbad hc
    subst he
    clear hcl hbad hc hbC
    go_enter Try.func48, Try.ntmps48
    go_wp2_with fail
    go_ret
    exact ⟨by simp, HBC.out⟩

end Go.Proofs.Ytdodajalejfbiad

/-
  The walk over the document's Logged.
-/
namespace Go.Proofs.Ytdodajalejfbiad
open Go.RowKit

theorem un_sum : ∀ (f : Nat) (bs : List UInt8) (acc : List (List UInt8)) (k : Nat), bs.length ≤ f → ∃ l, (unGo (f + 1) bs acc k).1 = acc ++ l ∧ (l.map (fun b => b.length + 6)).sum ≤ bs.length
  | 0, bs, acc, k, h => by
    have : frameAt bs = none := frameAt_short (by omega)
    exact ⟨[], by rw [unGo_end this, List.append_nil], by simp⟩
  | f + 1, bs, acc, k, h => by
    cases hf : frameAt bs with
    | none => exact ⟨[], by rw [unGo_end hf, List.append_nil], by simp⟩
    | some body =>
      have hl := frameAt_len hf
      have hd : (bs.drop (body.length + 6)).length = bs.length - (body.length + 6) := List.length_drop ..
      obtain ⟨l, h1, h2⟩ := un_sum f (bs.drop (body.length + 6)) (acc ++ [body]) (k + (body.length + 6)) (by omega)
      refine ⟨body :: l, by rw [unGo_step hf, h1]; simp, ?_⟩
      rw [List.map_cons, List.sum_cons]
      omega

/-- Where the reading stands. -/
structure LgI (L : List (List UInt8)) (i : Nat) (pre : List (Nat × Nt)) (last : Int) (size : Nat) : Prop where
  e : lgB L 0 0 = pre ++ lgB (L.drop i) last size
  len : pre.length = i
  z : i = 0 → last = 0
  p : 0 < i → ∃ n, (pre.map (·.2))[i - 1]? = some n ∧ n.seq = last ∧ 1 ≤ last ∧ last ≤ 1000000000
  s : size = (pre.map (·.1)).getLastD 0
  b : size + ((L.drop i).map (fun b => b.length + 6)).sum ≤ 60000

theorem LgI.start {L : List (List UInt8)} (h : (L.map (fun b => b.length + 6)).sum ≤ 60000) : LgI L 0 [] 0 0 :=
  ⟨by simp, rfl, fun _ => rfl, fun h => by omega, rfl, by simpa using h⟩

theorem drop_here {L : List (List UInt8)} {i : Nat} {b : List UInt8} (h : L[i]? = some b) : L.drop i = b :: L.drop (i + 1) := by
  obtain ⟨hl, e⟩ := List.getElem?_eq_some_iff.1 h
  rw [List.drop_eq_getElem_cons hl, e]

theorem LgI.step {L : List (List UInt8)} {i : Nat} {pre : List (Nat × Nt)} {last : Int} {size : Nat} {b : List UInt8} (h : LgI L i pre last size) (hb : L[i]? = some b) (h2 : (readN b).2.1 = 0) (h3 : follB last (readN b).1.seq = true) :
    LgI L (i + 1) (pre ++ [(size + (b.length + 6), (readN b).1)]) (readN b).1.seq (size + (b.length + 6)) := by
  obtain ⟨he, hl, hz, hp, hs, hbb⟩ := h
  have hd := drop_here hb
  refine ⟨?_, by simp [hl], fun h => by omega, fun _ => ?_, by simp, ?_⟩
  · rw [he, hd, lgB, if_pos ⟨h2, h3⟩, List.append_assoc]
    rfl
  · refine ⟨(readN b).1, by simp [← hl], rfl, ?_⟩
    rcases readN_cases b with h4 | h4
    · exact absurd h2 h4.1
    · obtain ⟨_, h5, h6, _⟩ := noteF_zero h4.2
      exact ⟨h5, h6⟩
  · rw [hd, List.map_cons, List.sum_cons] at hbb
    omega

theorem LgI.stop {L : List (List UInt8)} {i : Nat} {pre : List (Nat × Nt)} {last : Int} {size : Nat} {b : List UInt8} (h : LgI L i pre last size) (hb : L[i]? = some b) (h2 : ¬ ((readN b).2.1 = 0 ∧ follB last (readN b).1.seq = true)) : lgB L 0 0 = pre := by
  rw [h.e, drop_here hb, lgB, if_neg h2, List.append_nil]

theorem LgI.fin {L : List (List UInt8)} {pre : List (Nat × Nt)} {last : Int} {size : Nat} (h : LgI L L.length pre last size) : lgB L 0 0 = pre := by
  rw [h.e, List.drop_length, lgB, List.append_nil]

theorem LgI.here {L : List (List UInt8)} {i : Nat} {pre : List (Nat × Nt)} {last : Int} {size : Nat} {b : List UInt8} (h : LgI L i pre last size) (hb : L[i]? = some b) : size + (b.length + 6) ≤ 60000 := by
  have := h.b
  rw [drop_here hb, List.map_cons, List.sum_cons] at this
  omega

theorem LgI.few {L : List (List UInt8)} {i : Nat} {pre : List (Nat × Nt)} {last : Int} {size : Nat} (h : LgI L i pre last size) : size ≤ 60000 := by
  have := h.b
  omega

theorem sum6 : ∀ (L : List (List UInt8)), L.length * 6 ≤ (L.map (fun b => b.length + 6)).sum
  | [] => by simp
  | b :: L => by
    have := sum6 L
    rw [List.map_cons, List.sum_cons, List.length_cons]
    omega

set_option maxRecDepth 100000 in
set_option maxHeartbeats 2000000 in
theorem Logged_any (v : Value) (bs : List UInt8) (w : World) (hrd : Rd w v (bc bs)) (hbl : bs.length ≤ 60000) :
    Calls Try.prog 36 #[v] w fun e w' => ∃ v', e = .returned (.tuple #[v', .int .i64 (sizeR bs : Nat)]) ∧ RdN w' v' (notesR bs) ∧ Below w.heap.size w w' := by
  have hLG := logR_lgB bs
  obtain ⟨L0, hL0, hsum⟩ := un_sum bs.length bs [] 0 (Nat.le_refl _)
  obtain ⟨ao, cap, hvv, hc1, hc2⟩ := hrd.shape
  rw [bc_length] at hc1 hvv
  subst hvv
  unfold maxLen at hc2
  go_enter Try.func36, Try.ntmps36
  go_wp2_with fail
  refine (Unframed_any _ bs _ hrd hbl).mono ?_
  rintro e w1 ⟨v1, rfl, hBN, hb1⟩
  rw [List.nil_append] at hL0
  generalize (unGo (bs.length + 1) bs [] 0).2 = un at *
  rw [hL0] at hBN hLG
  clear hL0
  have hB := hBN.toB
  have hst := LgI.start (L := L0) (by omega)
  have hLl : L0.length ≤ 10000 := by have := sum6 L0; omega
  have HFN : Hid (∀ pre : List (Nat × Nt), lgB L0 0 0 = pre → notesR bs = pre.map (·.2) ∧ sizeR bs = (pre.map (·.1)).getLastD 0) := hide (fun pre h => by rw [notesR, sizeR, hLG, h]; exact ⟨rfl, rfl⟩)
  obtain ⟨lo, lcap, hlv, hd1, hd2, hcell⟩ := hB.open
  subst hlv
  unfold maxLen at hd2
  clear hBN hLG hsum hB
  go_wp2_with fail
  go_loopw [6, 7, 8] (fun o z i wr => ∃ (k size : Nat) (pre : List (Nat × Nt)) (last : Int) (ps : List (Int × Value)), k ≤ L0.length ∧ i = .int .i64 k ∧ z = .int .i64 size ∧ LgI L0 k pre last size ∧ NtO wr o ps (pre.map (·.2)) ∧ wr.ownsRow w1.heap.size 41 2 o k (nn ps) ∧ Below w1.heap.size w1 wr)
    (fun _ _ i _ => L0.length - (intOf i).toNat)
  case atStart => exact ⟨0, 0, [], 0, [], by omega, rfl, rfl, hst, NtO.nil _ _, World.ownsRow_nil _ _ _ _, Below.refl _ _⟩
  case round =>
    clear hst
    obtain ⟨k, size, pre, last, ps, hk, rfl, rfl, hI, hno, hown, hbel⟩ := hrel
    have hzr := hbel.size
    have hsz := hI.few
    by_cases hlt : k < L0.length
    case neg =>
      have hkl : k = L0.length := by omega
      subst hkl
      obtain ⟨e1, e2⟩ := HFN.out pre hI.fin
      have hsz' := hI.s
      have HRD := hide (hno.rd hown)
      have HEQ := hide (e2.trans hsz'.symm)
      have HE1 := hide e1
      have HBW := hide (hb1.trans (hbel.mono hb1.size))
      clear hI hno e1 e2 hsz' hown
      go_wp2_with fail
      go_ret2
      exact ⟨_, by rw [HEQ.out]; rfl, by rw [HE1.out]; exact HRD.out, HBW.out⟩
    obtain ⟨b, off, u, rfl, hbb, hcu, hru⟩ := hcell k hlt
    have hbk : L0[k]? = some L0[k] := List.getElem?_eq_getElem hlt
    have hsb := hI.here hbk
    have HSTEP := hide (@LgI.step L0 k pre last size L0[k] hI hbk)
    have HSTOP := hide (@LgI.stop L0 k pre last size L0[k] hI hbk)
    have hz0 := hI.z
    have hp0 := hI.p
    have hs0 := hI.s
    have HCS := hide (readN_cases L0[k])
    generalize L0[k] = bd at *
    have hcu' : wr.cell? ⟨b, off + k, none⟩ = some u := by rw [hbel.cell (by exact hbb)]; exact hcu
    have hru' := hru.below hbel
    obtain ⟨uo, uc, huv, _, _⟩ := hru'.shape
    rw [bc_length] at huv
    subst huv
    have hk1 : (0 : Int) ≤ (k : Int) := by omega
    have hk2 : (k : Int) < (L0.length : Int) := by omega
    clear hcell hbk hI hcu hru
    have HNO := hide hno
    have HZ0 := hide hz0
    have HP0 := hide hp0
    have HS0 := hide hs0
    clear hno hz0 hp0 hs0
    go_wp2_with fail
    refine (NoteOf_any _ bd _ hru' (by omega)).mono ?_
    rintro e w2 ⟨v2, rfl, hr2, hb2, hn2⟩
    generalize readN bd = RN at *
    obtain ⟨⟨s, cs⟩, fx, fy⟩ := RN
    simp only at hr2 HSTOP HSTEP HCS ⊢
    obtain ⟨vo2, vc2, hv2, _, _⟩ := hr2.shape
    subst hv2
    have hb24 : Below w2.heap.size w2 ((w2.alloc (.cells #[.int .i64 s, .slice vo2 cs.length vc2] 41)).alloc (.cells #[.int .i64 fx, .int .i64 fy] 28)) := (below_alloc' _ _).alloc (by simp) _
    have hN4 : Bk ((w2.alloc (.cells #[.int .i64 s, .slice vo2 cs.length vc2] 41)).alloc (.cells #[.int .i64 fx, .int .i64 fy] 28)) w2.heap.size 41 #[.int .i64 s, .slice vo2 cs.length vc2] := (Bk.new w2 _ _).below (below_alloc' _ _) (by simp)
    have hF4 : Bk ((w2.alloc (.cells #[.int .i64 s, .slice vo2 cs.length vc2] 41)).alloc (.cells #[.int .i64 fx, .int .i64 fy] 28)) (w2.heap.size + 1) 28 #[.int .i64 fx, .int .i64 fy] := Bk.new2 w2 _ _ _
    have HB24 := hide hb24
    have HN4 := hide hN4
    have HF4 := hide hF4
    clear hb24 hN4 hF4
    unfold ntA fltC
    go_upto_region 8 with fail
    generalize (w2.alloc (.cells #[.int .i64 s, .slice vo2 cs.length vc2] 41)).alloc (.cells #[.int .i64 fx, .int .i64 fy] 28) = w4 at *
    have hb4 : Below wr.heap.size wr w4 := hb2.trans (HB24.out.mono hb2.size)
    have hN4 := HN4.out
    have hF4 := HF4.out
    have hz4 := hb4.size
    have hr4 := hr2.below HB24.out
    have hown4 := owns_below hown hb4
    have hno4 := HNO.out.ext (Ext.ofBelow _ hb4)
    have hbel4 := hbel.trans (hb4.mono hzr)
    have hcu4 : w4.cell? ⟨b, off + k, none⟩ = some (.slice uo bd.length uc) := by rw [hb4.cell (by simp only; omega)]; exact hcu'
    have hoff4 : Off u6 (.slice vo2 cs.length vc2) := fun a l' c' he _ hg => by
      have h1 := hn2 a l' c' he
      have h2 := (hown.lt a.block hg).2
      omega
    clear HB24 HN4 HF4 hb2 hr2 hn2 hown hru' HNO hcu' hbel hb4
    obtain ⟨oo, ocap, hvo⟩ := owns_shape2 hown4
    subst hvo
    have f0 := hF4.cell 0
    have n0 := hN4.cell 0
    have n1 := hN4.cell 1
    simp at f0 n0 n1
    have hlN := hN4.lt
    have hlF := hF4.lt
    have HBW := hide (hb1.trans (hbel4.mono hb1.size))
    by_cases hx : fx = 0
    case neg =>
      obtain ⟨e1, e2⟩ := HFN.out pre (HSTOP.out (fun h => hx h.1))
      have HE1 := hide e1
      have HE2 := hide (e2.trans HS0.out.symm)
      have HRD := hide (hno4.rd hown4)
      have hcb : (fx == 0) = false := beq_eq_false_iff_ne.2 hx
      have hcb2 : (fx != 0) = true := by simp [hx]
      clear e1 e2 hno4 hown4 hr4 hoff4 hN4 hF4 hbel4 HSTEP HSTOP
      go_wp2_with fail
      go_quiet (fail)
      go_wp2_with fail
      go_ret2
      exact ⟨_, by rw [HE2.out]; rfl, by rw [HE1.out]; exact HRD.out, below_drewN HBW.out _⟩
    subst hx
    obtain ⟨hfy, hnf⟩ : fy = 0 ∧ (noteF s cs).1 = 0 := by
      rcases HCS.out with h | ⟨h1, h2⟩
      · exact absurd rfl h.1
      · exact ⟨by simpa using h1, h2⟩
    subst hfy
    obtain ⟨_, hs1, hs2, _, _, _⟩ := noteF_zero hnf
    have hl8 : k ≤ 100000000 := by omega
    have hb8 : w1.heap.size ≤ w4.heap.size := by omega
    have hwa : IntKind.i64.wrap ((size : Int) + 6) = (size : Int) + 6 := by rw [IntKind.wrap_i64]; omega
    have hwb : IntKind.i64.wrap ((size : Int) + 6 + (bd.length : Int)) = (size : Int) + 6 + (bd.length : Int) := by rw [IntKind.wrap_i64]; omega
    clear HCS hnf
    have HNO4 := hide hno4
    have HR4 := hide hr4
    have HOF := hide hoff4
    clear hno4 hr4 hoff4
    rcases Nat.eq_zero_or_pos k with hk0 | hk0
    · have hls := HZ0.out hk0
      have HS := hide (HSTEP.out rfl (by rw [hls]; rfl))
      have hkd : decide ((k : Int) > 0) = false := decide_eq_false (by omega)
      have hkd2 : decide ((0 : Int) < (k : Int)) = false := decide_eq_false (by omega)
      have hkd3 : decide (0 < k) = false := decide_eq_false (by omega)
      clear HSTEP HSTOP hk0 hls
      go_wp2_with fail
      go_quiet (fail)
      go_wp2_with (at_builtin; go_must (refine wpList_append_one2E (w := w4.drewN nq) (q := s) rfl (by exact hown4) Try.underlying62 Try.infoN41 rfl rfl rfl rfl rfl hl8 (by decide) (by exact hb8) ?_); intro v6 w6 ho6 hb6 he6; have hcu6 : w6.cell? ⟨b, off + k, none⟩ = some (.slice uo bd.length uc) := by (rw [hb6.cell (by exact hbb)]; exact hcu4))
      have he7 := (Ext.drewN w4 (.slice oo k ocap) nq).trans he6
      have hpc6 := (NtO.snoc (n := ⟨s, cs⟩) HNO4.out HR4.out HOF.out).ext he7
      go_roundw
      case rel => exact ⟨k + 1, size + (bd.length + 6), _, s, _, by omega, by go_num, by go_num, HS.out, by rw [List.map_append]; exact hpc6, ho6, hbel4.trans ⟨hb6.os, hb6.tape, hb6.output, hb6.size, hb6.block⟩⟩
      case measure => simp [intOf]; omega
    · obtain ⟨j, rfl⟩ : ∃ j, k = j + 1 := ⟨k - 1, by omega⟩
      obtain ⟨n, hn, hsq, hl1, hl2⟩ := HP0.out hk0
      rw [Nat.add_sub_cancel] at hn
      obtain ⟨b9, o9, x9, rfl, hb9, c0, c1, _⟩ := (HNO4.out.rd hown4).hereD hn
      rw [hsq] at c0
      have hkd : decide ((j : Int) + 1 > 0) = true := decide_eq_true (by omega)
      have hkd2 : decide ((0 : Int) < (j : Int) + 1) = true := decide_eq_true (by omega)
      have hj1 : (0 : Int) ≤ (j : Int) + 1 - 1 := by omega
      have hj2 : (j : Int) + 1 - 1 < (j : Int) + 1 := by omega
      have hjj : (j : Int) + 1 - 1 = (j : Int) := by omega
      have hwc : IntKind.i64.wrap (s - 1) = s - 1 := by rw [IntKind.wrap_i64]; omega
      clear c1 hn hsq
      by_cases hfo : s - 1 = last
      · have HS := hide (HSTEP.out rfl (by simp [follB]; right; omega))
        have hcb : (s - 1 == last) = true := by simp [hfo]
        have hcb2 : (s - 1 != last) = false := by simp [hfo]
        clear HSTEP HSTOP
        go_wp2_with fail
        go_quiet (fail)
        go_wp2_with (at_builtin; go_must (refine wpList_append_one2E (w := w4.drewN nq) (q := s) rfl (by exact hown4) Try.underlying62 Try.infoN41 rfl rfl rfl rfl rfl hl8 (by decide) (by exact hb8) ?_); intro v6 w6 ho6 hb6 he6; have hcu6 : w6.cell? ⟨b, off + (j + 1), none⟩ = some (.slice uo bd.length uc) := by (rw [hb6.cell (by exact hbb)]; exact hcu4))
        have he7 := (Ext.drewN w4 (.slice (some ⟨b9, o9, none⟩) (j + 1) ocap) nq).trans he6
        have hpc6 := (NtO.snoc (n := ⟨s, cs⟩) HNO4.out HR4.out HOF.out).ext he7
        go_roundw
        case rel => exact ⟨(j + 1) + 1, size + (bd.length + 6), _, s, _, by omega, by go_num, by go_num, HS.out, by rw [List.map_append]; exact hpc6, ho6, hbel4.trans ⟨hb6.os, hb6.tape, hb6.output, hb6.size, hb6.block⟩⟩
        case measure => simp [intOf]; omega
      · obtain ⟨e1, e2⟩ := HFN.out pre (HSTOP.out (fun h => by have h2 := h.2; simp [follB] at h2; omega))
        have HE1 := hide e1
        have HE2 := hide (e2.trans HS0.out.symm)
        have HRD := hide (HNO4.out.rd hown4)
        have hcb : (s - 1 == last) = false := by simp [hfo]
        have hcb2 : (s - 1 != last) = true := by simp [hfo]
        clear e1 e2 hown4 hN4 hF4 hbel4 HSTEP HSTOP
        go_wp2_with fail
        go_quiet (fail)
        go_wp2_with fail
        go_ret2
        exact ⟨_, by rw [HE2.out]; rfl, by rw [HE1.out]; exact HRD.out, below_drewN HBW.out _⟩

end Go.Proofs.Ytdodajalejfbiad

/-
  The walks beneath the law DiskDoes: the document's check, copies, the closures.
-/
namespace Go.Proofs.Ytdodajalejfbiad
open Go.RowKit

set_option maxRecDepth 100000 in
set_option maxHeartbeats 400000 in
theorem DiskFault_any (v : Value) (bs : List UInt8) (k : Int) (w : World) (h : Rd w v (bc bs)) :
    Calls Try.prog 35 #[dsk v k] w fun e w' => e = .returned (flt (checkR bs k) 0) ∧ Below w.heap.size w w' := by
  obtain ⟨ao, cap, hu, hc1, hc2⟩ := h.shape
  rw [bc_length] at hc1 hu
  subst hu
  unfold maxLen at hc2
  unfold dsk
  clear h
  by_cases h1 : 60000 < bs.length
  · have HE := hide (@checkR_big bs k h1)
    go_enter Try.func35, Try.ntmps35
    go_wp2_with fail
    refine (F_any 8 0 _).mono ?_
    rintro e w1 ⟨rfl, rfl⟩
    simp only [flt]
    go_wp2_with fail
    exact bodyPost_ret (v := flt 8 0) (by simp [results, Try.results35, go_sem, flt]) rfl ⟨by rw [HE.out], by go_grown⟩
  · by_cases h2 : k < 0
    · have HE := hide (@checkR_out bs k h1 (by omega))
      go_enter Try.func35, Try.ntmps35
      go_wp2_with fail
      refine (F_any 3 0 _).mono ?_
      rintro e w1 ⟨rfl, rfl⟩
      simp only [flt]
      go_wp2_with fail
      exact bodyPost_ret (v := flt 3 0) (by simp [results, Try.results35, go_sem, flt]) rfl ⟨by rw [HE.out], by go_grown⟩
    · by_cases h3 : (bs.length : Int) < k
      · have HE := hide (@checkR_out bs k h1 (by omega))
        go_enter Try.func35, Try.ntmps35
        go_wp2_with fail
        refine (F_any 3 0 _).mono ?_
        rintro e w1 ⟨rfl, rfl⟩
        simp only [flt]
        go_wp2_with fail
        exact bodyPost_ret (v := flt 3 0) (by simp [results, Try.results35, go_sem, flt]) rfl ⟨by rw [HE.out], by go_grown⟩
      · have HE := hide (@checkR_ok bs k h1 (by omega) (by omega))
        go_enter Try.func35, Try.ntmps35
        go_wp2_with fail
        exact bodyPost_ret (v := flt 0 0) (by simp [results, Try.results35, go_sem, flt]) rfl ⟨by rw [HE.out], by go_grown⟩

set_option maxRecDepth 100000 in
set_option maxHeartbeats 400000 in
theorem ownDisk_any (v : Value) (bs : List UInt8) (k : Int) (w : World) (h : Rd w v (bc bs)) (hl : bs.length ≤ 1000000000) :
    Calls Try.prog 31 #[dsk v k] w fun e w' => ∃ v', e = .returned (dsk v' k) ∧ Rd w' v' (bc bs) ∧ Below w.heap.size w w' ∧ New w.heap.size v' := by
  obtain ⟨ao, cap, hu, hc1, hc2⟩ := h.shape
  rw [bc_length] at hc1 hu
  subst hu
  unfold dsk
  go_enter Try.func31, Try.ntmps31
  go_wp2_with fail
  have hbC : Below w.heap.size w ((w.alloc (.cells #[.slice ao bs.length cap, .int .i64 k] 58)).alloc (.cells #[.slice none 0 0, .int .i64 0] 58)) := ((Below.refl _ _).alloc (Nat.le_refl _) _).alloc (by simp) _
  have hD : Tb ((w.alloc (.cells #[.slice ao bs.length cap, .int .i64 k] 58)).alloc (.cells #[.slice none 0 0, .int .i64 0] 58)) w.heap.size 58 (.slice ao bs.length cap) (.int .i64 k) := (Tb.new w _ _ _).below (below_alloc _ _)
  have hR : Tb ((w.alloc (.cells #[.slice ao bs.length cap, .int .i64 k] 58)).alloc (.cells #[.slice none 0 0, .int .i64 0] 58)) (w.heap.size + 1) 58 (.slice none 0 0) (.int .i64 0) := by
    have := Tb.new (w.alloc (.cells #[.slice ao bs.length cap, .int .i64 k] 58)) 58 (.slice none 0 0) (.int .i64 0)
    simpa using this
  have h1 := h.below hbC
  generalize (w.alloc (.cells #[.slice ao bs.length cap, .int .i64 k] 58)).alloc (.cells #[.slice none 0 0, .int .i64 0] 58) = w1 at *
  have hsz1 := hR.facts.2.2.2.2
  obtain ⟨d0, d1, d2, d3, d4⟩ := hD.facts
  have HD := hide hD
  have HR := hide hR
  have H1 := hide h1
  clear hD hR h1 h
  go_region_held3 (fun W => W.cell? ⟨w.heap.size, 0, none⟩ = some (.slice ao bs.length cap) ∧ W.cell? ⟨w.heap.size, 1, none⟩ = some (.int .i64 k)) (go_keep) (first | (go_at_call 21; refine (ownBytes_any _ bs _ (by exact H1.out) hl).mono ?_; rintro e w3 ⟨v3, rfl, hr3, hb3, hn3⟩; obtain ⟨ao3, cap3, hv3, _, _⟩ := hr3.shape; rw [bc_length] at hv3; subst hv3; obtain ⟨q0, q1, q2, q3, q4⟩ := (Tb.below (w := w1.drew) HD.out hb3).facts; obtain ⟨r0, r1, r2, r3, r4⟩ := (Tb.below (w := w1.drew) HR.out hb3).facts))
  all_goals
    have hz1 : w1.drew.heap.size = w1.heap.size := rfl
    have hbw3 : Below w.heap.size w w3 := Below.trans hbC.drew (hb3.mono (by omega))
    go_wp2_with fail
    exact bodyPost_ret (v := dsk (.slice ao3 bs.length cap3) k) (by simp [results, Try.results31, go_sem, dsk, r0, r1]) rfl ⟨_, rfl, (hr3.setNew hn3 (by simp only; omega) _).setNew hn3 (by simp only; omega) _, by go_grown, hn3.mono (by omega)⟩

end Go.Proofs.Ytdodajalejfbiad

/-
  The closure of the law WalLogs, and the comparison that calls it.
-/
namespace Go.Proofs.Ytdodajalejfbiad
open Go.RowKit

set_option maxRecDepth 100000 in
set_option maxHeartbeats 400000 in
theorem Logs1_any (L M : Nat) (v x : Value) (bs ys : List UInt8) (k : Int) (w : World) (hD : Tb w L 58 v (.int .i64 k)) (hB : w.cell? ⟨M, 0, none⟩ = some x) (hv : Rd w v (bc bs)) (hx : Rd w x (bc ys)) (hl : bs.length + ys.length ≤ 1000000) :
    Calls Try.prog 40 #[.pointer (some ⟨L, 0, none⟩), .pointer (some ⟨M, 0, none⟩)] w fun e w' => ∃ v', e = .returned (dsk v' k) ∧ Rd w' v' (bc (bs ++ ys)) ∧ Below w.heap.size w w' := by
  obtain ⟨ao, cap, hu, hc1, hc2⟩ := hv.shape
  obtain ⟨bo, cbp, hu2, hd1, hd2⟩ := hx.shape
  rw [bc_length] at hc1 hu hd1 hu2
  subst hu hu2
  have hMs : M < w.heap.size := World.block_lt_of_cell? w _ hB
  go_enter Try.func40, Try.ntmps40
  go_wp2_with fail
  have hbC := below_alloc w (.cells #[.slice none 0 0, .int .i64 0] 58)
  have hall : ∀ W, Below w.heap.size w W → W.cell? ⟨L, 0, none⟩ = some (.slice ao bs.length cap) ∧ W.cell? ⟨L, 1, none⟩ = some (.int .i64 k) ∧ W.cell? ⟨M, 0, none⟩ = some (.slice bo ys.length cbp) := fun W h => ⟨(hD.below h).facts.1, (hD.below h).facts.2.1, cell_below hB h⟩
  have hD1 := hD.below hbC
  have hB1 := cell_below hB hbC
  have hv1 := hv.below hbC
  have hx1 := hx.below hbC
  have hR1 := Tb.new w 58 (.slice none 0 0) (.int .i64 0)
  clear hD hB hv hx
  generalize w.alloc (.cells #[.slice none 0 0, .int .i64 0] 58) = w1 at *
  obtain ⟨d0, d1, d2, d3, d4⟩ := hD1.facts
  have hsz1 := hR1.facts.2.2.2.2
  have HALL := hide hall
  have HR := hide hR1
  have HV := hide hv1
  have HX := hide hx1
  clear hall hR1 hv1 hx1
  have hal : bs.length + (bc ys).length ≤ 2000000000000 := by rw [bc_length]; omega
  have hl2 : bs.length ≤ 1000000000 := by omega
  go_region_held3 (fun W => W.cell? ⟨L, 0, none⟩ = some (.slice ao bs.length cap) ∧ W.cell? ⟨L, 1, none⟩ = some (.int .i64 k) ∧ W.cell? ⟨M, 0, none⟩ = some (.slice bo ys.length cbp)) (exact HALL.out _ (by go_grown)) (first
    | (go_at_call 21; refine (ownBytesO_any _ bs _ (by exact HV.out) hl2).mono ?_; rintro e w3 ⟨v3, rfl, ho3, hb3⟩; have hb13 : Below w1.heap.size w1 w3 := Below.trans (by go_grown) hb3; have hz13 := hb13.size; have hbw3 : Below w.heap.size w w3 := hbC.trans (hb13.mono (Nat.le_of_lt hsz1)); have hzw3 := hbw3.size; obtain ⟨ao3, cap3, hv3⟩ := owns_shape ho3; subst hv3)
    | (have k9 := ho3; refine step_append_rd k9 (by exact HX.out.below hb13) Try.underlying42 Try.info5 rfl (by rfl) (by rfl) (by rfl) (by rfl) (bc_one _) hal (by decide) (by exact hz13) ?_; intro v6 w6 ho6 hb6 hg6; obtain ⟨ao6, cap6, hv6⟩ := owns_shape ho6; subst hv6; have hb16 : Below w1.heap.size w1 w6 := hb13.trans hb6; have hbw6 : Below w.heap.size w w6 := hbC.trans (hb16.mono (Nat.le_of_lt hsz1)); have hzw6 := hbw6.size; obtain ⟨r0, r1, r2, r3, r4⟩ := (HR.out.below hb16).facts))
  all_goals
    have hz1 : w1.drew.heap.size = w1.heap.size := rfl
    have hn6 := New.owns ho6
    have hr6 := Rd.ofOwns ho6
    rw [← bc_append] at hr6
    go_wp2_with fail
    exact bodyPost_ret (v := dsk (.slice ao6 (bs.length + (bc ys).length) cap6) k) (by simp [results, Try.results40, go_sem, dsk, r0, r1]) rfl ⟨_, rfl, (hr6.setNew hn6 (by simp only; omega) _).setNew hn6 (by simp only; omega) _, by go_grown⟩

set_option maxRecDepth 100000 in
set_option maxHeartbeats 1000000 in
theorem diskAsL_true (p1 p2 v : Value) (bs : List UInt8) (k c a : Int) (w : World) (hv : Rd w v (bc bs)) (hbad : c ≠ 0 → bs = [] ∧ k = 0)
    (hcl : c = 0 → ∀ W, Below w.heap.size w W → Calls Try.prog 40 #[p1, p2] W fun e w' => ∃ v', e = .returned (dsk v' k) ∧ Rd w' v' (bc bs) ∧ Below W.heap.size W w') :
    Calls Try.prog 39 #[dsk v k, flt c a, flt c a, .func (.func 40) #[] #[p1, p2]] w fun e w' => e = .returned (.bool true) ∧ Below w.heap.size w w' := by
  obtain ⟨ao, cap, hu, hc1, hc2⟩ := hv.shape
  rw [bc_length] at hc1 hu
  subst hu
  unfold dsk flt
  by_cases hc : c = 0
  · subst hc
    have HCL := hide (hcl rfl)
    clear hcl hbad
    go_enter Try.func39, Try.ntmps39
    go_wp2_with fail
    have hbC : Below w.heap.size w (((w.alloc (.cells #[.slice ao bs.length cap, .int .i64 k] 58)).alloc (.cells #[.int .i64 0, .int .i64 a] 28)).alloc (.cells #[.int .i64 0, .int .i64 a] 28)) := (((Below.refl _ _).alloc (Nat.le_refl _) _).alloc (by simp) _).alloc (by simp; omega) _
    obtain ⟨hD, _, _, _, hsz⟩ := three_later (Below.refl _ (((w.alloc (.cells #[.slice ao bs.length cap, .int .i64 k] 58)).alloc (.cells #[.int .i64 0, .int .i64 a] 28)).alloc (.cells #[.int .i64 0, .int .i64 a] 28)))
    have hv1 := hv.below hbC
    generalize ((w.alloc (.cells #[.slice ao bs.length cap, .int .i64 k] 58)).alloc (.cells #[.int .i64 0, .int .i64 a] 28)).alloc (.cells #[.int .i64 0, .int .i64 a] 28) = w1 at *
    have hkeep : ∀ W, Below w1.heap.size w1 W → W.cell? ⟨w.heap.size, 0, none⟩ = some (.slice ao bs.length cap) ∧ W.cell? ⟨w.heap.size, 1, none⟩ = some (.int .i64 k) := fun W h => ⟨(hD.below h).facts.1, (hD.below h).facts.2.1⟩
    have hcl1 : ∀ W, Below w1.heap.size w1 W → Below w.heap.size w W := fun W h => hbC.trans (h.mono (by omega))
    have HKEEP := hide hkeep
    have HC1 := hide hcl1
    have HV := hide hv1
    obtain ⟨d0, d1, d2, d3, d4⟩ := hD.facts
    clear hkeep hcl1 hv1 hD
    go_region_held3 (fun W => W.cell? ⟨w.heap.size, 0, none⟩ = some (.slice ao bs.length cap) ∧ W.cell? ⟨w.heap.size, 1, none⟩ = some (.int .i64 k)) (exact HKEEP.out _ (by go_grown)) (first
      | (go_at_call 34; refine (SameDisk_any _ _ bs bs k k _ (by exact HV.out.below hb13) (by exact hr3)).mono ?_; rintro e w4 ⟨rfl, hb4⟩; have hb14 := hb13.trans (hb4.mono hz13); have hz14 := hb14.size)
      | (go_at_call 40; refine (HCL.out _ (by exact HC1.out _ (by go_grown))).mono ?_; rintro e w3 ⟨v3, rfl, hr3, hb3⟩; have hb13 : Below w1.heap.size w1 w3 := Below.trans (by go_grown) hb3; have hz13 := hb13.size; obtain ⟨ao3, cap3, hv3, _, _⟩ := hr3.shape; rw [bc_length] at hv3; subst hv3; unfold dsk))
    all_goals
      go_wp2_with fail
      go_ret
      exact ⟨by simp, HC1.out _ hb14⟩
  · obtain ⟨rfl, rfl⟩ := hbad hc
    have hcb : (c != 0) = true := by simp [hc]
    clear hcl hbad hc
    go_enter Try.func39, Try.ntmps39
    go_wp2_with fail
    refine (SameDisk_any _ _ [] [] 0 0 _ (((hv.alloc _).alloc _).alloc _) (Rd.nil _)).mono ?_
    rintro e w3 ⟨rfl, hb3⟩
    have hbw3 : Below w.heap.size w w3 := Below.trans (by go_grown) (hb3.mono (by simp; omega))
    go_wp2_with fail
    go_ret
    exact ⟨rfl, hbw3⟩

end Go.Proofs.Ytdodajalejfbiad

/-
  The walk over the law WalNotes.
-/
namespace Go.Proofs.Ytdodajalejfbiad
open Go.RowKit

theorem manyB_leN {n : Int} (h : manyB n = false) : n ≤ 2000 := by
  unfold manyB at h
  simp at h
  omega

theorem writeN_bad {s : Int} {cs : List Cl} (h : (noteF s cs).1 ≠ 0) : writeN s cs = ([], noteF s cs) := by rw [writeN, if_neg h]
theorem writeN_ok {s : Int} {cs : List Cl} (h : (noteF s cs).1 = 0) : writeN s cs = (noteB s cs, (0, 0)) := by rw [writeN, if_pos h]

set_option maxRecDepth 100000 in
set_option maxHeartbeats 4000000 in
theorem walNotes_any (s : Int) (v u : Value) (cs : List Cl) (bs : List UInt8) (w : World) (hv : RdC w v cs) (_ : -9223372036854775808 ≤ s ∧ s ≤ 9223372036854775807) (hu : Rd w u (bc bs)) :
    Calls Try.prog 5 #[ntA s v, u] w fun e w' => e = .returned (.bool true) ∧ Below w.heap.size w w' := by
  obtain ⟨ao, cap, hvv, hc1, hc2⟩ := hv.shape
  subst hvv
  unfold maxLen at hc2
  obtain ⟨uo, ucap, huu, hd1, hd2⟩ := hu.shape
  rw [bc_length] at hd1 huu
  subst huu
  unfold maxLen at hd2
  unfold ntA
  go_enter Try.func5, Try.ntmps5
  go_wp2_with fail
  have hN0 := Bk.new w 41 #[.int .i64 s, .slice ao cs.length cap]
  refine (walBegun_any _).mono ?_
  rintro e w1 ⟨rfl, hb1⟩
  have hN1 := hN0.below hb1 (by simp)
  have hbw1 : Below w.heap.size w w1 := (below_alloc' _ _).trans (hb1.mono (by simp))
  have hz1 := hN1.lt
  have n0 := hN1.cell 0
  have n1 := hN1.cell 1
  simp at n0 n1
  clear hN0 hb1
  cases hmany : manyB cs.length
  case true =>
    go_wp2_with fail
    refine (many_any _ _).mono ?_
    rintro e w2 ⟨rfl, rfl⟩
    rw [hmany]
    go_wp2_with fail
    go_ret
    exact ⟨rfl, hbw1⟩
  have hl2 := manyB_leN hmany
  have hl3 : cs.length ≤ 1000000 := by omega
  by_cases hbig : 100000 < bs.length
  · have hbg : (100000 : Int) < (bs.length : Int) := by omega
    go_wp2_with fail
    refine (many_any _ _).mono ?_
    rintro e w2 ⟨rfl, rfl⟩
    rw [hmany]
    go_wp2_with fail
    go_ret
    exact ⟨rfl, hbw1⟩
  have hbg : (bs.length : Int) ≤ 100000 := by omega
  go_wp2_with fail
  refine (many_any _ _).mono ?_
  rintro e w2 ⟨rfl, rfl⟩
  rw [hmany]
  clear hmany
  go_wp2_with fail
  refine (ownNote_any s _ cs _ (hv.below hbw1) hl3).mono ?_
  rintro e w3 ⟨vx, rfl, hx3, hb3, _⟩
  obtain ⟨xo, xcap, hvx, _, _⟩ := hx3.shape
  subst hvx
  have hN3 := hN1.below hb3 hN1.lt
  have hbw3 := hbw1.trans (hb3.mono hbw1.size)
  clear hb3 n0 n1 hN1 hbw1
  unfold ntA
  go_upto_region 6 with fail
  have hbA := below_alloc' w3 (.cells #[.int .i64 s, .slice xo cs.length xcap] 41)
  have hX4 := Bk.new w3 41 #[.int .i64 s, .slice xo cs.length xcap]
  have hN4 := hN3.below hbA hN3.lt
  have hx4 := hx3.below hbA
  have hbw4 := hbw3.trans (hbA.mono hbw3.size)
  generalize w3.alloc (.cells #[.int .i64 s, .slice xo cs.length xcap] 41) = w4 at *
  generalize w3.heap.size = zX at *
  clear hbA hN3 hx3 hbw3
  go_wp2_with fail
  refine (ownBytes_any _ bs _ (hu.below hbw4) (by omega)).mono ?_
  rintro e w5 ⟨vy, rfl, hy5, hb5, _⟩
  obtain ⟨yo, ycap, hvy, _, _⟩ := hy5.shape
  rw [bc_length] at hvy
  subst hvy
  have hX5 := hX4.below hb5 hX4.lt
  have hN5 := hN4.below hb5 hN4.lt
  have hx5 := hx4.below hb5
  have hbw5 := hbw4.trans (hb5.mono hbw4.size)
  have x0 := hX5.cell 0
  have x1 := hX5.cell 1
  have hlX := hX5.lt
  simp at x0 x1
  clear hb5 hX4 hN4 hx4 hbw4
  go_wp2_with fail
  refine (WWrite_any s _ cs _ hx5).mono ?_
  rintro e w6 ⟨vc, rfl, hc6, hb6, _⟩
  have hX6 := hX5.below hb6 hX5.lt
  have hN6 := hN5.below hb6 hN5.lt
  have hx6 := hx5.below hb6
  have hy6 := hy5.below hb6
  have hbw6 := hbw5.trans (hb6.mono hbw5.size)
  clear hb6 hX5 hN5 hx5 hy5 hbw5 x0 x1 hlX
  have HWB := hide (@writeN_bad s cs)
  have HWO := hide (@writeN_ok s cs)
  generalize writeN s cs = WN at *
  obtain ⟨CB, fx, fy⟩ := WN
  simp only at hc6 ⊢
  obtain ⟨co, ccap, hvc, _, _⟩ := hc6.shape
  rw [bc_length] at hvc
  subst hvc
  unfold fltC
  go_upto_region 8 with fail
  have hbA := below_alloc' w6 (.cells #[.int .i64 fx, .int .i64 fy] 28)
  have hF7 := Bk.new w6 28 #[.int .i64 fx, .int .i64 fy]
  have hX7 := hX6.below hbA hX6.lt
  have hN7 := hN6.below hbA hN6.lt
  have hx7 := hx6.below hbA
  have hy7 := hy6.below hbA
  have hc7 := hc6.below hbA
  have hbw7 := hbw6.trans (hbA.mono hbw6.size)
  generalize w6.alloc (.cells #[.int .i64 fx, .int .i64 fy] 28) = w7 at *
  generalize w6.heap.size = zF at *
  clear hbA hX6 hN6 hx6 hy6 hc6 hbw6
  go_wp2_with fail
  refine (WRead_any _ bs _ hy7).mono ?_
  rintro e w8 ⟨vm, rfl, hm8, hb8, _⟩
  have hX8 := hX7.below hb8 hX7.lt
  have hN8 := hN7.below hb8 hN7.lt
  have hF8 := hF7.below hb8 hF7.lt
  have hx8 := hx7.below hb8
  have hy8 := hy7.below hb8
  have hc8 := hc7.below hb8
  have hbw8 := hbw7.trans (hb8.mono hbw7.size)
  clear hb8 hX7 hN7 hF7 hx7 hy7 hc7 hbw7
  generalize hRN : readN bs = RN at *
  have HRN := hide hRN
  clear hRN
  obtain ⟨⟨ms, mcs⟩, gx, gy⟩ := RN
  simp only at hm8 ⊢
  obtain ⟨mo, mcap, hvm, _, _⟩ := hm8.shape
  subst hvm
  unfold ntA fltC
  have hb89 : Below w8.heap.size w8 ((w8.alloc (.cells #[.int .i64 ms, .slice mo mcs.length mcap] 41)).alloc (.cells #[.int .i64 gx, .int .i64 gy] 28)) := (below_alloc' _ _).alloc (by simp) _
  have hM9 : Bk ((w8.alloc (.cells #[.int .i64 ms, .slice mo mcs.length mcap] 41)).alloc (.cells #[.int .i64 gx, .int .i64 gy] 28)) w8.heap.size 41 #[.int .i64 ms, .slice mo mcs.length mcap] := (Bk.new w8 _ _).below (below_alloc' _ _) (by simp)
  have hG9 : Bk ((w8.alloc (.cells #[.int .i64 ms, .slice mo mcs.length mcap] 41)).alloc (.cells #[.int .i64 gx, .int .i64 gy] 28)) (w8.heap.size + 1) 28 #[.int .i64 gx, .int .i64 gy] := Bk.new2 w8 _ _ _
  have HB89 := hide hb89
  have HM9 := hide hM9
  have HG9 := hide hG9
  clear hb89 hM9 hG9
  go_upto_region 9 with fail
  generalize (w8.alloc (.cells #[.int .i64 ms, .slice mo mcs.length mcap] 41)).alloc (.cells #[.int .i64 gx, .int .i64 gy] 28) = w9 at *
  have hb89 := HB89.out
  have hM9 := HM9.out
  have hG9 := HG9.out
  clear HB89 HM9 HG9
  have hX9 := hX8.below hb89 hX8.lt
  have hN9 := hN8.below hb89 hN8.lt
  have hF9 := hF8.below hb89 hF8.lt
  have hx9 := hx8.below hb89
  have hy9 := hy8.below hb89
  have hc9 := hc8.below hb89
  have hm9 := hm8.below hb89
  have hbw9 := hbw8.trans (hb89.mono hbw8.size)
  have hv9 := hv.below hbw9
  have hu9 := hu.below hbw9
  clear hb89 hX8 hN8 hF8 hx8 hy8 hc8 hm8 hbw8
  generalize w8.heap.size = zM at *
  have x0 := hX9.cell 0
  have x1 := hX9.cell 1
  have n0 := hN9.cell 0
  have n1 := hN9.cell 1
  simp at x0 x1 n0 n1
  go_wp2_with fail
  refine (SameNote_any s _ _ cs _ hx9 hv9).mono ?_
  rintro e w10 ⟨rfl, hb10⟩
  have hN10 := hN9.below hb10 hN9.lt
  have hF10 := hF9.below hb10 hF9.lt
  have hM10 := hM9.below hb10 hM9.lt
  have hG10 := hG9.below hb10 hG9.lt
  have hy10 := hy9.below hb10
  have hc10 := hc9.below hb10
  have hm10 := hm9.below hb10
  have hbw10 := hbw9.trans (hb10.mono hbw9.size)
  have hu10 := hu.below hbw10
  clear hb10 hX9 hN9 hF9 hM9 hG9 hx9 hy9 hc9 hm9 hv9 hu9 hbw9 x0 x1 n0 n1
  go_wp2_with fail
  refine (Same_any _ _ bs bs _ hy10 hu10).mono ?_
  rintro e w10' ⟨rfl, rfl⟩
  have hbb : (bs == bs) = true := by simp
  rw [hbb]
  clear hy10 hbb
  go_wp2_with fail
  refine (NoteOf_any _ bs _ hu10 (by omega)).mono ?_
  rw [HRN.out]
  rintro e w11 ⟨vW, rfl, hW11, hb11, _⟩
  have hN11 := hN10.below hb11 hN10.lt
  have hF11 := hF10.below hb11 hF10.lt
  have hM11 := hM10.below hb11 hM10.lt
  have hG11 := hG10.below hb11 hG10.lt
  have hc11 := hc10.below hb11
  have hm11 := hm10.below hb11
  have hbw11 := hbw10.trans (hb11.mono hbw10.size)
  clear hb11 hN10 hF10 hM10 hG10 hc10 hm10 hu10 hbw10
  simp only at hW11 ⊢
  obtain ⟨Wo, Wcap, hvW, _, _⟩ := hW11.shape
  subst hvW
  unfold ntA fltC
  have hbAB : Below w11.heap.size w11 ((w11.alloc (.cells #[.int .i64 ms, .slice Wo mcs.length Wcap] 41)).alloc (.cells #[.int .i64 gx, .int .i64 gy] 28)) := (below_alloc' _ _).alloc (by simp) _
  have hWA : Bk ((w11.alloc (.cells #[.int .i64 ms, .slice Wo mcs.length Wcap] 41)).alloc (.cells #[.int .i64 gx, .int .i64 gy] 28)) w11.heap.size 41 #[.int .i64 ms, .slice Wo mcs.length Wcap] := (Bk.new w11 _ _).below (below_alloc' _ _) (by simp)
  have hVA : Bk ((w11.alloc (.cells #[.int .i64 ms, .slice Wo mcs.length Wcap] 41)).alloc (.cells #[.int .i64 gx, .int .i64 gy] 28)) (w11.heap.size + 1) 28 #[.int .i64 gx, .int .i64 gy] := Bk.new2 w11 _ _ _
  have HBAB := hide hbAB
  have HWA := hide hWA
  have HVA := hide hVA
  clear hbAB hWA hVA
  go_upto_region 12 with fail
  generalize (w11.alloc (.cells #[.int .i64 ms, .slice Wo mcs.length Wcap] 41)).alloc (.cells #[.int .i64 gx, .int .i64 gy] 28) = wA at *
  have hbAB := HBAB.out
  have hWA := HWA.out
  have hVA := HVA.out
  clear HBAB HWA HVA
  have hNA := hN11.below hbAB hN11.lt
  have hFA := hF11.below hbAB hF11.lt
  have hMA := hM11.below hbAB hM11.lt
  have hGA := hG11.below hbAB hG11.lt
  have hcA := hc11.below hbAB
  have hmA := hm11.below hbAB
  have hwA := hW11.below hbAB
  have hbwA := hbw11.trans (hbAB.mono hbw11.size)
  have hvA := hv.below hbwA
  clear hbAB hN11 hF11 hM11 hG11 hc11 hm11 hW11 hbw11
  generalize w11.heap.size = zW at *
  have hzA := hbwA.size
  have hkeep : ∀ W, Below wA.heap.size wA W → W.cell? ⟨w.heap.size, 0, none⟩ = some (.int .i64 s) ∧ W.cell? ⟨w.heap.size, 1, none⟩ = some (.slice ao cs.length cap) ∧ W.cell? ⟨zF, 0, none⟩ = some (.int .i64 fx) ∧ W.cell? ⟨zF, 1, none⟩ = some (.int .i64 fy) ∧ W.cell? ⟨zM + 1, 0, none⟩ = some (.int .i64 gx) ∧ W.cell? ⟨zM + 1, 1, none⟩ = some (.int .i64 gy) ∧ W.cell? ⟨zW + 1, 0, none⟩ = some (.int .i64 gx) ∧ W.cell? ⟨zW + 1, 1, none⟩ = some (.int .i64 gy) ∧ W.cell? ⟨zM, 0, none⟩ = some (.int .i64 ms) ∧ W.cell? ⟨zM, 1, none⟩ = some (.slice mo mcs.length mcap) ∧ W.cell? ⟨zW, 0, none⟩ = some (.int .i64 ms) ∧ W.cell? ⟨zW, 1, none⟩ = some (.slice Wo mcs.length Wcap) := fun W h =>
    ⟨(hNA.below h hNA.lt).cell 0, (hNA.below h hNA.lt).cell 1, (hFA.below h hFA.lt).cell 0, (hFA.below h hFA.lt).cell 1, (hGA.below h hGA.lt).cell 0, (hGA.below h hGA.lt).cell 1, (hVA.below h hVA.lt).cell 0, (hVA.below h hVA.lt).cell 1, (hMA.below h hMA.lt).cell 0, (hMA.below h hMA.lt).cell 1, (hWA.below h hWA.lt).cell 0, (hWA.below h hWA.lt).cell 1⟩
  have HKEEP := hide hkeep
  have HNB := hide hNA
  have HVV := hide hvA
  have HCC := hide hcA
  have HMM := hide hmA
  have HWW := hide hwA
  obtain ⟨c0, c1, c2, c3, c4, c5, c6, c7, c8, c9, c10, c11⟩ := hkeep wA (Below.refl _ _)
  clear hkeep hNA hFA hGA hVA hMA hWA hvA hcA hmA hwA
  have hgg : (gx == gx) = true := by simp
  have hgg2 : (gy == gy) = true := by simp
  generalize hNF : noteF s cs = NF at *
  obtain ⟨nx, ny⟩ := NF
  have HNF := hide hNF
  clear hNF
  by_cases hx : nx = 0
  · subst hx
    obtain ⟨hz0, hs1, hs2, hl0, hl20, hck⟩ := noteF_zero (s := s) (cs := cs) (by rw [HNF.out])
    have hny : ny = 0 := by rw [HNF.out] at hz0; simpa using hz0
    subst hny
    have hwo := HWO.out rfl
    simp only [Prod.mk.injEq] at hwo
    obtain ⟨hcb, rfl, rfl⟩ := hwo
    obtain ⟨m, rfl⟩ : ∃ m : Nat, s = (m : Int) := ⟨s.toNat, by omega⟩
    have HCB := hide hcb
    have HCO : Hid (∀ c ∈ cs, codeC c = 0) := hide (fun c hc => fine_code (by rw [hck]) hc)
    have hm9 : m ≤ 1000000000 := by omega
    have hl9 : cs.length ≤ 1000 := by omega
    clear hcb hck hz0 HWO HWB
    go_region_held3 (fun W => W.cell? ⟨w.heap.size, 0, none⟩ = some (.int .i64 m) ∧ W.cell? ⟨w.heap.size, 1, none⟩ = some (.slice ao cs.length cap) ∧ W.cell? ⟨zF, 0, none⟩ = some (.int .i64 0) ∧ W.cell? ⟨zF, 1, none⟩ = some (.int .i64 0) ∧ W.cell? ⟨zM + 1, 0, none⟩ = some (.int .i64 gx) ∧ W.cell? ⟨zM + 1, 1, none⟩ = some (.int .i64 gy) ∧ W.cell? ⟨zW + 1, 0, none⟩ = some (.int .i64 gx) ∧ W.cell? ⟨zW + 1, 1, none⟩ = some (.int .i64 gy) ∧ W.cell? ⟨zM, 0, none⟩ = some (.int .i64 ms) ∧ W.cell? ⟨zM, 1, none⟩ = some (.slice mo mcs.length mcap) ∧ W.cell? ⟨zW, 0, none⟩ = some (.int .i64 ms) ∧ W.cell? ⟨zW, 1, none⟩ = some (.slice Wo mcs.length Wcap)) (exact HKEEP.out _ (by go_grown)) (first
      | (go_at_call 28; refine (NoteFault_any m _ cs _ (by exact HVV.out.below (by go_grown))).mono ?_; rintro e wB ⟨rfl, hbB⟩; rw [HNF.out]; unfold fltC; have hAB : Below wA.heap.size wA wB := Below.trans (by go_grown) (hbB.mono (by first | exact Nat.le_refl _ | (simp <;> omega))); have hzB := hAB.size)
      | (go_at_call 27; refine (bytesAsN_ok w.heap.size _ m _ _ cs _ (by exact (HNB.out.below hAB HNB.out.lt).below (C := wB.heap.size) (by go_grown) (by have := HNB.out.lt; omega)) (by exact (HVV.out.below hAB).below (by go_grown)) hm9 HCO.out hl9 (by rw [← HCB.out]; exact (HCC.out.below hAB).below (by go_grown))).mono ?_; rintro e wC ⟨rfl, hbC⟩; have hAC : Below wA.heap.size wA wC := hAB.trans (Below.trans (Below.mono (show Below wB.heap.size wB _ by go_grown) hzB) (hbC.mono (by first | exact hzB | (simp <;> omega)))); have hzC := hAC.size)
      | (go_at_call 24; refine (SameNote_any ms _ _ mcs _ (by exact (HMM.out.below hAC).below (by go_grown)) (by exact (HWW.out.below hAC).below (by go_grown))).mono ?_; rintro e wD ⟨rfl, hbD⟩; have hAD : Below wA.heap.size wA wD := hAC.trans (Below.trans (Below.mono (show Below wC.heap.size wC _ by go_grown) hzC) (hbD.mono (by first | exact hzC | (simp <;> omega))))))
    all_goals
      go_wp2_with fail
      go_ret
      exact ⟨rfl, hbwA.trans (hAD.mono hzA)⟩
  · have hwb := HWB.out hx
    simp only [Prod.mk.injEq] at hwb
    obtain ⟨rfl, rfl, rfl⟩ := hwb
    clear HWO HWB
    go_region_held3 (fun W => W.cell? ⟨w.heap.size, 0, none⟩ = some (.int .i64 s) ∧ W.cell? ⟨w.heap.size, 1, none⟩ = some (.slice ao cs.length cap) ∧ W.cell? ⟨zF, 0, none⟩ = some (.int .i64 fx) ∧ W.cell? ⟨zF, 1, none⟩ = some (.int .i64 fy) ∧ W.cell? ⟨zM + 1, 0, none⟩ = some (.int .i64 gx) ∧ W.cell? ⟨zM + 1, 1, none⟩ = some (.int .i64 gy) ∧ W.cell? ⟨zW + 1, 0, none⟩ = some (.int .i64 gx) ∧ W.cell? ⟨zW + 1, 1, none⟩ = some (.int .i64 gy) ∧ W.cell? ⟨zM, 0, none⟩ = some (.int .i64 ms) ∧ W.cell? ⟨zM, 1, none⟩ = some (.slice mo mcs.length mcap) ∧ W.cell? ⟨zW, 0, none⟩ = some (.int .i64 ms) ∧ W.cell? ⟨zW, 1, none⟩ = some (.slice Wo mcs.length Wcap)) (exact HKEEP.out _ (by go_grown)) (first
      | (go_at_call 28; refine (NoteFault_any s _ cs _ (by exact HVV.out.below (by go_grown))).mono ?_; rintro e wB ⟨rfl, hbB⟩; rw [HNF.out]; unfold fltC; have hAB : Below wA.heap.size wA wB := Below.trans (by go_grown) (hbB.mono (by first | exact Nat.le_refl _ | (simp <;> omega))); have hzB := hAB.size)
      | (go_at_call 27; refine (bytesAsN_bad _ _ fx fy _ hx (by exact (HCC.out.below hAB).below (by go_grown))).mono ?_; rintro e wC ⟨rfl, hbC⟩; have hAC : Below wA.heap.size wA wC := hAB.trans (Below.trans (Below.mono (show Below wB.heap.size wB _ by go_grown) hzB) (hbC.mono (by first | exact hzB | (simp <;> omega)))); have hzC := hAC.size)
      | (go_at_call 24; refine (SameNote_any ms _ _ mcs _ (by exact (HMM.out.below hAC).below (by go_grown)) (by exact (HWW.out.below hAC).below (by go_grown))).mono ?_; rintro e wD ⟨rfl, hbD⟩; have hAD : Below wA.heap.size wA wD := hAC.trans (Below.trans (Below.mono (show Below wC.heap.size wC _ by go_grown) hzC) (hbD.mono (by first | exact hzC | (simp <;> omega))))))
    all_goals
      go_wp2_with fail
      go_ret
      exact ⟨rfl, hbwA.trans (hAD.mono hzA)⟩

end Go.Proofs.Ytdodajalejfbiad

/-
  From the arguments as the row reads them to what the walks ask of them. Nothing of a program stands here.
-/
namespace Go.Proofs.Ytdodajalejfbiad
open Go.ChangeShapes Go.WideShapes Go.ChangeAt Go.RowKit

section
variable {H : Type} {enc : TypeId × Value → H} {P : Program} {W : World}

theorem rd_of_cells {w : World} {a : Addr} {len cap : Nat} {xs : List Value} (hl : xs.length = len) (h1 : len ≤ cap) (h2 : cap ≤ maxLen) (h : ∀ i, i < len → w.cell? (a.add i) = xs[i]?) : Rd w (.slice (some a) len cap) xs := by
  refine ⟨some a, cap, by rw [hl], by omega, h2, (fun h => by cases h), fun b hb j u hu => ?_⟩
  cases hb
  rw [h j (by have := (List.getElem?_eq_some_iff.1 hu).1; omega), hu]

theorem open_ic {t e : TypeId} {a : Option Addr} {len cap : Nat} {d : DataW H} {ps : List MemPlace} (ht : P.underlying t = some (.slice e)) (he : P.underlying e = some (.int .i64)) (hc : P.cellsOf e = 1)
    (h : DataW.Trod enc P W 0 (fun _ => true) true t (.slice a len cap) d ps) : ∃ zs : List Int, Rd W (.slice a len cap) (ic zs) := by
  obtain ⟨fuel, hf⟩ := h
  rcases open_ints ht he hc hf with ⟨hcs, _⟩ | ⟨x, l, c, zs, hcs, _, hl, hm, hz, _, hcell, hwz⟩
  · simp [Value.cells] at hcs
    obtain ⟨rfl, rfl, rfl⟩ := hcs
    exact ⟨[], Rd.nil _⟩
  · simp [Value.cells] at hcs
    obtain ⟨rfl, rfl, rfl⟩ := hcs
    simp at hz
    refine ⟨zs.take len, rd_of_cells (by rw [ic_length, List.length_take]; omega) hl hm fun i hi => ?_⟩
    rw [hcell i (by omega)]
    simp [ic, List.getD, hi, show i < zs.length by omega]

theorem open_bc {t e : TypeId} {a : Option Addr} {len cap fuel : Nat} {d : DataW H} {ps : List MemPlace} (ht : P.underlying t = some (.slice e)) (he : P.underlying e = some (.int .u8)) (hc : P.cellsOf e = 1)
    (hf : DataW.trod enc P W 0 (fun _ => true) true fuel t [.slice a len cap] = some (d, ps)) : ∃ bs : List UInt8, Rd W (.slice a len cap) (bc bs) := by
  rcases open_ints ht he hc hf with ⟨hcs, _⟩ | ⟨x, l, c, zs, hcs, _, hl, hm, hz, _, hcell, hwz⟩
  · simp at hcs
    obtain ⟨rfl, rfl, rfl⟩ := hcs
    exact ⟨[], Rd.nil _⟩
  · simp at hcs
    obtain ⟨rfl, rfl, rfl⟩ := hcs
    simp at hz
    refine ⟨(zs.take len).map fun n => UInt8.ofNat n.toNat, rd_of_cells (by rw [bc_length, List.length_map, List.length_take]; omega) hl hm fun i hi => ?_⟩
    rw [hcell i (by omega)]
    have hi' : i < zs.length := by omega
    have hb := bounds_u8 (hwz zs[i] (List.getElem_mem hi'))
    have e : ((UInt8.ofNat zs[i].toNat).toNat : Int) = zs[i] := by
      simp only [UInt8.toNat_ofNat']
      omega
    simp only [bc, List.getElem?_map, List.getElem?_take, if_pos hi, List.getElem?_eq_getElem hi', Option.map_some, List.getD, Option.getD_some, e]

theorem open_bc' {t e : TypeId} {a : Option Addr} {len cap : Nat} {d : DataW H} {ps : List MemPlace} (ht : P.underlying t = some (.slice e)) (he : P.underlying e = some (.int .u8)) (hc : P.cellsOf e = 1)
    (h : DataW.Trod enc P W 0 (fun _ => true) true t (.slice a len cap) d ps) : ∃ bs : List UInt8, Rd W (.slice a len cap) (bc bs) := by
  obtain ⟨fuel, hf⟩ := h
  exact open_bc ht he hc (by simpa [Value.cells] using hf)

theorem weightsAll_mem {e : TypeId} : ∀ {l : List (DataW H)} {d : DataW H} {n : Nat}, d ∈ l → n ∈ d.weights P e → n ∈ DataW.weightsAll P e l
  | x :: l, d, n, hd, hn => by
    simp only [DataW.weightsAll, List.mem_append]
    rcases List.mem_cons.1 hd with rfl | hd
    · exact .inl hn
    · exact .inr (weightsAll_mem hd hn)

/-- A list of texts; none is longer than the form's reach. -/
theorem open_sc {t e : TypeId} {a : Option Addr} {len cap : Nat} {d : DataW H} {ps : List MemPlace} (ht : P.underlying t = some (.slice e)) (he : P.underlying e = some .string) (hc : P.cellsOf e = 1)
    (h : DataW.Trod enc P W 0 (fun _ => true) true t (.slice a len cap) d ps) (hw : ∀ n ∈ d.weights P t, n ≤ reachBytes) : ∃ ss : List (List UInt8), Rd W (.slice a len cap) (sc ss) ∧ ∀ s ∈ ss, s.length ≤ 140737488351232 := by
  obtain ⟨fuel, hf⟩ := h
  rcases open_strings ht he hc hf with ⟨hcs, _⟩ | ⟨x, l, c, zs, hcs, _, hl, hm, hz, hx, hcell, hwz⟩
  · simp [Value.cells] at hcs
    obtain ⟨rfl, rfl, rfl⟩ := hcs
    exact ⟨[], Rd.nil _, by simp⟩
  · simp [Value.cells] at hcs
    obtain ⟨rfl, rfl, rfl⟩ := hcs
    simp at hz
    simp only [Prod.mk.injEq] at hx
    obtain ⟨rfl, _⟩ := hx
    refine ⟨(zs.take len).map fun s => s.data.toList, rd_of_cells (by rw [sc_length, List.length_map, List.length_take]; omega) hl hm fun i hi => ?_, fun s hs => ?_⟩
    · rw [hcell i (by omega)]
      have hi' : i < zs.length := by omega
      simp only [sc, List.getElem?_map, List.getElem?_take, if_pos hi, List.getElem?_eq_getElem hi', Option.map_some, List.getD, Option.getD_some, Array.toArray_toList]
    · obtain ⟨y, hy, rfl⟩ := List.mem_map.1 hs
      have := hw y.data.toList.length (by
        simp only [DataW.weights, ht, List.mem_cons, List.mem_append]
        refine .inr (.inl (weightsAll_mem (d := .lit (.string y.data.toList)) (List.mem_map.2 ⟨y, hy, rfl⟩) ?_))
        simp [DataW.weights])
      simpa [reachBytes] using this

end
end Go.Proofs.Ytdodajalejfbiad

/-
  From lists of cells, and asks, as the row reads them to what the walks ask of them. Nothing of a program stands here.
-/
namespace Go.Proofs.Ytdodajalejfbiad
open Go.ChangeShapes Go.WideShapes Go.ChangeAt Go.RowKit Go.Joins Go.Deep

section
variable {H : Type} {enc : TypeId × Value → H} {P : Program} {W : World}

theorem choose_list {α : Type} {p : Nat → α → Prop} : ∀ (n : Nat), (∀ i, i < n → ∃ x, p i x) → ∃ l : List α, l.length = n ∧ ∀ i x, l[i]? = some x → p i x
  | 0, _ => ⟨[], rfl, fun i x h => by simp at h⟩
  | n + 1, h => by
    obtain ⟨l, hl, hp⟩ := choose_list n (fun i hi => h i (by omega))
    obtain ⟨x, hx⟩ := h n (by omega)
    refine ⟨l ++ [x], by simp [hl], fun i y hy => ?_⟩
    by_cases hi : i < n
    · rw [List.getElem?_append_left (by omega)] at hy
      exact hp i y hy
    · have hlt := (List.getElem?_eq_some_iff.1 hy).1
      simp at hlt
      have e : i = n := by omega
      subst e
      rw [List.getElem?_append_right (by omega), hl] at hy
      simp at hy
      subst hy
      exact hx

theorem cc_div {cs : List Cl} {j : Nat} {u : Value} (h : (cc cs)[j]? = some u) : ∃ i k c, j = i * 5 + k ∧ k < 5 ∧ cs[i]? = some c ∧ (cv c)[k]? = some u := by
  have hl := (List.getElem?_eq_some_iff.1 h).1
  rw [cc_length] at hl
  have hi : j / 5 < cs.length := by omega
  refine ⟨j / 5, j % 5, cs[j / 5], by omega, by omega, List.getElem?_eq_getElem hi, ?_⟩
  rw [← cc_get cs (j / 5) hi (j % 5) (by omega), ← h]
  congr 1
  omega

/-- A list of cells. -/
theorem open_cells {t e : TypeId} {f0 f1 f2 f3 f4 : Field} {v : Value} {fuel : Nat} {y : DataW H × List MemPlace} (ht : P.underlying t = some (.slice e)) (he : P.underlying e = some (.struct #[f0, f1, f2, f3, f4])) (hone : oneCellFields P #[f0, f1, f2, f3, f4] = true) (hC : P.cellsOf e = 5)
    (h0 : P.underlying f0.type = some .string) (h1 : P.underlying f1.type = some .string) (h2 : P.underlying f2.type = some (.int .i64)) (h3 : P.underlying f3.type = some .bool) (h4 : P.underlying f4.type = some .string)
    (h : DataW.trod enc P W 0 (fun _ => true) true fuel t [v] = some y) : ∃ cs : List Cl, RdC W v cs ∧ ∀ c ∈ cs, -9223372036854775808 ≤ c.time ∧ c.time ≤ 9223372036854775807 := by
  rcases open_slice ht h with ⟨hcs, _⟩ | ⟨a, len, cap, m, n, D, Pl, hcs, hb, hl, hm, hmm, hxx, hx⟩
  · simp only [List.cons.injEq, and_true] at hcs
    subst hcs
    exact ⟨[], RdC.nil _, by simp⟩
  · simp only [List.cons.injEq, and_true] at hcs
    subst hcs
    obtain ⟨o0, k0⟩ := hone_of hone 0 f0 rfl
    obtain ⟨o1, k1⟩ := hone_of hone 1 f1 rfl
    obtain ⟨o2, k2⟩ := hone_of hone 2 f2 rfl
    obtain ⟨o3, k3⟩ := hone_of hone 3 f3 rfl
    obtain ⟨o4, k4⟩ := hone_of hone 4 f4 rfl
    have hlm : len ≤ m := by rw [hmm]; split <;> omega
    have each : ∀ i, i < len → ∃ c : Cl, (∀ k u, (cv c)[k]? = some u → W.cell? (a.add (i * 5 + k)) = some u) ∧ -9223372036854775808 ≤ c.time ∧ c.time ≤ 9223372036854775807 := by
      intro i hi
      obtain ⟨cs', g1, g2⟩ := hx i (by omega)
      rw [hC] at g1
      obtain ⟨_, hlen, hcell⟩ := World.cells?_some g1
      obtain ⟨xs, k, hk, hxy, _, hxl, hf⟩ := DataW.trod_struct he g2
      match xs, hxl, cs', hlen with
      | [y0, y1, y2, y3, y4], _, [v0, v1, v2, v3, v4], _ =>
        have q0 := hf 0 f0 rfl
        have q1 := hf 1 f1 rfl
        have q2 := hf 2 f2 rfl
        have q3 := hf 3 f3 rfl
        have q4 := hf 4 f4 rfl
        simp [o0, o1, o2, o3, o4, k0, k1, k2, k3, k4] at q0 q1 q2 q3 q4
        obtain ⟨s0, e0, _, _⟩ := DataW.trod_string h0 q0
        obtain ⟨s1, e1, _, _⟩ := DataW.trod_string h1 q1
        obtain ⟨s2, e2, _, w2⟩ := DataW.trod_int h2 q2
        obtain ⟨s3, e3, _⟩ := DataW.trod_bool h3 q3
        obtain ⟨s4, e4, _, _⟩ := DataW.trod_string h4 q4
        simp only [List.cons.injEq, and_true] at e0 e1 e2 e3 e4
        subst e0 e1 e2 e3 e4
        refine ⟨⟨s0, s1, s2, s3, s4⟩, fun k u hu => ?_, bounds_i64 w2⟩
        have hk5 : k < 5 := by have := (List.getElem?_eq_some_iff.1 hu).1; simpa [cv] using this
        have := hcell k hk5
        rw [add_add] at this
        rw [this, ← hu]
        rfl
    obtain ⟨cs, hcl, hcp⟩ := choose_list len each
    refine ⟨cs, ⟨some a, cap, by rw [hcl], by omega, hm, (fun h => by cases h), fun b hb' j u hu => ?_⟩, fun c hc => ?_⟩
    · cases hb'
      obtain ⟨i, k, c, rfl, _, hi, hk⟩ := cc_div hu
      exact (hcp i c hi).1 k u hk
    · obtain ⟨i, hi, e⟩ := List.getElem_of_mem hc
      exact (hcp i c (by rw [List.getElem?_eq_getElem hi, e])).2

theorem open_cellsV {t e : TypeId} {f0 f1 f2 f3 f4 : Field} {a : Option Addr} {len cap : Nat} {d : DataW H} {ps : List MemPlace} (ht : P.underlying t = some (.slice e)) (he : P.underlying e = some (.struct #[f0, f1, f2, f3, f4])) (hone : oneCellFields P #[f0, f1, f2, f3, f4] = true) (hC : P.cellsOf e = 5)
    (h0 : P.underlying f0.type = some .string) (h1 : P.underlying f1.type = some .string) (h2 : P.underlying f2.type = some (.int .i64)) (h3 : P.underlying f3.type = some .bool) (h4 : P.underlying f4.type = some .string)
    (h : DataW.Trod enc P W 0 (fun _ => true) true t (.slice a len cap) d ps) : ∃ cs : List Cl, RdC W (.slice a len cap) cs ∧ ∀ c ∈ cs, -9223372036854775808 ≤ c.time ∧ c.time ≤ 9223372036854775807 := by
  obtain ⟨fuel, hf⟩ := h
  exact open_cells ht he hone hC h0 h1 h2 h3 h4 (y := (d, ps)) (by simpa [Value.cells] using hf)

/-- An ask: two texts and two numbers. -/
theorem open_ask {r : Reach} {b0 : Nat} {t : TypeId} {f0 f1 f2 f3 : Field} {v : Value} {d : DataW H} {p : List MemPlace} (hs : P.underlying t = some (.struct #[f0, f1, f2, f3])) (hone : oneCellFields P #[f0, f1, f2, f3] = true) (hC : P.cellsOf t = 4)
    (h0 : P.underlying f0.type = some .string) (h1 : P.underlying f1.type = some .string) (h2 : P.underlying f2.type = some (.int .i64)) (h3 : P.underlying f3.type = some (.int .i64))
    (hv : Value.okWide P W r b0 t v) (h : DataW.Trod enc P W 0 (fun _ => true) true t v d p) :
    ∃ (a b : ByteArray) (x y : Int), v = .agg #[.string a, .string b, .int .i64 x, .int .i64 y] ∧ (-9223372036854775808 ≤ x ∧ x ≤ 9223372036854775807) ∧ -9223372036854775808 ≤ y ∧ y ≤ 9223372036854775807 := by
  obtain ⟨c0, c1, c2, c3, y0, y1, y2, y3, m, rfl, rfl, rfl, hy0, hy1, hy2, hy3⟩ := open_agg4 hs hone hC hv h
  obtain ⟨s0, e0, _, _⟩ := DataW.trod_string h0 hy0
  obtain ⟨s1, e1, _, _⟩ := DataW.trod_string h1 hy1
  obtain ⟨s2, e2, _, w2⟩ := DataW.trod_int h2 hy2
  obtain ⟨s3, e3, _, w3⟩ := DataW.trod_int h3 hy3
  simp only [List.cons.injEq, and_true] at e0 e1 e2 e3
  subst e0 e1 e2 e3
  exact ⟨s0, s1, s2, s3, rfl, bounds_i64 w2, bounds_i64 w3⟩

end
end Go.Proofs.Ytdodajalejfbiad
