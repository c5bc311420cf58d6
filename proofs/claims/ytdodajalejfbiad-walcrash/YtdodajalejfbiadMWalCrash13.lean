/-
  Texts joined: WalR3, WalR4, WalC2, Frame, FrameC, FrameL, FrameB.
-/
import Derived.Test.YtdodajalejfbiadMWalCrash12
import Derived.Deep.RegionHeld3
import Derived.ProofKit
import Derived.OpenShut
import Derived.ShutString
import Derived.ChangeOld
import Derived.Below
import Derived.SliceStrings
import Derived.SizedLaws
import Derived.Deep.Slices
import Derived.Lib.SmallJoins
/-
  The walks over the document's PutCells, PutNotes, SameNotes, and the law's vastNotes, ownNotes.
-/
namespace Go.Proofs.Ytdodajalejfbiad
open Go.RowKit

set_option maxRecDepth 100000 in
set_option maxHeartbeats 2000000 in
theorem PutCellsL_any (v0 v : Value) (L m : List Cl) (w : World) (h0 : RdC w v0 L) (hv : RdC w v m) (hL : L.Pairwise Lt) (hl : L.length + m.length ≤ 100000) :
    Calls Try.prog 88 #[v0, v] w fun e w' => ∃ v', e = .returned v' ∧ RdC w' v' (putL L m) ∧ Below w.heap.size w w' := by
  obtain ⟨ao0, cap0, hvv0, _, _⟩ := h0.shape
  obtain ⟨ao, cap, hvv, hc1, hc2⟩ := hv.shape
  subst hvv hvv0
  unfold maxLen at hc2
  have HL := hide hL
  have H0 := hide h0
  clear hL h0
  go_enter Try.func88, Try.ntmps88
  go_wp2_with fail
  go_loopw [0, 5] (fun u i wr => ∃ (k : Nat) (uo : Option Addr) (uc : Nat), k ≤ m.length ∧ i = .int .i64 k ∧ u = .slice uo (putL L (m.take k)).length uc ∧ RdC wr (.slice uo (putL L (m.take k)).length uc) (putL L (m.take k)) ∧ Below w.heap.size w wr)
    (fun _ i _ => m.length - (intOf i).toNat)
  case atStart => exact ⟨0, ao0, cap0, by omega, rfl, rfl, H0.out, Below.refl _ _⟩
  case round =>
    obtain ⟨k, uo, uc, hk, rfl, rfl, hacc, hbel⟩ := hrel
    have hzr := hbel.size
    have hla := putL_len (m.take k) L
    rw [List.length_take] at hla
    have HP := hide (putL_pw (m.take k) L HL.out)
    by_cases hlt : k < m.length
    · obtain ⟨c, hc⟩ : ∃ c, m[k]? = some c := ⟨_, List.getElem?_eq_getElem hlt⟩
      obtain ⟨b, off, rfl, _, hck⟩ := hv.hereD hc
      obtain ⟨c0, c1, c2, c3, c4⟩ := hck.below hbel
      have hk1 : (0 : Int) ≤ (k : Int) := by omega
      have hk2 : (k : Int) < (m.length : Int) := by omega
      have HN := hide (putL_take (l := L) hc)
      generalize putL L (m.take k) = acc at *
      clear hc hck
      go_wp2_with fail
      refine (PutCell_any _ acc c _ hacc HP.out (by omega)).mono ?_
      rintro e w1 ⟨v1, rfl, hr1, hb1⟩
      obtain ⟨ao1, cap1, hv1, _, _⟩ := hr1.shape
      subst hv1
      go_wp2_with fail
      go_roundw
      case rel => exact ⟨k + 1, _, _, by omega, by go_num, by rw [HN.out], by rw [HN.out]; exact hr1, hbel.trans (hb1.mono hzr)⟩
      case measure => simp [intOf]; omega
    · have hke : k = m.length := by omega
      subst hke
      rw [List.take_length] at *
      go_wp2_with fail
      go_ret
      exact ⟨_, rfl, hacc, hbel⟩

set_option maxRecDepth 100000 in
set_option maxHeartbeats 2000000 in
theorem PutNotes_any (v0 v : Value) (L : List Cl) (ns : List Nt) (w : World) (h0 : RdC w v0 L) (hv : RdN w v ns) (hL : L.Pairwise Lt) (hn : ∀ n ∈ ns, n.cells.length ≤ 20) (hl : L.length + ns.length * 20 ≤ 100000) :
    Calls Try.prog 47 #[v0, v] w fun e w' => ∃ v', e = .returned v' ∧ RdC w' v' (putN L ns) ∧ Below w.heap.size w w' := by
  obtain ⟨ao0, cap0, hvv0, _, _⟩ := h0.shape
  obtain ⟨ao, cap, hvv, hc1, hc2⟩ := hv.shape
  subst hvv hvv0
  unfold maxLen at hc2
  have HL := hide hL
  have H0 := hide h0
  have HN20 := hide hn
  clear hL h0 hn
  go_enter Try.func47, Try.ntmps47
  go_wp2_with fail
  go_loopw [0, 5] (fun u i wr => ∃ (k : Nat) (uo : Option Addr) (uc : Nat), k ≤ ns.length ∧ i = .int .i64 k ∧ u = .slice uo (putN L (ns.take k)).length uc ∧ RdC wr (.slice uo (putN L (ns.take k)).length uc) (putN L (ns.take k)) ∧ (putN L (ns.take k)).length ≤ L.length + k * 20 ∧ Below w.heap.size w wr)
    (fun _ i _ => ns.length - (intOf i).toNat)
  case atStart => exact ⟨0, ao0, cap0, by omega, rfl, rfl, H0.out, by simp [putN], Below.refl _ _⟩
  case round =>
    obtain ⟨k, uo, uc, hk, rfl, rfl, hacc, hla, hbel⟩ := hrel
    have hzr := hbel.size
    have HP := hide (putN_pw (ns.take k) L HL.out)
    by_cases hlt : k < ns.length
    · obtain ⟨n, hn⟩ : ∃ n, ns[k]? = some n := ⟨_, List.getElem?_eq_getElem hlt⟩
      have h20 := HN20.out n (List.mem_of_getElem? hn)
      have HT := hide (putN_take (l := L) hn)
      obtain ⟨bb, off, x, rfl, hbb, k0, k1, hr⟩ := (hv.below hbel).hereD hn
      obtain ⟨s, cs⟩ := n
      simp only at k0 hr HT h20
      obtain ⟨xo, xc, hxx, _, _⟩ := hr.shape
      subst hxx
      have hk1 : (0 : Int) ≤ (k : Int) := by omega
      have hk2 : (k : Int) < (ns.length : Int) := by omega
      generalize putN L (ns.take k) = acc at *
      have hll := putL_len cs acc
      clear hn
      go_wp2_with fail
      refine (PutCellsL_any _ _ acc cs _ hacc hr HP.out (by omega)).mono ?_
      rintro e w1 ⟨v1, rfl, hr1, hb1⟩
      rw [← HT.out] at hr1 hll
      obtain ⟨ao1, cap1, hv1, _, _⟩ := hr1.shape
      subst hv1
      go_wp2_with fail
      go_roundw
      case rel => exact ⟨k + 1, _, _, by omega, by go_num, rfl, hr1, by omega, hbel.trans (hb1.mono hzr)⟩
      case measure => simp [intOf]; omega
    · have hke : k = ns.length := by omega
      subst hke
      rw [List.take_length] at *
      go_wp2_with fail
      go_ret
      exact ⟨_, rfl, hacc, hbel⟩

set_option maxRecDepth 100000 in
set_option maxHeartbeats 2000000 in
theorem SameNotes_any (u v : Value) (ns : List Nt) (w : World) (hu : RdN w u ns) (hv : RdN w v ns) :
    Calls Try.prog 41 #[u, v] w fun e w' => e = .returned (.bool true) ∧ Below w.heap.size w w' := by
  obtain ⟨ao0, cap0, hvv0, he1, he2⟩ := hu.shape
  obtain ⟨ao, cap, hvv, hc1, hc2⟩ := hv.shape
  subst hvv hvv0
  unfold maxLen at hc2 he2
  go_enter Try.func41, Try.ntmps41
  go_wp2_with fail
  go_loopw [5] (fun i wr => ∃ (k : Nat), k ≤ ns.length ∧ i = .int .i64 k ∧ Below w.heap.size w wr)
    (fun i _ => ns.length - (intOf i).toNat)
  case atStart => exact ⟨0, by omega, rfl, Below.refl _ _⟩
  case round =>
    obtain ⟨k, hk, rfl, hbel⟩ := hrel
    have hzr := hbel.size
    by_cases hlt : k < ns.length
    · obtain ⟨n, hn⟩ : ∃ n, ns[k]? = some n := ⟨_, List.getElem?_eq_getElem hlt⟩
      obtain ⟨b1, o1, x, rfl, hb1, k0, k1, hr1⟩ := (hu.below hbel).hereD hn
      obtain ⟨b2, o2, y, rfl, hb2, j0, j1, hr2⟩ := (hv.below hbel).hereD hn
      obtain ⟨s, cs⟩ := n
      simp only at k0 hr1 j0 hr2
      obtain ⟨xo, xc, hxx, _, _⟩ := hr1.shape
      obtain ⟨yo, yc, hyy, _, _⟩ := hr2.shape
      subst hxx hyy
      have hk1 : (0 : Int) ≤ (k : Int) := by omega
      have hk2 : (k : Int) < (ns.length : Int) := by omega
      have HR1 := hide hr1
      have HR2 := hide hr2
      have hkeep : ∀ W, Below wr.heap.size wr W → W.cell? ⟨b1, o1 + k * 2, none⟩ = some (.int .i64 s) ∧ W.cell? ⟨b1, o1 + k * 2 + 1, none⟩ = some (.slice xo cs.length xc) ∧ W.cell? ⟨b2, o2 + k * 2, none⟩ = some (.int .i64 s) ∧ W.cell? ⟨b2, o2 + k * 2 + 1, none⟩ = some (.slice yo cs.length yc) := fun W h => ⟨cell_belowC k0 h, cell_belowC k1 h, cell_belowC j0 h, cell_belowC j1 h⟩
      have HK := hide hkeep
      clear hn hr1 hr2 hkeep
      go_wp2_with fail
      go_region_held3 (fun W => W.cell? ⟨b1, o1 + k * 2, none⟩ = some (.int .i64 s) ∧ W.cell? ⟨b1, o1 + k * 2 + 1, none⟩ = some (.slice xo cs.length xc) ∧ W.cell? ⟨b2, o2 + k * 2, none⟩ = some (.int .i64 s) ∧ W.cell? ⟨b2, o2 + k * 2 + 1, none⟩ = some (.slice yo cs.length yc)) (exact HK.out _ (by go_grown)) (first
        | (go_at_call 24; refine (SameNote_any s _ _ cs _ (by exact HR1.out.below (by go_grown)) (by exact HR2.out.below (by go_grown))).mono ?_; rintro e w2 ⟨rfl, hb2⟩; have hb12 : Below wr.heap.size wr w2 := Below.trans (by go_grown) hb2; have hbel2 : Below w.heap.size w w2 := hbel.trans (hb12.mono hzr)))
      all_goals
        go_wp2_with fail
        go_roundw
        case rel => exact ⟨k + 1, by omega, by go_num, hbel2⟩
        case measure => simp [intOf]; omega
    · go_wp2_with fail
      go_ret
      exact ⟨rfl, hbel⟩

/-- How many cells notes have. -/
def nlen (ns : List Nt) : Nat := (ns.map fun n => n.cells.length).sum
theorem nlen_take {ns : List Nt} {k : Nat} {n : Nt} (h : ns[k]? = some n) : nlen (ns.take (k + 1)) = nlen (ns.take k) + n.cells.length := by
  unfold nlen
  rw [List.take_add_one, h]
  simp
theorem nlen_le {ns : List Nt} (h : ∀ n ∈ ns, n.cells.length ≤ 2199023255552) : ∀ k, k ≤ ns.length → nlen (ns.take k) ≤ k * 2199023255552
  | 0, _ => by simp [nlen]
  | k + 1, hk => by
    have hg : ns[k]? = some (ns[k]'(by omega)) := List.getElem?_eq_getElem (by omega)
    rw [nlen_take hg]
    have h1 := nlen_le h k (by omega)
    have h2 := h _ (List.mem_of_getElem? hg)
    omega
theorem nlen_mem : ∀ {ns : List Nt} {n : Nt}, n ∈ ns → n.cells.length ≤ nlen ns
  | m :: r, n, h => by
    simp only [nlen, List.map_cons, List.sum_cons]
    rcases List.mem_cons.1 h with rfl | h
    · omega
    · have := nlen_mem h
      simp only [nlen] at this
      omega

def vastNB (ns : List Nt) : Bool := decide (1100 < ns.length ∨ 1300 < nlen ns)

set_option maxRecDepth 100000 in
set_option maxHeartbeats 1000000 in
theorem vastNotes_any (v : Value) (ns : List Nt) (w : World) (hv : RdN w v ns) (hb : ∀ n ∈ ns, n.cells.length ≤ 2199023255552) :
    Calls Try.prog 42 #[v] w fun e w' => e = .returned (.bool (vastNB ns)) ∧ Below w.heap.size w w' := by
  obtain ⟨ao, cap, hvv, hc1, hc2⟩ := hv.shape
  subst hvv
  unfold maxLen at hc2
  have HB := hide hb
  clear hb
  by_cases hbig : 1100 < ns.length
  · have HE := hide (show vastNB ns = true by simp [vastNB, hbig])
    go_enter Try.func42, Try.ntmps42
    go_wp2_with fail
    go_loopw [3, 4] (fun n i wr => ∃ (k : Nat) (z : Int), k ≤ ns.length ∧ i = .int .i64 k ∧ n = .int .i64 z ∧ wr = w)
      (fun _ i _ => ns.length - (intOf i).toNat)
    case atStart => exact ⟨0, 0, by omega, rfl, rfl, rfl⟩
    case round =>
      obtain ⟨k, z, hk, rfl, rfl, rfl⟩ := hrel
      by_cases hlt : k < ns.length
      · obtain ⟨n, hn⟩ : ∃ n, ns[k]? = some n := ⟨_, List.getElem?_eq_getElem hlt⟩
        obtain ⟨b1, o1, x, rfl, hb1, k0, k1, hr1⟩ := hv.hereD hn
        obtain ⟨xo, xc, hxx, _, _⟩ := hr1.shape
        subst hxx
        have hk1 : (0 : Int) ≤ (k : Int) := by omega
        have hk2 : (k : Int) < (ns.length : Int) := by omega
        clear hn hr1
        go_wp2_with fail
        go_roundw
        case rel => exact ⟨k + 1, _, by omega, by go_num, rfl, trivial⟩
        case measure => simp [intOf]; omega
      · have hd : decide ((1100 : Int) < (ns.length : Int)) = true := by simp; omega
        go_wp2_with fail
        go_ret
        exact ⟨by rw [HE.out]; rfl, Below.refl _ _⟩
  · have hsm : ns.length ≤ 1100 := by omega
    go_enter Try.func42, Try.ntmps42
    go_wp2_with fail
    go_loopw [3, 4] (fun n i wr => ∃ (k : Nat), k ≤ ns.length ∧ i = .int .i64 k ∧ n = .int .i64 (nlen (ns.take k)) ∧ wr = w)
      (fun _ i _ => ns.length - (intOf i).toNat)
    case atStart => exact ⟨0, by omega, rfl, by simp [nlen], rfl⟩
    case round =>
      obtain ⟨k, hk, rfl, rfl, rfl⟩ := hrel
      have hT := nlen_le HB.out k hk
      by_cases hlt : k < ns.length
      · obtain ⟨n, hn⟩ : ∃ n, ns[k]? = some n := ⟨_, List.getElem?_eq_getElem hlt⟩
        have hT2 := nlen_take hn
        have hl2 := HB.out n (List.mem_of_getElem? hn)
        obtain ⟨b1, o1, x, rfl, hb1, k0, k1, hr1⟩ := hv.hereD hn
        generalize hTk : nlen (ns.take k) = T at *
        obtain ⟨xo, xc, hxx, _, _⟩ := hr1.shape
        subst hxx
        have hk1 : (0 : Int) ≤ (k : Int) := by omega
        have hk2 : (k : Int) < (ns.length : Int) := by omega
        have hTb : T ≤ 1100 * 2199023255552 := Nat.le_trans hT (Nat.mul_le_mul_right _ (by omega))
        have HT2 := hide hT2
        clear hn hr1 hT hT2 hTk
        go_wp2_with fail
        go_roundw
        case rel => exact ⟨k + 1, by omega, by go_num, by rw [HT2.out]; go_num, trivial⟩
        case measure => simp [intOf]; omega
      · have hkl : k = ns.length := by omega
        subst hkl
        rw [List.take_length] at *
        have hd : decide ((1100 : Int) < (ns.length : Int)) = false := by simp; omega
        have hTb : nlen ns ≤ 1100 * 2199023255552 := Nat.le_trans hT (Nat.mul_le_mul_right _ (by omega))
        by_cases h4 : 1300 < nlen ns
        · have HE := hide (show vastNB ns = true by simp [vastNB, h4])
          generalize nlen ns = T at *
          have e1 : decide ((1300 : Int) < (T : Int)) = true := by simp; omega
          go_wp2_with fail
          go_ret
          exact ⟨by rw [HE.out]; rfl, Below.refl _ _⟩
        · have HE := hide (show vastNB ns = false by simp [vastNB]; omega)
          generalize nlen ns = T at *
          have e1 : decide ((1300 : Int) < (T : Int)) = false := by simp; omega
          go_wp2_with fail
          go_ret
          exact ⟨by rw [HE.out]; rfl, Below.refl _ _⟩

end Go.Proofs.Ytdodajalejfbiad

/-
  The walks over the law's ownNotes, WalApplies' own function, and cellsAs of it.
-/
namespace Go.Proofs.Ytdodajalejfbiad
open Go.RowKit

theorem owns_shape2 {w : World} {base : Nat} {e : TypeId} {v : Value} {n : Nat} {xs : List Value} (h : w.ownsRow base e 2 v n xs) : ∃ ao cap, v = .slice ao n cap := by
  rcases h.2 with ⟨rfl, hn⟩ | ⟨g, cap, cur, rfl, _⟩
  · exact ⟨none, 0, by rw [hn]⟩
  · exact ⟨_, _, rfl⟩

theorem Try.infoN41 : (Try.prog.info? 41).map (fun i => (i.zero, i.size, i.bytes)) = some (some (.agg #[.int .i64 0, .slice none 0 0]), 2, 32) := by kernel_rfl

set_option maxRecDepth 100000 in
set_option maxHeartbeats 1000000 in
theorem ownNotes_any (v : Value) (ns : List Nt) (w : World) (hv : RdN w v ns) (hlen : ns.length ≤ 1100) (hb : ∀ n ∈ ns, n.cells.length ≤ 1000000) :
    Calls Try.prog 44 #[v] w fun e w' => ∃ v' ps, e = .returned v' ∧ w'.ownsRow w.heap.size 41 2 v' ns.length (nn ps) ∧ NtO w' v' ps ns ∧ Below w.heap.size w w' := by
  obtain ⟨ao, cap, hvv, hc1, hc2⟩ := hv.shape
  subst hvv
  unfold maxLen at hc2
  have HB := hide hb
  clear hb
  go_enter Try.func44, Try.ntmps44
  go_wp2_with fail
  go_loopw [3, 4] (fun o i wr => ∃ (k : Nat) (ps : List (Int × Value)), k ≤ ns.length ∧ i = .int .i64 k ∧ NtO wr o ps (ns.take k) ∧ wr.ownsRow w.heap.size 41 2 o k (nn ps) ∧ Below w.heap.size w wr)
    (fun _ i _ => ns.length - (intOf i).toNat)
  case atStart => exact ⟨0, [], by omega, rfl, by simpa using NtO.nil _ _, World.ownsRow_nil _ _ _ _, Below.refl _ _⟩
  case round =>
    obtain ⟨k, ps, hk, rfl, hpc, hown, hbel⟩ := hrel
    have hzr := hbel.size
    by_cases hlt : k < ns.length
    · obtain ⟨n, hn⟩ : ∃ n, ns[k]? = some n := ⟨_, List.getElem?_eq_getElem hlt⟩
      obtain ⟨b1, o1, x, rfl, hb1, k0, k1, hr⟩ := (hv.below hbel).hereD hn
      have hll := HB.out n (List.mem_of_getElem? hn)
      have HTK : Hid (ns.take (k + 1) = ns.take k ++ [n]) := hide (by rw [List.take_add_one, hn]; rfl)
      obtain ⟨s, cs⟩ := n
      simp only at k0 hr hll
      obtain ⟨xo, xc, hxx, _, _⟩ := hr.shape
      subst hxx
      have hk1 : (0 : Int) ≤ (k : Int) := by omega
      have hk2 : (k : Int) < (ns.length : Int) := by omega
      have HPC := hide hpc
      have HR := hide hr
      obtain ⟨oo, ocap, hvo⟩ := owns_shape2 hown
      subst hvo
      have hl8 : k ≤ 100000000 := by omega
      clear hn hpc hr
      go_wp2_with (first
        | (at_builtin; go_must (refine wpList_append_one2E (q := s) rfl how5 Try.underlying62 Try.infoN41 rfl rfl rfl rfl rfl hl8 (by decide) hb8 ?_); intro v6 w6 ho6 hb6 he6)
        | (go_at_call 20; refine (ownNote_any s _ cs _ HR.out hll).mono ?_; rintro e w5 ⟨v5, rfl, hr5, hb5, hn5⟩; obtain ⟨ao5, cap5, hv5, _, _⟩ := hr5.shape; subst hv5; unfold ntA; have how5 := owns_below hown hb5; have hb8 := Nat.le_trans hzr hb5.size))
      have hoff5 : Off (.slice oo k ocap) (.slice ao5 cs.length cap5) := fun a l' c' he _ hg => by
        have h1 := hn5 a l' c' he
        have h2 := (hown.lt a.block hg).2
        omega
      have hpc5 := NtO.snoc (n := ⟨s, cs⟩) (HPC.out.ext (Ext.ofBelow _ hb5)) hr5 hoff5
      have hpc6 := hpc5.ext he6
      rw [← HTK.out] at hpc6
      go_roundw
      case rel => exact ⟨k + 1, _, by omega, by go_num, hpc6, ho6, (hbel.trans (hb5.mono hzr)).trans hb6⟩
      case measure => simp [intOf]; omega
    · have hkl : k = ns.length := by omega
      subst hkl
      rw [List.take_length] at hpc
      have HPC := hide hpc
      have HO := hide hown
      clear hpc hown
      go_wp2_with fail
      go_ret
      exact ⟨_, ps, rfl, HO.out, HPC.out, hbel⟩

set_option maxRecDepth 100000 in
set_option maxHeartbeats 400000 in
theorem Applies1_any (L : Nat) (v : Value) (cs : List Cl) (w : World) (hL : w.cell? ⟨L, 0, none⟩ = some v) (hv : RdC w v cs) :
    Calls Try.prog 49 #[.pointer (some ⟨L, 0, none⟩)] w fun e w' => ∃ v', e = .returned v' ∧ RdC w' v' cs ∧ Below w.heap.size w w' := by
  obtain ⟨ao, cap, hu, hc1, hc2⟩ := hv.shape
  subst hu
  go_enter Try.func49, Try.ntmps49
  go_wp2_with fail
  go_ret
  exact ⟨_, rfl, hv, Below.refl _ _⟩

set_option maxRecDepth 100000 in
set_option maxHeartbeats 1000000 in
theorem cellsAsP_true (p1 v : Value) (cs : List Cl) (c a : Int) (w : World) (hv : RdC w v cs) (hbad : c ≠ 0 → cs = [])
    (hcl : c = 0 → ∀ W, Below w.heap.size w W → Calls Try.prog 49 #[p1] W fun e w' => ∃ v', e = .returned v' ∧ RdC w' v' cs ∧ Below W.heap.size W w') :
    Calls Try.prog 48 #[v, fltC (c, a), fltC (c, a), .func (.func 49) #[] #[p1]] w fun e w' => e = .returned (.bool true) ∧ Below w.heap.size w w' := by
  obtain ⟨ao, cap, hu, hc1, hc2⟩ := hv.shape
  subst hu
  unfold fltC
  have hbC : Below w.heap.size w ((w.alloc (.cells #[.int .i64 c, .int .i64 a] 28)).alloc (.cells #[.int .i64 c, .int .i64 a] 28)) := (below_alloc' _ _).trans ((below_alloc' _ _).mono (by simp))
  have HBC := hide hbC
  by_cases hc : c = 0
  · subst hc
    have HCL := hide (hcl rfl)
    clear hcl hbad hbC
    go_enter Try.func48, Try.ntmps48
    go_wp2_with fail
    refine (HCL.out _ HBC.out).mono ?_
    rintro e w1 ⟨v1, rfl, hr1, hb1⟩
    have hbw1 := HBC.out.trans (hb1.mono (by simp; omega))
    go_wp2_with fail
    refine (SameCells_any _ _ cs _ (hv.below hbw1) hr1).mono ?_
    rintro e w2 ⟨rfl, hb2⟩
    have hbw2 := hbw1.trans (hb2.mono hbw1.size)
    go_wp2_with fail
    go_ret
    exact ⟨rfl, hbw2⟩
  · have hcb : (c != 0) = true := by simp [hc]
    have he := hbad hc
    subst he
    clear hcl hbad hc hbC
    go_enter Try.func48, Try.ntmps48
    go_wp2_with fail
    go_ret
    exact ⟨by simp, HBC.out⟩

end Go.Proofs.Ytdodajalejfbiad

/-
  A region that draws its order, loads a block and stores into it at its end: what is loaded may be taken first, as the store waits for it. Nothing of a program stands here.
-/
namespace Go.Proofs.Ytdodajalejfbiad
open Go.RowKit

section
variable {P : Program} {ops : Array Oper} {Q : Exit → Act → World → Prop} {md : Region.Mode} {S : World → Prop} {s : Nat}

/-- Whatever order: S holds behind each operation until number s has come up. -/
def AnyX (P : Program) (md : Region.Mode) (ops : Array Oper) (Q : Exit → Act → World → Prop) (S : World → Prop) (s : Nat) : Nat → Array Bool → Act → World → Prop
  | 0, done, a, w => Region.ready md ops done = [] ∧ Q .normal a w
  | n + 1, done, a, w => (Region.ready md ops done = [] → Q .normal a w) ∧
    ∀ j ∈ Region.ready md ops done, wpOp P ops Q j (fun b v => ((done.setIfInBounds j true).getD s false = false → S v) ∧ AnyX P md ops Q S s n (done.setIfInBounds j true) b v) a w

theorem AnyX.any : ∀ (n : Nat) (done : Array Bool) (a : Act) (w : World), AnyX P md ops Q S s n done a w → wpAny P md ops Q n done a w
  | 0, _, _, _, h => h
  | n + 1, _, _, _, h => ⟨h.1, fun j hj => wpOp_mono (fun b v k => AnyX.any n _ b v k.2) (h.2 j hj)⟩

/-- Number s waits for number i. -/
def aheadX (md : Region.Mode) (ops : Array Oper) (s i : Nat) : Bool :=
  !(s == i) && ((ops[s]?).map fun o => o.after.any fun e => Region.binds md e && e.on == i).getD false

theorem aheadX_spec {i : Nat} {o : Oper} (h : aheadX md ops s i = true) (hj : ops[s]? = some o) : ∃ e ∈ o.after, Region.binds md e = true ∧ e.on = i := by
  unfold aheadX at h
  rw [Bool.and_eq_true, hj] at h
  have h1 := h.2
  simp only [Option.map_some, Option.getD_some, Array.any_eq_true'] at h1
  obtain ⟨e, he, h2⟩ := h1
  rw [Bool.and_eq_true, beq_iff_eq] at h2
  exact ⟨e, he, h2⟩

/-- What yields may be taken first: a load (ld) while number s waits for it, and what yields in whatever world. -/
theorem AnyX.first {i : Nat} {o : Oper} {v : Value} (ld : Bool) (hi : ops[i]? = some o) (hs : Region.noSelect ops = true) (hQ : ∀ c a w, Q (.panic c) (a.put o.dst v) w → Q (.panic c) a w) (hne : i ≠ s) (hx : ld = true → aheadX md ops s i = true) :
    ∀ (n : Nat) (done : Array Bool) (a : Act) (w : World), (∀ j p, ops[j]? = some p → j ≠ i → done.getD j true = false → (∀ e ∈ p.after, Region.binds md e = true → e.on ≠ i) → o.apart ops p = true) →
      i ∈ Region.ready md ops done → YieldsIf P ops (fun w => ld = true → S w) o v a → (done.getD s false = false → S w) → (ld = true → done.getD s false = false) → AnyX P md ops Q S s n (done.setIfInBounds i true) (a.put o.dst v) w → AnyX P md ops Q S s (n + 1) done a w := by
  have hs' := Region.noSelect_spec hs
  intro n
  induction n with
  | zero =>
    intro done a w _ hr hy hS hT H
    refine ⟨fun h => (by rw [h] at hr; cases hr), fun j hj => ?_⟩
    by_cases hji : j = i
    · subst hji
      exact hy.wpOp hi (fun hl => hS (hT hl)) ⟨fun h => hS (by rwa [getD_set_ne false hne] at h), H⟩
    · have h1 := ready_mono hj hji
      rw [H.1] at h1
      cases h1
  | succ n ih =>
    intro done a w hfree hr hy hS hT H
    refine ⟨fun h => (by rw [h] at hr; cases hr), fun j hj => ?_⟩
    by_cases hji : j = i
    · subst hji
      exact hy.wpOp hi (fun hl => hS (hT hl)) ⟨fun h => hS (by rwa [getD_set_ne false hne] at h), H⟩
    · have h1 := H.2 j (ready_mono hj hji)
      obtain ⟨hjun, p, hp, hall⟩ := mem_ready.1 hj
      have hnot : ∀ e ∈ p.after, Region.binds md e = true → e.on ≠ i := fun e he hb heq => by
        have h2 := hall e he hb
        have h0 := (mem_ready.1 hr).1
        rw [heq] at h2
        rcases Nat.lt_or_ge i done.size with h' | h'
        · simp [h'] at h0 h2
          rw [h0] at h2
          cases h2
        · simp [Array.getElem?_eq_none h'] at h2
      have hT' : ld = true → (done.setIfInBounds j true).getD s false = false := fun hl => by
        have hjs : j ≠ s := fun e => by
          subst e
          obtain ⟨e, he, hb, heq⟩ := aheadX_spec (hx hl) hp
          exact hnot e he hb heq
        rw [getD_set_ne false hjs]
        exact hT hl
      have h2 := wpOp_putIf hp (hfree j p hp hji hjun hnot) (fun cs b => hs' i o cs b hi) (fun cs b => hs' j p cs b hp) hQ hy h1
      have hsame : ((done.setIfInBounds i true).setIfInBounds j true).getD s false = (done.setIfInBounds j true).getD s false := by
        rw [Array.setIfInBounds_comm _ _ (Ne.symm hji), getD_set_ne false hne]
      refine wpOp_mono (fun b u h3 => ⟨fun h => h3.2.1 (by rw [hsame]; exact h), ih (done.setIfInBounds j true) b u (fun k q hk hki hun hno => hfree k q hk hki ?_ hno) (ready_mono hr (Ne.symm hji)) h3.1 (fun h => h3.2.1 (by rw [hsame]; exact h)) hT' ?_⟩) h2
      · by_cases hjk : j = k
        · subst hjk
          exact hjun
        · rw [getD_set_ne true hjk] at hun
          exact hun
      · rw [Array.setIfInBounds_comm _ _ hji]
        exact h3.2.2

/-- Number i, a load, is taken first. -/
theorem AnyX.takeL {i : Nat} {o : Oper} {v : Value} {n : Nat} {done : Array Bool} {a : Act} {w : World} (hi : ops[i]? = some o) (hs : Region.noSelect ops = true) (hf : Region.free md ops done i = true) (hr : (Region.ready md ops done).contains i = true) (hx : aheadX md ops s i = true) (hd : done.getD s false = false)
    (hQ : ∀ c a w, Q (.panic c) (a.put o.dst v) w → Q (.panic c) a w) (hw : Region.wanted o (yielded ops a.tmps) = true) (hy : ∀ w, S w → (execOp a.eval o).run P w = .ok (.value v) w) (hS : S w)
    (h : AnyX P md ops Q S s n (done.setIfInBounds i true) (a.put o.dst v) w) : AnyX P md ops Q S s (n + 1) done a w :=
  AnyX.first true hi hs hQ (fun e => by unfold aheadX at hx; rw [e] at hx; simp at hx) (fun _ => hx) n done a w (Region.free_spec hi hf) (by simpa using hr) (.inl ⟨hw, fun w h => hy w (h rfl)⟩) (fun _ => hS) (fun _ => hd) h

/-- Number i, which yields in whatever world, is taken first. -/
theorem AnyX.takeP {i : Nat} {o : Oper} {v : Value} {n : Nat} {done : Array Bool} {a : Act} {w : World} (hi : ops[i]? = some o) (hs : Region.noSelect ops = true) (hf : Region.free md ops done i = true) (hr : (Region.ready md ops done).contains i = true) (hn : (i == s) = false)
    (hQ : ∀ c a w, Q (.panic c) (a.put o.dst v) w → Q (.panic c) a w) (hw : Region.wanted o (yielded ops a.tmps) = true) (hy : ∀ w, (execOp a.eval o).run P w = .ok (.value v) w) (hS : S w)
    (h : AnyX P md ops Q S s n (done.setIfInBounds i true) (a.put o.dst v) w) : AnyX P md ops Q S s (n + 1) done a w :=
  AnyX.first false hi hs hQ (by simpa using hn) (fun h => by cases h) n done a w (Region.free_spec hi hf) (by simpa using hr) (.inl ⟨hw, fun w _ => hy w⟩) (fun _ => hS) (fun h => by cases h) h

/-- Each of the numbers rs comes up next. -/
def NextX (P : Program) (md : Region.Mode) (ops : Array Oper) (Q : Exit → Act → World → Prop) (S : World → Prop) (s n : Nat) (done : Array Bool) (a : Act) (w : World) (rs : List Nat) : Prop :=
  ∀ j ∈ rs, wpOp P ops Q j (fun b v => ((done.setIfInBounds j true).getD s false = false → S v) ∧ AnyX P md ops Q S s n (done.setIfInBounds j true) b v) a w

theorem NextX.nil {n : Nat} {done : Array Bool} {a : Act} {w : World} : NextX P md ops Q S s n done a w [] := fun _ h => by cases h

theorem NextX.cons {n i : Nat} {o : Oper} {done : Array Bool} {a : Act} {w : World} {rs : List Nat} (ho : ops[i]? = some o)
    (h : ∀ K : Act → World → Prop, Shut (∀ b v, ((done.setIfInBounds i true).getD s false = false → S v) → AnyX P md ops Q S s n (done.setIfInBounds i true) b v → K b v) → if Region.wanted o (yielded ops a.tmps) = true then Oper.wp P o a w K Q else K (a.put o.dst undef) w)
    (hs : NextX P md ops Q S s n done a w rs) : NextX P md ops Q S s n done a w (i :: rs) := fun j hj => by
  rcases List.mem_cons.1 hj with rfl | hj
  · exact wpOp_step ho (fun K hK => h K (fun b v h1 h2 => hK b v ⟨h1, h2⟩))
  · exact hs j hj

theorem AnyX.next {rs : List Nat} {n : Nat} {done : Array Bool} {a : Act} {w : World} (hr : Region.ready md ops done = rs) (hne : rs ≠ []) (h : NextX P md ops Q S s n done a w rs) : AnyX P md ops Q S s (n + 1) done a w :=
  ⟨fun h0 => absurd (hr ▸ h0) hne, hr ▸ h⟩

theorem AnyX.done {done : Array Bool} {a : Act} {w : World} (hr : Region.ready md ops done = []) (h : Q .normal a w) : ∀ n, AnyX P md ops Q S s n done a w
  | 0 => ⟨hr, h⟩
  | _ + 1 => ⟨fun _ => h, by rw [hr]; simp⟩

/-- The beginning. -/
theorem AnyX.region {id : Nat} {a : Act} {w : World} (hm : P.follows .mixedOrders = true) (h : AnyX P .any ops Q S s ops.size (Array.replicate ops.size false) a w.drew) : (Code.region id ops true).wp P Q a w :=
  wp_region_any hm (AnyX.any _ _ _ _ h)

/-- Behind number s nothing is asked of S. -/
theorem past {p : Prop} {b : Bool} (hb : b = true) : b = false → p := fun h => by rw [hb] at h; cases h

end

end Go.Proofs.Ytdodajalejfbiad

/-
  From the arguments as the row reads them to what the walks ask of them. Nothing of a program stands here.
-/
namespace Go.Proofs.Ytdodajalejfbiad
open Go.ChangeShapes Go.WideShapes Go.ChangeAt Go.RowKit

section
variable {H : Type} {enc : TypeId × Value → H} {P : Program} {W : World}

theorem rd_of_cells {w : World} {a : Addr} {len cap : Nat} {xs : List Value} (hl : xs.length = len) (h1 : len ≤ cap) (h2 : cap ≤ maxLen) (h : ∀ i, i < len → w.cell? (a.add i) = xs[i]?) : Rd w (.slice (some a) len cap) xs := by
  refine ⟨some a, cap, by rw [hl], by omega, h2, (fun h => by cases h), fun b hb j u hu => ?_⟩
  cases hb
  rw [h j (by have := (List.getElem?_eq_some_iff.1 hu).1; omega), hu]

theorem open_ic {t e : TypeId} {a : Option Addr} {len cap : Nat} {d : DataW H} {ps : List MemPlace} (ht : P.underlying t = some (.slice e)) (he : P.underlying e = some (.int .i64)) (hc : P.cellsOf e = 1)
    (h : DataW.Trod enc P W 0 (fun _ => true) true t (.slice a len cap) d ps) : ∃ zs : List Int, Rd W (.slice a len cap) (ic zs) := by
  obtain ⟨fuel, hf⟩ := h
  rcases open_ints ht he hc hf with ⟨hcs, _⟩ | ⟨x, l, c, zs, hcs, _, hl, hm, hz, _, hcell, hwz⟩
  · simp [Value.cells] at hcs
    obtain ⟨rfl, rfl, rfl⟩ := hcs
    exact ⟨[], Rd.nil _⟩
  · simp [Value.cells] at hcs
    obtain ⟨rfl, rfl, rfl⟩ := hcs
    simp at hz
    refine ⟨zs.take len, rd_of_cells (by rw [ic_length, List.length_take]; omega) hl hm fun i hi => ?_⟩
    rw [hcell i (by omega)]
    simp [ic, List.getD, hi, show i < zs.length by omega]

theorem open_bc {t e : TypeId} {a : Option Addr} {len cap fuel : Nat} {d : DataW H} {ps : List MemPlace} (ht : P.underlying t = some (.slice e)) (he : P.underlying e = some (.int .u8)) (hc : P.cellsOf e = 1)
    (hf : DataW.trod enc P W 0 (fun _ => true) true fuel t [.slice a len cap] = some (d, ps)) : ∃ bs : List UInt8, Rd W (.slice a len cap) (bc bs) := by
  rcases open_ints ht he hc hf with ⟨hcs, _⟩ | ⟨x, l, c, zs, hcs, _, hl, hm, hz, _, hcell, hwz⟩
  · simp at hcs
    obtain ⟨rfl, rfl, rfl⟩ := hcs
    exact ⟨[], Rd.nil _⟩
  · simp at hcs
    obtain ⟨rfl, rfl, rfl⟩ := hcs
    simp at hz
    refine ⟨(zs.take len).map fun n => UInt8.ofNat n.toNat, rd_of_cells (by rw [bc_length, List.length_map, List.length_take]; omega) hl hm fun i hi => ?_⟩
    rw [hcell i (by omega)]
    have hi' : i < zs.length := by omega
    have hb := bounds_u8 (hwz zs[i] (List.getElem_mem hi'))
    have e : ((UInt8.ofNat zs[i].toNat).toNat : Int) = zs[i] := by
      simp only [UInt8.toNat_ofNat']
      omega
    simp only [bc, List.getElem?_map, List.getElem?_take, if_pos hi, List.getElem?_eq_getElem hi', Option.map_some, List.getD, Option.getD_some, e]

theorem open_bc' {t e : TypeId} {a : Option Addr} {len cap : Nat} {d : DataW H} {ps : List MemPlace} (ht : P.underlying t = some (.slice e)) (he : P.underlying e = some (.int .u8)) (hc : P.cellsOf e = 1)
    (h : DataW.Trod enc P W 0 (fun _ => true) true t (.slice a len cap) d ps) : ∃ bs : List UInt8, Rd W (.slice a len cap) (bc bs) := by
  obtain ⟨fuel, hf⟩ := h
  exact open_bc ht he hc (by simpa [Value.cells] using hf)

theorem weightsAll_mem {e : TypeId} : ∀ {l : List (DataW H)} {d : DataW H} {n : Nat}, d ∈ l → n ∈ d.weights P e → n ∈ DataW.weightsAll P e l
  | x :: l, d, n, hd, hn => by
    simp only [DataW.weightsAll, List.mem_append]
    rcases List.mem_cons.1 hd with rfl | hd
    · exact .inl hn
    · exact .inr (weightsAll_mem hd hn)

/-- A list of texts; none is longer than the form's reach. -/
theorem open_sc {t e : TypeId} {a : Option Addr} {len cap : Nat} {d : DataW H} {ps : List MemPlace} (ht : P.underlying t = some (.slice e)) (he : P.underlying e = some .string) (hc : P.cellsOf e = 1)
    (h : DataW.Trod enc P W 0 (fun _ => true) true t (.slice a len cap) d ps) (hw : ∀ n ∈ d.weights P t, n ≤ reachBytes) : ∃ ss : List (List UInt8), Rd W (.slice a len cap) (sc ss) ∧ ∀ s ∈ ss, s.length ≤ 140737488351232 := by
  obtain ⟨fuel, hf⟩ := h
  rcases open_strings ht he hc hf with ⟨hcs, _⟩ | ⟨x, l, c, zs, hcs, _, hl, hm, hz, hx, hcell, hwz⟩
  · simp [Value.cells] at hcs
    obtain ⟨rfl, rfl, rfl⟩ := hcs
    exact ⟨[], Rd.nil _, by simp⟩
  · simp [Value.cells] at hcs
    obtain ⟨rfl, rfl, rfl⟩ := hcs
    simp at hz
    simp only [Prod.mk.injEq] at hx
    obtain ⟨rfl, _⟩ := hx
    refine ⟨(zs.take len).map fun s => s.data.toList, rd_of_cells (by rw [sc_length, List.length_map, List.length_take]; omega) hl hm fun i hi => ?_, fun s hs => ?_⟩
    · rw [hcell i (by omega)]
      have hi' : i < zs.length := by omega
      simp only [sc, List.getElem?_map, List.getElem?_take, if_pos hi, List.getElem?_eq_getElem hi', Option.map_some, List.getD, Option.getD_some, Array.toArray_toList]
    · obtain ⟨y, hy, rfl⟩ := List.mem_map.1 hs
      have := hw y.data.toList.length (by
        simp only [DataW.weights, ht, List.mem_cons, List.mem_append]
        refine .inr (.inl (weightsAll_mem (d := .lit (.string y.data.toList)) (List.mem_map.2 ⟨y, hy, rfl⟩) ?_))
        simp [DataW.weights])
      simpa [reachBytes] using this

end
end Go.Proofs.Ytdodajalejfbiad

/-
  From lists of cells, and asks, as the row reads them to what the walks ask of them. Nothing of a program stands here.
-/
namespace Go.Proofs.Ytdodajalejfbiad
open Go.ChangeShapes Go.WideShapes Go.ChangeAt Go.RowKit Go.Joins Go.Deep

section
variable {H : Type} {enc : TypeId × Value → H} {P : Program} {W : World}

theorem choose_list {α : Type} {p : Nat → α → Prop} : ∀ (n : Nat), (∀ i, i < n → ∃ x, p i x) → ∃ l : List α, l.length = n ∧ ∀ i x, l[i]? = some x → p i x
  | 0, _ => ⟨[], rfl, fun i x h => by simp at h⟩
  | n + 1, h => by
    obtain ⟨l, hl, hp⟩ := choose_list n (fun i hi => h i (by omega))
    obtain ⟨x, hx⟩ := h n (by omega)
    refine ⟨l ++ [x], by simp [hl], fun i y hy => ?_⟩
    by_cases hi : i < n
    · rw [List.getElem?_append_left (by omega)] at hy
      exact hp i y hy
    · have hlt := (List.getElem?_eq_some_iff.1 hy).1
      simp at hlt
      have e : i = n := by omega
      subst e
      rw [List.getElem?_append_right (by omega), hl] at hy
      simp at hy
      subst hy
      exact hx

theorem cc_div {cs : List Cl} {j : Nat} {u : Value} (h : (cc cs)[j]? = some u) : ∃ i k c, j = i * 5 + k ∧ k < 5 ∧ cs[i]? = some c ∧ (cv c)[k]? = some u := by
  have hl := (List.getElem?_eq_some_iff.1 h).1
  rw [cc_length] at hl
  have hi : j / 5 < cs.length := by omega
  refine ⟨j / 5, j % 5, cs[j / 5], by omega, by omega, List.getElem?_eq_getElem hi, ?_⟩
  rw [← cc_get cs (j / 5) hi (j % 5) (by omega), ← h]
  congr 1
  omega

/-- A list of cells. -/
theorem open_cells {t e : TypeId} {f0 f1 f2 f3 f4 : Field} {v : Value} {fuel : Nat} {y : DataW H × List MemPlace} (ht : P.underlying t = some (.slice e)) (he : P.underlying e = some (.struct #[f0, f1, f2, f3, f4])) (hone : oneCellFields P #[f0, f1, f2, f3, f4] = true) (hC : P.cellsOf e = 5)
    (h0 : P.underlying f0.type = some .string) (h1 : P.underlying f1.type = some .string) (h2 : P.underlying f2.type = some (.int .i64)) (h3 : P.underlying f3.type = some .bool) (h4 : P.underlying f4.type = some .string)
    (h : DataW.trod enc P W 0 (fun _ => true) true fuel t [v] = some y) : ∃ cs : List Cl, RdC W v cs ∧ ∀ c ∈ cs, -9223372036854775808 ≤ c.time ∧ c.time ≤ 9223372036854775807 := by
  rcases open_slice ht h with ⟨hcs, _⟩ | ⟨a, len, cap, m, n, D, Pl, hcs, hb, hl, hm, hmm, hxx, hx⟩
  · simp only [List.cons.injEq, and_true] at hcs
    subst hcs
    exact ⟨[], RdC.nil _, by simp⟩
  · simp only [List.cons.injEq, and_true] at hcs
    subst hcs
    obtain ⟨o0, k0⟩ := hone_of hone 0 f0 rfl
    obtain ⟨o1, k1⟩ := hone_of hone 1 f1 rfl
    obtain ⟨o2, k2⟩ := hone_of hone 2 f2 rfl
    obtain ⟨o3, k3⟩ := hone_of hone 3 f3 rfl
    obtain ⟨o4, k4⟩ := hone_of hone 4 f4 rfl
    have hlm : len ≤ m := by rw [hmm]; split <;> omega
    have each : ∀ i, i < len → ∃ c : Cl, (∀ k u, (cv c)[k]? = some u → W.cell? (a.add (i * 5 + k)) = some u) ∧ -9223372036854775808 ≤ c.time ∧ c.time ≤ 9223372036854775807 := by
      intro i hi
      obtain ⟨cs', g1, g2⟩ := hx i (by omega)
      rw [hC] at g1
      obtain ⟨_, hlen, hcell⟩ := World.cells?_some g1
      obtain ⟨xs, k, hk, hxy, _, hxl, hf⟩ := DataW.trod_struct he g2
      match xs, hxl, cs', hlen with
      | [y0, y1, y2, y3, y4], _, [v0, v1, v2, v3, v4], _ =>
        have q0 := hf 0 f0 rfl
        have q1 := hf 1 f1 rfl
        have q2 := hf 2 f2 rfl
        have q3 := hf 3 f3 rfl
        have q4 := hf 4 f4 rfl
        simp [o0, o1, o2, o3, o4, k0, k1, k2, k3, k4] at q0 q1 q2 q3 q4
        obtain ⟨s0, e0, _, _⟩ := DataW.trod_string h0 q0
        obtain ⟨s1, e1, _, _⟩ := DataW.trod_string h1 q1
        obtain ⟨s2, e2, _, w2⟩ := DataW.trod_int h2 q2
        obtain ⟨s3, e3, _⟩ := DataW.trod_bool h3 q3
        obtain ⟨s4, e4, _, _⟩ := DataW.trod_string h4 q4
        simp only [List.cons.injEq, and_true] at e0 e1 e2 e3 e4
        subst e0 e1 e2 e3 e4
        refine ⟨⟨s0, s1, s2, s3, s4⟩, fun k u hu => ?_, bounds_i64 w2⟩
        have hk5 : k < 5 := by have := (List.getElem?_eq_some_iff.1 hu).1; simpa [cv] using this
        have := hcell k hk5
        rw [add_add] at this
        rw [this, ← hu]
        rfl
    obtain ⟨cs, hcl, hcp⟩ := choose_list len each
    refine ⟨cs, ⟨some a, cap, by rw [hcl], by omega, hm, (fun h => by cases h), fun b hb' j u hu => ?_⟩, fun c hc => ?_⟩
    · cases hb'
      obtain ⟨i, k, c, rfl, _, hi, hk⟩ := cc_div hu
      exact (hcp i c hi).1 k u hk
    · obtain ⟨i, hi, e⟩ := List.getElem_of_mem hc
      exact (hcp i c (by rw [List.getElem?_eq_getElem hi, e])).2

theorem open_cellsV {t e : TypeId} {f0 f1 f2 f3 f4 : Field} {a : Option Addr} {len cap : Nat} {d : DataW H} {ps : List MemPlace} (ht : P.underlying t = some (.slice e)) (he : P.underlying e = some (.struct #[f0, f1, f2, f3, f4])) (hone : oneCellFields P #[f0, f1, f2, f3, f4] = true) (hC : P.cellsOf e = 5)
    (h0 : P.underlying f0.type = some .string) (h1 : P.underlying f1.type = some .string) (h2 : P.underlying f2.type = some (.int .i64)) (h3 : P.underlying f3.type = some .bool) (h4 : P.underlying f4.type = some .string)
    (h : DataW.Trod enc P W 0 (fun _ => true) true t (.slice a len cap) d ps) : ∃ cs : List Cl, RdC W (.slice a len cap) cs ∧ ∀ c ∈ cs, -9223372036854775808 ≤ c.time ∧ c.time ≤ 9223372036854775807 := by
  obtain ⟨fuel, hf⟩ := h
  exact open_cells ht he hone hC h0 h1 h2 h3 h4 (y := (d, ps)) (by simpa [Value.cells] using hf)

/-- An ask: two texts and two numbers. -/
theorem open_ask {r : Reach} {b0 : Nat} {t : TypeId} {f0 f1 f2 f3 : Field} {v : Value} {d : DataW H} {p : List MemPlace} (hs : P.underlying t = some (.struct #[f0, f1, f2, f3])) (hone : oneCellFields P #[f0, f1, f2, f3] = true) (hC : P.cellsOf t = 4)
    (h0 : P.underlying f0.type = some .string) (h1 : P.underlying f1.type = some .string) (h2 : P.underlying f2.type = some (.int .i64)) (h3 : P.underlying f3.type = some (.int .i64))
    (hv : Value.okWide P W r b0 t v) (h : DataW.Trod enc P W 0 (fun _ => true) true t v d p) :
    ∃ (a b : ByteArray) (x y : Int), v = .agg #[.string a, .string b, .int .i64 x, .int .i64 y] ∧ (-9223372036854775808 ≤ x ∧ x ≤ 9223372036854775807) ∧ -9223372036854775808 ≤ y ∧ y ≤ 9223372036854775807 := by
  obtain ⟨c0, c1, c2, c3, y0, y1, y2, y3, m, rfl, rfl, rfl, hy0, hy1, hy2, hy3⟩ := open_agg4 hs hone hC hv h
  obtain ⟨s0, e0, _, _⟩ := DataW.trod_string h0 hy0
  obtain ⟨s1, e1, _, _⟩ := DataW.trod_string h1 hy1
  obtain ⟨s2, e2, _, w2⟩ := DataW.trod_int h2 hy2
  obtain ⟨s3, e3, _, w3⟩ := DataW.trod_int h3 hy3
  simp only [List.cons.injEq, and_true] at e0 e1 e2 e3
  subst e0 e1 e2 e3
  exact ⟨s0, s1, s2, s3, rfl, bounds_i64 w2, bounds_i64 w3⟩

end
end Go.Proofs.Ytdodajalejfbiad

/-
  From a list of lists of cells as the row reads it to what the walks ask of it. Nothing of a program stands here.
-/
namespace Go.Proofs.Ytdodajalejfbiad
open Go.ChangeShapes Go.WideShapes Go.ChangeAt Go.RowKit Go.Joins Go.Deep

section
variable {H : Type} {enc : TypeId × Value → H} {P : Program} {W : World}

/-- A list of cells that is no longer than the form's reach. -/
theorem open_cellsW {t e : TypeId} {f0 f1 f2 f3 f4 : Field} {v : Value} {fuel : Nat} {d : DataW H} {ps : List MemPlace} (ht : P.underlying t = some (.slice e)) (he : P.underlying e = some (.struct #[f0, f1, f2, f3, f4])) (hone : oneCellFields P #[f0, f1, f2, f3, f4] = true) (hC : P.cellsOf e = 5) (hby : P.bytesOf e = 64)
    (h0 : P.underlying f0.type = some .string) (h1 : P.underlying f1.type = some .string) (h2 : P.underlying f2.type = some (.int .i64)) (h3 : P.underlying f3.type = some .bool) (h4 : P.underlying f4.type = some .string)
    (h : DataW.trod enc P W 0 (fun _ => true) true fuel t [v] = some (d, ps)) (hw : ∀ n ∈ d.weights P t, n ≤ reachBytes) : ∃ cs : List Cl, RdC W v cs ∧ cs.length ≤ 2199023255552 := by
  obtain ⟨cs, hcs, _⟩ := open_cells ht he hone hC h0 h1 h2 h3 h4 h
  refine ⟨cs, hcs, ?_⟩
  rcases open_slice ht h with ⟨hv, _⟩ | ⟨a, len, cap, m, n, D, Pl, hv, hb, hl, hm, hmm, hxx, hx⟩
  · simp only [List.cons.injEq, and_true] at hv
    subst hv
    obtain ⟨_, _, hv, _⟩ := hcs
    simp only [Value.slice.injEq] at hv
    omega
  · simp only [List.cons.injEq, and_true] at hv
    subst hv
    obtain ⟨_, _, hv, _⟩ := hcs
    simp only [Value.slice.injEq] at hv
    simp only [Prod.mk.injEq] at hxx
    obtain ⟨rfl, _⟩ := hxx
    have := hw ((len + (m - len)) * P.bytesOf e) (by simp [DataW.weights, ht])
    rw [hby] at this
    simp [reachBytes] at this
    omega

/-- A list of lists of cells. -/
theorem open_ll {t e b : TypeId} {f0 f1 f2 f3 f4 : Field} {a : Option Addr} {len cap : Nat} {d : DataW H} {ps : List MemPlace} (ht : P.underlying t = some (.slice e)) (he : P.underlying e = some (.slice b)) (hb : P.underlying b = some (.struct #[f0, f1, f2, f3, f4])) (hc : P.cellsOf e = 1) (hone : oneCellFields P #[f0, f1, f2, f3, f4] = true) (hC : P.cellsOf b = 5) (hby : P.bytesOf b = 64)
    (h0 : P.underlying f0.type = some .string) (h1 : P.underlying f1.type = some .string) (h2 : P.underlying f2.type = some (.int .i64)) (h3 : P.underlying f3.type = some .bool) (h4 : P.underlying f4.type = some .string)
    (h : DataW.Trod enc P W 0 (fun _ => true) true t (.slice a len cap) d ps) (hw : ∀ n ∈ d.weights P t, n ≤ reachBytes) : ∃ ls : List (List Cl), RdL W (.slice a len cap) ls ∧ ∀ l ∈ ls, l.length ≤ 2199023255552 := by
  obtain ⟨fuel, hf⟩ := h
  rcases Go.Deep.open_slice1 ht hc hf with ⟨hcs, _⟩ | ⟨x, l, c, m, n, V, D, Pl, hcs, _, hl, hm, hmm, hx, hall⟩
  · simp [Value.cells] at hcs
    obtain ⟨rfl, rfl, rfl⟩ := hcs
    exact ⟨[], ⟨[], Rd.nil _, rfl, by simp, fun i u l h => by simp at h⟩, by simp⟩
  · simp [Value.cells] at hcs
    obtain ⟨rfl, rfl, rfl⟩ := hcs
    simp at hmm
    subst hmm
    simp only [Prod.mk.injEq] at hx
    obtain ⟨rfl, _⟩ := hx
    have each : ∀ i, i < len → ∃ cs : List Cl, RdC W (V i) cs ∧ cs.length ≤ 2199023255552 := fun i hi =>
      open_cellsW he hb hone hC hby h0 h1 h2 h3 h4 (hall i (by omega)).2 (fun k hk => hw k (by
        simp only [DataW.weights, ht, List.mem_cons, List.mem_append]
        exact .inr (.inl (weightsAll_mem (d := D i) (List.mem_map.2 ⟨i, List.mem_range.2 hi, rfl⟩) hk))))
    obtain ⟨ls, hll, hp⟩ := choose_list len each
    refine ⟨ls, ⟨(List.range len).map V, rd_of_cells (by simp) hl hm fun i hi => ?_, by simp [hll], fun u hu => ?_, fun i u l hu hl' => ?_⟩, fun l hl' => ?_⟩
    · rw [(hall i (by omega)).1]
      simp [hi]
    · obtain ⟨i, hi, rfl⟩ := List.mem_map.1 hu
      obtain ⟨cs, hcs, _⟩ := each i (List.mem_range.1 hi)
      obtain ⟨_, _, hv, _⟩ := hcs
      rw [hv]
      rfl
    · have hi : i < len := by
        have := (List.getElem?_eq_some_iff.1 hu).1
        simpa using this
      simp [hi] at hu
      subst hu
      exact (hp i l hl').1
    · obtain ⟨i, hi, e⟩ := List.getElem_of_mem hl'
      exact (hp i l (by rw [List.getElem?_eq_getElem hi, e])).2

end
end Go.Proofs.Ytdodajalejfbiad

/-
  From a list of bodies as the row reads it to what the walks ask of it.
-/
namespace Go.Proofs.Ytdodajalejfbiad
open Go.ChangeShapes Go.WideShapes Go.ChangeAt Go.RowKit

section
variable {H : Type} {enc : TypeId × Value → H} {P : Program} {W : World}

theorem open_bcv {t e : TypeId} {v : Value} {fuel : Nat} {d : DataW H} {ps : List MemPlace} (ht : P.underlying t = some (.slice e)) (he : P.underlying e = some (.int .u8)) (hc : P.cellsOf e = 1) (hby : P.bytesOf e = 1)
    (hf : DataW.trod enc P W 0 (fun _ => true) true fuel t [v] = some (d, ps)) (hw : ∀ n ∈ d.weights P t, n ≤ reachBytes) : ∃ bs : List UInt8, Rd W v (bc bs) ∧ bs.length ≤ 140737488351232 := by
  rcases open_ints ht he hc hf with ⟨hcs, _⟩ | ⟨x, l, c, zs, hcs, _, hl, hm, hz, hx, hcell, hwz⟩
  · simp only [List.cons.injEq, and_true] at hcs
    subst hcs
    exact ⟨[], Rd.nil _, by simp⟩
  · simp only [List.cons.injEq, and_true] at hcs
    subst hcs
    obtain ⟨bs, hb⟩ := open_bc ht he hc hf
    refine ⟨bs, hb, ?_⟩
    have hbl : l = bs.length := by
      obtain ⟨_, _, hv, _⟩ := hb
      simp only [Value.slice.injEq, bc_length] at hv
      exact hv.2.1
    simp at hz
    simp only [Prod.mk.injEq] at hx
    obtain ⟨rfl, _⟩ := hx
    have := hw (((zs.take l).length + (zs.drop l).length) * P.bytesOf e) (by simp [DataW.weights, ht, lits])
    rw [hby] at this
    simp [reachBytes] at this
    omega

/-- A list of bodies; none is longer than the form's reach. -/
theorem open_bb {t e b : TypeId} {a : Option Addr} {len cap : Nat} {d : DataW H} {ps : List MemPlace} (ht : P.underlying t = some (.slice e)) (he : P.underlying e = some (.slice b)) (hb : P.underlying b = some (.int .u8)) (hc : P.cellsOf e = 1) (hcb : P.cellsOf b = 1) (hby : P.bytesOf b = 1)
    (h : DataW.Trod enc P W 0 (fun _ => true) true t (.slice a len cap) d ps) (hw : ∀ n ∈ d.weights P t, n ≤ reachBytes) : ∃ bb : List (List UInt8), RdB W (.slice a len cap) bb ∧ ∀ s ∈ bb, s.length ≤ 140737488351232 := by
  obtain ⟨fuel, hf⟩ := h
  rcases Go.Deep.open_slice1 ht hc hf with ⟨hcs, _⟩ | ⟨x, l, c, m, n, V, D, Pl, hcs, _, hl, hm, hmm, hx, hall⟩
  · simp [Value.cells] at hcs
    obtain ⟨rfl, rfl, rfl⟩ := hcs
    exact ⟨[], RdB.nil _, by simp⟩
  · simp [Value.cells] at hcs
    obtain ⟨rfl, rfl, rfl⟩ := hcs
    simp at hmm
    subst hmm
    simp only [Prod.mk.injEq] at hx
    obtain ⟨rfl, _⟩ := hx
    have each : ∀ i, i < len → ∃ bs : List UInt8, Rd W (V i) (bc bs) ∧ bs.length ≤ 140737488351232 := fun i hi =>
      open_bcv he hb hcb hby (hall i (by omega)).2 (fun k hk => hw k (by
        simp only [DataW.weights, ht, List.mem_cons, List.mem_append]
        exact .inr (.inl (weightsAll_mem (d := D i) (List.mem_map.2 ⟨i, List.mem_range.2 hi, rfl⟩) hk))))
    have hch : ∀ k, k ≤ len → ∃ bb : List (List UInt8), bb.length = k ∧ (∀ i (y : List UInt8), bb[i]? = some y → Rd W (V i) (bc y)) ∧ ∀ s ∈ bb, s.length ≤ 140737488351232 := by
      intro k
      induction k with
      | zero => exact fun _ => ⟨[], rfl, by simp, by simp⟩
      | succ k ih =>
        intro hk
        obtain ⟨bb, h1, h2, h3⟩ := ih (by omega)
        obtain ⟨bs, h4, h5⟩ := each k (by omega)
        refine ⟨bb ++ [bs], by simp [h1], fun i y hy => ?_, fun s hs => ?_⟩
        · by_cases hi : i < bb.length
          · rw [List.getElem?_append_left hi] at hy
            exact h2 i y hy
          · rw [List.getElem?_append_right (by omega)] at hy
            have : i = k := by
              have := (List.getElem?_eq_some_iff.1 hy).1
              simp at this
              omega
            subst this
            rw [h1] at hy
            simp at hy
            subst hy
            exact h4
        · rcases List.mem_append.1 hs with hs | hs
          · exact h3 s hs
          · simp at hs
            subst hs
            exact h5
    obtain ⟨bb, h1, h2, h3⟩ := hch len (Nat.le_refl _)
    refine ⟨bb, ⟨(List.range len).map V, rd_of_cells (by simp) hl hm fun i hi => ?_, by simp [h1], fun i u y hu hy => ?_⟩, h3⟩
    · rw [(hall i (by omega)).1]
      simp [hi]
    · have hi : i < len := by
        have := (List.getElem?_eq_some_iff.1 hu).1
        simpa using this
      simp [hi] at hu
      subst hu
      exact h2 i y hy

end
end Go.Proofs.Ytdodajalejfbiad
