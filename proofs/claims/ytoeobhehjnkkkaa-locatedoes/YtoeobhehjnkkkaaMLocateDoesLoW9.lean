/-
  Texts joined: LoW9.
-/
import Derived.Test.YtoeobhehjnkkkaaMLocateDoesLoW8
/-
  The walk over locate.Find of what is fine, where nothing is known of the row. (Written by lo9.py.)
-/
namespace Go.Proofs.Ytoeobhehjnkkkaa
open Go.RowKit Go.Maps
set_option linter.unusedVariables false

/-- Is a slot open at the host that is known, in that turn? -/
def srvB (s : Sl) (k : Kn) : Bool := decide (s.st = 2) && (decide (s.ho = k.ho) && decide (s.tu = k.tu))

/-- What Find answers: what is known then, what is told, how often one was asked, what is wrong. -/
structure Fd where
  kn : List Kn
  k : Kn
  n : Int
  f : Int × Int

/-- What the board tells, where kn is known, and n were asked with it. -/
def brdR (s : Sl) (kn : List Kn) (n : Int) : Fd :=
  if s.st = 2 then ⟨if (lrn kn (slK s)).length ≤ 200 then lrn kn (slK s) else kn, slK s, n, (0, 0)⟩ else ⟨kn, zeroKn, n, (6, 0)⟩

def findR (b : Bd) (l : List Kn) (row : ByteArray) : Fd :=
  match havK l row with
  | none => brdR (slotR b row) l 1
  | some i => if srvB (slotR b row) (l.getD i zeroKn) = true then ⟨l, l.getD i zeroKn, 1, (0, 0)⟩ else brdR (slotR b row) (l.eraseIdx i) 2

/-- Find's answer in memory. -/
def FdTo (w : World) (R : Fd) (e : Ending) (w' : World) : Prop :=
  ∃ v', e = .returned (.tuple #[v', knE.ag R.k, .int .i64 R.n, flt R.f]) ∧ w'.ownsRow w.heap.size 61 5 v' R.kn.length (knE.vs R.kn) ∧ Below w.heap.size w w'

theorem results4_tctc {P : Program} {fn : Func} {i j i2 j2 : Tmp} {t u : TypeId} {tmps : Array Value} {B C : Nat} {v1 v2 v3 v4 : Value} {w : World} (h : fn.results = #[.tmp i, .cell j t, .tmp i2, .cell j2 u]) (hp : tmps[i]?.getD undef = v1) (hq : tmps[j]?.getD undef = .pointer (some ⟨B, 0, none⟩)) (hm : (loadVar t ⟨B, 0, none⟩).run P w = .ok v2 w) (hp2 : tmps[i2]?.getD undef = v3) (hq2 : tmps[j2]?.getD undef = .pointer (some ⟨C, 0, none⟩)) (hm2 : (loadVar u ⟨C, 0, none⟩).run P w = .ok v4 w) :
    (results fn tmps).run P w = .ok (.tuple #[v1, v2, v3, v4]) w := by
  simp [results, h, hp, hp2, hq, hq2, asAddr, hm, hm2]

theorem owns_high {w : World} {b B : Nat} {e : TypeId} {K : Nat} {v : Value} {n : Nat} {xs : List Value} (h : w.ownsRow b e K v n xs) (hB : B < b) : v.ownBlock ≠ some B := by
  rcases h.2 with ⟨rfl, _⟩ | ⟨g, cap, cur, rfl, hg, _⟩
  · intro q; cases q
  · intro q
    have q2 : some g = some B := q
    have q3 := Option.some.inj q2
    omega

set_option maxRecDepth 100000 in
set_option maxHeartbeats 1000000 in
theorem CloneK_any {l : List Kn} (v : Value) (w : World) (hv : RdG knE w v l) (hl : l.length ≤ 1000) :
    Calls Try.prog 57 #[v] w fun e w' => ∃ v', e = .returned v' ∧ w'.ownsRow w.heap.size 61 5 v' l.length (knE.vs l) ∧ Below w.heap.size w w' := by
  obtain ⟨ao, cap, rfl, hc1, hc2⟩ := hv.shape
  cases ao with
  | none =>
    have hcap : cap = 0 := by
      obtain ⟨ao', cap', e, h1, h2, h3, _⟩ := hv
      simp only [Value.slice.injEq] at e
      obtain ⟨rfl, _, rfl⟩ := e
      exact h3 rfl
    subst hcap
    obtain rfl : l = [] := List.eq_nil_of_length_eq_zero (by omega)
    clear hv
    show Calls Try.prog 57 #[.slice none 0 0] w _
    have heq : ∀ W, (binOp .eql 59 (.slice none 0 0) (.slice none 0 0)).run Try.prog W = .ok (.bool true) W := fun W => by kernel_rfl
    go_enter Try.func57, Try.ntmps57
    go_wp2_with fail
    go_ret
    exact ⟨_, rfl, World.ownsRow_nil _ _ _ _, Below.refl _ _⟩
  | some a =>
    have hl2 : 0 + l.length ≤ 1000000000 := by omega
    have hown : (w.alloc (.cells #[] 61)).ownsRow w.heap.size 61 5 (.slice (some ⟨w.heap.size, 0, none⟩) 0 0) 0 (knE.vs []) := World.ownsRow_made w #[] 0 (Nat.le_refl _) (by decide) rfl
    have hb8 : w.heap.size ≤ (w.alloc (.cells #[] 61)).heap.size := by simp
    have heq : ∀ W, (binOp .eql 59 (.slice (some a) l.length cap) (.slice none 0 0)).run Try.prog W = .ok (.bool false) W := fun W => Lib.run_eql_slice_nil W _ _ _ _ _ _ _ Try.underlying59
    have HV1 := hide (hv.alloc (.cells #[] 61))
    have HBA := hide (below_allocG w (.cells #[] 61))
    clear hv
    go_enter Try.func57, Try.ntmps57
    go_wp2_with (at_builtin; go_must (refine wpList_append_rdG (E := knE) (cs := []) hown HV1.out Try.underlying59 infoKnown rfl rfl rfl rfl rfl hl2 (by decide) hb8 ?_); intro v1 w1 ho1 hb1 hg1; clear hg1)
    go_ret
    exact ⟨_, rfl, by simpa using ho1, HBA.out.trans hb1⟩

set_option maxRecDepth 100000 in
set_option maxHeartbeats 16000000 in
theorem Find_none (b : Bd) (hv sv v : Value) (l : List Kn) (row : ByteArray) (w : World) (hf : FineB b) (hk : FineK l) (hh : RdG hoE w hv b.hs) (hs : RdG slE w sv b.sl) (hl : RdG knE w v l) (hn : havK l row = none) :
    Calls Try.prog 32 #[bdV hv sv b, v, .string row] w (FdTo w (findR b l row)) := by
  have HFR := hide (show findR b l row = brdR (slotR b row) l 1 by unfold findR; rw [hn])
  obtain ⟨si, hsi1, hsi2, _⟩ := slotR_fine hf row
  have HFF := hide (fun W (hW : Below w.heap.size w W) => findFault_fine b hv sv v l W hf hk (hh.below hW) (hs.below hW) (hl.below hW))
  have HSW := hide (fun W (hW : Below w.heap.size w W) => slotWith_any b hv sv row si (slotR b row) W (hh.below hW) (hs.below hW) hsi1 hsi2)
  have HCL := hide (fun W (hW : Below w.heap.size w W) => CloneK_any v W (hl.below hW) (show l.length ≤ 1000 by have := hk.len; omega))
  have HKL := hide hk.len
  obtain ⟨ah, ch, rfl, _, _⟩ := hh.shape
  obtain ⟨as_, cs, rfl, _, _⟩ := hs.shape
  obtain ⟨ao, cap, rfl, _, _⟩ := hl.shape
  generalize slotR b row = s at *
  obtain ⟨hB, hR, hQ, hA⟩ := three_atK w #[.slice ah b.hs.length ch, .slice as_ b.sl.length cs, .int .i64 b.tu, .int .i64 b.nx] #[.string ⟨#[]⟩, .string ⟨#[]⟩, .int .i64 0, .int .i64 0, .int .i64 0] #[.int .i64 0, .int .i64 0] 27 61 30
  have HB0 := hide hB
  have HR0 := hide hR
  have HQ0 := hide hQ
  have HA0 := hide hA
  generalize hW0 : (((w.alloc (.cells #[.slice ah b.hs.length ch, .slice as_ b.sl.length cs, .int .i64 b.tu, .int .i64 b.nx] 27)).alloc (.cells #[.string ⟨#[]⟩, .string ⟨#[]⟩, .int .i64 0, .int .i64 0, .int .i64 0] 61)).alloc (.cells #[.int .i64 0, .int .i64 0] 30)) = W0 at HB0 HR0 HQ0 HA0
  have HF1 := hide (HFF.out _ HA0.out)
  clear hf hk hh hs hl hsi1 hsi2 hB hR hQ hA HFF
  unfold bdV at HF1 HSW
  unfold bdV
  rw [show slE.ag s = .agg #[.string s.p.fr, .string s.p.to_, .int .i64 s.p.id, .int .i64 s.st, .int .i64 s.ho, .int .i64 s.tu] from rfl] at HSW
  go_enter Try.func32, Try.ntmps32
  go_upto_region 1 with fail
  clear hW0
  go_upto_region 2 with (first
    | (refine wpList_load_blk HB0.out Try.underlying27 rfl Try.sizeBoard rfl rfl rfl ?_)
    | (go_at_call 52; refine HF1.out.mono ?_; rintro e w1 ⟨rfl, hb1⟩; have HX1 := hide hb1; clear hb1))
  have hbT := below_allocG w1 (.cells #[.int .i64 0, .int .i64 0] 30)
  have hbX := HX1.out.trans (hbT.mono HX1.out.size)
  have HB1 := hide (HB0.out.later hbX)
  have HR1 := hide (HR0.out.later hbX)
  have HQ1 := hide (HQ0.out.later hbX)
  have HA1 := hide (HA0.out.trans (hbX.mono HA0.out.size))
  have HT1 := hide (Blk.new w1 30 #[.int .i64 0, .int .i64 0])
  have HN1 := hide (show w.heap.size + 2 < w1.heap.size from (HQ0.out.later HX1.out).lt)
  generalize hwX : w1.alloc (.cells #[.int .i64 0, .int .i64 0] 30) = X1 at HB1 HR1 HQ1 HA1 HT1 ⊢
  clear hwX hbT hbX HX1 HB0 HR0 HQ0 HA0 HF1
  have HS1 := hide (HSW.out _ HA1.out)
  clear HSW
  go_upto_region 5 with (first
    | (refine wpList_load_blk HT1.out Try.underlying30 rfl Try.sizeFaultA rfl rfl rfl ?_)
    | (refine wpList_load_blk HB1.out Try.underlying27 rfl Try.sizeBoard rfl rfl rfl ?_)
    | (go_at_call 53; refine HS1.out.mono ?_; rintro e w2 ⟨rfl, hb2⟩; have HX2 := hide hb2; clear hb2))
  have hbT := below_alloc2 w2 (.cells #[.string s.p.fr, .string s.p.to_, .int .i64 s.p.id, .int .i64 s.st, .int .i64 s.ho, .int .i64 s.tu] 46) (.cells #[.int .i64 0] 3)
  have hbX := HX2.out.trans (hbT.mono HX2.out.size)
  have HR2 := hide (HR1.out.later hbX)
  have HQ2 := hide (HQ1.out.later hbX)
  have HA2 := hide (HA1.out.trans (hbX.mono HA1.out.size))
  have HS2 := hide (Blk.at0of2 w2 (.cells #[.int .i64 0] 3) 46 #[.string s.p.fr, .string s.p.to_, .int .i64 s.p.id, .int .i64 s.st, .int .i64 s.ho, .int .i64 s.tu])
  have HC2 := hide (Blk.at1 w2 (.cells #[.string s.p.fr, .string s.p.to_, .int .i64 s.p.id, .int .i64 s.st, .int .i64 s.ho, .int .i64 s.tu] 46) 3 #[.int .i64 0])
  have HN2 := hide (show w1.heap.size < w2.heap.size from (HT1.out.later HX2.out).lt)
  generalize hwX : ((w2.alloc (.cells #[.string s.p.fr, .string s.p.to_, .int .i64 s.p.id, .int .i64 s.st, .int .i64 s.ho, .int .i64 s.tu] 46)).alloc (.cells #[.int .i64 0] 3)) = X2 at HR2 HQ2 HA2 HS2 HC2 ⊢
  obtain ⟨sb, hsb⟩ : ∃ sb : Nat, w2.heap.size = sb := ⟨_, rfl⟩
  rw [hsb] at HN2 HS2 HC2 ⊢
  clear hwX hbT hbX HX2 hsb HB1 HR1 HQ1 HA1 HT1 HS1
  have HK2 := hide (HCL.out _ HA2.out)
  clear HCL
  have HBR := hide (show findR b l row = if s.st = 2 then ⟨if (lrn l (slK s)).length ≤ 200 then lrn l (slK s) else l, slK s, (0 + 1 : Int), (0, 0)⟩ else ⟨l, zeroKn, (0 + 1 : Int), (6, 0)⟩ from HFR.out)
  clear HFR
  have HXS := hide (show sb + 1 < X2.heap.size from HC2.out.lt)
  have HKN := hide (show l.length ≤ 300 by have := HKL.out; omega)
  go_upto_region 8 with (go_at_call 57; refine HK2.out.mono ?_; rintro e w3 ⟨v3, rfl, ho3, hb3⟩; obtain ⟨o3, k3, rfl⟩ := owns_shapeA ho3; have HR3 := hide (HR2.out.later hb3); have HQ3 := hide (HQ2.out.later hb3); have HS3 := hide (HS2.out.later hb3); have HC3 := hide (HC2.out.later hb3); have HA3 := hide (HA2.out.trans (hb3.mono HA2.out.size)); have HZ3 := hide hb3.size; have HO3 := hide ho3; have HV3 := hide (having_any _ l row w3 (RdG.ofOwns ho3)); clear ho3 hb3)
  clear HR2 HQ2 HS2 HC2 HK2
  rw [hn] at HV3
  unfold posI at HV3
  dsimp only at HV3
  go_upto_region 13 with (go_at_call 48; refine HV3.out.mono ?_; rintro e w4 ⟨rfl, hb4⟩; have HR4 := hide (HR3.out.later hb4); have HQ4 := hide (HQ3.out.later hb4); have HS4 := hide (HS3.out.later hb4); have HC4 := hide (HC3.out.later hb4); have HA4 := hide (HA3.out.trans (hb4.mono HA3.out.size)); have HO4 := hide (owns_laterA HO3.out hb4); have HZ4 := hide (Nat.le_trans HZ3.out hb4.size); clear hb4)
  clear HR3 HQ3 HS3 HC3 HA3 HO3 HV3
  have hnn : 0 ≤ (0 : Int) ∧ (0 : Int) ≤ 10 := by omega
  have HAB := hide (askBoard_any s (sb + 1) sb (0) _ HC4.out HS4.out hnn)
  clear hnn
  go_upto_region 14 with (go_at_call 56; refine HAB.out.mono ?_; rintro e w5 ⟨rfl, hC5, hg5⟩; have HC5 := hide hC5; have HR5 := hide (HR4.out.grown hg5 (fun q => by have q2 := Option.some.inj q; have := HN1.out; have := HN2.out; omega)); have HQ5 := hide (HQ4.out.grown hg5 (fun q => by have q2 := Option.some.inj q; have := HN1.out; have := HN2.out; omega)); have HA5 := hide (below_grownO HA4.out hg5 (fun k hk => by cases hk; have := HN1.out; have := HN2.out; omega) HA4.out.size); have HO5 := hide (owns_grownO HO4.out hg5 (.inr (owns_high HO4.out (by have := HXS.out; omega)))); have HZ5 := hide (Nat.le_trans HZ4.out hg5.size); clear hC5 hg5)
  have hbT := below_allocG w5 (.cells #[.string s.p.fr, .string s.p.to_, .int .i64 s.p.id, .int .i64 s.ho, .int .i64 s.tu] 61)
  have HC6 := hide (HC5.out.later hbT)
  have HR6 := hide (HR5.out.later hbT)
  have HQ6 := hide (HQ5.out.later hbT)
  have HA6 := hide (HA5.out.trans (hbT.mono HA5.out.size))
  have HO6 := hide (owns_laterA HO5.out hbT)
  have HX26 := hide (Nat.le_trans HZ5.out hbT.size)
  have HK6 := hide (Blk.new w5 61 #[.string s.p.fr, .string s.p.to_, .int .i64 s.p.id, .int .i64 s.ho, .int .i64 s.tu])
  have HN5 := hide (show sb + 1 < w5.heap.size from HC5.out.lt)
  generalize hwX : w5.alloc (.cells #[.string s.p.fr, .string s.p.to_, .int .i64 s.p.id, .int .i64 s.ho, .int .i64 s.tu] 61) = X6 at HC6 HR6 HQ6 HA6 HO6 HK6 HX26 ⊢
  obtain ⟨kb, hkb⟩ : ∃ kb : Nat, w5.heap.size = kb := ⟨_, rfl⟩
  rw [hkb] at HN5 HK6 ⊢
  clear hwX hbT hkb HC5 HR5 HQ5 HA5 HO5 HR4 HQ4 HC4 HS4 HA4 HO4 HAB
  by_cases hop : s.st = 2
  · have q1 : (s.st == 2) = true := by simp [hop]
    have HBO := hide (HBR.out.trans (if_pos hop))
    have HLR := hide (learntK_any _ l (slK s) X6 (RdG.ofOwns HO6.out) (by have := HKN.out; omega))
    rw [show (Value.agg #[.string (slK s).p.fr, .string (slK s).p.to_, .int .i64 (slK s).p.id, .int .i64 (slK s).ho, .int .i64 (slK s).tu]) = .agg #[.string s.p.fr, .string s.p.to_, .int .i64 s.p.id, .int .i64 s.ho, .int .i64 s.tu] from rfl] at HLR
    have HZK := hide (show knE.ag (slK s) = .agg #[.string s.p.fr, .string s.p.to_, .int .i64 s.p.id, .int .i64 s.ho, .int .i64 s.tu] from rfl)
    generalize hRR : lrn l (slK s) = RR at *
    clear hop hRR
    go_upto_region 17 with (first
      | (refine wpList_load_blk HK6.out Try.underlying61 rfl Try.sizeKnown rfl rfl rfl ?_)
      | (go_at_call 50; refine HLR.out.mono ?_; rintro e w7 ⟨v7, rfl, ho7, hb7⟩; obtain ⟨o7, k7, rfl⟩ := owns_shapeA ho7; have HC7 := hide (HC6.out.later hb7); have HK7 := hide (HK6.out.later hb7); have HR7 := hide (HR6.out.later hb7); have HQ7 := hide (HQ6.out.later hb7); have HA7 := hide (HA6.out.trans (hb7.mono HA6.out.size)); have HO7 := hide (owns_laterA HO6.out hb7); have HP7 := hide (owns_base1 ho7 HX26.out); clear ho7 hb7))
    clear HC6 HK6 HR6 HQ6 HA6 HO6 HLR
    by_cases h200 : RR.length ≤ 200
    · have q2 : ((RR.length : Int) ≤ 200) := by omega
      have HBO2 := hide (show findR b l row = ⟨RR, slK s, 0 + 1, (0, 0)⟩ by rw [HBO.out, if_pos h200])
      clear h200 HBO
      go_upto_region 19 with fail
      have HRd := hide (show Blk w7.drew _ _ _ from HR7.out)
      have HQd := hide (show Blk w7.drew _ _ _ from HQ7.out)
      have HCd := hide (show Blk w7.drew _ _ _ from HC7.out)
      have HKd := hide (show Blk w7.drew _ _ _ from HK7.out)
      have HAd := hide (HA7.out.trans (Below.drew (Below.refl w.heap.size w7)))
      have HOd := hide (show (w7.drew).ownsRow _ _ _ _ _ _ from HP7.out)
      refine wp_region_heldD (S := fun W => W.cell? ⟨sb + 1, 0, none⟩ = some (.int .i64 (0 + 1)) ∧ W.cell? ⟨kb, 0, none⟩ = some (.string s.p.fr) ∧ W.cell? ⟨kb, 1, none⟩ = some (.string s.p.to_) ∧ W.cell? ⟨kb, 2, none⟩ = some (.int .i64 s.p.id) ∧ W.cell? ⟨kb, 3, none⟩ = some (.int .i64 s.ho) ∧ W.cell? ⟨kb, 4, none⟩ = some (.int .i64 s.tu)) (n := 8) (l := (upB 8 0).toArray) (by kernel_rfl) (by kernel_rfl) (by kernel_rfl) (by kernel_rfl) (show (w7.drew).cell? ⟨sb + 1, 0, none⟩ = some (.int .i64 (0 + 1)) ∧ (w7.drew).cell? ⟨kb, 0, none⟩ = some (.string s.p.fr) ∧ (w7.drew).cell? ⟨kb, 1, none⟩ = some (.string s.p.to_) ∧ (w7.drew).cell? ⟨kb, 2, none⟩ = some (.int .i64 s.p.id) ∧ (w7.drew).cell? ⟨kb, 3, none⟩ = some (.int .i64 s.ho) ∧ (w7.drew).cell? ⟨kb, 4, none⟩ = some (.int .i64 s.tu) from ⟨HCd.out.cell 0, HKd.out.cell 0, HKd.out.cell 1, HKd.out.cell 2, HKd.out.cell 3, HKd.out.cell 4⟩) (fun HNS hHeld => ?_)
      refine wpAnyH_takeD (l' := (upB 8 1).toArray) (i := 0) (fuel := 7) (v := ?v1x0) rfl HNS.out (by kernel_rfl) (by kernel_rfl) (by kernel_rfl) (fun _ _ _ h => h) (by kernel_rfl) ?y1x0 hHeld ?r1x0
      case y1x0 => (intro W hSw; go_simp; first | done | with_reducible rfl)
      try simp only [Act.put, List.setIfInBounds_toArray, List.set_cons_zero, List.set_cons_succ]
      refine wpAnyH_takeD (l' := (upB 8 2).toArray) (i := 1) (fuel := 6) (v := ?v1x1) rfl HNS.out (by kernel_rfl) (by kernel_rfl) (by kernel_rfl) (fun _ _ _ h => h) (by kernel_rfl) ?y1x1 hHeld ?r1x1
      case y1x1 => (intro W hSw; (try dsimp only at hSw); go_simp; first | done | with_reducible rfl)
      try simp only [Act.put, List.setIfInBounds_toArray, List.set_cons_zero, List.set_cons_succ]
      refine wpAnyH_takeD (l' := (upB 8 3).toArray) (i := 2) (fuel := 5) (v := ?v1x2) rfl HNS.out (by kernel_rfl) (by kernel_rfl) (by kernel_rfl) (fun _ _ _ h => h) (by kernel_rfl) ?y1x2 hHeld ?r1x2
      case y1x2 => (intro W hSw; (try dsimp only at hSw); go_simp; first | done | with_reducible rfl)
      try simp only [Act.put, List.setIfInBounds_toArray, List.set_cons_zero, List.set_cons_succ]
      refine wpAnyH_takeD (l' := (upB 8 4).toArray) (i := 3) (fuel := 4) (v := ?v1x3) rfl HNS.out (by kernel_rfl) (by kernel_rfl) (by kernel_rfl) (fun _ _ _ h => h) (by kernel_rfl) ?y1x3 hHeld ?r1x3
      case y1x3 => (intro W hSw; go_simp; first | done | with_reducible rfl)
      try simp only [Act.put, List.setIfInBounds_toArray, List.set_cons_zero, List.set_cons_succ]
      refine wpAnyH_takeD (l' := (upB 8 5).toArray) (i := 4) (fuel := 3) (v := ?v1x4) rfl HNS.out (by kernel_rfl) (by kernel_rfl) (by kernel_rfl) (fun _ _ _ h => h) (by kernel_rfl) ?y1x4 hHeld ?r1x4
      case y1x4 => (intro W hSw; go_simp; first | done | with_reducible rfl)
      try simp only [Act.put, List.setIfInBounds_toArray, List.set_cons_zero, List.set_cons_succ]
      refine wpAnyH_oneD (l' := (upB 8 6).toArray) (i := 5) (fuel := 2) rfl (by kernel_rfl) (by kernel_rfl) (fun Kc hK => ?_)
      refine step_store_blk rfl rfl rfl rfl HRd.out rfl Try.sizeKnown rfl ?_
      intro w8 hR8 hg8
      have HR8 := hide hR8
      have HQ8 := hide (HQd.out.grown hg8 (fun q => by have q2 := Option.some.inj q; have := HN1.out; have := HN2.out; have := HN5.out; omega))
      have HC8 := hide (HCd.out.grown hg8 (fun q => by have q2 := Option.some.inj q; have := HN1.out; have := HN2.out; have := HN5.out; omega))
      have HK8 := hide (HKd.out.grown hg8 (fun q => by have q2 := Option.some.inj q; have := HN1.out; have := HN2.out; have := HN5.out; omega))
      have HA8 := hide (below_grownO HAd.out hg8 (fun k hk => by cases hk; omega) HAd.out.size)
      have HO8 := hide (owns_grownO HOd.out hg8 (.inr (owns_high HOd.out (by have := HXS.out; have := HN1.out; have := HN2.out; omega))))
      clear hR8 hg8
      have hHeld8 := (show w8.cell? ⟨sb + 1, 0, none⟩ = some (.int .i64 (0 + 1)) ∧ w8.cell? ⟨kb, 0, none⟩ = some (.string s.p.fr) ∧ w8.cell? ⟨kb, 1, none⟩ = some (.string s.p.to_) ∧ w8.cell? ⟨kb, 2, none⟩ = some (.int .i64 s.p.id) ∧ w8.cell? ⟨kb, 3, none⟩ = some (.int .i64 s.ho) ∧ w8.cell? ⟨kb, 4, none⟩ = some (.int .i64 s.tu) from ⟨HC8.out.cell 0, HK8.out.cell 0, HK8.out.cell 1, HK8.out.cell 2, HK8.out.cell 3, HK8.out.cell 4⟩)
      refine hK.out _ _ hHeld8 (fun _ => ?_)
      clear hK Kc
      try simp only [Act.put]
      refine wpAnyH_takeD (l' := (upB 8 7).toArray) (i := 6) (fuel := 1) (v := ?v1x6) rfl HNS.out (by kernel_rfl) (by kernel_rfl) (by kernel_rfl) (fun _ _ _ h => h) (by kernel_rfl) ?y1x6 hHeld8 ?r1x6
      case y1x6 => (intro W hSw; go_simp; first | done | with_reducible rfl)
      try simp only [Act.put, List.setIfInBounds_toArray, List.set_cons_zero, List.set_cons_succ]
      refine wpAnyH_oneD (l' := (upB 8 8).toArray) (i := 7) (fuel := 0) rfl (by kernel_rfl) (by kernel_rfl) (fun Kc hK => ?_)
      refine step_store_blk rfl rfl rfl rfl HQ8.out rfl Try.sizeFaultA rfl ?_
      intro w9 hQ9 hg9
      have HQ9 := hide hQ9
      have HR9 := hide (HR8.out.grown hg9 (fun q => by have q2 := Option.some.inj q; have := HN1.out; have := HN2.out; have := HN5.out; omega))
      have HC9 := hide (HC8.out.grown hg9 (fun q => by have q2 := Option.some.inj q; have := HN1.out; have := HN2.out; have := HN5.out; omega))
      have HK9 := hide (HK8.out.grown hg9 (fun q => by have q2 := Option.some.inj q; have := HN1.out; have := HN2.out; have := HN5.out; omega))
      have HA9 := hide (below_grownO HA8.out hg9 (fun k hk => by cases hk; omega) HA8.out.size)
      have HO9 := hide (owns_grownO HO8.out hg9 (.inr (owns_high HO8.out (by have := HXS.out; have := HN1.out; have := HN2.out; omega))))
      clear hQ9 hg9
      have hHeld9 := (show w9.cell? ⟨sb + 1, 0, none⟩ = some (.int .i64 (0 + 1)) ∧ w9.cell? ⟨kb, 0, none⟩ = some (.string s.p.fr) ∧ w9.cell? ⟨kb, 1, none⟩ = some (.string s.p.to_) ∧ w9.cell? ⟨kb, 2, none⟩ = some (.int .i64 s.p.id) ∧ w9.cell? ⟨kb, 3, none⟩ = some (.int .i64 s.ho) ∧ w9.cell? ⟨kb, 4, none⟩ = some (.int .i64 s.tu) from ⟨HC9.out.cell 0, HK9.out.cell 0, HK9.out.cell 1, HK9.out.cell 2, HK9.out.cell 3, HK9.out.cell 4⟩)
      refine hK.out _ _ hHeld9 (fun _ => ?_)
      clear hK Kc
      try simp only [Act.put]
      refine wpAnyH_done (by kernel_rfl) ?_ _
      go_wp2_with fail
      refine bodyPost_ret (v := .tuple #[.slice o7 RR.length k7, .agg #[.string s.p.fr, .string s.p.to_, .int .i64 s.p.id, .int .i64 s.ho, .int .i64 s.tu], .int .i64 (0 + 1), .agg #[.int .i64 0, .int .i64 0]]) (results4_tctc Try.results32 rfl rfl (run_loadVar_blk HR9.out Try.underlying61 rfl Try.sizeKnown) rfl rfl (run_loadVar_blk HQ9.out Try.underlying30 rfl Try.sizeFaultA)) rfl ?_
      rw [HBO2.out]
      exact ⟨_, rfl, owns_base1 HO9.out HA2.out.size, HA9.out⟩
    · have q2 : ¬ ((RR.length : Int) ≤ 200) := by omega
      have HBO2 := hide (show findR b l row = ⟨l, slK s, 0 + 1, (0, 0)⟩ by rw [HBO.out, if_neg h200])
      clear h200 HBO
      go_upto_region 19 with fail
      have HRd := hide (show Blk w7.drew _ _ _ from HR7.out)
      have HQd := hide (show Blk w7.drew _ _ _ from HQ7.out)
      have HCd := hide (show Blk w7.drew _ _ _ from HC7.out)
      have HKd := hide (show Blk w7.drew _ _ _ from HK7.out)
      have HAd := hide (HA7.out.trans (Below.drew (Below.refl w.heap.size w7)))
      have HOd := hide (show (w7.drew).ownsRow _ _ _ _ _ _ from HO7.out)
      refine wp_region_heldD (S := fun W => W.cell? ⟨sb + 1, 0, none⟩ = some (.int .i64 (0 + 1)) ∧ W.cell? ⟨kb, 0, none⟩ = some (.string s.p.fr) ∧ W.cell? ⟨kb, 1, none⟩ = some (.string s.p.to_) ∧ W.cell? ⟨kb, 2, none⟩ = some (.int .i64 s.p.id) ∧ W.cell? ⟨kb, 3, none⟩ = some (.int .i64 s.ho) ∧ W.cell? ⟨kb, 4, none⟩ = some (.int .i64 s.tu)) (n := 8) (l := (upB 8 0).toArray) (by kernel_rfl) (by kernel_rfl) (by kernel_rfl) (by kernel_rfl) (show (w7.drew).cell? ⟨sb + 1, 0, none⟩ = some (.int .i64 (0 + 1)) ∧ (w7.drew).cell? ⟨kb, 0, none⟩ = some (.string s.p.fr) ∧ (w7.drew).cell? ⟨kb, 1, none⟩ = some (.string s.p.to_) ∧ (w7.drew).cell? ⟨kb, 2, none⟩ = some (.int .i64 s.p.id) ∧ (w7.drew).cell? ⟨kb, 3, none⟩ = some (.int .i64 s.ho) ∧ (w7.drew).cell? ⟨kb, 4, none⟩ = some (.int .i64 s.tu) from ⟨HCd.out.cell 0, HKd.out.cell 0, HKd.out.cell 1, HKd.out.cell 2, HKd.out.cell 3, HKd.out.cell 4⟩) (fun HNS hHeld => ?_)
      refine wpAnyH_takeD (l' := (upB 8 1).toArray) (i := 0) (fuel := 7) (v := ?v2x0) rfl HNS.out (by kernel_rfl) (by kernel_rfl) (by kernel_rfl) (fun _ _ _ h => h) (by kernel_rfl) ?y2x0 hHeld ?r2x0
      case y2x0 => (intro W hSw; go_simp; first | done | with_reducible rfl)
      try simp only [Act.put, List.setIfInBounds_toArray, List.set_cons_zero, List.set_cons_succ]
      refine wpAnyH_takeD (l' := (upB 8 2).toArray) (i := 1) (fuel := 6) (v := ?v2x1) rfl HNS.out (by kernel_rfl) (by kernel_rfl) (by kernel_rfl) (fun _ _ _ h => h) (by kernel_rfl) ?y2x1 hHeld ?r2x1
      case y2x1 => (intro W hSw; (try dsimp only at hSw); go_simp; first | done | with_reducible rfl)
      try simp only [Act.put, List.setIfInBounds_toArray, List.set_cons_zero, List.set_cons_succ]
      refine wpAnyH_takeD (l' := (upB 8 3).toArray) (i := 2) (fuel := 5) (v := ?v2x2) rfl HNS.out (by kernel_rfl) (by kernel_rfl) (by kernel_rfl) (fun _ _ _ h => h) (by kernel_rfl) ?y2x2 hHeld ?r2x2
      case y2x2 => (intro W hSw; (try dsimp only at hSw); go_simp; first | done | with_reducible rfl)
      try simp only [Act.put, List.setIfInBounds_toArray, List.set_cons_zero, List.set_cons_succ]
      refine wpAnyH_takeD (l' := (upB 8 4).toArray) (i := 3) (fuel := 4) (v := ?v2x3) rfl HNS.out (by kernel_rfl) (by kernel_rfl) (by kernel_rfl) (fun _ _ _ h => h) (by kernel_rfl) ?y2x3 hHeld ?r2x3
      case y2x3 => (intro W hSw; go_simp; first | done | with_reducible rfl)
      try simp only [Act.put, List.setIfInBounds_toArray, List.set_cons_zero, List.set_cons_succ]
      refine wpAnyH_takeD (l' := (upB 8 5).toArray) (i := 4) (fuel := 3) (v := ?v2x4) rfl HNS.out (by kernel_rfl) (by kernel_rfl) (by kernel_rfl) (fun _ _ _ h => h) (by kernel_rfl) ?y2x4 hHeld ?r2x4
      case y2x4 => (intro W hSw; go_simp; first | done | with_reducible rfl)
      try simp only [Act.put, List.setIfInBounds_toArray, List.set_cons_zero, List.set_cons_succ]
      refine wpAnyH_oneD (l' := (upB 8 6).toArray) (i := 5) (fuel := 2) rfl (by kernel_rfl) (by kernel_rfl) (fun Kc hK => ?_)
      refine step_store_blk rfl rfl rfl rfl HRd.out rfl Try.sizeKnown rfl ?_
      intro w8 hR8 hg8
      have HR8 := hide hR8
      have HQ8 := hide (HQd.out.grown hg8 (fun q => by have q2 := Option.some.inj q; have := HN1.out; have := HN2.out; have := HN5.out; omega))
      have HC8 := hide (HCd.out.grown hg8 (fun q => by have q2 := Option.some.inj q; have := HN1.out; have := HN2.out; have := HN5.out; omega))
      have HK8 := hide (HKd.out.grown hg8 (fun q => by have q2 := Option.some.inj q; have := HN1.out; have := HN2.out; have := HN5.out; omega))
      have HA8 := hide (below_grownO HAd.out hg8 (fun k hk => by cases hk; omega) HAd.out.size)
      have HO8 := hide (owns_grownO HOd.out hg8 (.inr (owns_high HOd.out (by have := HXS.out; have := HN1.out; have := HN2.out; omega))))
      clear hR8 hg8
      have hHeld8 := (show w8.cell? ⟨sb + 1, 0, none⟩ = some (.int .i64 (0 + 1)) ∧ w8.cell? ⟨kb, 0, none⟩ = some (.string s.p.fr) ∧ w8.cell? ⟨kb, 1, none⟩ = some (.string s.p.to_) ∧ w8.cell? ⟨kb, 2, none⟩ = some (.int .i64 s.p.id) ∧ w8.cell? ⟨kb, 3, none⟩ = some (.int .i64 s.ho) ∧ w8.cell? ⟨kb, 4, none⟩ = some (.int .i64 s.tu) from ⟨HC8.out.cell 0, HK8.out.cell 0, HK8.out.cell 1, HK8.out.cell 2, HK8.out.cell 3, HK8.out.cell 4⟩)
      refine hK.out _ _ hHeld8 (fun _ => ?_)
      clear hK Kc
      try simp only [Act.put]
      refine wpAnyH_takeD (l' := (upB 8 7).toArray) (i := 6) (fuel := 1) (v := ?v2x6) rfl HNS.out (by kernel_rfl) (by kernel_rfl) (by kernel_rfl) (fun _ _ _ h => h) (by kernel_rfl) ?y2x6 hHeld8 ?r2x6
      case y2x6 => (intro W hSw; go_simp; first | done | with_reducible rfl)
      try simp only [Act.put, List.setIfInBounds_toArray, List.set_cons_zero, List.set_cons_succ]
      refine wpAnyH_oneD (l' := (upB 8 8).toArray) (i := 7) (fuel := 0) rfl (by kernel_rfl) (by kernel_rfl) (fun Kc hK => ?_)
      refine step_store_blk rfl rfl rfl rfl HQ8.out rfl Try.sizeFaultA rfl ?_
      intro w9 hQ9 hg9
      have HQ9 := hide hQ9
      have HR9 := hide (HR8.out.grown hg9 (fun q => by have q2 := Option.some.inj q; have := HN1.out; have := HN2.out; have := HN5.out; omega))
      have HC9 := hide (HC8.out.grown hg9 (fun q => by have q2 := Option.some.inj q; have := HN1.out; have := HN2.out; have := HN5.out; omega))
      have HK9 := hide (HK8.out.grown hg9 (fun q => by have q2 := Option.some.inj q; have := HN1.out; have := HN2.out; have := HN5.out; omega))
      have HA9 := hide (below_grownO HA8.out hg9 (fun k hk => by cases hk; omega) HA8.out.size)
      have HO9 := hide (owns_grownO HO8.out hg9 (.inr (owns_high HO8.out (by have := HXS.out; have := HN1.out; have := HN2.out; omega))))
      clear hQ9 hg9
      have hHeld9 := (show w9.cell? ⟨sb + 1, 0, none⟩ = some (.int .i64 (0 + 1)) ∧ w9.cell? ⟨kb, 0, none⟩ = some (.string s.p.fr) ∧ w9.cell? ⟨kb, 1, none⟩ = some (.string s.p.to_) ∧ w9.cell? ⟨kb, 2, none⟩ = some (.int .i64 s.p.id) ∧ w9.cell? ⟨kb, 3, none⟩ = some (.int .i64 s.ho) ∧ w9.cell? ⟨kb, 4, none⟩ = some (.int .i64 s.tu) from ⟨HC9.out.cell 0, HK9.out.cell 0, HK9.out.cell 1, HK9.out.cell 2, HK9.out.cell 3, HK9.out.cell 4⟩)
      refine hK.out _ _ hHeld9 (fun _ => ?_)
      clear hK Kc
      try simp only [Act.put]
      refine wpAnyH_done (by kernel_rfl) ?_ _
      go_wp2_with fail
      refine bodyPost_ret (v := .tuple #[.slice o3 l.length k3 , .agg #[.string s.p.fr, .string s.p.to_, .int .i64 s.p.id, .int .i64 s.ho, .int .i64 s.tu], .int .i64 (0 + 1), .agg #[.int .i64 0, .int .i64 0]]) (results4_tctc Try.results32 rfl rfl (run_loadVar_blk HR9.out Try.underlying61 rfl Try.sizeKnown) rfl rfl (run_loadVar_blk HQ9.out Try.underlying30 rfl Try.sizeFaultA)) rfl ?_
      rw [HBO2.out]
      exact ⟨_, rfl, owns_base1 HO9.out HA2.out.size, HA9.out⟩
  · have q1 : (s.st == 2) = false := beq_eq_false_iff_ne.2 hop
    have HBO2 := hide (HBR.out.trans (if_neg hop))
    clear hop
    go_upto_region 15 with fail
    have HRd := hide (show Blk X6.drew _ _ _ from HR6.out)
    have HQd := hide (show Blk X6.drew _ _ _ from HQ6.out)
    have HCd := hide (show Blk X6.drew _ _ _ from HC6.out)
    have HAd := hide (HA6.out.trans (Below.drew (Below.refl w.heap.size X6)))
    have HOd := hide (show (X6.drew).ownsRow _ _ _ _ _ _ from HO6.out)
    refine wp_region_heldD (S := fun W => W.cell? ⟨sb + 1, 0, none⟩ = some (.int .i64 (0 + 1))) (n := 8) (l := (upB 8 0).toArray) (by kernel_rfl) (by kernel_rfl) (by kernel_rfl) (by kernel_rfl) (show (X6.drew).cell? ⟨sb + 1, 0, none⟩ = some (.int .i64 (0 + 1)) from HCd.out.cell 0) (fun HNS hHeld => ?_)
    refine wpAnyH_takeD (l' := (upB 8 1).toArray) (i := 0) (fuel := 7) (v := ?v3x0) rfl HNS.out (by kernel_rfl) (by kernel_rfl) (by kernel_rfl) (fun _ _ _ h => h) (by kernel_rfl) ?y3x0 hHeld ?r3x0
    case y3x0 => (intro W hSw; go_simp; first | done | with_reducible rfl)
    try simp only [Act.put, List.setIfInBounds_toArray, List.set_cons_zero, List.set_cons_succ]
    refine wpAnyH_takeD (l' := (upB 8 2).toArray) (i := 1) (fuel := 6) (v := ?v3x1) rfl HNS.out (by kernel_rfl) (by kernel_rfl) (by kernel_rfl) (fun _ _ _ h => h) (by kernel_rfl) ?y3x1 hHeld ?r3x1
    case y3x1 => (intro W hSw; go_simp; first | done | with_reducible rfl)
    try simp only [Act.put, List.setIfInBounds_toArray, List.set_cons_zero, List.set_cons_succ]
    refine wpAnyH_takeD (l' := (upB 8 3).toArray) (i := 2) (fuel := 5) (v := ?v3x2) rfl HNS.out (by kernel_rfl) (by kernel_rfl) (by kernel_rfl) (fun _ _ _ h => h) (by kernel_rfl) ?y3x2 hHeld ?r3x2
    case y3x2 => (intro W hSw; (try dsimp only at hSw); go_simp; first | done | with_reducible rfl)
    try simp only [Act.put, List.setIfInBounds_toArray, List.set_cons_zero, List.set_cons_succ]
    refine wpAnyH_takeD (l' := (upB 8 4).toArray) (i := 3) (fuel := 4) (v := ?v3x3) rfl HNS.out (by kernel_rfl) (by kernel_rfl) (by kernel_rfl) (fun _ _ _ h => h) (by kernel_rfl) ?y3x3 hHeld ?r3x3
    case y3x3 => (intro W hSw; go_simp; first | done | with_reducible rfl)
    try simp only [Act.put, List.setIfInBounds_toArray, List.set_cons_zero, List.set_cons_succ]
    refine wpAnyH_takeD (l' := (upB 8 5).toArray) (i := 4) (fuel := 3) (v := ?v3x4) rfl HNS.out (by kernel_rfl) (by kernel_rfl) (by kernel_rfl) (fun _ _ _ h => h) (by kernel_rfl) ?y3x4 hHeld ?r3x4
    case y3x4 => (intro W hSw; go_simp; first | done | with_reducible rfl)
    try simp only [Act.put, List.setIfInBounds_toArray, List.set_cons_zero, List.set_cons_succ]
    refine wpAnyH_oneD (l' := (upB 8 6).toArray) (i := 5) (fuel := 2) rfl (by kernel_rfl) (by kernel_rfl) (fun Kc hK => ?_)
    refine step_store_blk rfl rfl rfl rfl HRd.out rfl Try.sizeKnown rfl ?_
    intro w8 hR8 hg8
    have HR8 := hide hR8
    have HQ8 := hide (HQd.out.grown hg8 (fun q => by have q2 := Option.some.inj q; have := HN1.out; have := HN2.out; omega))
    have HC8 := hide (HCd.out.grown hg8 (fun q => by have q2 := Option.some.inj q; have := HN1.out; have := HN2.out; omega))
    have HA8 := hide (below_grownO HAd.out hg8 (fun k hk => by cases hk; omega) HAd.out.size)
    have HO8 := hide (owns_grownO HOd.out hg8 (.inr (owns_high HOd.out (by have := HXS.out; have := HN1.out; have := HN2.out; omega))))
    clear hR8 hg8
    have hHeld8 := (show w8.cell? ⟨sb + 1, 0, none⟩ = some (.int .i64 (0 + 1)) from HC8.out.cell 0)
    refine hK.out _ _ hHeld8 (fun _ => ?_)
    clear hK Kc
    try simp only [Act.put]
    refine wpAnyH_takeD (l' := (upB 8 7).toArray) (i := 6) (fuel := 1) (v := ?v3x6) rfl HNS.out (by kernel_rfl) (by kernel_rfl) (by kernel_rfl) (fun _ _ _ h => h) (by kernel_rfl) ?y3x6 hHeld8 ?r3x6
    case y3x6 => (intro W hSw; go_simp; first | done | with_reducible rfl)
    try simp only [Act.put, List.setIfInBounds_toArray, List.set_cons_zero, List.set_cons_succ]
    refine wpAnyH_oneD (l' := (upB 8 8).toArray) (i := 7) (fuel := 0) rfl (by kernel_rfl) (by kernel_rfl) (fun Kc hK => ?_)
    refine step_store_blk rfl rfl rfl rfl HQ8.out rfl Try.sizeFaultA rfl ?_
    intro w9 hQ9 hg9
    have HQ9 := hide hQ9
    have HR9 := hide (HR8.out.grown hg9 (fun q => by have q2 := Option.some.inj q; have := HN1.out; have := HN2.out; omega))
    have HC9 := hide (HC8.out.grown hg9 (fun q => by have q2 := Option.some.inj q; have := HN1.out; have := HN2.out; omega))
    have HA9 := hide (below_grownO HA8.out hg9 (fun k hk => by cases hk; omega) HA8.out.size)
    have HO9 := hide (owns_grownO HO8.out hg9 (.inr (owns_high HO8.out (by have := HXS.out; have := HN1.out; have := HN2.out; omega))))
    clear hQ9 hg9
    have hHeld9 := (show w9.cell? ⟨sb + 1, 0, none⟩ = some (.int .i64 (0 + 1)) from HC9.out.cell 0)
    refine hK.out _ _ hHeld9 (fun _ => ?_)
    clear hK Kc
    try simp only [Act.put]
    refine wpAnyH_done (by kernel_rfl) ?_ _
    go_wp2_with fail
    refine bodyPost_ret (v := .tuple #[.slice o3 l.length k3, .agg #[.string ⟨#[]⟩, .string ⟨#[]⟩, .int .i64 0, .int .i64 0, .int .i64 0], .int .i64 (0 + 1), .agg #[.int .i64 6, .int .i64 0]]) (results4_tctc Try.results32 rfl rfl (run_loadVar_blk HR9.out Try.underlying61 rfl Try.sizeKnown) rfl rfl (run_loadVar_blk HQ9.out Try.underlying30 rfl Try.sizeFaultA)) rfl ?_
    rw [HBO2.out]
    exact ⟨_, rfl, owns_base1 HO9.out HA2.out.size, HA9.out⟩

end Go.Proofs.Ytoeobhehjnkkkaa
