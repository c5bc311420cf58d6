/-
  Texts joined: SealV5, SealV6, SealV7, WalC2, SealV8, SealV9, SealV10.
-/
import Derived.Test.YtopnjklloleomaaMSealChooses6
import Derived.Deep.RegionHeld3
import Derived.BigQuiet
/-
  The walks over the vault's bring and end.
-/
namespace Go.Proofs.Ytopnjklloleomaa
open Go.RowKit
set_option linter.unusedVariables false

theorem Vm.drew {w : World} {lab : Nat → Nat} {B : Nat} {s : Vs} {t : Vt} (h : Vm w lab B s t) : Vm w.drew lab B s t := h.below (Below.drew (Below.refl _ _))

theorem chg_drew {w : World} {lab : Nat → Nat} {S : Nat → Prop} (h : LbOk 0 w lab) : Chg 0 w w.drew lab lab S := Chg.below _ h (Below.drew (Below.refl _ _))

set_option maxRecDepth 100000 in
set_option maxHeartbeats 8000000 in
theorem bring_any (B who n : Nat) (s : Vs) (t : Vt) (c : Cp) (r : ByteArray) (l : List Int) (lab : Nat → Nat) (w : World) (hm : Vm w lab B s t) (hc : t.copies[who]? = some c) (hr : t.wrote[n]? = some r) (hl : t.took[n]? = some l) (hll : l.length ≤ 1000000) :
    Calls Try.prog 48 #[.pointer (some ⟨B, 0, none⟩), .int .i64 who, .int .i64 n] w fun e w' => ∃ lab', e = .returned (.tuple #[]) ∧ Vm w' lab' B s (t.brought who n c r l) ∧ Chg 0 w w' lab lab' (fun i => i ≠ 0 ∧ i ≠ 6) := by
  have HBR : Hid (t.brought who n c r l = if (appF c 1 n r).1 = 0 then { t.setCopy who (appC c 1 n r) with took := t.took.set n (putL l who) } else t) := hide rfl
  have HAS : Hid (t.asked who (appC c 1 n r) (appF c 1 n r) = if (appF c 1 n r).1 = 0 then t.setCopy who (appC c 1 n r) else t) := hide rfl
  have hA := below_alloc2 w (.cells #[.pointer (some ⟨B, 0, none⟩)] 74) (.cells #[.int .i64 n] 3)
  have hY := Blk.at0of2 w (.cells #[.int .i64 n] 3) 74 #[.pointer (some ⟨B, 0, none⟩)]
  have hX := Blk.at1 w (.cells #[.pointer (some ⟨B, 0, none⟩)] 74) 3 #[.int .i64 n]
  have hmA := hm.below hA
  have hnw := (List.getElem?_eq_some_iff.1 hr).1
  obtain ⟨b, wc, cur, hwv, _⟩ := owns_pos hmA.wro.1 (by omega)
  have hrd : RdG txE ((w.alloc (.cells #[.pointer (some ⟨B, 0, none⟩)] 74)).alloc (.cells #[.int .i64 n] 3)) (.slice (some ⟨b, 0, none⟩) t.wrote.length wc) t.wrote := hwv ▸ RdG.ofOwns hmA.wro.1
  obtain ⟨b', off', hbo, _, hcell⟩ := hrd.hereT hr
  cases hbo
  have hV1 := hmA.blk.cell 1
  simp only [Vs.a, List.getElem?_toArray, List.getElem?_cons_zero, List.getElem?_cons_succ] at hV1
  rw [hwv] at hV1
  have hask := askBring_any (w.heap.size + 1) w.heap.size B who s t c (appC c 1 n r) (appF c 1 n r) lab _ hmA hc (appF_z c 1 n r) (fun w1 v hb1 hv => cloBring_any (w.heap.size + 1) w.heap.size B b 0 n wc t.wrote.length r c v w1 ((hX.later hb1).cell 0) ((hY.later hb1).cell 0) (cell_belowG hV1 hb1) (cell_belowG hcell hb1) (by omega) hv)
  have HASK := hide hask
  have HX := hide hX
  have HY := hide hY
  have HCA : Hid (Chg 0 w _ lab lab (fun i => i ≠ 0 ∧ i ≠ 6)) := hide (Chg.below _ hm.ok hA)
  have HLX : Hid (lab (w.heap.size + 1) = 0) := hide (hm.ok _ (by omega))
  have HLY : Hid (lab w.heap.size = 0) := hide (hm.ok _ (by omega))
  have HL := hide hl
  generalize hRC : appC c 1 n r = RC at *
  generalize hRF : appF c 1 n r = RF at *
  obtain ⟨fx, fy⟩ := RF
  clear hm hmA hr hl hA hX hY hrd hV1 hcell hask hwv hRC hRF
  go_enter Try.func48, Try.ntmps48
  go_wp2_with fail
  refine HASK.out.mono ?_
  rintro e w2 ⟨rfl, hm2, hch2⟩
  have HM2 := hide hm2
  have HCH := hide (HCA.out.trans (hch2.mono (fun i h => by omega)))
  by_cases hx : fx = 0
  · have hd : decide (fx = 0) = true := decide_eq_true hx
    have HE := hide (HBR.out.trans (if_pos hx))
    have HE2 := hide (HAS.out.trans (if_pos hx))
    rw [HE2.out] at hm2
    have hX2 := HX.out.keep hch2 (by rw [HLX.out]; decide)
    have hY2 := HY.out.keep hch2 (by rw [HLY.out]; decide)
    have x0 := hX2.cell 0
    have y0 := hY2.cell 0
    have xl := hX2.lt
    have yl := hY2.lt
    have v2 := hm2.blk.cell 2
    have vl := hm2.blk.lt
    obtain ⟨g, cap, hgv, hput⟩ := putTook (who := (who : Int)) hm2.drew (show (t.setCopy who RC).took[n]? = some l from HL.out) hll
    simp only [Vs.a, List.getElem?_toArray, List.getElem?_cons_zero, List.getElem?_cons_succ] at v2
    rw [hgv] at v2
    simp at x0 y0
    have HPUT := hide hput
    have hnl : n < (t.setCopy who RC).took.length := (List.getElem?_eq_some_iff.1 HL.out).1
    have hk1 : (0 : Int) ≤ (n : Int) := by omega
    have hk2 : (n : Int) < ((t.setCopy who RC).took.length : Int) := by omega
    have HOK := hide hm2.ok
    rw [hd]
    generalize (t.setCopy who RC).took.length = TL at *
    clear hd hx hm2 hch2 hX2 hY2 hgv hput
    go_wp2_with fail
    go_region_with (go_at_call 59; refine HPUT.out.mono ?_; rintro e w3 ⟨lab3, rfl, hm3, hch3⟩)
    all_goals
      go_wp2_with fail
      refine bodyPost_end (v := .tuple #[]) (by simp [results, Try.results48]) rfl ?_
      exact ⟨lab3, rfl, by rw [HE.out]; exact hm3, HCH.out.trans ((chg_drew HOK.out).trans (hch3.mono (fun i h => by omega)))⟩
  · have hd : decide (fx = 0) = false := decide_eq_false hx
    have HE := hide (HBR.out.trans (if_neg hx))
    have HE2 := hide (HAS.out.trans (if_neg hx))
    rw [hd]
    clear hd hx hm2 hch2
    go_wp2_with fail
    refine bodyPost_end (v := .tuple #[]) (by simp [results, Try.results48]) rfl ?_
    exact ⟨lab, rfl, by rw [HE.out, ← HE2.out]; exact HM2.out, HCH.out⟩

end Go.Proofs.Ytopnjklloleomaa

/-
  The walks over the vault's end and choose.
-/
namespace Go.Proofs.Ytopnjklloleomaa
open Go.RowKit
set_option linter.unusedVariables false

theorem Blk.two0s {w : World} {B : Nat} {t : TypeId} {a b x y : Value} (h : Blk w B t #[a, b]) : Blk ((w.setCell ⟨B, 0, none⟩ x).setCell ⟨B, 1, none⟩ y) B t #[x, y] := by
  have := (h.set 0 x).set 1 y
  simpa using this

/-- What a copy that is ended leaves. -/
def Vt.ended (t : Vt) (who j : Nat) (c : Cp) (a : Hl) : Vt :=
  if a.has = false then t
  else if (endF c a.ep a.recs).1 = 0 then { t.setCopy who (endC c a.ep a.recs) with heals := t.heals.set j { a with ends := putL a.ends who } } else t

theorem endF_z (c : Cp) (e_ : Int) (l : List ByteArray) : Fz (endF c e_ l) := epF_z

set_option maxRecDepth 100000 in
set_option maxHeartbeats 8000000 in
theorem end_any (B who j g hcap : Nat) (s : Vs) (t : Vt) (c : Cp) (a : Hl) (lab : Nat → Nat) (w : World) (hm : Vm w lab B s t) (hc : t.copies[who]? = some c) (hj : t.heals[j]? = some a) (hg : s.hv.v = .slice (some ⟨g, 0, none⟩) t.heals.length hcap) (hll : a.ends.length ≤ 1000000) :
    Calls Try.prog 51 #[.pointer (some ⟨B, 0, none⟩), .int .i64 who, .pointer (some ⟨g, j * 6, none⟩)] w fun e w' => ∃ lab', e = .returned (.tuple #[]) ∧ Vm w' lab' B s (t.ended who j c a) ∧ Chg 0 w w' lab lab' (fun i => i ≠ 0 ∧ i ≠ 6) := by
  have HEN : Hid (t.ended who j c a = if a.has = false then t else if (endF c a.ep a.recs).1 = 0 then { t.setCopy who (endC c a.ep a.recs) with heals := t.heals.set j { a with ends := putL a.ends who } } else t) := hide rfl
  have HAS : Hid (t.asked who (endC c a.ep a.recs) (endF c a.ep a.recs) = if (endF c a.ep a.recs).1 = 0 then t.setCopy who (endC c a.ep a.recs) else t) := hide rfl
  have hA := below_allocG w (.cells #[.pointer (some ⟨g, j * 6, none⟩)] 77)
  have hY := Blk.new w 77 #[.pointer (some ⟨g, j * 6, none⟩)]
  have hmA := hm.below hA
  have hh := hm.hea
  rw [hg] at hh
  obtain ⟨g', cap', hf, hgv, hgl, hlg, hat, his, _⟩ := hh.here hj
  cases hgv
  obtain ⟨i1, i2, i3, i4, i5, i6⟩ := his
  have c0 := hat 0 _ rfl
  have c3 := hat 3 _ rfl
  have c4 := hat 4 _ rfl
  rw [i1, Nat.add_zero] at c0
  rw [i2] at c3
  have hrl := Rd0.len i5
  have c4' : w.cell? ⟨g, j * 6 + 4, none⟩ = some (.slice hf.re.ao a.recs.length hf.re.c) := by rw [← hrl]; exact c4
  have hrr : RdG txE w (.slice hf.re.ao a.recs.length hf.re.c) a.recs := by rw [← hrl]; exact i5.1
  have HASK := hide (askEnd_any w.heap.size B who s t c (endC c a.ep a.recs) (endF c a.ep a.recs) lab _ hmA hc (endF_z _ _ _) (fun w1 v hb1 hv => cloEnd_any w.heap.size g (j * 6) a.ep hf.re.ao hf.re.c a.recs c v w1 ((hY.later hb1).cell 0) (cell_belowG (cell_belowG c0 hA) hb1) (cell_belowG (cell_belowG c4' hA) hb1) ((hrr.below hA).below hb1) hv))
  have HY := hide hY
  have HMA := hide hmA
  have HCA : Hid (Chg 0 w _ lab lab (fun i => i ≠ 0 ∧ i ≠ 6)) := hide (Chg.below _ hm.ok hA)
  have HLY : Hid (lab w.heap.size = 0) := hide (hm.ok _ (by omega))
  have HJ := hide hj
  have HG := hide hg
  have HBA := hide hA
  clear hm hmA hj hA hY hh hat i3 i4 i5 i6 c0 c4 c4' hrr hrl hg
  cases hha : a.has
  · rw [hha] at c3
    have HE := hide (HEN.out.trans (if_pos hha))
    clear hha
    go_enter Try.func51, Try.ntmps51
    go_wp2_with fail
    refine bodyPost_ret (v := .tuple #[]) (by simp [results, Try.results51]) rfl ?_
    first | exact ⟨lab, rfl, by rw [HE.out]; exact HMA.out, HCA.out⟩ | exact ⟨rfl, lab, by rw [HE.out]; exact HMA.out, HCA.out⟩
  rw [hha] at c3
  have HEN2 := hide (HEN.out.trans (if_neg (by rw [hha]; simp)))
  generalize hRC : endC c a.ep a.recs = RC at *
  generalize hRF : endF c a.ep a.recs = RF at *
  obtain ⟨fx, fy⟩ := RF
  clear hRC hRF hha HEN
  go_enter Try.func51, Try.ntmps51
  go_wp2_with fail
  refine HASK.out.mono ?_
  rintro e w2 ⟨rfl, hm2, hch2⟩
  have HM2 := hide hm2
  have HCH := hide (HCA.out.trans (hch2.mono (fun i h => by omega)))
  by_cases hx : fx = 0
  · have hd : decide (fx = 0) = true := decide_eq_true hx
    have HE := hide (HEN2.out.trans (if_pos hx))
    have HE2 := hide (HAS.out.trans (if_pos hx))
    rw [HE2.out] at hm2
    have hY2 := HY.out.keep hch2 (by rw [HLY.out]; decide)
    have y0 := hY2.cell 0
    have yl := hY2.lt
    obtain ⟨g3, cap3, hgv3, hput⟩ := putEnds (who := (who : Int)) hm2 (show (t.setCopy who RC).heals[j]? = some a from HJ.out) hll
    have hgg := HG.out
    rw [hgv3] at hgg
    cases hgg
    simp at y0
    have HPUT := hide hput
    rw [hd]
    clear hd hx hm2 hch2 hY2 hput hgv3 c3
    go_wp2_with fail
    refine HPUT.out.mono ?_
    rintro e w3 ⟨lab3, rfl, hm3, hch3⟩
    have HM3 := hide hm3
    have HC3 := hide (hch3.mono (fun i (h : i = 4 ∨ i = 11 + 4 * j) => show i ≠ 0 ∧ i ≠ 6 by omega))
    clear hm3 hch3
    go_wp2_with fail
    refine bodyPost_end (v := .tuple #[]) (by simp [results, Try.results51]) rfl ?_
    exact ⟨lab3, rfl, by rw [HE.out]; exact HM3.out, HCH.out.trans HC3.out⟩
  · have hd : decide (fx = 0) = false := decide_eq_false hx
    have HE := hide (HEN2.out.trans (if_neg hx))
    have HE2 := hide (HAS.out.trans (if_neg hx))
    rw [hd]
    clear hd hx hm2 hch2
    go_wp2_with fail
    refine bodyPost_end (v := .tuple #[]) (by simp [results, Try.results51]) rfl ?_
    exact ⟨lab, rfl, by rw [HE.out, ← HE2.out]; exact HM2.out, HCH.out⟩

/-- What a recovery that chooses leaves. -/
def Vt.chose (t : Vt) (j : Nat) (a : Hl) : Vt :=
  if a.has = true then t
  else if (chooseF t.copies.length a.said).1 = 0 then { t with heals := t.heals.set j { a with has := true, recs := choL t.copies.length a.said } } else t

set_option maxRecDepth 100000 in
set_option maxHeartbeats 8000000 in
theorem choose_any (B j g hcap : Nat) (s : Vs) (t : Vt) (a : Hl) (lab : Nat → Nat) (w : World) (hm : Vm w lab B s t) (hj : t.heals[j]? = some a) (hg : s.hv.v = .slice (some ⟨g, 0, none⟩) t.heals.length hcap) :
    Calls Try.prog 50 #[.pointer (some ⟨B, 0, none⟩), .pointer (some ⟨g, j * 6, none⟩)] w fun e w' => ∃ lab', e = .returned (.tuple #[]) ∧ Vm w' lab' B s (t.chose j a) ∧ Chg 0 w w' lab lab' (fun i => i ≠ 0 ∧ i ≠ 6) := by
  have HEN : Hid (t.chose j a = if a.has = true then t else if (chooseF t.copies.length a.said).1 = 0 then { t with heals := t.heals.set j { a with has := true, recs := choL t.copies.length a.said } } else t) := hide rfl
  have HM := hide hm
  have hh := hm.hea
  rw [hg] at hh
  obtain ⟨hs, hrow, hlen, hss⟩ := hh
  have hnl := (List.getElem?_eq_some_iff.1 hj).1
  obtain ⟨hf, hs0⟩ : ∃ x, hs[j]? = some x := ⟨_, List.getElem?_eq_getElem (by omega)⟩
  have his := hss j hf a hs0 hj
  rw [hlen] at hrow
  obtain ⟨b', off', hbo, hgl, hat⟩ := (RdG.ofOwns hrow.1).here hs0
  cases hbo
  rw [Nat.zero_add] at hat
  have hlg : lab g = 4 := hrow.2 g (by simp [Value.ownBlock])
  obtain ⟨i1, i2, i3, i4, i5, i6⟩ := his
  have c2 := hat 2 _ rfl
  have c3 := hat 3 _ rfl
  have c4 := hat 4 _ rfl
  rw [i2] at c3
  have hsn := CopM.len i4
  have hcn := CopM.len hm.cop
  have c2' : w.cell? ⟨g, j * 6 + 2, none⟩ = some (.slice hf.sd.ao a.said.length hf.sd.c) := by rw [← hsn]; exact c2
  have hv0 := hm.blk.cell 0
  have vl := hm.blk.lt
  simp only [Vs.a, List.getElem?_toArray, List.getElem?_cons_zero] at hv0
  have v0 : w.cell? ⟨B, 0, none⟩ = some (.slice s.cv.ao t.copies.length s.cv.c) := by rw [← hcn]; exact hv0
  have hrq : RdQ w (.slice hf.sd.ao a.said.length hf.sd.c) a.said := by rw [← hsn]; exact i4.rd
  have HROW := hide hrow
  have HLEN := hide hlen
  have HSS := hide hss
  have HS0 := hide hs0
  have HJ := hide hj
  have HG := hide hg
  have HLG := hide hlg
  have HI := hide (show HlIs w lab j hf a from ⟨i1, i2, i3, i4, i5, i6⟩)
  have HC4 := hide c4
  have HC3 := hide c3
  clear hm hrow hlen hss hs0 hj hg hlg i3 i4 i5 i6 i1 i2 hat c2 hv0 c4
  cases hha : a.has
  case true =>
    rw [hha] at c3
    have HE := hide (HEN.out.trans (if_pos hha))
    clear hha
    go_enter Try.func50, Try.ntmps50
    go_wp2_with fail
    refine bodyPost_ret (v := .tuple #[]) (by simp [results, Try.results50]) rfl ?_
    first | exact ⟨lab, rfl, by rw [HE.out]; exact HM.out, Chg.refl _ _ _ HM.out.ok⟩ | exact ⟨rfl, lab, by rw [HE.out]; exact HM.out, Chg.refl _ _ _ HM.out.ok⟩
  rw [hha] at c3
  have HEN2 := hide (HEN.out.trans (if_neg (by rw [hha]; simp)))
  have HZ := hide (chooseF_z (n := t.copies.length) (cs := a.said))
  have HCH1 := hide (Choose_any (t.copies.length : Int) _ a.said w.drew (hrq.below (Below.drew (Below.refl _ _))))
  have HBZ : Hid (Below w.heap.size w (w.drew.alloc (.cells #[.int .i64 0, .int .i64 0] 29))) := hide (by go_grown)
  have HCH2 := hide (Choose_any (t.copies.length : Int) _ a.said (w.drew.alloc (.cells #[.int .i64 0, .int .i64 0] 29)) (hrq.below HBZ.out))
  have HZN := hide (Blk.new w.drew 29 #[.int .i64 0, .int .i64 0])
  generalize hCF : chooseF t.copies.length a.said = CF at *
  obtain ⟨fx, fy⟩ := CF
  generalize hCL : choL t.copies.length a.said = CL at *
  have HT1 : Hid (∀ W, Below w.drew.heap.size w.drew W → Below w.heap.size w W) := hide fun W h => ⟨h.os, h.tape, h.output, h.size, h.block⟩
  have HT2 : Hid (∀ W, Below (w.drew.alloc (.cells #[.int .i64 0, .int .i64 0] 29)).heap.size (w.drew.alloc (.cells #[.int .i64 0, .int .i64 0] 29)) W → Below w.heap.size w W) := hide fun W h => HBZ.out.trans (h.mono HBZ.out.size)
  have HZC : Hid (∀ W, Below (w.drew.alloc (.cells #[.int .i64 0, .int .i64 0] 29)).heap.size (w.drew.alloc (.cells #[.int .i64 0, .int .i64 0] 29)) W → Blk W w.heap.size 29 #[.int .i64 0, .int .i64 0] ∧ W.cell? ⟨w.heap.size, 0, none⟩ = some (.int .i64 0) ∧ W.cell? ⟨w.heap.size, 1, none⟩ = some (.int .i64 0) ∧ W.frozen? ⟨w.heap.size, 0, none⟩ = false ∧ W.frozen? ⟨w.heap.size, 1, none⟩ = false ∧ w.heap.size < W.heap.size) := hide fun W h => ⟨HZN.out.later h, (HZN.out.later h).cell 0, (HZN.out.later h).cell 1, (HZN.out.later h).frozen 0, (HZN.out.later h).frozen 1, (HZN.out.later h).lt⟩
  have HKEEP : Hid (∀ W, Below w.heap.size w W → W.cell? ⟨B, 0, none⟩ = some (.slice s.cv.ao t.copies.length s.cv.c) ∧ W.cell? ⟨g, j * 6 + 2, none⟩ = some (.slice hf.sd.ao a.said.length hf.sd.c)) := hide fun W hW => ⟨(hW.cell (p := ⟨B, 0, none⟩) vl).trans v0, (hW.cell (p := ⟨g, j * 6 + 2, none⟩) hgl).trans c2'⟩
  clear hha HEN hrq hCF hCL
  unfold flt at HCH1 HCH2
  go_enter Try.func50, Try.ntmps50
  go_wp2_with fail
  go_cut [4, 5] (fun rv p wc => ∃ (Z : Nat) (so : Option Addr) (sc : Nat), rv = .slice so CL.length sc ∧ p = .pointer (some ⟨Z, 0, none⟩) ∧ Blk wc Z 29 #[.int .i64 fx, .int .i64 fy] ∧ wc.ownsRow w.heap.size 9 1 (.slice so CL.length sc) CL.length (txE.vs CL) ∧ Below w.heap.size w wc ∧ w.heap.size ≤ Z)
  case first =>
    go_region_held3 (fun W => W.cell? ⟨B, 0, none⟩ = some (.slice s.cv.ao t.copies.length s.cv.c) ∧ W.cell? ⟨g, j * 6 + 2, none⟩ = some (.slice hf.sd.ao a.said.length hf.sd.c)) (exact HKEEP.out _ (by go_grown)) (first
      | (go_at_call 18; refine HCH1.out.mono ?_; rintro e w1 ⟨v1, rfl, ho1, hb1⟩; obtain ⟨ao1, cap1, rfl⟩ := owns_shape ho1; have hbA := HT1.out _ hb1; have hsA := hbA.size; clear hb1)
      | (go_at_call 18; refine HCH2.out.mono ?_; rintro e w1 ⟨v1, rfl, ho1, hb1⟩; obtain ⟨ao1, cap1, rfl⟩ := owns_shape ho1; obtain ⟨zb, z0, z1, zf0, zf1, zl⟩ := HZC.out _ hb1; have hbA := HT2.out _ hb1; have hsA := hbA.size; clear hb1))
    · go_wp2_with fail
      go_meet
      case rel => exact ⟨_, _, _, rfl, rfl, Blk.new w1 _ _, ho1.alloc _, hbA.trans ((below_allocG w1 _).mono hsA), hsA⟩
    · have hz2 := zb.two0s (x := .int .i64 fx) (y := .int .i64 fy)
      have ho2 := owns_base0 (b2 := w.heap.size) (owns_setOther (owns_setOther ho1 (p := ⟨w.heap.size, 0, none⟩) (owns_off ho1 zb (by decide)) (.int .i64 fx)) (p := ⟨w.heap.size, 1, none⟩) (owns_off ho1 zb (by decide)) (.int .i64 fy)) HBZ.out.size
      have hb2 : Below w.heap.size w ((w1.setCell ⟨w.heap.size, 0, none⟩ (.int .i64 fx)).setCell ⟨w.heap.size, 1, none⟩ (.int .i64 fy)) := below_grownO (below_grownO hbA (grown_setCell w1 w.heap.size 0 _) (fun k hk => by cases hk; omega) hsA) (grown_setCell _ w.heap.size 1 _) (fun k hk => by cases hk; omega) (by simp; omega)
      go_wp2_with fail
      go_meet
      case rel => exact ⟨_, _, _, rfl, rfl, hz2, ho2, hb2, Nat.le_refl _⟩
  case rest =>
  obtain ⟨Z, so, sc, rfl, rfl, hZ, hown, hbc, hZw⟩ := hcut
  have z0 := hZ.cell 0
  have z1 := hZ.cell 1
  have zl := hZ.lt
  simp at z0 z1
  have HOWN := hide hown
  have HBC := hide hbc
  clear hZ hown v0 c2' c3
  by_cases hx : fx = 0
  · have HE := hide (HEN2.out.trans (if_pos hx))
    subst hx
    obtain rfl : fy = 0 := by have := HZ.out rfl; simpa using this
    have q3 := cell_belowG HC3.out hbc
    have q4 := cell_belowG HC4.out hbc
    have hrow2 := owns_below HROW.out.1 hbc
    obtain ⟨cur, hblk, _⟩ := blk_of_row hrow2
    have y3 := hblk.frozen (j * 6 + 3)
    have y4 := hblk.frozen (j * 6 + 4)
    have gl2 := hblk.lt
    have h1 := owns_setField (c' := { hf with has := true }) (k := 3) (u := .bool true) hrow2 HS0.out (by decide) rfl
    have hs1 : (hs.set j { hf with has := true })[j]? = some { hf with has := true } := by
      rw [List.getElem?_set, if_pos rfl, if_pos (List.getElem?_eq_some_iff.1 HS0.out).1]
    have h2 := owns_setField (c' := { hf with has := true, re := ⟨so, CL.length, sc⟩ }) (k := 4) (u := .slice so CL.length sc) h1 hs1 (by decide) rfl
    rw [List.set_set] at h2
    have hc1 : Chg 0 w wc lab lab (fun i => i = 4) := Chg.below _ HM.out.ok hbc
    have hc2 : Chg 0 wc (wc.setCell ⟨g, j * 6 + 3, none⟩ (.bool true)) lab lab (fun i => i = 4) := Chg.grown hc1.ok (grown_setCell wc g _ _) HLG.out
    have hc3 : Chg 0 (wc.setCell ⟨g, j * 6 + 3, none⟩ (.bool true)) ((wc.setCell ⟨g, j * 6 + 3, none⟩ (.bool true)).setCell ⟨g, j * 6 + 4, none⟩ (.slice so CL.length sc)) lab lab (fun i => i = 4) := Chg.grown hc2.ok (grown_setCell _ g _ _) HLG.out
    have hc4 := (hc1.trans hc2).trans hc3
    have hnew : Rd0 0 txE wc lab (.slice so CL.length sc) CL := Rd0.new HM.out.ok HOWN.out (Nat.le_refl _)
    obtain ⟨i1, i2, i3, i4, i5, i6⟩ := HI.out
    have hHl := HlM.set (hl := t.heals) (a' := { a with has := true, recs := CL }) (h' := { hf with has := true, re := ⟨so, CL.length, sc⟩ }) HLEN.out HSS.out (by rw [HLEN.out]; exact ⟨h2, fun b hb => by simp only [Value.ownBlock, Option.some.injEq] at hb; subst hb; exact HLG.out⟩) hc4 (by decide) (fun i _ => ⟨by omega, by omega, by omega⟩) ⟨i1, rfl, i3.keep hc4 (by omega), i4.keep hc4 (by decide) (by omega), hnew.keep (hc2.trans hc3) (by decide), i6.keep hc4 (by omega)⟩
    have HVM := hide (show Vm _ lab B s { t with heals := t.heals.set j { a with has := true, recs := CL } } from ⟨HM.out.blk.keep hc4 (by rw [HM.out.lb]; decide), HM.out.lb, HM.out.cop.keep hc4 (by decide) (by decide), HM.out.wro.keep hc4 (by decide), HM.out.tok.keep hc4 (by decide) (fun i => by omega), by rw [HG.out]; exact hHl, HM.out.lef.keep hc4 (by decide), hc4.ok⟩)
    have HC4x := hide (hc4.mono (fun i (h : i = 4) => show i ≠ 0 ∧ i ≠ 6 by omega))
    clear hrow2 hblk h1 h2 hs1 hc1 hc2 hc3 hc4 hnew i1 i2 i3 i4 i5 i6 hHl hbc
    go_wp2_with fail
    refine bodyPost_end (v := .tuple #[]) (by simp [results, Try.results50]) rfl ?_
    first | exact ⟨lab, rfl, by rw [HE.out]; exact HVM.out, HC4x.out⟩ | exact ⟨rfl, lab, by rw [HE.out]; exact HVM.out, HC4x.out⟩
  · have HE := hide (HEN2.out.trans (if_neg hx))
    have hq : (fx == 0) = false := beq_eq_false_iff_ne.2 hx
    have hq2 : (fx != 0) = true := by simp [hx]
    clear hx hbc
    go_wp2_with fail
    refine bodyPost_end (v := .tuple #[]) (by simp [results, Try.results50]) rfl ?_
    first | exact ⟨lab, rfl, by rw [HE.out]; exact HM.out.below HBC.out, Chg.below _ HM.out.ok HBC.out⟩ | exact ⟨rfl, lab, by rw [HE.out]; exact HM.out.below HBC.out, Chg.below _ HM.out.ok HBC.out⟩

end Go.Proofs.Ytopnjklloleomaa

/-
  A row that grows, and the place that names it; the walks over the vault's writeCode and write.
-/
namespace Go.Proofs.Ytopnjklloleomaa
open Go.RowKit
set_option linter.unusedVariables false

theorem grow_store {w A w5 : World} {lab : Nat → Nat} {C i m k n : Nat} {t e : TypeId} {K : Nat} {arr : Array Value} {v v5 : Value} {xs : List Value} (hok : LbOk 0 w lab) (hA : Below w.heap.size w A) (hv : ∀ g, v.ownBlock = some g → lab g = i)
    (hC : Blk w C t arr) (hm : lab C = m) (him : i ≠ m) (hg : A.grownBy w5 v.ownBlock) (hat : OnAt A v v5) (ho : w5.ownsRow 0 e K v5 n xs) :
    Chg 0 w (w5.setCell ⟨C, k, none⟩ v5) lab (labTo lab v5.ownBlock i) (fun j => j = i ∨ j = m) ∧ Blk (w5.setCell ⟨C, k, none⟩ v5) C t (arr.setIfInBounds k v5) ∧ Row (w5.setCell ⟨C, k, none⟩ v5) (labTo lab v5.ownBlock i) i e K v5 n xs ∧ labTo lab v5.ownBlock i C = m ∧ Blk w5 C t arr := by
  have hc1 : Chg 0 w A lab lab (fun j => j = i) := Chg.below _ hok hA
  have hc2 : Chg 0 A w5 lab (labTo lab v5.ownBlock i) (fun j => j = i) := Chg.row hc1.ok hv hg rfl hat (ownBlock_lt ho)
  have hc := hc1.trans hc2
  have hlC : labTo lab v5.ownBlock i C = m := (hc.labs C hC.lt).trans hm
  have hC5 : Blk w5 C t arr := hC.keep hc (by rw [hm]; exact fun q => him q.symm)
  have hc3 : Chg 0 w5 (w5.setCell ⟨C, k, none⟩ v5) (labTo lab v5.ownBlock i) (labTo lab v5.ownBlock i) (fun j => j = m) := Chg.grown hc.ok (grown_setCell w5 C k v5) hlC
  have hne : v5.ownBlock ≠ some C := by
    intro q
    have : labTo lab v5.ownBlock i C = i := by unfold labTo; rw [if_pos q]
    exact him (this.symm.trans hlC)
  exact ⟨(hc.mono (fun j h => .inl h)).trans (hc3.mono (fun j h => .inr h)), hC5.set k v5, Row.grew (owns_setOther ho (p := ⟨C, k, none⟩) hne v5), hlC, hC5⟩

set_option maxRecDepth 100000 in
theorem writeCode_any (B : Nat) (s : Vs) (t : Vt) (lab : Nat → Nat) (w : World) (hm : Vm w lab B s t) :
    Calls Try.prog 52 #[.pointer (some ⟨B, 0, none⟩)] w fun e w' => e = .returned (.int .i64 (if t.left.length = 0 then 6 else 0)) ∧ w' = w := by
  have v4 := hm.blk.cell 4
  have vl := hm.blk.lt
  simp only [Vs.a, List.getElem?_toArray, List.getElem?_cons_zero, List.getElem?_cons_succ] at v4
  have hn := Rd0.len hm.lef
  unfold Sl.v at v4
  rw [hn] at v4
  clear hm hn
  by_cases h : t.left.length = 0
  · rw [if_pos h]
    have hq : ((t.left.length : Int) == 0) = true := by simp [h]
    generalize t.left.length = N at *
    clear h
    go_enter Try.func52, Try.ntmps52
    go_wp2_with fail
    go_ret
    exact ⟨rfl, rfl⟩
  · rw [if_neg h]
    have hq : ((t.left.length : Int) == 0) = false := beq_eq_false_iff_ne.2 (by omega)
    generalize t.left.length = N at *
    clear h
    go_enter Try.func52, Try.ntmps52
    go_wp2_with fail
    go_ret
    exact ⟨rfl, rfl⟩

theorem infoInts : (Try.prog.info? 53).map (fun i => (i.zero, i.size, i.bytes)) = some (some (.slice none 0 0), 1, 24) := by kernel_rfl

/-- A vault is left, behind whatever was done. -/
def VmTo (w : World) (lab : Nat → Nat) (B : Nat) (t : Vt) (w' : World) : Prop := ∃ lab' s', Vm w' lab' B s' t ∧ Chg 0 w w' lab lab' (fun i => i ≠ 0 ∧ i ≠ 6)

/-- The vault behind a write. -/
def Vt.written (t : Vt) (r : ByteArray) (rest : List ByteArray) : Vt := { t with wrote := t.wrote ++ [r], took := t.took ++ [[]], left := rest }

theorem TkM.snoc {w w' : World} {lab lab' : Nat → Nat} {S : Nat → Prop} {v : Value} {ss : List Sl} {ls : List (List Int)} (h2 : ss.length = ls.length) (h3 : ∀ (j : Nat) s l, ss[j]? = some s → ls[j]? = some l → Row w lab (8 + 4 * j) 3 1 s.v l.length (iE.vs l))
    (hrow : Row w' lab' 3 53 1 v (ss.length + 1) (ssE.vs (ss ++ [⟨none, 0, 0⟩]))) (hc : Chg 0 w w' lab lab' S) (hS : ∀ i, ¬ S (8 + 4 * i)) : TkM w' lab' v (ls ++ [[]]) := by
  refine ⟨ss ++ [⟨none, 0, 0⟩], by rw [List.length_append]; exact hrow, by simp [h2], fun i s l hs hl => ?_⟩
  by_cases hi : i < ss.length
  · rw [List.getElem?_append_left hi] at hs
    rw [List.getElem?_append_left (by omega)] at hl
    exact (h3 i s l hs hl).keep hc (hS i)
  · have hl2 := (List.getElem?_eq_some_iff.1 hs).1
    simp at hl2
    obtain rfl : i = ss.length := by omega
    rw [List.getElem?_append_right (Nat.le_refl _), Nat.sub_self] at hs
    rw [h2, List.getElem?_append_right (Nat.le_refl _), Nat.sub_self] at hl
    simp at hs hl
    subst hs hl
    exact ⟨World.ownsRow_nil _ _ _ _, fun g hg => by simp [Sl.v, Value.ownBlock] at hg⟩

set_option maxRecDepth 100000 in
set_option maxHeartbeats 8000000 in
theorem write_any (B : Nat) (s : Vs) (t : Vt) (r : ByteArray) (rest : List ByteArray) (lab : Nat → Nat) (w : World) (hm : Vm w lab B s t) (hr : t.left = r :: rest) (hw : t.wrote.length ≤ 1000000) (ht : t.took.length ≤ 1000000) :
    Calls Try.prog 47 #[.pointer (some ⟨B, 0, none⟩)] w fun e w' => e = .returned (.tuple #[]) ∧ VmTo w lab B (t.written r rest) w' := by
  have HM := hide hm
  have hln := Rd0.len hm.lef
  have hl0 : t.left[0]? = some r := by rw [hr]; rfl
  have hrd : RdG txE w (.slice s.lv.ao t.left.length s.lv.c) t.left := by rw [← hln]; exact hm.lef.1
  obtain ⟨lb, lo, hlao, hlbl, l0⟩ := hrd.hereT hl0
  have hwn := Row.len hm.wro
  have v1 := hm.blk.cell 1
  have v4 := hm.blk.cell 4
  have z1 := hm.blk.frozen 1
  have vl := hm.blk.lt
  simp only [Vs.a, List.getElem?_toArray, List.getElem?_cons_zero, List.getElem?_cons_succ] at v1 v4
  unfold Sl.v at v1 v4
  rw [hwn] at v1
  rw [hln, hlao] at v4
  rw [Nat.add_zero] at l0
  have hA : Below w.heap.size w (w.drew.alloc (.cells #[.string r] 9)) := by go_grown
  have HA := hide hA
  have hown : (w.drew.alloc (.cells #[.string r] 9)).ownsRow 0 9 1 (.slice s.wv.ao t.wrote.length s.wv.c) t.wrote.length (txE.vs t.wrote) := by
    have := hm.wro.1
    unfold Sl.v at this
    rw [hwn] at this
    exact owns_below this hA
  have HOWN := hide hown
  have hnew : RdG txE (w.drew.alloc (.cells #[.string r] 9)) (.slice (some ⟨w.heap.size, 0, none⟩) 1 1) [r] := RdG.newL (E := txE) w.drew [r] 9 #[.string r] rfl (by simp)
  have HNEW := hide hnew
  have h63 : t.wrote.length + [r].length ≤ 1000000000 := by simp; omega
  have HLW : Hid (∀ g, (Value.slice s.wv.ao t.wrote.length s.wv.c).ownBlock = some g → lab g = 1) := hide (by
    have := hm.wro.2
    unfold Sl.v at this
    rw [hwn] at this
    exact this)
  have hi0n : 0 < t.left.length := by rw [hr]; simp
  have hi0 : (0 : Int) < (t.left.length : Int) := by omega
  have HR := hide hr
  have HB := hide hm.blk
  clear hm hrd hown hnew hA hr hl0
  go_enter Try.func47, Try.ntmps47
  go_wp2_with fail
  go_cut [15] (fun _ wc => ∃ lab1 s1, Vm wc lab1 B s1 { t with wrote := t.wrote ++ [r] } ∧ s1.lv = s.lv ∧ Chg 0 w wc lab lab1 (fun i => i ≠ 0 ∧ i ≠ 6))
  case first =>
    go_region_law (refine step_append_rdAt (E := txE) (cs := t.wrote) (by exact HOWN.out) (by exact HNEW.out) Try.underlying22 infoText rfl (by rfl) (by rfl) (by rfl) (by rfl) h63 (by decide) (Nat.zero_le _) ?_; intro v5 w5 ho5 hg5 hat5; rw [List.length_singleton] at ho5; obtain ⟨ao5, cap5, hv5⟩ := owns_shapeK ho5; subst hv5; obtain ⟨hc5, hB5, hR5, hl5, hb5⟩ := grow_store (k := 1) HM.out.ok HA.out HLW.out HB.out HM.out.lb (by decide) hg5 hat5 ho5; have k0 := hb5.cell 1; have k1 := hb5.frozen 1; have k2 := hb5.lt; simp only [Vs.a, List.getElem?_toArray, List.getElem?_cons_zero, List.getElem?_cons_succ] at k0)
    all_goals
      have hm1 : Vm (w5.setCell ⟨B, 1, none⟩ (.slice ao5 (t.wrote.length + 1) cap5)) (labTo lab (Value.slice ao5 (t.wrote.length + 1) cap5).ownBlock 1) B { s with wv := ⟨ao5, t.wrote.length + 1, cap5⟩ } { t with wrote := t.wrote ++ [r] } :=
        ⟨by simpa [Vs.a, Sl.v] using hB5, hl5, HM.out.cop.keep hc5 (by omega) (by omega), by rw [List.length_append, List.length_singleton]; exact hR5, HM.out.tok.keep hc5 (by omega) (fun j => by omega), HM.out.hea.keep hc5 (by omega) (by omega) (fun j => ⟨by omega, by omega, by omega⟩), HM.out.lef.keep hc5 (by omega), hc5.ok⟩
      have HC5 := hide (hc5.mono (fun i (h : i = 1 ∨ i = 5) => show i ≠ 0 ∧ i ≠ 6 by omega))
      clear k0 k1 k2 hb5 hR5 hB5 hc5 hl5 ho5 hg5 hat5 v1 v4 z1 vl l0 hlbl
      have HM1 := hide hm1
      clear hm1
      go_wp2_with fail
      go_meet
      case rel => exact ⟨_, _, HM1.out, rfl, HC5.out⟩
  case rest =>
  obtain ⟨lab1, s1, hm1, hlv, hC5⟩ := hcut
  have HC5 := hide hC5
  clear hC5 v1 v4 z1 vl l0 hlbl
  generalize hW1 : wc = W1 at *
  clear hW1
  obtain ⟨ss, hrow, hlen, hss⟩ := hm1.tok
  have htn := Row.len hrow
  have v2 := hm1.blk.cell 2
  have v4 := hm1.blk.cell 4
  have vl := hm1.blk.lt
  simp only [Vs.a, List.getElem?_toArray, List.getElem?_cons_zero, List.getElem?_cons_succ] at v2 v4
  unfold Sl.v at v2 v4 hrow
  rw [htn] at v2 hrow
  rw [hlv, hln, hlao] at v4
  have HA1 := hide (below_allocG W1 (.cells #[.slice none 0 0] 53))
  have HOW := hide (owns_below hrow.1 HA1.out)
  have HNW := hide (RdG.newL (E := ssE) W1 [⟨none, 0, 0⟩] 53 #[.slice none 0 0] rfl (by simp))
  have h64 : ss.length + ([⟨none, 0, 0⟩] : List Sl).length ≤ 1000000000 := by rw [hlen]; simp; omega
  have hsl := run_slice_fromK (K := 1) (P := Try.prog) Try.underlying22 (by kernel_rfl) infoText (some ⟨lb, lo, none⟩) t.left.length s.lv.c 1 (1 : Int) rfl hi0n
  obtain ⟨x2, hx2⟩ : ∃ x, Go.sliced (some ⟨lb, lo, none⟩) 1 t.left.length s.lv.c 1 = x := ⟨_, rfl⟩
  have hrest : RdG txE W1 (Go.sliced (some ⟨lb, lo, none⟩) 1 t.left.length s.lv.c 1) (t.left.drop 1) := by
    have := hm1.lef.1
    unfold Sl.v at this
    rw [hlv, hln, hlao] at this
    exact this.from hi0n
  have hlab : t.left.drop 1 ≠ [] → lab1 lb = 0 := fun _ => by
    have := hm1.lef.2
    unfold Sl.v at this
    rw [hlv, hln, hlao] at this
    exact this _ _ _ rfl (by intro q; rw [q] at hi0n; simp at hi0n)
  have hblkx : ∀ a n c, Go.sliced (some ⟨lb, lo, none⟩) 1 t.left.length s.lv.c 1 = .slice (some a) n c → a.block = lb := by
    intro a n c h
    unfold Go.sliced at h
    simp only [Value.slice.injEq] at h
    have h1 := h.1
    split at h1
    · cases h1; rfl
    · simp only [Option.map_some, Option.some.injEq] at h1
      rw [← h1]
      unfold Addr.add
      split <;> rfl
  rw [hx2] at hsl hrest hblkx
  obtain ⟨y2, c2, hy2, _, _⟩ := hrest.shape
  subst hy2
  have HRS := hide (show Rd0 0 txE W1 lab1 (.slice y2 (t.left.drop 1).length c2) (t.left.drop 1) from ⟨hrest, fun a n c hv hne => by rw [hblkx a n c hv]; exact hlab hne⟩)
  have HDR : Hid (t.left.drop 1 = rest) := hide (by rw [HR.out]; rfl)
  have HLV := hide (show s1.lv.v = .slice (some ⟨lb, lo, none⟩) t.left.length s.lv.c by unfold Sl.v; rw [hlv, hln, hlao])
  have HM1 := hide hm1
  have HLT : Hid (∀ g, (Value.slice s1.tv.ao ss.length s1.tv.c).ownBlock = some g → lab1 g = 3) := hide hrow.2
  have HLN := hide hlen
  have HSS := hide hss
  generalize hDL : (t.left.drop 1).length = DL at *
  clear hrest hlab hblkx hx2 hm1 hrow hlen hss hDL hln hlao hwn
  go_wp2_with (at_builtin; go_must (refine wpList_append_rdAt (E := ssE) (cs := ss) HOW.out HNW.out Try.underlying42 infoInts rfl rfl rfl rfl rfl h64 (by decide) (Nat.zero_le _) ?_); intro v7 w7 ho7 hg7 hat7; rw [List.length_singleton] at ho7; obtain ⟨ao7, cap7, hv7⟩ := owns_shapeK ho7; subst hv7; obtain ⟨hc7, hB7, hR7, hl7, hb7⟩ := grow_store (k := 2) HM1.out.ok HA1.out HLT.out HM1.out.blk HM1.out.lb (by decide) hg7 hat7 ho7; have k2 := hb7.cell 2; have k4 := hb7.cell 4; have f2 := hb7.frozen 2; have f4 := hb7.frozen 4; have kl := hb7.lt; simp only [Vs.a, List.getElem?_toArray, List.getElem?_cons_zero, List.getElem?_cons_succ] at k2 k4; rw [HLV.out] at k4)
  have hc8 : Chg 0 (w7.setCell ⟨B, 2, none⟩ (.slice ao7 (ss.length + 1) cap7)) ((w7.setCell ⟨B, 2, none⟩ (.slice ao7 (ss.length + 1) cap7)).setCell ⟨B, 4, none⟩ (.slice y2 DL c2)) (labTo lab1 (Value.slice ao7 (ss.length + 1) cap7).ownBlock 3) (labTo lab1 (Value.slice ao7 (ss.length + 1) cap7).ownBlock 3) (fun i => i = 5) := Chg.grown hc7.ok (grown_setCell _ B 4 _) hl7
  have hc9 := hc7.trans (hc8.mono (fun i (h : i = 5) => show i = 3 ∨ i = 5 by omega))
  have htk := TkM.snoc HLN.out HSS.out (hR7.keep hc8 (by decide)) hc9 (fun i => by omega)
  have HV2 := hide (show Vm ((w7.setCell ⟨B, 2, none⟩ (.slice ao7 (ss.length + 1) cap7)).setCell ⟨B, 4, none⟩ (.slice y2 DL c2)) (labTo lab1 (Value.slice ao7 (ss.length + 1) cap7).ownBlock 3) B { s1 with tv := ⟨ao7, ss.length + 1, cap7⟩, lv := ⟨y2, DL, c2⟩ } (t.written r rest) from
    ⟨by simpa [Vs.a, Sl.v] using hB7.set 4 (.slice y2 DL c2), hl7, HM1.out.cop.keep hc9 (by omega) (by omega), HM1.out.wro.keep hc9 (by omega), htk, HM1.out.hea.keep hc9 (by omega) (by omega) (fun j => ⟨by omega, by omega, by omega⟩), by
      have := HRS.out.keep hc9 (by omega)
      rw [HDR.out] at this
      exact this, hc9.ok⟩)
  have HC9 := hide (HC5.out.trans (hc9.mono (fun i (h : i = 3 ∨ i = 5) => show i ≠ 0 ∧ i ≠ 6 by omega)))
  clear hc8 hc9 htk hc7 hB7 hR7 hl7 hb7 k2 k4 f2 f4 kl ho7 hg7 hat7 v2 v4 vl
  go_wp2_with fail
  refine bodyPost_end (v := .tuple #[]) (by simp [results, Try.results47]) rfl ?_
  exact ⟨rfl, _, _, HV2.out, HC9.out⟩

end Go.Proofs.Ytopnjklloleomaa

/-
  A region that draws its order, loads a block and stores into it at its end: what is loaded may be taken first, as the store waits for it. Nothing of a program stands here.
-/
namespace Go.Proofs.Ytopnjklloleomaa
open Go.RowKit

section
variable {P : Program} {ops : Array Oper} {Q : Exit → Act → World → Prop} {md : Region.Mode} {S : World → Prop} {s : Nat}

/-- Whatever order: S holds behind each operation until number s has come up. -/
def AnyX (P : Program) (md : Region.Mode) (ops : Array Oper) (Q : Exit → Act → World → Prop) (S : World → Prop) (s : Nat) : Nat → Array Bool → Act → World → Prop
  | 0, done, a, w => Region.ready md ops done = [] ∧ Q .normal a w
  | n + 1, done, a, w => (Region.ready md ops done = [] → Q .normal a w) ∧
    ∀ j ∈ Region.ready md ops done, wpOp P ops Q j (fun b v => ((done.setIfInBounds j true).getD s false = false → S v) ∧ AnyX P md ops Q S s n (done.setIfInBounds j true) b v) a w

theorem AnyX.any : ∀ (n : Nat) (done : Array Bool) (a : Act) (w : World), AnyX P md ops Q S s n done a w → wpAny P md ops Q n done a w
  | 0, _, _, _, h => h
  | n + 1, _, _, _, h => ⟨h.1, fun j hj => wpOp_mono (fun b v k => AnyX.any n _ b v k.2) (h.2 j hj)⟩

/-- Number s waits for number i. -/
def aheadX (md : Region.Mode) (ops : Array Oper) (s i : Nat) : Bool :=
  !(s == i) && ((ops[s]?).map fun o => o.after.any fun e => Region.binds md e && e.on == i).getD false

theorem aheadX_spec {i : Nat} {o : Oper} (h : aheadX md ops s i = true) (hj : ops[s]? = some o) : ∃ e ∈ o.after, Region.binds md e = true ∧ e.on = i := by
  unfold aheadX at h
  rw [Bool.and_eq_true, hj] at h
  have h1 := h.2
  simp only [Option.map_some, Option.getD_some, Array.any_eq_true'] at h1
  obtain ⟨e, he, h2⟩ := h1
  rw [Bool.and_eq_true, beq_iff_eq] at h2
  exact ⟨e, he, h2⟩

/-- What yields may be taken first: a load (ld) while number s waits for it, and what yields in whatever world. -/
theorem AnyX.first {i : Nat} {o : Oper} {v : Value} (ld : Bool) (hi : ops[i]? = some o) (hs : Region.noSelect ops = true) (hQ : ∀ c a w, Q (.panic c) (a.put o.dst v) w → Q (.panic c) a w) (hne : i ≠ s) (hx : ld = true → aheadX md ops s i = true) :
    ∀ (n : Nat) (done : Array Bool) (a : Act) (w : World), (∀ j p, ops[j]? = some p → j ≠ i → done.getD j true = false → (∀ e ∈ p.after, Region.binds md e = true → e.on ≠ i) → o.apart ops p = true) →
      i ∈ Region.ready md ops done → YieldsIf P ops (fun w => ld = true → S w) o v a → (done.getD s false = false → S w) → (ld = true → done.getD s false = false) → AnyX P md ops Q S s n (done.setIfInBounds i true) (a.put o.dst v) w → AnyX P md ops Q S s (n + 1) done a w := by
  have hs' := Region.noSelect_spec hs
  intro n
  induction n with
  | zero =>
    intro done a w _ hr hy hS hT H
    refine ⟨fun h => (by rw [h] at hr; cases hr), fun j hj => ?_⟩
    by_cases hji : j = i
    · subst hji
      exact hy.wpOp hi (fun hl => hS (hT hl)) ⟨fun h => hS (by rwa [getD_set_ne false hne] at h), H⟩
    · have h1 := ready_mono hj hji
      rw [H.1] at h1
      cases h1
  | succ n ih =>
    intro done a w hfree hr hy hS hT H
    refine ⟨fun h => (by rw [h] at hr; cases hr), fun j hj => ?_⟩
    by_cases hji : j = i
    · subst hji
      exact hy.wpOp hi (fun hl => hS (hT hl)) ⟨fun h => hS (by rwa [getD_set_ne false hne] at h), H⟩
    · have h1 := H.2 j (ready_mono hj hji)
      obtain ⟨hjun, p, hp, hall⟩ := mem_ready.1 hj
      have hnot : ∀ e ∈ p.after, Region.binds md e = true → e.on ≠ i := fun e he hb heq => by
        have h2 := hall e he hb
        have h0 := (mem_ready.1 hr).1
        rw [heq] at h2
        rcases Nat.lt_or_ge i done.size with h' | h'
        · simp [h'] at h0 h2
          rw [h0] at h2
          cases h2
        · simp [Array.getElem?_eq_none h'] at h2
      have hT' : ld = true → (done.setIfInBounds j true).getD s false = false := fun hl => by
        have hjs : j ≠ s := fun e => by
          subst e
          obtain ⟨e, he, hb, heq⟩ := aheadX_spec (hx hl) hp
          exact hnot e he hb heq
        rw [getD_set_ne false hjs]
        exact hT hl
      have h2 := wpOp_putIf hp (hfree j p hp hji hjun hnot) (fun cs b => hs' i o cs b hi) (fun cs b => hs' j p cs b hp) hQ hy h1
      have hsame : ((done.setIfInBounds i true).setIfInBounds j true).getD s false = (done.setIfInBounds j true).getD s false := by
        rw [Array.setIfInBounds_comm _ _ (Ne.symm hji), getD_set_ne false hne]
      refine wpOp_mono (fun b u h3 => ⟨fun h => h3.2.1 (by rw [hsame]; exact h), ih (done.setIfInBounds j true) b u (fun k q hk hki hun hno => hfree k q hk hki ?_ hno) (ready_mono hr (Ne.symm hji)) h3.1 (fun h => h3.2.1 (by rw [hsame]; exact h)) hT' ?_⟩) h2
      · by_cases hjk : j = k
        · subst hjk
          exact hjun
        · rw [getD_set_ne true hjk] at hun
          exact hun
      · rw [Array.setIfInBounds_comm _ _ hji]
        exact h3.2.2

/-- Number i, a load, is taken first. -/
theorem AnyX.takeL {i : Nat} {o : Oper} {v : Value} {n : Nat} {done : Array Bool} {a : Act} {w : World} (hi : ops[i]? = some o) (hs : Region.noSelect ops = true) (hf : Region.free md ops done i = true) (hr : (Region.ready md ops done).contains i = true) (hx : aheadX md ops s i = true) (hd : done.getD s false = false)
    (hQ : ∀ c a w, Q (.panic c) (a.put o.dst v) w → Q (.panic c) a w) (hw : Region.wanted o (yielded ops a.tmps) = true) (hy : ∀ w, S w → (execOp a.eval o).run P w = .ok (.value v) w) (hS : S w)
    (h : AnyX P md ops Q S s n (done.setIfInBounds i true) (a.put o.dst v) w) : AnyX P md ops Q S s (n + 1) done a w :=
  AnyX.first true hi hs hQ (fun e => by unfold aheadX at hx; rw [e] at hx; simp at hx) (fun _ => hx) n done a w (Region.free_spec hi hf) (by simpa using hr) (.inl ⟨hw, fun w h => hy w (h rfl)⟩) (fun _ => hS) (fun _ => hd) h

/-- Number i, which yields in whatever world, is taken first. -/
theorem AnyX.takeP {i : Nat} {o : Oper} {v : Value} {n : Nat} {done : Array Bool} {a : Act} {w : World} (hi : ops[i]? = some o) (hs : Region.noSelect ops = true) (hf : Region.free md ops done i = true) (hr : (Region.ready md ops done).contains i = true) (hn : (i == s) = false)
    (hQ : ∀ c a w, Q (.panic c) (a.put o.dst v) w → Q (.panic c) a w) (hw : Region.wanted o (yielded ops a.tmps) = true) (hy : ∀ w, (execOp a.eval o).run P w = .ok (.value v) w) (hS : S w)
    (h : AnyX P md ops Q S s n (done.setIfInBounds i true) (a.put o.dst v) w) : AnyX P md ops Q S s (n + 1) done a w :=
  AnyX.first false hi hs hQ (by simpa using hn) (fun h => by cases h) n done a w (Region.free_spec hi hf) (by simpa using hr) (.inl ⟨hw, fun w _ => hy w⟩) (fun _ => hS) (fun h => by cases h) h

/-- Each of the numbers rs comes up next. -/
def NextX (P : Program) (md : Region.Mode) (ops : Array Oper) (Q : Exit → Act → World → Prop) (S : World → Prop) (s n : Nat) (done : Array Bool) (a : Act) (w : World) (rs : List Nat) : Prop :=
  ∀ j ∈ rs, wpOp P ops Q j (fun b v => ((done.setIfInBounds j true).getD s false = false → S v) ∧ AnyX P md ops Q S s n (done.setIfInBounds j true) b v) a w

theorem NextX.nil {n : Nat} {done : Array Bool} {a : Act} {w : World} : NextX P md ops Q S s n done a w [] := fun _ h => by cases h

theorem NextX.cons {n i : Nat} {o : Oper} {done : Array Bool} {a : Act} {w : World} {rs : List Nat} (ho : ops[i]? = some o)
    (h : ∀ K : Act → World → Prop, Shut (∀ b v, ((done.setIfInBounds i true).getD s false = false → S v) → AnyX P md ops Q S s n (done.setIfInBounds i true) b v → K b v) → if Region.wanted o (yielded ops a.tmps) = true then Oper.wp P o a w K Q else K (a.put o.dst undef) w)
    (hs : NextX P md ops Q S s n done a w rs) : NextX P md ops Q S s n done a w (i :: rs) := fun j hj => by
  rcases List.mem_cons.1 hj with rfl | hj
  · exact wpOp_step ho (fun K hK => h K (fun b v h1 h2 => hK b v ⟨h1, h2⟩))
  · exact hs j hj

theorem AnyX.next {rs : List Nat} {n : Nat} {done : Array Bool} {a : Act} {w : World} (hr : Region.ready md ops done = rs) (hne : rs ≠ []) (h : NextX P md ops Q S s n done a w rs) : AnyX P md ops Q S s (n + 1) done a w :=
  ⟨fun h0 => absurd (hr ▸ h0) hne, hr ▸ h⟩

theorem AnyX.done {done : Array Bool} {a : Act} {w : World} (hr : Region.ready md ops done = []) (h : Q .normal a w) : ∀ n, AnyX P md ops Q S s n done a w
  | 0 => ⟨hr, h⟩
  | _ + 1 => ⟨fun _ => h, by rw [hr]; simp⟩

/-- The beginning. -/
theorem AnyX.region {id : Nat} {a : Act} {w : World} (hm : P.follows .mixedOrders = true) (h : AnyX P .any ops Q S s ops.size (Array.replicate ops.size false) a w.drew) : (Code.region id ops true).wp P Q a w :=
  wp_region_any hm (AnyX.any _ _ _ _ h)

/-- Behind number s nothing is asked of S. -/
theorem past {p : Prop} {b : Bool} (hb : b = true) : b = false → p := fun h => by rw [hb] at h; cases h

end

end Go.Proofs.Ytopnjklloleomaa

/-
  The walk over the vault's hear.
-/
namespace Go.Proofs.Ytopnjklloleomaa
open Go.RowKit
set_option linter.unusedVariables false

/-- A call's step inside a region that draws its order. -/
theorem step_callS {P : Program} {w : World} {ops : Array Oper} {o : Oper} {a : Act} {K : Act → World → Prop} {Q : Exit → Act → World → Prop} {E : Prop} {f : FuncId} {x : Operand} {ats : Array TypeId} {v : Value} {R : Value → World → Prop}
    (hc : Calls P f #[v] w fun e w' => ∃ u, e = .returned u ∧ R u w') (hcf : ∀ args W, (callFunc f args).run P W = .ok (.enter f args) W)
    (hgd : o.guard = none) (ho : o.op = .call { callee := .value (.func f), args := #[x], argTypes := ats }) (hx : a.eval x = v)
    (h : ∀ u w', R u w' → K (a.put o.dst u) w') :
    if Region.wanted o (yielded ops a.tmps) = true then Oper.wp P o a w K Q else E := by
  have hw : Region.wanted o (yielded ops a.tmps) = true := by simp [Region.wanted, hgd]
  rw [if_pos hw]
  have he : execOp a.eval o = callFunc f #[v] := by
    cases o
    simp only at ho
    subst ho
    rw [execOp_call_go]
    simp [hx]
  unfold Oper.wp
  rw [he, hcf, Oper.upon_enter]
  exact hc.mono (by rintro e w' ⟨u, rfl, hr⟩; exact h u w' hr)

theorem enters43 (args : Array Value) (W : World) : (callFunc 43 args).run Try.prog W = .ok (.enter 43 args) W := by kernel_rfl

/-- What a copy that is heard leaves. -/
def Vt.hearing (t : Vt) (who j : Nat) (c : Cp) (a : Hl) : Vt :=
  if (cloF c a.ep).1 ≠ 0 then t
  else if a.has = true then t.setCopy who (cloC c a.ep)
  else if (who : Int) ∈ a.heard then t.setCopy who (cloC c a.ep)
  else { t.setCopy who (cloC c a.ep) with heals := t.heals.set j { a with heard := a.heard ++ [(who : Int)], said := a.said ++ [cloC c a.ep] } }

theorem cloF_z (c : Cp) (e_ : Int) : Fz (cloF c e_) := epF_z

/-- One more copy. -/
theorem CopM.snoc {w w' : World} {lab lab' : Nat → Nat} {S : Nat → Prop} {i : Nat} {v' : Value} {fs : List Qf} {cs : List Cp} {f : Qf} {c : Cp} (h2 : fs.length = cs.length) (h3 : ∀ (j : Nat) f c, fs[j]? = some f → cs[j]? = some c → f.ep = c.ep ∧ f.cl = c.cl ∧ f.en = c.en ∧ Rd0 0 txE w lab (.slice f.ao f.len f.cap) c.recs)
    (hrow : Row w' lab' i 24 4 v' (fs.length + 1) (qfE.vs (fs ++ [f]))) (hc : Chg 0 w w' lab lab' S) (h0 : ¬ S 0) (hf : f.ep = c.ep ∧ f.cl = c.cl ∧ f.en = c.en ∧ Rd0 0 txE w' lab' (.slice f.ao f.len f.cap) c.recs) : CopM w' lab' i v' (cs ++ [c]) := by
  refine ⟨fs ++ [f], by rw [List.length_append]; exact hrow, by simp [h2], fun k g d hg hd => ?_⟩
  by_cases hk : k < fs.length
  · rw [List.getElem?_append_left hk] at hg
    rw [List.getElem?_append_left (by omega)] at hd
    obtain ⟨a, b, e, r⟩ := h3 k g d hg hd
    exact ⟨a, b, e, r.keep hc h0⟩
  · have hl2 := (List.getElem?_eq_some_iff.1 hg).1
    simp at hl2
    obtain rfl : k = fs.length := by omega
    rw [List.getElem?_append_right (Nat.le_refl _), Nat.sub_self] at hg
    rw [h2, List.getElem?_append_right (Nat.le_refl _), Nat.sub_self] at hd
    simp at hg hd
    subst hg hd
    exact hf

/-- A recovery is told one more copy. -/
theorem Vm.told {w A w5 : World} {lab : Nat → Nat} {B j g hcap : Nat} {s : Vs} {t : Vt} {a : Hl} {hs : List Hf} {hf : Hf} {fs : List Qf} {f : Qf} {c : Cp} {v5 : Value} (hm : Vm w lab B s t)
    (hg : s.hv.v = .slice (some ⟨g, 0, none⟩) t.heals.length hcap) (hrow : Row w lab 4 55 6 (.slice (some ⟨g, 0, none⟩) t.heals.length hcap) t.heals.length (hfE.vs hs)) (hlen : hs.length = t.heals.length) (hss : ∀ (j : Nat) h a, hs[j]? = some h → t.heals[j]? = some a → HlIs w lab j h a)
    (hs0 : hs[j]? = some hf) (hj : t.heals[j]? = some a) (hfs : Row w lab (10 + 4 * j) 24 4 hf.sd.v fs.length (qfE.vs fs)) (hfl : fs.length = a.said.length) (hfi : ∀ (j : Nat) f c, fs[j]? = some f → a.said[j]? = some c → f.ep = c.ep ∧ f.cl = c.cl ∧ f.en = c.en ∧ Rd0 0 txE w lab (.slice f.ao f.len f.cap) c.recs)
    (hA : Below w.heap.size w A) (hgr : A.grownBy w5 hf.sd.v.ownBlock) (hat : OnAt A hf.sd.v v5) (ho : w5.ownsRow 0 24 4 v5 (fs.length + 1) (qfE.vs (fs ++ [f]))) (hfc : f.ep = c.ep ∧ f.cl = c.cl ∧ f.en = c.en ∧ Rd0 0 txE A lab (.slice f.ao f.len f.cap) c.recs) :
    VmTo w lab B { t with heals := t.heals.set j { a with said := a.said ++ [c] } } (w5.setCell ⟨g, j * 6 + 2, none⟩ v5) ∧ (∃ cur, Blk w5 g 55 cur ∧ cur[j * 6 + 2]? = some hf.sd.v) := by
  obtain ⟨cur, hblk, hcur⟩ := blk_of_row hrow.1
  have hlg : lab g = 4 := hrow.2 g (by simp [Value.ownBlock])
  obtain ⟨hc5, hB5, hR5, hl5, hb5⟩ := grow_store (k := j * 6 + 2) hm.ok hA hfs.2 hblk hlg (by omega) hgr hat ho
  obtain ⟨i1, i2, i3, i4, i5, i6⟩ := hss j hf a hs0 hj
  have hcA : Chg 0 w A lab lab (fun i => i = 10 + 4 * j ∨ i = 4) := Chg.below _ hm.ok hA
  obtain ⟨ao', cap', hv'⟩ := owns_shapeK ho
  have hkj : j < hs.length := (List.getElem?_eq_some_iff.1 hs0).1
  have hrow' : (w5.setCell ⟨g, j * 6 + 2, none⟩ v5).ownsRow 0 55 6 (.slice (some ⟨g, 0, none⟩) t.heals.length hcap) t.heals.length (hfE.vs (hs.set j { hf with sd := ⟨ao', fs.length + 1, cap'⟩ })) :=
    row_of_blk (c := hf) (u := v5) (k := 2) hrow.1 hblk hB5 hs0 (by decide) (by rw [hv']; rfl)
  have hc2 : Chg 0 A w5 lab (labTo lab v5.ownBlock (10 + 4 * j)) (fun i => i = 10 + 4 * j ∨ i = 4) := Chg.row hcA.ok hfs.2 hgr (.inl rfl) hat (ownBlock_lt ho)
  have hc3 : Chg 0 w5 (w5.setCell ⟨g, j * 6 + 2, none⟩ v5) (labTo lab v5.ownBlock (10 + 4 * j)) (labTo lab v5.ownBlock (10 + 4 * j)) (fun i => i = 10 + 4 * j ∨ i = 4) := Chg.grown hc2.ok (grown_setCell w5 g _ v5) (.inr hl5)
  have hcm := CopM.snoc (c := c) hfl hfi hR5 hc5 (by omega) ⟨hfc.1, hfc.2.1, hfc.2.2.1, hfc.2.2.2.keep (hc2.trans hc3) (by omega)⟩
  have hHl := HlM.set (hl := t.heals) (a' := { a with said := a.said ++ [c] }) (h' := { hf with sd := ⟨ao', fs.length + 1, cap'⟩ }) hlen hss (by rw [hlen]; exact ⟨hrow', fun b hb => by simp only [Value.ownBlock, Option.some.injEq] at hb; subst hb; exact hl5⟩) hc5 (by omega) (fun i hi => ⟨by omega, by omega, by omega⟩) ⟨i1, i2, i3.keep hc5 (by omega), by rw [hv'] at hcm; rw [hv']; exact hcm, i5.keep hc5 (by omega), i6.keep hc5 (by omega)⟩
  refine ⟨⟨_, s, ⟨hm.blk.keep hc5 (by rw [hm.lb]; omega), (hc5.labs B hm.blk.lt).trans hm.lb, hm.cop.keep hc5 (by omega) (by omega), hm.wro.keep hc5 (by omega), hm.tok.keep hc5 (by omega) (fun i => by omega), by rw [hg]; exact hHl, hm.lef.keep hc5 (by omega), hc5.ok⟩, hc5.mono (fun i (h : i = 10 + 4 * j ∨ i = 4) => show i ≠ 0 ∧ i ≠ 6 by omega)⟩, cur, hb5, hcur _ _ ?_⟩
  have := vs_get (E := hfE) hs j hkj 2 (by decide)
  rw [this, ← (List.getElem?_eq_some_iff.1 hs0).2]
  rfl

theorem cloC_len {c : Cp} {e_ : Int} (h : (cloF c e_).1 = 0) : (cloC c e_).recs.length ≤ 1000 := by
  unfold cloC
  rw [if_pos h]
  exact epF_len (c := c) (e_ := e_) (g := (0, 0)) h

theorem set_selfH {l : List Hl} {k : Nat} {e : Hl} (h : l[k]? = some e) : l.set k e = l := by
  apply List.ext_getElem?
  intro i
  rw [List.getElem?_set]
  by_cases hi : k = i
  · subst hi
    have := (List.getElem?_eq_some_iff.1 h).1
    rw [if_pos rfl, if_pos this, h]
  · rw [if_neg hi]

theorem VmTo.after {w w1 w2 : World} {lab lab1 : Nat → Nat} {B : Nat} {t : Vt} (hc : Chg 0 w w1 lab lab1 (fun i => i ≠ 0 ∧ i ≠ 6)) (h : VmTo w1 lab1 B t w2) : VmTo w lab B t w2 := by
  obtain ⟨l2, s2, hm, hc2⟩ := h
  exact ⟨l2, s2, hm, hc.trans hc2⟩

set_option maxRecDepth 100000 in
set_option maxHeartbeats 8000000 in
theorem hear_any (B who j g hcap : Nat) (s : Vs) (t : Vt) (c : Cp) (a : Hl) (lab : Nat → Nat) (w : World) (hm : Vm w lab B s t) (hc : t.copies[who]? = some c) (hj : t.heals[j]? = some a) (hg : s.hv.v = .slice (some ⟨g, 0, none⟩) t.heals.length hcap) (hll : a.heard.length ≤ 1000000) (hsl : a.said.length ≤ 1000000) :
    Calls Try.prog 49 #[.pointer (some ⟨B, 0, none⟩), .int .i64 who, .pointer (some ⟨g, j * 6, none⟩)] w fun e w' => e = .returned (.tuple #[]) ∧ VmTo w lab B (t.hearing who j c a) w' := by
  have HEN : Hid (t.hearing who j c a = if (cloF c a.ep).1 ≠ 0 then t else if a.has = true then t.setCopy who (cloC c a.ep) else if (who : Int) ∈ a.heard then t.setCopy who (cloC c a.ep) else { t.setCopy who (cloC c a.ep) with heals := t.heals.set j { a with heard := a.heard ++ [(who : Int)], said := a.said ++ [cloC c a.ep] } }) := hide rfl
  have HAS : Hid (t.asked who (cloC c a.ep) (cloF c a.ep) = if (cloF c a.ep).1 = 0 then t.setCopy who (cloC c a.ep) else t) := hide rfl
  have HLN := hide (fun h => cloC_len (c := c) (e_ := a.ep) h)
  have hA := below_allocG w (.cells #[.pointer (some ⟨g, j * 6, none⟩)] 77)
  have hY := Blk.new w 77 #[.pointer (some ⟨g, j * 6, none⟩)]
  have hmA := hm.below hA
  have hh := hm.hea
  rw [hg] at hh
  obtain ⟨g', cap', hf, hgv, hgl, hlg, hat, his, _⟩ := hh.here hj
  cases hgv
  have c0 := hat 0 _ rfl
  rw [his.1, Nat.add_zero] at c0
  have HASK := hide (askHear_any w.heap.size B who s t c (cloC c a.ep) (cloF c a.ep) lab _ hmA hc (cloF_z _ _) (fun w1 v hb1 hv => cloHear_any w.heap.size g (j * 6) a.ep c v w1 ((hY.later hb1).cell 0) (cell_belowG (cell_belowG c0 hA) hb1) hv))
  have HY := hide hY
  have HCA : Hid (Chg 0 w _ lab lab (fun i => i ≠ 0 ∧ i ≠ 6)) := hide (Chg.below _ hm.ok hA)
  have HLY : Hid (lab w.heap.size = 0) := hide (hm.ok _ (by omega))
  have HJ := hide hj
  have HG := hide hg
  have hkl := (List.getElem?_eq_some_iff.1 hc).1
  clear hm hmA hj hA hY hh hat his c0 hg hc
  generalize hRC : cloC c a.ep = RC at *
  generalize hRF : cloF c a.ep = RF at *
  obtain ⟨fx, fy⟩ := RF
  obtain ⟨rep, rcl, rl, ren⟩ := RC
  clear hRC hRF
  go_enter Try.func49, Try.ntmps49
  go_wp2_with fail
  refine HASK.out.mono ?_
  rintro e w2 ⟨rfl, hm2, hch2⟩
  have HCH := hide (HCA.out.trans (hch2.mono (fun i (h : i = 2) => show i ≠ 0 ∧ i ≠ 6 by omega)))
  by_cases hx : fx = 0
  case neg =>
    have hd : decide (fx = 0) = false := decide_eq_false hx
    have HE := hide (HEN.out.trans (if_pos hx))
    have HE2 := hide (HAS.out.trans (if_neg hx))
    have HM2 := hide hm2
    rw [hd]
    clear hd hx hm2 hch2
    go_wp2_with fail
    refine bodyPost_end (v := .tuple #[]) (by simp [results, Try.results49]) rfl ?_
    exact ⟨rfl, lab, s, by rw [HE.out, ← HE2.out]; exact HM2.out, HCH.out⟩
  have hd : decide (fx = 0) = true := decide_eq_true hx
  have HE0 := hide (HEN.out.trans (if_neg (fun q => q hx)))
  have HE2 := hide (HAS.out.trans (if_pos hx))
  have hrl := HLN.out hx
  rw [HE2.out] at hm2
  have HM2 := hide hm2
  have hY2 := HY.out.keep hch2 (by rw [HLY.out]; decide)
  have HY2 := hide hY2
  have y0 := hY2.cell 0
  have yl := hY2.lt
  simp at y0
  have hh2 := hm2.hea
  rw [HG.out] at hh2
  obtain ⟨g3, cap3, hf2, hgv2, hgl2, hlg2, hat2, his2, _⟩ := hh2.here (show (t.setCopy who ⟨rep, rcl, rl, ren⟩).heals[j]? = some a from HJ.out)
  cases hgv2
  have d3 := hat2 3 _ rfl
  rw [his2.2.1] at d3
  rw [hd]
  clear hd hx hch2 hh2 hat2 his2 hY2 HEN HAS HASK
  cases hha : a.has
  case true =>
    rw [hha] at d3
    have HE := hide (HE0.out.trans (if_pos hha))
    clear hha hm2
    go_wp2_with fail
    refine bodyPost_end (v := .tuple #[]) (by simp [results, Try.results49]) rfl ?_
    exact ⟨rfl, lab, s, by rw [HE.out]; exact HM2.out, HCH.out⟩
  rw [hha] at d3
  have HE1 := hide (HE0.out.trans (if_neg (by rw [hha]; simp)))
  obtain ⟨g4, cap4, hgv4, hput⟩ := putHeard (who := (who : Int)) hm2 (show (t.setCopy who ⟨rep, rcl, rl, ren⟩).heals[j]? = some a from HJ.out) hll
  have hgg := HG.out
  rw [hgv4] at hgg
  cases hgg
  have HPUT := hide hput
  clear hm2 hput hgv4 hha
  by_cases hin : (who : Int) ∈ a.heard
  · have HE := hide (HE1.out.trans (if_pos hin))
    have HD := hide (decide_eq_true hin)
    have HPL := hide (show putL a.heard (who : Int) = a.heard from if_pos hin)
    clear hin
    go_wp2_with fail
    refine HPUT.out.mono ?_
    rw [HD.out]
    rintro e w3 ⟨lab3, rfl, hm3, hch3⟩
    have HM3 := hide hm3
    have HC3 := hide (HCH.out.trans (hch3.mono (fun i (h : i = 4 ∨ i = 9 + 4 * j) => show i ≠ 0 ∧ i ≠ 6 by omega)))
    clear hm3 hch3
    go_wp2_with fail
    refine bodyPost_end (v := .tuple #[]) (by simp [results, Try.results49]) rfl ?_
    refine ⟨rfl, lab3, s, ?_, HC3.out⟩
    rw [HE.out]
    have := HM3.out
    rw [HPL.out] at this
    have e1 : (t.setCopy who ⟨rep, rcl, rl, ren⟩).heals.set j { a with heard := a.heard } = (t.setCopy who ⟨rep, rcl, rl, ren⟩).heals := set_selfH HJ.out
    rw [e1] at this
    exact this
  · have HE := hide (HE1.out.trans (if_neg hin))
    have HD := hide (decide_eq_false hin)
    have HPL := hide (show putL a.heard (who : Int) = a.heard ++ [(who : Int)] from if_neg hin)
    clear hin
    go_upto_region 3 with (go_at_call 59; refine HPUT.out.mono ?_; rw [HD.out]; rintro e w3 ⟨lab3, rfl, hm3, hch3⟩)
    rw [HPL.out] at hm3
    have HC3 := hide (HCH.out.trans (hch3.mono (fun i (h : i = 4 ∨ i = 9 + 4 * j) => show i ≠ 0 ∧ i ≠ 6 by omega)))
    have HM3 := hide hm3
    have hY3 := HY2.out.keep hch3 (by rw [HLY.out]; omega)
    have y3 := hY3.cell 0
    have yl3 := hY3.lt
    simp at y3
    have hh3 := hm3.hea
    rw [HG.out] at hh3
    obtain ⟨hs3, hrow3, hlen30, hss3⟩ := hh3
    have hlen3 : hs3.length = ((t.setCopy who ⟨rep, rcl, rl, ren⟩).heals.set j { a with heard := a.heard ++ [(who : Int)] }).length := hlen30
    clear hlen30
    have hj3 : ((t.setCopy who ⟨rep, rcl, rl, ren⟩).heals.set j { a with heard := a.heard ++ [(who : Int)] })[j]? = some { a with heard := a.heard ++ [(who : Int)] } := by
      have hjl : j < (t.setCopy who ⟨rep, rcl, rl, ren⟩).heals.length := (List.getElem?_eq_some_iff.1 HJ.out).1
      rw [List.getElem?_set, if_pos rfl, if_pos hjl]
    have hnl3 := (List.getElem?_eq_some_iff.1 hj3).1
    obtain ⟨hf3, hs03⟩ : ∃ x, hs3[j]? = some x := ⟨_, List.getElem?_eq_getElem (by omega)⟩
    have hln3 : ((t.setCopy who ⟨rep, rcl, rl, ren⟩).heals.set j { a with heard := a.heard ++ [(who : Int)] }).length = t.heals.length := by rw [List.length_set]; rfl
    have hrow4 : Row w3 lab3 4 55 6 (.slice (some ⟨g, 0, none⟩) t.heals.length hcap) t.heals.length (hfE.vs hs3) := by
      rw [← hln3, ← hlen3]
      rw [← hln3, ← hlen3] at hrow3
      exact hrow3
    obtain ⟨b', off', hbo, hgl3, hat3⟩ := (RdG.ofOwns hrow4.1).here hs03
    cases hbo
    rw [Nat.zero_add] at hat3
    have q2 := hat3 2 _ rfl
    obtain ⟨fs, hfrow, hfl, hfi⟩ := (hss3 j hf3 _ hs03 hj3).2.2.2.1
    have hsn := Row.len hfrow
    have q2' : w3.cell? ⟨g, j * 6 + 2, none⟩ = some (.slice hf3.sd.ao fs.length hf3.sd.c) := by rw [← hsn]; exact q2
    have hsv : hf3.sd.v = .slice hf3.sd.ao fs.length hf3.sd.c := by unfold Sl.v; rw [hsn]
    obtain ⟨gc, ccap, ao', cap', hcv, hgcl, e0, e1, e2, e3, hrc, hlgc⟩ := hm3.cop.here (show (t.setCopy who ⟨rep, rcl, rl, ren⟩).copies[who]? = some ⟨rep, rcl, rl, ren⟩ from by
      unfold Vt.setCopy
      rw [List.getElem?_set, if_pos rfl, if_pos hkl])
    simp only at e0 e1 e2 e3 hrc
    have v0 := hm3.blk.cell 0
    have vl := hm3.blk.lt
    simp only [Vs.a, List.getElem?_toArray, List.getElem?_cons_zero] at v0
    rw [hcv] at v0
    have hcn : (t.setCopy who ⟨rep, rcl, rl, ren⟩).copies.length = t.copies.length := by unfold Vt.setCopy; rw [List.length_set]
    rw [hcn] at v0
    have hk1 : (0 : Int) ≤ (who : Int) := by omega
    have hk2 : (who : Int) < (t.copies.length : Int) := by omega
    have hcp := copied_any ⟨rep, rcl, rl, ren⟩ (.slice ao' rl.length cap') w3.drew (RdG.drew hrc.1) hrl
    unfold cpV at hcp
    have HCPY : Hid (Calls Try.prog 43 #[.agg #[.int .i64 rep, .bool rcl, .slice ao' rl.length cap', .int .i64 ren]] w3.drew fun e w' => ∃ u, e = .returned u ∧ (∃ v', u = .agg #[.int .i64 rep, .bool rcl, v', .int .i64 ren] ∧ w'.ownsRow w3.heap.size 9 1 v' rl.length (txE.vs rl) ∧ Below w3.heap.size w3 w')) := hide (hcp.mono fun e W ⟨v', h1, h2, h3⟩ => ⟨_, h1, v', rfl, h2, ⟨h3.os, h3.tape, h3.output, h3.size, h3.block⟩⟩)
    have HROWS : Hid (∀ (W : World) (o : Obj), Below w3.heap.size w3 W → (W.alloc o).ownsRow 0 24 4 (.slice hf3.sd.ao fs.length hf3.sd.c) fs.length (qfE.vs fs)) := hide fun W o hW => (owns_below (hsv ▸ hfrow.1) hW).alloc o
    have HNEWS : Hid (∀ (W : World) (ao : Option Addr) (cap : Nat), RdG qfE (W.alloc (.cells #[.int .i64 rep, .bool rcl, .slice ao rl.length cap, .int .i64 ren] 24)) (.slice (some ⟨W.heap.size, 0, none⟩) 1 1) [⟨rep, rcl, ao, rl.length, cap, ren⟩]) := hide fun W ao cap => RdG.newL (E := qfE) W [⟨rep, rcl, ao, rl.length, cap, ren⟩] 24 _ rfl (by simp)
    have HCNT : Hid (∀ (ao : Option Addr) (cap : Nat), fs.length + ([⟨rep, rcl, ao, rl.length, cap, ren⟩] : List Qf).length ≤ 1000000000) := hide fun _ _ => by rw [hfl]; simp; omega
    have HTOLD : Hid (∀ (w9 w5 : World) (ao9 : Option Addr) (cap9 : Nat) (v5 : Value), Below w3.heap.size w3 w9 → w9.ownsRow w3.heap.size 9 1 (.slice ao9 rl.length cap9) rl.length (txE.vs rl) → (w9.alloc (.cells #[.int .i64 rep, .bool rcl, .slice ao9 rl.length cap9, .int .i64 ren] 24)).grownBy w5 (Value.slice hf3.sd.ao fs.length hf3.sd.c).ownBlock → OnAt (w9.alloc (.cells #[.int .i64 rep, .bool rcl, .slice ao9 rl.length cap9, .int .i64 ren] 24)) (.slice hf3.sd.ao fs.length hf3.sd.c) v5 → w5.ownsRow 0 24 4 v5 (fs.length + 1) (qfE.vs (fs ++ [⟨rep, rcl, ao9, rl.length, cap9, ren⟩])) →
        VmTo w lab B (t.hearing who j c a) (w5.setCell ⟨g, j * 6 + 2, none⟩ v5) ∧ (∃ cur, Blk w5 g 55 cur ∧ cur[j * 6 + 2]? = some hf3.sd.v) ∧ (w5.cell? ⟨w.heap.size, 0, none⟩ = some (.pointer (some ⟨g, j * 6, none⟩)) ∧ w5.cell? ⟨B, 0, none⟩ = some (.slice (some ⟨gc, 0, none⟩) t.copies.length ccap) ∧ w5.cell? ⟨gc, who * 4, none⟩ = some (.int .i64 rep) ∧ w5.cell? ⟨gc, who * 4 + 1, none⟩ = some (.bool rcl) ∧ w5.cell? ⟨gc, who * 4 + 2, none⟩ = some (.slice ao' rl.length cap') ∧ w5.cell? ⟨gc, who * 4 + 3, none⟩ = some (.int .i64 ren))) := hide fun w9 w5 ao9 cap9 v5 hb9 ho9 hg5 hat5 ho5 => by
      have hbA : Below w3.heap.size w3 (w9.alloc (.cells #[.int .i64 rep, .bool rcl, .slice ao9 rl.length cap9, .int .i64 ren] 24)) := hb9.trans ((below_allocG w9 _).mono hb9.size)
      have hnew : Rd0 0 txE (w9.alloc (.cells #[.int .i64 rep, .bool rcl, .slice ao9 rl.length cap9, .int .i64 ren] 24)) lab3 (.slice ao9 rl.length cap9) rl := Rd0.new HM3.out.ok (ho9.alloc _) (Nat.le_refl _)
      rw [← hsv] at hg5 hat5
      have := Vm.told (c := ⟨rep, rcl, rl, ren⟩) (hcap := hcap) HM3.out (by rw [hln3]; exact HG.out) (by rw [hln3]; exact hrow4) hlen3 hss3 hs03 hj3 hfrow hfl hfi hbA hg5 hat5 ho5 ⟨rfl, rfl, rfl, hnew⟩
      have hYA := hY3.later hbA
      have hY5 := hYA.grown hg5 (fun q => owns_off (hsv ▸ HROWS.out w9 _ hb9) hYA (by decide) q.symm)
      have hcop := (hm3.cop.keep (Chg.below (fun _ => False) HM3.out.ok hbA) (fun q => q) (fun q => q))
      have hVA := HM3.out.blk.later hbA
      have hcA2 : Chg 0 w3 (w9.alloc (.cells #[.int .i64 rep, .bool rcl, .slice ao9 rl.length cap9, .int .i64 ren] 24)) lab3 lab3 (fun i => i = 10 + 4 * j) := Chg.below _ HM3.out.ok hbA
      have hc59 := hcA2.trans (Chg.row (S := fun i => i = 10 + 4 * j) hcA2.ok hfrow.2 hg5 rfl hat5 (ownBlock_lt ho5))
      have hV5 := HM3.out.blk.keep hc59 (by rw [HM3.out.lb]; omega)
      have hgcb : ∀ k u, w3.cell? ⟨gc, k, none⟩ = some u → w5.cell? ⟨gc, k, none⟩ = some u := fun k u hu => (World.cell?_of_block (hc59.block gc hgcl (by rw [hlgc]; omega))).trans hu
      have hv05 := hV5.cell 0
      simp only [Vs.a, List.getElem?_toArray, List.getElem?_cons_zero] at hv05
      rw [hcv, hcn] at hv05
      refine ⟨?_, this.2, hY5.cell 0, hv05, hgcb _ _ e0, hgcb _ _ e1, hgcb _ _ e2, hgcb _ _ e3⟩
      rw [HE.out]
      have h1 := VmTo.after HC3.out this.1
      have e1 : ((t.setCopy who ⟨rep, rcl, rl, ren⟩).heals.set j { a with heard := a.heard ++ [(who : Int)] }).set j { a with heard := a.heard ++ [(who : Int)], said := a.said ++ [⟨rep, rcl, rl, ren⟩] } = t.heals.set j { a with heard := a.heard ++ [(who : Int)], said := a.said ++ [⟨rep, rcl, rl, ren⟩] } := by rw [List.set_set]; rfl
      rw [e1] at h1
      exact h1
    have HSV := hide hsv
    have HKEEP : Hid (∀ W, Below w3.heap.size w3 W → (fun W : World => W.cell? ⟨w.heap.size, 0, none⟩ = some (.pointer (some ⟨g, j * 6, none⟩)) ∧ W.cell? ⟨B, 0, none⟩ = some (.slice (some ⟨gc, 0, none⟩) t.copies.length ccap) ∧ W.cell? ⟨gc, who * 4, none⟩ = some (.int .i64 rep) ∧ W.cell? ⟨gc, who * 4 + 1, none⟩ = some (.bool rcl) ∧ W.cell? ⟨gc, who * 4 + 2, none⟩ = some (.slice ao' rl.length cap') ∧ W.cell? ⟨gc, who * 4 + 3, none⟩ = some (.int .i64 ren) ∧ W.cell? ⟨g, j * 6 + 2, none⟩ = some (.slice hf3.sd.ao fs.length hf3.sd.c)) W) := hide fun W hW => ⟨(hW.cell (p := ⟨w.heap.size, 0, none⟩) yl3).trans y3, (hW.cell (p := ⟨B, 0, none⟩) vl).trans v0, (hW.cell (p := ⟨gc, who * 4, none⟩) hgcl).trans e0, (hW.cell (p := ⟨gc, who * 4 + 1, none⟩) hgcl).trans e1, (hW.cell (p := ⟨gc, who * 4 + 2, none⟩) hgcl).trans e2, (hW.cell (p := ⟨gc, who * 4 + 3, none⟩) hgcl).trans e3, (hW.cell (p := ⟨g, j * 6 + 2, none⟩) hgl3).trans q2'⟩
    have hS0 : (fun W : World => W.cell? ⟨w.heap.size, 0, none⟩ = some (.pointer (some ⟨g, j * 6, none⟩)) ∧ W.cell? ⟨B, 0, none⟩ = some (.slice (some ⟨gc, 0, none⟩) t.copies.length ccap) ∧ W.cell? ⟨gc, who * 4, none⟩ = some (.int .i64 rep) ∧ W.cell? ⟨gc, who * 4 + 1, none⟩ = some (.bool rcl) ∧ W.cell? ⟨gc, who * 4 + 2, none⟩ = some (.slice ao' rl.length cap') ∧ W.cell? ⟨gc, who * 4 + 3, none⟩ = some (.int .i64 ren) ∧ W.cell? ⟨g, j * 6 + 2, none⟩ = some (.slice hf3.sd.ao fs.length hf3.sd.c)) w3.drew := HKEEP.out _ (Below.drew (Below.refl _ _))
    clear hm3 hch3 hrow3 hlen3 hss3 hj3 hs03 hln3 hrow4 hat3 q2 hfrow hfl hfi hsn hsv hcv hrc hcp hY3 d3 y0 yl e0 e1 e2 e3 v0 vl y3 yl3 q2'
    refine wp_region_noPanic ?_
    refine AnyX.region (S := fun W => W.cell? ⟨w.heap.size, 0, none⟩ = some (.pointer (some ⟨g, j * 6, none⟩)) ∧ W.cell? ⟨B, 0, none⟩ = some (.slice (some ⟨gc, 0, none⟩) t.copies.length ccap) ∧ W.cell? ⟨gc, who * 4, none⟩ = some (.int .i64 rep) ∧ W.cell? ⟨gc, who * 4 + 1, none⟩ = some (.bool rcl) ∧ W.cell? ⟨gc, who * 4 + 2, none⟩ = some (.slice ao' rl.length cap') ∧ W.cell? ⟨gc, who * 4 + 3, none⟩ = some (.int .i64 ren) ∧ W.cell? ⟨g, j * 6 + 2, none⟩ = some (.slice hf3.sd.ao fs.length hf3.sd.c)) (s := 18) (by kernel_rfl) ?_
    refine AnyX.takeL (i := 0) (v := ?v0) (by simp only [List.getElem?_toArray, List.getElem?_cons_zero]; rfl) (by kernel_rfl) (by kernel_rfl) (by kernel_rfl) (by kernel_rfl) (by kernel_rfl) (fun _ _ _ h => h) (by rfl) ?y0 hS0 ?r0
    case y0 => (intro W hSw; (try dsimp only at hSw); go_simp; first | done | with_reducible rfl)
    try simp only [Act.put, List.setIfInBounds_toArray, List.set_cons_zero, List.set_cons_succ]
    refine AnyX.takeL (i := 1) (v := ?v1) (by simp only [List.getElem?_toArray, List.getElem?_cons_zero, List.getElem?_cons_succ]; rfl) (by kernel_rfl) (by kernel_rfl) (by kernel_rfl) (by kernel_rfl) (by kernel_rfl) (fun _ _ _ h => h) (by rfl) ?y1 hS0 ?r1
    case y1 => (intro W hSw; (try dsimp only at hSw); go_simp; first | done | with_reducible rfl)
    try simp only [Act.put, List.setIfInBounds_toArray, List.set_cons_zero, List.set_cons_succ]
    refine AnyX.takeP (i := 2) (v := ?v2) (by simp only [List.getElem?_toArray, List.getElem?_cons_zero, List.getElem?_cons_succ]; rfl) (by kernel_rfl) (by kernel_rfl) (by kernel_rfl) (by kernel_rfl) (fun _ _ _ h => h) (by rfl) ?y2 hS0 ?r2
    case y2 => (intro W; go_simp; first | done | with_reducible rfl)
    try simp only [Act.put, List.setIfInBounds_toArray, List.set_cons_zero, List.set_cons_succ]
    refine AnyX.takeP (i := 3) (v := ?v3) (by simp only [List.getElem?_toArray, List.getElem?_cons_zero, List.getElem?_cons_succ]; rfl) (by kernel_rfl) (by kernel_rfl) (by kernel_rfl) (by kernel_rfl) (fun _ _ _ h => h) (by rfl) ?y3 hS0 ?r3
    case y3 => (intro W; go_simp; first | done | with_reducible rfl)
    try simp only [Act.put, List.setIfInBounds_toArray, List.set_cons_zero, List.set_cons_succ]
    refine AnyX.takeL (i := 4) (v := ?v4) (by simp only [List.getElem?_toArray, List.getElem?_cons_zero, List.getElem?_cons_succ]; rfl) (by kernel_rfl) (by kernel_rfl) (by kernel_rfl) (by kernel_rfl) (by kernel_rfl) (fun _ _ _ h => h) (by rfl) ?y4 hS0 ?r4
    case y4 => (intro W hSw; (try dsimp only at hSw); go_simp; first | done | with_reducible rfl)
    try simp only [Act.put, List.setIfInBounds_toArray, List.set_cons_zero, List.set_cons_succ]
    refine AnyX.takeP (i := 5) (v := ?v5) (by simp only [List.getElem?_toArray, List.getElem?_cons_zero, List.getElem?_cons_succ]; rfl) (by kernel_rfl) (by kernel_rfl) (by kernel_rfl) (by kernel_rfl) (fun _ _ _ h => h) (by rfl) ?y5 hS0 ?r5
    case y5 => (intro W; go_simp; first | done | with_reducible rfl)
    try simp only [Act.put, List.setIfInBounds_toArray, List.set_cons_zero, List.set_cons_succ]
    refine AnyX.takeP (i := 6) (v := ?v6) (by simp only [List.getElem?_toArray, List.getElem?_cons_zero, List.getElem?_cons_succ]; rfl) (by kernel_rfl) (by kernel_rfl) (by kernel_rfl) (by kernel_rfl) (fun _ _ _ h => h) (by rfl) ?y6 hS0 ?r6
    case y6 => (intro W; go_simp; first | done | with_reducible rfl)
    try simp only [Act.put, List.setIfInBounds_toArray, List.set_cons_zero, List.set_cons_succ]
    refine AnyX.takeP (i := 7) (v := ?v7) (by simp only [List.getElem?_toArray, List.getElem?_cons_zero, List.getElem?_cons_succ]; rfl) (by kernel_rfl) (by kernel_rfl) (by kernel_rfl) (by kernel_rfl) (fun _ _ _ h => h) (by rfl) ?y7 hS0 ?r7
    case y7 => (intro W; go_simp; first | done | with_reducible rfl)
    try simp only [Act.put, List.setIfInBounds_toArray, List.set_cons_zero, List.set_cons_succ]
    refine AnyX.takeP (i := 8) (v := ?v8) (by simp only [List.getElem?_toArray, List.getElem?_cons_zero, List.getElem?_cons_succ]; rfl) (by kernel_rfl) (by kernel_rfl) (by kernel_rfl) (by kernel_rfl) (fun _ _ _ h => h) (by rfl) ?y8 hS0 ?r8
    case y8 => (intro W; go_simp; first | done | with_reducible rfl)
    try simp only [Act.put, List.setIfInBounds_toArray, List.set_cons_zero, List.set_cons_succ]
    refine AnyX.takeL (i := 9) (v := ?v9) (by simp only [List.getElem?_toArray, List.getElem?_cons_zero, List.getElem?_cons_succ]; rfl) (by kernel_rfl) (by kernel_rfl) (by kernel_rfl) (by kernel_rfl) (by kernel_rfl) (fun _ _ _ h => h) (by rfl) ?y9 hS0 ?r9
    case y9 => (intro W hSw; (try dsimp only at hSw); go_simp; first | done | with_reducible rfl)
    try simp only [Act.put, List.setIfInBounds_toArray, List.set_cons_zero, List.set_cons_succ]
    refine AnyX.takeP (i := 10) (v := ?v10) (by simp only [List.getElem?_toArray, List.getElem?_cons_zero, List.getElem?_cons_succ]; rfl) (by kernel_rfl) (by kernel_rfl) (by kernel_rfl) (by kernel_rfl) (fun _ _ _ h => h) (by rfl) ?y10 hS0 ?r10
    case y10 => (intro W; go_simp; first | done | with_reducible rfl)
    try simp only [Act.put, List.setIfInBounds_toArray, List.set_cons_zero, List.set_cons_succ]
    refine AnyX.takeP (i := 11) (v := ?v11) (by simp only [List.getElem?_toArray, List.getElem?_cons_zero, List.getElem?_cons_succ]; rfl) (by kernel_rfl) (by kernel_rfl) (by kernel_rfl) (by kernel_rfl) (fun _ _ _ h => h) (by rfl) ?y11 hS0 ?r11
    case y11 => (intro W; go_simp; first | done | with_reducible rfl)
    try simp only [Act.put, List.setIfInBounds_toArray, List.set_cons_zero, List.set_cons_succ]
    refine AnyX.takeL (i := 12) (v := ?v12) (by simp only [List.getElem?_toArray, List.getElem?_cons_zero, List.getElem?_cons_succ]; rfl) (by kernel_rfl) (by kernel_rfl) (by kernel_rfl) (by kernel_rfl) (by kernel_rfl) (fun _ _ _ h => h) (by rfl) ?y12 hS0 ?r12
    case y12 => (intro W hSw; (try dsimp only at hSw); go_simp; first | done | with_reducible rfl)
    try simp only [Act.put, List.setIfInBounds_toArray, List.set_cons_zero, List.set_cons_succ]
    refine AnyX.next (rs := [13]) (by kernel_rfl) (by simp) ?_
    refine NextX.cons (i := 13) (by simp only [List.getElem?_toArray, List.getElem?_cons_zero, List.getElem?_cons_succ]; rfl) (fun Kc hK => ?_) NextX.nil
    go_simp
    go_at_call 43
    refine HCPY.out.mono ?_
    rintro _ w9 ⟨_, rfl, v9, rfl, ho9, hb9⟩
    obtain ⟨ao9, cap9, hv9⟩ := owns_shapeK ho9
    subst hv9
    have hS9 := HKEEP.out _ hb9
    go_wp2_with fail
    refine hK.out _ _ (fun _ => hS9) ?_
    clear hK Kc
    try simp only [Act.put, List.setIfInBounds_toArray, List.set_cons_zero, List.set_cons_succ]
    refine AnyX.next (rs := [14]) (by kernel_rfl) (by simp) ?_
    refine NextX.cons (i := 14) (by simp only [List.getElem?_toArray, List.getElem?_cons_zero, List.getElem?_cons_succ]; rfl) (fun Kc hK => ?_) NextX.nil
    go_simp
    refine hK.out _ _ (fun _ => HKEEP.out _ (hb9.trans ((below_allocG w9 _).mono hb9.size))) ?_
    clear hK Kc
    try simp only [Act.put, List.setIfInBounds_toArray, List.set_cons_zero, List.set_cons_succ]
    refine AnyX.next (rs := [15]) (by kernel_rfl) (by simp) ?_
    refine NextX.cons (i := 15) (by simp only [List.getElem?_toArray, List.getElem?_cons_zero, List.getElem?_cons_succ]; rfl) (fun Kc hK => ?_) NextX.nil
    refine step_append_rdAt (E := qfE) (cs := fs) (HROWS.out w9 _ hb9) (HNEWS.out w9 ao9 cap9) Try.underlying38 infoCopy rfl (by rfl) (by rfl) (by rfl) (by rfl) (HCNT.out _ _) (by decide) (Nat.zero_le _) ?_
    intro v5 w5 ho5 hg5 hat5
    rw [List.length_singleton] at ho5
    obtain ⟨hto, ⟨cur5, hb5, hc5⟩, hS5⟩ := HTOLD.out w9 w5 ao9 cap9 v5 hb9 ho9 hg5 hat5 ho5
    obtain ⟨ao5, cap5, hv5⟩ := owns_shapeK ho5
    subst hv5
    have k0 := (hb5.cell (j * 6 + 2)).trans hc5
    have k1 := hb5.frozen (j * 6 + 2)
    have k2 := hb5.lt
    rw [HSV.out] at k0
    have HTO := hide hto
    have hS6 : (fun W : World => W.cell? ⟨w.heap.size, 0, none⟩ = some (.pointer (some ⟨g, j * 6, none⟩)) ∧ W.cell? ⟨B, 0, none⟩ = some (.slice (some ⟨gc, 0, none⟩) t.copies.length ccap) ∧ W.cell? ⟨gc, who * 4, none⟩ = some (.int .i64 rep) ∧ W.cell? ⟨gc, who * 4 + 1, none⟩ = some (.bool rcl) ∧ W.cell? ⟨gc, who * 4 + 2, none⟩ = some (.slice ao' rl.length cap') ∧ W.cell? ⟨gc, who * 4 + 3, none⟩ = some (.int .i64 ren) ∧ W.cell? ⟨g, j * 6 + 2, none⟩ = some (.slice hf3.sd.ao fs.length hf3.sd.c)) w5 := ⟨hS5.1, hS5.2.1, hS5.2.2.1, hS5.2.2.2.1, hS5.2.2.2.2.1, hS5.2.2.2.2.2, k0⟩
    refine hK.out _ _ (fun _ => hS6) ?_
    clear hto hS5 hS9 hS0
    clear hK Kc
    try simp only [Act.put, List.setIfInBounds_toArray, List.set_cons_zero, List.set_cons_succ]
    refine AnyX.takeP (i := 16) (v := ?v16) (by simp only [List.getElem?_toArray, List.getElem?_cons_zero, List.getElem?_cons_succ]; rfl) (by kernel_rfl) (by kernel_rfl) (by kernel_rfl) (by kernel_rfl) (fun _ _ _ h => h) (by rfl) ?y16 hS6 ?r16
    case y16 => (intro W; go_simp; first | done | with_reducible rfl)
    try simp only [Act.put, List.setIfInBounds_toArray, List.set_cons_zero, List.set_cons_succ]
    refine AnyX.takeP (i := 17) (v := ?v17) (by simp only [List.getElem?_toArray, List.getElem?_cons_zero, List.getElem?_cons_succ]; rfl) (by kernel_rfl) (by kernel_rfl) (by kernel_rfl) (by kernel_rfl) (fun _ _ _ h => h) (by rfl) ?y17 hS6 ?r17
    case y17 => (intro W; go_simp; first | done | with_reducible rfl)
    try simp only [Act.put, List.setIfInBounds_toArray, List.set_cons_zero, List.set_cons_succ]
    refine AnyX.next (rs := [18]) (by kernel_rfl) (by simp) ?_
    refine NextX.cons (i := 18) (by simp only [List.getElem?_toArray, List.getElem?_cons_zero, List.getElem?_cons_succ]; rfl) (fun Kc hK => ?_) NextX.nil
    go_simp
    refine hK.out _ _ (past (by kernel_rfl)) ?_
    clear hK Kc
    try simp only [Act.put, List.setIfInBounds_toArray, List.set_cons_zero, List.set_cons_succ]
    refine AnyX.done (by kernel_rfl) ?_ _
    refine NoPanic.normal ?_
    refine bodyPost_end (v := .tuple #[]) (by simp [results, Try.results49]) rfl ?_
    exact ⟨rfl, HTO.out⟩

end Go.Proofs.Ytopnjklloleomaa

/-
  The walks over the codes of what is wrong with a deed.
-/
namespace Go.Proofs.Ytopnjklloleomaa
open Go.RowKit
set_option linter.unusedVariables false

/-- The first number that is n, from a number on; -1: none is. -/
def idxE (n : Int) : List Int → Nat → Int
  | [], _ => -1
  | e :: l, i => if e = n then i else idxE n l (i + 1)

theorem idxE_pos {n : Int} : ∀ (l : List Int) (i : Nat), decide (0 ≤ idxE n l i) = decide (n ∈ l)
  | [], i => by simp [idxE]
  | e :: l, i => by
    unfold idxE
    by_cases h : e = n
    · rw [if_pos h]
      simp [h]
    · rw [if_neg h, idxE_pos l (i + 1)]
      simp only [List.mem_cons, decide_eq_decide]
      exact ⟨.inr, fun q => q.resolve_left (fun z => h z.symm)⟩

set_option maxRecDepth 100000 in
set_option maxHeartbeats 1000000 in
theorem isEpoch_any (X : Nat) (h : Hf) (n : Int) (w : World) (hX : w.cell? ⟨X, 0, none⟩ = some (.int .i64 n)) :
    Calls Try.prog 63 #[.agg #[.int .i64 h.ep, h.hd.v, h.sd.v, .bool h.has, h.re.v, h.en.v], .pointer (some ⟨X, 0, none⟩)] w fun e w' => e = .returned (.bool (decide (h.ep = n))) ∧ Below w.heap.size w w' := by
  have hl := World.block_lt_of_cell? w _ hX
  simp only at hl
  unfold Sl.v
  go_enter Try.func63, Try.ntmps63
  go_wp2_with fail
  go_ret
  exact ⟨by congr 2, by go_grown⟩

set_option maxRecDepth 100000 in
set_option maxHeartbeats 2000000 in
theorem IndexEpoch_any (X : Nat) (v : Value) (hs : List Hf) (n : Int) (w : World) (hv : RdG hfE w v hs) (hX : w.cell? ⟨X, 0, none⟩ = some (.int .i64 n)) :
    Calls Try.prog 65 #[v, .func (.func 63) #[] #[.pointer (some ⟨X, 0, none⟩)]] w fun e w' => e = .returned (.int .i64 (idxE n (hs.map (·.ep)) 0)) ∧ Below w.heap.size w w' := by
  have HV := hide hv
  have HX := hide hX
  obtain ⟨ao, cap, rfl, hc1, hc2⟩ := hv.shape
  unfold maxLen at hc2
  clear hv hX
  go_enter Try.func65, Try.ntmps65
  go_wp2_with fail
  go_loopw [8] (fun iv wr => ∃ (j : Nat), j ≤ hs.length ∧ iv = .int .i64 j ∧ idxE n ((hs.drop j).map (·.ep)) j = idxE n (hs.map (·.ep)) 0 ∧ Below w.heap.size w wr)
    (fun iv _ => hs.length - (intOf iv).toNat)
  case atStart => exact ⟨0, by omega, rfl, rfl, Below.refl _ _⟩
  case round =>
    obtain ⟨j, hj, rfl, hgo, hbel⟩ := hrel
    have HG := hide hgo
    have HB := hide hbel
    clear hgo
    by_cases hlt : j < hs.length
    · obtain ⟨h, hh⟩ : ∃ c, hs[j]? = some c := ⟨_, List.getElem?_eq_getElem hlt⟩
      have hd : hs.drop j = h :: hs.drop (j + 1) := by
        obtain ⟨hl, rfl⟩ := List.getElem?_eq_some_iff.1 hh
        exact List.drop_eq_getElem_cons hl
      rw [hd, List.map_cons, idxE] at HG
      obtain ⟨b, off, rfl, hbb, hat⟩ := HV.out.here hh
      have q0 := cell_belowG (hat 0 _ rfl) hbel
      have q1 := cell_belowG (hat 1 _ rfl) hbel
      have q2 := cell_belowG (hat 2 _ rfl) hbel
      have q3 := cell_belowG (hat 3 _ rfl) hbel
      have q4 := cell_belowG (hat 4 _ rfl) hbel
      have q5 := cell_belowG (hat 5 _ rfl) hbel
      rw [Nat.add_zero] at q0
      have hb' : b < wr.heap.size := Nat.lt_of_lt_of_le hbb hbel.size
      have HC := hide (isEpoch_any X h n wr (cell_belowG HX.out hbel))
      have hk1 : (0 : Int) ≤ (j : Int) := by omega
      have hk2 : (j : Int) < (hs.length : Int) := by omega
      clear hat hh hbel hd
      by_cases hq : h.ep = n
      · have HE := hide (HG.out.symm.trans (if_pos hq))
        have HQ := hide (decide_eq_true hq)
        clear hq
        go_wp2_with (go_at_call 63; refine HC.out.mono ?_; rw [HQ.out]; rintro e w2 ⟨rfl, hb2⟩; have HB2 := hide (HB.out.trans (hb2.mono HB.out.size)); clear hb2)
        go_ret
        exact ⟨by rw [HE.out]; rfl, HB2.out⟩
      · have HE := hide (HG.out.symm.trans (if_neg hq))
        have HQ := hide (decide_eq_false hq)
        clear hq
        go_wp2_with (go_at_call 63; refine HC.out.mono ?_; rw [HQ.out]; rintro e w2 ⟨rfl, hb2⟩; have HB2 := hide (HB.out.trans (hb2.mono HB.out.size)); clear hb2)
        go_roundw
        case rel => exact ⟨j + 1, by omega, by go_num, HE.out.symm, HB2.out⟩
        case measure => simp [intOf]; omega
    · have hje : j = hs.length := by omega
      subst hje
      rw [List.drop_length] at HG
      have HE : Hid (idxE n (hs.map (·.ep)) 0 = -1) := hide HG.out.symm
      clear hbel
      go_wp2_with fail
      go_ret
      exact ⟨by rw [HE.out]; rfl, HB.out⟩

set_option maxRecDepth 100000 in
set_option maxHeartbeats 1000000 in
theorem HasEpoch_any (X : Nat) (v : Value) (hs : List Hf) (n : Int) (w : World) (hv : RdG hfE w v hs) (hX : w.cell? ⟨X, 0, none⟩ = some (.int .i64 n)) :
    Calls Try.prog 62 #[v, .func (.func 63) #[] #[.pointer (some ⟨X, 0, none⟩)]] w fun e w' => e = .returned (.bool (decide (n ∈ hs.map (·.ep)))) ∧ Below w.heap.size w w' := by
  have HI := hide (IndexEpoch_any X v hs n w hv hX)
  have HE := hide (idxE_pos (n := n) (hs.map (·.ep)) 0)
  obtain ⟨ao, cap, rfl, _, _⟩ := hv.shape
  generalize idxE n (hs.map (·.ep)) 0 = I at *
  clear hv hX
  go_enter Try.func62, Try.ntmps62
  go_wp2_with fail
  refine HI.out.mono ?_
  rintro e w1 ⟨rfl, hb1⟩
  go_wp2_with fail
  go_ret
  exact ⟨by rw [← HE.out]; rfl, hb1⟩

/-- Why no recovery can begin. -/
def begV (t : Vt) (n : Int) : Int := if n ≤ 1 ∨ 1000000000 < n then 3 else if n ∈ t.heals.map (·.ep) then 10 else if t.heals.length = 20 then 9 else 0

theorem HlM.eps {w : World} {lab : Nat → Nat} {v : Value} {hl : List Hl} {hs : List Hf} (h2 : hs.length = hl.length) (h3 : ∀ (j : Nat) h a, hs[j]? = some h → hl[j]? = some a → HlIs w lab j h a) : hs.map (·.ep) = hl.map (·.ep) := by
  apply List.ext_getElem?
  intro i
  rw [List.getElem?_map, List.getElem?_map]
  by_cases hi : i < hs.length
  · obtain ⟨h, hh⟩ : ∃ x, hs[i]? = some x := ⟨_, List.getElem?_eq_getElem hi⟩
    obtain ⟨a, ha⟩ : ∃ x, hl[i]? = some x := ⟨_, List.getElem?_eq_getElem (by omega)⟩
    rw [hh, ha]
    simp [(h3 i h a hh ha).1]
  · rw [List.getElem?_eq_none (by omega), List.getElem?_eq_none (by omega)]
    rfl

set_option maxRecDepth 100000 in
set_option maxHeartbeats 2000000 in
theorem beginCode_any (B : Nat) (s : Vs) (t : Vt) (n : Int) (lab : Nat → Nat) (w : World) (hm : Vm w lab B s t) :
    Calls Try.prog 55 #[.pointer (some ⟨B, 0, none⟩), .int .i64 n] w fun e w' => e = .returned (.int .i64 (begV t n)) ∧ Below w.heap.size w w' := by
  have HF : Hid (begV t n = if n ≤ 1 ∨ 1000000000 < n then 3 else if n ∈ t.heals.map (·.ep) then 10 else if t.heals.length = 20 then 9 else 0) := hide rfl
  obtain ⟨hs, hrow, hlen, hss⟩ := hm.hea
  have heps := HlM.eps (v := s.hv.v) hlen hss
  have hhn := HlM.len hm.hea
  have v3 := hm.blk.cell 3
  have vl := hm.blk.lt
  simp only [Vs.a, List.getElem?_toArray, List.getElem?_cons_zero, List.getElem?_cons_succ] at v3
  have v3' : w.cell? ⟨B, 3, none⟩ = some (.slice s.hv.ao t.heals.length s.hv.c) := by rw [← hhn]; exact v3
  have hrd : RdG hfE w (.slice s.hv.ao t.heals.length s.hv.c) hs := by rw [← hhn]; exact RdG.ofOwns hrow.1
  have HC := hide (HasEpoch_any w.heap.size _ hs n _ (hrd.alloc (.cells #[.int .i64 n] 3)) ((Blk.new w 3 #[.int .i64 n]).cell 0))
  rw [heps] at HC
  have HBA := hide (below_allocG w (.cells #[.int .i64 n] 3))
  have HV3 := hide v3'
  clear hm hrow hlen hss heps hhn v3 hrd
  by_cases h1 : n ≤ 1
  · have HE := hide (HF.out.trans (if_pos (.inl h1)))
    have hd : decide (n ≤ 1) = true := decide_eq_true h1
    go_enter Try.func55, Try.ntmps55
    go_wp2_with fail
    go_ret
    exact ⟨by rw [HE.out]; rfl, HBA.out⟩
  have hd1 : decide (n ≤ 1) = false := decide_eq_false h1
  by_cases h2 : 1000000000 < n
  · have HE := hide (HF.out.trans (if_pos (.inr h2)))
    go_enter Try.func55, Try.ntmps55
    go_wp2_with fail
    go_ret
    exact ⟨by rw [HE.out]; rfl, HBA.out⟩
  have HF2 := hide (HF.out.trans (if_neg (fun q => q.elim h1 h2)))
  by_cases h3 : n ∈ t.heals.map (·.ep)
  · have HE := hide (HF2.out.trans (if_pos h3))
    have HD := hide (decide_eq_true h3)
    clear h3
    go_enter Try.func55, Try.ntmps55
    go_wp2_with (go_at_call 62; refine HC.out.mono ?_; rw [HD.out]; rintro e w1 ⟨rfl, hb1⟩; have HB1 := hide (HBA.out.trans (hb1.mono HBA.out.size)); clear hb1)
    go_ret
    exact ⟨by rw [HE.out]; rfl, HB1.out⟩
  have HF3 := hide (HF2.out.trans (if_neg h3))
  have HD := hide (decide_eq_false h3)
  clear h3
  by_cases h4 : t.heals.length = 20
  · have HE := hide (HF3.out.trans (if_pos h4))
    have hq : ((t.heals.length : Int) == 20) = true := by simp [h4]
    generalize t.heals.length = N at *
    clear h4
    go_enter Try.func55, Try.ntmps55
    go_wp2_with (go_at_call 62; refine HC.out.mono ?_; rw [HD.out]; rintro e w1 ⟨rfl, hb1⟩; have HB1 := hide (HBA.out.trans (hb1.mono HBA.out.size)); have u3 := cell_belowG HV3.out HB1.out; have ul := Nat.lt_of_lt_of_le vl HB1.out.size; clear hb1)
    go_ret
    exact ⟨by rw [HE.out]; rfl, HB1.out⟩
  · have HE := hide (HF3.out.trans (if_neg h4))
    have hq : ((t.heals.length : Int) == 20) = false := beq_eq_false_iff_ne.2 (by omega)
    generalize t.heals.length = N at *
    clear h4
    go_enter Try.func55, Try.ntmps55
    go_wp2_with (go_at_call 62; refine HC.out.mono ?_; rw [HD.out]; rintro e w1 ⟨rfl, hb1⟩; have HB1 := hide (HBA.out.trans (hb1.mono HBA.out.size)); have u3 := cell_belowG HV3.out HB1.out; have ul := Nat.lt_of_lt_of_le vl HB1.out.size; clear hb1)
    go_ret
    exact ⟨by rw [HE.out]; rfl, HB1.out⟩

end Go.Proofs.Ytopnjklloleomaa

/-
  The walk over the vault's codeOf. (Written by sv10.py.)
-/
namespace Go.Proofs.Ytopnjklloleomaa
open Go.RowKit
set_option linter.unusedVariables false

def inR (x : Int) (m : Nat) : Bool := decide (0 ≤ x ∧ x < (m : Int))

/-- What is wrong with a deed. -/
def codeV (t : Vt) (k who n : Int) : Int :=
  if k = 0 then (if t.left.length = 0 then 6 else 0)
  else if k = 1 then (if inR who t.copies.length = true ∧ inR n t.wrote.length = true then 0 else 3)
  else if k = 2 then begV t n
  else if k = 3 ∨ k = 5 then (if inR who t.copies.length = true ∧ inR n t.heals.length = true then 0 else 3)
  else if k = 4 then (if inR n t.heals.length = true then 0 else 3)
  else 4

set_option maxRecDepth 100000 in
set_option maxHeartbeats 8000000 in
theorem codeOfV_any (B : Nat) (s : Vs) (t : Vt) (k who n : Int) (lab : Nat → Nat) (w : World) (hm : Vm w lab B s t) :
    Calls Try.prog 46 #[.pointer (some ⟨B, 0, none⟩), .agg #[.int .i64 k, .int .i64 who, .int .i64 n]] w fun e w' => e = .returned (.int .i64 (codeV t k who n)) ∧ Below w.heap.size w w' := by
  have HF : Hid (codeV t k who n = if k = 0 then (if t.left.length = 0 then 6 else 0) else if k = 1 then (if inR who t.copies.length = true ∧ inR n t.wrote.length = true then 0 else 3) else if k = 2 then begV t n else if k = 3 ∨ k = 5 then (if inR who t.copies.length = true ∧ inR n t.heals.length = true then 0 else 3) else if k = 4 then (if inR n t.heals.length = true then 0 else 3) else 4) := hide rfl
  have hA := below_allocG w (.cells #[.int .i64 k, .int .i64 who, .int .i64 n] 49)
  have HM := hide (hm.below hA)
  have HWC := hide (writeCode_any B s t lab _ (hm.below hA))
  have HBC := hide (beginCode_any B s t n lab _ (hm.below hA))
  have hcn := CopM.len hm.cop
  have hwn := Row.len hm.wro
  have hhn := HlM.len hm.hea
  have v0 := hm.blk.cell 0
  have v1 := hm.blk.cell 1
  have v3 := hm.blk.cell 3
  have vl := hm.blk.lt
  simp only [Vs.a, List.getElem?_toArray, List.getElem?_cons_zero, List.getElem?_cons_succ] at v0 v1 v3
  unfold Sl.v at v0 v1 v3
  rw [hcn] at v0
  rw [hwn] at v1
  rw [hhn] at v3
  have HBA := hide hA
  have HHC := hide (fun W => hasC_any s.cv.ao t.copies.length s.cv.c who W)
  have HHT := hide (fun W => hasT_any s.wv.ao t.wrote.length s.wv.c n W)
  have HHH := hide (fun W => hasH_any s.hv.ao t.heals.length s.hv.c n W)
  have HIC : Hid (decide (0 ≤ who ∧ who < (t.copies.length : Int)) = inR who t.copies.length) := hide rfl
  have HIT : Hid (decide (0 ≤ n ∧ n < (t.wrote.length : Int)) = inR n t.wrote.length) := hide rfl
  have HIH : Hid (decide (0 ≤ n ∧ n < (t.heals.length : Int)) = inR n t.heals.length) := hide rfl
  rw [HIC.out] at HHC
  rw [HIT.out] at HHT
  rw [HIH.out] at HHH
  clear hm hA hcn hwn hhn HIC HIT HIH
  generalize inR who t.copies.length = IC at *
  generalize inR n t.wrote.length = IT at *
  generalize inR n t.heals.length = IH at *
  generalize (if t.left.length = 0 then (6 : Int) else 0) = LC at *
  generalize begV t n = BV at *
  by_cases h0 : k = 0
  · have HE := hide (HF.out.trans (if_pos h0))
    subst h0
    go_enter Try.func46, Try.ntmps46
    go_wp2_with fail
    refine HWC.out.mono ?_
    rintro e w1 ⟨rfl, rfl⟩
    go_wp2_with fail
    go_ret
    exact ⟨by rw [HE.out] <;> rfl, HBA.out⟩
  have F1 := hide (HF.out.trans (if_neg h0))
  have b0 : (k == 0) = false := beq_eq_false_iff_ne.2 h0
  by_cases h1 : k = 1
  · have HE0 := hide (F1.out.trans (if_pos h1))
    subst h1
    clear h0 b0
    cases IC <;> cases IT
    all_goals
      have HE := HE0
      go_enter Try.func46, Try.ntmps46
      go_wp2_with fail
      go_quiet (first | (go_at_call 53; exact Calls.quiet_of_same (HHC.out _)) | (go_at_call 54; exact Calls.quiet_of_same (HHT.out _)) | (go_at_call 54; exact quiet_addG ((HHT.out _).mono fun _ _ ⟨h, h'⟩ => ⟨h, 0, h'⟩)) | (go_at_call 56; exact Calls.quiet_of_same (HHH.out _)) | (go_at_call 56; exact quiet_addG ((HHH.out _).mono fun _ _ ⟨h, h'⟩ => ⟨h, 0, h'⟩)))
      go_wp2_with fail
      go_ret
      exact ⟨by rw [HE.out] <;> rfl, below_drewN HBA.out _⟩
  have F2 := hide (F1.out.trans (if_neg h1))
  have b1 : (k == 1) = false := beq_eq_false_iff_ne.2 h1
  by_cases h2 : k = 2
  · have HE := hide (F2.out.trans (if_pos h2))
    subst h2
    clear h0 h1 b0 b1
    go_enter Try.func46, Try.ntmps46
    go_wp2_with fail
    refine HBC.out.mono ?_
    rintro e w1 ⟨rfl, hb1⟩
    have HB1 := hide (HBA.out.trans (hb1.mono HBA.out.size))
    clear hb1
    go_wp2_with fail
    go_ret
    exact ⟨by rw [HE.out] <;> rfl, HB1.out⟩
  have F3 := hide (F2.out.trans (if_neg h2))
  have b2 : (k == 2) = false := beq_eq_false_iff_ne.2 h2
  by_cases h3 : k = 3
  · have HE0 := hide (F3.out.trans (if_pos (.inl h3)))
    subst h3
    clear h0 h1 h2 b0 b1 b2
    cases IC <;> cases IH
    all_goals
      have HE := HE0
      go_enter Try.func46, Try.ntmps46
      go_wp2_with fail
      go_quiet (first | (go_at_call 53; exact Calls.quiet_of_same (HHC.out _)) | (go_at_call 54; exact Calls.quiet_of_same (HHT.out _)) | (go_at_call 54; exact quiet_addG ((HHT.out _).mono fun _ _ ⟨h, h'⟩ => ⟨h, 0, h'⟩)) | (go_at_call 56; exact Calls.quiet_of_same (HHH.out _)) | (go_at_call 56; exact quiet_addG ((HHH.out _).mono fun _ _ ⟨h, h'⟩ => ⟨h, 0, h'⟩)))
      go_wp2_with fail
      go_ret
      exact ⟨by rw [HE.out] <;> rfl, below_drewN HBA.out _⟩
  have b3 : (k == 3) = false := beq_eq_false_iff_ne.2 h3
  by_cases h5 : k = 5
  · have HE0 := hide (F3.out.trans (if_pos (.inr h5)))
    subst h5
    clear h0 h1 h2 h3 b0 b1 b2 b3
    cases IC <;> cases IH
    all_goals
      have HE := HE0
      go_enter Try.func46, Try.ntmps46
      go_wp2_with fail
      go_quiet (first | (go_at_call 53; exact Calls.quiet_of_same (HHC.out _)) | (go_at_call 54; exact Calls.quiet_of_same (HHT.out _)) | (go_at_call 54; exact quiet_addG ((HHT.out _).mono fun _ _ ⟨h, h'⟩ => ⟨h, 0, h'⟩)) | (go_at_call 56; exact Calls.quiet_of_same (HHH.out _)) | (go_at_call 56; exact quiet_addG ((HHH.out _).mono fun _ _ ⟨h, h'⟩ => ⟨h, 0, h'⟩)))
      go_wp2_with fail
      go_ret
      exact ⟨by rw [HE.out] <;> rfl, below_drewN HBA.out _⟩
  have F4 := hide (F3.out.trans (if_neg (fun q => q.elim h3 h5)))
  have b5 : (k == 5) = false := beq_eq_false_iff_ne.2 h5
  by_cases h4 : k = 4
  · have HE0 := hide (F4.out.trans (if_pos h4))
    subst h4
    clear h0 h1 h2 h3 h5 b0 b1 b2 b3 b5
    cases IH
    all_goals
      have HE := HE0
      go_enter Try.func46, Try.ntmps46
      go_wp2_with fail
      go_quiet (first | (go_at_call 53; exact Calls.quiet_of_same (HHC.out _)) | (go_at_call 54; exact Calls.quiet_of_same (HHT.out _)) | (go_at_call 54; exact quiet_addG ((HHT.out _).mono fun _ _ ⟨h, h'⟩ => ⟨h, 0, h'⟩)) | (go_at_call 56; exact Calls.quiet_of_same (HHH.out _)) | (go_at_call 56; exact quiet_addG ((HHH.out _).mono fun _ _ ⟨h, h'⟩ => ⟨h, 0, h'⟩)))
      go_wp2_with fail
      go_ret
      exact ⟨by rw [HE.out] <;> rfl, below_drewN HBA.out _⟩
  · have HE := hide (F4.out.trans (if_neg h4))
    have b4 : (k == 4) = false := beq_eq_false_iff_ne.2 h4
    clear h0 h1 h2 h3 h4 h5
    go_enter Try.func46, Try.ntmps46
    go_wp2_with fail
    go_ret
    exact ⟨by rw [HE.out] <;> rfl, HBA.out⟩

end Go.Proofs.Ytopnjklloleomaa
