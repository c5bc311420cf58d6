/-
  Texts joined: AsR1.
-/
import Derived.Test.YtoeobhehjnkkkaaMLocateDoesAsW8
import Derived.Test.YtoeobhehjnkkkaaMLocateDoes4
import Derived.Lib.Overlaps
import Derived.Deep.RegionLaw
/-
  slices.Replace at slots, as renew calls it: where what is replaced stands at the end.
-/
namespace Go.Proofs.Ytoeobhehjnkkkaa
open Go.RowKit
set_option linter.unusedVariables false

/-- 's[lo:hi]'. -/
theorem run_slice_bothK {K : Nat} {P : Program} {t e : TypeId} {z : Value} {bytes : Nat} (ht : P.underlying t = some (.slice e)) (he : P.elem t = e) (hinf : (P.info? e).map (fun i => (i.zero, i.size, i.bytes)) = some (some z, K, bytes))
    (ao : Option Addr) (n cap lo hi : Nat) (l h : Int) (hl : l = lo) (hh : h = hi) (h1 : lo ≤ hi) (h2 : hi ≤ cap) (W : World) :
    (Instr.slice t (.slice ao n cap) (some (.int .i64 l)) (some (.int .i64 h)) none).run P W = .ok (Go.sliced ao lo hi cap K) W := by
  obtain ⟨i, hi0, _, hsize, _⟩ := info_parts hinf
  subst hl hh
  rw [run_slice_lh (P := P) W t ao n cap (by rw [he]; exact ht) .i64 .i64 lo hi (by omega) (by omega) (by omega)]
  simp [he, sizeOf, typeInfo, hi0, hsize, Result.andThen]

/-- The first of a row of one's own. -/
theorem owns_pre {α : Type} {K : Nat} {E : En α K} {w : World} {base : Nat} {e : TypeId} {g n cap i : Nat} {l : List α} (h : w.ownsRow base e K (.slice (some ⟨g, 0, none⟩) n cap) n (E.vs l)) (hi : i ≤ n) :
    w.ownsRow base e K (.slice (some ⟨g, 0, none⟩) i cap) i (E.vs (l.take i)) := by
  have hl := owns_len h
  rcases h.2 with ⟨h0, _⟩ | ⟨g', cap', cur, hv, hb, hg, hnc, hcm, hcs, ht⟩
  · cases h0
  simp only [Value.slice.injEq, Option.some.injEq, Addr.mk.injEq] at hv
  obtain ⟨⟨rfl, -, -⟩, -, rfl⟩ := hv
  refine ⟨by rw [vs_length, List.length_take]; congr 1; omega, .inr ⟨g, cap, cur, rfl, hb, hg, by omega, hcm, hcs, ?_⟩⟩
  rw [← vs_take, ← ht, List.take_take]
  congr 1
  exact (Nat.min_eq_left (Nat.mul_le_mul_right _ hi)).symm

/-- What slices.Replace leaves. -/
def RepTo (w : World) (base g : Nat) (l : List Sl) (e : Ending) (w' : World) : Prop :=
  ∃ v', e = .returned v' ∧ w'.ownsRow base 46 6 v' l.length (slE.vs l) ∧ w.grownBy w' (some g)

set_option maxRecDepth 100000 in
set_option maxHeartbeats 2000000 in
theorem replLast2 (base g cap i : Nat) (l : List Sl) (a b : Sl) (vv : Value) (w : World) (hown : w.ownsRow base 46 6 (.slice (some ⟨g, 0, none⟩) l.length cap) l.length (slE.vs l)) (hi : i + 1 = l.length) (hl : l.length ≤ 1000) (hv : RdG slE w vv [a, b]) (hbw : base ≤ w.heap.size) :
    Calls Try.prog 109 #[.slice (some ⟨g, 0, none⟩) l.length cap, .int .i64 i, .int .i64 ((i : Int) + 1), vv] w (RepTo w base g (l.take i ++ [a, b])) := by
  obtain ⟨_, _, _, hv0, _, _, hnc, hcm, _, _⟩ := owns_pos hown (by omega)
  simp only [Value.slice.injEq, Option.some.injEq, Addr.mk.injEq] at hv0
  obtain ⟨-, -, rfl⟩ := hv0
  have hcm2 := hcm
  unfold maxLen at hcm2
  have hO := hide (owns_pre hown (show i ≤ l.length by omega))
  have HV := hide hv
  obtain ⟨ao, vcap, rfl, hc1, hc2⟩ := hv.shape
  have hs0 := run_slice_bothK (P := Try.prog) Try.underlying25 (by kernel_rfl) infoSlot (some ⟨g, 0, none⟩) l.length cap i (i + 1) i ((i : Int) + 1) rfl (by omega) (by omega) (by omega)
  have hs1 := run_slice_uptoK (P := Try.prog) Try.underlying25 (by kernel_rfl) infoSlot (some ⟨g, 0, none⟩) l.length cap i i rfl (by omega)
  have es : Go.sliced (some ⟨g, 0, none⟩) 0 i cap 6 = .slice (some ⟨g, 0, none⟩) i cap := by
    unfold Go.sliced
    split <;> simp [Addr.add_lit]
  rw [es] at hs1
  generalize hsx : Go.sliced (some ⟨g, 0, none⟩) i (i + 1) cap 6 = sx at hs0
  have e1 : ((i : Int) == (i : Int) + 1) = false := beq_eq_false_iff_ne.2 (by omega)
  have e2 : ((i : Int) + 1 == (l.length : Int)) = true := by simp; omega
  have e3 : decide ((i : Int) + 2 < (l.length : Int)) = false := decide_eq_false (by omega)
  have hlen : (l.take i ++ [a, b]).length = i + 2 := by rw [List.length_append, List.length_take]; simp; omega
  have hN := hide hlen
  have hib : i ≤ 1000 := by omega
  clear hown hv es hsx hi hlen
  go_enter Try.func109, Try.ntmps109
  go_wp2_with (at_builtin; refine wpList_append_rdG (E := slE) hO.out HV.out Try.underlying25 infoSlot rfl rfl rfl rfl rfl (by simp; omega) (by decide) hbw ?_; intro v5 w5 ho5 hb5 hg5; obtain ⟨ao5, cap5, rfl⟩ := owns_shapeA ho5; have HO5 := hide ho5; have HG5 := hide hg5; clear ho5 hb5 hg5)
  go_ret
  exact ⟨_, rfl, by rw [hN.out]; exact HO5.out, HG5.out⟩

theorem slot_one : ∀ u ∈ (Value.agg #[.string ⟨#[]⟩, .string ⟨#[]⟩, .int .i64 0, .int .i64 0, .int .i64 0, .int .i64 0]).cells.toList, u.oneCell' = true := by
  intro u hu
  simp [Value.cells] at hu
  rcases hu with rfl | rfl <;> rfl

theorem zero_slot (W : World) : (zeroValue 46).run Try.prog W = .ok (.agg #[.string ⟨#[]⟩, .string ⟨#[]⟩, .int .i64 0, .int .i64 0, .int .i64 0, .int .i64 0]) W := by
  obtain ⟨i, hi, hz, _, _⟩ := info_parts infoSlot
  simp [zeroValue, typeInfo, hi, hz]

theorem grown_twice {w w1 w2 : World} {o : Option Nat} (h1 : w.grownBy w1 o) (h2 : w1.grownBy w2 o) : w.grownBy w2 o :=
  ⟨h2.os.trans h1.os, h2.tape.trans h1.tape, h2.output.trans h1.output, Nat.le_trans h1.size h2.size, fun k hk hne => (h2.block k (Nat.lt_of_lt_of_le hk h1.size) hne).trans (h1.block k hk hne)⟩

/-- A slice that reads as something lies somewhere. -/
theorem RdG.addr {α : Type} {K : Nat} {E : En α K} {w : World} {v : Value} {x : α} {xs : List α} (h : RdG E w v (x :: xs)) : ∃ a c, v = .slice (some a) (xs.length + 1) c ∧ ∀ j u, (E.vs (x :: xs))[j]? = some u → w.cell? (a.add j) = some u := by
  obtain ⟨ao, cap, h1, h2, h3, h4, h5⟩ := h
  cases ao with
  | none => have := h4 rfl; simp at h2; omega
  | some a => exact ⟨a, cap, h1, h5 a rfl⟩

set_option maxRecDepth 100000 in
set_option maxHeartbeats 2000000 in
theorem replLast1 (base g cap i : Nat) (l : List Sl) (a : Sl) (vv : Value) (w : World) (hown : w.ownsRow base 46 6 (.slice (some ⟨g, 0, none⟩) l.length cap) l.length (slE.vs l)) (hi : i + 2 = l.length) (hl : l.length ≤ 1000) (hv : RdG slE w vv [a]) (hbw : base ≤ w.heap.size) :
    Calls Try.prog 109 #[.slice (some ⟨g, 0, none⟩) l.length cap, .int .i64 i, .int .i64 ((i : Int) + 2), vv] w (RepTo w base g (l.take i ++ [a])) := by
  obtain ⟨g', _, cur, hv0, hbg, hg, hnc, hcm, hcs, htk⟩ := owns_pos hown (by omega)
  simp only [Value.slice.injEq, Option.some.injEq, Addr.mk.injEq] at hv0
  obtain ⟨⟨rfl, -, -⟩, -, rfl⟩ := hv0
  have hcm2 := hcm
  unfold maxLen at hcm2
  have hO := hide (owns_pre hown (show i ≤ l.length by omega))
  obtain ⟨ad, vcap, rfl, hsrc⟩ := hv.addr
  have hs0 := run_slice_bothK (P := Try.prog) Try.underlying25 (by kernel_rfl) infoSlot (some ⟨g, 0, none⟩) l.length cap i (i + 2) i ((i : Int) + 2) rfl (by omega) (by omega) (by omega)
  have hs1 := run_slice_uptoK (P := Try.prog) Try.underlying25 (by kernel_rfl) infoSlot (some ⟨g, 0, none⟩) l.length cap i i rfl (by omega)
  have hs2 := run_slice_fromK (P := Try.prog) Try.underlying25 (by kernel_rfl) infoSlot (some ⟨g, 0, none⟩) l.length cap (i + 1) ((i : Int) + 1) (by simp) (by omega)
  have es : Go.sliced (some ⟨g, 0, none⟩) 0 i cap 6 = .slice (some ⟨g, 0, none⟩) i cap := by
    unfold Go.sliced
    split <;> simp [Addr.add_lit]
  have es2 : Go.sliced (some ⟨g, 0, none⟩) (i + 1) l.length cap 6 = .slice (some ⟨g, (i + 1) * 6, none⟩) 1 (cap - (i + 1)) := by
    unfold Go.sliced
    rw [if_neg (by omega), show l.length - (i + 1) = 1 by omega]
    simp [Addr.add_lit]
  rw [es] at hs1
  rw [es2] at hs2
  generalize hsx : Go.sliced (some ⟨g, 0, none⟩) i (i + 2) cap 6 = sx at hs0
  have e1 : ((i : Int) == (i : Int) + 2) = false := beq_eq_false_iff_ne.2 (by omega)
  have e2 : ((i : Int) + 2 == (l.length : Int)) = true := by simp; omega
  have e3 : decide ((i : Int) + 1 < (l.length : Int)) = true := decide_eq_true (by omega)
  have hrm : i + 1 ≤ cap := by omega
  obtain ⟨I, hI, hz, hsize, hby⟩ := info_parts infoSlot
  have hvl : (slE.vs [a]).length = 6 := by rw [vs_length]; rfl
  have happ := run_append_room (P := Try.prog) w 25 25 46 I Try.underlying25 hI g i cap cur hg ad 1 vcap (slE.vs [a]) (by rw [hvl, hsize]) hsrc (vs_one _) hrm (by rw [hvl, hsize, hcs]; omega)
  rw [hsize, hvl] at happ
  have ht1 : cur.toList.take (i * 6) = slE.vs (l.take i) := by
    rw [← vs_take, ← htk, List.take_take]
    congr 1
    omega
  have hlt1 : (cur.toList.take (i * 6)).length = i * 6 := by rw [ht1, vs_length, List.length_take]; omega
  have key := owns_setRow (K := 6) (w := w) (xs := slE.vs (l.take i ++ [a])) (n := i + 1) (new := (cur.toList.take (i * 6) ++ slE.vs [a] ++ cur.toList.drop (i * 6 + 6)).toArray) hbg hg hrm hcm
    (by simp only [List.size_toArray, List.length_append, hlt1, hvl, List.length_drop, Array.length_toList, hcs]; omega)
    (by
      have e : (cur.toList.take (i * 6) ++ slE.vs [a]).length = (i + 1) * 6 := by rw [List.length_append, hlt1, hvl]; omega
      rw [← e, List.take_left, ht1, ← vs_append])
    (by rw [vs_length, List.length_append, List.length_take]; simp; omega)
  obtain ⟨w1, hw1⟩ : ∃ w1, w.setRow g (cur.toList.take (i * 6) ++ slE.vs [a] ++ cur.toList.drop (i * 6 + 6)).toArray = w1 := ⟨_, rfl⟩
  rw [hw1] at happ key
  obtain ⟨w2, hr2, ho2, hg2⟩ := run_clear_behind (K := 6) (ty := 0) (c := cap - (i + 1)) Try.underlying25 rfl slot_one key.1 (by omega) zero_slot
  have hlen : (l.take i ++ [a]).length = i + 1 := by rw [List.length_append, List.length_take]; simp; omega
  have hN := hide hlen
  have HO := hide ho2
  have HG := hide (grown_twice key.2 hg2)
  clear hown hv es es2 hsx hi hlen ht1 hlt1 key hw1 ho2 hg2 htk hg hcs hsrc hvl hsize hz hby hI
  go_enter Try.func109, Try.ntmps109
  go_wp2_with (at_builtin; refine Lib.wpList_append_run _ rfl _ _ _ _ rfl _ _ rfl rfl _ _ happ ?_)
  go_ret
  exact ⟨_, rfl, by rw [hN.out]; exact HO.out, HG.out⟩

end Go.Proofs.Ytoeobhehjnkkkaa
