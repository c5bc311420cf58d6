/-
  The walks over the court's small functions: goOn, has, isStep, take, putOnWay; slices.Delete of wishes and replies.
-/
import Derived.Test.YtfmoniabpinceafLeaseW1
import Derived.Test.YtfmoniabpinceafGenE
import Derived.Deep.RegionLaw
namespace Go.Proofs.Ytfmoniabpinceaf
open Go.RowKit
set_option linter.unusedVariables false

def iE : En Int 1 where
  v x := [.int .i64 x]
  len _ := rfl
  one p u hu := by
    simp only [List.mem_cons, List.not_mem_nil, or_false] at hu
    rcases hu with rfl
    rfl
  pos := by decide

def tE : En Tr 2 where
  v t := [.int .i64 t.ep, .int .i64 t.til]
  len _ := rfl
  one p u hu := by
    simp only [List.mem_cons, List.not_mem_nil, or_false] at hu
    rcases hu with rfl | rfl <;> rfl
  pos := by decide

def wsE : En Ws 3 where
  v t := [.int .i64 t.who, .int .i64 t.sent, .int .i64 t.ep]
  len _ := rfl
  one p u hu := by
    simp only [List.mem_cons, List.not_mem_nil, or_false] at hu
    rcases hu with rfl | rfl | rfl <;> rfl
  pos := by decide

def rpE : En Rp 3 where
  v t := [.int .i64 t.who, .int .i64 t.ep, .int .i64 t.til]
  len _ := rfl
  one p u hu := by
    simp only [List.mem_cons, List.not_mem_nil, or_false] at hu
    rcases hu with rfl | rfl | rfl <;> rfl
  pos := by decide

def ddE : En Dd 3 where
  v t := [.int .i64 t.kind, .int .i64 t.who, .int .i64 t.n]
  len _ := rfl
  one p u hu := by
    simp only [List.mem_cons, List.not_mem_nil, or_false] at hu
    rcases hu with rfl | rfl | rfl <;> rfl
  pos := by decide

/-- All but two blocks as it was. -/
structure Kp2 (w w' : World) (B : Nat) (o : Option Nat) : Prop where
  os : w'.os = w.os
  tape : w'.tape = w.tape
  output : w'.output = w.output
  size : w.heap.size ≤ w'.heap.size
  block : ∀ k, k < w.heap.size → k ≠ B → some k ≠ o → w'.heap[k]? = w.heap[k]?

theorem Kp2.below {w w' : World} {B : Nat} {o : Option Nat} (h : Kp2 w w' B o) {C : Nat} (hC : C ≤ w.heap.size) (hB : C ≤ B) (ho : ∀ k, o = some k → C ≤ k) : Below C w w' :=
  ⟨h.os, h.tape, h.output, h.size, fun k hk => h.block k (by omega) (by omega) (fun q => by have := ho k q.symm; omega)⟩

theorem Kp2.owns {w w' : World} {B : Nat} {o : Option Nat} (h : Kp2 w w' B o) {base : Nat} {e : TypeId} {K : Nat} {v : Value} {n : Nat} {xs : List Value} (hown : w.ownsRow base e K v n xs) (h1 : v.ownBlock ≠ some B) (h2 : v.ownBlock = none ∨ v.ownBlock ≠ o) : w'.ownsRow base e K v n xs := by
  refine ⟨hown.1, ?_⟩
  rcases hown.2 with hn | ⟨g, cap, cur, rfl, hb, hg, r⟩
  · exact .inl hn
  · refine .inr ⟨g, cap, cur, rfl, hb, ?_, r⟩
    rw [h.block g (Array.getElem?_eq_some_iff.1 hg).1 (fun q => h1 (by simp [Value.ownBlock, q])) (fun q => by
      rcases h2 with h2 | h2
      · simp [Value.ownBlock] at h2
      · exact h2 (by simp [Value.ownBlock, q]))]
    exact hg

theorem Kp2.blk {w w' : World} {B : Nat} {o : Option Nat} (h : Kp2 w w' B o) {C : Nat} {t : TypeId} {xs : Array Value} (hC : Blk w C t xs) (h1 : C ≠ B) (h2 : some C ≠ o) : Blk w' C t xs := by
  unfold Blk
  rw [h.block C hC.lt h1 h2]
  exact hC

theorem three_one : ∀ u ∈ (Value.agg #[.int .i64 0, .int .i64 0, .int .i64 0]).cells.toList, u.oneCell' = true := by
  intro u hu
  have hu' : u ∈ ([.int .i64 0, .int .i64 0, .int .i64 0] : List Value) := hu
  simp only [List.mem_cons, List.not_mem_nil, or_false] at hu'
  rcases hu' with rfl | rfl | rfl <;> rfl

theorem Kp2.of {w A w5 : World} {o : Option Nat} (hA : Below w.heap.size w A) (hg : A.grownBy w5 o) (B k : Nat) (v : Value) : Kp2 w (w5.setCell ⟨B, k, none⟩ v) B o := by
  have hs : (w5.setCell ⟨B, k, none⟩ v).heap.size = w5.heap.size := by simp
  refine ⟨hg.os.trans hA.os, hg.tape.trans hA.tape, hg.output.trans hA.output, ?_, fun j hj hB ho => ?_⟩
  · rw [hs]
    exact Nat.le_trans hA.size hg.size
  · rw [heap_setCell_other w5 ⟨B, k, none⟩ j v hB, hg.block j (Nat.lt_of_lt_of_le hj hA.size) ho, hA.block j hj]

theorem Kp2.past {w w' : World} {B : Nat} {o : Option Nat} (h : Kp2 w w' B o) {p : Addr} (hp : w.heap.size ≤ p.block) (u : Value) : Kp2 w (w'.setCell p u) B o := by
  have hs : (w'.setCell p u).heap.size = w'.heap.size := by simp
  refine ⟨h.os, h.tape, h.output, ?_, fun j hj hB ho => ?_⟩
  · rw [hs]; exact h.size
  · rw [heap_setCell_other w' p j u (by omega)]
    exact h.block j hj hB ho

theorem owns_shapeK {w : World} {base : Nat} {e : TypeId} {K : Nat} {v : Value} {n : Nat} {xs : List Value} (h : w.ownsRow base e K v n xs) : ∃ ao cap, v = .slice ao n cap := by
  rcases h.2 with ⟨rfl, hn⟩ | ⟨g, cap, cur, rfl, _⟩
  · exact ⟨none, 0, by rw [hn]⟩
  · exact ⟨_, _, rfl⟩

/-- An append's step inside a region: one is taken out of a row of one's own. -/
theorem step_within {α : Type} {K : Nat} {E : En α K} {P : Program} {w : World} {ops : Array Oper} {o : Oper} {a : Act} {KK : Act → World → Prop} {Q : Exit → Act → World → Prop} {EE : Prop} {s x : Operand} {base : Nat} {t e : TypeId} {z : Value} {bytes g n cap i c : Nat} {cs : List α} {ad : Addr}
    (hown : w.ownsRow base e K (.slice (some ⟨g, 0, none⟩) n cap) n (E.vs cs)) (ht : P.underlying t = some (.slice e)) (hinf : (P.info? e).map (fun i => (i.zero, i.size, i.bytes)) = some (some z, K, bytes)) (hi : i < n) (ha : i + 1 < n → ad = ⟨g, (i + 1) * K, none⟩)
    (hgd : o.guard = none) (ho : o.op = .call { callee := .builtin .append, args := #[s, x], argTypes := #[t, t] })
    (hs : a.eval s = .slice (some ⟨g, 0, none⟩) i cap) (hx : a.eval x = .slice (some ad) (n - (i + 1)) c)
    (h : ∀ w', w'.ownsRow base e K (.slice (some ⟨g, 0, none⟩) (n - 1) cap) (n - 1) (E.vs (cs.eraseIdx i)) → w.grownBy w' (some g) → KK (a.put o.dst (.slice (some ⟨g, 0, none⟩) (n - 1) cap)) w') :
    if Region.wanted o (yielded ops a.tmps) = true then Oper.wp P o a w KK Q else EE := by
  have hw : Region.wanted o (yielded ops a.tmps) = true := by simp [Region.wanted, hgd]
  rw [if_pos hw]
  obtain ⟨w', hr, h2, h3⟩ := run_append_within (ty := o.type) (c := c) ht hinf hown hi ha
  unfold Oper.wp execOp
  simp only [ho, resolve, invoke, builtin, Sem.run_bind, Sem.run_pure, Result.andThen_ok, List.map_toArray, List.map_cons, List.map_nil, hs, hx, hr]
  exact h w' h2 h3

def goOnC (x n : Int) : Int := if 900000000 < x + n then 9 else 0
def goOnW (w : World) (b off : Nat) (x n : Int) : World := if 900000000 < x + n then w else w.setCell ⟨b, off, none⟩ (.int .i64 (x + n))

set_option maxRecDepth 100000 in
set_option maxHeartbeats 400000 in
theorem goOn_any (b off : Nat) (x n : Int) (w : World) (hc : w.cell? ⟨b, off, none⟩ = some (.int .i64 x)) (hf : w.frozen? ⟨b, off, none⟩ = false) (hx : 0 ≤ x ∧ x ≤ 900000000) (hn : 0 ≤ n ∧ n ≤ 1000000) :
    Calls Try.prog 73 #[.pointer (some ⟨b, off, none⟩), .int .i64 n] w fun e w' => e = .returned (.int .i64 (goOnC x n)) ∧ w' = goOnW w b off x n := by
  have hw : IntKind.i64.wrap (x + n) = x + n := by rw [IntKind.wrap_i64]; omega
  have hl := World.block_lt_of_cell? w _ hc
  simp only at hl
  by_cases h : 900000000 < x + n
  · have H1 := hide (show goOnC x n = 9 by rw [goOnC, if_pos h])
    have H2 := hide (show goOnW w b off x n = w by rw [goOnW, if_pos h])
    clear hx hn
    go_enter Try.func73, Try.ntmps73
    go_wp2_with fail
    go_ret
    exact ⟨by rw [H1.out]; rfl, H2.out.symm⟩
  · have H1 := hide (show goOnC x n = 0 by rw [goOnC, if_neg h])
    have H2 := hide (show goOnW w b off x n = w.setCell ⟨b, off, none⟩ (.int .i64 (x + n)) by rw [goOnW, if_neg h])
    clear hx hn
    go_enter Try.func73, Try.ntmps73
    go_wp2_with fail
    go_ret
    exact ⟨by rw [H1.out]; rfl, H2.out.symm⟩

/-- Is there an i-th one? -/
def hasN (l : Nat) (n : Int) : Bool := decide (0 ≤ n ∧ n < l)

set_option maxRecDepth 100000 in
set_option maxHeartbeats 400000 in
theorem hasI_any (ao : Option Addr) (l cap : Nat) (n : Int) (w : World) : Calls Try.prog 81 #[.slice ao l cap, .int .i64 n] w fun e w' => e = .returned (.bool (hasN l n)) ∧ w' = w := by
  by_cases h : 0 ≤ n
  · have hd : decide (0 ≤ n) = true := decide_eq_true h
    go_enter Try.func81, Try.ntmps81
    go_wp2_with fail
    go_ret
    exact ⟨by simp [hasN, h], rfl⟩
  · have hd : decide (0 ≤ n) = false := decide_eq_false h
    go_enter Try.func81, Try.ntmps81
    go_wp2_with fail
    go_ret
    exact ⟨by simp [hasN]; omega, rfl⟩

set_option maxRecDepth 100000 in
set_option maxHeartbeats 400000 in
theorem hasW_any (ao : Option Addr) (l cap : Nat) (n : Int) (w : World) : Calls Try.prog 82 #[.slice ao l cap, .int .i64 n] w fun e w' => e = .returned (.bool (hasN l n)) ∧ w' = w := by
  by_cases h : 0 ≤ n
  · have hd : decide (0 ≤ n) = true := decide_eq_true h
    go_enter Try.func82, Try.ntmps82
    go_wp2_with fail
    go_ret
    exact ⟨by simp [hasN, h], rfl⟩
  · have hd : decide (0 ≤ n) = false := decide_eq_false h
    go_enter Try.func82, Try.ntmps82
    go_wp2_with fail
    go_ret
    exact ⟨by simp [hasN]; omega, rfl⟩

set_option maxRecDepth 100000 in
set_option maxHeartbeats 400000 in
theorem hasR_any (ao : Option Addr) (l cap : Nat) (n : Int) (w : World) : Calls Try.prog 83 #[.slice ao l cap, .int .i64 n] w fun e w' => e = .returned (.bool (hasN l n)) ∧ w' = w := by
  by_cases h : 0 ≤ n
  · have hd : decide (0 ≤ n) = true := decide_eq_true h
    go_enter Try.func83, Try.ntmps83
    go_wp2_with fail
    go_ret
    exact ⟨by simp [hasN, h], rfl⟩
  · have hd : decide (0 ≤ n) = false := decide_eq_false h
    go_enter Try.func83, Try.ntmps83
    go_wp2_with fail
    go_ret
    exact ⟨by simp [hasN]; omega, rfl⟩

def stepN (n : Int) : Bool := decide (0 ≤ n ∧ n ≤ 1000000)

set_option maxRecDepth 100000 in
set_option maxHeartbeats 400000 in
theorem isStep_any (n : Int) (w : World) : Calls Try.prog 80 #[.int .i64 n] w fun e w' => e = .returned (.bool (stepN n)) ∧ w' = w := by
  by_cases h : 0 ≤ n
  · have hd : decide (0 ≤ n) = true := decide_eq_true h
    go_enter Try.func80, Try.ntmps80
    go_wp2_with fail
    go_ret
    exact ⟨by simp [stepN, h], rfl⟩
  · have hd : decide (0 ≤ n) = false := decide_eq_false h
    go_enter Try.func80, Try.ntmps80
    go_wp2_with fail
    go_ret
    exact ⟨by simp [stepN]; omega, rfl⟩

theorem infoW : (Try.prog.info? 105).map (fun i => (i.zero, i.size, i.bytes)) = some (some (.agg #[.int .i64 0, .int .i64 0, .int .i64 0]), 3, 24) := by kernel_rfl

theorem zeroW (W : World) : (zeroValue 105).run Try.prog W = .ok (.agg #[.int .i64 0, .int .i64 0, .int .i64 0]) W := by
  obtain ⟨i, hi, hz, _, _⟩ := info_parts infoW
  simp [zeroValue, typeInfo, hi, hz]

set_option maxRecDepth 100000 in
set_option maxHeartbeats 2000000 in
theorem DeleteW_any (v : Value) (n i base : Nat) (cs : List Ws) (w : World) (hown : w.ownsRow base 105 3 v n (wsE.vs cs)) (hi : i < n) (hn : n ≤ 1000) :
    Calls Try.prog 86 #[v, .int .i64 i, .int .i64 ((i : Int) + 1)] w fun e w' => ∃ v', e = .returned v' ∧ w'.ownsRow base 105 3 v' (n - 1) (wsE.vs (cs.eraseIdx i)) ∧ w.grownBy w' v.ownBlock ∧ v'.ownBlock = v.ownBlock ∧ ∃ ao cap, v' = .slice ao (n - 1) cap := by
  obtain ⟨g, cap, cur, rfl, hb, hg, hnc, hcm, hcs, htake⟩ := owns_pos hown (by omega)
  have hOWN := hide hown
  unfold maxLen at hcm
  obtain ⟨ad, had⟩ : ∃ ad : Addr, (if cap = i + 1 then (⟨g, 0, none⟩ : Addr) else ⟨g, (i + 1) * 3, none⟩) = ad := ⟨_, rfl⟩
  have had1 : i + 1 < n → ad = ⟨g, (i + 1) * 3, none⟩ := fun h => by rw [← had, if_neg (by omega)]
  have hsA : ∀ W, (Instr.slice 61 (.slice (some ⟨g, 0, none⟩) n cap) none (some (.int .i64 i)) none).run Try.prog W = .ok (.slice (some ⟨g, 0, none⟩) i cap) W := fun W => by
    rw [run_slice_uptoK (P := Try.prog) (K := 3) Try.underlying61 (by kernel_rfl) infoW _ n cap i i rfl (by omega) W]
    simp [Go.sliced, Addr.add_lit]
  have hsB : ∀ W, (Instr.slice 61 (.slice (some ⟨g, 0, none⟩) n cap) (some (.int .i64 ((i : Int) + 1))) none none).run Try.prog W = .ok (.slice (some ad) (n - (i + 1)) (cap - (i + 1))) W := fun W => by
    rw [run_slice_fromK (P := Try.prog) (K := 3) Try.underlying61 (by kernel_rfl) infoW _ n cap (i + 1) ((i : Int) + 1) (by omega) (by omega) W, ← had]
    unfold Go.sliced
    by_cases q : cap = i + 1
    · rw [if_pos q, if_pos q]
    · rw [if_neg q, if_neg q]
      simp [Addr.add_lit]
  have hsC : ∃ u, ∀ W, (Instr.slice 61 (.slice (some ⟨g, 0, none⟩) n cap) (some (.int .i64 i)) (some (.int .i64 ((i : Int) + 1))) (some (.int .i64 n))).run Try.prog W = .ok u W := by
    obtain ⟨I, hI, _, hsize, _⟩ := info_parts infoW
    refine ⟨Go.sliced (some ⟨g, 0, none⟩) i (i + 1) n 3, fun W => ?_⟩
    rw [run_slice_lhm (P := Try.prog) W 61 (some ⟨g, 0, none⟩) n cap (by rw [show Try.prog.elem 61 = 105 by kernel_rfl]; exact Try.underlying61) .i64 .i64 .i64 i ((i : Int) + 1) n (by omega) (by omega) (by omega) (by omega)]
    simp [show Try.prog.elem 61 = 105 by kernel_rfl, sizeOf, typeInfo, hI, hsize, Result.andThen]
  have hsD : ∀ W, (Instr.slice 61 (.slice (some ⟨g, 0, none⟩) (n - 1) cap) (some (.int .i64 ((n - 1 : Nat) : Int))) (some (.int .i64 n)) none).run Try.prog W = .ok (.slice (some ⟨g, (n - 1) * 3, none⟩) 1 (cap - (n - 1))) W := fun W => by
    rw [run_slice_lhK (P := Try.prog) (K := 3) Try.underlying61 (by kernel_rfl) infoW _ (n - 1) cap (n - 1) n ((n - 1 : Nat) : Int) n rfl rfl (by omega) (by omega) W]
    unfold Go.sliced
    rw [if_neg (by omega), show n - (n - 1) = 1 by omega]
    simp [Addr.add_lit]
  obtain ⟨u, hsC⟩ := hsC
  have hne : ((i : Int) == (i : Int) + 1) = false := beq_eq_false_iff_ne.2 (by omega)
  clear had hown hg hcs htake
  go_enter Try.func86, Try.ntmps86
  go_wp2_with fail
  go_region_held3 (fun W => Hid True) (exact hide trivial) (first
    | (refine step_within (E := wsE) (by exact hOWN.out) Try.underlying61 infoW hi had1 (by rfl) (by rfl) (by rfl) (by rfl) ?_; intro w5 ho5 hg5))
  all_goals
    have HO5 := hide ho5
    have HG5 := hide hg5
    clear ho5 hg5
    have hlen : IntKind.i64.wrap ((n - 1 : Nat) : Int) = ((n - 1 : Nat) : Int) := by rw [IntKind.wrap_i64]; omega
    obtain ⟨w6, hr6, ho6, hg6⟩ := run_clear_behind (K := 3) (ty := 0) (c := cap - (n - 1)) Try.underlying61 rfl three_one HO5.out (by omega) zeroW
    have hg56 : w.grownBy w6 (some g) := ⟨hg6.os.trans HG5.out.os, hg6.tape.trans HG5.out.tape, hg6.output.trans HG5.out.output, Nat.le_trans HG5.out.size hg6.size, fun k hk hne => (hg6.block k (Nat.lt_of_lt_of_le hk HG5.out.size) hne).trans (HG5.out.block k hk hne)⟩
    have HO6 := hide ho6
    have HG6 := hide hg56
    clear ho6 hg6 hg56
    go_wp2_with fail
    go_ret
    exact ⟨_, rfl, HO6.out, HG6.out, rfl, _, _, rfl⟩

theorem infoR : (Try.prog.info? 107).map (fun i => (i.zero, i.size, i.bytes)) = some (some (.agg #[.int .i64 0, .int .i64 0, .int .i64 0]), 3, 24) := by kernel_rfl

theorem zeroR (W : World) : (zeroValue 107).run Try.prog W = .ok (.agg #[.int .i64 0, .int .i64 0, .int .i64 0]) W := by
  obtain ⟨i, hi, hz, _, _⟩ := info_parts infoR
  simp [zeroValue, typeInfo, hi, hz]

set_option maxRecDepth 100000 in
set_option maxHeartbeats 2000000 in
theorem DeleteR_any (v : Value) (n i base : Nat) (cs : List Rp) (w : World) (hown : w.ownsRow base 107 3 v n (rpE.vs cs)) (hi : i < n) (hn : n ≤ 1000) :
    Calls Try.prog 87 #[v, .int .i64 i, .int .i64 ((i : Int) + 1)] w fun e w' => ∃ v', e = .returned v' ∧ w'.ownsRow base 107 3 v' (n - 1) (rpE.vs (cs.eraseIdx i)) ∧ w.grownBy w' v.ownBlock ∧ v'.ownBlock = v.ownBlock ∧ ∃ ao cap, v' = .slice ao (n - 1) cap := by
  obtain ⟨g, cap, cur, rfl, hb, hg, hnc, hcm, hcs, htake⟩ := owns_pos hown (by omega)
  have hOWN := hide hown
  unfold maxLen at hcm
  obtain ⟨ad, had⟩ : ∃ ad : Addr, (if cap = i + 1 then (⟨g, 0, none⟩ : Addr) else ⟨g, (i + 1) * 3, none⟩) = ad := ⟨_, rfl⟩
  have had1 : i + 1 < n → ad = ⟨g, (i + 1) * 3, none⟩ := fun h => by rw [← had, if_neg (by omega)]
  have hsA : ∀ W, (Instr.slice 62 (.slice (some ⟨g, 0, none⟩) n cap) none (some (.int .i64 i)) none).run Try.prog W = .ok (.slice (some ⟨g, 0, none⟩) i cap) W := fun W => by
    rw [run_slice_uptoK (P := Try.prog) (K := 3) Try.underlying62 (by kernel_rfl) infoR _ n cap i i rfl (by omega) W]
    simp [Go.sliced, Addr.add_lit]
  have hsB : ∀ W, (Instr.slice 62 (.slice (some ⟨g, 0, none⟩) n cap) (some (.int .i64 ((i : Int) + 1))) none none).run Try.prog W = .ok (.slice (some ad) (n - (i + 1)) (cap - (i + 1))) W := fun W => by
    rw [run_slice_fromK (P := Try.prog) (K := 3) Try.underlying62 (by kernel_rfl) infoR _ n cap (i + 1) ((i : Int) + 1) (by omega) (by omega) W, ← had]
    unfold Go.sliced
    by_cases q : cap = i + 1
    · rw [if_pos q, if_pos q]
    · rw [if_neg q, if_neg q]
      simp [Addr.add_lit]
  have hsC : ∃ u, ∀ W, (Instr.slice 62 (.slice (some ⟨g, 0, none⟩) n cap) (some (.int .i64 i)) (some (.int .i64 ((i : Int) + 1))) (some (.int .i64 n))).run Try.prog W = .ok u W := by
    obtain ⟨I, hI, _, hsize, _⟩ := info_parts infoR
    refine ⟨Go.sliced (some ⟨g, 0, none⟩) i (i + 1) n 3, fun W => ?_⟩
    rw [run_slice_lhm (P := Try.prog) W 62 (some ⟨g, 0, none⟩) n cap (by rw [show Try.prog.elem 62 = 107 by kernel_rfl]; exact Try.underlying62) .i64 .i64 .i64 i ((i : Int) + 1) n (by omega) (by omega) (by omega) (by omega)]
    simp [show Try.prog.elem 62 = 107 by kernel_rfl, sizeOf, typeInfo, hI, hsize, Result.andThen]
  have hsD : ∀ W, (Instr.slice 62 (.slice (some ⟨g, 0, none⟩) (n - 1) cap) (some (.int .i64 ((n - 1 : Nat) : Int))) (some (.int .i64 n)) none).run Try.prog W = .ok (.slice (some ⟨g, (n - 1) * 3, none⟩) 1 (cap - (n - 1))) W := fun W => by
    rw [run_slice_lhK (P := Try.prog) (K := 3) Try.underlying62 (by kernel_rfl) infoR _ (n - 1) cap (n - 1) n ((n - 1 : Nat) : Int) n rfl rfl (by omega) (by omega) W]
    unfold Go.sliced
    rw [if_neg (by omega), show n - (n - 1) = 1 by omega]
    simp [Addr.add_lit]
  obtain ⟨u, hsC⟩ := hsC
  have hne : ((i : Int) == (i : Int) + 1) = false := beq_eq_false_iff_ne.2 (by omega)
  clear had hown hg hcs htake
  go_enter Try.func87, Try.ntmps87
  go_wp2_with fail
  go_region_held3 (fun W => Hid True) (exact hide trivial) (first
    | (refine step_within (E := rpE) (by exact hOWN.out) Try.underlying62 infoR hi had1 (by rfl) (by rfl) (by rfl) (by rfl) ?_; intro w5 ho5 hg5))
  all_goals
    have HO5 := hide ho5
    have HG5 := hide hg5
    clear ho5 hg5
    have hlen : IntKind.i64.wrap ((n - 1 : Nat) : Int) = ((n - 1 : Nat) : Int) := by rw [IntKind.wrap_i64]; omega
    obtain ⟨w6, hr6, ho6, hg6⟩ := run_clear_behind (K := 3) (ty := 0) (c := cap - (n - 1)) Try.underlying62 rfl three_one HO5.out (by omega) zeroR
    have hg56 : w.grownBy w6 (some g) := ⟨hg6.os.trans HG5.out.os, hg6.tape.trans HG5.out.tape, hg6.output.trans HG5.out.output, Nat.le_trans HG5.out.size hg6.size, fun k hk hne => (hg6.block k (Nat.lt_of_lt_of_le hk HG5.out.size) hne).trans (HG5.out.block k hk hne)⟩
    have HO6 := hide ho6
    have HG6 := hide hg56
    clear ho6 hg6 hg56
    go_wp2_with fail
    go_ret
    exact ⟨_, rfl, HO6.out, HG6.out, rfl, _, _, rfl⟩

set_option maxRecDepth 100000 in
set_option maxHeartbeats 2000000 in
theorem takeW_any (B k : Nat) (t : TypeId) (xs : Array Value) (v : Value) (n i base : Nat) (cs : List Ws) (x : Ws) (w : World) (hB : Blk w B t xs) (hk : xs[k]? = some v) (ht : 105 ≠ t) (hown : w.ownsRow base 105 3 v n (wsE.vs cs)) (hx : cs[i]? = some x) (hn : n ≤ 1000) :
    Calls Try.prog 76 #[.pointer (some ⟨B, k, none⟩), .int .i64 i] w fun e w' => ∃ v', e = .returned (.agg (wsE.v x).toArray) ∧ Blk w' B t (xs.setIfInBounds k v') ∧ w'.ownsRow base 105 3 v' (n - 1) (wsE.vs (cs.eraseIdx i)) ∧ Kp2 w w' B v.ownBlock := by
  have hl := owns_len hown
  have hi : i < n := by
    have := (List.getElem?_eq_some_iff.1 hx).1
    omega
  have hoff := owns_off hown hB ht
  obtain ⟨b9, off9, hao, hb9, hat⟩ := (RdG.ofOwns hown).shape.elim fun ao h => h.elim fun cap h => by
    have := (RdG.ofOwns hown)
    rw [h.1] at this
    obtain ⟨b, off, e, hb, hat⟩ := this.here hx
    exact (⟨b, off, ⟨cap, by rw [h.1, e]⟩, hb, hat⟩ : ∃ b off, (∃ cap, v = .slice (some ⟨b, off, none⟩) cs.length cap) ∧ b < w.heap.size ∧ AtG wsE w b (off + i * 3) x)
  obtain ⟨cap9, hv⟩ := hao
  rw [hl] at hv
  have c0 := hat 0 _ rfl
  have c1 := hat 1 _ rfl
  have c2 := hat 2 _ rfl
  have d0 := (hB.cell k).trans hk
  have dl := hB.lt
  have hk1 : (0 : Int) ≤ (i : Int) := by omega
  have hk2 : (i : Int) < (n : Int) := by omega
  have hw : IntKind.i64.wrap ((i : Int) + 1) = (i : Int) + 1 := by rw [IntKind.wrap_i64]; omega
  have HB := hide hB
  have HK0 := hide hk
  have HOWN := hide hown
  have HOFF := hide hoff
  have HI := hide hi
  obtain ⟨x0, x1, x2⟩ := x
  simp only [Nat.add_zero] at c0
  clear hat hB hown hoff hk hl hx
  subst hv
  have HDEL := hide (DeleteW_any _ n i base cs _ ((HOWN.out.alloc (.cells #[.int .i64 0, .int .i64 0, .int .i64 0] 105)).alloc (.cells #[.int .i64 x0, .int .i64 x1, .int .i64 x2] 105)) HI.out hn)
  go_enter Try.func76, Try.ntmps76
  go_wp2_with fail
  refine HDEL.out.mono ?_
  rintro e w1 ⟨v1, rfl, ho1, hg1, hv1, ao1, cap1, rfl⟩
  have hA := below_alloc2 w (.cells #[.int .i64 0, .int .i64 0, .int .i64 0] 105) (.cells #[.int .i64 x0, .int .i64 x1, .int .i64 x2] 105)
  have hB1 := (HB.out.later hA).grown hg1 (fun q => HOFF.out q.symm)
  have hR1 := (Blk.at0of2 w (.cells #[.int .i64 x0, .int .i64 x1, .int .i64 x2] 105) 105 #[.int .i64 0, .int .i64 0, .int .i64 0]).grown hg1 (by simp [Value.ownBlock]; omega)
  have hT1 := (Blk.at1 w (.cells #[.int .i64 0, .int .i64 0, .int .i64 0] 105) 105 #[.int .i64 x0, .int .i64 x1, .int .i64 x2]).grown hg1 (by simp [Value.ownBlock]; omega)
  have e0 := (hB1.cell k).trans HK0.out
  have e1 := hB1.frozen k
  have e2 := hB1.lt
  have rc0 := hR1.cell 0
  have rc1 := hR1.cell 1
  have rc2 := hR1.cell 2
  have rz0 := hR1.frozen 0
  have rz1 := hR1.frozen 1
  have rz2 := hR1.frozen 2
  have rl := hR1.lt
  simp at rc0 rc1 rc2
  have qc0 := hT1.cell 0
  have qc1 := hT1.cell 1
  have qc2 := hT1.cell 2
  have qz0 := hT1.frozen 0
  have qz1 := hT1.frozen 1
  have qz2 := hT1.frozen 2
  have ql := hT1.lt
  simp at qc0 qc1 qc2
  have HFIN := hide (Kp2.of hA hg1 B k (.slice ao1 (n - 1) cap1))
  have HBF := hide (hB1.set k (.slice ao1 (n - 1) cap1))
  have hoB : (Value.slice ao1 (n - 1) cap1).ownBlock ≠ some B := by rw [hv1]; exact HOFF.out
  have hoH : (Value.slice ao1 (n - 1) cap1).ownBlock ≠ some w.heap.size := by rw [hv1]; simp [Value.ownBlock]; omega
  have HOF := hide (owns_setOther ho1 (p := ⟨B, k, none⟩) hoB (.slice ao1 (n - 1) cap1))
  have HOH := hide hoH
  clear ho1 hg1 hv1 hA hB1 hR1 hT1 hoB hoH c0 c1 c2 d0
  have hBH : B ≠ w.heap.size := by omega
  have hBH1 : B ≠ w.heap.size + 1 := by omega
  go_wp2_with fail
  refine bodyPost_ret (v := .agg #[.int .i64 x0, .int .i64 x1, .int .i64 x2]) (by simp [results, Try.results76, go_sem, rc0, rc1, rc2]) rfl ?_
  refine ⟨.slice ao1 (n - 1) cap1, rfl, ?_, ?_, ?_⟩
  · exact ((HBF.out.other (p := ⟨w.heap.size, 0, none⟩) hBH _).other (p := ⟨w.heap.size, 1, none⟩) hBH _).other (p := ⟨w.heap.size, 2, none⟩) hBH _
  · exact owns_setOther (owns_setOther (owns_setOther HOF.out (p := ⟨w.heap.size, 0, none⟩) HOH.out _) (p := ⟨w.heap.size, 1, none⟩) HOH.out _) (p := ⟨w.heap.size, 2, none⟩) HOH.out _
  · exact ((HFIN.out.past (p := ⟨w.heap.size, 0, none⟩) (Nat.le_refl _) _).past (p := ⟨w.heap.size, 1, none⟩) (Nat.le_refl _) _).past (p := ⟨w.heap.size, 2, none⟩) (Nat.le_refl _) _

set_option maxRecDepth 100000 in
set_option maxHeartbeats 2000000 in
theorem takeR_any (B k : Nat) (t : TypeId) (xs : Array Value) (v : Value) (n i base : Nat) (cs : List Rp) (x : Rp) (w : World) (hB : Blk w B t xs) (hk : xs[k]? = some v) (ht : 107 ≠ t) (hown : w.ownsRow base 107 3 v n (rpE.vs cs)) (hx : cs[i]? = some x) (hn : n ≤ 1000) :
    Calls Try.prog 78 #[.pointer (some ⟨B, k, none⟩), .int .i64 i] w fun e w' => ∃ v', e = .returned (.agg (rpE.v x).toArray) ∧ Blk w' B t (xs.setIfInBounds k v') ∧ w'.ownsRow base 107 3 v' (n - 1) (rpE.vs (cs.eraseIdx i)) ∧ Kp2 w w' B v.ownBlock := by
  have hl := owns_len hown
  have hi : i < n := by
    have := (List.getElem?_eq_some_iff.1 hx).1
    omega
  have hoff := owns_off hown hB ht
  obtain ⟨b9, off9, hao, hb9, hat⟩ := (RdG.ofOwns hown).shape.elim fun ao h => h.elim fun cap h => by
    have := (RdG.ofOwns hown)
    rw [h.1] at this
    obtain ⟨b, off, e, hb, hat⟩ := this.here hx
    exact (⟨b, off, ⟨cap, by rw [h.1, e]⟩, hb, hat⟩ : ∃ b off, (∃ cap, v = .slice (some ⟨b, off, none⟩) cs.length cap) ∧ b < w.heap.size ∧ AtG rpE w b (off + i * 3) x)
  obtain ⟨cap9, hv⟩ := hao
  rw [hl] at hv
  have c0 := hat 0 _ rfl
  have c1 := hat 1 _ rfl
  have c2 := hat 2 _ rfl
  have d0 := (hB.cell k).trans hk
  have dl := hB.lt
  have hk1 : (0 : Int) ≤ (i : Int) := by omega
  have hk2 : (i : Int) < (n : Int) := by omega
  have hw : IntKind.i64.wrap ((i : Int) + 1) = (i : Int) + 1 := by rw [IntKind.wrap_i64]; omega
  have HB := hide hB
  have HK0 := hide hk
  have HOWN := hide hown
  have HOFF := hide hoff
  have HI := hide hi
  obtain ⟨x0, x1, x2⟩ := x
  simp only [Nat.add_zero] at c0
  clear hat hB hown hoff hk hl hx
  subst hv
  have HDEL := hide (DeleteR_any _ n i base cs _ ((HOWN.out.alloc (.cells #[.int .i64 0, .int .i64 0, .int .i64 0] 107)).alloc (.cells #[.int .i64 x0, .int .i64 x1, .int .i64 x2] 107)) HI.out hn)
  go_enter Try.func78, Try.ntmps78
  go_wp2_with fail
  refine HDEL.out.mono ?_
  rintro e w1 ⟨v1, rfl, ho1, hg1, hv1, ao1, cap1, rfl⟩
  have hA := below_alloc2 w (.cells #[.int .i64 0, .int .i64 0, .int .i64 0] 107) (.cells #[.int .i64 x0, .int .i64 x1, .int .i64 x2] 107)
  have hB1 := (HB.out.later hA).grown hg1 (fun q => HOFF.out q.symm)
  have hR1 := (Blk.at0of2 w (.cells #[.int .i64 x0, .int .i64 x1, .int .i64 x2] 107) 107 #[.int .i64 0, .int .i64 0, .int .i64 0]).grown hg1 (by simp [Value.ownBlock]; omega)
  have hT1 := (Blk.at1 w (.cells #[.int .i64 0, .int .i64 0, .int .i64 0] 107) 107 #[.int .i64 x0, .int .i64 x1, .int .i64 x2]).grown hg1 (by simp [Value.ownBlock]; omega)
  have e0 := (hB1.cell k).trans HK0.out
  have e1 := hB1.frozen k
  have e2 := hB1.lt
  have rc0 := hR1.cell 0
  have rc1 := hR1.cell 1
  have rc2 := hR1.cell 2
  have rz0 := hR1.frozen 0
  have rz1 := hR1.frozen 1
  have rz2 := hR1.frozen 2
  have rl := hR1.lt
  simp at rc0 rc1 rc2
  have qc0 := hT1.cell 0
  have qc1 := hT1.cell 1
  have qc2 := hT1.cell 2
  have qz0 := hT1.frozen 0
  have qz1 := hT1.frozen 1
  have qz2 := hT1.frozen 2
  have ql := hT1.lt
  simp at qc0 qc1 qc2
  have HFIN := hide (Kp2.of hA hg1 B k (.slice ao1 (n - 1) cap1))
  have HBF := hide (hB1.set k (.slice ao1 (n - 1) cap1))
  have hoB : (Value.slice ao1 (n - 1) cap1).ownBlock ≠ some B := by rw [hv1]; exact HOFF.out
  have hoH : (Value.slice ao1 (n - 1) cap1).ownBlock ≠ some w.heap.size := by rw [hv1]; simp [Value.ownBlock]; omega
  have HOF := hide (owns_setOther ho1 (p := ⟨B, k, none⟩) hoB (.slice ao1 (n - 1) cap1))
  have HOH := hide hoH
  clear ho1 hg1 hv1 hA hB1 hR1 hT1 hoB hoH c0 c1 c2 d0
  have hBH : B ≠ w.heap.size := by omega
  have hBH1 : B ≠ w.heap.size + 1 := by omega
  go_wp2_with fail
  refine bodyPost_ret (v := .agg #[.int .i64 x0, .int .i64 x1, .int .i64 x2]) (by simp [results, Try.results78, go_sem, rc0, rc1, rc2]) rfl ?_
  refine ⟨.slice ao1 (n - 1) cap1, rfl, ?_, ?_, ?_⟩
  · exact ((HBF.out.other (p := ⟨w.heap.size, 0, none⟩) hBH _).other (p := ⟨w.heap.size, 1, none⟩) hBH _).other (p := ⟨w.heap.size, 2, none⟩) hBH _
  · exact owns_setOther (owns_setOther (owns_setOther HOF.out (p := ⟨w.heap.size, 0, none⟩) HOH.out _) (p := ⟨w.heap.size, 1, none⟩) HOH.out _) (p := ⟨w.heap.size, 2, none⟩) HOH.out _
  · exact ((HFIN.out.past (p := ⟨w.heap.size, 0, none⟩) (Nat.le_refl _) _).past (p := ⟨w.heap.size, 1, none⟩) (Nat.le_refl _) _).past (p := ⟨w.heap.size, 2, none⟩) (Nat.le_refl _) _

set_option maxRecDepth 100000 in
set_option maxHeartbeats 2000000 in
theorem putW_full (B k : Nat) (t : TypeId) (xs : Array Value) (ao : Option Addr) (cap : Nat) (x : Ws) (w : World) (hB : Blk w B t xs) (hk : xs[k]? = some (.slice ao 100 cap)) :
    Calls Try.prog 79 #[.pointer (some ⟨B, k, none⟩), .agg (wsE.v x).toArray] w fun e w' => e = .returned (.int .i64 9) ∧ Below w.heap.size w w' := by
  have d0 := (hB.cell k).trans hk
  have dl := hB.lt
  obtain ⟨x0, x1, x2⟩ := x
  show Calls Try.prog 79 #[.pointer (some ⟨B, k, none⟩), .agg #[.int .i64 x0, .int .i64 x1, .int .i64 x2]] w _
  clear hB hk
  go_enter Try.func79, Try.ntmps79
  go_wp2_with fail
  go_ret
  exact ⟨rfl, by go_grown⟩

set_option maxRecDepth 100000 in
set_option maxHeartbeats 4000000 in
theorem putW_any (B k : Nat) (t : TypeId) (xs : Array Value) (v : Value) (n base : Nat) (cs : List Ws) (x : Ws) (w : World) (hB : Blk w B t xs) (hk : xs[k]? = some v) (ht : 105 ≠ t) (hown : w.ownsRow base 105 3 v n (wsE.vs cs)) (hbase : base ≤ w.heap.size) (hn : n < 100) :
    Calls Try.prog 79 #[.pointer (some ⟨B, k, none⟩), .agg (wsE.v x).toArray] w fun e w' => ∃ v', e = .returned (.int .i64 0) ∧ Blk w' B t (xs.setIfInBounds k v') ∧ w'.ownsRow base 105 3 v' (n + 1) (wsE.vs (cs ++ [x])) ∧ Kp2 w w' B v.ownBlock := by
  have hoff := owns_off hown hB ht
  have d0 := (hB.cell k).trans hk
  have df := hB.frozen k
  have dl := hB.lt
  have HB := hide hB
  have HK0 := hide hk
  have HOFF := hide hoff
  have HBASE := hide hbase
  have hsh : ∃ ao cap, v = .slice ao n cap := by
    rcases hown.2 with ⟨rfl, h0⟩ | ⟨g, cap, cur, rfl, _⟩
    · exact ⟨none, 0, by rw [h0]⟩
    · exact ⟨_, _, rfl⟩
  obtain ⟨ao, cap, rfl⟩ := hsh
  have hn100 : ((n : Int) == 100) = false := beq_eq_false_iff_ne.2 (by omega)
  obtain ⟨x0, x1, x2⟩ := x
  have hnew : RdG wsE (((w.alloc (.cells #[.int .i64 x0, .int .i64 x1, .int .i64 x2] 105)).drew).alloc (.cells #[.int .i64 x0, .int .i64 x1, .int .i64 x2] 105)) (.slice (some ⟨w.heap.size + 1, 0, none⟩) 1 1) ([⟨x0, x1, x2⟩] : List Ws) := by
    have := RdG.newL (E := wsE) (w.alloc (.cells #[.int .i64 x0, .int .i64 x1, .int .i64 x2] 105)).drew ([⟨x0, x1, x2⟩] : List Ws) 105 #[.int .i64 x0, .int .i64 x1, .int .i64 x2] rfl (by simp)
    simpa using this
  have HNEW := hide hnew
  have HOWN := hide (show (((w.alloc (.cells #[.int .i64 x0, .int .i64 x1, .int .i64 x2] 105)).drew).alloc (.cells #[.int .i64 x0, .int .i64 x1, .int .i64 x2] 105)).ownsRow base 105 3 (.slice ao n cap) n (wsE.vs cs) from (hown.alloc _).alloc _)
  have hl63 : n + ([⟨x0, x1, x2⟩] : List Ws).length ≤ 1000000000 := by simp; omega
  have hA : Below w.heap.size w (((w.alloc (.cells #[.int .i64 x0, .int .i64 x1, .int .i64 x2] 105)).drew).alloc (.cells #[.int .i64 x0, .int .i64 x1, .int .i64 x2] 105)) := by go_grown
  have HA := hide hA
  have hbs : base ≤ (((w.alloc (.cells #[.int .i64 x0, .int .i64 x1, .int .i64 x2] 105)).drew).alloc (.cells #[.int .i64 x0, .int .i64 x1, .int .i64 x2] 105)).heap.size := Nat.le_trans hbase hA.size
  have HBS := hide hbs
  have HH := hide hl63
  have HT := hide ht
  show Calls Try.prog 79 #[.pointer (some ⟨B, k, none⟩), .agg #[.int .i64 x0, .int .i64 x1, .int .i64 x2]] w _
  clear hB hk hown hoff hnew hA hbs hl63 hbase ht
  go_enter Try.func79, Try.ntmps79
  go_wp2_with fail
  go_region_law (refine step_append_rdK (E := wsE) (cs := cs) (by exact HOWN.out) (by exact HNEW.out) Try.underlying61 infoW rfl (by rfl) (by rfl) (by rfl) (by rfl) (by exact HH.out) (by decide) (by exact HBS.out) ?_; intro v5 w5 ho5 hg5; obtain ⟨ao5, cap5, hv5⟩ := owns_shapeK ho5; subst hv5; have hB5 := (HB.out.later HA.out).grown hg5 (fun q => HOFF.out q.symm); have k0 := (hB5.cell k).trans HK0.out; have k1 := hB5.frozen k; have k2 := hB5.lt)
  all_goals
    have HFIN := hide (Kp2.of HA.out hg5 B k (.slice ao5 (n + 1) cap5))
    have HBF := hide (hB5.set k (.slice ao5 (n + 1) cap5))
    have HOF := hide (owns_setOther ho5 (p := ⟨B, k, none⟩) (owns_off ho5 hB5 HT.out) (.slice ao5 (n + 1) cap5))
    clear ho5 hg5 hB5
    go_wp2_with fail
    go_ret
    exact ⟨_, rfl, HBF.out, HOF.out, HFIN.out⟩

set_option maxRecDepth 100000 in
set_option maxHeartbeats 2000000 in
theorem putR_full (B k : Nat) (t : TypeId) (xs : Array Value) (ao : Option Addr) (cap : Nat) (x : Rp) (w : World) (hB : Blk w B t xs) (hk : xs[k]? = some (.slice ao 100 cap)) :
    Calls Try.prog 85 #[.pointer (some ⟨B, k, none⟩), .agg (rpE.v x).toArray] w fun e w' => e = .returned (.int .i64 9) ∧ Below w.heap.size w w' := by
  have d0 := (hB.cell k).trans hk
  have dl := hB.lt
  obtain ⟨x0, x1, x2⟩ := x
  show Calls Try.prog 85 #[.pointer (some ⟨B, k, none⟩), .agg #[.int .i64 x0, .int .i64 x1, .int .i64 x2]] w _
  clear hB hk
  go_enter Try.func85, Try.ntmps85
  go_wp2_with fail
  go_ret
  exact ⟨rfl, by go_grown⟩

set_option maxRecDepth 100000 in
set_option maxHeartbeats 4000000 in
theorem putR_any (B k : Nat) (t : TypeId) (xs : Array Value) (v : Value) (n base : Nat) (cs : List Rp) (x : Rp) (w : World) (hB : Blk w B t xs) (hk : xs[k]? = some v) (ht : 107 ≠ t) (hown : w.ownsRow base 107 3 v n (rpE.vs cs)) (hbase : base ≤ w.heap.size) (hn : n < 100) :
    Calls Try.prog 85 #[.pointer (some ⟨B, k, none⟩), .agg (rpE.v x).toArray] w fun e w' => ∃ v', e = .returned (.int .i64 0) ∧ Blk w' B t (xs.setIfInBounds k v') ∧ w'.ownsRow base 107 3 v' (n + 1) (rpE.vs (cs ++ [x])) ∧ Kp2 w w' B v.ownBlock := by
  have hoff := owns_off hown hB ht
  have d0 := (hB.cell k).trans hk
  have df := hB.frozen k
  have dl := hB.lt
  have HB := hide hB
  have HK0 := hide hk
  have HOFF := hide hoff
  have HBASE := hide hbase
  have hsh : ∃ ao cap, v = .slice ao n cap := by
    rcases hown.2 with ⟨rfl, h0⟩ | ⟨g, cap, cur, rfl, _⟩
    · exact ⟨none, 0, by rw [h0]⟩
    · exact ⟨_, _, rfl⟩
  obtain ⟨ao, cap, rfl⟩ := hsh
  have hn100 : ((n : Int) == 100) = false := beq_eq_false_iff_ne.2 (by omega)
  obtain ⟨x0, x1, x2⟩ := x
  have hnew : RdG rpE (((w.alloc (.cells #[.int .i64 x0, .int .i64 x1, .int .i64 x2] 107)).drew).alloc (.cells #[.int .i64 x0, .int .i64 x1, .int .i64 x2] 107)) (.slice (some ⟨w.heap.size + 1, 0, none⟩) 1 1) ([⟨x0, x1, x2⟩] : List Rp) := by
    have := RdG.newL (E := rpE) (w.alloc (.cells #[.int .i64 x0, .int .i64 x1, .int .i64 x2] 107)).drew ([⟨x0, x1, x2⟩] : List Rp) 107 #[.int .i64 x0, .int .i64 x1, .int .i64 x2] rfl (by simp)
    simpa using this
  have HNEW := hide hnew
  have HOWN := hide (show (((w.alloc (.cells #[.int .i64 x0, .int .i64 x1, .int .i64 x2] 107)).drew).alloc (.cells #[.int .i64 x0, .int .i64 x1, .int .i64 x2] 107)).ownsRow base 107 3 (.slice ao n cap) n (rpE.vs cs) from (hown.alloc _).alloc _)
  have hl63 : n + ([⟨x0, x1, x2⟩] : List Rp).length ≤ 1000000000 := by simp; omega
  have hA : Below w.heap.size w (((w.alloc (.cells #[.int .i64 x0, .int .i64 x1, .int .i64 x2] 107)).drew).alloc (.cells #[.int .i64 x0, .int .i64 x1, .int .i64 x2] 107)) := by go_grown
  have HA := hide hA
  have hbs : base ≤ (((w.alloc (.cells #[.int .i64 x0, .int .i64 x1, .int .i64 x2] 107)).drew).alloc (.cells #[.int .i64 x0, .int .i64 x1, .int .i64 x2] 107)).heap.size := Nat.le_trans hbase hA.size
  have HBS := hide hbs
  have HH := hide hl63
  have HT := hide ht
  show Calls Try.prog 85 #[.pointer (some ⟨B, k, none⟩), .agg #[.int .i64 x0, .int .i64 x1, .int .i64 x2]] w _
  clear hB hk hown hoff hnew hA hbs hl63 hbase ht
  go_enter Try.func85, Try.ntmps85
  go_wp2_with fail
  go_region_law (refine step_append_rdK (E := rpE) (cs := cs) (by exact HOWN.out) (by exact HNEW.out) Try.underlying62 infoR rfl (by rfl) (by rfl) (by rfl) (by rfl) (by exact HH.out) (by decide) (by exact HBS.out) ?_; intro v5 w5 ho5 hg5; obtain ⟨ao5, cap5, hv5⟩ := owns_shapeK ho5; subst hv5; have hB5 := (HB.out.later HA.out).grown hg5 (fun q => HOFF.out q.symm); have k0 := (hB5.cell k).trans HK0.out; have k1 := hB5.frozen k; have k2 := hB5.lt)
  all_goals
    have HFIN := hide (Kp2.of HA.out hg5 B k (.slice ao5 (n + 1) cap5))
    have HBF := hide (hB5.set k (.slice ao5 (n + 1) cap5))
    have HOF := hide (owns_setOther ho5 (p := ⟨B, k, none⟩) (owns_off ho5 hB5 HT.out) (.slice ao5 (n + 1) cap5))
    clear ho5 hg5 hB5
    go_wp2_with fail
    go_ret
    exact ⟨_, rfl, HBF.out, HOF.out, HFIN.out⟩

end Go.Proofs.Ytfmoniabpinceaf
