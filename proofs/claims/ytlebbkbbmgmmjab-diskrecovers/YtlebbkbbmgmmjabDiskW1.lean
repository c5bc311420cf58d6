/-
  The walks over package disk: copies and checks.
-/
import Derived.Test.YtlebbkbbmgmmjabFramesUn
import Derived.Test.YtlebbkbbmgmmjabLawTexts
import Derived.Laws.CopyOwn
namespace Go.Proofs.Ytlebbkbbmgmmjab
open Go.RowKit

theorem splice_two {α : Type} (Z X Y : List α) (hZ : Z.length = X.length + Y.length) : splice (splice Z 0 X) X.length Y = X ++ Y := by
  unfold splice
  simp [List.drop_append]
  omega

theorem owns_full {w : World} {base : Nat} {e : TypeId} {g n : Nat} {xs : List Value} (h : w.ownsRow base e 1 (.slice (some ⟨g, 0, none⟩) n n) n xs) : w.heap[g]? = some (.cells xs.toArray e (0, 0)) ∧ xs.length = n ∧ n ≤ maxLen ∧ base ≤ g := by
  rcases h.2 with ⟨hv, _⟩ | ⟨g', cap, cur, hv, hb, hg, h1, h2, h3, h4⟩
  · cases hv
  · simp only [Value.slice.injEq, Option.some.injEq, Addr.mk.injEq, and_true] at hv
    obtain ⟨rfl, -, rfl⟩ := hv
    have hl : xs.length = n := by simpa using h.1
    refine ⟨?_, hl, h2, hb⟩
    have : cur = xs.toArray := by
      rw [List.take_of_length_le (by simp; omega)] at h4
      rw [← h4]
    rw [← this]
    exact hg

theorem owns_of_full {w : World} {base : Nat} {e : TypeId} {g n : Nat} {xs : List Value} (h : w.heap[g]? = some (.cells xs.toArray e (0, 0))) (hl : xs.length = n) (hm : n ≤ maxLen) (hb : base ≤ g) : w.ownsRow base e 1 (.slice (some ⟨g, 0, none⟩) n n) n xs :=
  ⟨by simpa using hl, .inr ⟨g, n, xs.toArray, rfl, hb, h, Nat.le_refl _, hm, by simpa using hl, by rw [List.take_of_length_le (by simp; omega)]⟩⟩

theorem Rd.src {w : World} {sp : Option Addr} {n cap : Nat} {xs : List Value} (h : Rd w (.slice sp n cap) xs) (hp : 0 < xs.length) : ∃ ad, sp = some ad ∧ ∀ j v, xs[j]? = some v → w.cell? (ad.add j) = some v := by
  obtain ⟨ao, c, hv, h1, h2, h3, h4⟩ := h
  simp only [Value.slice.injEq] at hv
  obtain ⟨rfl, _, rfl⟩ := hv
  cases sp with
  | none => have := h3 rfl; omega
  | some a => exact ⟨a, rfl, h4 a rfl⟩

/-- 'make([]T, n)': the block that is made. -/
theorem wpList_make_z {P : Program} {w : World} {ops : Array Oper} {rest : List Oper} {o : Oper} {a : Act} {Q : Exit → Act → World → Prop} {l c : Operand} {t e : TypeId} {z : Value} {bytes : Nat} {kl kc : IntKind} {L C : Int} {n : Nat}
    (ht : P.underlying t = some (.slice e)) (hinf : (P.info? e).map (fun i => (i.zero, i.size, i.bytes)) = some (some z, 1, bytes)) (hby : bytes ≤ 64) (hn : n ≤ 2000000000000)
    (hg : o.guard = none) (hop : o.op = Op.makeSlice t l c) (hl : a.eval l = .int kl L) (hc : a.eval c = .int kc C) (hL : L = (n : Int)) (hC : C = (n : Int))
    (hK : ∀ (Z : List Value) w', Z.length = n → Hid (w'.heap[w.heap.size]? = some (.cells Z.toArray e (0, 0))) → Below w.heap.size w w' → wpList P ops Q rest (a.put o.dst (.slice (some ⟨w.heap.size, 0, none⟩) n n)) w') :
    wpList P ops Q (o :: rest) a w := by
  obtain ⟨i, hi, hz, hsize, hb⟩ := info_parts hinf
  have hm : bytes * n ≤ 64 * 2000000000000 := Nat.mul_le_mul hby hn
  refine wpList_make_full w hg l c t hop w.heap.size e i z 1 ht hi hz hsize kl kc L C n hl hc hL hC (by rw [hb]; omega) (by unfold maxLen; omega) (Nat.le_refl _) ?_
  intro w' hown hgrow
  have hf := owns_full hown
  exact hK _ w' hf.2.1 hf.1 ((Below.refl _ _).grown hgrow (Nat.le_refl _) (fun k hk => by cases hk))

/-- 'copy(out[off:], src)', all of src goes over. -/
theorem wpList_copy_rd {P : Program} {w w0 : World} {ops : Array Oper} {rest : List Oper} {o : Oper} {a : Act} {Q : Exit → Act → World → Prop} {d s : Operand} {dT sT elem : TypeId}
    {dp sp : Option Addr} {dLen dCap sLen sCap g off : Nat} {cur cs : List Value} {t : TypeId} {z : Value} {bytes : Nat}
    (hg : w.heap[g]? = some (.cells cur.toArray t (0, 0))) (hrd : Rd w0 (.slice sp sLen sCap) cs) (hb : Below w0.heap.size w0 w) (hBg : w0.heap.size ≤ g)
    (hu : P.underlying dT = some (.slice elem)) (hinf : (P.info? elem).map (fun i => (i.zero, i.size, i.bytes)) = some (some z, 1, bytes))
    (hgd : o.guard = none) (ho : o.op = .call { callee := .builtin .copy, args := #[d, s], argTypes := #[dT, sT] })
    (hd : a.eval d = .slice dp dLen dCap) (hs : a.eval s = .slice sp sLen sCap) (hle : cs.length ≤ dLen) (hdp : 0 < cs.length → dp = some ⟨g, off, none⟩) (hfit : off + cs.length ≤ cur.length) (h1 : ∀ v ∈ cs, v.oneCell' = true)
    (h : ∀ w', Hid (w'.heap[g]? = some (.cells (splice cur off cs).toArray t (0, 0))) → Below w0.heap.size w0 w' → wpList P ops Q rest (a.put o.dst (goInt cs.length)) w') :
    wpList P ops Q (o :: rest) a w := by
  obtain ⟨i, hi, _, hsize, _⟩ := info_parts hinf
  have hl := hrd.len.1
  have hr := hrd.below hb
  refine wpList_copy_splice hgd d s dT sT ho elem hu (by rw [hi]; simp [hsize]) dp sp dLen dCap sLen sCap hd hs g off cur t hg cs (by show _ = min _ _; omega) (fun hp => ⟨hdp hp, hr.src hp⟩) hfit h1 w0.heap.size w0 hb hBg h

set_option maxRecDepth 100000 in
set_option maxHeartbeats 1000000 in
theorem joined_any (u v : Value) (xs ys : List UInt8) (w : World) (h1 : Rd w u (bc xs)) (h2 : Rd w v (bc ys)) (hl : xs.length + ys.length ≤ 1000000000) :
    Calls Try.prog 44 #[u, v] w fun e w' => ∃ v', e = .returned v' ∧ w'.ownsRow w.heap.size 5 1 v' (xs.length + ys.length) (bc (xs ++ ys)) ∧ Below w.heap.size w w' := by
  obtain ⟨ao, cap, hu, hc1, hc2⟩ := h1.shape
  obtain ⟨bo, cbp, hv, hd1, hd2⟩ := h2.shape
  rw [bc_length] at hc1 hu hd1 hv
  subst hu hv
  unfold maxLen at hc2 hd2
  rw [bc_append]
  obtain ⟨X, hX⟩ : ∃ X, X = bc xs := ⟨_, rfl⟩
  obtain ⟨Y, hY⟩ : ∃ Y, Y = bc ys := ⟨_, rfl⟩
  have hXl : X.length = xs.length := by rw [hX, bc_length]
  have hYl : Y.length = ys.length := by rw [hY, bc_length]
  have hX1 : ∀ v ∈ X, v.oneCell' = true := by rw [hX]; exact bc_one _
  have hY1 : ∀ v ∈ Y, v.oneCell' = true := by rw [hY]; exact bc_one _
  rw [← hX] at h1 ⊢
  rw [← hY] at h2 ⊢
  clear hX hY
  have hn : xs.length + ys.length ≤ 2000000000000 := by omega
  have hle1 : X.length ≤ xs.length + ys.length := by omega
  have hle2 : Y.length ≤ ys.length := by omega
  have hsl := run_slice_from (P := Try.prog) Try.underlying25 (by kernel_rfl) Try.info5 (some ⟨w.heap.size, 0, none⟩) (xs.length + ys.length) (xs.length + ys.length) xs.length (xs.length : Int) rfl (by omega)
  obtain ⟨dp, hdp, hdp2⟩ : ∃ dp, Go.sliced (some ⟨w.heap.size, 0, none⟩) xs.length (xs.length + ys.length) (xs.length + ys.length) 1 = .slice dp ys.length ys.length ∧ (0 < Y.length → dp = some ⟨w.heap.size, xs.length, none⟩) := by
    refine ⟨_, by unfold Go.sliced; rw [Nat.add_sub_cancel_left], fun hp => ?_⟩
    rw [if_neg (by omega), Option.map_some, Addr.add_lit]
    simp
  rw [hdp] at hsl
  clear hdp
  have hdp1 : 0 < X.length → (some ⟨w.heap.size, 0, none⟩ : Option Addr) = some ⟨w.heap.size, 0, none⟩ := fun _ => rfl
  go_enter Try.func44, Try.ntmps44
  go_wp2_with (first
    | (have k9 := HG2; refine wpList_copy_rd HG2.out h2 hB2 (Nat.le_refl _) Try.underlying25 Try.info5 rfl rfl rfl rfl hle2 hdp2 hfit2 hY1 ?_; intro w3 HG3 hB3)
    | (have k9 := HG1; refine wpList_copy_rd (off := 0) HG1.out h1 hB1 (Nat.le_refl _) Try.underlying25 Try.info5 rfl rfl rfl rfl hle1 hdp1 hfit1 hX1 ?_; intro w2 HG2 hB2; clear HG1; have hfit2 : xs.length + Y.length ≤ (splice Z 0 X).length := by rw [length_splice _ _ _ hfit1]; omega)
    | (at_make; go_must (refine wpList_make_z (n := xs.length + ys.length) Try.underlying25 Try.info5 (by decide) hn rfl rfl rfl rfl (by omega) (by omega) ?_); intro Z w1 hZ HG1 hB1; have hfit1 : 0 + X.length ≤ Z.length := by omega))
  go_ret
  refine ⟨_, rfl, owns_of_full (xs := X ++ Y) ?_ (by rw [List.length_append]; omega) (by unfold maxLen; omega) (Nat.le_refl _), hB3⟩
  rw [← splice_two Z X Y (by omega), hXl]
  exact HG3.out

end Go.Proofs.Ytlebbkbbmgmmjab
