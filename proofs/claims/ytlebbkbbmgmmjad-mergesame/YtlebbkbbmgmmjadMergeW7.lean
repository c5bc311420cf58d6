/-
  The walks over merge.heapOf and merge.counting.
-/
import Derived.Test.YtlebbkbbmgmmjadMergeW6
import Derived.Test.YtlebbkbbmgmmjadMergeMath
import Derived.Test.YtlebbkbbmgmmjadCellS4
import Derived.Deep.WholeRow
namespace Go.Proofs.Ytlebbkbbmgmmjad
open Go.RowKit

theorem run_loadVar_bk {P : Program} {w : World} {B : Nat} {t ty : TypeId} {xs : Array Value} {d : TypeDesc} (h : Bk w B t xs) (hu : P.underlying ty = some d) (hd : (match d with | .struct _ | .array _ _ => true | _ => false) = true) (hi : (P.info? ty).map (·.size) = some xs.size) :
    (loadVar ty ⟨B, 0, none⟩).run P w = .ok (.agg xs) w := run_loadVar_row w B t ty xs (0, 0) d h hu hd hi

theorem run_loadAt_bk {P : Program} {w : World} {B : Nat} {t ty : TypeId} {xs : Array Value} {d : TypeDesc} (h : Bk w B t xs) (hu : P.underlying ty = some d) (hd : (match d with | .struct _ | .array _ _ => true | _ => false) = true) (hi : (P.info? ty).map (·.size) = some xs.size) :
    (Instr.loadAt ty (.pointer (some ⟨B, 0, none⟩))).run P w = .ok (.agg xs) w := by
  simp only [Instr.loadAt, Instr.sureAddr, Sem.run_bind, Sem.run_pure, Result.andThen]
  exact run_loadVar_bk h hu hd hi

theorem run_storeAt_bk {P : Program} {w : World} {B : Nat} {t ty : TypeId} {old xs : Array Value} (h : Bk w B t old) (hi : (P.info? ty).map (·.size) = some xs.size) (ho : old.size = xs.size) (h1 : xs.all (·.oneCell') = true) :
    (Instr.storeAt ty (.pointer (some ⟨B, 0, none⟩)) (.agg xs)).run P w = .ok () (w.setRow B xs) := by
  simp only [Instr.storeAt, Instr.sureAddr, Sem.run_bind, Sem.run_pure, Result.andThen]
  exact run_storeVar_row w B t ty old xs h hi ho h1

/-- A whole variable out of its block. -/
theorem wpList_load_bk {P : Program} {ops : Array Oper} {rest : List Oper} {op : Oper} {a : Act} {w : World} {Q : Exit → Act → World → Prop} {ty : TypeId} {x : Operand} {B : Nat} {t : TypeId} {xs : Array Value} {d : TypeDesc}
    (hB : Bk w B t xs) (hu : P.underlying ty = some d) (hd : (match d with | .struct _ | .array _ _ => true | _ => false) = true) (hi : (P.info? ty).map (·.size) = some xs.size) (hgd : op.guard = none) (ho : op.op = .load ty x) (hx : a.eval x = .pointer (some ⟨B, 0, none⟩))
    (h : wpList P ops Q rest (a.put op.dst (.agg xs)) w) : wpList P ops Q (op :: rest) a w :=
  wpList_plain hgd fun _ hK => by
    unfold Oper.wp execOp
    simp only [ho, hx, run_loadAt_bk hB hu hd hi, Sem.run_bind, Sem.run_pure, Result.andThen_ok]
    exact hK _ _ h

/-- A whole variable into its block. -/
theorem wpList_store_bk {P : Program} {ops : Array Oper} {rest : List Oper} {op : Oper} {a : Act} {w : World} {Q : Exit → Act → World → Prop} {ty : TypeId} {x y : Operand} {B : Nat} {t : TypeId} {old xs : Array Value}
    (hB : Bk w B t old) (hi : (P.info? ty).map (·.size) = some xs.size) (hz : old.size = xs.size) (h1 : xs.all (·.oneCell') = true) (hgd : op.guard = none) (ho : op.op = .store ty x y) (hx : a.eval x = .pointer (some ⟨B, 0, none⟩)) (hy : a.eval y = .agg xs)
    (h : wpList P ops Q rest (a.put op.dst undef) (w.setRow B xs)) : wpList P ops Q (op :: rest) a w :=
  wpList_plain hgd fun _ hK => by
    unfold Oper.wp execOp
    simp only [ho, hx, hy, run_storeAt_bk hB hi hz h1, Sem.run_bind, Sem.run_pure, Result.andThen_ok]
    exact hK _ _ h

theorem results_cell {P : Program} {fn : Func} {i : Tmp} {t : TypeId} {tmps : Array Value} {B : Nat} {v : Value} {w : World} (h : fn.results = #[.cell i t]) (hp : tmps[i]?.getD undef = .pointer (some ⟨B, 0, none⟩)) (hl : (loadVar t ⟨B, 0, none⟩).run P w = .ok v w) :
    (results fn tmps).run P w = .ok v w := by
  simp [results, h, hp, asAddr, hl]

theorem Bk.setRow {w : World} {B : Nat} {t : TypeId} {old : Array Value} (h : Bk w B t old) (xs : Array Value) : Bk (w.setRow B xs) B t xs := by
  unfold Bk at *
  simp [World.setRow, Array.getElem?_modify, h]

theorem below_setRow' {w w' : World} {C B : Nat} (h : Below C w w') (hB : C ≤ B) (xs : Array Value) : Below C w (w'.setRow B xs) := by
  refine ⟨h.os, h.tape, h.output, by simp [World.setRow, h.size], fun k hk => ?_⟩
  rw [← h.block k hk]
  simp [World.setRow, Array.getElem?_modify, show ¬ B = k by omega]

theorem RdL.here {w : World} {ao : Option Addr} {n cap k : Nat} {ls : List (List Cl)} {l : List Cl} (h : RdL w (.slice ao n cap) ls) (hl : ls[k]? = some l) :
    ∃ b off u, ao = some ⟨b, off, none⟩ ∧ b < w.heap.size ∧ w.cell? ⟨b, off + k, none⟩ = some u ∧ RdC w u l := by
  obtain ⟨vs, hr, hvl, _, hpc⟩ := h
  have hlt := (List.getElem?_eq_some_iff.1 hl).1
  obtain ⟨u, hu⟩ : ∃ u, vs[k]? = some u := ⟨_, List.getElem?_eq_getElem (by omega)⟩
  obtain ⟨b, off, cap', hv', _, _, hb, hcell⟩ := hr.pos (by omega)
  simp only [Value.slice.injEq] at hv'
  exact ⟨b, off, u, hv'.1, hb, hcell k u hu, hpc k u l hu hl⟩

theorem Try.size132 : (Try.prog.info? 132).map (·.size) = some 41 := by kernel_rfl

/-- The heap without anything. -/
def zeroH : Array Value := #[.slice none 0 0, .int .i64 0, .slice none 0 0, .int .i64 0, .slice none 0 0, .int .i64 0, .slice none 0 0, .int .i64 0, .slice none 0 0, .int .i64 0, .slice none 0 0, .int .i64 0, .slice none 0 0, .int .i64 0, .slice none 0 0, .int .i64 0, .slice none 0 0, .int .i64 0, .slice none 0 0, .int .i64 0, .slice none 0 0, .int .i64 0, .slice none 0 0, .int .i64 0, .slice none 0 0, .int .i64 0, .slice none 0 0, .int .i64 0, .slice none 0 0, .int .i64 0, .slice none 0 0, .int .i64 0, .slice none 0 0, .int .i64 0, .slice none 0 0, .int .i64 0, .slice none 0 0, .int .i64 0, .slice none 0 0, .int .i64 0, .int .i64 0]

theorem zeroH_at : HpAt zeroH [] := ⟨rfl, by decide, rfl, fun i s h => by simp at h, fun i s h => by simp at h, by decide +kernel⟩

set_option maxRecDepth 100000 in
set_option maxHeartbeats 2000000 in
theorem heapOf_any (v : Value) (ls : List (List Cl)) (w : World) (hv : RdL w v ls) (hlen : ls.length ≤ 20) :
    Calls Try.prog 91 #[v] w fun e w' => ∃ xs hs, e = .returned (.agg xs) ∧ HpAt xs hs ∧ HeapP hs ∧ Cor ls ls.length hs ∧ (∀ s ∈ hs, SOk w s) ∧ Below w.heap.size w w' := by
  obtain ⟨ao, cap, hvv, hc1, hc2⟩ := hv.shape
  subst hvv
  unfold maxLen at hc2
  go_enter Try.func91, Try.ntmps91
  go_wp2_with fail
  have hR0 := (Bk.new w 132 zeroH).below (below_alloc' _ (.cells zeroH 132)) (by simp)
  have hH0 := Bk.new2 w (.cells zeroH 132) 132 zeroH
  have hb00 : Below w.heap.size w ((w.alloc (.cells zeroH 132)).alloc (.cells zeroH 132)) := (below_alloc' _ _).trans ((below_alloc' _ _).mono (by simp))
  have HR0 := hide hR0
  have HH0 := hide hH0
  have HB0 := hide hb00
  clear hR0 hH0 hb00
  go_loopw [8] (fun i wr => ∃ (k : Nat) (xs : Array Value) (hs : List Src), i = .int .i64 k ∧ k ≤ ls.length ∧ Bk wr (w.heap.size + 1) 132 xs ∧ HpAt xs hs ∧ HeapP hs ∧ Cor ls k hs ∧ (∀ s ∈ hs, SOk w s) ∧ Bk wr w.heap.size 132 zeroH ∧ Below w.heap.size w wr)
    (fun i _ => ls.length - (intOf i).toNat)
  case atStart => exact ⟨0, zeroH, [], rfl, by omega, HH0.out, zeroH_at, HeapP.nil, Cor.nil _, by simp, HR0.out, HB0.out⟩
  case round =>
    obtain ⟨k, xs, hs, rfl, hk, hB, hA, hP, hC, hok, hR, hbel⟩ := hrel
    have HB := hide hB
    have HA := hide hA
    have HP := hide hP
    have HC := hide hC
    have HOK := hide hok
    have HR := hide hR
    have hl20 := hC.len
    have hHw := hB.lt
    clear hB hA hP hC hok hR
    by_cases hlt : k < ls.length
    · obtain ⟨l, hl⟩ : ∃ l, ls[k]? = some l := ⟨_, List.getElem?_eq_getElem hlt⟩
      obtain ⟨b, off, u, rfl, hb, hcell, hrc⟩ := hv.here hl
      have hc0 := (hbel.cell (p := ⟨b, off + k, none⟩) hb).trans hcell
      obtain ⟨uo, uc, huu, hu1, hu2⟩ := hrc.shape
      have hk1 : (0 : Int) ≤ (k : Int) := by omega
      have hk2 : (k : Int) < (ls.length : Int) := by omega
      have HL := hide hl
      by_cases h0 : l.length = 0
      · have hn : l = [] := List.eq_nil_of_length_eq_zero h0
        have HC2 := hide (HC.out.pass (by rw [hl, hn]))
        rw [h0] at huu
        subst huu
        clear hcell hrc hl h0 hn hu1
        go_wp2_with fail
        go_roundw
        case rel => exact ⟨k + 1, xs, hs, by go_num, by omega, HB.out, HA.out, HP.out, HC2.out, HOK.out, HR.out, hbel⟩
        case measure => simp [intOf]; omega
      · have hd0 : decide (0 < l.length) = true := by simp; omega
        have hd1 : decide ((0 : Int) < (l.length : Int)) = true := by simp; omega
        have hsok : SOk w ⟨u, l, k⟩ := ⟨hrc, fun e => h0 (by show l.length = 0; rw [show l = [] from e]; rfl)⟩
        have HS := hide hsok
        subst huu
        clear hcell hrc hl h0 hsok
        go_wp2_with fail
        refine (put_any w (w.heap.size + 1) xs hs ⟨.slice uo l.length uc, l, k⟩ _ HB.out HA.out HP.out (by omega) hbel (by omega) HOK.out HS.out).mono ?_
        rintro e w2 ⟨rfl, xs2, hs2, hB2, hA2, hP2, hpe, hg2⟩
        have hR2 := HR.out.grown hg2 (by simp)
        have HC2 := hide (HC.out.add (s := ⟨.slice uo l.length uc, l, k⟩) HL.out rfl hpe)
        have HOK2 : Hid (∀ s ∈ hs2, SOk w s) := hide (fun s hs' => (List.mem_cons.1 (hpe.mem_iff.1 hs')).elim (fun h => by rw [h]; exact HS.out) (HOK.out s))
        have hbel2 := below_gb hbel hg2 (by omega)
        go_wp2_with fail
        go_roundw
        case rel => exact ⟨k + 1, xs2, hs2, by go_num, by omega, hB2, hA2, hP2, HC2.out, HOK2.out, hR2, hbel2⟩
        case measure => simp [intOf]; omega
    · have hkl : k = ls.length := by omega
      subst hkl
      have hsz : xs.size = 41 := HA.out.size
      have hi : (Try.prog.info? 132).map (·.size) = some xs.size := by rw [hsz]; exact Try.size132
      have hz : zeroH.size = xs.size := by rw [hsz]; rfl
      have h1 := HA.out.one
      have q3 := run_loadVar_bk (P := Try.prog) (HR.out.setRow xs) Try.underlying132 rfl hi
      have HBE := hide (below_setRow' hbel (Nat.le_refl _) xs)
      go_wp2_with (first | (refine wpList_load_bk HB.out Try.underlying132 rfl hi rfl rfl rfl ?_) | (refine wpList_store_bk HR.out hi hz h1 rfl rfl rfl rfl ?_))
      exact bodyPost_ret (v := .agg xs) (results_cell Try.results91 rfl q3) rfl ⟨xs, hs, rfl, HA.out, HP.out, HC.out, HOK.out, HBE.out⟩

end Go.Proofs.Ytlebbkbbmgmmjad
