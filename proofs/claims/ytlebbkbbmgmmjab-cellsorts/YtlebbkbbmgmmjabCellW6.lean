/-
  The walk over cell.Scan.
-/
import Derived.Test.YtlebbkbbmgmmjabCellW5
namespace Go.Proofs.Ytlebbkbbmgmmjab
open Go.RowKit

theorem Try.info52 : (Try.prog.info? 52).map (fun i => (i.zero, i.size, i.bytes)) = some (some (.agg #[.string ⟨#[]⟩, .string ⟨#[]⟩, .int .i64 0, .bool false, .string ⟨#[]⟩]), 5, 64) := by kernel_rfl

/-- What Scan collects, behind one that hides. -/
def scanGo (a b : ByteArray) (t m : Int) : Cl → List Cl → List Cl → List Cl
  | _, [], acc => acc
  | nw, c :: r, acc => if seenB t nw c && askB a b c.row && decide ((acc.length : Int) < m) then scanGo a b t m (nextN t nw c) r (acc ++ [c]) else scanGo a b t m (nextN t nw c) r acc

/-- What Scan answers. -/
def scanC (cs : List Cl) (a b : ByteArray) (t m : Int) : List Cl × (Int × Int) :=
  if (checkC cs).1 ≠ 0 then ([], checkC cs) else if isNumB t = false then ([], (3, -1)) else if m < 0 ∨ 1000 < m then ([], (3, -2)) else (scanGo a b t m zeroC cs [], (0, 0))

theorem scanC_bad {cs : List Cl} {a b : ByteArray} {t m : Int} (h : (checkC cs).1 ≠ 0) : scanC cs a b t m = ([], checkC cs) := by rw [scanC, if_pos h]
theorem scanC_time {cs : List Cl} {a b : ByteArray} {t m : Int} (h : (checkC cs).1 = 0) (h2 : isNumB t = false) : scanC cs a b t m = ([], (3, -1)) := by rw [scanC, if_neg (by omega), if_pos h2]
theorem scanC_many {cs : List Cl} {a b : ByteArray} {t m : Int} (h : (checkC cs).1 = 0) (h2 : isNumB t = true) (h3 : m < 0 ∨ 1000 < m) : scanC cs a b t m = ([], (3, -2)) := by rw [scanC, if_neg (by omega), if_neg (by rw [h2]; decide), if_pos h3]
theorem scanC_ok {cs : List Cl} {a b : ByteArray} {t m : Int} (h : (checkC cs).1 = 0) (h2 : isNumB t = true) (h3 : ¬ (m < 0 ∨ 1000 < m)) : scanC cs a b t m = (scanGo a b t m zeroC cs [], (0, 0)) := by rw [scanC, if_neg (by omega), if_neg (by rw [h2]; decide), if_neg h3]

theorem scanGo_hit {a b : ByteArray} {t m : Int} {nw c : Cl} {r acc : List Cl} (h1 : seenB t nw c = true) (h2 : askB a b c.row = true) (h3 : decide ((acc.length : Int) < m) = true) : scanGo a b t m nw (c :: r) acc = scanGo a b t m (nextN t nw c) r (acc ++ [c]) := by
  simp only [scanGo, h1, h2, h3, Bool.and_self, if_true]

theorem scanGo_miss {a b : ByteArray} {t m : Int} {nw c : Cl} {r acc : List Cl} (h : (seenB t nw c && askB a b c.row && decide ((acc.length : Int) < m)) = false) : scanGo a b t m nw (c :: r) acc = scanGo a b t m (nextN t nw c) r acc := by
  simp only [scanGo, h, Bool.false_eq_true, if_false]

theorem Bk.new2 (w : World) (o : Obj) (t : TypeId) (xs : Array Value) : Bk ((w.alloc o).alloc (.cells xs t)) (w.heap.size + 1) t xs := by
  have := Bk.new (w.alloc o) t xs
  rwa [show (w.alloc o).heap.size = w.heap.size + 1 by simp] at this

theorem ownsC_shape {w : World} {base : Nat} {e : TypeId} {v : Value} {n : Nat} {xs : List Value} (h : w.ownsRow base e 5 v n xs) : ∃ ao cap, v = .slice ao n cap := by
  rcases h.2 with ⟨rfl, hn⟩ | ⟨g, cap, cur, rfl, _⟩
  · exact ⟨none, 0, by rw [hn]⟩
  · exact ⟨_, _, rfl⟩

theorem scanGo_full {a b : ByteArray} {t m : Int} : ∀ {cs : List Cl} {nw : Cl} {acc : List Cl}, ¬ (acc.length : Int) < m → scanGo a b t m nw cs acc = acc
  | [], _, _, _ => rfl
  | c :: r, nw, acc, h => by
    rw [scanGo_miss (by rw [show decide ((acc.length : Int) < m) = false by simpa using h, Bool.and_false])]
    exact scanGo_full h

theorem scanC_ask {cs : List Cl} {a b : ByteArray} {t m : Int} (h : (checkC cs).1 = 0) (h2 : (askFV t m).1 ≠ 0) : scanC cs a b t m = ([], askFV t m) := by
  rw [scanC, if_neg (by omega)]
  unfold askFV at h2 ⊢
  split
  · rfl
  · split
    · rfl
    · rename_i h3 h4
      simp [h3, h4] at h2

theorem askFV_zero {t m : Int} (h : (askFV t m).1 = 0) : askFV t m = (0, 0) ∧ isNumB t = true ∧ ¬ (m < 0 ∨ 1000 < m) := by
  unfold askFV at h ⊢
  cases hn : isNumB t
  · simp [hn] at h
  · by_cases hm : m < 0 ∨ 1000 < m
    · simp [hn, hm] at h
    · simp [hm]

set_option maxRecDepth 100000 in
set_option maxHeartbeats 1000000 in
theorem Scan_any (v : Value) (cs : List Cl) (a b : ByteArray) (t m : Int) (w : World) (hv : RdC w v cs) :
    Calls Try.prog 32 #[v, aA a b t m] w fun e w' => ∃ v', e = .returned (.tuple #[v', fltC (scanC cs a b t m).2]) ∧ RdC w' v' (scanC cs a b t m).1 ∧ Below w.heap.size w w' ∧ New w.heap.size v' := by
  obtain ⟨ao, cap, hvv, hc1, hc2, hat⟩ := hv.at
  subst hvv
  unfold maxLen at hc2
  unfold aA
  go_enter Try.func32, Try.ntmps32
  go_wp2_with fail
  have hA0 : Bk ((w.alloc (.cells #[.string a, .string b, .int .i64 t, .int .i64 m] 58)).alloc (.cells #[.int .i64 0, .int .i64 0] 29)) w.heap.size 58 #[.string a, .string b, .int .i64 t, .int .i64 m] := (Bk.new w _ _).below (below_alloc' _ _) (by simp)
  have hR0 := Bk.new2 w (.cells #[.string a, .string b, .int .i64 t, .int .i64 m] 58) 29 #[.int .i64 0, .int .i64 0]
  refine (CCheck_any _ cs _ ((hv.alloc _).alloc _)).mono ?_
  rintro e w1 ⟨rfl, hb1⟩
  have hR1 := hR0.below hb1 (by simp)
  have hA1 := hA0.below hb1 (by simp; omega)
  have hbw1 : Below w.heap.size w w1 := (below_alloc' _ _).trans (((below_alloc' _ _).mono (by simp)).trans (hb1.mono (by simp; omega)))
  have hsz1 := hR1.lt
  clear hb1 hR0 hA0
  have r0 := hR1.cell 0
  have r1 := hR1.cell 1
  have r2 := hR1.frozen 0
  have r3 := hR1.frozen 1
  have a0 := hA1.cell 0
  have a1 := hA1.cell 1
  have a2 := hA1.cell 2
  have a3 := hA1.cell 3
  simp at r0 r1 a0 a1 a2 a3
  have hsA1 := hA1.lt
  by_cases hc : (checkC cs).1 = 0
  · have hcz := checkC_zero hc
    have hfine := faultR_fine hc
    rw [hcz]
    unfold fltC
    clear hcz
    have hR2 : Bk (w1.alloc (.cells #[.int .i64 0, .int .i64 0] 29)) (w.heap.size + 1) 29 #[.int .i64 0, .int .i64 0] := hR1.below (below_alloc' _ _) hsz1
    have hA2 : Bk (w1.alloc (.cells #[.int .i64 0, .int .i64 0] 29)) w.heap.size 58 #[.string a, .string b, .int .i64 t, .int .i64 m] := hA1.below (below_alloc' _ _) hsA1
    have hbw2 : Below w.heap.size w (w1.alloc (.cells #[.int .i64 0, .int .i64 0] 29)) := hbw1.alloc (by omega) _
    go_wp2_with fail
    refine (vAskFault_any a b t m _).mono ?_
    rintro e w2 ⟨rfl, hb2⟩
    have hR3 := hR2.below hb2 hR2.lt
    have hA3 := hA2.below hb2 hA2.lt
    have hbw3 : Below w.heap.size w w2 := hbw2.trans (hb2.mono (by simp; omega))
    clear r0 r1 r2 r3 a0 a1 a2 a3 hR1 hR2 hA1 hA2 hbw1 hbw2 hb2 hsz1 hsA1
    have r0 := hR3.cell 0
    have r1 := hR3.cell 1
    have r2 := hR3.frozen 0
    have r3 := hR3.frozen 1
    have a0 := hA3.cell 0
    have a1 := hA3.cell 1
    have a2 := hA3.cell 2
    have a3 := hA3.cell 3
    simp at r0 r1 a0 a1 a2 a3
    have hsA3 := hA3.lt
    have hsR3 := hR3.lt
    by_cases hf : (askFV t m).1 = 0
    · obtain ⟨hf0, hn, hm⟩ := askFV_zero hf
      have HE := hide (@scanC_ok cs a b t m hc hn hm)
      have hm1 : ¬ m < 0 := by omega
      have hm2 : m ≤ 1000 := by omega
      rw [hf0]
      clear hc hm hf hf0 hn
      unfold fltC
      go_wp2_with fail
      refine (askedFor_any a b t m _).mono ?_
      rintro e wA ⟨rfl, hSA, hbA, hzA⟩
      have hRA : Bk wA (w.heap.size + 1) 29 #[.int .i64 0, .int .i64 0] := (hR3.below (below_alloc' _ _) hsR3).below hbA (by simp; omega)
      have hAA : Bk wA w.heap.size 58 #[.string a, .string b, .int .i64 t, .int .i64 m] := (hA3.below (below_alloc' _ _) hsA3).below hbA (by simp; omega)
      have hbwA : Below w.heap.size w wA := hbw3.trans (((below_alloc' _ _).mono (by omega)).trans (hbA.mono (by simp; omega)))
      have hz0 : (w2.alloc (.cells #[.int .i64 0, .int .i64 0] 29)).heap.size = w2.heap.size + 1 := by simp
      rw [hz0] at hSA hzA ⊢
      clear hbA hR3 hbw3 r0 r1 r2 r3 hz0 a0 a1 a2 a3 hA3
      have hsA : w.heap.size + 2 < w2.heap.size + 1 := by omega
      generalize w2.heap.size + 1 = A at *
      clear hsR3 hsA3
      unfold akF
      go_wp2_with fail
      go_loopw [9, 28] (fun o i wr => ∃ (k : Nat) (nw : Cl) (acc : List Cl), k ≤ cs.length ∧ i = .int .i64 k ∧ scanGo a b t m nw (cs.drop k) acc = scanGo a b t m zeroC cs [] ∧ acc.length ≤ k ∧ AkSt wr A a b t m nw ∧ wr.ownsRow (A + 5) 52 5 o acc.length (cc acc) ∧ Below (A + 2) wA wr)
        (fun _ i _ => cs.length - (intOf i).toNat)
      case atStart => exact ⟨0, zeroC, [], by omega, rfl, rfl, by simp, hSA, World.ownsRow_nil _ _ _ _, Below.refl _ _⟩
      case round =>
        obtain ⟨k, nw, acc, hk, rfl, hgo, hacc, hS, hown, hbel⟩ := hrel
        have HG := hide hgo
        clear hgo
        have hbw : Below w.heap.size w wr := hbwA.trans (hbel.mono (by omega))
        have hszN := hS.lt
        obtain ⟨ao2, cap2, hv2⟩ := ownsC_shape hown
        subst hv2
        by_cases hlt : k < cs.length
        · obtain ⟨bb, off, rfl, hb, hcl⟩ := hat k hlt
          have hck := (hcl k hlt).below hbw
          have hdr := drop_consC hlt
          generalize cs[k] = c at *
          rw [hdr] at HG
          obtain ⟨c0, c1, c2, c3, c4⟩ := hck
          clear hcl hat hdr
          have hA2 := hAA.below hbel (by omega)
          have a3 := hA2.cell 3
          have hlA : w.heap.size < wr.heap.size := by omega
          simp at a3
          have hS1 := hS.below (below_alloc' wr (.cells #[.string c.row, .string c.col, .int .i64 c.time, .bool c.gone, .string c.val] 52)) hszN
          have hbe1 : Below (A + 2) wA (wr.alloc (.cells #[.string c.row, .string c.col, .int .i64 c.time, .bool c.gone, .string c.val] 52)) := hbel.alloc (by omega) _
          have how1 := hown.alloc (.cells #[.string c.row, .string c.col, .int .i64 c.time, .bool c.gone, .string c.val] 52)
          by_cases hfull : (acc.length : Int) < m
          · have hd : decide ((acc.length : Int) < m) = true := by simpa using hfull
            go_wp2_with fail
            have hC1 : Bk (wr.alloc (.cells #[.string c.row, .string c.col, .int .i64 c.time, .bool c.gone, .string c.val] 52)) wr.heap.size 52 (ca c) := Bk.new _ _ _
            have hsz1 : wr.heap.size < (wr.alloc (.cells #[.string c.row, .string c.col, .int .i64 c.time, .bool c.gone, .string c.val] 52)).heap.size := by simp
            refine (askedFor1_any a b t m c nw A _ hS1).mono ?_
            rintro e w3 ⟨rfl, hS3, hg3⟩
            have hC3 := hC1.grown hg3 (by simp; omega)
            have hbe3 : Below (A + 2) wA w3 := hbe1.grown hg3 (by omega) (fun j hj => by simp at hj; omega)
            have how3 := owns_grown how1 hg3 (by omega)
            clear hS1 hC1 hbe1 hsz1 c0 c1 c2 c3 c4 hg3 how1 hown hS hbel hbw a3 hA2
            have hszC3 := hC3.lt
            obtain ⟨c0, c1, c2, c3, c4⟩ := hC3.facts
            cases hq : (seenB t nw c && askB a b c.row)
            · have HM := hide (@scanGo_miss a b t m nw c (cs.drop (k + 1)) acc (by rw [hq]; rfl))
              go_wp2_with fail
              go_roundw
              case rel => exact ⟨k + 1, nextN t nw c, acc, by omega, by go_num, by rw [← HG.out, HM.out], by omega, hS3, how3, hbe3⟩
              case measure => simp [intOf]; omega
            · have hq1 := hq
              simp only [Bool.and_eq_true] at hq1
              obtain ⟨h1, h2⟩ := hq1
              have HM := hide (@scanGo_hit a b t m nw c (cs.drop (k + 1)) acc h1 h2 hd)
              have hl8 : acc.length ≤ 100000000 := by omega
              have hb8 : A + 5 ≤ w3.heap.size := by omega
              clear h1 h2
              go_wp2_with (at_builtin; go_must (refine wpList_append_oneC (c := c) how3 Try.underlying43 Try.info52 rfl rfl rfl rfl rfl hl8 (by decide) hb8 ?_); intro v4 w4 ho4 hb4 hg4)
              have hS4 := hS3.below hb4 (by omega)
              go_roundw
              case rel => exact ⟨k + 1, nextN t nw c, acc ++ [c], by omega, by go_num, by rw [← HG.out, HM.out], by simp; omega, hS4, by simpa using ho4, hbe3.trans (hb4.mono (by omega))⟩
              case measure => simp [intOf]; omega
          · have hd : decide ((acc.length : Int) < m) = false := by simpa using hfull
            have HM := hide (show scanGo a b t m nw (cs.drop (k + 1)) acc = scanGo a b t m zeroC cs [] by rw [← HG.out, scanGo_full hfull, scanGo_full hfull])
            go_wp2_with fail
            go_roundw
            case rel => exact ⟨k + 1, nw, acc, by omega, by go_num, HM.out, by omega, hS1, how1, hbe1⟩
            case measure => simp [intOf]; omega
        · rw [List.drop_eq_nil_of_le (by omega)] at HG
          have hRr := hRA.below hbel (by omega)
          have r0 := hRr.cell 0
          have r1 := hRr.cell 1
          have r2 := hRr.frozen 0
          have r3 := hRr.frozen 1
          have hsr := hRr.lt
          simp at r0 r1
          go_wp2_with fail
          exact bodyPost_ret (v := .tuple #[.slice ao2 acc.length cap2, fltC (0, 0)]) (by simp [results, Try.results32, go_sem, fltC, r0, r1]) rfl ⟨_, by rw [HE.out], by rw [HE.out, ← HG.out]; exact RdC.ofOwns (ownsRow_setCell_below (ownsRow_setCell_below hown (by simp only; omega) _) (by simp only; omega) _), by go_grown, (New.owns hown).mono (by omega)⟩
    · have HE := hide (@scanC_ask cs a b t m hc hf)
      have hcb : ((askFV t m).1 == 0) = false := beq_eq_false_iff_ne.2 hf
      have hcb2 : ((askFV t m).1 != 0) = true := by simp [hf]
      clear hc hat hf
      generalize askFV t m = r at *
      obtain ⟨x, y⟩ := r
      simp only at hcb hcb2
      unfold fltC
      go_wp2_with fail
      go_region
      all_goals
        go_wp2_with fail
        exact bodyPost_ret (v := .tuple #[.slice none 0 0, fltC (x, y)]) (by simp [results, Try.results32, go_sem, fltC, r0, r1, hsR3]) rfl ⟨_, by rw [HE.out], by rw [HE.out]; exact RdC.nil _, by go_grown, New.nil _⟩
  · have HE := hide (@scanC_bad cs a b t m hc)
    have hcb : ((checkC cs).1 == 0) = false := beq_eq_false_iff_ne.2 hc
    have hcb2 : ((checkC cs).1 != 0) = true := by simp [hc]
    clear hc hat
    generalize checkC cs = r at *
    obtain ⟨x, y⟩ := r
    simp only at hcb hcb2
    unfold fltC
    go_wp2_with fail
    go_region
    all_goals
      go_wp2_with fail
      exact bodyPost_ret (v := .tuple #[.slice none 0 0, fltC (x, y)]) (by simp [results, Try.results32, go_sem, fltC, r0, r1, hsz1]) rfl ⟨_, by rw [HE.out], by rw [HE.out]; exact RdC.nil _, by go_grown, New.nil _⟩

end Go.Proofs.Ytlebbkbbmgmmjab
