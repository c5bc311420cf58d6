/-
  The walk over cell.Scan.
-/
import Derived.Test.YtoelolomojnidabCellW5
namespace Go.Proofs.Ytoelolomojnidab
open Go.RowKit

theorem Try.info52 : (Try.prog.info? 52).map (fun i => (i.zero, i.size, i.bytes)) = some (some (.agg #[.string ⟨#[]⟩, .string ⟨#[]⟩, .int .i64 0, .bool false, .string ⟨#[]⟩]), 5, 64) := by kernel_rfl

/-- What Scan collects, behind one that hides. -/
def scanGo (a b : ByteArray) (t m : Int) : Cl → List Cl → List Cl → List Cl
  | _, [], acc => acc
  | nw, c :: r, acc => if seenB t nw c && askB a b c.row && decide ((acc.length : Int) < m) then scanGo a b t m (nextN t nw c) r (acc ++ [c]) else scanGo a b t m (nextN t nw c) r acc

/-- What Scan answers. -/
def scanC (cs : List Cl) (a b : ByteArray) (t m : Int) : List Cl × (Int × Int) :=
  if (checkC cs).1 ≠ 0 then ([], checkC cs) else if isNumB t = false then ([], (3, -1)) else if m < 0 ∨ 1000 < m then ([], (3, -2)) else (scanGo a b t m zeroC cs [], (0, 0))

theorem scanC_bad {cs : List Cl} {a b : ByteArray} {t m : Int} (h : (checkC cs).1 ≠ 0) : scanC cs a b t m = ([], checkC cs) := by rw [scanC, if_pos h]
theorem scanC_time {cs : List Cl} {a b : ByteArray} {t m : Int} (h : (checkC cs).1 = 0) (h2 : isNumB t = false) : scanC cs a b t m = ([], (3, -1)) := by rw [scanC, if_neg (by omega), if_pos h2]
theorem scanC_many {cs : List Cl} {a b : ByteArray} {t m : Int} (h : (checkC cs).1 = 0) (h2 : isNumB t = true) (h3 : m < 0 ∨ 1000 < m) : scanC cs a b t m = ([], (3, -2)) := by rw [scanC, if_neg (by omega), if_neg (by rw [h2]; decide), if_pos h3]
theorem scanC_ok {cs : List Cl} {a b : ByteArray} {t m : Int} (h : (checkC cs).1 = 0) (h2 : isNumB t = true) (h3 : ¬ (m < 0 ∨ 1000 < m)) : scanC cs a b t m = (scanGo a b t m zeroC cs [], (0, 0)) := by rw [scanC, if_neg (by omega), if_neg (by rw [h2]; decide), if_neg h3]

theorem scanGo_hit {a b : ByteArray} {t m : Int} {nw c : Cl} {r acc : List Cl} (h1 : seenB t nw c = true) (h2 : askB a b c.row = true) (h3 : decide ((acc.length : Int) < m) = true) : scanGo a b t m nw (c :: r) acc = scanGo a b t m (nextN t nw c) r (acc ++ [c]) := by
  simp only [scanGo, h1, h2, h3, Bool.and_self, if_true]

theorem scanGo_miss {a b : ByteArray} {t m : Int} {nw c : Cl} {r acc : List Cl} (h : (seenB t nw c && askB a b c.row && decide ((acc.length : Int) < m)) = false) : scanGo a b t m nw (c :: r) acc = scanGo a b t m (nextN t nw c) r acc := by
  simp only [scanGo, h, Bool.false_eq_true, if_false]

theorem Bk.new2 (w : World) (o : Obj) (t : TypeId) (xs : Array Value) : Bk ((w.alloc o).alloc (.cells xs t)) (w.heap.size + 1) t xs := by
  have := Bk.new (w.alloc o) t xs
  rwa [show (w.alloc o).heap.size = w.heap.size + 1 by simp] at this

theorem ownsC_shape {w : World} {base : Nat} {e : TypeId} {v : Value} {n : Nat} {xs : List Value} (h : w.ownsRow base e 5 v n xs) : ∃ ao cap, v = .slice ao n cap := by
  rcases h.2 with ⟨rfl, hn⟩ | ⟨g, cap, cur, rfl, _⟩
  · exact ⟨none, 0, by rw [hn]⟩
  · exact ⟨_, _, rfl⟩

set_option maxRecDepth 100000 in
set_option maxHeartbeats 1000000 in
theorem Scan_any (v : Value) (cs : List Cl) (a b : ByteArray) (t m : Int) (w : World) (hv : RdC w v cs) :
    Calls Try.prog 32 #[v, aA a b t m] w fun e w' => ∃ v', e = .returned (.tuple #[v', fltC (scanC cs a b t m).2]) ∧ RdC w' v' (scanC cs a b t m).1 ∧ Below w.heap.size w w' ∧ New w.heap.size v' := by
  obtain ⟨ao, cap, hvv, hc1, hc2, hat⟩ := hv.at
  subst hvv
  unfold maxLen at hc2
  unfold aA
  go_enter Try.func32, Try.ntmps32
  go_wp2_with fail
  have hA0 : Bk ((w.alloc (.cells #[.string a, .string b, .int .i64 t, .int .i64 m] 58)).alloc (.cells #[.int .i64 0, .int .i64 0] 29)) w.heap.size 58 #[.string a, .string b, .int .i64 t, .int .i64 m] := (Bk.new w _ _).below (below_alloc' _ _) (by simp)
  have hR0 := Bk.new2 w (.cells #[.string a, .string b, .int .i64 t, .int .i64 m] 58) 29 #[.int .i64 0, .int .i64 0]
  refine (CCheck_any _ cs _ ((hv.alloc _).alloc _)).mono ?_
  rintro e w1 ⟨rfl, hb1⟩
  have hR1 := hR0.below hb1 (by simp)
  have hA1 := hA0.below hb1 (by simp; omega)
  have hbw1 : Below w.heap.size w w1 := (below_alloc' _ _).trans (((below_alloc' _ _).mono (by simp)).trans (hb1.mono (by simp; omega)))
  have hsz1 := hR1.lt
  clear hb1 hR0 hA0
  have r0 := hR1.cell 0
  have r1 := hR1.cell 1
  have r2 := hR1.frozen 0
  have r3 := hR1.frozen 1
  have a0 := hA1.cell 0
  have a1 := hA1.cell 1
  have a2 := hA1.cell 2
  have a3 := hA1.cell 3
  simp at r0 r1 a0 a1 a2 a3
  have hsA1 := hA1.lt
  by_cases hc : (checkC cs).1 = 0
  · have hcz := checkC_zero hc
    have hfine := faultR_fine hc
    rw [hcz]
    unfold fltC
    clear hcz
    cases hn : isNumB t
    · have HE := hide (@scanC_time cs a b t m hc hn)
      clear hc hat
      go_wp2_with (go_at_call 58; refine (isNum_any _ _).mono ?_; rintro e w' ⟨rfl, rfl⟩; rw [hn])
      exact bodyPost_ret (v := .tuple #[.slice none 0 0, fltC (3, -1)]) (by simp [results, Try.results32, go_sem, fltC, r0, r1, hsz1]) rfl ⟨_, by rw [HE.out], by rw [HE.out]; exact RdC.nil _, by go_grown, New.nil _⟩
    · by_cases hm : m < 0 ∨ 1000 < m
      · have HE := hide (@scanC_many cs a b t m hc hn hm)
        clear hc hat
        by_cases hm0 : m < 0
        all_goals
          go_wp2_with (go_at_call 58; refine (isNum_any _ _).mono ?_; rintro e w' ⟨rfl, rfl⟩; rw [hn])
          exact bodyPost_ret (v := .tuple #[.slice none 0 0, fltC (3, -2)]) (by simp [results, Try.results32, go_sem, fltC, r0, r1, hsz1]) rfl ⟨_, by rw [HE.out], by rw [HE.out]; exact RdC.nil _, by go_grown, New.nil _⟩
      · have HE := hide (@scanC_ok cs a b t m hc hn hm)
        have hm1 : ¬ m < 0 := by omega
        have hm2 : m ≤ 1000 := by omega
        clear hc hm
        go_wp2_with (go_at_call 58; refine (isNum_any _ _).mono ?_; rintro e w' ⟨rfl, rfl⟩; rw [hn])
        refine (seenAt_any t _).mono ?_
        rintro e wA ⟨rfl, hTA, hNA, hbA, hzA⟩
        have hRA : Bk wA (w.heap.size + 1) 29 #[.int .i64 0, .int .i64 0] := (hR1.below (below_alloc' _ _) hsz1).below hbA (by simp; omega)
        have hAA : Bk wA w.heap.size 58 #[.string a, .string b, .int .i64 t, .int .i64 m] := (hA1.below (below_alloc' _ _) hsA1).below hbA (by simp; omega)
        have hbwA : Below w.heap.size w wA := hbw1.trans (((below_alloc' _ _).mono (by omega)).trans (hbA.mono (by simp; omega)))
        have hz0 : (w1.alloc (.cells #[.int .i64 0, .int .i64 0] 29)).heap.size = w1.heap.size + 1 := by simp
        rw [hz0] at hTA hNA hzA ⊢
        clear hbA hR1 hbw1 r0 r1 r2 r3 hz0 a0 a1 a2 a3 hA1
        have hsA : w.heap.size + 2 < w1.heap.size + 1 := by omega
        generalize w1.heap.size + 1 = T at *
        clear hsz1 hsA1
        go_wp2_with fail
        go_loopw [8, 36] (fun o i wr => ∃ (k : Nat) (nw : Cl) (acc : List Cl), k ≤ cs.length ∧ i = .int .i64 k ∧ scanGo a b t m nw (cs.drop k) acc = scanGo a b t m zeroC cs [] ∧ acc.length ≤ k ∧ Bk wr (T + 1) 52 (ca nw) ∧ wr.ownsRow (T + 2) 52 5 o acc.length (cc acc) ∧ Below (T + 1) wA wr)
          (fun _ i _ => cs.length - (intOf i).toNat)
        case atStart => exact ⟨0, zeroC, [], by omega, rfl, rfl, by simp, hNA, World.ownsRow_nil _ _ _ _, Below.refl _ _⟩
        case round =>
          obtain ⟨k, nw, acc, hk, rfl, hgo, hacc, hN, hown, hbel⟩ := hrel
          have HG := hide hgo
          clear hgo
          have hbw : Below w.heap.size w wr := hbwA.trans (hbel.mono (by omega))
          have hTr := hTA.below hbel (by omega)
          have hszN := hN.lt
          obtain ⟨ao2, cap2, hv2⟩ := ownsC_shape hown
          subst hv2
          by_cases hlt : k < cs.length
          · obtain ⟨bb, off, rfl, hb, hcl⟩ := hat k hlt
            have hck := (hcl k hlt).below hbw
            have hdr := drop_consC hlt
            generalize cs[k] = c at *
            rw [hdr] at HG
            obtain ⟨c0, c1, c2, c3, c4⟩ := hck
            clear hcl hat hdr
            go_wp2_with fail
            have hN1 : Bk (wr.alloc (.cells #[.string c.row, .string c.col, .int .i64 c.time, .bool c.gone, .string c.val] 52)) (T + 1) 52 (ca nw) := hN.below (below_alloc' _ _) hszN
            have hT1 : Bk (wr.alloc (.cells #[.string c.row, .string c.col, .int .i64 c.time, .bool c.gone, .string c.val] 52)) T 3 #[.int .i64 t] := hTr.below (below_alloc' _ _) (by omega)
            have hC1 : Bk (wr.alloc (.cells #[.string c.row, .string c.col, .int .i64 c.time, .bool c.gone, .string c.val] 52)) wr.heap.size 52 (ca c) := Bk.new _ _ _
            have hbe1 : Below (T + 1) wA (wr.alloc (.cells #[.string c.row, .string c.col, .int .i64 c.time, .bool c.gone, .string c.val] 52)) := hbel.alloc (by omega) _
            have hsz1 : wr.heap.size < (wr.alloc (.cells #[.string c.row, .string c.col, .int .i64 c.time, .bool c.gone, .string c.val] 52)).heap.size := by simp
            have how1 := hown.alloc (.cells #[.string c.row, .string c.col, .int .i64 c.time, .bool c.gone, .string c.val] 52)
            refine (seenAt1_any t c nw T (T + 1) _ (hT1.cell 0) hN1).mono ?_
            rintro e w2 ⟨rfl, hN2, hg2⟩
            have hC2 := hC1.grown hg2 (by simp; omega)
            have hbe2 : Below (T + 1) wA w2 := hbe1.grown hg2 (by omega) (fun j hj => by simp at hj; omega)
            have how2 := owns_grown how1 hg2 (by omega)
            clear hN1 hT1 hC1 hbe1 hsz1 c0 c1 c2 c3 c4 hg2 how1 hown hN hbel hbw hTr
            have hszC := hC2.lt
            have hA2 := hAA.below hbe2 (by omega)
            obtain ⟨c0, c1, c2, c3, c4⟩ := hC2.facts
            have a0 := hA2.cell 0
            have a1 := hA2.cell 1
            have a2 := hA2.cell 2
            have a3 := hA2.cell 3
            simp at a0 a1 a2 a3
            cases hq : seenB t nw c
            · have HM := hide (@scanGo_miss a b t m nw c (cs.drop (k + 1)) acc (by rw [hq]; rfl))
              go_wp2_with fail
              go_roundw
              case rel => exact ⟨k + 1, nextN t nw c, acc, by omega, by go_num, by rw [← HG.out, HM.out], by omega, hN2, how2, hbe2⟩
              case measure => simp [intOf]; omega
            · go_wp2_with fail
              refine (asksFor_any a b c.row t m _).mono ?_
              rintro e w3 ⟨rfl, hb3⟩
              have hC3 := hC2.below hb3 hszC
              have hN3 := hN2.below hb3 hN2.lt
              have how3 := owns_below how2 hb3
              have hbe3 : Below (T + 1) wA w3 := hbe2.trans (hb3.mono (by omega))
              have hszC3 := hC3.lt
              clear c0 c1 c2 c3 c4 a0 a1 a2 a3
              have hA3 := hAA.below hbe3 (by omega)
              clear hC2 hN2 how2 hbe2 hb3 hA2
              obtain ⟨c0, c1, c2, c3, c4⟩ := hC3.facts
              have a3 := hA3.cell 3
              simp at a3
              cases hq2 : (askB a b c.row && decide ((acc.length : Int) < m))
              · have HM := hide (@scanGo_miss a b t m nw c (cs.drop (k + 1)) acc (by rw [hq, Bool.true_and]; exact hq2))
                have hq3 : askB a b c.row = false ∨ askB a b c.row = true ∧ decide ((acc.length : Int) < m) = false := by
                  revert hq2
                  cases askB a b c.row <;> cases decide ((acc.length : Int) < m) <;> simp
                clear hq2
                rcases hq3 with h1 | ⟨h1, h2⟩
                all_goals
                  rw [h1]
                  go_wp2_with fail
                  go_roundw
                  case rel => exact ⟨k + 1, nextN t nw c, acc, by omega, by go_num, by rw [← HG.out, HM.out], by omega, hN3, how3, hbe3⟩
                  case measure => simp [intOf]; omega
              · simp only [Bool.and_eq_true] at hq2
                obtain ⟨h1, h2⟩ := hq2
                have HM := hide (@scanGo_hit a b t m nw c (cs.drop (k + 1)) acc hq h1 h2)
                rw [h1]
                have hl8 : acc.length ≤ 100000000 := by omega
                have hb8 : T + 2 ≤ w3.heap.size := by omega
                go_wp2_with (at_builtin; go_must (refine wpList_append_oneC (c := c) how3 Try.underlying43 Try.info52 rfl rfl rfl rfl rfl hl8 (by decide) hb8 ?_); intro v4 w4 ho4 hb4 hg4)
                have hN4 : Bk w4 (T + 1) 52 (ca (nextN t nw c)) := hN3.below hb4 (by omega)
                go_roundw
                case rel => exact ⟨k + 1, nextN t nw c, acc ++ [c], by omega, by go_num, by rw [← HG.out, HM.out], by simp; omega, hN4, by simpa using ho4, hbe3.trans (hb4.mono (by omega))⟩
                case measure => simp [intOf]; omega
          · rw [List.drop_eq_nil_of_le (by omega)] at HG
            have hRr := hRA.below hbel (by omega)
            have r0 := hRr.cell 0
            have r1 := hRr.cell 1
            have r2 := hRr.frozen 0
            have r3 := hRr.frozen 1
            have hsr := hRr.lt
            simp at r0 r1
            go_wp2_with fail
            exact bodyPost_ret (v := .tuple #[.slice ao2 acc.length cap2, fltC (0, 0)]) (by simp [results, Try.results32, go_sem, fltC, r0, r1]) rfl ⟨_, by rw [HE.out], by rw [HE.out, ← HG.out]; exact RdC.ofOwns (ownsRow_setCell_below (ownsRow_setCell_below hown (by simp only; omega) _) (by simp only; omega) _), by go_grown, (New.owns hown).mono (by omega)⟩
  · have HE := hide (@scanC_bad cs a b t m hc)
    have hcb : ((checkC cs).1 == 0) = false := beq_eq_false_iff_ne.2 hc
    have hcb2 : ((checkC cs).1 != 0) = true := by simp [hc]
    clear hc hat
    generalize checkC cs = r at *
    obtain ⟨x, y⟩ := r
    simp only at hcb hcb2
    unfold fltC
    go_wp2_with fail
    go_region
    all_goals
      go_wp2_with fail
      exact bodyPost_ret (v := .tuple #[.slice none 0 0, fltC (x, y)]) (by simp [results, Try.results32, go_sem, fltC, r0, r1, hsz1]) rfl ⟨_, by rw [HE.out], by rw [HE.out]; exact RdC.nil _, by go_grown, New.nil _⟩

end Go.Proofs.Ytoelolomojnidab
