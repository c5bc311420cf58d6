/-
  The walk over the document's reading of frames.
-/
import Derived.Test.YtlebbkbbmgmmjaaFramesRef
import Derived.Test.YtlebbkbbmgmmjaaRefT
namespace Go.Proofs.Ytlebbkbbmgmmjaa
open Go.RowKit

theorem owns_none {w w' : World} {base : Nat} {e : TypeId} {size : Nat} {v : Value} {n : Nat} {xs : List Value} (h : w.ownsRow base e size v n xs) (hg : w.grownBy w' none) : w'.ownsRow base e size v n xs := by
  refine h.kept hg ?_
  cases hv : v.ownBlock with
  | none => exact .inl rfl
  | some k => right; simp

theorem OwnB.drewN {w : World} {base : Nat} {us : List Value} {bb : List (List UInt8)} (h : OwnB w base us bb) (n : Nat) : OwnB (w.drewN n) base us bb := OwnB.keep (w := w) (w' := w.drewN n) (fun _ _ _ h => h) h
theorem OwnB.drew {w : World} {base : Nat} {us : List Value} {bb : List (List UInt8)} (h : OwnB w base us bb) : OwnB w.drew base us bb := OwnB.keep (w := w) (w' := w.drew) (fun _ _ _ h => h) h

set_option maxRecDepth 100000 in
set_option maxHeartbeats 1000000 in
theorem Unframed_any (v : Value) (bs : List UInt8) (w : World) (hrd : Rd w v (bc bs)) (hbl : bs.length ≤ 60000) :
    Calls Try.prog 31 #[v] w fun e w' => ∃ v', e = .returned (.tuple #[v', .int .i64 ((unGo (bs.length + 1) bs [] 0).2 : Nat)]) ∧ RdBN w' w.heap.size v' (unGo (bs.length + 1) bs [] 0).1 ∧ Below w.heap.size w w' := by
  obtain ⟨ao, cap, hv, hc1, hc2, hcell⟩ := hrd.open
  rw [bc_length] at hc1 hv hcell
  subst hv
  unfold maxLen at hc2
  go_enter Try.func31, Try.ntmps31
  go_wp2_with fail
  go_loopw [4, 5] (fun o i wr => ∃ (k f : Nat) (acc : List (List UInt8)) (us : List Value), k ≤ bs.length ∧ i = .int .i64 k ∧ unGo (f + 1) (bs.drop k) acc k = unGo (bs.length + 1) bs [] 0 ∧ bs.length ≤ k + f ∧ acc.length ≤ k ∧ wr.ownsRow w.heap.size 23 1 o acc.length us ∧ OwnB wr w.heap.size us acc ∧ Below w.heap.size w wr)
    (fun _ i _ => bs.length + 1 - (intOf i).toNat)
  case atStart => exact ⟨0, bs.length, [], [], by omega, rfl, rfl, by omega, by simp, World.ownsRow_nil _ _ _ _, trivial, Below.refl _ _⟩
  case round =>
    obtain ⟨k, f, acc, us, hk, rfl, hgo, hf, hacc, hown, hob, hbel⟩ := hrel
    have HG := hide hgo
    clear hgo
    have hsz := hbel.size
    have hrr := hrd.below hbel
    by_cases h6 : bs.length < k + 6
    · have HE := hide (@unGo_end f k (bs.drop k) acc (frameAt_short (by rw [List.length_drop]; omega)))
      go_wp2_with fail
      go_ret2
      exact ⟨_, by rw [← HG.out, HE.out]; rfl, by rw [← HG.out, HE.out]; exact rdBN_of hown hob (Nat.le_refl _), hbel⟩
    · obtain ⟨b, off, rfl, hb, hcl⟩ := hcell k (by omega)
      obtain ⟨y0, hy0⟩ : ∃ y, bs[k]? = some y := ⟨_, List.getElem?_eq_getElem (by omega)⟩
      obtain ⟨y1, hy1⟩ : ∃ y, bs[k + 1]? = some y := ⟨_, List.getElem?_eq_getElem (by omega)⟩
      have hk0 : wr.cell? ⟨b, off + k, none⟩ = some (.int .u8 (y0.toNat : Int)) := by rw [hbel.cell (by exact hb)]; exact hcl k _ (by simp [bc, hy0])
      have hk1 : wr.cell? ⟨b, off + (k + 1), none⟩ = some (.int .u8 (y1.toNat : Int)) := by rw [hbel.cell (by exact hb)]; exact hcl (k + 1) _ (by simp [bc, hy1])
      have hx0 := y0.toNat_lt
      have hx1 := y1.toNat_lt
      have hd0 : (bs.drop k)[0]? = some y0 := by rw [List.getElem?_drop]; exact hy0
      have hd1 : (bs.drop k)[1]? = some y1 := by rw [List.getElem?_drop]; exact hy1
      have hdl : (bs.drop k).length = bs.length - k := List.length_drop
      have hfe := fun n hn => frameAt_eq hd0 hd1 n hn
      have hsm := fun n hn hl => @framed_same _ _ _ n hd0 hd1 hn hl
      clear hcell hcl hy0 hy1 hd0 hd1
      generalize y0.toNat = x0 at *
      generalize y1.toNat = x1 at *
      obtain ⟨n, hn⟩ : ∃ n, n = x0 * 256 + x1 := ⟨_, rfl⟩
      have hfe := hfe n hn
      have hsm := hsm n hn
      rw [hdl] at hfe hsm
      have HFE := hide hfe
      have HSM := hide hsm
      have HN := hide hn
      have hni : (x0 : Int) * 256 + (x1 : Int) = (n : Int) := by omega
      have hn16 : (n : Int) ≤ 65535 := by omega
      clear hfe hsm hn
      by_cases hlong : bs.length - k < 6 + n
      · have hnone : frameAt (bs.drop k) = none := by rw [HFE.out, if_pos hlong]
        have HE := hide (@unGo_end f k (bs.drop k) acc hnone)
        clear hnone
        go_wp2_with fail
        go_quiet (fail)
        have hbrk : (bs.length : Int) < (k : Int) + 6 + (n : Int) := by omega
        go_wp2_with fail
        go_ret2
        exact ⟨_, by rw [← HG.out, HE.out]; rfl, by rw [← HG.out, HE.out]; exact rdBN_of (w := wr.drewN _) hown (hob.drewN _) (Nat.le_refl _), below_drewN hbel _⟩
      · have hfit : ¬ (bs.length : Int) < (k : Int) + 6 + (n : Int) := by omega
        have hwa : IntKind.i64.wrap ((k : Int) + 6) = (k : Int) + 6 := by rw [IntKind.wrap_i64]; omega
        have hwb : IntKind.i64.wrap ((k : Int) + 6 + (n : Int)) = (k : Int) + 6 + (n : Int) := by rw [IntKind.wrap_i64]; omega
        have hs7 := run_slice_rd (P := Try.prog) Try.underlying23 (by kernel_rfl) Try.info5 (some ⟨b, off, none⟩) bs.length cap (k + 2) (k + 2 + n) ((k : Int) + 2) ((k : Int) + 2 + (n : Int)) (by omega) (by omega) (by omega) (by omega)
        have hV7 := hrr.sliced (lo := k + 2) (hi := k + 2 + n) (by omega) (by omega)
        rw [bc_drop, bc_take, show k + 2 + n - (k + 2) = n by omega, ← List.drop_drop] at hV7
        have hs8 := run_slice_rd (P := Try.prog) Try.underlying23 (by kernel_rfl) Try.info5 (some ⟨b, off, none⟩) bs.length cap k (k + 6 + n) (k : Int) ((k : Int) + 6 + (n : Int)) (by omega) (by omega) (by omega) (by omega)
        have hV8 := hrr.sliced (lo := k) (hi := k + 6 + n) (by omega) (by omega)
        rw [bc_drop, bc_take, show k + 6 + n - k = 6 + n by omega] at hV8
        have hfe := HFE.out
        have hsm := HSM.out (by omega)
        rw [if_neg hlong] at hfe
        have hb7 : (((bs.drop k).drop 2).take n).length = n := by simp; omega
        generalize hBO : ((bs.drop k).drop 2).take n = body at *
        have HBO := hide hBO
        have HB7 := hide hb7
        have HBL : Hid (body.length ≤ 65535) := by show body.length ≤ 65535; omega
        clear hBO hb7
        generalize sliced (some ⟨b, off, none⟩) (k + 2) (k + 2 + n) cap 1 = V7 at hs7 hV7
        generalize sliced (some ⟨b, off, none⟩) k (k + 6 + n) cap 1 = V8 at hs8 hV8
        generalize (bs.drop k).take (6 + n) = whole at *
        by_cases hcr : crc ((bs.drop k).take (2 + n)) = beVal (((bs.drop k).drop (2 + n)).take 4)
        · rw [if_neg (by simpa using hcr)] at hfe
          have hsb : (framed body == whole) = true := by rw [hsm]; simpa using hcr
          have HE := hide (@unGo_step f k (bs.drop k) body acc hfe)
          clear hfe hsm hcr
          go_wp2_with fail
          go_quiet (fail)
          go_wp2_with fail
          have hown7 : (wr.drewN nq).ownsRow w.heap.size 23 1 _ acc.length us := hown
          have hob7 := hob.drewN nq
          have hbel7 := below_drewN hbel nq
          have hV77 := hV7.drewN nq
          have hV87 := hV8.drewN nq
          have hsz7 := hbel7.size
          generalize wr.drewN nq = w7 at *
          go_region_held3 (fun _ => True) (trivial) (first | (go_at_call 34; refine (Framed_any _ body _ (by exact hV77) (by exact HBL.out)).mono ?_; rintro e w2 ⟨v2, rfl, hr2, hb2, hn2⟩; have hV88 := Rd.below (v := V8) (by exact hV87) hb2) | (go_at_call 35; refine (Same_any _ _ (framed body) whole _ ?_ ?_).mono ?_; exact hr2; exact hV88; rintro e w3 ⟨rfl, rfl⟩))
          have hb27 := Below.trans hbel7.drew (hb2.mono (by exact hsz7))
          have hown2 := owns_below (w := w7.drew) hown7 hb2
          have hob2 := hob7.drew.keep (fun u n xs h => owns_below h hb2)
          have hV72 := Rd.below (v := V7) (w := w7.drew) hV77 hb2
          have hsz2 := hb27.size
          obtain ⟨ao2, cap2, hv2⟩ := owns_shape hown2
          subst hv2
          clear hown7 hob7 hbel7 hV77 hV87 hV88 hr2 hn2 hown hob hbel hV7 hV8 hb2
          have hn1 := World.ownsRow_nil w3 w.heap.size 5 1
          have hbn : 0 + (bc body).length ≤ 2000000000000 := by rw [bc_length, HB7.out]; omega
          have hal : acc.length ≤ 1000000000000 := by omega
          go_wp2_with (first | (have k9 := hown5; at_builtin; go_must (refine wpList_append_one hown5 Try.underlying50 Try.info23 rfl rfl rfl rfl rfl ho5o hal (by decide) hsz5 ?_); intro v6 w6 ho6 hb6 hg6) | (at_builtin; go_must (refine wpList_append_rd hn1 hV72 Try.underlying23 Try.info5 rfl rfl rfl rfl rfl (bc_one _) hbn (by decide) hsz2 ?_); intro v5 w5 ho5 hb5 hg5; obtain ⟨ao5, cap5, hv5⟩ := owns_shape ho5; subst hv5; have hown5 := owns_none hown2 hg5; have hsz5 := Nat.le_trans hsz2 hb5.size; have ho5o := owns_one ho5))
          have hob5 := hob2.keep (fun u n xs h => owns_none h hg5)
          simp only [List.nil_append, bc_length, Nat.zero_add] at ho5
          have hob6 := (hob5.snoc ho5).keep (fun u n xs h => owns_other (by decide) h hown5 hg6)
          have hl := HB7.out
          go_roundw
          case rel =>
            obtain ⟨f', rfl⟩ : ∃ f', f = f' + 1 := ⟨f - 1, by omega⟩
            refine ⟨k + (body.length + 6), f', acc ++ [body], _, by omega, by rw [hl]; go_num, ?_, by omega, by simp; omega, by simpa [bc_length] using ho6, hob6, (hb27.trans hb5).trans hb6⟩
            rw [← HG.out, HE.out, List.drop_drop]
          case measure => simp [intOf]; omega
        · rw [if_pos (by simpa using hcr)] at hfe
          have hsb : (framed body == whole) = false := by rw [hsm]; simpa using hcr
          have HE := hide (@unGo_end f k (bs.drop k) acc hfe)
          clear hfe hsm hcr
          go_wp2_with fail
          go_quiet (fail)
          go_wp2_with fail
          have hown7 : (wr.drewN nq).ownsRow w.heap.size 23 1 _ acc.length us := hown
          have hob7 := hob.drewN nq
          have hbel7 := below_drewN hbel nq
          have hV77 := hV7.drewN nq
          have hV87 := hV8.drewN nq
          have hsz7 := hbel7.size
          generalize wr.drewN nq = w7 at *
          go_region_held3 (fun _ => True) (trivial) (first | (go_at_call 34; refine (Framed_any _ body _ (by exact hV77) (by exact HBL.out)).mono ?_; rintro e w2 ⟨v2, rfl, hr2, hb2, hn2⟩; have hV88 := Rd.below (v := V8) (by exact hV87) hb2) | (go_at_call 35; refine (Same_any _ _ (framed body) whole _ ?_ ?_).mono ?_; exact hr2; exact hV88; rintro e w3 ⟨rfl, rfl⟩))
          have hb27 := Below.trans hbel7.drew (hb2.mono (by exact hsz7))
          have hown2 := owns_below (w := w7.drew) hown7 hb2
          have hob2 := hob7.drew.keep (fun u n xs h => owns_below h hb2)
          clear hown7 hob7 hbel7 hV77 hV87 hV88 hr2 hn2 hown hob hbel hV7 hV8 hb2
          go_wp2_with fail
          go_ret2
          exact ⟨_, by rw [← HG.out, HE.out]; rfl, by rw [← HG.out, HE.out]; exact rdBN_of hown2 hob2 (Nat.le_refl _), hb27⟩

end Go.Proofs.Ytlebbkbbmgmmjaa
