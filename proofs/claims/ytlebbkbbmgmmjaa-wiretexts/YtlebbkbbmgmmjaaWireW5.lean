/-
  The walk over wire.Texts.
-/
import Derived.Test.YtlebbkbbmgmmjaaWireW4
namespace Go.Proofs.Ytlebbkbbmgmmjaa
open Go.RowKit

/-- What Texts comes to, from what is left on. -/
def textsGo : List (List UInt8) → List UInt8 → List UInt8 × Int × Int
  | [], acc => (acc, 0, 0)
  | t :: ts, acc => if 60000 < acc.length + (encN t.length).length + t.length then ([], 9, 0) else textsGo ts (acc ++ encN t.length ++ t)

def textsR (ss : List (List UInt8)) : List UInt8 × Int × Int := if 1000 < ss.length then ([], 2, 0) else textsGo ss []
theorem textsGo_step (zs : List (List UInt8)) (k : Nat) (acc : List UInt8) (h : k < zs.length) (h1 : acc.length + (encN zs[k].length).length + zs[k].length ≤ 60000) :
    textsGo (zs.drop (k + 1)) (acc ++ encN zs[k].length ++ zs[k]) = textsGo (zs.drop k) acc := by
  rw [drop_cons zs k h, textsGo, if_neg (by omega)]

theorem textsGo_bad (zs : List (List UInt8)) (k : Nat) (acc : List UInt8) (h : k < zs.length) (h1 : 60000 < acc.length + (encN zs[k].length).length + zs[k].length) : textsGo (zs.drop k) acc = ([], 9, 0) := by
  rw [drop_cons zs k h, textsGo, if_pos h1]

theorem textsGo_end (zs : List (List UInt8)) (k : Nat) (acc : List UInt8) (h : zs.length ≤ k) : textsGo (zs.drop k) acc = (acc, 0, 0) := by
  rw [List.drop_eq_nil_of_le h, textsGo]

set_option maxRecDepth 100000 in
set_option maxHeartbeats 400000 in
theorem Texts_any (v : Value) (zs : List (List UInt8)) (w : World) (hrd : Rd w v (sc zs)) (hz : ∀ s ∈ zs, s.length ≤ 140737488351232) :
    Calls Try.prog 20 #[v] w fun e w' => ∃ v', e = .returned (.tuple #[v', flt (textsR zs).2.1 (textsR zs).2.2]) ∧ Rd w' v' (bc (textsR zs).1) ∧ Below w.heap.size w w' ∧ New w.heap.size v' := by
  obtain ⟨ao, cap, rfl, hc1, hc2, hcell⟩ := hrd.open
  rw [sc_length] at hc1 hcell ⊢
  unfold maxLen at hc2
  have HZ0 := hide hz
  clear hz
  by_cases hbig : 1000 < zs.length
  · go_enter Try.func20, Try.ntmps20
    go_wp2_with fail
    exact bodyPost_ret (v := .tuple #[.slice none 0 0, flt 2 0]) (by simp [results, Try.results20, go_sem, flt]) rfl ⟨.slice none 0 0, by simp [textsR, hbig], by simp [textsR, hbig, bc]; exact Rd.nil _, by go_grown, New.nil _⟩
  · go_enter Try.func20, Try.ntmps20
    go_wp2_with fail
    go_loopw [4, 13] (fun o i wr => ∃ (k : Nat) (acc : List UInt8), k ≤ zs.length ∧ i = .int .i64 k ∧ textsGo (zs.drop k) acc = textsR zs ∧ acc.length ≤ 60000 ∧ wr.ownsRow (w.heap.size + 1) 5 1 o acc.length (bc acc) ∧ Below (w.heap.size + 1) (w.alloc (.cells #[.int .i64 0, .int .i64 0] 26)) wr)
      (fun _ i _ => zs.length - (intOf i).toNat)
    case atStart => exact ⟨0, [], by omega, rfl, by simp [textsR, hbig], by simp, World.ownsRow_nil _ _ _ _, Below.refl _ _⟩
    case round =>
      obtain ⟨k, acc, hk, rfl, hgo, hacc, hown, hbel⟩ := hrel
      have HG := hide hgo
      clear hgo
      have hsz := (two_later hbel).2.2.2.2
      by_cases hlt : k < zs.length
      · obtain ⟨b, off, rfl, hb, hcl⟩ := hcell k hlt
        have hl0 := HZ0.out zs[k] (List.getElem_mem hlt)
        have hbad := textsGo_bad zs k acc hlt
        have hstep := textsGo_step zs k acc hlt
        have hck : wr.cell? ⟨b, off + k, none⟩ = some (.string ⟨zs[k].toArray⟩) := by
          rw [(below_first hbel).cell (by exact hb)]
          exact hcl k _ (by simp [sc, hlt])
        clear hcell hcl
        generalize zs[k] = z at hck hl0 hbad hstep
        have HBD := hide hbad
        have HST := hide hstep
        clear hbad hstep
        have hbw : w.heap.size + 1 ≤ wr.heap.size := by omega
        have hle : acc.length ≤ 100000000000 := by omega
        have henc := encN_length z.length
        go_wp2_with fail
        refine (AppendNum_any _ acc z.length (w.heap.size + 1) wr hown hbw (by omega) hle).mono ?_
        rintro e w1 ⟨v1, rfl, hown1, hb1, _⟩
        have hbel1 := hbel.trans hb1
        obtain ⟨ao2, cap2, hv2⟩ := owns_shape hown1
        subst hv2
        have hbw1 : w.heap.size + 1 ≤ w1.heap.size := by have := hb1.size; omega
        have hbf := below_first hbel1
        obtain ⟨hf0, hf1, hfr0, hfr1, hsz1⟩ := two_later hbel1
        rw [List.length_append] at hown1 ⊢
        by_cases hbg : (60000 : Int) < ((acc.length + (encN z.length).length : Nat) : Int) + (z.length : Int)
        · have HE := hide (HBD.out (by omega))
          go_wp2_with fail
          exact bodyPost_ret (v := .tuple #[.slice none 0 0, flt 9 0]) (by simp [results, Try.results20, go_sem, flt, hf0, hf1]) rfl ⟨.slice none 0 0, by rw [← HG.out, HE.out], by rw [← HG.out, HE.out]; exact Rd.nil _, by go_grown, New.nil _⟩
        · have HE := hide (HST.out (by omega))
          rw [← List.length_append] at hown1
          go_wp2_with (at_builtin; go_must (refine wpList_append_strE hown1 Try.underlying23 Try.underlying9 Try.info5 rfl rfl (by simp only [List.length_append]; rfl) rfl (by simp; omega) hbw1 ?_); intro v2 w2 ho2 hb2 hg2; clear hg2)
          go_roundw
          case rel => exact ⟨k + 1, acc ++ encN z.length ++ z, by omega, by go_num, HE.out.trans HG.out, by simp; omega, ho2, hbel1.trans hb2⟩
          case measure => simp [intOf]; omega
      · have e1 := textsGo_end zs k acc (by omega)
        have HE := hide e1
        clear e1
        obtain ⟨hf0, hf1, hfr0, hfr1, hsz1⟩ := two_later hbel
        go_wp2_with fail
        have e1 := unhide HE
        have hbf := below_first hbel
        exact bodyPost_ret (v := .tuple #[u4, flt 0 0]) (by simp [results, Try.results20, go_sem, flt, hf0, hf1]) rfl ⟨u4, by rw [← HG.out, e1], by rw [← HG.out, e1]; exact Rd.ofOwns (ownsRow_setCell_below (ownsRow_setCell_below hown (by simp) _) (by simp) _), by go_grown, (New.owns hown).mono (by omega)⟩

end Go.Proofs.Ytlebbkbbmgmmjaa
