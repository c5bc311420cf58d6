/-
  The walks over wire.Frames and wire.Open.
-/
import Derived.Test.YtlebbkbbmgmmjaaFrameW1
import Derived.Laws.CopyOwn
namespace Go.Proofs.Ytlebbkbbmgmmjaa
open Go.RowKit

theorem Rd.lts {w : World} {v : Value} {xs : List Value} (h : Rd w v xs) : ∀ a l c, v = .slice (some a) l c → 0 < xs.length → a.block < w.heap.size := by
  intro a l c e hp
  subst e
  exact h.block_lt hp

/-- A list of bodies: a slice of slices of bytes. -/
def RdB (w : World) (v : Value) (bb : List (List UInt8)) : Prop :=
  ∃ vs : List Value, Rd w v vs ∧ vs.length = bb.length ∧ ∀ (i : Nat) (u : Value) (b : List UInt8), vs[i]? = some u → bb[i]? = some b → Rd w u (bc b)

theorem RdB.below {w w' : World} {v : Value} {bb : List (List UInt8)} (h : RdB w v bb) (hb : Below w.heap.size w w') : RdB w' v bb := by
  obtain ⟨vs, h1, h2, h3⟩ := h
  exact ⟨vs, h1.below hb, h2, fun i u b hu hb' => (h3 i u b hu hb').below hb⟩

theorem RdB.nil (w : World) : RdB w (.slice none 0 0) [] := ⟨[], Rd.nil w, rfl, fun i u b hu => by simp at hu⟩
theorem RdB.drewN {w : World} {v : Value} {bb : List (List UInt8)} (h : RdB w v bb) (n : Nat) : RdB (w.drewN n) v bb := h
theorem RdB.open {w : World} {v : Value} {bb : List (List UInt8)} (h : RdB w v bb) :
    ∃ ao cap, v = .slice ao bb.length cap ∧ bb.length ≤ cap ∧ cap ≤ maxLen ∧ ∀ j (hj : j < bb.length), ∃ b off u, ao = some ⟨b, off, none⟩ ∧ b < w.heap.size ∧ w.cell? ⟨b, off + j, none⟩ = some u ∧ Rd w u (bc bb[j]) := by
  obtain ⟨vs, h1, h2, h3⟩ := h
  obtain ⟨ao, cap, hv, hc1, hc2, hc⟩ := h1.open
  rw [h2] at hv hc1 hc
  refine ⟨ao, cap, hv, hc1, hc2, fun j hj => ?_⟩
  obtain ⟨b, off, e, hb, hcl⟩ := hc j hj
  have hj' : j < vs.length := by omega
  exact ⟨b, off, vs[j], e, hb, hcl j _ (List.getElem?_eq_getElem hj'), h3 j _ _ (List.getElem?_eq_getElem hj') (List.getElem?_eq_getElem hj)⟩

/-- What Frames comes to, from what is left on. -/
def framesGo : List (List UInt8) → List UInt8 → List UInt8 × Int × Int
  | [], acc => (acc, 0, 0)
  | b :: bb, acc => if 60000 < acc.length + b.length + 6 then ([], 9, 0) else framesGo bb (acc ++ framed b)

def framesR (bb : List (List UInt8)) : List UInt8 × Int × Int := if 1000 < bb.length then ([], 2, 0) else framesGo bb []
theorem framesGo_step (zs : List (List UInt8)) (k : Nat) (acc : List UInt8) (h : k < zs.length) (h1 : acc.length + zs[k].length + 6 ≤ 60000) :
    framesGo (zs.drop (k + 1)) (acc ++ framed zs[k]) = framesGo (zs.drop k) acc := by
  rw [drop_cons zs k h, framesGo, if_neg (by omega)]

theorem framesGo_bad (zs : List (List UInt8)) (k : Nat) (acc : List UInt8) (h : k < zs.length) (h1 : 60000 < acc.length + zs[k].length + 6) : framesGo (zs.drop k) acc = ([], 9, 0) := by
  rw [drop_cons zs k h, framesGo, if_pos h1]

theorem framesGo_end (zs : List (List UInt8)) (k : Nat) (acc : List UInt8) (h : zs.length ≤ k) : framesGo (zs.drop k) acc = (acc, 0, 0) := by
  rw [List.drop_eq_nil_of_le h, framesGo]

set_option maxRecDepth 100000 in
set_option maxHeartbeats 400000 in
theorem Frames_any (v : Value) (zs : List (List UInt8)) (w : World) (hrd : RdB w v zs) (hz : ∀ s ∈ zs, s.length ≤ 140737488351232) :
    Calls Try.prog 27 #[v] w fun e w' => ∃ v', e = .returned (.tuple #[v', flt (framesR zs).2.1 (framesR zs).2.2]) ∧ Rd w' v' (bc (framesR zs).1) ∧ Below w.heap.size w w' ∧ New w.heap.size v' := by
  obtain ⟨ao, cap, rfl, hc1, hc2, hcell⟩ := hrd.open
  unfold maxLen at hc2
  have HZ0 := hide hz
  clear hz
  by_cases hbig : 1000 < zs.length
  · go_enter Try.func27, Try.ntmps27
    go_wp2_with fail
    exact bodyPost_ret (v := .tuple #[.slice none 0 0, flt 2 0]) (by simp [results, Try.results27, go_sem, flt]) rfl ⟨.slice none 0 0, by simp [framesR, hbig], by simp [framesR, hbig, bc]; exact Rd.nil _, by go_grown, New.nil _⟩
  · go_enter Try.func27, Try.ntmps27
    go_wp2_with fail
    go_loopw [4, 13] (fun o i wr => ∃ (k : Nat) (acc : List UInt8), k ≤ zs.length ∧ i = .int .i64 k ∧ framesGo (zs.drop k) acc = framesR zs ∧ acc.length ≤ 60000 ∧ wr.ownsRow (w.heap.size + 1) 5 1 o acc.length (bc acc) ∧ Below (w.heap.size + 1) (w.alloc (.cells #[.int .i64 0, .int .i64 0] 26)) wr)
      (fun _ i _ => zs.length - (intOf i).toNat)
    case atStart => exact ⟨0, [], by omega, rfl, by simp [framesR, hbig], by simp, World.ownsRow_nil _ _ _ _, Below.refl _ _⟩
    case round =>
      obtain ⟨k, acc, hk, rfl, hgo, hacc, hown, hbel⟩ := hrel
      have HG := hide hgo
      clear hgo
      have hbf := below_first hbel
      obtain ⟨hf0, hf1, hfr0, hfr1, hsz1⟩ := two_later hbel
      by_cases hlt : k < zs.length
      · obtain ⟨b, off, y, rfl, hb, hcl, hry⟩ := hcell k hlt
        have hl0 := HZ0.out zs[k] (List.getElem_mem hlt)
        have hbad := framesGo_bad zs k acc hlt
        have hstep := framesGo_step zs k acc hlt
        have hck : wr.cell? ⟨b, off + k, none⟩ = some y := by
          rw [hbf.cell (by exact hb)]
          exact hcl
        clear hcell hcl
        generalize zs[k] = z at *
        have hylt := hry.lts
        have hry1 := hry.below hbf
        obtain ⟨yo, ycap, hy, _, _, _⟩ := hry.open
        rw [bc_length] at hy
        subst hy
        obtain ⟨ao2, cap2, hv2⟩ := owns_shape hown
        subst hv2
        have HBD := hide hbad
        have HST := hide hstep
        clear hbad hstep
        have hbw : w.heap.size + 1 ≤ wr.heap.size := by omega
        by_cases hbg : (60000 : Int) < (acc.length : Int) + (z.length : Int) + 6
        · have HE := hide (HBD.out (by omega))
          go_wp2_with fail
          exact bodyPost_ret (v := .tuple #[.slice none 0 0, flt 9 0]) (by simp [results, Try.results27, go_sem, flt, hf0, hf1]) rfl ⟨.slice none 0 0, by rw [← HG.out, HE.out], by rw [← HG.out, HE.out]; exact Rd.nil _, by go_grown, New.nil _⟩
        · have HE := hide (HST.out (by omega))
          go_wp2_with fail
          refine (AppendFrame_any _ _ acc z (w.heap.size + 1) wr hown hbw hry1 (fun a l c e hp => by have := hylt a l c e hp; omega) (by omega) (by omega)).mono ?_
          rintro e w2 ⟨v2, rfl, ho2, hb2⟩
          go_wp2_with fail
          go_roundw
          case rel => exact ⟨k + 1, acc ++ framed z, by omega, by go_num, HE.out.trans HG.out, by rw [List.length_append, framed_length]; omega, ho2, hbel.trans hb2⟩
          case measure => simp [intOf]; omega
      · have e1 := framesGo_end zs k acc (by omega)
        have HE := hide e1
        clear e1
        go_wp2_with fail
        have e1 := unhide HE
        exact bodyPost_ret (v := .tuple #[u4, flt 0 0]) (by simp [results, Try.results27, go_sem, flt, hf0, hf1]) rfl ⟨u4, by rw [← HG.out, e1], by rw [← HG.out, e1]; exact Rd.ofOwns (ownsRow_setCell_below (ownsRow_setCell_below hown (by simp) _) (by simp) _), by go_grown, (New.owns hown).mono (by omega)⟩

end Go.Proofs.Ytlebbkbbmgmmjaa
