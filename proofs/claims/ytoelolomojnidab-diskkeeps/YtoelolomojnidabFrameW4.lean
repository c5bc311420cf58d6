/-
  The walk over wire.Open.
-/
import Derived.Test.YtoelolomojnidabFrameW3
namespace Go.Proofs.Ytoelolomojnidab
open Go.RowKit

theorem owns_base {w : World} {base base' : Nat} {e : TypeId} {size : Nat} {v : Value} {n : Nat} {xs : List Value} (h : w.ownsRow base' e size v n xs) (hb : base ≤ base') : w.ownsRow base e size v n xs := by
  refine ⟨h.1, ?_⟩
  rcases h.2 with hn | ⟨g, cap, cur, hv, hg, r⟩
  · exact .inl hn
  · exact .inr ⟨g, cap, cur, hv, Nat.le_trans hb hg, r⟩

/-- A list of bodies that lies, with all its bodies, in blocks from B on. -/
def RdBN (w : World) (B : Nat) (v : Value) (bb : List (List UInt8)) : Prop :=
  ∃ vs : List Value, Rd w v vs ∧ New B v ∧ vs.length = bb.length ∧ ∀ (i : Nat) (u : Value) (b : List UInt8), vs[i]? = some u → bb[i]? = some b → Rd w u (bc b) ∧ New B u

theorem RdBN.toB {w : World} {B : Nat} {v : Value} {bb : List (List UInt8)} (h : RdBN w B v bb) : RdB w v bb := by
  obtain ⟨vs, h1, _, h2, h3⟩ := h
  exact ⟨vs, h1, h2, fun i u b hu hb => (h3 i u b hu hb).1⟩

theorem RdBN.nil (w : World) (B : Nat) : RdBN w B (.slice none 0 0) [] := ⟨[], Rd.nil w, New.nil _, rfl, fun i u b hu => by simp at hu⟩
theorem RdBN.set {w : World} {B : Nat} {v : Value} {bb : List (List UInt8)} (h : RdBN w B v bb) {p : Addr} (hp : p.block < B) (x : Value) : RdBN (w.setCell p x) B v bb := by
  obtain ⟨vs, h1, hn, h2, h3⟩ := h
  exact ⟨vs, h1.setNew hn hp x, hn, h2, fun i u b hu hb => ⟨(h3 i u b hu hb).1.setNew (h3 i u b hu hb).2 hp x, (h3 i u b hu hb).2⟩⟩

theorem OwnB.news {w : World} {base : Nat} : ∀ {us : List Value} {bb : List (List UInt8)}, OwnB w base us bb → ∀ (i : Nat) (u : Value), us[i]? = some u → New base u
  | [], [], _, i, u, hu => by simp at hu
  | u0 :: us, b0 :: bb, h, 0, u, hu => by
    simp at hu
    subst hu
    exact New.owns h.1
  | u0 :: us, b0 :: bb, h, i + 1, u, hu => OwnB.news h.2 i u (by simpa using hu)
  | [], _ :: _, h, _, _, _ => by cases h
  | _ :: _, [], h, _, _, _ => by cases h

theorem rdBN_of {w : World} {base B : Nat} {v : Value} {us : List Value} {bb : List (List UInt8)} {e : TypeId} {n : Nat} (h : w.ownsRow base e 1 v n us) (hb : OwnB w base us bb) (hB : B ≤ base) : RdBN w B v bb :=
  ⟨us, Rd.ofOwns h, (New.owns h).mono hB, hb.length, fun i u b hu hb' => ⟨hb.get i u b hu hb', (hb.news i u hu).mono hB⟩⟩

set_option maxRecDepth 100000 in
set_option maxHeartbeats 400000 in
theorem Open_any (v : Value) (bs : List UInt8) (w : World) (hrd : Rd w v (bc bs)) :
    Calls Try.prog 47 #[v] w fun e w' => ∃ v', e = .returned (.tuple #[v', .int .i64 (openR bs).2.1, flt (openR bs).2.2 0]) ∧ RdBN w' w.heap.size v' (openR bs).1 ∧ Below w.heap.size w w' := by
  obtain ⟨ao, cap, hv, hc1, hc2, _⟩ := hrd.open
  rw [bc_length] at hc1 hv
  subst hv
  unfold maxLen at hc2
  by_cases hbig : 60000 < bs.length
  · go_enter Try.func47, Try.ntmps47
    go_wp2_with fail
    exact bodyPost_ret (v := .tuple #[.slice none 0 0, .int .i64 0, flt 8 0]) (by simp [results, Try.results47, go_sem, flt]) rfl ⟨.slice none 0 0, by simp [openR, hbig], by simp [openR, hbig]; exact RdBN.nil _ _, by go_grown⟩
  · go_enter Try.func47, Try.ntmps47
    go_wp2_with fail
    go_loopw [6] (fun o wr => ∃ (k f : Nat) (acc : List (List UInt8)) (us : List Value), k ≤ bs.length ∧ openGo (f + 1) (bs.drop k) acc k = openR bs ∧ bs.length ≤ k + f ∧ acc.length ≤ k ∧ acc.length ≤ 1000 ∧ Rdr wr (w.heap.size + 1) (.slice ao bs.length cap) k ∧ wr.ownsRow (w.heap.size + 2) 25 1 o acc.length us ∧ OwnB wr (w.heap.size + 2) us acc ∧ Below (w.heap.size + 1) (w.alloc (.cells #[.int .i64 0, .int .i64 0] 29)) wr)
      (fun o _ => bs.length + 1 - lenV o)
    case atStart =>
      refine ⟨0, bs.length, [], [], by omega, ?_, by omega, by simp, by simp, ?_, World.ownsRow_nil _ _ _ _, trivial, ?_⟩
      · rw [openR, if_neg hbig]; rfl
      · exact Rdr.new _ _ _ _
      · exact (Below.refl _ _).alloc (by simp) _
    case round =>
      obtain ⟨k, f, acc, us, hk, hgo, hf, hacc, hacc2, hr, hown, hob, hbel⟩ := hrel
      have HG := hide hgo
      clear hgo
      have hbf := below_first hbel
      have hrd1 := hrd.below hbf
      have hszr := hr.facts.2.2.2.2
      have hlen := lenV_owns hown
      go_wp2_with fail
      have hfr := frame_any (w.heap.size + 1) _ bs k wr hrd1 hr hk (by omega)
      cases hn : frameAt (bs.drop k) with
      | none =>
        rw [hn] at hfr
        refine hfr.mono ?_
        rintro e w1 ⟨rfl, hr1, hg1⟩
        have HE := hide (@openGo_end f k _ acc hn)
        clear hn hfr
        have hown1 := owns_grown hown hg1 (by omega)
        have hob1 := hob.keep (fun u n xs h => owns_grown h hg1 (by omega))
        have hbel1 : Below (w.heap.size + 1) (w.alloc (.cells #[.int .i64 0, .int .i64 0] 29)) w1 := hbel.grown hg1 (by omega) (fun j hj => by simp at hj; omega)
        clear hown hob hbel hg1 hbf hr
        obtain ⟨gf0, gf1, gr0, gr1, gsz⟩ := two_later hbel1
        obtain ⟨d0, d1, e0, e1, hsz4⟩ := hr1.facts
        have hbf := below_first hbel1
        obtain ⟨ao2, cap2, hv2⟩ := owns_shape hown1
        subst hv2
        go_wp2_with fail
        have hob2 : OwnB w1.drew (w.heap.size + 2) us acc := hob1.keep (fun _ _ _ h => h.drew)
        go_region
        all_goals
          go_wp2_with fail
          exact bodyPost_ret (v := .tuple #[.slice ao2 acc.length cap2, .int .i64 k, flt 0 0]) (by simp [results, Try.results47, go_sem, flt, gf0, gf1]) rfl ⟨_, by rw [← HG.out, HE.out], by rw [← HG.out, HE.out]; exact rdBN_of (ownsRow_setCell_below (ownsRow_setCell_below (w := w1.drew) hown1 (by simp) _) (by simp) _) (hob2.keep (fun u n xs h => ownsRow_setCell_below (ownsRow_setCell_below (w := w1.drew) h (by simp) _) (by simp) _)) (by omega), by go_grown⟩
      | some body =>
        rw [hn] at hfr
        refine hfr.mono ?_
        rintro e w1 ⟨u, rfl, hu1, hr1, hg1⟩
        have hl := frameAt_len hn
        rw [List.length_drop] at hl
        have hown1 := owns_grown hown hg1 (by omega)
        have hob1 := hob.keep (fun u n xs h => owns_grown h hg1 (by omega))
        have hu1' := owns_base (base := w.heap.size + 2) hu1 (by omega)
        have hbel1 : Below (w.heap.size + 1) (w.alloc (.cells #[.int .i64 0, .int .i64 0] 29)) w1 := hbel.grown hg1 (by omega) (fun j hj => by simp at hj; omega)
        have hsz1 : w.heap.size + 2 ≤ w1.heap.size := by have := hg1.size; omega
        clear hown hob hbel hg1 hbf hr hu1 hfr
        obtain ⟨gf0, gf1, gr0, gr1, gsz⟩ := two_later hbel1
        have hbf := below_first hbel1
        by_cases hmany : acc.length = 1000
        · have HE := hide (@openGo_many f k _ body acc hn hmany)
          have hmb : ((acc.length : Int) == 1000) = true := beq_iff_eq.2 (by omega)
          have HMA := hide hmany
          clear hn hmany
          obtain ⟨ao2, cap2, hv2⟩ := owns_shape hown1
          subst hv2
          go_wp2_with fail
          exact bodyPost_ret (v := .tuple #[.slice none 0 0, .int .i64 0, flt 2 0]) (by simp [results, Try.results47, go_sem, flt, gf0, gf1]) rfl ⟨.slice none 0 0, by rw [← HG.out, HE.out], by rw [← HG.out, HE.out]; exact RdBN.nil _ _, by go_grown⟩
        · have HE := hide (@openGo_step f k _ body acc hn hmany)
          have hmb : ((acc.length : Int) == 1000) = false := beq_eq_false_iff_ne.2 (by omega)
          have HMA := hide hmany
          clear hn hmany
          obtain ⟨ao2, cap2, hv2⟩ := owns_shape hown1
          subst hv2
          obtain ⟨uo, ucap, huv⟩ := owns_shape hu1'
          subst huv
          go_wp2_with (at_builtin; go_must (refine wpList_append_one hown1 Try.underlying22 Try.info25 rfl rfl rfl rfl rfl (owns_one hu1') (by omega) (by decide) hsz1 ?_); intro v3 w3 ho3 hb3 hg3)
          have hlen3 := lenV_owns ho3
          have hr3 : Rdr w3 (w.heap.size + 1) (.slice ao bs.length cap) ((k + (body.length + 6) : Nat) : Int) := by unfold Rdr; rw [hb3.block _ (by omega)]; exact hr1
          have hob3 := (hob1.snoc hu1').keep (fun u n xs h => owns_other (by decide) h hown1 hg3)
          go_roundw
          case rel =>
            obtain ⟨f', rfl⟩ : ∃ f', f = f' + 1 := ⟨f - 1, by omega⟩
            refine ⟨k + (body.length + 6), f', acc ++ [body], us ++ [.slice uo body.length ucap], by omega, ?_, by omega, by simp; omega, by have := HMA.out; simp; omega, hr3, by simpa using ho3, hob3, hbel1.trans (hb3.mono (by omega))⟩
            rw [← HG.out, HE.out, List.drop_drop]
          case measure => rw [hlen3, hlen]; omega

end Go.Proofs.Ytoelolomojnidab
