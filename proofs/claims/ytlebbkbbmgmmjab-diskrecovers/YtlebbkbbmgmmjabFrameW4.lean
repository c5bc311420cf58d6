/-
  The walk over wire.Open.
-/
import Derived.Test.YtlebbkbbmgmmjabFrameW3
namespace Go.Proofs.Ytlebbkbbmgmmjab
open Go.RowKit

theorem owns_base {w : World} {base base' : Nat} {e : TypeId} {size : Nat} {v : Value} {n : Nat} {xs : List Value} (h : w.ownsRow base' e size v n xs) (hb : base ≤ base') : w.ownsRow base e size v n xs := by
  refine ⟨h.1, ?_⟩
  rcases h.2 with hn | ⟨g, cap, cur, hv, hg, r⟩
  · exact .inl hn
  · exact .inr ⟨g, cap, cur, hv, Nat.le_trans hb hg, r⟩

/-- A list of bodies that lies, with all its bodies, in blocks from B on. -/
def RdBN (w : World) (B : Nat) (v : Value) (bb : List (List UInt8)) : Prop :=
  ∃ vs : List Value, Rd w v vs ∧ New B v ∧ vs.length = bb.length ∧ ∀ (i : Nat) (u : Value) (b : List UInt8), vs[i]? = some u → bb[i]? = some b → Rd w u (bc b) ∧ New B u

theorem RdBN.toB {w : World} {B : Nat} {v : Value} {bb : List (List UInt8)} (h : RdBN w B v bb) : RdB w v bb := by
  obtain ⟨vs, h1, _, h2, h3⟩ := h
  exact ⟨vs, h1, h2, fun i u b hu hb => (h3 i u b hu hb).1⟩

theorem RdBN.nil (w : World) (B : Nat) : RdBN w B (.slice none 0 0) [] := ⟨[], Rd.nil w, New.nil _, rfl, fun i u b hu => by simp at hu⟩
theorem RdBN.set {w : World} {B : Nat} {v : Value} {bb : List (List UInt8)} (h : RdBN w B v bb) {p : Addr} (hp : p.block < B) (x : Value) : RdBN (w.setCell p x) B v bb := by
  obtain ⟨vs, h1, hn, h2, h3⟩ := h
  exact ⟨vs, h1.setNew hn hp x, hn, h2, fun i u b hu hb => ⟨(h3 i u b hu hb).1.setNew (h3 i u b hu hb).2 hp x, (h3 i u b hu hb).2⟩⟩

theorem OwnB.news {w : World} {base : Nat} : ∀ {us : List Value} {bb : List (List UInt8)}, OwnB w base us bb → ∀ (i : Nat) (u : Value), us[i]? = some u → New base u
  | [], [], _, i, u, hu => by simp at hu
  | u0 :: us, b0 :: bb, h, 0, u, hu => by
    simp at hu
    subst hu
    exact New.owns h.1
  | u0 :: us, b0 :: bb, h, i + 1, u, hu => OwnB.news h.2 i u (by simpa using hu)
  | [], _ :: _, h, _, _, _ => by cases h
  | _ :: _, [], h, _, _, _ => by cases h

theorem rdBN_of {w : World} {base B : Nat} {v : Value} {us : List Value} {bb : List (List UInt8)} {e : TypeId} {n : Nat} (h : w.ownsRow base e 1 v n us) (hb : OwnB w base us bb) (hB : B ≤ base) : RdBN w B v bb :=
  ⟨us, Rd.ofOwns h, (New.owns h).mono hB, hb.length, fun i u b hu hb' => ⟨hb.get i u b hu hb', (hb.news i u hu).mono hB⟩⟩

set_option maxRecDepth 100000 in
set_option maxHeartbeats 400000 in
theorem CloneB_any (ao : Option Addr) (cap : Nat) (bs : List UInt8) (w : World) (hrd : Rd w (.slice ao bs.length cap) (bc bs)) (hl : bs.length ≤ 1000000000) :
    Calls Try.prog 71 #[.slice ao bs.length cap] w fun e w' => ∃ v', e = .returned v' ∧ w'.ownsRow w.heap.size 5 1 v' bs.length (bc bs) ∧ Below w.heap.size w w' := by
  cases ao with
  | none =>
    have hbs : bs = [] := by
      obtain ⟨ao', cap', hv, h1, h2, h3, _⟩ := hrd
      simp only [Value.slice.injEq] at hv
      have := h3 hv.1.symm
      rw [bc_length] at h1
      exact List.eq_nil_of_length_eq_zero (by omega)
    subst hbs
    have hnil : (binOp .eql 25 (.slice none 0 cap) (.slice none 0 0)).run Try.prog w = .ok (.bool true) w := Lib.run_eql_slice_nil (P := Try.prog) w 25 5 none 0 cap 0 0 Try.underlying25
    go_enter Try.func71, Try.ntmps71
    go_wp2_with fail
    go_ret
    exact ⟨_, rfl, World.ownsRow_nil _ _ _ _, Below.refl _ _⟩
  | some a =>
    have hnil : (binOp .eql 25 (.slice (some a) bs.length cap) (.slice none 0 0)).run Try.prog w = .ok (.bool false) w := Lib.run_eql_slice_nil (P := Try.prog) w 25 5 (some a) bs.length cap 0 0 Try.underlying25
    have ho := World.ownsRow_lit (base := w.heap.size) (size := 1) (e := 5) w #[] 0 (Nat.le_refl _) (by decide) (by simp)
    go_enter Try.func71, Try.ntmps71
    go_wp2_with (at_builtin; go_must (refine wpList_append_rd ho (hrd.alloc _) Try.underlying25 Try.info5 rfl rfl rfl rfl rfl (bc_one _) (by rw [bc_length]; omega) (by decide) (by simp) ?_); intro v1 w1 ho1 hb1 hg1; clear hg1)
    go_ret
    refine ⟨v1, rfl, ?_, ((Below.refl _ _).alloc (Nat.le_refl _) _).trans hb1⟩
    simpa [bc_length] using ho1

set_option maxRecDepth 100000 in
set_option maxHeartbeats 1000000 in
theorem Open_any (v : Value) (bs : List UInt8) (w : World) (hrd : Rd w v (bc bs)) :
    Calls Try.prog 47 #[v] w fun e w' => ∃ v', e = .returned (.tuple #[v', .int .i64 (openR bs).2.1, flt (openR bs).2.2 0]) ∧ RdBN w' w.heap.size v' (openR bs).1 ∧ Below w.heap.size w w' := by
  obtain ⟨ao, cap, hv, hc1, hc2, _⟩ := hrd.open
  rw [bc_length] at hc1 hv
  subst hv
  unfold maxLen at hc2
  have HLT : Hid (∀ a l c, Value.slice ao bs.length cap = .slice (some a) l c → 0 < (bc bs).length → a.block < w.heap.size) := hide hrd.lts
  by_cases hbig : 60000 < bs.length
  · go_enter Try.func47, Try.ntmps47
    go_wp2_with fail
    exact bodyPost_ret (v := .tuple #[.slice none 0 0, .int .i64 0, flt 8 0]) (by simp [results, Try.results47, go_sem, flt]) rfl ⟨.slice none 0 0, by simp [openR, hbig], by simp [openR, hbig]; exact RdBN.nil _ _, by go_grown⟩
  · go_enter Try.func47, Try.ntmps47
    go_wp2_with fail
    refine (ReaderOf_any ao bs.length cap _).mono ?_
    rintro e w1 ⟨rfl, hb1, hz1⟩
    have hF1 : Below (w.heap.size + 1) (w.alloc (.cells #[.int .i64 0, .int .i64 0] 29)) w1 := hb1.mono (by simp)
    have hz2 : w.heap.size + 1 < w1.heap.size := by rw [hz1]; simp
    clear hb1 hz1
    go_wp2_with fail
    have hR0 : Rdr (w1.alloc (.cells #[.slice ao bs.length cap, .int .i64 0] 94)) w1.heap.size (.slice ao bs.length cap) (0 : Nat) := heap_alloc_new _ _
    have hF2 : Below (w.heap.size + 1) (w.alloc (.cells #[.int .i64 0, .int .i64 0] 29)) (w1.alloc (.cells #[.slice ao bs.length cap, .int .i64 0] 94)) := hF1.alloc (by omega) _
    generalize w1.alloc (.cells #[.slice ao bs.length cap, .int .i64 0] 94) = wA at *
    generalize w1.heap.size = R at *
    clear hF1
    go_loopw [6] (fun o wr => ∃ (k f : Nat) (acc : List (List UInt8)) (us : List Value), k ≤ bs.length ∧ openGo (f + 1) (bs.drop k) acc k = openR bs ∧ bs.length ≤ k + f ∧ acc.length ≤ k ∧ acc.length ≤ 1000 ∧ Rdr wr R (.slice ao bs.length cap) k ∧ wr.ownsRow (R + 1) 25 1 o acc.length us ∧ OwnB wr (R + 1) us acc ∧ Below (w.heap.size + 1) (w.alloc (.cells #[.int .i64 0, .int .i64 0] 29)) wr)
      (fun o _ => bs.length + 1 - lenV o)
    case atStart =>
      refine ⟨0, bs.length, [], [], by omega, ?_, by omega, by simp, by simp, hR0, World.ownsRow_nil _ _ _ _, trivial, hF2⟩
      rw [openR, if_neg hbig]; rfl
    case round =>
      obtain ⟨k, f, acc, us, hk, hgo, hf, hacc, hacc2, hr, hown, hob, hbel⟩ := hrel
      have HG := hide hgo
      clear hgo hR0 hF2
      have hbf := below_first hbel
      have hrd1 := hrd.below hbf
      have hszr := hr.facts.2.2.2.2
      have hlen := lenV_owns hown
      have hwq : ∀ {x : World}, wr.grownBy x (some R) → x.ownsRow (R + 1) 25 1 u6 acc.length us ∧ OwnB x (R + 1) us acc ∧ Below (w.heap.size + 1) (w.alloc (.cells #[.int .i64 0, .int .i64 0] 29)) x ∧ R < x.heap.size := fun h => ⟨owns_grown hown h (by omega), hob.keep (fun u n xs h' => owns_grown h' h (by omega)), hbel.grown h (by omega) (fun j hj => by simp at hj; omega), by have := h.size; omega⟩
      go_wp2_with fail
      refine (Frame_any _ R _ bs k wr hrd1 (fun a l c e hp => by have := HLT.out a l c e hp; omega) hr hk (by omega)).mono ?_
      rintro e w2 hp
      cases hn : frameAt (bs.drop k) with
      | none =>
        rw [hn] at hp
        obtain ⟨rfl, hr2, hg2⟩ := hp
        obtain ⟨hown2, hob2, hbel2, hsz2⟩ := hwq hg2
        have HE := hide (@openGo_end f k _ acc hn)
        clear hn hwq hg2 hown hob hbel hbf
        obtain ⟨gf0, gf1, gr0, gr1, gsz⟩ := two_later hbel2
        have hbf := below_first hbel2
        obtain ⟨ao2, cap2, hv2⟩ := owns_shape hown2
        subst hv2
        go_wp2_with fail
        refine (At_any _ R _ _ _ hr2).mono ?_
        rintro e w3 ⟨rfl, rfl⟩
        go_wp2_with fail
        exact bodyPost_ret (v := .tuple #[.slice ao2 acc.length cap2, .int .i64 k, flt 0 0]) (by simp [results, Try.results47, go_sem, flt, gf0, gf1]) rfl ⟨_, by rw [← HG.out, HE.out], by rw [← HG.out, HE.out]; exact rdBN_of (ownsRow_setCell_below (ownsRow_setCell_below hown2 (by show w.heap.size < R + 1; omega) _) (by show w.heap.size < R + 1; omega) _) (hob2.keep (fun u n xs h => ownsRow_setCell_below (ownsRow_setCell_below h (by show w.heap.size < R + 1; omega) _) (by show w.heap.size < R + 1; omega) _)) (by omega), by go_grown⟩
      | some body =>
        rw [hn] at hp
        obtain ⟨uo, uc, rfl, hu2, _, hr2, hg2⟩ := hp
        obtain ⟨hown2, hob2, hbel2, hsz2⟩ := hwq hg2
        have hl := frameAt_len hn
        rw [List.length_drop] at hl
        clear hwq hg2 hown hob hbel hbf
        obtain ⟨gf0, gf1, gr0, gr1, gsz⟩ := two_later hbel2
        have hbf := below_first hbel2
        obtain ⟨ao2, cap2, hv2⟩ := owns_shape hown2
        subst hv2
        by_cases hmany : acc.length = 1000
        · have HE := hide (@openGo_many f k _ body acc hn hmany)
          have hmb : ((acc.length : Int) == 1000) = true := beq_iff_eq.2 (by omega)
          have HMA := hide hmany
          clear hn hmany
          go_wp2_with fail
          exact bodyPost_ret (v := .tuple #[.slice none 0 0, .int .i64 0, flt 2 0]) (by simp [results, Try.results47, go_sem, flt, gf0, gf1]) rfl ⟨.slice none 0 0, by rw [← HG.out, HE.out], by rw [← HG.out, HE.out]; exact RdBN.nil _ _, by go_grown⟩
        · have HE := hide (@openGo_step f k _ body acc hn hmany)
          have hmb : ((acc.length : Int) == 1000) = false := beq_eq_false_iff_ne.2 (by omega)
          have HMA := hide hmany
          clear hn hmany
          go_wp2_with fail
          refine (CloneB_any uo uc body _ hu2 (by omega)).mono ?_
          rintro e w3 ⟨v3, rfl, ho3, hb3⟩
          have hown3 := owns_below hown2 hb3
          have hob3 := hob2.keep (fun u n xs h => owns_below h hb3)
          have hu3 := owns_base (base := R + 1) ho3 (by omega)
          have hbel3 : Below (w.heap.size + 1) (w.alloc (.cells #[.int .i64 0, .int .i64 0] 29)) w3 := hbel2.trans (hb3.mono (by omega))
          have hz3 : R + 1 ≤ w3.heap.size := by have := hb3.size; omega
          obtain ⟨uo3, uc3, huv⟩ := owns_shape hu3
          subst huv
          go_wp2_with (at_builtin; go_must (refine wpList_append_one hown3 Try.underlying22 Try.info25 rfl rfl rfl rfl rfl (owns_one hu3) (by omega) (by decide) hz3 ?_); intro v4 w4 ho4 hb4 hg4)
          have hlen4 := lenV_owns ho4
          have hr4 : Rdr w4 R (.slice ao bs.length cap) ((k + (body.length + 6) : Nat) : Int) := by
            unfold Rdr RdrT
            rw [hb4.block _ (by omega), hb3.block _ hsz2]
            exact hr2
          have hob4 := (hob3.snoc hu3).keep (fun u n xs h => owns_other (by decide) h hown3 hg4)
          go_roundw
          case rel =>
            obtain ⟨f', rfl⟩ : ∃ f', f = f' + 1 := ⟨f - 1, by omega⟩
            refine ⟨k + (body.length + 6), f', acc ++ [body], us ++ [.slice uo3 body.length uc3], by omega, ?_, by omega, by simp; omega, by have := HMA.out; simp; omega, hr4, by simpa using ho4, hob4, hbel3.trans (hb4.mono (by omega))⟩
            rw [← HG.out, HE.out, List.drop_drop]
          case measure => rw [hlen4, hlen]; omega

end Go.Proofs.Ytlebbkbbmgmmjab
