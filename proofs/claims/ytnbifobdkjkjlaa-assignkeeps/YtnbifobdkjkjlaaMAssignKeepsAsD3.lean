/-
  Texts joined: AsD3.
-/
import Derived.Test.YtnbifobdkjkjlaaMAssignKeepsAsD2
/-
  The walk over Due of a board with one host and one slot that is off.
-/
namespace Go.Proofs.Ytnbifobdkjkjlaa
open Go.RowKit Go.Maps
set_option linter.unusedVariables false

/-- The slot of a new board; a new board to which the host 7 has come. -/
def sl0 : Sl := ⟨⟨⟨#[]⟩, ⟨#[]⟩, 1⟩, 0, 0, 0⟩
def dueBd : Bd := ⟨[⟨7, 1, true⟩], [sl0], 0, 2⟩

theorem infoOrder : (Try.prog.info? 50).map (fun i => (i.zero, i.size, i.bytes)) = some (some (.agg #[.int .i64 0, .int .i64 0, .int .i64 0, .int .i64 0, .string ⟨#[]⟩]), 5, 48) := by kernel_rfl

/-- What the map of counts has behind the first loop. -/
def mf1 : Int → Option Value := fun k => if k = 0 then some (.int .i64 1) else none

set_option maxRecDepth 100000 in
set_option maxHeartbeats 8000000 in
theorem Due1_any (hv sv : Value) (w : World) (hh : RdG hoE w hv dueBd.hs) (hs : RdG slE w sv dueBd.sl) :
    Calls Try.prog 14 #[bdV hv sv dueBd] w fun e w' => ∃ v', e = .returned (.tuple #[v', flt (0, 0)]) ∧ w'.ownsRow w.heap.size 50 5 v' 1 (odE.vs [⟨3, 1, 7, 0, ⟨#[]⟩⟩]) ∧ Below w.heap.size w w' := by
  have HH := hide hh
  have HS := hide hs
  obtain ⟨ah, ch, rfl, _⟩ := hh.addr
  obtain ⟨as_, cs, rfl, _⟩ := hs.addr
  obtain ⟨sb, so, he, hsl, hat0⟩ := hs.here (i := 0) rfl
  simp only [Option.some.injEq] at he
  subst he
  have HAT := hide hat0
  have HSL := hide hsl
  have hmm := @run_makeMap Try.prog
  obtain ⟨hB0, hR0, hA0⟩ := two_atA w #[.slice (some ah) 1 ch, .slice (some ⟨sb, so, none⟩) 1 cs, .int .i64 0, .int .i64 2] #[.int .i64 0, .int .i64 0] 27 30
  generalize hW : ((w.alloc (.cells #[.slice (some ah) 1 ch, .slice (some ⟨sb, so, none⟩) 1 cs, .int .i64 0, .int .i64 2] 27)).alloc (.cells #[.int .i64 0, .int .i64 0] 30)) = W at hB0 hR0 hA0
  have HB0 := hide hB0
  have HR0 := hide hR0
  have HA0 := hide hA0
  have HW := hide hW
  have hck : chkB dueBd = (0, 0) := by kernel_rfl
  have hwf : WfP (parts dueBd.sl) := fun p hp => by
    have : p = sl0.p := List.mem_singleton.1 hp
    subst this
    decide
  have HCK := hide (ACheck_any dueBd (.slice (some ah) 1 ch) (.slice (some ⟨sb, so, none⟩) 1 cs) W (HH.out.below hA0) (HS.out.below hA0) (by decide) hwf (fun s hs => by
    have : s = sl0 := List.mem_singleton.1 hs
    subst this
    decide))
  rw [hck] at HCK
  unfold flt bdV at HCK
  unfold bdV
  dsimp only [dueBd, List.length_cons, List.length_nil] at HCK ⊢
  clear hh hs hB0 hR0 hA0 hW hck hwf hat0 hsl
  go_enter Try.func14, Try.ntmps14
  go_upto_region 1 with fail
  rw [HW.out]
  clear HW
  go_upto_region 2 with (first
    | (refine wpList_load_blk HB0.out Try.underlying27 rfl Try.sizeBoard rfl rfl rfl ?_)
    | (go_at_call 20; refine HCK.out.mono ?_; rintro e w1 ⟨rfl, hb1⟩; have HBX := hide hb1; clear hb1))
  have hbT := below_allocG w1 (.cells #[.int .i64 0, .int .i64 0] 30)
  have hbX := HBX.out.trans (hbT.mono HBX.out.size)
  have HB1 := hide (HB0.out.later hbX)
  have HR1 := hide (HR0.out.later hbX)
  have HA1 := hide (HA0.out.trans (hbX.mono HA0.out.size))
  have HT1 := hide (Blk.new w1 30 #[.int .i64 0, .int .i64 0])
  generalize hwX : w1.alloc (.cells #[.int .i64 0, .int .i64 0] 30) = X1 at HB1 HR1 HA1 HT1 ⊢
  clear hwX hbT hbX HBX HB0 HR0 HA0 HCK
  go_upto_region 4 with (refine wpList_load_blk HT1.out Try.underlying30 rfl Try.sizeFaultA rfl rfl rfl ?_)
  clear HT1
  have HID := hide (idsThere1_any (.slice (some ah) 1 ch) 7 1 X1 (HH.out.below HA1.out))
  have b0 := HB1.out.cell 0
  have bl := HB1.out.lt
  simp at b0
  go_upto_region 7 with (go_at_call 22; refine HID.out.mono ?_; rintro e w5 ⟨v5, rfl, ho5, hb5⟩; obtain ⟨ig, ic, _, rfl, _⟩ := owns_pos ho5 (by decide); have HO5 := hide ho5; have HBX := hide hb5; clear ho5 hb5)
  clear b0 bl HID
  have hbM := (below_allocG w5 (.map #[] 0)).trans ((below_allocG (w5.alloc (.map #[] 0)) (.cells #[.map (some w5.heap.size)] 53)).mono (below_allocG w5 (.map #[] 0)).size)
  have hbX := HBX.out.trans (hbM.mono HBX.out.size)
  have HB2 := hide (HB1.out.later hbX)
  have HR2 := hide (HR1.out.later hbX)
  have HA2 := hide (HA1.out.trans (hbX.mono HA1.out.size))
  have HO2 := hide (owns_laterA HO5.out hbM)
  have HM2 := hide ((MpI.made w5).later (below_allocG (w5.alloc (.map #[] 0)) (.cells #[.map (some w5.heap.size)] 53)))
  have HV2 := hide (Blk.new (w5.alloc (.map #[] 0)) 53 #[.map (some w5.heap.size)])
  have HZ2 := hide (show w.heap.size ≤ w5.heap.size from Nat.le_trans HA1.out.size HBX.out.size)
  have HZ3 := hide (show X1.heap.size ≤ w5.heap.size from HBX.out.size)
  have HZ4 := hide HA1.out.size
  have HZ5 := hide (show w.heap.size + 1 < w5.heap.size from Nat.lt_of_lt_of_le HR1.out.lt HBX.out.size)
  have HOL := hide (fun q (h : Value.ownBlock (.slice (some ⟨ig, 0, none⟩) 1 ic) = some q) => (HO5.out.lt q h).2)
  go_upto_region 8 with fail
  generalize hwX : (w5.alloc (.map #[] 0)).alloc (.cells #[.map (some w5.heap.size)] 53) = X2 at HB2 HR2 HA2 HO2 HM2 HV2 ⊢
  have hvs : (w5.alloc (.map #[] 0)).heap.size = w5.heap.size + 1 := by simp
  rw [hvs] at HV2
  clear hwX hbM hbX HBX HO5 HB1 HR1 HA1 hvs
  have b1 := HB2.out.cell 1
  have bl := HB2.out.lt
  simp at b1
  go_upto_region 9 with fail
  clear b1 bl
  go_loopw [8, 30] (fun _ iv wr => ∃ k : Nat, k ≤ 1 ∧ iv = .int .i64 k ∧ MpI wr w5.heap.size k (if k = 0 then (fun _ => none) else mf1) ∧ Blk wr w.heap.size 27 #[.slice (some ah) 1 ch, .slice (some ⟨sb, so, none⟩) 1 cs, .int .i64 0, .int .i64 2] ∧ Blk wr (w.heap.size + 1) 30 #[.int .i64 0, .int .i64 0] ∧ Blk wr (w5.heap.size + 1) 53 #[.map (some w5.heap.size)] ∧ wr.ownsRow X1.heap.size 3 1 (.slice (some ⟨ig, 0, none⟩) 1 ic) 1 (inE.vs [7]) ∧ Below w.heap.size w wr)
    (fun _ iv _ => 1 - (intOf iv).toNat)
  case atStart => exact ⟨0, by omega, rfl, HM2.out, HB2.out, HR2.out, HV2.out, HO2.out, HA2.out⟩
  case round =>
    obtain ⟨k, hk, rfl, hm, hB, hR, hV, hO, hbr⟩ := hrel
    have HMr := hide hm
    have HBr := hide hB
    have HRr := hide hR
    have HVr := hide hV
    have HOr := hide hO
    have HAr := hide hbr
    clear hB hR hV hO HM2 HB2 HR2 HV2 HO2 HA2
    by_cases hlt : k < 1
    · obtain rfl : k = 0 := by omega
      rw [if_pos rfl] at hm
      have hbl : sb < wr.heap.size := Nat.lt_of_lt_of_le HSL.out hbr.size
      obtain ⟨c0, c1, c2, c3, c4, c5⟩ := (HAT.out.below hbr).slot
      simp only [Nat.zero_mul, Nat.add_zero, sl0] at c0 c1 c2 c3 c4 c5
      have hbT := below_allocG wr (.cells #[.string ⟨#[]⟩, .string ⟨#[]⟩, .int .i64 1, .int .i64 0, .int .i64 0, .int .i64 0] 46)
      have HM1 := hide (hm.later hbT)
      have HB1 := hide (HBr.out.later hbT)
      have HR1 := hide (HRr.out.later hbT)
      have HV1 := hide (HVr.out.later hbT)
      have HO1 := hide (owns_laterA HOr.out hbT)
      have HA1 := hide (hbr.trans (hbT.mono hbr.size))
      have HS1 := hide (Blk.new wr 46 #[.string ⟨#[]⟩, .string ⟨#[]⟩, .int .i64 1, .int .i64 0, .int .i64 0, .int .i64 0])
      clear hbr hbT hm
      go_upto_region 11 with fail
      generalize hWX : wr.alloc (.cells #[.string ⟨#[]⟩, .string ⟨#[]⟩, .int .i64 1, .int .i64 0, .int .i64 0, .int .i64 0] 46) = W1 at HM1 HB1 HR1 HV1 HO1 HA1 HS1 ⊢
      have s4 := HS1.out.cell 4
      have sl := HS1.out.lt
      have v0 := HV1.out.cell 0
      have vl := HV1.out.lt
      simp at s4 v0
      have hlk := run_lookupI (w := W1) (id := 0) Try.underlying53 (zeroInt8 _) HM1.out (by decide)
      dsimp only [Option.getD] at hlk
      clear hWX c0 c1 c2 c3 c4 c5
      go_wp2_with (at_mapUpdate; refine wpList_updateI (u := .int .i64 1) rfl rfl Try.underlying53 rfl rfl rfl HM1.out (by decide) (by decide) ?_; intro w2 hM3 hg3; have HM3 := hide hM3; have HG3 := hide hg3; clear hM3 hg3)
      go_roundw
      case rel => exact ⟨1, by omega, by go_num, HM3.out, HB1.out.grown HG3.out (fun q => by have := HZ5.out; simp at q; omega), HR1.out.grown HG3.out (fun q => by have := HZ5.out; simp at q; omega), HV1.out.grown HG3.out (by simp), owns_grownO HO1.out HG3.out (.inr (fun q => by have := HOL.out _ q; omega)), below_grownO HA1.out HG3.out (fun k hk => by cases hk; exact HZ2.out) HA1.out.size⟩
      case measure => simp [intOf]
    · obtain rfl : k = 1 := by omega
      rw [show ((1 : Nat) : Int) = 1 from rfl]
      rw [if_neg (by decide)] at hm
      have HM5 := hide hm
      have b1 := HBr.out.cell 1
      have bl := HBr.out.lt
      simp at b1
      clear hm hbr HMr
      go_upto_region 15 with fail
      clear b1 bl
      go_loopw [9, 11, 12, 43] (fun xv _ _ iv wq => ∃ k : Nat, k ≤ 1 ∧ iv = .int .i64 k ∧ (k = 0 → MpI wq w5.heap.size 1 mf1) ∧ wq.ownsRow (w5.heap.size + 2) 50 5 xv k (odE.vs (([⟨3, 1, 7, 0, ⟨#[]⟩⟩] : List Od).take k)) ∧ Blk wq (w.heap.size + 1) 30 #[.int .i64 0, .int .i64 0] ∧ Blk wq (w5.heap.size + 1) 53 #[.map (some w5.heap.size)] ∧ wq.ownsRow X1.heap.size 3 1 (.slice (some ⟨ig, 0, none⟩) 1 ic) 1 (inE.vs [7]) ∧ Below w.heap.size w wq)
        (fun _ _ _ iv _ => 1 - (intOf iv).toNat)
      case atStart => exact ⟨0, by omega, rfl, fun _ => HM5.out, World.ownsRow_nil _ _ _ _, HRr.out, HVr.out, HOr.out, HAr.out⟩
      case round =>
        obtain ⟨k, hk, rfl, hm, hxo, hR, hV, hO, hbr⟩ := hrel
        obtain ⟨xo, xc, rfl⟩ := owns_shapeA hxo
        clear HRr HVr HOr HAr HBr HM5
        by_cases hlt2 : k < 1
        · obtain rfl : k = 0 := by omega
          have hm := hm rfl
          have hbl : sb < wr.heap.size := Nat.lt_of_lt_of_le HSL.out hbr.size
          obtain ⟨c0, c1, c2, c3, c4, c5⟩ := (HAT.out.below hbr).slot
          simp only [Nat.zero_mul, Nat.add_zero, sl0] at c0 c1 c2 c3 c4 c5
          have hbT := below_allocG wr (.cells #[.string ⟨#[]⟩, .string ⟨#[]⟩, .int .i64 1, .int .i64 0, .int .i64 0, .int .i64 0] 46)
          have HM1 := hide (hm.later hbT)
          have HX1 := hide (owns_laterA hxo hbT)
          have HR1 := hide (hR.later hbT)
          have HV1 := hide (hV.later hbT)
          have HO1 := hide (owns_laterA hO hbT)
          have HA1 := hide (hbr.trans (hbT.mono hbr.size))
          have HS1 := hide (Blk.new wr 46 #[.string ⟨#[]⟩, .string ⟨#[]⟩, .int .i64 1, .int .i64 0, .int .i64 0, .int .i64 0])
          have HWR := hide (show w5.heap.size + 2 ≤ wr.heap.size from hV.lt)
          clear hbr hbT hm hR hV hO hxo
          go_upto_region 17 with fail
          generalize hWX : wr.alloc (.cells #[.string ⟨#[]⟩, .string ⟨#[]⟩, .int .i64 1, .int .i64 0, .int .i64 0, .int .i64 0] 46) = W1 at HM1 HX1 HR1 HV1 HO1 HA1 HS1 ⊢
          have s2 := HS1.out.cell 2
          have s3 := HS1.out.cell 3
          have sl := HS1.out.lt
          have v0 := HV1.out.cell 0
          have vl := HV1.out.lt
          simp at s2 s3 v0
          have hlk := run_lookupI (w := W1) (id := 7) Try.underlying53 (zeroInt8 _) HM1.out (by decide)
          have hmf : (mf1 7).getD (.int .i64 0) = .int .i64 0 := rfl
          rw [hmf] at hlk
          have hi0 : W1.cell? ⟨ig, 0, none⟩ = some (.int .i64 7) := by
            obtain ⟨g2, cap2, hq, _, hgl, hat2⟩ := owns_here HO1.out (i := 0) (c := 7) rfl
            simp only [Value.slice.injEq, Option.some.injEq, Addr.mk.injEq] at hq
            obtain ⟨⟨rfl, -, -⟩, -, -⟩ := hq
            exact hat2 0 _ rfl
          have hil : ig < W1.heap.size := (HO1.out.lt ig rfl).2
          have HMF := hide (fun fv => MinFunc1_any ig 0 ic 7 fv W1 hi0 hil)
          have HSZ := hide (show wr.heap.size ≤ W1.heap.size by rw [← hWX]; simp)
          clear hWX c0 c1 c2 c3 c4 c5 hmf
          go_upto_region 20 with (first
            | (go_at_call 23; refine (HMF.out _).mono ?_; rintro e w2 ⟨rfl, hw⟩; rw [hw]; clear hw)
            | (at_mapUpdate; refine wpList_updateI (u := .int .i64 1) rfl rfl Try.underlying53 rfl rfl rfl HM1.out (by decide) (by decide) ?_; intro w2 hM3 hg3; have HG3 := hide hg3; have s2b := (HS1.out.grown hg3 (fun q => by have := HWR.out; simp at q; omega)).cell 2; have slb := (HS1.out.grown hg3 (fun q => by have := HWR.out; simp at q; omega)).lt; clear hM3 hg3))
          have HX3 := hide (owns_grownO HX1.out HG3.out (.inr (fun q => by have := (HX1.out.lt _ q).1; omega)))
          have HR3 := hide (HR1.out.grown HG3.out (fun q => by have := HZ5.out; simp at q; omega))
          have HV3 := hide (HV1.out.grown HG3.out (by simp))
          have HO3 := hide (owns_grownO HO1.out HG3.out (.inr (fun q => by have := HOL.out _ q; omega)))
          have HA3 := hide (below_grownO HA1.out HG3.out (fun k hk => by cases hk; exact HZ2.out) HA1.out.size)
          simp at s2b
          have hss : w5.heap.size + 2 ≤ w2.heap.size := by have := HWR.out; have := HSZ.out; have := HG3.out.size; omega
          clear s2 s3 sl v0 vl hlk hi0 hil
          go_wp2_with (at_builtin; refine wpList_append_oneG (E := odE) (c := ⟨3, 1, 7, 0, ⟨#[]⟩⟩) HX3.out rfl Try.underlying22 infoOrder rfl rfl rfl rfl rfl (by decide) (by decide) hss ?_; intro v4 w4 ho4 hb4 hg4; have HO4 := hide ho4; have HB4 := hide hb4; have HG4 := hide hg4; clear ho4 hb4 hg4)
          clear hss
          go_roundw
          case rel => exact ⟨1, by omega, by go_num, fun q => (by cases q), HO4.out, HR3.out.grown HG4.out (owns_off HX3.out HR3.out (by decide)).symm, HV3.out.grown HG4.out (owns_off HX3.out HV3.out (by decide)).symm, owns_grownO HO3.out HG4.out (owns_ne HO3.out HX3.out (by decide)), HA3.out.trans (HB4.out.mono (by have := HZ2.out; omega))⟩
          case measure => simp [intOf]
        · obtain rfl : k = 1 := by omega
          have HX9 := hide hxo
          have HR9 := hide hR
          have HA9 := hide hbr
          clear hxo hR hV hO hbr hm
          go_wp2_with (refine wpList_store_blk rfl rfl rfl rfl HR9.out rfl Try.sizeFaultA rfl ?_; intro w8 hQ8 hg8; have HQ8 := hide hQ8; have HX8 := hide (owns_grownO HX9.out hg8 (.inr (owns_off HX9.out HR9.out (by decide)))); have HA8 := hide (below_grownO HA9.out hg8 (fun k hk => by cases hk; omega) HA9.out.size); clear hQ8 hg8)
          refine bodyPost_ret (v := .tuple #[.slice xo 1 xc, .agg #[.int .i64 0, .int .i64 0]]) (results2_tc Try.results14 rfl rfl (run_loadVar_blk HQ8.out Try.underlying30 rfl Try.sizeFaultA)) rfl ?_
          exact ⟨_, rfl, owns_base1 HX8.out (by have := HZ2.out; omega), HA8.out⟩

end Go.Proofs.Ytnbifobdkjkjlaa
