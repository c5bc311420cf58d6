/-
  Texts joined: LoB.
-/
import Derived.Test.YtoeobhehjnkkkaaMLocateDoesLoW9
import Derived.Test.YtoeobhehjnkkkaaMLocateDoesLoR1
import Derived.Test.YtoeobhehjnkkkaaMLocateDoesAsW15
/-
  The walks over served and locateBegun.
-/
namespace Go.Proofs.Ytoeobhehjnkkkaa
open Go.RowKit Go.Maps
set_option linter.unusedVariables false

/-- One slot, open at 7 in turn 1. -/
def srvBd : Bd := ⟨[⟨7, 1, true⟩], [⟨⟨⟨#[]⟩, ⟨#[]⟩, 1⟩, 2, 7, 1⟩], 1, 2⟩
def srvKn : Kn := ⟨⟨⟨#[]⟩, ⟨#[]⟩, 1⟩, 7, 1⟩

theorem srv_fine : FineB srvBd := fineB_iff.1 (by kernel_rfl)

theorem srv_find : findR srvBd [] ⟨#[114]⟩ = ⟨[srvKn], srvKn, 1, (0, 0)⟩ := by kernel_rfl

set_option maxRecDepth 100000 in
set_option maxHeartbeats 1000000 in
theorem served_any (w : World) :
    Calls Try.prog 46 #[] w fun e w' => ∃ hv sv, e = .returned (bdV hv sv srvBd) ∧ RdG hoE w' hv srvBd.hs ∧ RdG slE w' sv srvBd.sl ∧ Below w.heap.size w w' := by
  have hA := below_allocG w (.cells #[.slice none 0 0, .slice none 0 0, .int .i64 0, .int .i64 0] 27)
  have hB := Blk.new w 27 #[.slice none 0 0, .slice none 0 0, .int .i64 0, .int .i64 0]
  generalize hW : w.alloc (.cells #[.slice none 0 0, .slice none 0 0, .int .i64 0, .int .i64 0] 27) = W0 at hA hB
  have hA1 := below_allocG W0 (.cells #[.int .i64 7, .int .i64 1, .bool true] 42)
  have hO1 := owns_made1 (w := W0) (base := w.heap.size) (e := 42) (K := 3) (vs := #[.int .i64 7, .int .i64 1, .bool true]) hA.size rfl
  have hB1 := hB.later hA1
  have hAA1 := hA.trans (hA1.mono hA.size)
  generalize hW1 : W0.alloc (.cells #[.int .i64 7, .int .i64 1, .bool true] 42) = W1 at hA1 hO1 hB1 hAA1
  have hA2 := below_allocG W1 (.cells #[.string ⟨#[]⟩, .string ⟨#[]⟩, .int .i64 1, .int .i64 2, .int .i64 7, .int .i64 1] 46)
  have HP0 := hide (owns_made1 (w := W1) (base := w.heap.size) (e := 46) (K := 6) (vs := #[.string ⟨#[]⟩, .string ⟨#[]⟩, .int .i64 1, .int .i64 2, .int .i64 7, .int .i64 1]) hAA1.size rfl)
  have HO0 := hide (owns_laterA hO1 hA2)
  have HB0 := hide (hB1.later hA2)
  have HA0 := hide (hAA1.trans (hA2.mono hAA1.size))
  generalize hW2 : W1.alloc (.cells #[.string ⟨#[]⟩, .string ⟨#[]⟩, .int .i64 1, .int .i64 2, .int .i64 7, .int .i64 1] 46) = W2 at HP0 HO0 HB0 HA0
  clear hA hB hA1 hO1 hB1 hAA1 hA2
  go_enter Try.func46, Try.ntmps46
  go_wp2_with (refine wpList_store_blk rfl rfl rfl rfl HB0.out rfl Try.sizeBoard rfl ?_; intro w8 hB8 hg8; have HB8 := hide hB8; have HO8 := hide (owns_grownO HO0.out hg8 (.inr (owns_off HO0.out HB0.out (by decide)))); have HP8 := hide (owns_grownO HP0.out hg8 (.inr (owns_off HP0.out HB0.out (by decide)))); have HA8 := hide (below_grownO HA0.out hg8 (fun k hk => by cases hk; omega) HA0.out.size); clear hB8 hg8)
  refine bodyPost_ret (v := .agg #[.slice (some ⟨W0.heap.size, 0, none⟩) 1 1, .slice (some ⟨W1.heap.size, 0, none⟩) 1 1, .int .i64 1, .int .i64 2]) (results1_cell Try.results46 rfl (run_loadVar_blk HB8.out Try.underlying27 rfl Try.sizeBoard)) rfl ?_
  exact ⟨_, _, rfl, RdG.ofOwns (E := hoE) (cs := srvBd.hs) HO8.out, RdG.ofOwns (E := slE) (cs := srvBd.sl) HP8.out, HA8.out⟩

set_option maxRecDepth 100000 in
set_option maxHeartbeats 8000000 in
theorem locateBegun_any (w : World) : Calls Try.prog 20 #[] w fun e w' => e = .returned (.bool true) ∧ Below w.heap.size w w' := by
  have HSV := hide (served_any w)
  have HFD := hide (fun W hv sv (hh : RdG hoE W hv srvBd.hs) (hs : RdG slE W sv srvBd.sl) => Find_none srvBd hv sv (.slice none 0 0) [] ⟨#[114]⟩ W srv_fine ⟨by decide, fun i hi => by simp at hi⟩ hh hs (RdG.nil W) rfl)
  unfold FdTo at HFD
  simp only [srv_find] at HFD
  rw [show knE.ag srvKn = .agg #[.string ⟨#[]⟩, .string ⟨#[]⟩, .int .i64 1, .int .i64 7, .int .i64 1] from rfl] at HFD
  unfold flt at HFD
  dsimp only at HFD
  go_enter Try.func20, Try.ntmps20
  go_upto_region 2 with (first
    | (go_at_call 32; refine (HFD.out w1 _ _ HO1.out HP1.out).mono ?_; rintro e w2 ⟨v2, rfl, ho2, hb2⟩; obtain ⟨a2, k2, rfl⟩ := owns_shapeA ho2; have HO2 := hide ho2; have HB2 := hide (HB1.out.trans (hb2.mono HB1.out.size)); clear ho2 hb2)
    | (go_at_call 46; refine HSV.out.mono ?_; rintro e w1 ⟨hv, sv, rfl, ho1, hp1, hb1⟩; have HO1 := hide ho1; have HP1 := hide hp1; have HB1 := hide hb1; clear ho1 hp1 hb1))
  have hbT := below_alloc2 w2 (.cells #[.string ⟨#[]⟩, .string ⟨#[]⟩, .int .i64 1, .int .i64 7, .int .i64 1] 61) (.cells #[.int .i64 0, .int .i64 0] 30)
  have HK2 := hide (Blk.at0of2 w2 (.cells #[.int .i64 0, .int .i64 0] 30) 61 #[.string ⟨#[]⟩, .string ⟨#[]⟩, .int .i64 1, .int .i64 7, .int .i64 1])
  have HF2 := hide (Blk.at1 w2 (.cells #[.string ⟨#[]⟩, .string ⟨#[]⟩, .int .i64 1, .int .i64 7, .int .i64 1] 61) 30 #[.int .i64 0, .int .i64 0])
  have HA2 := hide (HB2.out.trans (hbT.mono HB2.out.size))
  have HL2 := hide ((RdG.ofOwns HO2.out).below hbT)
  generalize hwX : ((w2.alloc (.cells #[.string ⟨#[]⟩, .string ⟨#[]⟩, .int .i64 1, .int .i64 7, .int .i64 1] 61)).alloc (.cells #[.int .i64 0, .int .i64 0] 30)) = X2 at HK2 HF2 HA2 HL2 ⊢
  clear hwX hbT HO2 HB2 HSV HFD
  have f0 := HF2.out.cell 0
  have fl := HF2.out.lt
  have k0 := HK2.out.cell 0
  have k1 := HK2.out.cell 1
  have k2c := HK2.out.cell 2
  have k3 := HK2.out.cell 3
  have k4 := HK2.out.cell 4
  have kl := HK2.out.lt
  simp at f0 k0 k1 k2c k3 k4
  have hbL := below_allocG X2 (.cells #[.string ⟨#[]⟩, .string ⟨#[]⟩, .int .i64 1, .int .i64 7, .int .i64 1] 61)
  have HLI : Hid (RdG knE (X2.alloc (.cells #[.string ⟨#[]⟩, .string ⟨#[]⟩, .int .i64 1, .int .i64 7, .int .i64 1] 61)) (.slice (some ⟨X2.heap.size, 0, none⟩) 1 1) [srvKn]) := hide (RdG.newL (E := knE) X2 [srvKn] 61 #[.string ⟨#[]⟩, .string ⟨#[]⟩, .int .i64 1, .int .i64 7, .int .i64 1] rfl (by simp))
  have HSK := hide (SameKnown_eq _ _ [srvKn] _ (HL2.out.below hbL) HLI.out)
  have HBL := hide hbL
  clear hbL
  go_wp2_with (go_at_call 26; refine HSK.out.mono ?_; rintro e w6 ⟨rfl, hb6⟩; have HA6 := hide (HA2.out.trans ((HBL.out.trans (hb6.mono HBL.out.size)).mono HA2.out.size)); clear hb6)
  go_ret
  exact ⟨rfl, HA6.out⟩

end Go.Proofs.Ytoeobhehjnkkkaa
