/-
  Texts joined: RaftV8, LawRTakes.
-/
import Derived.Test.YtbffmdhogehfnaaMRaftTakesBRaftV4
import Derived.Test.YtbffmdhogehfnaaMRaftTakesBRaftV5
import Derived.Test.YtbffmdhogehfnaaMRaftTakesBRaftV6
import Derived.Test.YtbffmdhogehfnaaMRaftTakesBRaftV7
/-
  The walk over the document's TakeNode: whatever the node and the mail are.
-/
namespace Go.Proofs.Ytbffmdhogehfnaa
open Go.RowKit

theorem TakeNode_any (x : Nd) (lv vv nv hv : Value) (m : Ml) (ev : Value) (w : World) (hx : RdNd w x lv vv nv hv) (he : RdG eE w ev m.ents) :
    Calls Try.prog 25 #[ndV x lv vv nv hv, mlV m ev] w (TnTo x m w) := by
  by_cases h : (takF x m).1 = 0
  · have hm := (takF_ok h).2
    have h1 := hm.k1
    have h4 := hm.k4
    by_cases q1 : m.kind = 1
    · exact TakeNode_1 x lv vv nv hv m ev w hx he h q1
    by_cases q2 : m.kind = 2
    · exact TakeNode_2 x lv vv nv hv m ev w hx he h q2
    by_cases q3 : m.kind = 3
    · exact TakeNode_3 x lv vv nv hv m ev w hx he h q3
    · exact TakeNode_4 x lv vv nv hv m ev w hx he h (by omega)
  · exact TakeNode_f x lv vv nv hv m ev w hx he h

end Go.Proofs.Ytbffmdhogehfnaa

/-
  The walk over the law RaftTakes. (Written by rltk.py.)
-/
namespace Go.Proofs.Ytbffmdhogehfnaa
open Go.RowKit Go.Maps
set_option linter.unusedVariables false

theorem Nw.rdNd2 {w : World} {lab : Nat → Nat} {x : Nd} {lv vv nv hv : Value} (h : Nw w lab x lv vv nv hv) : RdNd w x lv vv nv hv :=
  ⟨RdG.ofOwns h.log.1, RdG.ofOwns h.vot.1, RdG.ofOwns h.nxt.1, RdG.ofOwns h.hav.1⟩

set_option maxRecDepth 100000 in
set_option maxHeartbeats 16000000 in
theorem raftTakes_any (x : Nd) (lv vv nv hv : Value) (m : Ml) (ev : Value) (w : World) (hx : RdNd w x lv vv nv hv) (hwf : ∀ v ∈ x.votes, WfI v) (he : RdG eE w ev m.ents) :
    Calls Try.prog 4 #[ndV x lv vv nv hv, mlV m ev] w fun e w' => e = .returned (.bool true) ∧ Below w.heap.size w w' := by
  have HWF := hide hwf
  obtain ⟨lo0, lc0, hs1, _, _⟩ := hx.log.shape
  obtain ⟨vo0, vc0, hs2, _, _⟩ := hx.votes.shape
  obtain ⟨no0, nc0, hs3, _, _⟩ := hx.next.shape
  obtain ⟨ho0, hc0, hs4, _, _⟩ := hx.hav.shape
  subst hs1 hs2 hs3 hs4
  obtain ⟨eo0, ec0, hes, _, _⟩ := he.shape
  subst hes
  have HV := hide (fun W a b c d h => vastNode_any x a b c d W h)
  have HVL := hide (fun W => vastLog_any eo0 m.ents.length ec0 W)
  have HCP := hide (fun W a b c d h => CopyNode_any x a b c d W h)
  have HCL := hide (fun W a h => CopyLog_any a m.ents W h)
  have HT := hide (fun W a b c d ev h h2 => Take_any x a b c d m ev W h HWF.out h2)
  have HD := hide (fun W a b c d ev h h2 => TakeNode_any x a b c d m ev W h h2)
  unfold TnTo at HD
  generalize takF x m = C1 at HT HD
  obtain ⟨p1, q1⟩ := C1
  generalize takN x m = X2 at HT HD
  generalize takM x m = M2 at HT HD
  unfold flt at HT HD
  have hbA := below_alloc2 w (.cells #[.int .i64 x.n, .int .i64 x.id, .int .i64 x.term, .int .i64 x.vote, .slice lo0 x.log.length lc0, .int .i64 x.role, .int .i64 x.com, .slice vo0 x.votes.length vc0, .slice no0 x.next.length nc0, .slice ho0 x.hav.length hc0] 25) (.cells #[.int .i64 m.kind, .int .i64 m.frm, .int .i64 m.to_, .int .i64 m.term, .int .i64 m.a, .int .i64 m.b, .int .i64 m.c, .slice eo0 m.ents.length ec0, .bool m.ok] 44)
  have HP0 := hide (Blk.at0of2 w (.cells #[.int .i64 m.kind, .int .i64 m.frm, .int .i64 m.to_, .int .i64 m.term, .int .i64 m.a, .int .i64 m.b, .int .i64 m.c, .slice eo0 m.ents.length ec0, .bool m.ok] 44) 25 #[.int .i64 x.n, .int .i64 x.id, .int .i64 x.term, .int .i64 x.vote, .slice lo0 x.log.length lc0, .int .i64 x.role, .int .i64 x.com, .slice vo0 x.votes.length vc0, .slice no0 x.next.length nc0, .slice ho0 x.hav.length hc0])
  have HM0 := hide (Blk.at1 w (.cells #[.int .i64 x.n, .int .i64 x.id, .int .i64 x.term, .int .i64 x.vote, .slice lo0 x.log.length lc0, .int .i64 x.role, .int .i64 x.com, .slice vo0 x.votes.length vc0, .slice no0 x.next.length nc0, .slice ho0 x.hav.length hc0] 25) 44 #[.int .i64 m.kind, .int .i64 m.frm, .int .i64 m.to_, .int .i64 m.term, .int .i64 m.a, .int .i64 m.b, .int .i64 m.c, .slice eo0 m.ents.length ec0, .bool m.ok])
  have HX0 := hide (hx.below hbA)
  have HE0 := hide (he.below hbA)
  have HB0 := hide hbA
  unfold ndV ndA mlV mlA
  clear hx hwf he hbA HWF
  go_enter Try.func4, Try.ntmps4
  go_wp2_with fail
  refine (raftBegun_any _).mono ?_
  rintro e w1 ⟨rfl, hb1⟩
  have HP1 := hide (HP0.out.later hb1)
  have HM1 := hide (HM0.out.later hb1)
  have HX1 := hide (HX0.out.below hb1)
  have HE1 := hide (HE0.out.below hb1)
  have HB1 := hide (HB0.out.trans (hb1.mono HB0.out.size))
  clear HB0 HP0 HM0 HX0 HE0
  clear hb1
  have HC := hide (HV.out _ _ _ _ _ HX1.out)
  unfold ndV ndA at HC
  have m7 := HM1.out.cell 7
  have ml := HM1.out.lt
  simp at m7
  go_wp2_with (refine wpList_load_blk HP1.out Try.underlying25 rfl Try.sizeNode rfl rfl rfl ?_)
  refine HC.out.mono ?_
  clear HC HV m7 ml
  have HVD : Hid (vastN x = (vastE x.log.length || (decide (100 < x.votes.length) || (decide (100 < x.next.length) || decide (100 < x.hav.length))))) := hide rfl
  generalize vastN x = VN at HVD ⊢
  cases VN
  case true =>
    rintro e w2 ⟨rfl, hb2⟩
    go_wp2_with fail
    go_ret
    exact ⟨rfl, HB1.out.trans (hb2.mono HB1.out.size)⟩
  rintro e w2 ⟨rfl, hb2⟩
  have hvd := HVD.out
  simp [vastE] at hvd
  have HVLN := hide hvd
  clear hvd HVD
  have HP2 := hide (HP1.out.later hb2)
  have HM2 := hide (HM1.out.later hb2)
  have HX2 := hide (HX1.out.below hb2)
  have HE2 := hide (HE1.out.below hb2)
  have HB2 := hide (HB1.out.trans (hb2.mono HB1.out.size))
  clear HB1 HP1 HM1 HX1 HE1
  clear hb2
  have m7 := HM2.out.cell 7
  have ml := HM2.out.lt
  simp at m7
  have HC := hide (HVL.out w2)
  have HVE : Hid (vastE m.ents.length = decide (5000 < m.ents.length) ∨ True) := hide (.inr trivial)
  go_wp2_with fail
  refine HC.out.mono ?_
  clear HC HVL
  generalize hVE : vastE m.ents.length = VN
  cases VN
  case true =>
    rintro e w3 ⟨rfl, rfl⟩
    go_wp2_with fail
    go_ret
    exact ⟨rfl, HB2.out⟩
  rintro e w3 ⟨rfl, hw3⟩
  rw [hw3]
  clear hw3 w3
  have hve := hVE
  simp [vastE] at hve
  have HVEN := hide hve
  clear hve hVE m7 ml HVE
  have HC := hide (HCP.out _ _ _ _ _ HX2.out (by have := HVLN.out; omega) (by have := HVLN.out; omega) (by have := HVLN.out; omega) (by have := HVLN.out; omega))
  unfold ndV ndA at HC
  go_wp2_with (refine wpList_load_blk HP2.out Try.underlying25 rfl Try.sizeNode rfl rfl rfl ?_)
  refine HC.out.mono ?_
  clear HC HCP HVLN
  rintro e w3 ⟨lab, lvY, vvY, nvY, hvY, rfl, hnw, _, hb3⟩
  have hrd := hnw.rdNd2
  obtain ⟨loY, lcY, hs1, _, _⟩ := hrd.log.shape
  obtain ⟨voY, vcY, hs2, _, _⟩ := hrd.votes.shape
  obtain ⟨noY, ncY, hs3, _, _⟩ := hrd.next.shape
  obtain ⟨hoY, hcY, hs4, _, _⟩ := hrd.hav.shape
  subst hs1 hs2 hs3 hs4
  have hal := below_alloc2 w3 (.cells #[.int .i64 x.n, .int .i64 x.id, .int .i64 x.term, .int .i64 x.vote, .slice loY x.log.length lcY, .int .i64 x.role, .int .i64 x.com, .slice voY x.votes.length vcY, .slice noY x.next.length ncY, .slice hoY x.hav.length hcY] 25) (.cells #[.int .i64 m.kind, .int .i64 m.frm, .int .i64 m.to_, .int .i64 m.term, .int .i64 m.a, .int .i64 m.b, .int .i64 m.c, .slice eo0 m.ents.length ec0, .bool m.ok] 44)
  have hbx := hb3.trans (hal.mono hb3.size)
  have HRY := hide hrd
  have HB3 := hide hb3
  have HAL := hide hal
  have HMa := hide (HM2.out.later (hb3.trans ((below_allocG w3 (.cells #[.int .i64 x.n, .int .i64 x.id, .int .i64 x.term, .int .i64 x.vote, .slice loY x.log.length lcY, .int .i64 x.role, .int .i64 x.com, .slice voY x.votes.length vcY, .slice noY x.next.length ncY, .slice hoY x.hav.length hcY] 25)).mono hb3.size)))
  have HMb := hide (HM2.out.later hbx)
  have HEb := hide (HE2.out.below hbx)
  have HZ3 := hide (Blk.at0of2 w3 (.cells #[.int .i64 m.kind, .int .i64 m.frm, .int .i64 m.to_, .int .i64 m.term, .int .i64 m.a, .int .i64 m.b, .int .i64 m.c, .slice eo0 m.ents.length ec0, .bool m.ok] 44) 25 #[.int .i64 x.n, .int .i64 x.id, .int .i64 x.term, .int .i64 x.vote, .slice loY x.log.length lcY, .int .i64 x.role, .int .i64 x.com, .slice voY x.votes.length vcY, .slice noY x.next.length ncY, .slice hoY x.hav.length hcY])
  have HQ3 := hide (Blk.at1 w3 (.cells #[.int .i64 x.n, .int .i64 x.id, .int .i64 x.term, .int .i64 x.vote, .slice loY x.log.length lcY, .int .i64 x.role, .int .i64 x.com, .slice voY x.votes.length vcY, .slice noY x.next.length ncY, .slice hoY x.hav.length hcY] 25) 44 #[.int .i64 m.kind, .int .i64 m.frm, .int .i64 m.to_, .int .i64 m.term, .int .i64 m.a, .int .i64 m.b, .int .i64 m.c, .slice eo0 m.ents.length ec0, .bool m.ok])
  have HL3 := hide (show w3.heap.size + 1 < ((w3.alloc (.cells #[.int .i64 x.n, .int .i64 x.id, .int .i64 x.term, .int .i64 x.vote, .slice loY x.log.length lcY, .int .i64 x.role, .int .i64 x.com, .slice voY x.votes.length vcY, .slice noY x.next.length ncY, .slice hoY x.hav.length hcY] 25)).alloc (.cells #[.int .i64 m.kind, .int .i64 m.frm, .int .i64 m.to_, .int .i64 m.term, .int .i64 m.a, .int .i64 m.b, .int .i64 m.c, .slice eo0 m.ents.length ec0, .bool m.ok] 44)).heap.size by simp)
  clear hnw hrd hb3 hbx hal
  go_upto_region 7 with (refine wpList_load_blk HMa.out Try.underlying44 rfl Try.sizeMail rfl rfl rfl ?_)
  generalize hW3 : (w3.alloc (.cells #[.int .i64 x.n, .int .i64 x.id, .int .i64 x.term, .int .i64 x.vote, .slice loY x.log.length lcY, .int .i64 x.role, .int .i64 x.com, .slice voY x.votes.length vcY, .slice noY x.next.length ncY, .slice hoY x.hav.length hcY] 25)).alloc (.cells #[.int .i64 m.kind, .int .i64 m.frm, .int .i64 m.to_, .int .i64 m.term, .int .i64 m.a, .int .i64 m.b, .int .i64 m.c, .slice eo0 m.ents.length ec0, .bool m.ok] 44) = W3 at HMb HEb HZ3 HQ3 HL3 HAL ⊢
  clear hW3 HMa
  have m7 := HMb.out.cell 7
  have ml := HMb.out.lt
  simp at m7
  have HC := hide (HCL.out _ _ HEb.out (by have := HVEN.out; omega))
  go_upto_region 8 with (first
    | (go_at_call 22; refine HC.out.mono ?_; rintro e w4 ⟨v4, rfl, ho4, hb4⟩; obtain ⟨eo4, ec4, hs4⟩ := owns_shapeK ho4; subst hs4; have HBN := hide hb4; have HO4 := hide ho4; have HQ4 := hide (HQ3.out.later hb4); clear hb4 ho4)
    | (refine wpList_store_slice (k := 7) rfl rfl rfl rfl HQ4.out rfl Try.sizeEntsR ?_; intro w5 hQ5 hg5; have HQ5 := hide (show Blk w5 (w3.heap.size + 1) 44 #[.int .i64 m.kind, .int .i64 m.frm, .int .i64 m.to_, .int .i64 m.term, .int .i64 m.a, .int .i64 m.b, .int .i64 m.c, .slice eo4 m.ents.length ec4, .bool m.ok] from hQ5); have HG5 := hide hg5; clear hQ5 hg5))
  have hb5 := below_grownO (HAL.out.trans (HBN.out.mono HAL.out.size)) HG5.out (fun k hk => by cases hk; omega) (Nat.le_trans HAL.out.size HBN.out.size)
  have hbx := HB3.out.trans (hb5.mono HB3.out.size)
  have HN5 := hide (RdG.ofOwns (owns_grownO HO4.out HG5.out (.inr (fun q => by have := (HO4.out.lt _ q).1; have := HL3.out; omega))))
  have HZ5 := hide ((HZ3.out.later HBN.out).grown HG5.out (by simp))
  have HY5 := hide (HRY.out.below hb5)
  have HP5 := hide (HP2.out.later hbx)
  have HM5 := hide (HM2.out.later hbx)
  have HX5 := hide (HX2.out.below hbx)
  have HE5 := hide (HE2.out.below hbx)
  have HB5 := hide (HB2.out.trans (hbx.mono HB2.out.size))
  clear HB2 HP2 HM2 HX2 HE2
  clear HC HCL m7 ml HQ4 HMb HEb HQ3 HZ3 HL3 HAL HBN HO4 HG5 HRY HB3 hb5 hbx HVEN
  have HC := hide (HT.out _ _ _ _ _ _ HY5.out HN5.out)
  unfold ndV ndA mlV mlA at HC
  go_upto_region 9 with (first
    | (refine wpList_load_blk HZ5.out Try.underlying25 rfl Try.sizeNode rfl rfl rfl ?_)
    | (refine wpList_load_blk HQ5.out Try.underlying44 rfl Try.sizeMail rfl rfl rfl ?_)
    | (go_at_call 23; refine HC.out.mono ?_; rintro e w6 ⟨lvA, vvA, nvA, hvA, mvA, rfl, han, how, hb6⟩; have HRD := hide han.rd; have HOM := hide how.rd; have HBN := hide hb6; obtain ⟨loA, lcA, hs1, _, _⟩ := HRD.out.log.shape; obtain ⟨voA, vcA, hs2, _, _⟩ := HRD.out.votes.shape; obtain ⟨noA, ncA, hs3, _, _⟩ := HRD.out.next.shape; obtain ⟨hoA, hcA, hs4, _, _⟩ := HRD.out.hav.shape; obtain ⟨moA, mcA, hs5, _, _⟩ := HOM.out.shape; subst hs1 hs2 hs3 hs4 hs5; have HA0 := hide (Blk.at0of2 w6 (.cells #[.int .i64 0, .int .i64 0] 30) 25 #[.int .i64 0, .int .i64 0, .int .i64 0, .int .i64 0, .slice none 0 0, .int .i64 0, .int .i64 0, .slice none 0 0, .slice none 0 0, .slice none 0 0]); have HA1 := hide (Blk.at1 w6 (.cells #[.int .i64 0, .int .i64 0, .int .i64 0, .int .i64 0, .slice none 0 0, .int .i64 0, .int .i64 0, .slice none 0 0, .slice none 0 0, .slice none 0 0] 25) 30 #[.int .i64 0, .int .i64 0]); clear han how hb6)
    | (refine wpList_store_blk rfl rfl rfl rfl HA0.out rfl Try.sizeNode rfl ?_; intro u6 hN2 hg2; have HN2 := hide hN2; have HG2 := hide hg2; clear hN2 hg2)
    | (refine wpList_store_blk rfl rfl rfl rfl (HA1.out.grown HG2.out (by simp)) rfl Try.sizeFaultR rfl ?_; intro W6 hF3 hg3; have HF3 := hide hF3; have HG3 := hide hg3; clear hF3 hg3))
  have h23 := boxes2 HN2.out HG2.out HF3.out HG3.out
  have hbx := HBN.out.trans (h23.2.mono HBN.out.size)
  have HP6 := hide (HP5.out.later hbx)
  have HM6 := hide (HM5.out.later hbx)
  have HX6 := hide (HX5.out.below hbx)
  have HE6 := hide (HE5.out.below hbx)
  have HN6 := hide (HN5.out.below hbx)
  have HZ6 := hide (HZ5.out.later hbx)
  have HY6 := hide (HY5.out.below hbx)
  have HQ6 := hide (HQ5.out.later hbx)
  have HB6 := hide (HB5.out.trans (hbx.mono HB5.out.size))
  clear HB5 HP5 HM5 HX5 HE5 HN5 HZ5 HY5 HQ5
  have HNa6 := hide h23.1
  have HRa6 := hide (HRD.out.below h23.2)
  have HFa6 := hide HF3.out
  have HMa6 := hide (HOM.out.below h23.2)
  clear HC HT HA0 HA1 HN2 HG2 HF3 HG3 h23 hbx HRD HBN HOM
  have HS1 := hide (fun W (h : Below W6.heap.size W6 W) => (SameNode_eq x _ _ _ _ _ _ _ _ W (HY6.out.below h) (HX6.out.below h)).mono fun e W' h2 => And.intro h2.1 (h.trans (h2.2.mono h.size)))
  have HS2 := hide (fun W (h : Below W6.heap.size W6 W) => (SameLog_any _ _ m.ents W (HN6.out.below h) (HE6.out.below h)).mono fun e W' h2 => And.intro h2.1 (h.trans (h2.2.mono h.size)))
  unfold ndV ndA at HS1
  have q7 := fun W (h : Below W6.heap.size W6 W) => (HQ6.out.later h).cell 7
  have m7 := fun W (h : Below W6.heap.size W6 W) => (HM6.out.later h).cell 7
  have HQL := hide q7
  have HML := hide m7
  clear q7 m7
  have HU0 := hide (Below.refl W6.heap.size W6)
  go_upto_if 47 with (first
    | (refine wpList_load_blk HZ6.out Try.underlying25 rfl Try.sizeNode rfl rfl rfl ?_)
    | (refine wpList_load_blk HP6.out Try.underlying25 rfl Try.sizeNode rfl rfl rfl ?_)
    | (go_at_call 14; refine (HS1.out _ HU0.out).mono ?_; rintro e u1 ⟨rfl, hu1⟩; have HU1 := hide hu1; have q7 := (HQL.out _ hu1); have ql := (HQ6.out.later hu1).lt; have m7 := (HML.out _ hu1); have ml := (HM6.out.later hu1).lt; simp at q7 m7; clear hu1)
    | (go_at_call 24; refine (HS2.out _ HU1.out).mono ?_; rintro e u2 ⟨rfl, hu2⟩; have HU2 := hide hu2; clear hu2))
  go_upto_region 11 with fail
  have hbx := HU2.out
  have HP7 := hide (HP6.out.later hbx)
  have HM7 := hide (HM6.out.later hbx)
  have HX7 := hide (HX6.out.below hbx)
  have HE7 := hide (HE6.out.below hbx)
  have HN7 := hide (HN6.out.below hbx)
  have HZ7 := hide (HZ6.out.later hbx)
  have HY7 := hide (HY6.out.below hbx)
  have HQ7 := hide (HQ6.out.later hbx)
  have HB7 := hide (HB6.out.trans (hbx.mono HB6.out.size))
  clear HB6 HP6 HM6 HX6 HE6 HN6 HZ6 HY6 HQ6
  have HNa7 := hide (HNa6.out.later hbx)
  have HRa7 := hide (HRa6.out.below hbx)
  have HFa7 := hide (HFa6.out.later hbx)
  have HMa7 := hide (HMa6.out.below hbx)
  clear HNa6 HRa6 HFa6 HMa6 HU0 HU1 HU2 HS1 HS2 HQL HML q7 ql m7 ml hbx
  have HC := hide (HD.out _ _ _ _ _ _ HX7.out HE7.out)
  unfold ndV ndA mlV mlA at HC
  go_upto_region 12 with (first
    | (refine wpList_load_blk HP7.out Try.underlying25 rfl Try.sizeNode rfl rfl rfl ?_)
    | (refine wpList_load_blk HM7.out Try.underlying44 rfl Try.sizeMail rfl rfl rfl ?_)
    | (go_at_call 25; refine HC.out.mono ?_; rintro e w8 ⟨lvB, vvB, nvB, hvB, mvB, rfl, han, how, hb8⟩; have HRD := hide han; have HOM := hide how; have HBN := hide hb8; obtain ⟨loB, lcB, hs1, _, _⟩ := HRD.out.log.shape; obtain ⟨voB, vcB, hs2, _, _⟩ := HRD.out.votes.shape; obtain ⟨noB, ncB, hs3, _, _⟩ := HRD.out.next.shape; obtain ⟨hoB, hcB, hs4, _, _⟩ := HRD.out.hav.shape; obtain ⟨moB, mcB, hs5, _, _⟩ := HOM.out.shape; subst hs1 hs2 hs3 hs4 hs5; have HA0 := hide (Blk.at0of2 w8 (.cells #[.int .i64 0, .int .i64 0] 30) 25 #[.int .i64 0, .int .i64 0, .int .i64 0, .int .i64 0, .slice none 0 0, .int .i64 0, .int .i64 0, .slice none 0 0, .slice none 0 0, .slice none 0 0]); have HA1 := hide (Blk.at1 w8 (.cells #[.int .i64 0, .int .i64 0, .int .i64 0, .int .i64 0, .slice none 0 0, .int .i64 0, .int .i64 0, .slice none 0 0, .slice none 0 0, .slice none 0 0] 25) 30 #[.int .i64 0, .int .i64 0]); clear han how hb8)
    | (refine wpList_store_blk rfl rfl rfl rfl HA0.out rfl Try.sizeNode rfl ?_; intro u8 hN2 hg2; have HN2 := hide hN2; have HG2 := hide hg2; clear hN2 hg2)
    | (refine wpList_store_blk rfl rfl rfl rfl (HA1.out.grown HG2.out (by simp)) rfl Try.sizeFaultR rfl ?_; intro W8 hF3 hg3; have HF3 := hide hF3; have HG3 := hide hg3; clear hF3 hg3))
  have h23 := boxes2 HN2.out HG2.out HF3.out HG3.out
  have hbx := HBN.out.trans (h23.2.mono HBN.out.size)
  have HNa8 := hide (HNa7.out.later hbx)
  have HRa8 := hide (HRa7.out.below hbx)
  have HFa8 := hide (HFa7.out.later hbx)
  have HMa8 := hide (HMa7.out.below hbx)
  have HNb8 := hide h23.1
  have HRb8 := hide (HRD.out.below h23.2)
  have HFb8 := hide HF3.out
  have HMb8 := hide (HOM.out.below h23.2)
  have HBZ := hide (HB7.out.trans (hbx.mono HB7.out.size))
  clear HC HD HA0 HA1 HN2 HG2 HF3 HG3 h23 hbx HRD HBN HOM HNa7 HRa7 HFa7 HMa7 HP7 HM7 HX7 HE7 HN7 HZ7 HY7 HQ7 HB7
  have HQ1 := hide (fun W (h : Below W8.heap.size W8 W) => (SameNode_eq X2 _ _ _ _ _ _ _ _ W (HRa8.out.below h) (HRb8.out.below h)).mono fun e W' h2 => And.intro h2.1 (h.trans (h2.2.mono h.size)))
  have HQ2 := hide (fun W (h : Below W8.heap.size W8 W) => (SameMails_eq _ _ M2 W (HMa8.out.below h) (HMb8.out.below h)).mono fun e W' h2 => And.intro h2.1 (h.trans (h2.2.mono h.size)))
  unfold ndV ndA at HQ1
  have HU0 := hide (Below.refl W8.heap.size W8)
  have fa0 := HFa8.out.cell 0
  have fa1 := HFa8.out.cell 1
  have fal := HFa8.out.lt
  have fb0 := HFb8.out.cell 0
  have fb1 := HFb8.out.cell 1
  have fbl := HFb8.out.lt
  simp at fa0 fa1 fb0 fb1
  go_wp2_with (first
    | (go_at_call 20; refine (HQ2.out _ HU1.out).mono ?_; rintro e u2 ⟨rfl, hu2⟩; have HU2 := hide hu2; clear hu2)
    | (go_at_call 14; refine (HQ1.out _ HU0.out).mono ?_; rintro e u1 ⟨rfl, hu1⟩; have HU1 := hide hu1; clear hu1)
    | (refine wpList_load_blkW (HNa8.out.later HU0.out) Try.underlying25 rfl Try.sizeNode rfl rfl rfl ?_)
    | (refine wpList_load_blkW (HNb8.out.later HU0.out) Try.underlying25 rfl Try.sizeNode rfl rfl rfl ?_))
  go_ret
  exact ⟨by simp, HBZ.out.trans (HU2.out.mono HBZ.out.size)⟩

end Go.Proofs.Ytbffmdhogehfnaa
