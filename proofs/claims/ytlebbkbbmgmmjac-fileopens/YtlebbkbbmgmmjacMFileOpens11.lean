/-
  Texts joined: FileR3, FileR4, FileR7, CellR6, CellR7, CellR8, FileR8.
-/
import Derived.Test.YtlebbkbbmgmmjacMFileOpens10
/-
  The document's filter: plain mathematics, and the walk over FilterOf.
-/
namespace Go.Proofs.Ytlebbkbbmgmmjac
open Go.RowKit

/-- Bools as cells. -/
def oc (l : List Bool) : List Value := l.map Value.bool
/-- The bits of bytes, one by one. -/
def bitsL (F : List UInt8) : List Bool := (List.range (8 * F.length)).map (bitB F)
theorem oc_length (l : List Bool) : (oc l).length = l.length := by simp [oc]
theorem oc_one (l : List Bool) : ∀ u ∈ oc l, u.oneCell' = true := by
  intro u hu
  simp only [oc, List.mem_map] at hu
  obtain ⟨_, _, rfl⟩ := hu
  rfl

theorem bitsL_length (F : List UInt8) : (bitsL F).length = 8 * F.length := by simp [bitsL]

theorem bitsL_get (F : List UInt8) (p : Nat) (h : p < 8 * F.length) : (bitsL F)[p]? = some (bitB F p) := by simp [bitsL, h]

theorem bitsL_set {F : List UInt8} {p : Nat} (h : p < 8 * F.length) : (bitsL F).set p true = bitsL (setB F p) := by
  refine List.ext_getElem? fun q => ?_
  by_cases hq : q < 8 * F.length
  · rw [bitsL_get (setB F p) q (by rw [setB_len]; exact hq), bitB_set (by omega)]
    by_cases e : p = q
    · subst e
      rw [List.getElem?_set_self (by rw [bitsL_length]; exact h)]
      simp
    · rw [List.getElem?_set_ne e, bitsL_get F q hq]
      simp [e]
  · rw [List.getElem?_eq_none (by rw [List.length_set, bitsL_length]; omega), List.getElem?_eq_none (by rw [bitsL_length, setB_len]; omega)]

theorem bitsL_zero (n : Nat) : bitsL (List.replicate n 0) = List.replicate (8 * n) false := by
  refine List.ext_getElem? fun q => ?_
  by_cases hq : q < 8 * n
  · rw [bitsL_get _ q (by simpa using hq), List.getElem?_replicate, if_pos hq]
    unfold bitB
    rw [List.getD_eq_getElem?_getD, List.getElem?_replicate, if_pos (by omega)]
    simp
  · rw [List.getElem?_eq_none (by rw [bitsL_length]; simpa using hq), List.getElem?_eq_none (by simpa using hq)]

/-- Bytes, as far as their first i bits are told. -/
def partF (F : List UInt8) (i : Nat) : List UInt8 := F.mapIdx fun d x => UInt8.ofNat (x.toNat % 2 ^ (i - 8 * d))

theorem partF_len (F : List UInt8) (i : Nat) : (partF F i).length = F.length := by simp [partF]
theorem partF_get (F : List UInt8) (i d : Nat) : (partF F i)[d]? = F[d]?.map fun x => UInt8.ofNat (x.toNat % 2 ^ (i - 8 * d)) := by simp [partF]

theorem partF_zero (F : List UInt8) : partF F 0 = List.replicate F.length 0 := by
  refine List.ext_getElem? fun d => ?_
  rw [partF_get, List.getElem?_replicate]
  by_cases hd : d < F.length
  · rw [List.getElem?_eq_getElem hd, if_pos hd]
    simp [Nat.mod_one]
  · rw [List.getElem?_eq_none (by omega), if_neg hd]
    rfl

theorem ofNat_toNat' (x : UInt8) : UInt8.ofNat x.toNat = x := UInt8.toNat_inj.1 (u8_ofNat_toNat _ x.toNat_lt)

theorem partF_all (F : List UInt8) : partF F (8 * F.length) = F := by
  refine List.ext_getElem? fun d => ?_
  rw [partF_get]
  by_cases hd : d < F.length
  · rw [List.getElem?_eq_getElem hd, Option.map_some]
    have h8 : 2 ^ 8 ≤ 2 ^ (8 * F.length - 8 * d) := Nat.pow_le_pow_right (by decide) (by omega)
    rw [Nat.mod_eq_of_lt (Nat.lt_of_lt_of_le F[d].toNat_lt h8), ofNat_toNat']
  · rw [List.getElem?_eq_none (by omega)]
    rfl

theorem mod_bit (x r : Nat) : x % 2 ^ (r + 1) = x % 2 ^ r + (if x.testBit r then 2 ^ r else 0) := by
  rw [Nat.mod_pow_succ, Nat.testBit_eq_decide_div_mod_eq]
  rcases Nat.mod_two_eq_zero_or_one (x / 2 ^ r) with h | h <;> rw [h] <;> simp

theorem partF_no {F : List UInt8} {i : Nat} (_h : i < 8 * F.length) (hb : bitB F i = false) : partF F (i + 1) = partF F i := by
  refine List.ext_getElem? fun d => ?_
  rw [partF_get, partF_get]
  by_cases hd : d < F.length
  · rw [List.getElem?_eq_getElem hd, Option.map_some, Option.map_some]
    by_cases e : d = i / 8
    · have e1 : i + 1 - 8 * d = i % 8 + 1 := by omega
      have e2 : i - 8 * d = i % 8 := by omega
      have hb' : F[d].toNat.testBit (i % 8) = false := by
        unfold bitB at hb
        rw [← e, List.getD_eq_getElem?_getD, List.getElem?_eq_getElem hd] at hb
        exact hb
      rw [e1, e2, mod_bit, hb']
      simp
    · by_cases h1 : d < i / 8
      · have h8 : 2 ^ 8 ≤ 2 ^ (i - 8 * d) := Nat.pow_le_pow_right (by decide) (by omega)
        have h9 : 2 ^ 8 ≤ 2 ^ (i + 1 - 8 * d) := Nat.pow_le_pow_right (by decide) (by omega)
        rw [Nat.mod_eq_of_lt (Nat.lt_of_lt_of_le F[d].toNat_lt h8), Nat.mod_eq_of_lt (Nat.lt_of_lt_of_le F[d].toNat_lt h9)]
      · rw [show i + 1 - 8 * d = i - 8 * d by omega]
  · rw [List.getElem?_eq_none (by omega)]
    rfl

theorem partF_yes {F : List UInt8} {i : Nat} {x : UInt8} (h : i < 8 * F.length) (hb : bitB F i = true) (hx : (partF F i)[i / 8]? = some x) : partF F (i + 1) = (partF F i).set (i / 8) (UInt8.ofNat (x.toNat + 2 ^ (i % 8))) ∧ x.toNat + 2 ^ (i % 8) < 256 := by
  have hd : i / 8 < F.length := by omega
  have hx' : x = UInt8.ofNat (F[i / 8].toNat % 2 ^ (i % 8)) := by
    rw [partF_get, List.getElem?_eq_getElem hd, Option.map_some, Option.some.injEq, show i - 8 * (i / 8) = i % 8 by omega] at hx
    exact hx.symm
  have hlt : 2 ^ (i % 8) ≤ 2 ^ 7 := Nat.pow_le_pow_right (by decide) (by omega)
  have hml : F[i / 8].toNat % 2 ^ (i % 8) < 2 ^ (i % 8) := Nat.mod_lt _ (Nat.two_pow_pos _)
  have hxn : x.toNat = F[i / 8].toNat % 2 ^ (i % 8) := by rw [hx', u8_ofNat_toNat _ (by omega)]
  refine ⟨?_, by omega⟩
  refine List.ext_getElem? fun d => ?_
  by_cases e : d = i / 8
  · subst e
    rw [List.getElem?_set_self (by rw [partF_len]; exact hd), partF_get, List.getElem?_eq_getElem hd, Option.map_some, show i + 1 - 8 * (i / 8) = i % 8 + 1 by omega, mod_bit]
    have hb' : F[i / 8].toNat.testBit (i % 8) = true := by
      unfold bitB at hb
      rw [List.getD_eq_getElem?_getD, List.getElem?_eq_getElem hd] at hb
      exact hb
    rw [hb', hxn]
    simp
  · rw [List.getElem?_set_ne (fun h => e h.symm), partF_get, partF_get]
    by_cases hd2 : d < F.length
    · rw [List.getElem?_eq_getElem hd2, Option.map_some, Option.map_some]
      by_cases h1 : d < i / 8
      · have h8 : 2 ^ 8 ≤ 2 ^ (i - 8 * d) := Nat.pow_le_pow_right (by decide) (by omega)
        have h9 : 2 ^ 8 ≤ 2 ^ (i + 1 - 8 * d) := Nat.pow_le_pow_right (by decide) (by omega)
        rw [Nat.mod_eq_of_lt (Nat.lt_of_lt_of_le F[d].toNat_lt h8), Nat.mod_eq_of_lt (Nat.lt_of_lt_of_le F[d].toNat_lt h9)]
      · rw [show i + 1 - 8 * d = i - 8 * d by omega]
    · rw [List.getElem?_eq_none (by omega)]
      rfl

end Go.Proofs.Ytlebbkbbmgmmjac

/-
  The walk over the document's FilterOf.
-/
namespace Go.Proofs.Ytlebbkbbmgmmjac
open Go.RowKit

theorem Try.info4 : (Try.prog.info? 4).map (fun i => (i.zero, i.size, i.bytes)) = some (some (.bool false), 1, 1) := by kernel_rfl

/-- 'make([]bool, n)'. -/
theorem wpList_make_false {P : Program} {w : World} {ops : Array Oper} {rest : List Oper} {o : Oper} {a : Act} {Q : Exit → Act → World → Prop} {l c : Operand} {t e : TypeId} {base n : Nat} {L C : Int}
    (hn : L = (n : Int)) (hn2 : C = (n : Int)) (ht : P.underlying t = some (.slice e)) (hinf : (P.info? e).map (fun i => (i.zero, i.size, i.bytes)) = some (some (.bool false), 1, 1))
    (hgd : o.guard = none) (ho : o.op = Op.makeSlice t l c) (hl : a.eval l = .int .i64 L) (hc : a.eval c = .int .i64 C)
    (h63 : n ≤ 1000000000000) (hbase : base ≤ w.heap.size)
    (h : ∀ w', w'.ownsRow base e 1 (.slice (some ⟨w.heap.size, 0, none⟩) n n) n (oc (List.replicate n false)) → Below w.heap.size w w' → w.heap.size < w'.heap.size → wpList P ops Q rest (a.put o.dst (.slice (some ⟨w.heap.size, 0, none⟩) n n)) w') : wpList P ops Q (o :: rest) a w := by
  obtain ⟨i, hi, hz, hsize, hby⟩ := info_parts hinf
  refine wpList_make_full w hgd l c t ho base e i (.bool false) 1 ht hi hz hsize .i64 .i64 L C n hl hc hn hn2 ?_ (by simp [maxLen]; omega) hbase (fun w' h1 h2 => ?_)
  · rw [hby]
    omega
  · refine h w' ?_ ⟨h2.os, h2.tape, h2.output, h2.size, fun k hk => h2.block k hk (by simp)⟩ ?_
    · have e1 : oc (List.replicate n false) = List.replicate n (Value.bool false) := by simp [oc]
      rw [e1]
      have e2 : (madeCells (Value.bool false).cells (n * 1)).toList = List.replicate n (Value.bool false) := by
        rw [Nat.mul_one, show (Value.bool false).cells = #[Value.bool false] from rfl]
        refine List.ext_getElem? fun i => ?_
        simp only [madeCells, List.getElem?_replicate]
        by_cases hi : i < n
        · simp [hi, Nat.mod_one]
        · simp [hi]
      rw [← e2]
      exact h1
    · have := (h1.lt w.heap.size rfl).2
      exact this

theorem oc_set (l : List Bool) (d : Nat) (y : Bool) : (oc l).set d (.bool y) = oc (l.set d y) := by simp [oc, List.map_set]

theorem rowsGo_from : ∀ (cs : List Cl) (p : Option (List UInt8)) (r : List UInt8), r ∈ rowsGo p cs → ∃ c ∈ cs, r = c.row.data.toList
  | [], _, r, h => by simp [rowsGo] at h
  | c :: cs, p, r, h => by
    by_cases hp : p = some c.row.data.toList
    · rw [rowsGo_same hp] at h
      obtain ⟨d, hd, e⟩ := rowsGo_from cs p r h
      exact ⟨d, List.mem_cons_of_mem _ hd, e⟩
    · rw [rowsGo_new hp] at h
      rcases List.mem_cons.1 h with h | h
      · exact ⟨c, List.mem_cons_self .., h⟩
      · obtain ⟨d, hd, e⟩ := rowsGo_from cs _ r h
        exact ⟨d, List.mem_cons_of_mem _ hd, e⟩

set_option maxRecDepth 100000 in
set_option maxHeartbeats 2000000 in
theorem FilterOf_any (v : Value) (cs : List Cl) (w : World) (hv : RdC w v cs) (hl : cs.length ≤ 100000) (hz : ∀ c ∈ cs, c.row.size ≤ 1000000) :
    Calls Try.prog 55 #[v] w fun e w' => ∃ v', e = .returned v' ∧ Rd w' v' (bc (filtB cs)) ∧ Below w.heap.size w w' ∧ New w.heap.size v' := by
  go_enter Try.func55, Try.ntmps55
  go_wp2_with fail
  refine (RowsOf_any _ cs _ hv hl).mono ?_
  rintro e w1 ⟨vr, rfl, hown, hb1⟩
  have har : ∀ r ∈ rowsU cs, r.length ≤ 1000000 := fun r hr => by
    obtain ⟨c, hc, rfl⟩ := rowsGo_from _ _ _ hr
    rw [← ba_size]
    exact hz c hc
  have hrl : (rowsU cs).length ≤ cs.length := rowsGo_len _ _
  have HFB : Hid (filtB cs = filtGo (max (rowsU cs).length 1) (List.replicate (max (rowsU cs).length 1) 0) (rowsU cs)) := hide rfl
  have HAR := hide har
  clear har hz hv
  generalize rowsU cs = rows at *
  have hrl2 : rows.length ≤ 100000 := by omega
  clear hrl hl
  obtain ⟨ro, rcap, hrv⟩ := owns_shape hown
  subst hrv
  have hRr := Rd.ofOwns hown
  obtain ⟨ro', rcap', hrv', hre1, hre2, hrcell⟩ := hRr.open
  rw [sc_length] at hrv' hre1 hrcell
  simp only [Value.slice.injEq, true_and] at hrv'
  obtain ⟨rfl, rfl⟩ := hrv'
  unfold maxLen at hre2
  obtain ⟨m, hm⟩ : ∃ m, max rows.length 1 = m := ⟨_, rfl⟩
  rw [hm] at HFB
  have hm0 : 0 < m := by omega
  have hm1 : m ≤ 100000 := by omega
  have hm2 : rows.length = 0 ∧ m = 1 ∨ rows.length ≠ 0 ∧ m = rows.length := by omega
  clear hm
  go_upto_if 16 with fail
  go_cut [4] (fun x4 wc => x4 = .int .i64 m ∧ w1 = wc)
  case first =>
    rcases hm2 with ⟨h0, h1⟩ | ⟨h0, h1⟩
    · have h0b : ((rows.length : Int) == 0) = true := beq_iff_eq.2 (by omega)
      go_wp2_with fail
      go_meet
      case rel => exact ⟨by rw [h1]; rfl, rfl⟩
    · have h0b : ((rows.length : Int) == 0) = false := beq_eq_false_iff_ne.2 (by omega)
      go_wp2_with fail
      go_meet
      case rel => exact ⟨by rw [h1], rfl⟩
  case rest =>
    obtain ⟨h4, hwc⟩ := hcut
    subst h4 hwc
    obtain ⟨N, hN⟩ : ∃ N, 8 * m = N := ⟨_, rfl⟩
    clear hm2
    go_wp2_with (at_make; go_must (refine wpList_make_false (n := N) (by first | go_num | omega) (by first | go_num | omega) Try.underlying119 Try.info4 rfl rfl rfl rfl (by omega) (Nat.le_refl _) ?_); intro wM hoM hbM hzM)
    have HN := hide hN
    rw [← hN, ← bitsL_zero, hN] at hoM
    go_loopw [6] (fun i wq => ∃ j : Nat, j ≤ rows.length ∧ i = .int .i64 j ∧ wq.ownsRow w1.heap.size 4 1 (.slice (some ⟨w1.heap.size, 0, none⟩) N N) N (oc (bitsL (filtGo m (List.replicate m 0) (rows.take j)))) ∧ Below w1.heap.size w1 wq)
      (fun i _ => rows.length - (intOf i).toNat)
    case atStart => exact ⟨0, by omega, rfl, hoM, hbM⟩
    case round =>
      obtain ⟨j, hj, rfl, hoF, hbF⟩ := hrel
      clear hoM hbM hzM
      by_cases hjl : j < rows.length
      · obtain ⟨rb, roff, rfl, hrb, hrc⟩ := hrcell j hjl
        have hlen := filtGo_len m (rows.take j) (List.replicate m 0)
        rw [List.length_replicate] at hlen
        have hsn : filtGo m (List.replicate m 0) (rows.take (j + 1)) = setR m (filtGo m (List.replicate m 0) (rows.take j)) rows[j] 3 := by
          rw [List.take_succ_eq_append_getElem hjl, filtGo, List.foldl_append]
          rfl
        have hck : wr.cell? ⟨rb, roff + j, none⟩ = some (.string ⟨rows[j].toArray⟩) := (hbF.cell (by exact hrb)).trans (hrc j _ (by simp [sc, hjl]))
        have hrl := HAR.out rows[j] (List.getElem_mem hjl)
        generalize rows[j] = r at *
        generalize filtGo m (List.replicate m 0) (rows.take j) = L at *
        have HS := hide hsn
        have HL := hide hlen
        clear hsn hlen hrc hrcell hRr hown
        have hrs : (⟨r.toArray⟩ : ByteArray).size ≤ 9223372036854775807 := by simp [ByteArray.size]; omega
        have HPL := hide (Bits_any ⟨r.toArray⟩ m wr hm0 (by omega) hrs)
        have hzr := (hoF.lt w1.heap.size rfl).2
        clear hN
        go_wp2_with fail
        refine HPL.out.mono ?_
        rintro e w2 ⟨vb, rfl, hRb, hb2, hnb⟩
        have hRb : Rd w2 vb (ic [(plc r m 0 : Int), (plc r m 1 : Int), (plc r m 2 : Int)]) := hRb
        have hoF1 := owns_below hoF hb2
        have hbF1 : Below w1.heap.size w1 w2 := hbF.trans (hb2.mono hbF.size)
        clear hoF hbF hck hb2 HPL
        obtain ⟨bb, boff, bcap, hvb, hbc1, hbc2, hbb, hbc⟩ := hRb.pos (by simp [ic])
        rw [show (ic [(plc r m 0 : Int), (plc r m 1 : Int), (plc r m 2 : Int)]).length = 3 from rfl] at hvb
        subst hvb
        unfold maxLen at hbc2
        clear hbc
        go_wp2_with fail
        go_loopw [8] (fun i wq => ∃ k : Nat, k ≤ 3 ∧ i = .int .i64 k ∧ wq.ownsRow w1.heap.size 4 1 (.slice (some ⟨w1.heap.size, 0, none⟩) N N) N (oc (bitsL (setR m L r k))) ∧ Rd wq (.slice (some ⟨bb, boff, none⟩) 3 bcap) (ic [(plc r m 0 : Int), (plc r m 1 : Int), (plc r m 2 : Int)]) ∧ Below w1.heap.size w1 wq)
          (fun i _ => 3 - (intOf i).toNat)
        case atStart => exact ⟨0, by omega, rfl, hoF1, hRb, hbF1⟩
        case round =>
          obtain ⟨k, hk3, rfl, hoK, hRk, hbK⟩ := hrel
          clear hoF1 hRb hbF1
          by_cases hk3' : k < 3
          · have hp := plc_lt r k hm0
            have hlK : (setR m L r k).length = m := by rw [setR_len]; exact HL.out
            have hst : bitsL (setR m L r (k + 1)) = (bitsL (setR m L r k)).set (plc r m k) true := by
              rw [setR, bitsL_set (by rw [hlK]; exact hp)]
            have hfz := hoK.frozenAt (plc r m k)
            have hnew := (hoK.stored (plc r m k) (.bool true)).1
            rw [oc_set] at hnew
            obtain ⟨y, hy⟩ : ∃ y, (bitsL (setR m L r k))[plc r m k]? = some y := ⟨_, List.getElem?_eq_getElem (by rw [bitsL_length, hlK]; exact hp)⟩
            have hcx := hoK.cells (g := w1.heap.size) rfl (plc r m k) (.bool y) (by simp [oc, hy])
            rw [Addr.add_lit, Nat.zero_add] at hcx
            have hcb : wr.cell? ⟨bb, boff + k, none⟩ = some (.int .i64 (plc r m k : Int)) := by
              obtain ⟨b', o', c', hv', _, _, _, hc'⟩ := hRk.pos (by simp [ic])
              simp only [Value.slice.injEq, Option.some.injEq, Addr.mk.injEq, and_true] at hv'
              obtain ⟨⟨rfl, rfl⟩, _⟩ := hv'
              refine hc' k _ ?_
              have hpk : k = 0 ∨ k = 1 ∨ k = 2 := by omega
              rcases hpk with rfl | rfl | rfl <;> rfl
            have hp1 : (0 : Int) ≤ (plc r m k : Int) := by omega
            have hp2 : (plc r m k : Int) < (N : Int) := by have := HN.out; omega
            have hk1 : (0 : Int) ≤ (k : Int) := by omega
            have hk2 : (k : Int) < 3 := by omega
            have hRn := hRk.setNew hnb (p := ⟨w1.heap.size, plc r m k, none⟩) hzr (.bool true)
            have HRN := hide hRn
            have HST := hide hst
            have HNEW := hide hnew
            clear hst hnew hy hRn hlK hp
            generalize plc r m k = q at *
            go_wp2_with fail
            go_roundw
            case rel => exact ⟨k + 1, by omega, by go_num, by rw [HST.out]; exact HNEW.out, HRN.out, hbK.setCell (p := ⟨w1.heap.size, q, none⟩) (Nat.le_refl _) _⟩
            case measure => simp [intOf]; omega
          · obtain rfl : k = 3 := by omega
            go_wp2_with fail
            go_roundw
            case rel => exact ⟨j + 1, by omega, by go_num, by rw [HS.out]; exact hoK, hbK⟩
            case measure => simp [intOf]; omega
      · rw [List.take_of_length_le (by omega)] at hoF
        have hlen := filtGo_len m rows (List.replicate m 0)
        rw [List.length_replicate] at hlen
        rw [show filtGo m (List.replicate m 0) rows = filtB cs from HFB.out.symm] at hoF hlen
        generalize hFc : filtB cs = F at *
        have HFC := hide hFc
        clear hFc
        generalize hW2 : wr = w2 at *
        clear hW2
        have hoc := fun (j : Nat) (hj : j < N) => hoF.cells (g := w1.heap.size) rfl j (.bool (bitB F j)) (by simp only [oc, List.getElem?_map]; rw [bitsL_get F j (by rw [hlen, HN.out]; exact hj)]; rfl)
        have hz12 := (hoF.lt w1.heap.size rfl).2
        clear hrcell hRr hown
        go_wp2_with (at_make; go_must (refine wpList_make_zero (n := m) (by first | go_num | omega) (by first | go_num | omega) Try.underlying24 Try.info5 rfl rfl rfl rfl (by omega) (Nat.le_refl _) ?_); intro wO hoO hbO hzO)
        rw [← hlen, ← partF_zero, hlen] at hoO
        have HLEN := hide hlen
        clear hlen
        go_loopw [10] (fun i wq => ∃ j : Nat, j ≤ N ∧ i = .int .i64 j ∧ wq.ownsRow w2.heap.size 5 1 (.slice (some ⟨w2.heap.size, 0, none⟩) m m) m (bc (partF F j)) ∧ Below w2.heap.size w2 wq)
          (fun i _ => N - (intOf i).toNat)
        case atStart => exact ⟨0, by omega, rfl, hoO, hbO⟩
        case round =>
          obtain ⟨j, hjN, rfl, hoP, hbP⟩ := hrel
          by_cases hj' : j < N
          · have hcj := hoc j hj'
            rw [Addr.add_lit, Nat.zero_add] at hcj
            have hcj2 : wr.cell? ⟨w1.heap.size, j, none⟩ = some (.bool (bitB F j)) := (hbP.cell (by exact hz12)).trans hcj
            clear hoc hcj
            have hj1 : (0 : Int) ≤ (j : Int) := by omega
            have hj2 : (j : Int) < (N : Int) := by omega
            have hF8 : j < 8 * F.length := by have := HN.out; have := HLEN.out; omega
            cases hbit : bitB F j
            · rw [hbit] at hcj2
              have HNO := hide (partF_no hF8 hbit)
              clear hbit hF8
              go_wp2_with fail
              go_roundw
              case rel => exact ⟨j + 1, by omega, by go_num, by rw [HNO.out]; exact hoP, hbP⟩
              case measure => simp [intOf]; omega
            · rw [hbit] at hcj2
              obtain ⟨x, hx⟩ : ∃ x, (partF F j)[j / 8]? = some x := ⟨_, List.getElem?_eq_getElem (by rw [partF_len]; omega)⟩
              obtain ⟨hyes, hx256⟩ := partF_yes hF8 hbit hx
              have hcx := hoP.cells (g := w2.heap.size) rfl (j / 8) (.int .u8 (x.toNat : Int)) (by simp [bc, hx])
              rw [Addr.add_lit, Nat.zero_add] at hcx
              have hfz := hoP.frozenAt (j / 8)
              have hnew := (hoP.stored (j / 8) (.int .u8 ((UInt8.ofNat (x.toNat + 2 ^ (j % 8))).toNat : Int))).1
              rw [bc_set, ← hyes] at hnew
              have HNEW := hide hnew
              have hd8 : j / 8 < m := by have := HN.out; omega
              have hr8 : j % 8 < 8 := Nat.mod_lt _ (by decide)
              have hxl := x.toNat_lt
              have hqd : (j : Int) / 8 = ((j / 8 : Nat) : Int) := by omega
              have hqm : (j : Int) % 8 = ((j % 8 : Nat) : Int) := by omega
              have HV : Hid (((x.toNat : Int) + 2 ^ (j % 8)) % 256 = (((UInt8.ofNat (x.toNat + 2 ^ (j % 8))).toNat : Nat) : Int)) := hide (by
                rw [u8_ofNat_toNat _ hx256, show (2 : Int) ^ (j % 8) = ((2 ^ (j % 8) : Nat) : Int) by rw [Int.natCast_pow]; rfl]
                have hx9 := hx256
                generalize (2 ^ (j % 8) : Nat) = P at hx9 ⊢
                omega)
              clear hnew hyes hx hF8 hbit hx256
              have hzF := (hoP.lt w2.heap.size rfl).2
              generalize UInt8.ofNat (x.toNat + 2 ^ (j % 8)) = Y at *
              generalize j / 8 = d at *
              generalize j % 8 = r at *
              go_wp2_with fail
              go_region
              all_goals
                go_wp2_with fail
                go_roundw
                case rel =>
                  rw [HV.out]
                  exact ⟨j + 1, by omega, by go_num, HNEW.out, (hbP.setCell (p := ⟨w2.heap.size, d, none⟩) (Nat.le_refl _) _).drew⟩
                case measure => simp [intOf]; omega
          · have eF : partF F j = F := by rw [show j = 8 * F.length by have := HN.out; have := HLEN.out; omega, partF_all]
            rw [eF] at hoP
            have hz1 := hb1.size
            have hbe : Below w.heap.size w wr := hb1.trans ((hbF.trans (hbP.mono hbF.size)).mono hz1)
            clear hoc
            go_wp2_with fail
            go_ret
            refine ⟨_, rfl, ?_, hbe, (New.owns hoP).mono (by have := hbF.size; omega)⟩
            rw [HFC.out]
            exact Rd.ofOwns hoP

end Go.Proofs.Ytlebbkbbmgmmjac

/-
  The walks over the document's MayBe and BlocksFor.
-/
namespace Go.Proofs.Ytlebbkbbmgmmjac
open Go.RowKit

theorem bit_rem (x r : Nat) : ((x : Int) / 2 ^ r).tmod 2 = if x.testBit r then 1 else 0 := by
  have e : (x : Int) / 2 ^ r = ((x / 2 ^ r : Nat) : Int) := by rw [Int.natCast_ediv, Int.natCast_pow]; rfl
  rw [e, Int.tmod_eq_emod_of_nonneg (Int.natCast_nonneg _), Nat.testBit_eq_decide_div_mod_eq]
  rcases Nat.mod_two_eq_zero_or_one (x / 2 ^ r) with h | h
  · rw [h]; simp; omega
  · rw [h]; simp; omega

set_option maxRecDepth 100000 in
set_option maxHeartbeats 1000000 in
theorem MayBe_any (v : Value) (cs : List Cl) (row : ByteArray) (w : World) (hv : RdC w v cs) (hl : cs.length ≤ 100000) (hz : ∀ c ∈ cs, c.row.size ≤ 1000000) (hrow : row.size ≤ 9223372036854775807) :
    Calls Try.prog 26 #[v, .string row] w fun e w' => e = .returned (.bool (hasB (filtB cs) row.data.toList)) ∧ Below w.heap.size w w' := by
  have hn1 : 0 < (filtB cs).length := by rw [filtB_len]; exact filtN_pos cs
  have hn2 : (filtB cs).length ≤ 1000000 := by rw [filtB_len]; have := rowsGo_len cs none; unfold filtN rowsU; omega
  have HFO := hide (FilterOf_any v cs w hv hl hz)
  generalize filtB cs = fl at *
  clear hv hl hz
  go_enter Try.func26, Try.ntmps26
  go_wp2_with fail
  refine HFO.out.mono ?_
  rintro e w1 ⟨v1, rfl, hF, hb1, _⟩
  obtain ⟨fo, fcap, hvf, _, _⟩ := hF.shape
  rw [bc_length] at hvf
  subst hvf
  go_wp2_with fail
  refine (Bits_any row fl.length _ hn1 hn2 hrow).mono ?_
  rintro e w2 ⟨v2, rfl, hB, hb2, _⟩
  have hF2 := hF.below hb2
  have hbw2 : Below w.heap.size w w2 := hb1.trans (hb2.mono hb1.size)
  clear hF hb1 hb2 HFO
  obtain ⟨b, off, fc, hv1, hc1, hc2, hbb, hcell⟩ := hF2.pos (by rw [bc_length]; exact hn1)
  rw [bc_length] at hv1 hc1
  simp only [Value.slice.injEq, true_and] at hv1
  obtain ⟨rfl, rfl⟩ := hv1
  unfold maxLen at hc2
  obtain ⟨pb, poff, pc, hvp, hp1, hp2, hpb, hpc⟩ := hB.pos (by simp [ic])
  rw [show (ic [(plc row.data.toList fl.length 0 : Int), (plc row.data.toList fl.length 1 : Int), (plc row.data.toList fl.length 2 : Int)]).length = 3 from rfl] at hvp
  subst hvp
  unfold maxLen at hp2
  generalize hRw : row.data.toList = R at *
  have HRW := hide hRw
  clear hRw
  go_wp2_with fail
  go_loopw [7] (fun i wr => ∃ k : Nat, k ≤ 3 ∧ i = .int .i64 k ∧ hasGo fl R k = true ∧ Below w2.heap.size w2 wr) (fun i _ => 3 - (intOf i).toNat)
  case atStart => exact ⟨0, by omega, rfl, rfl, Below.refl _ _⟩
  case round =>
    obtain ⟨k, hk, rfl, hgo, hbel⟩ := hrel
    have HG := hide hgo
    clear hgo
    have hbw : Below w.heap.size w wr := hbw2.trans (hbel.mono hbw2.size)
    by_cases hk3 : k < 3
    · have hp := plc_lt R k hn1
      have hst : hasGo fl R (k + 1) = (hasGo fl R k && bitB fl (plc R fl.length k)) := rfl
      rw [HG.out, Bool.true_and] at hst
      obtain ⟨x, hx⟩ : ∃ x, fl[plc R fl.length k / 8]? = some x := ⟨_, List.getElem?_eq_getElem (by omega)⟩
      have hbit : bitB fl (plc R fl.length k) = x.toNat.testBit (plc R fl.length k % 8) := by unfold bitB; rw [List.getD_eq_getElem?_getD, hx]; rfl
      have hck : wr.cell? ⟨b, off + plc R fl.length k / 8, none⟩ = some (.int .u8 (x.toNat : Int)) := (hbel.cell (by exact hbb)).trans (hcell _ _ (by simp [bc, hx]))
      have hcp : wr.cell? ⟨pb, poff + k, none⟩ = some (.int .i64 (plc R fl.length k : Int)) := by
        refine (hbel.cell (by exact hpb)).trans (hpc k _ ?_)
        have hpk : k = 0 ∨ k = 1 ∨ k = 2 := by omega
        rcases hpk with rfl | rfl | rfl <;> rfl
      rw [hbit] at hst
      have hfalse : x.toNat.testBit (plc R fl.length k % 8) = false → hasB fl R = false := fun h => by
        unfold hasB
        have h3 : ∀ j, k + 1 ≤ j → hasGo fl R j = false := fun j hj => by
          induction j with
          | zero => omega
          | succ j ih =>
            by_cases e : j = k
            · subst e; rw [hst, h]
            · rw [hasGo, ih (by omega), Bool.false_and]
        exact h3 3 (by omega)
      have hbs := bit_rem x.toNat (plc R fl.length k % 8)
      have HST := hide hst
      have HF := hide hfalse
      have hr8 : plc R fl.length k % 8 < 8 := Nat.mod_lt _ (by decide)
      have hd8 : plc R fl.length k / 8 < fl.length := by omega
      clear hst hfalse hbit hx hcell hpc
      generalize hq : plc R fl.length k = q at *
      have hqd : (q : Int) / 8 = ((q / 8 : Nat) : Int) := by omega
      have hqm : (q : Int) % 8 = ((q % 8 : Nat) : Int) := by omega
      have HQ := hide hq
      clear hq
      generalize q / 8 = d at *
      generalize q % 8 = r at *
      have hk1 : (0 : Int) ≤ (k : Int) := by omega
      have hk2 : (k : Int) < 3 := by omega
      have hd1 : (0 : Int) ≤ (d : Int) := by omega
      have hd2 : (d : Int) < (fl.length : Int) := by omega
      cases ht : x.toNat.testBit r
      · rw [ht] at hbs
        simp only [Bool.false_eq_true, if_false] at hbs
        have HH := hide (HF.out ht)
        go_wp2_with fail
        go_quiet (fail)
        go_wp2_with fail
        go_ret
        exact ⟨by rw [HRW.out, HH.out]; rfl, below_drewN hbw _⟩
      · rw [ht] at hbs
        simp only [if_true] at hbs
        have HH := hide (HST.out.trans ht)
        clear HST HF
        go_wp2_with fail
        go_quiet (fail)
        go_wp2_with fail
        go_roundw
        case rel => exact ⟨k + 1, by omega, by go_num, HH.out, below_drewN hbel _⟩
        case measure => simp [intOf]; omega
    · obtain rfl : k = 3 := by omega
      go_wp2_with fail
      go_ret
      exact ⟨by unfold hasB; rw [HRW.out, HG.out]; rfl, hbw⟩

theorem heads_get {gs : List (List Cl)} {k : Nat} {c : Cl} {l : List Cl} (h : gs[k]? = some (c :: l)) : (headsB gs)[k]? = some c.row.data.toList := by
  unfold headsB
  rw [List.getElem?_map, h]
  rfl

set_option maxRecDepth 100000 in
set_option maxHeartbeats 1000000 in
theorem BlocksFor_any (v u : Value) (gs : List (List Cl)) (row : ByteArray) (w : World) (hv : RdC w v gs.flatten) (hu : Rd w u (ic (gs.map fun g => (g.length : Int)))) (hp : gs.flatten.Pairwise Lt) (hn : ∀ g ∈ gs, g ≠ []) :
    Calls Try.prog 27 #[v, u, .string row] w fun e w' => e = .returned (.int .i64 (toReadN (headsB gs) row.toList)) ∧ w' = w := by
  obtain ⟨ao, cap, hvv, hc1, hc2⟩ := hv.shape
  subst hvv
  unfold maxLen at hc2
  obtain ⟨uo, ucap, huv, hd1, hd2, hucell⟩ := hu.open
  rw [ic_length, List.length_map] at huv hd1 hucell
  subst huv
  unfold maxLen at hd2
  have HRISE := hide (heads_rise hp hn)
  have HN := hide hn
  clear hp hn
  generalize hF : gs.flatten = F at *
  have HF := hide hF
  clear hF
  go_enter Try.func27, Try.ntmps27
  go_wp2_with fail
  go_loopw [7, 8, 9, 10] (fun f t a i wr => ∃ x y z k : Nat, k ≤ gs.length ∧ x ≤ k ∧ y ≤ k ∧ lessN ((headsB gs).take k) row.toList - 1 = x ∧ leN ((headsB gs).take k) row.toList = y ∧ (gs.take k).flatten.length = z ∧ f = .int .i64 x ∧ t = .int .i64 y ∧ a = .int .i64 z ∧ i = .int .i64 k ∧ wr = w) (fun _ _ _ i _ => gs.length - (intOf i).toNat)
  case atStart => exact ⟨0, 0, 0, 0, by omega, by omega, by omega, rfl, rfl, rfl, rfl, rfl, rfl, rfl, rfl⟩
  case round =>
    obtain ⟨x, y, z, k, hk, hx, hy, hlx, hly, hlz, rfl, rfl, rfl, rfl, rfl⟩ := hrel
    have HX := hide hlx
    have HY := hide hly
    have HZ := hide hlz
    clear hlx hly hlz
    by_cases hlt : k < gs.length
    · obtain ⟨g, hg⟩ : ∃ g, gs[k]? = some g := ⟨_, List.getElem?_eq_getElem hlt⟩
      cases g with
      | nil => exact absurd rfl (HN.out [] (List.mem_of_getElem? hg))
      | cons c l =>
        have hfa := flat_at hg
        rw [HZ.out, HF.out] at hfa
        have hzl := (List.getElem?_eq_some_iff.1 hfa).1
        obtain ⟨b, off, rfl, hbb, hat⟩ := hv.hereD hfa
        obtain ⟨c0, c1, c2, c3, c4⟩ := hat
        obtain ⟨ub, uoff, rfl, hub, huc⟩ := hucell k hlt
        have hck : wr.cell? ⟨ub, uoff + k, none⟩ = some (.int .i64 ((c :: l).length : Int)) := huc k _ (by simp [ic, hg])
        have hhg := heads_get hg
        have hs1 := lessN_step (row := row.toList) hhg
        have hs2 := leN_step (row := row.toList) hhg
        have hf1 := @lessN_full (headsB gs) row.toList _ k HRISE.out hhg
        have hf2 := @leN_full (headsB gs) row.toList _ k HRISE.out hhg
        rw [← ba_list] at hs1 hs2 hf1 hf2
        have hsz : (gs.take (k + 1)).flatten.length = z + (c :: l).length := by
          rw [List.take_add_one, hg, List.flatten_append, List.length_append, HZ.out]
          simp
        have HSZ := hide hsz
        have hzl2 : z + (c :: l).length ≤ F.length := by
          rw [← hsz, ← HF.out]
          have e : gs.flatten = (gs.take (k + 1)).flatten ++ (gs.drop (k + 1)).flatten := by rw [← List.flatten_append, List.take_append_drop]
          rw [e, List.length_append]
          omega
        rw [HY.out] at hs2
        have HXO := HX.out
        generalize (c :: l).length = gl at *
        generalize lessN ((headsB gs).take k) row.toList = ln at *
        generalize leN ((headsB gs).take k) row.toList = yn at *
        have hyn : yn = y := HY.out
        clear hucell huc hhg hsz hfa
        have hz1 : (0 : Int) ≤ (z : Int) := by omega
        have hz2 : (z : Int) < (F.length : Int) := by omega
        have hall : (Op.bytesLess c.row.toList row.toList = true ∧ Op.bytesLess row.toList c.row.toList = false ∧ (c.row.toList == row.toList) = false ∧ lessN ((headsB gs).take (k + 1)) row.toList - 1 = k ∧ leN ((headsB gs).take (k + 1)) row.toList = k + 1) ∨ (Op.bytesLess c.row.toList row.toList = false ∧ Op.bytesLess row.toList c.row.toList = false ∧ (c.row.toList == row.toList) = true ∧ lessN ((headsB gs).take (k + 1)) row.toList - 1 = x ∧ leN ((headsB gs).take (k + 1)) row.toList = k + 1) ∨ (Op.bytesLess c.row.toList row.toList = false ∧ Op.bytesLess row.toList c.row.toList = true ∧ (c.row.toList == row.toList) = false ∧ lessN ((headsB gs).take (k + 1)) row.toList - 1 = x ∧ leN ((headsB gs).take (k + 1)) row.toList = y) := by
          unfold bl at hs1 hs2 hf1 hf2
          rcases three c.row.toList row.toList with ⟨hb1, hb2, hb3⟩ | ⟨hb1, hb2, hb3⟩ | ⟨hb1, hb2, hb3⟩
          · left
            have e1 := hf1 hb1
            have e2 := hf2 hb2
            rw [hb1] at hs1
            rw [hb2] at hs2
            simp only [Bool.false_eq_true, if_false, if_true] at hs1 hs2
            exact ⟨hb1, hb2, hb3, by omega, by omega⟩
          · right; left
            have e2 := hf2 hb2
            rw [hb1] at hs1
            rw [hb2] at hs2
            simp only [Bool.false_eq_true, if_false] at hs1 hs2
            exact ⟨hb1, hb2, hb3, by omega, by omega⟩
          · right; right
            rw [hb1] at hs1
            rw [hb2] at hs2
            simp only [Bool.false_eq_true, if_false, if_true] at hs1 hs2
            exact ⟨hb1, hb2, hb3, by omega, by omega⟩
        clear hs1 hs2 hf1 hf2 HX HY HXO hyn hg
        rcases hall with ⟨hb1, hb2, hb3, e1, e2⟩ | ⟨hb1, hb2, hb3, e1, e2⟩ | ⟨hb1, hb2, hb3, e1, e2⟩
        all_goals
          have E1 := hide e1
          have E2 := hide e2
          clear e1 e2
          go_wp2_with fail
          go_roundw
          case rel => exact ⟨_, _, _, k + 1, by omega, by omega, by omega, E1.out, E2.out, HSZ.out, by go_num, by go_num, by go_num, by go_num, by first | rfl | trivial⟩
          case measure => simp [intOf]; omega
    · have hhl : (headsB gs).length = gs.length := by simp [headsB]
      rw [List.take_of_length_le (by omega)] at HX HY
      have HT : Hid (toReadN (headsB gs) row.toList = (y : Int) - (x : Int)) := hide (by unfold toReadN; rw [HX.out, HY.out])
      clear hhl
      go_wp2_with fail
      go_ret
      refine ⟨?_, rfl⟩
      rw [HT.out]
      rfl

end Go.Proofs.Ytlebbkbbmgmmjac

/-
  The walks over the document's bytes of cells: CellBytes.
-/
namespace Go.Proofs.Ytlebbkbbmgmmjac
open Go.RowKit

theorem WrittenS_own (s : ByteArray) (w : World) (hs : s.data.toList.length ≤ 1000000000) :
    Calls Try.prog 53 #[.string s] w fun e w' => ∃ v', e = .returned v' ∧ w'.ownsRow w.heap.size 5 1 v' (txB s).length (bc (txB s)) ∧ Below w.heap.size w w' := by
  have h := Written_own s.data.toList w hs
  rw [ba_data] at h
  exact h

theorem owns_base' {w : World} {base base' : Nat} {e : TypeId} {size : Nat} {v : Value} {n : Nat} {xs : List Value} (h : w.ownsRow base' e size v n xs) (hb : base ≤ base') : w.ownsRow base e size v n xs := by
  refine ⟨h.1, ?_⟩
  rcases h.2 with hn | ⟨g, cap, cur, hv, hg, r⟩
  · exact .inl hn
  · exact .inr ⟨g, cap, cur, hv, Nat.le_trans hb hg, r⟩

theorem txB_len (s : ByteArray) : (txB s).length ≤ 10 + s.data.toList.length := by
  unfold txB
  rw [List.length_append]
  have := encN_length s.data.toList.length
  omega

set_option maxRecDepth 100000 in
set_option maxHeartbeats 1000000 in
theorem CellBytes_any (c : Cl) (w : World) (hc : codeC c = 0) :
    Calls Try.prog 52 #[cA c] w fun e w' => ∃ v', e = .returned v' ∧ Rd w' v' (bc (cellB c)) ∧ Below w.heap.size w w' ∧ New w.heap.size v' := by
  obtain ⟨_, h1, h2, h3, h4, h5⟩ := codeC_parts hc
  have l1 := txB_len c.row
  have l2 := txB_len c.col
  have l3 := txB_len c.val
  obtain ⟨m, hm⟩ := Int.eq_ofNat_of_zero_le h4
  have l4 := encN_length m
  have HM : Hid (c.time.toNat = m) := hide (by rw [hm]; simp)
  have HMT := hide hm
  have hm9 : (m : Int) ≤ 1000000000 := by omega
  have hgn : c.gone = true ∧ encN (goneN c) = [UInt8.ofNat 1] ∨ c.gone = false ∧ encN (goneN c) = [UInt8.ofNat 0] := by unfold goneN; cases c.gone <;> simp <;> rfl
  have HEE : Hid (cellB c = txB c.row ++ (txB c.col ++ (encN c.time.toNat ++ (encN (goneN c) ++ txB c.val)))) := hide rfl
  clear hm hc h4 h5
  unfold cA
  go_enter Try.func52, Try.ntmps52
  go_wp2_with fail
  have hB0 : Bk (w.alloc (.cells #[.string c.row, .string c.col, .int .i64 c.time, .bool c.gone, .string c.val] 53)) w.heap.size 53 (ca c) := Bk.new _ _ _
  have hb0 : Below w.heap.size w (w.alloc (.cells #[.string c.row, .string c.col, .int .i64 c.time, .bool c.gone, .string c.val] 53)) := below_alloc' _ _
  have hz0 : (w.alloc (.cells #[.string c.row, .string c.col, .int .i64 c.time, .bool c.gone, .string c.val] 53)).heap.size = w.heap.size + 1 := by simp
  generalize w.alloc (.cells #[.string c.row, .string c.col, .int .i64 c.time, .bool c.gone, .string c.val] 53) = wA at *
  have hkeep : ∀ W, Below wA.heap.size wA W → W.cell? ⟨w.heap.size, 0, none⟩ = some (.string c.row) ∧ W.cell? ⟨w.heap.size, 1, none⟩ = some (.string c.col) ∧ W.cell? ⟨w.heap.size, 2, none⟩ = some (.int .i64 c.time) ∧ W.cell? ⟨w.heap.size, 3, none⟩ = some (.bool c.gone) ∧ W.cell? ⟨w.heap.size, 4, none⟩ = some (.string c.val) := fun W h => (hB0.below h (by omega)).facts
  have HK := hide hkeep
  obtain ⟨c0, c1, c2, c3, c4⟩ := hkeep wA (Below.refl _ _)
  have hl1 : c.row.data.toList.length ≤ 1000000000 := by omega
  have hl2 : c.col.data.toList.length ≤ 1000000000 := by omega
  have hl3 : (txB c.row).length + (bc (txB c.col)).length ≤ 2000000000000 := by rw [bc_length]; omega
  clear hkeep
  go_region_held3 (fun W => W.cell? ⟨w.heap.size, 0, none⟩ = some (.string c.row) ∧ W.cell? ⟨w.heap.size, 1, none⟩ = some (.string c.col)) (exact ⟨(HK.out _ (by go_grown)).1, (HK.out _ (by go_grown)).2.1⟩) (first
    | (go_at_call 53; refine (WrittenS_own c.row _ hl1).mono ?_; rintro e w1 ⟨v1, rfl, ho1, hb1⟩; have hx1 : Below wA.heap.size wA w1 := Below.trans (by go_grown) hb1; obtain ⟨ao1, cap1, hv1⟩ := owns_shape ho1; subst hv1)
    | (go_at_call 53; refine (WrittenS_own c.col _ hl2).mono ?_; rintro e w2 ⟨v2, rfl, ho2, hb2⟩; have hx2 : Below wA.heap.size wA w2 := Below.trans (by go_grown) (hb2.mono hx1.size); have hq1 := owns_below ho1 hb2; obtain ⟨ao2, cap2, hv2⟩ := owns_shape ho2; subst hv2)
    | (have k9 := hq1; refine step_append_rd k9 (Rd.ofOwns ho2) Try.underlying24 Try.info5 rfl (by rfl) (by rfl) (by rfl) (by rfl) (bc_one _) hl3 (by decide) (by exact hx2.size) ?_; intro v3 w3 ho3 hb3 hg3; have hx3 : Below wA.heap.size wA w3 := hx2.trans hb3; rw [bc_length, ← bc_append, ← List.length_append] at ho3))
  all_goals
    have ho3' : w3.ownsRow wA.heap.size 5 1 v3 (txB c.row ++ txB c.col).length (bc (txB c.row ++ txB c.col)) := ho3
    have hz3 := hx3.size
    clear ho3 hq1 ho1 ho2 hb1 hb2 hx1 hx2 hb3 hg3
    obtain ⟨c0, c1, c2, c3, c4⟩ := HK.out w3 hx3
    have hl4 : (txB c.row ++ txB c.col).length + (bc (encN m)).length ≤ 2000000000000 := by rw [bc_length, List.length_append]; omega
    go_wp2_with fail
    rw [HMT.out]
    refine (Number_any m _ (by omega)).mono ?_
    rintro e w4 ⟨v4, rfl, hr4, hb4, _⟩
    have hx4 : Below wA.heap.size wA w4 := hx3.trans (hb4.mono hz3)
    have ho4 := owns_below ho3' hb4
    have hz4 := hx4.size
    clear ho3' c0 c1 c2 c3 c4
    obtain ⟨ao4, cap4, hv4, _, _⟩ := hr4.shape
    subst hv4
    go_upto_region 3 with (at_builtin; go_must (refine wpList_append_rd ho4 hr4 Try.underlying24 Try.info5 rfl rfl rfl rfl rfl (bc_one _) hl4 (by decide) hz4 ?_); intro v5 w5 ho5 hb5 hg5; clear hg5)
    rw [bc_length, ← bc_append, ← List.length_append] at ho5
    have hx5 := hx4.trans hb5
    have hz5 := hx5.size
    obtain ⟨c0, c1, c2, c3, c4⟩ := HK.out w5 hx5
    have hl5 : (txB c.row ++ txB c.col ++ encN m).length ≤ 1000000000000 := by simp only [List.length_append]; omega
    rcases hgn with ⟨hg, hgn⟩ | ⟨hg, hgn⟩
    · rw [hg] at c3
      have HGN := hide hgn
      clear hgn ho4 hb4 hb5
      go_upto_region 6 with (at_builtin; go_must (refine wpList_append_one ho5 Try.underlying24 Try.info5 rfl rfl rfl rfl rfl rfl hl5 (by decide) hz5 ?_); intro v6 w6 ho6 hb6 hg6; clear hg6)
      rw [bc_snoc _ 1 (by omega) 1 rfl, show (txB c.row ++ txB c.col ++ encN m).length + 1 = (txB c.row ++ txB c.col ++ encN m ++ [UInt8.ofNat 1]).length by simp only [List.length_append, List.length_singleton]] at ho6
      have hx6 := hx5.trans hb6
      have hz6 := hx6.size
      clear c0 c1 c2 c3 c4
      obtain ⟨c0, c1, c2, c3, c4⟩ := HK.out w6 hx6
      go_wp2_with fail
      refine (WrittenS_own c.val _ (by omega)).mono ?_
      rintro e w7 ⟨v7, rfl, ho7, hb7⟩
      have hx7 : Below wA.heap.size wA w7 := hx6.trans (hb7.mono hz6)
      have hq6 := owns_below ho6 hb7
      have hz7 := hx7.size
      have hl6 : (txB c.row ++ txB c.col ++ encN m ++ [UInt8.ofNat 1]).length + (bc (txB c.val)).length ≤ 2000000000000 := by rw [bc_length]; simp only [List.length_append, List.length_singleton]; omega
      obtain ⟨ao7, cap7, hv7⟩ := owns_shape ho7
      subst hv7
      go_wp2_with (at_builtin; go_must (refine wpList_append_rd hq6 (Rd.ofOwns ho7) Try.underlying24 Try.info5 rfl rfl rfl rfl rfl (bc_one _) hl6 (by decide) hz7 ?_); intro v8 w8 ho8 hb8 hg8; clear hg8)
      rw [bc_length, ← bc_append, ← List.length_append] at ho8
      go_ret
      refine ⟨v8, rfl, ?_, hb0.trans ((hx7.trans hb8).mono (by omega)), (New.owns ho8).mono (by omega)⟩
      rw [HEE.out, HM.out, HGN.out]
      have := Rd.ofOwns ho8
      simpa only [List.append_assoc] using this
    · rw [hg] at c3
      have HGN := hide hgn
      clear hgn ho4 hb4 hb5
      go_upto_region 6 with (at_builtin; go_must (refine wpList_append_one ho5 Try.underlying24 Try.info5 rfl rfl rfl rfl rfl rfl hl5 (by decide) hz5 ?_); intro v6 w6 ho6 hb6 hg6; clear hg6)
      rw [bc_snoc _ 0 (by omega) 0 rfl, show (txB c.row ++ txB c.col ++ encN m).length + 1 = (txB c.row ++ txB c.col ++ encN m ++ [UInt8.ofNat 0]).length by simp only [List.length_append, List.length_singleton]] at ho6
      have hx6 := hx5.trans hb6
      have hz6 := hx6.size
      clear c0 c1 c2 c3 c4
      obtain ⟨c0, c1, c2, c3, c4⟩ := HK.out w6 hx6
      go_wp2_with fail
      refine (WrittenS_own c.val _ (by omega)).mono ?_
      rintro e w7 ⟨v7, rfl, ho7, hb7⟩
      have hx7 : Below wA.heap.size wA w7 := hx6.trans (hb7.mono hz6)
      have hq6 := owns_below ho6 hb7
      have hz7 := hx7.size
      have hl6 : (txB c.row ++ txB c.col ++ encN m ++ [UInt8.ofNat 0]).length + (bc (txB c.val)).length ≤ 2000000000000 := by rw [bc_length]; simp only [List.length_append, List.length_singleton]; omega
      obtain ⟨ao7, cap7, hv7⟩ := owns_shape ho7
      subst hv7
      go_wp2_with (at_builtin; go_must (refine wpList_append_rd hq6 (Rd.ofOwns ho7) Try.underlying24 Try.info5 rfl rfl rfl rfl rfl (bc_one _) hl6 (by decide) hz7 ?_); intro v8 w8 ho8 hb8 hg8; clear hg8)
      rw [bc_length, ← bc_append, ← List.length_append] at ho8
      go_ret
      refine ⟨v8, rfl, ?_, hb0.trans ((hx7.trans hb8).mono (by omega)), (New.owns ho8).mono (by omega)⟩
      rw [HEE.out, HM.out, HGN.out]
      have := Rd.ofOwns ho8
      simpa only [List.append_assoc] using this

end Go.Proofs.Ytlebbkbbmgmmjac

/-
  The walks over the document's reading of cells: CellAt.
-/
namespace Go.Proofs.Ytlebbkbbmgmmjac
open Go.RowKit

/-- What CellAt has read, from one of the five on. -/
def refAt (bs : List UInt8) : Nat → Nat → List (List UInt8) → List Int → Nat → Option (List (List UInt8) × List Int × Nat)
  | 0, _, ps, ns, a => some (ps, ns, a)
  | f + 1, i, ps, ns, a => match numAt (bs.drop a) with
    | none => none
    | some (n, k) => if i = 2 ∨ i = 3 then refAt bs f (i + 1) ps (ns ++ [(n : Int)]) (a + k)
      else if bs.length < a + k + n then none else refAt bs f (i + 1) (ps ++ [(bs.drop (a + k)).take n]) ns (a + k + n)

theorem refAt_none {bs : List UInt8} {f i a : Nat} {ps : List (List UInt8)} {ns : List Int} (h : numAt (bs.drop a) = none) : refAt bs (f + 1) i ps ns a = none := by rw [refAt, h]
theorem refAt_n {bs : List UInt8} {f i a n k : Nat} {ps : List (List UInt8)} {ns : List Int} (h : numAt (bs.drop a) = some (n, k)) (hi : i = 2 ∨ i = 3) : refAt bs (f + 1) i ps ns a = refAt bs f (i + 1) ps (ns ++ [(n : Int)]) (a + k) := by rw [refAt, h]; simp only; rw [if_pos hi]
theorem refAt_long {bs : List UInt8} {f i a n k : Nat} {ps : List (List UInt8)} {ns : List Int} (h : numAt (bs.drop a) = some (n, k)) (hi : ¬ (i = 2 ∨ i = 3)) (hl : bs.length < a + k + n) : refAt bs (f + 1) i ps ns a = none := by rw [refAt, h]; simp only; rw [if_neg hi, if_pos hl]
theorem refAt_s {bs : List UInt8} {f i a n k : Nat} {ps : List (List UInt8)} {ns : List Int} (h : numAt (bs.drop a) = some (n, k)) (hi : ¬ (i = 2 ∨ i = 3)) (hl : ¬ bs.length < a + k + n) : refAt bs (f + 1) i ps ns a = refAt bs f (i + 1) (ps ++ [(bs.drop (a + k)).take n]) ns (a + k + n) := by rw [refAt, h]; simp only; rw [if_neg hi, if_neg hl]

theorem refAt_text {bs : List UInt8} {f i a : Nat} {ps : List (List UInt8)} {ns : List Int} (hi : ¬ (i = 2 ∨ i = 3)) : refAt bs (f + 1) i ps ns a = match textAt (bs.drop a) with
    | none => none
    | some (t, m) => refAt bs f (i + 1) (ps ++ [t]) ns (a + m) := by
  cases h : numAt (bs.drop a) with
  | none => rw [refAt_none h, textAt_no h]
  | some p =>
    obtain ⟨n, k⟩ := p
    have hl := numAt_len h
    rw [List.length_drop] at hl
    by_cases hg : bs.length < a + k + n
    · rw [refAt_long h hi hg, textAt_long h (by rw [List.length_drop]; omega)]
    · rw [refAt_s h hi hg, textAt_fits h (by rw [List.length_drop]; omega)]
      simp only [List.drop_drop, Nat.add_assoc]

theorem refAt_num {bs : List UInt8} {f i a : Nat} {ps : List (List UInt8)} {ns : List Int} (hi : i = 2 ∨ i = 3) : refAt bs (f + 1) i ps ns a = match numAt (bs.drop a) with
    | none => none
    | some (n, k) => refAt bs f (i + 1) ps (ns ++ [(n : Int)]) (a + k) := by
  cases h : numAt (bs.drop a) with
  | none => rw [refAt_none h]
  | some p => rw [refAt_n h hi]

/-- What CellAt has read in the end is the cell as it is written. -/
theorem refAt_raw (bs : List UInt8) : (refAt bs 5 0 [] [] 0 = none → rawAt bs = none) ∧ ∀ ps ns a, refAt bs 5 0 [] [] 0 = some (ps, ns, a) → ∃ (r c v : List UInt8) (t g : Nat), ps = [r, c, v] ∧ ns = [(t : Int), (g : Int)] ∧ t ≤ 1000000000 ∧ g ≤ 1000000000 ∧ (1 < g → rawAt bs = none) ∧ (¬ 1 < g → rawAt bs = some (⟨⟨r.toArray⟩, ⟨c.toArray⟩, (t : Int), g == 1, ⟨v.toArray⟩⟩, a)) := by
  rw [refAt_text (by decide), List.drop_zero]
  cases h1 : textAt bs with
  | none => exact ⟨fun _ => rawAt_1 h1, fun _ _ _ h => by simp at h⟩
  | some p1 =>
    obtain ⟨r, k1⟩ := p1
    simp only
    rw [refAt_text (by decide)]
    simp only [Nat.zero_add]
    cases h2 : textAt (bs.drop k1) with
    | none => exact ⟨fun _ => rawAt_2 h1 h2, fun _ _ _ h => by simp at h⟩
    | some p2 =>
      obtain ⟨c, k2⟩ := p2
      simp only
      rw [refAt_num (by decide)]
      cases h3 : numAt (bs.drop (k1 + k2)) with
      | none => exact ⟨fun _ => rawAt_3 h1 h2 h3, fun _ _ _ h => by simp at h⟩
      | some p3 =>
        obtain ⟨t, k3⟩ := p3
        simp only
        rw [refAt_num (by decide)]
        cases h4 : numAt (bs.drop (k1 + k2 + k3)) with
        | none => exact ⟨fun _ => rawAt_4 h1 h2 h3 h4, fun _ _ _ h => by simp at h⟩
        | some p4 =>
          obtain ⟨g, k4⟩ := p4
          simp only
          rw [refAt_text (by decide)]
          cases h5 : textAt (bs.drop (k1 + k2 + k3 + k4)) with
          | none => exact ⟨fun _ => rawAt_6 h1 h2 h3 h4 h5, fun _ _ _ h => by simp at h⟩
          | some p5 =>
            obtain ⟨v, k5⟩ := p5
            refine ⟨fun h => by simp [refAt] at h, fun ps ns a h => ?_⟩
            simp only [refAt, Option.some.injEq, Prod.mk.injEq] at h
            obtain ⟨rfl, rfl, rfl⟩ := h
            exact ⟨r, c, v, t, g, rfl, rfl, (numAt_len h3).2.2, (numAt_len h4).2.2, fun hg => rawAt_5 h1 h2 h3 h4 hg, fun hg => rawAt_ok h1 h2 h3 h4 hg h5⟩

/-- What CellAt answers. -/
def catV : Option (Cl × Nat) → Value
  | none => .tuple #[cA zeroC, .int .i64 0]
  | some (c, k) => .tuple #[cA c, .int .i64 k]

theorem natV_some {n k : Nat} : natV (some (n, k)) = .tuple #[.int .i64 n, .int .i64 k] := rfl
theorem natV_none : natV none = .tuple #[.int .i64 0, .int .i64 0] := rfl

theorem zero5_later {w wr : World} {t : TypeId} (h : Below (w.heap.size + 1) (w.alloc (.cells #[.string ⟨#[]⟩, .string ⟨#[]⟩, .int .i64 0, .bool false, .string ⟨#[]⟩] t)) wr) : Bk wr w.heap.size t (ca zeroC) :=
  (Bk.new w t (ca zeroC)).below h (by omega)

set_option maxRecDepth 100000 in
set_option maxHeartbeats 1000000 in
theorem CellAt_any (v : Value) (bs : List UInt8) (w : World) (hrd : Rd w v (bc bs)) (hbl : bs.length ≤ 100000) :
    Calls Try.prog 86 #[v] w fun e w' => e = .returned (catV (cellAt bs)) ∧ Below w.heap.size w w' := by
  obtain ⟨ao, cap, hv, hc1, hc2⟩ := hrd.shape
  rw [bc_length] at hc1 hv
  subst hv
  unfold maxLen at hc2
  have HR1 := hide (refAt_raw bs).1
  have HR2 := hide (refAt_raw bs).2
  go_enter Try.func86, Try.ntmps86
  go_wp2_with fail
  go_loopw [4, 5, 6, 7] (fun p n va vi wr => ∃ (f i a : Nat) (ps : List (List UInt8)) (ns : List Int), i + f = 5 ∧ vi = .int .i64 i ∧ va = .int .i64 a ∧ a ≤ bs.length ∧ refAt bs f i ps ns a = refAt bs 5 0 [] [] 0 ∧ ps.length + ns.length = i ∧ wr.ownsRow (w.heap.size + 1) 9 1 p ps.length (sc ps) ∧ wr.ownsRow (w.heap.size + 1) 3 1 n ns.length (ic ns) ∧ Below (w.heap.size + 1) (w.alloc (.cells #[.string ⟨#[]⟩, .string ⟨#[]⟩, .int .i64 0, .bool false, .string ⟨#[]⟩] 53)) wr)
    (fun _ _ _ vi _ => 5 - (intOf vi).toNat)
  case atStart => exact ⟨5, 0, 0, [], [], rfl, rfl, rfl, by omega, rfl, rfl, World.ownsRow_nil _ _ _ _, World.ownsRow_nil _ _ _ _, Below.refl _ _⟩
  case round =>
    obtain ⟨f, i, a, ps, ns, hfi, rfl, rfl, ha, hgo, hpn, hop, hon, hbel⟩ := hrel
    have HG := hide hgo
    clear hgo
    have hbf := below_first hbel
    have hrd1 := hrd.below hbf
    have hB := zero5_later hbel
    have hszB := hB.lt
    by_cases hi5 : i < 5
    · obtain ⟨f', rfl⟩ : ∃ f', f = f' + 1 := ⟨f - 1, by omega⟩
      have hsl := run_slice_from (P := Try.prog) Try.underlying24 (by kernel_rfl) Try.info5 ao bs.length cap a a rfl ha
      have hV := hrd1.from (lo := a) ha
      rw [bc_drop] at hV
      generalize sliced ao a bs.length cap 1 = V at hV hsl
      go_wp2_with fail
      refine (NumberAt_any V _ _ hV).mono ?_
      rintro e w1 ⟨rfl, hb1⟩
      have hop1 := owns_below hop hb1
      have hon1 := owns_below hon hb1
      have hbel1 : Below (w.heap.size + 1) (w.alloc (.cells #[.string ⟨#[]⟩, .string ⟨#[]⟩, .int .i64 0, .bool false, .string ⟨#[]⟩] 53)) w1 := hbel.trans (hb1.mono (by omega))
      have hrd2 := hrd1.below hb1
      clear hop hon hbel hbf hrd1 hb1 hV hsl hB hszB
      have hB := zero5_later hbel1
      have hszB := hB.lt
      have hbf := below_first hbel1
      cases hn : numAt (bs.drop a) with
      | none =>
        rw [natV_none]
        have HE := hide (cellAt_no (HR1.out (by rw [← HG.out]; exact refAt_none hn)))
        clear hn
        have r0 := hB.cell 0
        have r1 := hB.cell 1
        have r2 := hB.cell 2
        have r3 := hB.cell 3
        have r4 := hB.cell 4
        obtain ⟨z0, z1, z2, z3, z4⟩ := hB.thaw
        simp [ca, zeroC] at r0 r1 r2 r3 r4
        go_wp2_with fail
        exact bodyPost_ret (v := .tuple #[cA zeroC, .int .i64 0]) (by simp [results, Try.results86, go_sem, cA, zeroC, r0, r1, r2, r3, r4]) rfl ⟨by rw [HE.out]; rfl, by go_grown⟩
      | some q =>
        obtain ⟨n, k⟩ := q
        rw [natV_some]
        have hl := numAt_len hn
        rw [List.length_drop] at hl
        have hk0 : ((k : Int) == 0) = false := beq_eq_false_iff_ne.2 (by omega)
        by_cases hi : i = 2 ∨ i = 3
        · have HE := hide (@refAt_n bs f' i a n k ps ns hn hi)
          clear hn
          have hi' : (((i : Int) == 2) = true) ∨ (((i : Int) == 2) = false ∧ ((i : Int) == 3) = true) := by rcases hi with rfl | rfl <;> simp
          rcases hi' with h2 | ⟨h2, h3⟩
          all_goals
            go_wp2_with (at_builtin; go_must (refine wpList_append_one hon1 Try.underlying44 Try.info3 rfl rfl rfl rfl rfl rfl (by omega) (by decide) (by omega) ?_); intro v2 w2 ho2 hb2 hg2)
            rw [ic_snoc] at ho2
            have hop2 := owns_other (by decide) hop1 hon1 hg2
            go_roundw
            case rel => exact ⟨f', i + 1, a + k, ps, ns ++ [(n : Int)], by omega, by go_num, by go_num, by omega, by rw [← HG.out, HE.out], by simp; omega, hop2, by simpa using ho2, hbel1.trans hb2⟩
            case measure => simp [intOf]; omega
        · have hi2 : ((i : Int) == 2) = false := beq_eq_false_iff_ne.2 (by omega)
          have hi3 : ((i : Int) == 3) = false := beq_eq_false_iff_ne.2 (by omega)
          by_cases hg : bs.length < a + k + n
          · have HE := hide (cellAt_no (HR1.out (by rw [← HG.out]; exact refAt_long hn hi hg)))
            have hg' : (bs.length : Int) - ((a : Int) + k) < n := by omega
            clear hn hi hg
            have r0 := hB.cell 0
            have r1 := hB.cell 1
            have r2 := hB.cell 2
            have r3 := hB.cell 3
            have r4 := hB.cell 4
            obtain ⟨z0, z1, z2, z3, z4⟩ := hB.thaw
            simp [ca, zeroC] at r0 r1 r2 r3 r4
            go_wp2_with fail
            exact bodyPost_ret (v := .tuple #[cA zeroC, .int .i64 0]) (by simp [results, Try.results86, go_sem, cA, zeroC, r0, r1, r2, r3, r4]) rfl ⟨by rw [HE.out]; rfl, by go_grown⟩
          · have HE := hide (@refAt_s bs f' i a n k ps ns hn hi hg)
            have hg' : ¬ (bs.length : Int) - ((a : Int) + k) < n := by omega
            clear hn
            have hsl := run_slice_rd (P := Try.prog) Try.underlying24 (by kernel_rfl) Try.info5 ao bs.length cap (a + k) (a + k + n) ((a : Int) + k) ((a : Int) + k + n) (by omega) (by omega) (by omega) (by omega)
            have hV := hrd2.sliced (lo := a + k) (hi := a + k + n) (by omega) (by omega)
            rw [bc_drop, bc_take, show a + k + n - (a + k) = n by omega] at hV
            generalize sliced ao (a + k) (a + k + n) cap 1 = V at hV hsl
            have hcv : (convert 24 9 V).run Try.prog w1 = .ok (.string ⟨((bs.drop (a + k)).take n).toArray⟩) w1 := run_string_of_rd (P := Try.prog) Try.underlying24 Try.underlying5 Try.underlying9 hV
            generalize (bs.drop (a + k)).take n = tx at *
            go_wp2_with (at_builtin; go_must (refine wpList_append_one hop1 Try.underlying89 Try.info9 rfl rfl rfl rfl rfl rfl (by omega) (by decide) (by omega) ?_); intro v2 w2 ho2 hb2 hg2)
            rw [sc_snoc] at ho2
            have hon2 := owns_other (by decide) hon1 hop1 hg2
            go_roundw
            case rel => exact ⟨f', i + 1, a + k + n, ps ++ [tx], ns, by omega, by go_num, by go_num, by omega, by rw [← HG.out, HE.out], by simp; omega, by simpa using ho2, hon2, hbel1.trans hb2⟩
            case measure => simp [intOf]; omega
    · obtain rfl : f = 0 := by omega
      obtain ⟨r, c, x, t, g, hps, hns, ht, hg9, hr1, hr2⟩ := HR2.out ps ns a (by rw [← HG.out]; rfl)
      subst hps hns
      obtain ⟨b1, o1, cp1, hv1, q1, q2, hbb1, hq1⟩ := (Rd.ofOwns hop).pos (by simp [sc])
      obtain ⟨b2, o2, cp2, hv2, q3, q4, hbb2, hq2⟩ := (Rd.ofOwns hon).pos (by simp [ic])
      have p0 := hq1 0 _ rfl
      have p1 := hq1 1 _ rfl
      have p2 := hq1 2 _ rfl
      have n0 := hq2 0 _ rfl
      have n1 := hq2 1 _ rfl
      rw [Nat.add_zero] at p0 n0
      simp only [sc, ic, List.map_cons, List.map_nil, List.length_cons, List.length_nil, Nat.zero_add, Nat.reduceAdd] at hv1 hv2 q1 q3
      subst hv1 hv2
      unfold maxLen at q2 q4
      have hkeep : ∀ W, Below wr.heap.size wr W → W.cell? ⟨b1, o1, none⟩ = some (.string ⟨r.toArray⟩) ∧ W.cell? ⟨b1, o1 + 1, none⟩ = some (.string ⟨c.toArray⟩) ∧ W.cell? ⟨b1, o1 + 2, none⟩ = some (.string ⟨x.toArray⟩) ∧ W.cell? ⟨b2, o2, none⟩ = some (.int .i64 t) ∧ W.cell? ⟨b2, o2 + 1, none⟩ = some (.int .i64 g) := fun W h => ⟨(h.cell hbb1).trans p0, (h.cell hbb1).trans p1, (h.cell hbb1).trans p2, (h.cell hbb2).trans n0, (h.cell hbb2).trans n1⟩
      have HK := hide hkeep
      have HR3 := hide hr1
      have HR4 := hide hr2
      clear hkeep hq1 hq2 hr1 hr2 hop hon
      go_wp2_with fail
      go_region_held3 (fun W => W.cell? ⟨b1, o1, none⟩ = some (.string ⟨r.toArray⟩) ∧ W.cell? ⟨b1, o1 + 1, none⟩ = some (.string ⟨c.toArray⟩) ∧ W.cell? ⟨b1, o1 + 2, none⟩ = some (.string ⟨x.toArray⟩) ∧ W.cell? ⟨b2, o2, none⟩ = some (.int .i64 t) ∧ W.cell? ⟨b2, o2 + 1, none⟩ = some (.int .i64 g)) (exact HK.out _ (by go_grown)) (first | fail)
      all_goals
        have hB2 : Bk (wr.alloc (.cells #[.string ⟨r.toArray⟩, .string ⟨c.toArray⟩, .int .i64 t, .bool ((g : Int) == 1), .string ⟨x.toArray⟩] 53)).drew wr.heap.size 53 (ca ⟨⟨r.toArray⟩, ⟨c.toArray⟩, (t : Int), (g : Int) == 1, ⟨x.toArray⟩⟩) := Bk.new wr _ _
        have hx2 : Below wr.heap.size wr (wr.alloc (.cells #[.string ⟨r.toArray⟩, .string ⟨c.toArray⟩, .int .i64 t, .bool ((g : Int) == 1), .string ⟨x.toArray⟩] 53)).drew := by go_grown
        have hz2 : wr.heap.size < ((wr.alloc (.cells #[.string ⟨r.toArray⟩, .string ⟨c.toArray⟩, .int .i64 t, .bool ((g : Int) == 1), .string ⟨x.toArray⟩] 53)).drew).heap.size := hB2.lt
        generalize (wr.alloc (.cells #[.string ⟨r.toArray⟩, .string ⟨c.toArray⟩, .int .i64 t, .bool ((g : Int) == 1), .string ⟨x.toArray⟩] 53)).drew = w2 at *
        have hbel2 : Below (w.heap.size + 1) (w.alloc (.cells #[.string ⟨#[]⟩, .string ⟨#[]⟩, .int .i64 0, .bool false, .string ⟨#[]⟩] 53)) w2 := hbel.trans (hx2.mono (by omega))
        obtain ⟨_, _, _, _, m1⟩ := HK.out w2 hx2
        have hgb : ((g : Int) == 1) = (g == 1) := by rw [Bool.eq_iff_iff]; simp; omega
        rw [← hgb] at HR4
        have HGB := hide hgb
        have hzw := hszB
        clear hgb p0 p1 p2 n0 n1 hB hszB
        by_cases hg : 1 < g
        · have HE := hide (cellAt_no (HR3.out hg))
          have hg' : (1 : Int) < (g : Int) := by omega
          clear hg
          have hB := zero5_later hbel2
          have hszB := hB.lt
          have hbf2 := below_first hbel2
          have r0 := hB.cell 0
          have r1 := hB.cell 1
          have r2 := hB.cell 2
          have r3 := hB.cell 3
          have r4 := hB.cell 4
          obtain ⟨z0, z1, z2, z3, z4⟩ := hB.thaw
          simp [ca, zeroC] at r0 r1 r2 r3 r4
          go_wp2_with fail
          exact bodyPost_ret (v := .tuple #[cA zeroC, .int .i64 0]) (by simp [results, Try.results86, go_sem, cA, zeroC, r0, r1, r2, r3, r4]) rfl ⟨by rw [HE.out]; rfl, by go_grown⟩
        · have HE := hide (HR4.out hg)
          have hg' : (g : Int) ≤ 1 := by omega
          clear hg HR3 HR4
          obtain ⟨c0, c1, c2, c3, c4⟩ := hB2.facts
          have hbfx := below_first hbel2
          generalize hC : (⟨⟨r.toArray⟩, ⟨c.toArray⟩, (t : Int), (g : Int) == 1, ⟨x.toArray⟩⟩ : Cl) = C at *
          go_wp2_with fail
          refine (CellCode_any C _).mono ?_
          rintro e w3 ⟨rfl, hb3⟩
          have hbel3 : Below (w.heap.size + 1) (w.alloc (.cells #[.string ⟨#[]⟩, .string ⟨#[]⟩, .int .i64 0, .bool false, .string ⟨#[]⟩] 53)) w3 := hbel2.trans (hb3.mono (by omega))
          have hB3 := hB2.below hb3 hz2
          clear c0 c1 c2 c3 c4 hB2
          obtain ⟨c0, c1, c2, c3, c4⟩ := hB3.facts
          have hB := zero5_later hbel3
          have hszB := hB.lt
          have hbf3 := below_first hbel3
          have r0 := hB.cell 0
          have r1 := hB.cell 1
          have r2 := hB.cell 2
          have r3 := hB.cell 3
          have r4 := hB.cell 4
          obtain ⟨z0, z1, z2, z3, z4⟩ := hB.thaw
          simp [ca, zeroC] at r0 r1 r2 r3 r4
          by_cases hc : codeC C = 0
          · have HF := hide (cellAt_ok HE.out hc)
            rw [hc]
            clear hc
            go_wp2_with fail
            exact bodyPost_ret (v := .tuple #[cA C, .int .i64 a]) (by simp [results, Try.results86, go_sem, cA, r0, r1, r2, r3, r4]) rfl ⟨by rw [HF.out]; rfl, by go_grown⟩
          · have HF := hide (cellAt_bad HE.out hc)
            have hcb : (codeC C != 0) = true := by simp [hc]
            clear hc
            go_wp2_with fail
            exact bodyPost_ret (v := .tuple #[cA zeroC, .int .i64 0]) (by simp [results, Try.results86, go_sem, cA, zeroC, r0, r1, r2, r3, r4]) rfl ⟨by rw [HF.out]; rfl, by go_grown⟩

end Go.Proofs.Ytlebbkbbmgmmjac

/-
  The walks over the document's reading of cells: CellsOf.
-/
namespace Go.Proofs.Ytlebbkbbmgmmjac
open Go.RowKit

set_option maxRecDepth 100000 in
set_option maxHeartbeats 1000000 in
theorem CellsOf_any (v : Value) (bs : List UInt8) (w : World) (hrd : Rd w v (bc bs)) (hbl : bs.length ≤ 100000) :
    Calls Try.prog 60 #[v] w fun e w' => ∃ v', e = .returned (.tuple #[v', fltC (readCR bs).2]) ∧ RdC w' v' (readCR bs).1 ∧ Below w.heap.size w w' ∧ New w.heap.size v' := by
  obtain ⟨ao, cap, hv, hc1, hc2⟩ := hrd.shape
  rw [bc_length] at hc1 hv
  subst hv
  unfold maxLen at hc2
  by_cases hbig : 60000 < bs.length
  · have HE := hide (readCR_big hbig)
    go_enter Try.func60, Try.ntmps60
    go_wp2_with fail
    refine (FC_any 8 0 _).mono ?_
    rintro e w1 ⟨rfl, hb1⟩
    have hbel := flt_later (Below.refl _ _) hb1
    obtain ⟨hf0, hf1, hfr0, hfr1, hsz⟩ := two_later hbel
    have hbf := below_first hbel
    unfold fltC
    go_wp2_with fail
    exact bodyPost_ret (v := .tuple #[.slice none 0 0, fltC (8, 0)]) (by simp [results, Try.results60, go_sem, fltC, hf0, hf1]) rfl ⟨.slice none 0 0, by rw [HE.out], by rw [HE.out]; exact RdC.nil _, by go_grown, New.nil _⟩
  · have HE := hide (readCR_go hbig)
    go_enter Try.func60, Try.ntmps60
    go_wp2_with fail
    go_loopw [0, 4] (fun b o wr => ∃ (ds : List UInt8) (f : Nat) (acc : List Cl), rdCells (f + 1) ds acc = rdCells (bs.length + 1) bs [] ∧ ds.length ≤ f ∧ acc.length + ds.length ≤ bs.length ∧ Rd w b (bc ds) ∧ wr.ownsRow (w.heap.size + 1) 53 5 o acc.length (cc acc) ∧ Below (w.heap.size + 1) (w.alloc (.cells #[.int .i64 0, .int .i64 0] 26)) wr)
      (fun b _ _ => lenV b)
    case atStart => exact ⟨bs, bs.length, [], rfl, Nat.le_refl _, by simp, hrd, World.ownsRow_nil _ _ _ _, Below.refl _ _⟩
    case round =>
      obtain ⟨ds, f, acc, hgo, hf, hacc, hr, hown, hbel⟩ := hrel
      have HG := hide hgo
      clear hgo
      have hbf := below_first hbel
      have hsz1 := (two_later hbel).2.2.2.2
      obtain ⟨bo, bcap, hbv, hd1, hd2⟩ := hr.shape
      rw [bc_length] at hd1 hbv
      subst hbv
      unfold maxLen at hd2
      by_cases hnil : ds = []
      · subst hnil
        obtain ⟨ao2, cap2, hv2⟩ := ownsC_shape hown
        subst hv2
        simp only [List.length_nil]
        go_wp2_with fail
        have hrc := RdC.ofOwns hown
        refine (CellsFault_any _ acc _ hrc).mono ?_
        rintro e w3 ⟨rfl, hb3⟩
        have hbel3 := flt_later hbel hb3
        have hown3 := owns_below hown hb3
        obtain ⟨gf0, gf1, gr0, gr1, gsz⟩ := two_later hbel3
        have hbf3 := below_first hbel3
        clear hown hbel hbf hb3
        by_cases hc : (checkC acc).1 = 0
        · have hcz := checkC_zero hc
          have HM := hide (@rdCells_end f acc hc)
          rw [hcz]
          unfold fltC
          clear hcz hc
          go_wp2_with fail
          exact bodyPost_ret (v := .tuple #[.slice ao2 acc.length cap2, fltC (0, 0)]) (by simp [results, Try.results60, go_sem, fltC, gf0, gf1, gsz]) rfl ⟨_, by rw [HE.out, ← HG.out, HM.out], by rw [HE.out, ← HG.out, HM.out]; exact RdC.ofOwns ((ownsRow_setCell_below (ownsRow_setCell_below hown3 (by simp only; omega) _) (by simp only; omega) _).alloc _), by go_grown, (New.owns hown3).mono (by omega)⟩
        · have HM := hide (@rdCells_fault f acc hc)
          have hcb2 : ((checkC acc).1 != 0) = true := by simp [hc]
          clear hc
          generalize checkC acc = r at *
          obtain ⟨x, y⟩ := r
          simp only at hcb2
          unfold fltC
          go_wp2_with fail
          go_region
          all_goals
            go_wp2_with fail
            exact bodyPost_ret (v := .tuple #[.slice none 0 0, fltC (x, y)]) (by simp [results, Try.results60, go_sem, fltC, gf0, gf1, gsz]) rfl ⟨_, by rw [HE.out, ← HG.out, HM.out], by rw [HE.out, ← HG.out, HM.out]; exact RdC.nil _, by go_grown, New.nil _⟩
      · have hpos : 0 < ds.length := by cases ds with | nil => exact absurd rfl hnil | cons => simp
        have HN := hide hnil
        clear hnil
        have hr1 := hr.below hbf
        have hlen := lenV_owns hown
        go_wp2_with fail
        refine (CellAt_any _ ds _ hr1 (by omega)).mono ?_
        rintro e w3 ⟨rfl, hb3⟩
        have hbel3 := flt_later hbel hb3
        have hown3 := owns_below hown hb3
        obtain ⟨gf0, gf1, gr0, gr1, gsz⟩ := two_later hbel3
        have hbf3 := below_first hbel3
        clear hown hbel hbf hb3 hr1
        obtain ⟨ao2, cap2, hv2⟩ := ownsC_shape hown3
        subst hv2
        cases hn : cellAt ds with
        | none =>
          have HM := hide (@rdCells_bad f ds acc HN.out hn)
          clear hn
          unfold catV cA
          simp only
          go_wp2_with fail
          refine (FC_any 5 acc.length _).mono ?_
          rintro e w4 ⟨rfl, hb4⟩
          have hbel4 : Below (w.heap.size + 1) (w.alloc (.cells #[.int .i64 0, .int .i64 0] 26)) w4 := (hbel3.alloc (by omega) _).trans (hb4.mono (by simp; omega))
          clear gf0 gf1 gr0 gr1 gsz
          obtain ⟨gf0, gf1, gr0, gr1, gsz⟩ := two_later hbel4
          have hbf4 := below_first hbel4
          unfold fltC
          go_wp2_with fail
          exact bodyPost_ret (v := .tuple #[.slice none 0 0, fltC (5, acc.length)]) (by simp [results, Try.results60, go_sem, fltC, gf0, gf1]) rfl ⟨_, by rw [HE.out, ← HG.out, HM.out], by rw [HE.out, ← HG.out, HM.out]; exact RdC.nil _, by go_grown, New.nil _⟩
        | some p =>
          obtain ⟨c, k⟩ := p
          have HM := hide (@rdCells_step f ds acc c k HN.out hn)
          obtain ⟨_, _, hk0, hkl⟩ := cellAt_len hn
          clear hn
          unfold catV cA
          simp only
          have hkb : ((k : Int) == 0) = false := beq_eq_false_iff_ne.2 (by omega)
          have hown4 := hown3.alloc (.cells #[.string c.row, .string c.col, .int .i64 c.time, .bool c.gone, .string c.val] 53)
          have hbel4 : Below (w.heap.size + 1) (w.alloc (.cells #[.int .i64 0, .int .i64 0] 26)) (w3.alloc (.cells #[.string c.row, .string c.col, .int .i64 c.time, .bool c.gone, .string c.val] 53)) := hbel3.alloc (by omega) _
          have hz4 : w.heap.size + 1 ≤ (w3.alloc (.cells #[.string c.row, .string c.col, .int .i64 c.time, .bool c.gone, .string c.val] 53)).heap.size := by simp; omega
          have hsl := run_slice_from (P := Try.prog) Try.underlying24 (by kernel_rfl) Try.info5 bo ds.length bcap k k rfl hkl
          have hV := hr.from (lo := k) hkl
          rw [bc_drop] at hV
          obtain ⟨va, hva⟩ := sliced_shape bo k ds.length bcap
          rw [hva] at hsl hV
          go_wp2_with (at_builtin; go_must (refine wpList_append_oneC (c := c) hown4 Try.underlying22 Try.info53 rfl rfl rfl rfl (by simp only [World.size_alloc]; rfl) (by omega) (by decide) hz4 ?_); intro v6 w6 ho6 hb6 hg6)
          go_roundw
          case rel =>
            obtain ⟨f', rfl⟩ : ∃ f', f = f' + 1 := ⟨f - 1, by omega⟩
            refine ⟨ds.drop k, f', acc ++ [c], by rw [← HG.out, HM.out], by rw [List.length_drop]; omega, by simp; omega, hV, by simpa using ho6, hbel4.trans hb6⟩
          case measure => simp [lenV]; omega

end Go.Proofs.Ytlebbkbbmgmmjac

/-
  The walk over the document's OpenedFile.
-/
namespace Go.Proofs.Ytlebbkbbmgmmjac
open Go.RowKit

/-- What the document's OpenedFile answers. -/
def openPost (w w' : World) (e : Ending) (O : (List Cl × List (List UInt8) × List UInt8) × (Int × Int)) : Prop :=
  ∃ v' u' gs, e = .returned (.tuple #[v', u', fltC O.2]) ∧ RdC w' v' O.1.1 ∧ Rd w' u' (ic (gs.map fun g => (g.length : Int))) ∧ (O.2.1 = 0 → O.1.1 = gs.flatten ∧ O.1.2.1 = headsB gs ∧ ∀ g ∈ gs, g ≠ []) ∧ Below w.heap.size w w'

theorem openPost_bad {w w' : World} {e : Ending} {O : (List Cl × List (List UInt8) × List UInt8) × (Int × Int)} {x y : Int} (hO : O = (([], [], []), (x, y))) (hx : x ≠ 0) (he : e = .returned (.tuple #[.slice none 0 0, .slice none 0 0, fltC (x, y)])) (hb : Below w.heap.size w w') : openPost w w' e O :=
  ⟨_, _, [], by rw [hO]; exact he, by rw [hO]; exact RdC.nil _, Rd.nil _, by rw [hO]; intro h; exact absurd h hx, hb⟩

theorem owns_otherZ {w w' : World} {base base' size size' : Nat} {u v : Value} {n m : Nat} {xs ys : List Value} {e e' : TypeId} (hee : e ≠ e') (hu : w.ownsRow base e size u n xs) (hv : w.ownsRow base' e' size' v m ys) (hg : w.grownBy w' v.ownBlock) : w'.ownsRow base e size u n xs := by
  refine hu.kept hg ?_
  rcases hu.2 with ⟨rfl, _⟩ | ⟨g, cap, cur, rfl, _, hgu, _⟩
  · exact .inl rfl
  · right
    rcases hv.2 with ⟨rfl, _⟩ | ⟨g', cap', cur', rfl, _, hgv, _⟩
    · simp [Value.ownBlock]
    · simp only [Value.ownBlock, ne_eq, Option.some.injEq]
      intro e0
      subst e0
      rw [hgu] at hgv
      simp only [Option.some.injEq, Obj.cells.injEq] at hgv
      exact hee hgv.2.1

theorem ic_snoc9 (l : List Int) (x : Int) : ic l ++ [.int .i64 x] = ic (l ++ [x]) := by rw [ic_append]; rfl

set_option maxRecDepth 100000 in
set_option maxHeartbeats 40000000 in
theorem OpenedFile_any (v : Value) (bs : List UInt8) (w : World) (hrd : Rd w v (bc bs)) :
    Calls Try.prog 22 #[v] w fun e w' => openPost w w' e (openF bs) := by
  obtain ⟨ao, cap, hv, hc1, hc2⟩ := hrd.shape
  rw [bc_length] at hc1 hv
  subst hv
  unfold maxLen at hc2
  by_cases hbig : 60000 < bs.length
  · have HE := hide (openF_big hbig)
    go_enter Try.func22, Try.ntmps22
    go_wp2_with fail
    refine (FC_any 8 0 _).mono ?_
    rintro e w1 ⟨rfl, hb1⟩
    have hbel := flt_later (Below.refl _ _) hb1
    obtain ⟨hf0, hf1, hfr0, hfr1, hsz⟩ := two_later hbel
    have hbf := below_first hbel
    unfold fltC
    go_wp2_with fail
    exact bodyPost_ret (v := .tuple #[.slice none 0 0, .slice none 0 0, fltC (8, 0)]) (by simp [results, Try.results22, go_sem, fltC, hf0, hf1]) rfl (openPost_bad HE.out (by decide) rfl (by go_grown))
  have hsm : (bs.length : Int) ≤ 60000 := by omega
  have HBIG := hide hbig
  clear hbig
  have hF0 := Bk.new w 26 #[.int .i64 0, .int .i64 0]
  go_enter Try.func22, Try.ntmps22
  go_wp2_with fail
  refine (Unframed_any _ bs _ (hrd.alloc _) (by omega)).mono ?_
  rintro e w1 ⟨v1, rfl, hBN, hb1⟩
  have hF1 := hF0.below hb1 (by simp)
  have hbw1 : Below w.heap.size w w1 := (below_alloc' _ _).trans (hb1.mono (by simp))
  have hB := hBN.toB
  have hul := un_le bs
  have hua := @un_all bs
  have hup := @un_part bs
  generalize unGo (bs.length + 1) bs [] 0 = U at *
  obtain ⟨bb, n⟩ := U
  simp only at hB hul hua hup ⊢
  have HUA := hide hua
  have HUP := hide hup
  clear hua hup hF0 hb1 hBN
  obtain ⟨bo, bcap, hbv, hd1, hd2, hcell⟩ := hB.open
  subst hbv
  unfold maxLen at hd2
  by_cases hn : n = bs.length
  case neg =>
    have hnb : ((n : Int) == (bs.length : Int)) = false := beq_eq_false_iff_ne.2 (by omega)
    have HE := hide (openF_pieces HBIG.out (piecesR_no (HUP.out hn)))
    have hnn : (n == bs.length) = false := beq_eq_false_iff_ne.2 hn
    clear hcell
    go_wp2_with fail
    refine (FC_any 5 0 _).mono ?_
    rintro e w9 ⟨rfl, hb9⟩
    have hF9 := hF1.below hb9 hF1.lt
    have hbw9 := hbw1.trans (hb9.mono hbw1.size)
    have r0 := hF9.cell 0
    have r1 := hF9.cell 1
    have r2 := hF9.frozen 0
    have r3 := hF9.frozen 1
    have hlt9 := hF9.lt
    simp at r0 r1
    (try clear hrd); (try clear hsm); (try clear hul); (try clear hxl); (try clear hmm); (try clear hl1); (try clear hl2); (try clear hl3); (try clear hl4); (try clear hj); (try clear hacc); (try clear hx1); (try clear hx2); (try clear hdl); (try clear hre1); (try clear hre2); (try clear hFl); (try clear hEl); (try clear hszq); (try clear hszr); (try clear hsz2); (try clear hsz3); (try clear hsz4); (try clear hbel); (try clear hbel2); (try clear hbel4); (try clear hbelq); (try clear hbq); (try clear hFq); (try clear hbwq); (try clear hFr); (try clear hbwr); (try clear hF1); (try clear hbw1); (try clear hown); (try clear hown2); (try clear ho4); (try clear hr); (try clear hV); (try clear hoA2); (try clear hoE2); (try clear hrc2); (try clear hbelq2); (try clear hryL); (try clear hrA); (try clear hbelA); (try clear hoAA); (try clear hoEA); (try clear hzA); (try clear hFFA); (try clear hbwA); (try clear hFA); (try clear f0); (try clear f1); (try clear hat3); (try clear hc0); (try clear hctA); (try clear hLl); (try clear hL1); (try clear hcl); (try clear hct); (try clear hrb); (try clear hp); (try clear hpb); (try clear hqb); (try clear hl10); (try clear hfn); (try clear HCJ); (try clear HKL); (try clear HP); (try clear HG); (try clear HR); (try clear HRC); (try clear HRL); (try clear HGF); (try clear HGE); (try clear HG2); (try clear HHD); (try clear HNE); (try clear HTK); (try clear HTX); (try clear hlt); (try clear hlt2); (try clear hi); (try clear hi2); (try clear hi3); (try clear hj2); (try clear hjb); (try clear hjb2); (try clear hneb); (try clear hng); (try clear hg); (try clear hc20); (try clear hc2l); (try clear hn29); (try clear hcl); (try clear hn9); (try clear hcu); (try clear hcu2); (try clear hcu4); (try clear hbb3); (try clear hbb); (try clear hb9); (try clear hx9); (try clear hF9); (try clear hF4); (try clear hF2); (try clear hbw2); (try clear hbw4); (try clear hcyL); (try clear hd1); (try clear hd2); (try clear hc1); (try clear hc2); (try clear hfd); (try clear hcb); (try clear h5); (try clear hd5); (try clear h5'); (try clear hnb); (try clear hdp); (try clear h2); (try clear h2'); (try clear h2d); (try clear hm); (try clear hB); (try clear hcx); (try clear hcy); (try clear hrx); (try clear hry); (try clear hqq)
    unfold fltC
    go_wp2_with fail
    exact bodyPost_ret (v := .tuple #[.slice none 0 0, .slice none 0 0, fltC (5, 0)]) (by simp [results, Try.results22, go_sem, fltC, r0, r1]) rfl (openPost_bad HE.out (by decide) rfl (by go_grown))
  have hbR := HUA.out hn
  subst hn
  have HB := hide hbR
  clear HUA HUP
  by_cases h2 : bb.length < 2
  · have HE := hide (openF_pieces HBIG.out (by rw [piecesR_of HB.out]; exact piecesB_few h2))
    obtain ⟨K, hK⟩ : ∃ K : Int, (bb.length : Int) - 2 = K := ⟨_, rfl⟩
    have hK0 : K < 0 := by omega
    have hKd : decide (K < 0) = true := decide_eq_true hK0
    clear hcell hbR
    go_wp2_with fail
    refine (FC_any 5 0 _).mono ?_
    rintro e w9 ⟨rfl, hb9⟩
    have hF9 := hF1.below hb9 hF1.lt
    have hbw9 := hbw1.trans (hb9.mono hbw1.size)
    have r0 := hF9.cell 0
    have r1 := hF9.cell 1
    have r2 := hF9.frozen 0
    have r3 := hF9.frozen 1
    have hlt9 := hF9.lt
    simp at r0 r1
    (try clear hrd); (try clear hsm); (try clear hul); (try clear hxl); (try clear hmm); (try clear hl1); (try clear hl2); (try clear hl3); (try clear hl4); (try clear hj); (try clear hacc); (try clear hx1); (try clear hx2); (try clear hdl); (try clear hre1); (try clear hre2); (try clear hFl); (try clear hEl); (try clear hszq); (try clear hszr); (try clear hsz2); (try clear hsz3); (try clear hsz4); (try clear hbel); (try clear hbel2); (try clear hbel4); (try clear hbelq); (try clear hbq); (try clear hFq); (try clear hbwq); (try clear hFr); (try clear hbwr); (try clear hF1); (try clear hbw1); (try clear hown); (try clear hown2); (try clear ho4); (try clear hr); (try clear hV); (try clear hoA2); (try clear hoE2); (try clear hrc2); (try clear hbelq2); (try clear hryL); (try clear hrA); (try clear hbelA); (try clear hoAA); (try clear hoEA); (try clear hzA); (try clear hFFA); (try clear hbwA); (try clear hFA); (try clear f0); (try clear f1); (try clear hat3); (try clear hc0); (try clear hctA); (try clear hLl); (try clear hL1); (try clear hcl); (try clear hct); (try clear hrb); (try clear hp); (try clear hpb); (try clear hqb); (try clear hl10); (try clear hfn); (try clear HCJ); (try clear HKL); (try clear HP); (try clear HG); (try clear HR); (try clear HRC); (try clear HRL); (try clear HGF); (try clear HGE); (try clear HG2); (try clear HHD); (try clear HNE); (try clear HTK); (try clear HTX); (try clear hlt); (try clear hlt2); (try clear hi); (try clear hi2); (try clear hi3); (try clear hj2); (try clear hjb); (try clear hjb2); (try clear hneb); (try clear hng); (try clear hg); (try clear hc20); (try clear hc2l); (try clear hn29); (try clear hcl); (try clear hn9); (try clear hcu); (try clear hcu2); (try clear hcu4); (try clear hbb3); (try clear hbb); (try clear hb9); (try clear hx9); (try clear hF9); (try clear hF4); (try clear hF2); (try clear hbw2); (try clear hbw4); (try clear hcyL); (try clear hd1); (try clear hd2); (try clear hc1); (try clear hc2); (try clear hfd); (try clear hcb); (try clear h5); (try clear hd5); (try clear h5'); (try clear hnb); (try clear hdp); (try clear h2); (try clear h2'); (try clear h2d); (try clear hm); (try clear hB); (try clear hcx); (try clear hcy); (try clear hrx); (try clear hry); (try clear hqq)
    unfold fltC
    go_wp2_with fail
    exact bodyPost_ret (v := .tuple #[.slice none 0 0, .slice none 0 0, fltC (5, 0)]) (by simp [results, Try.results22, go_sem, fltC, r0, r1]) rfl (openPost_bad HE.out (by decide) rfl (by go_grown))
  obtain ⟨m, hm⟩ : ∃ m, bb.length = m + 2 := ⟨bb.length - 2, by omega⟩
  obtain ⟨y, hy⟩ : ∃ y, bb[m + 1]? = some y := ⟨_, List.getElem?_eq_getElem (by omega)⟩
  obtain ⟨x, hx⟩ : ∃ x, bb[m]? = some x := ⟨_, List.getElem?_eq_getElem (by omega)⟩
  have hyd : bb.getD (bb.length - 1) [] = y := by rw [List.getD_eq_getElem?_getD, show bb.length - 1 = m + 1 by omega, hy]; rfl
  have hxd : bb.getD (bb.length - 2) [] = x := by rw [List.getD_eq_getElem?_getD, show bb.length - 2 = m by omega, hx]; rfl
  have hnone := @piecesB_none bb h2
  have hok := @piecesB_ok bb h2
  rw [hyd, hxd] at hok
  rw [hyd] at hnone
  have hm2 : bb.length - 2 = m := by omega
  rw [hm2] at hok
  have HNO := hide hnone
  have HOK := hide hok
  have hmem := bodiesR_mem hbR
  have hxl : x.length ≤ 60000 := by have := hmem x (List.mem_of_getElem? hx); omega
  have hmm : m ≤ 60000 := by have := bodiesR_len hbR; omega
  have hcj : ∀ j blk, (bb.take m)[j]? = some blk → ∃ b off uo ucap, bo = some ⟨b, off, none⟩ ∧ b < w1.heap.size ∧ w1.cell? ⟨b, off + j, none⟩ = some (.slice uo blk.length ucap) ∧ Rd w1 (.slice uo blk.length ucap) (bc blk) ∧ blk.length ≤ 60000 := by
    intro j blk hj
    rw [List.getElem?_take] at hj
    split at hj
    · obtain ⟨hjl, e⟩ := List.getElem?_eq_some_iff.1 hj
      obtain ⟨b, off, u, hbo, hbb, hcu, hru⟩ := hcell j hjl
      rw [e] at hru
      obtain ⟨uo, ucap, hvu, _, _⟩ := hru.shape
      rw [bc_length] at hvu
      subst hvu
      exact ⟨b, off, uo, ucap, hbo, hbb, hcu, hru, by have := hmem blk (List.mem_of_getElem? hj); omega⟩
    · cases hj
  obtain ⟨b, off, uy, rfl, hbb, hcy, hry⟩ := hcell (m + 1) (by omega)
  obtain ⟨b', off', ux, hbo', -, hcx, hrx⟩ := hcell m (by omega)
  simp only [Option.some.injEq, Addr.mk.injEq, and_true] at hbo'
  obtain ⟨rfl, rfl⟩ := hbo'
  rw [(List.getElem?_eq_some_iff.1 hy).2] at hry
  rw [(List.getElem?_eq_some_iff.1 hx).2] at hrx
  obtain ⟨yo, ycap, hvy, -, -⟩ := hry.shape
  rw [bc_length] at hvy
  subst hvy
  obtain ⟨xo, xcap, hvx, -, -⟩ := hrx.shape
  rw [bc_length] at hvx
  subst hvx
  have hkl : (bb.take m).length = m := by rw [List.length_take]; omega
  have HKL := hide hkl
  have HCJ := hide hcj
  clear hcj hcell hnone hok hyd hxd hm2 hx hy hmem hbR hkl
  have hl1 : (bb.length : Int) - 2 = (m : Int) := by omega
  have hl2 : (m : Int) + 1 < (bb.length : Int) := by omega
  have hl3 : (m : Int) < (bb.length : Int) := by omega
  have hl4 : ¬ (m : Int) < 0 := by omega
  clear hm h2 hB
  by_cases hy0 : y = []
  · subst hy0
    have HE := hide (openF_pieces HBIG.out (by rw [piecesR_of HB.out]; exact HNO.out rfl))
    clear HNO HOK
    simp only [List.length_nil] at hcy
    go_wp2_with fail
    refine (FC_any 5 0 _).mono ?_
    rintro e w9 ⟨rfl, hb9⟩
    have hF9 := hF1.below hb9 hF1.lt
    have hbw9 := hbw1.trans (hb9.mono hbw1.size)
    have r0 := hF9.cell 0
    have r1 := hF9.cell 1
    have r2 := hF9.frozen 0
    have r3 := hF9.frozen 1
    have hlt9 := hF9.lt
    simp at r0 r1
    (try clear hrd); (try clear hsm); (try clear hul); (try clear hxl); (try clear hmm); (try clear hl1); (try clear hl2); (try clear hl3); (try clear hl4); (try clear hj); (try clear hacc); (try clear hx1); (try clear hx2); (try clear hdl); (try clear hre1); (try clear hre2); (try clear hFl); (try clear hEl); (try clear hszq); (try clear hszr); (try clear hsz2); (try clear hsz3); (try clear hsz4); (try clear hbel); (try clear hbel2); (try clear hbel4); (try clear hbelq); (try clear hbq); (try clear hFq); (try clear hbwq); (try clear hFr); (try clear hbwr); (try clear hF1); (try clear hbw1); (try clear hown); (try clear hown2); (try clear ho4); (try clear hr); (try clear hV); (try clear hoA2); (try clear hoE2); (try clear hrc2); (try clear hbelq2); (try clear hryL); (try clear hrA); (try clear hbelA); (try clear hoAA); (try clear hoEA); (try clear hzA); (try clear hFFA); (try clear hbwA); (try clear hFA); (try clear f0); (try clear f1); (try clear hat3); (try clear hc0); (try clear hctA); (try clear hLl); (try clear hL1); (try clear hcl); (try clear hct); (try clear hrb); (try clear hp); (try clear hpb); (try clear hqb); (try clear hl10); (try clear hfn); (try clear HCJ); (try clear HKL); (try clear HP); (try clear HG); (try clear HR); (try clear HRC); (try clear HRL); (try clear HGF); (try clear HGE); (try clear HG2); (try clear HHD); (try clear HNE); (try clear HTK); (try clear HTX); (try clear hlt); (try clear hlt2); (try clear hi); (try clear hi2); (try clear hi3); (try clear hj2); (try clear hjb); (try clear hjb2); (try clear hneb); (try clear hng); (try clear hg); (try clear hc20); (try clear hc2l); (try clear hn29); (try clear hcl); (try clear hn9); (try clear hcu); (try clear hcu2); (try clear hcu4); (try clear hbb3); (try clear hbb); (try clear hb9); (try clear hx9); (try clear hF9); (try clear hF4); (try clear hF2); (try clear hbw2); (try clear hbw4); (try clear hcyL); (try clear hd1); (try clear hd2); (try clear hc1); (try clear hc2); (try clear hfd); (try clear hcb); (try clear h5); (try clear hd5); (try clear h5'); (try clear hnb); (try clear hdp); (try clear h2); (try clear h2'); (try clear h2d); (try clear hm); (try clear hB); (try clear hcx); (try clear hcy); (try clear hrx); (try clear hry); (try clear hqq)
    unfold fltC
    go_wp2_with fail
    exact bodyPost_ret (v := .tuple #[.slice none 0 0, .slice none 0 0, fltC (5, 0)]) (by simp [results, Try.results22, go_sem, fltC, r0, r1]) rfl (openPost_bad HE.out (by decide) rfl (by go_grown))
  have HP : Hid (piecesR bs = some (bb.take m, x, y)) := hide (by rw [piecesR_of HB.out]; exact HOK.out hy0)
  have hyl : ((y.length : Int) == 0) = false := by
    have : 0 < y.length := List.length_pos_iff.2 hy0
    exact beq_eq_false_iff_ne.2 (by omega)
  clear HNO HOK hy0 HB
  generalize bb.take m = bk at *
  go_wp2_with fail
  clear hl1 hl4 hyl
  go_loopw [8, 9, 10] (fun xv o i wr => ∃ (j : Nat) (ds : List UInt8) (acc : List (List UInt8)), j ≤ m ∧ i = .int .i64 j ∧ rixGo ds (bk.drop j) acc = rixGo x bk [] ∧ acc.length ≤ j ∧ ds.length ≤ 60000 ∧ Rd w1 xv (bc ds) ∧ wr.ownsRow w1.heap.size 9 1 o acc.length (sc acc) ∧ Below w1.heap.size w1 wr)
    (fun _ _ i _ => m - (intOf i).toNat)
  case atStart => exact ⟨0, x, [], by omega, rfl, rfl, by simp, hxl, hrx, World.ownsRow_nil _ _ _ _, Below.refl _ _⟩
  case round =>
    obtain ⟨j, ds, acc, hj, rfl, hgo, hacc, hdl, hr, hown, hbel⟩ := hrel
    have HG := hide hgo
    clear hgo
    obtain ⟨xo2, xcap2, hvx2, hx1, hx2⟩ := hr.shape
    rw [bc_length] at hvx2 hx1
    subst hvx2
    unfold maxLen at hx2
    have hszr := hbel.size
    have hFr := hF1.below hbel hF1.lt
    have hbwr := hbw1.trans (hbel.mono hbw1.size)
    by_cases hlt : j < m
    · obtain ⟨blk, hblk⟩ : ∃ blk, bk[j]? = some blk := ⟨_, List.getElem?_eq_getElem (by rw [HKL.out]; exact hlt)⟩
      have hdr := drop_cons bk j (by rw [HKL.out]; exact hlt)
      rw [(List.getElem?_eq_some_iff.1 hblk).2] at hdr
      rw [hdr] at HG
      obtain ⟨b3, off3, uo, ucap, hb3, hbb3, hcu, -, -⟩ := HCJ.out j blk hblk
      simp only [Option.some.injEq, Addr.mk.injEq, and_true] at hb3
      obtain ⟨rfl, rfl⟩ := hb3
      clear hdr hblk hrx hcx hcy hry
      have hj2 : (j : Int) < (bb.length : Int) := by omega
      go_wp2_with fail
      refine (NumberAt_any _ ds wr (hr.below hbel)).mono ?_
      rintro e w2 ⟨rfl, hb2⟩
      have hbel2 := hbel.trans (hb2.mono hszr)
      have hown2 := owns_below hown hb2
      have hsz2 := hbel2.size
      have hF2 := hFr.below hb2 hFr.lt
      have hbw2 := hbwr.trans (hb2.mono hbwr.size)
      have hcu2 := (hbel2.cell (p := ⟨b, off + j, none⟩) (by exact hbb3)).trans hcu
      clear hbel hb2 hown hFr hbwr hszr
      cases hn : numAt ds with
      | none =>
        have HE := hide (openF_index HBIG.out HP.out (by rw [← HG.out]; exact rixGo_t (textAt_no hn)))
        clear hn
        simp only [natV]
        go_wp2_with fail
        refine (FC_any 5 1 _).mono ?_
        rintro e w9 ⟨rfl, hb9⟩
        have hF9 := hF2.below hb9 hF2.lt
        have hbw9 := hbw2.trans (hb9.mono hbw2.size)
        have r0 := hF9.cell 0
        have r1 := hF9.cell 1
        have r2 := hF9.frozen 0
        have r3 := hF9.frozen 1
        have hlt9 := hF9.lt
        simp at r0 r1
        (try clear hrd); (try clear hsm); (try clear hul); (try clear hxl); (try clear hmm); (try clear hl1); (try clear hl2); (try clear hl3); (try clear hl4); (try clear hj); (try clear hacc); (try clear hx1); (try clear hx2); (try clear hdl); (try clear hre1); (try clear hre2); (try clear hFl); (try clear hEl); (try clear hszq); (try clear hszr); (try clear hsz2); (try clear hsz3); (try clear hsz4); (try clear hbel); (try clear hbel2); (try clear hbel4); (try clear hbelq); (try clear hbq); (try clear hFq); (try clear hbwq); (try clear hFr); (try clear hbwr); (try clear hF1); (try clear hbw1); (try clear hown); (try clear hown2); (try clear ho4); (try clear hr); (try clear hV); (try clear hoA2); (try clear hoE2); (try clear hrc2); (try clear hbelq2); (try clear hryL); (try clear hrA); (try clear hbelA); (try clear hoAA); (try clear hoEA); (try clear hzA); (try clear hFFA); (try clear hbwA); (try clear hFA); (try clear f0); (try clear f1); (try clear hat3); (try clear hc0); (try clear hctA); (try clear hLl); (try clear hL1); (try clear hcl); (try clear hct); (try clear hrb); (try clear hp); (try clear hpb); (try clear hqb); (try clear hl10); (try clear hfn); (try clear HCJ); (try clear HKL); (try clear HP); (try clear HG); (try clear HR); (try clear HRC); (try clear HRL); (try clear HGF); (try clear HGE); (try clear HG2); (try clear HHD); (try clear HNE); (try clear HTK); (try clear HTX); (try clear hlt); (try clear hlt2); (try clear hi); (try clear hi2); (try clear hi3); (try clear hj2); (try clear hjb); (try clear hjb2); (try clear hneb); (try clear hng); (try clear hg); (try clear hc20); (try clear hc2l); (try clear hn29); (try clear hcl); (try clear hn9); (try clear hcu); (try clear hcu2); (try clear hcu4); (try clear hbb3); (try clear hbb); (try clear hb9); (try clear hx9); (try clear hF9); (try clear hF4); (try clear hF2); (try clear hbw2); (try clear hbw4); (try clear hcyL); (try clear hd1); (try clear hd2); (try clear hc1); (try clear hc2); (try clear hfd); (try clear hcb); (try clear h5); (try clear hd5); (try clear h5'); (try clear hnb); (try clear hdp); (try clear h2); (try clear h2'); (try clear h2d); (try clear hm); (try clear hB); (try clear hcx); (try clear hcy); (try clear hrx); (try clear hry); (try clear hqq)
        unfold fltC
        go_wp2_with fail
        exact bodyPost_ret (v := .tuple #[.slice none 0 0, .slice none 0 0, fltC (5, 1)]) (by simp [results, Try.results22, go_sem, fltC, r0, r1]) rfl (openPost_bad HE.out (by decide) rfl (by go_grown))
      | some p =>
        obtain ⟨n, c⟩ := p
        obtain ⟨hc0, hcl, hn9⟩ := numAt_len hn
        have hjb : ((c : Int) == 0) = false := beq_eq_false_iff_ne.2 (by omega)
        by_cases hlong : ds.length < c + n
        · have HE := hide (openF_index HBIG.out HP.out (by rw [← HG.out]; exact rixGo_t (textAt_long hn hlong)))
          clear hn
          simp only [natV]
          have hg : (ds.length : Int) - (c : Int) < (n : Int) := by omega
          go_wp2_with fail
          refine (FC_any 5 1 _).mono ?_
          rintro e w9 ⟨rfl, hb9⟩
          have hF9 := hF2.below hb9 hF2.lt
          have hbw9 := hbw2.trans (hb9.mono hbw2.size)
          have r0 := hF9.cell 0
          have r1 := hF9.cell 1
          have r2 := hF9.frozen 0
          have r3 := hF9.frozen 1
          have hlt9 := hF9.lt
          simp at r0 r1
          (try clear hrd); (try clear hsm); (try clear hul); (try clear hxl); (try clear hmm); (try clear hl1); (try clear hl2); (try clear hl3); (try clear hl4); (try clear hj); (try clear hacc); (try clear hx1); (try clear hx2); (try clear hdl); (try clear hre1); (try clear hre2); (try clear hFl); (try clear hEl); (try clear hszq); (try clear hszr); (try clear hsz2); (try clear hsz3); (try clear hsz4); (try clear hbel); (try clear hbel2); (try clear hbel4); (try clear hbelq); (try clear hbq); (try clear hFq); (try clear hbwq); (try clear hFr); (try clear hbwr); (try clear hF1); (try clear hbw1); (try clear hown); (try clear hown2); (try clear ho4); (try clear hr); (try clear hV); (try clear hoA2); (try clear hoE2); (try clear hrc2); (try clear hbelq2); (try clear hryL); (try clear hrA); (try clear hbelA); (try clear hoAA); (try clear hoEA); (try clear hzA); (try clear hFFA); (try clear hbwA); (try clear hFA); (try clear f0); (try clear f1); (try clear hat3); (try clear hc0); (try clear hctA); (try clear hLl); (try clear hL1); (try clear hcl); (try clear hct); (try clear hrb); (try clear hp); (try clear hpb); (try clear hqb); (try clear hl10); (try clear hfn); (try clear HCJ); (try clear HKL); (try clear HP); (try clear HG); (try clear HR); (try clear HRC); (try clear HRL); (try clear HGF); (try clear HGE); (try clear HG2); (try clear HHD); (try clear HNE); (try clear HTK); (try clear HTX); (try clear hlt); (try clear hlt2); (try clear hi); (try clear hi2); (try clear hi3); (try clear hj2); (try clear hjb); (try clear hjb2); (try clear hneb); (try clear hng); (try clear hg); (try clear hc20); (try clear hc2l); (try clear hn29); (try clear hcl); (try clear hn9); (try clear hcu); (try clear hcu2); (try clear hcu4); (try clear hbb3); (try clear hbb); (try clear hb9); (try clear hx9); (try clear hF9); (try clear hF4); (try clear hF2); (try clear hbw2); (try clear hbw4); (try clear hcyL); (try clear hd1); (try clear hd2); (try clear hc1); (try clear hc2); (try clear hfd); (try clear hcb); (try clear h5); (try clear hd5); (try clear h5'); (try clear hnb); (try clear hdp); (try clear h2); (try clear h2'); (try clear h2d); (try clear hm); (try clear hB); (try clear hcx); (try clear hcy); (try clear hrx); (try clear hry); (try clear hqq)
          unfold fltC
          go_wp2_with fail
          exact bodyPost_ret (v := .tuple #[.slice none 0 0, .slice none 0 0, fltC (5, 1)]) (by simp [results, Try.results22, go_sem, fltC, r0, r1]) rfl (openPost_bad HE.out (by decide) rfl (by go_grown))
        · have HTX := hide (textAt_fits hn (by omega))
          clear hn
          simp only [natV]
          have hng : ¬ (ds.length : Int) - (c : Int) < (n : Int) := by omega
          have hsl := run_slice_from (P := Try.prog) Try.underlying24 (by kernel_rfl) Try.info5 xo2 ds.length xcap2 (c + n) ((c : Int) + n) (by omega) (by omega)
          have hV := hr.from (lo := c + n) (by omega)
          rw [bc_drop] at hV
          obtain ⟨va, hva⟩ := sliced_shape xo2 (c + n) ds.length xcap2
          rw [hva] at hsl hV
          have hs2 := (hr.below hbel2).sliced (lo := c) (hi := c + n) (by omega) (by omega)
          rw [show c + n - c = n by omega, bc_drop, bc_take] at hs2
          have hsl2 := run_slice_rd (P := Try.prog) Try.underlying24 (by kernel_rfl) Try.info5 xo2 ds.length xcap2 c (c + n) c ((c : Int) + n) rfl (by omega) (by omega) (by omega)
          generalize sliced xo2 c (c + n) xcap2 1 = V2 at hs2 hsl2
          have hcv := run_string_of_rd (P := Try.prog) Try.underlying24 Try.underlying5 Try.underlying9 hs2
          generalize (ds.drop c).take n = t at *
          go_wp2_with (at_builtin; go_must (refine wpList_append_one hown2 Try.underlying89 Try.infoS9 rfl rfl rfl rfl rfl rfl (by omega) (by decide) hsz2 ?_); intro v3 w3 ho3 hb3 hg3; clear hg3)
          rw [sc_snoc'] at ho3
          have hbel3 := hbel2.trans hb3
          have hF3 := hF1.below hbel3 hF1.lt
          have hbw3 := hbw1.trans (hbel3.mono hbw1.size)
          have hsz3 := hbel3.size
          clear hF2 hbw2 hown2 hcu2 hsl hsl2 hcv hs2 hva
          refine (NumberAt_any _ (ds.drop (c + n)) _ (hV.below hbel3)).mono ?_
          rintro e w4 ⟨rfl, hb4⟩
          have hbel4 := hbel3.trans (hb4.mono hsz3)
          have ho4 := owns_below ho3 hb4
          have hF4 := hF3.below hb4 hF3.lt
          have hbw4 := hbw3.trans (hb4.mono hbw3.size)
          have hsz4 := hbel4.size
          have hcu4 := (hbel4.cell (p := ⟨b, off + j, none⟩) (by exact hbb3)).trans hcu
          clear hbel3 ho3 hF3 hbw3 hb4 hb3
          have hvl : (ds.drop (c + n)).length = ds.length - (c + n) := List.length_drop
          cases hn2 : numAt (ds.drop (c + n)) with
          | none =>
            have HE := hide (openF_index HBIG.out HP.out (by rw [← HG.out]; exact rixGo_n HTX.out hn2))
            clear hn2 hvl
            simp only [natV]
            go_wp2_with fail
            refine (FC_any 5 1 _).mono ?_
            rintro e w9 ⟨rfl, hb9⟩
            have hF9 := hF4.below hb9 hF4.lt
            have hbw9 := hbw4.trans (hb9.mono hbw4.size)
            have r0 := hF9.cell 0
            have r1 := hF9.cell 1
            have r2 := hF9.frozen 0
            have r3 := hF9.frozen 1
            have hlt9 := hF9.lt
            simp at r0 r1
            (try clear hrd); (try clear hsm); (try clear hul); (try clear hxl); (try clear hmm); (try clear hl1); (try clear hl2); (try clear hl3); (try clear hl4); (try clear hj); (try clear hacc); (try clear hx1); (try clear hx2); (try clear hdl); (try clear hre1); (try clear hre2); (try clear hFl); (try clear hEl); (try clear hszq); (try clear hszr); (try clear hsz2); (try clear hsz3); (try clear hsz4); (try clear hbel); (try clear hbel2); (try clear hbel4); (try clear hbelq); (try clear hbq); (try clear hFq); (try clear hbwq); (try clear hFr); (try clear hbwr); (try clear hF1); (try clear hbw1); (try clear hown); (try clear hown2); (try clear ho4); (try clear hr); (try clear hV); (try clear hoA2); (try clear hoE2); (try clear hrc2); (try clear hbelq2); (try clear hryL); (try clear hrA); (try clear hbelA); (try clear hoAA); (try clear hoEA); (try clear hzA); (try clear hFFA); (try clear hbwA); (try clear hFA); (try clear f0); (try clear f1); (try clear hat3); (try clear hc0); (try clear hctA); (try clear hLl); (try clear hL1); (try clear hcl); (try clear hct); (try clear hrb); (try clear hp); (try clear hpb); (try clear hqb); (try clear hl10); (try clear hfn); (try clear HCJ); (try clear HKL); (try clear HP); (try clear HG); (try clear HR); (try clear HRC); (try clear HRL); (try clear HGF); (try clear HGE); (try clear HG2); (try clear HHD); (try clear HNE); (try clear HTK); (try clear HTX); (try clear hlt); (try clear hlt2); (try clear hi); (try clear hi2); (try clear hi3); (try clear hj2); (try clear hjb); (try clear hjb2); (try clear hneb); (try clear hng); (try clear hg); (try clear hc20); (try clear hc2l); (try clear hn29); (try clear hcl); (try clear hn9); (try clear hcu); (try clear hcu2); (try clear hcu4); (try clear hbb3); (try clear hbb); (try clear hb9); (try clear hx9); (try clear hF9); (try clear hF4); (try clear hF2); (try clear hbw2); (try clear hbw4); (try clear hcyL); (try clear hd1); (try clear hd2); (try clear hc1); (try clear hc2); (try clear hfd); (try clear hcb); (try clear h5); (try clear hd5); (try clear h5'); (try clear hnb); (try clear hdp); (try clear h2); (try clear h2'); (try clear h2d); (try clear hm); (try clear hB); (try clear hcx); (try clear hcy); (try clear hrx); (try clear hry); (try clear hqq)
            unfold fltC
            go_wp2_with fail
            exact bodyPost_ret (v := .tuple #[.slice none 0 0, .slice none 0 0, fltC (5, 1)]) (by simp [results, Try.results22, go_sem, fltC, r0, r1]) rfl (openPost_bad HE.out (by decide) rfl (by go_grown))
          | some p =>
            obtain ⟨n2, c2⟩ := p
            obtain ⟨hc20, hc2l, hn29⟩ := numAt_len hn2
            have hjb2 : ((c2 : Int) == 0) = false := beq_eq_false_iff_ne.2 (by omega)
            by_cases he : n2 = blk.length
            · have HE := hide (rixGo_ok (r := bk.drop (j + 1)) (acc := acc) HTX.out hn2 he)
              have hneb : ((n2 : Int) == (blk.length : Int)) = true := beq_iff_eq.2 (by omega)
              clear hn2 he
              simp only [natV]
              have hsl := run_slice_from (P := Try.prog) Try.underlying24 (by kernel_rfl) Try.info5 va (ds.length - (c + n)) (xcap2 - (c + n)) c2 c2 rfl (by omega)
              have hV2 := hV.from (lo := c2) (by omega)
              rw [bc_drop, List.drop_drop] at hV2
              generalize sliced va c2 (ds.length - (c + n)) (xcap2 - (c + n)) 1 = V3 at hsl hV2
              have hdl2 : (ds.drop (c + n + c2)).length ≤ 60000 := by rw [List.length_drop]; omega
              clear hvl
              go_wp2_with fail
              go_roundw
              case rel => exact ⟨j + 1, ds.drop (c + n + c2), acc ++ [t], by omega, by go_num, by rw [← HG.out, HE.out], by simp; omega, hdl2, hV2, by simpa using ho4, hbel4⟩
              case measure => simp [intOf]; omega
            · have HE := hide (openF_index HBIG.out HP.out (by rw [← HG.out]; exact rixGo_l HTX.out hn2 he))
              have hneb : ((n2 : Int) == (blk.length : Int)) = false := beq_eq_false_iff_ne.2 (by omega)
              clear hn2 he hvl
              simp only [natV]
              go_wp2_with fail
              refine (FC_any 5 1 _).mono ?_
              rintro e w9 ⟨rfl, hb9⟩
              have hF9 := hF4.below hb9 hF4.lt
              have hbw9 := hbw4.trans (hb9.mono hbw4.size)
              have r0 := hF9.cell 0
              have r1 := hF9.cell 1
              have r2 := hF9.frozen 0
              have r3 := hF9.frozen 1
              have hlt9 := hF9.lt
              simp at r0 r1
              (try clear hrd); (try clear hsm); (try clear hul); (try clear hxl); (try clear hmm); (try clear hl1); (try clear hl2); (try clear hl3); (try clear hl4); (try clear hj); (try clear hacc); (try clear hx1); (try clear hx2); (try clear hdl); (try clear hre1); (try clear hre2); (try clear hFl); (try clear hEl); (try clear hszq); (try clear hszr); (try clear hsz2); (try clear hsz3); (try clear hsz4); (try clear hbel); (try clear hbel2); (try clear hbel4); (try clear hbelq); (try clear hbq); (try clear hFq); (try clear hbwq); (try clear hFr); (try clear hbwr); (try clear hF1); (try clear hbw1); (try clear hown); (try clear hown2); (try clear ho4); (try clear hr); (try clear hV); (try clear hoA2); (try clear hoE2); (try clear hrc2); (try clear hbelq2); (try clear hryL); (try clear hrA); (try clear hbelA); (try clear hoAA); (try clear hoEA); (try clear hzA); (try clear hFFA); (try clear hbwA); (try clear hFA); (try clear f0); (try clear f1); (try clear hat3); (try clear hc0); (try clear hctA); (try clear hLl); (try clear hL1); (try clear hcl); (try clear hct); (try clear hrb); (try clear hp); (try clear hpb); (try clear hqb); (try clear hl10); (try clear hfn); (try clear HCJ); (try clear HKL); (try clear HP); (try clear HG); (try clear HR); (try clear HRC); (try clear HRL); (try clear HGF); (try clear HGE); (try clear HG2); (try clear HHD); (try clear HNE); (try clear HTK); (try clear HTX); (try clear hlt); (try clear hlt2); (try clear hi); (try clear hi2); (try clear hi3); (try clear hj2); (try clear hjb); (try clear hjb2); (try clear hneb); (try clear hng); (try clear hg); (try clear hc20); (try clear hc2l); (try clear hn29); (try clear hcl); (try clear hn9); (try clear hcu); (try clear hcu2); (try clear hcu4); (try clear hbb3); (try clear hbb); (try clear hb9); (try clear hx9); (try clear hF9); (try clear hF4); (try clear hF2); (try clear hbw2); (try clear hbw4); (try clear hcyL); (try clear hd1); (try clear hd2); (try clear hc1); (try clear hc2); (try clear hfd); (try clear hcb); (try clear h5); (try clear hd5); (try clear h5'); (try clear hnb); (try clear hdp); (try clear h2); (try clear h2'); (try clear h2d); (try clear hm); (try clear hB); (try clear hcx); (try clear hcy); (try clear hrx); (try clear hry); (try clear hqq)
              unfold fltC
              go_wp2_with fail
              exact bodyPost_ret (v := .tuple #[.slice none 0 0, .slice none 0 0, fltC (5, 1)]) (by simp [results, Try.results22, go_sem, fltC, r0, r1]) rfl (openPost_bad HE.out (by decide) rfl (by go_grown))
    · rw [List.drop_eq_nil_of_le (by rw [HKL.out]; omega), rixGo_end] at HG
      by_cases hds : ds = []
      · rw [if_pos hds] at HG
        subst hds
        simp only [List.length_nil]
        obtain ⟨wL, hwL⟩ : ∃ wL, wL = wr := ⟨_, rfl⟩
        subst hwL
        have hrl := rixGo_len _ _ _ _ HG.out.symm
        have HRL : Hid (acc.length = m) := hide (by rw [hrl, HKL.out]; simp)
        have hRr := Rd.ofOwns hown
        obtain ⟨ro, rcap, hrv⟩ := owns_shape hown
        subst hrv
        obtain ⟨ro', rcap', hrv', hre1, hre2, hrcell⟩ := hRr.open
        rw [sc_length] at hrv' hre1 hrcell
        simp only [Value.slice.injEq, true_and] at hrv'
        obtain ⟨rfl, rfl⟩ := hrv'
        unfold maxLen at hre2
        have HRC := hide hrcell
        have HR : Hid (rixGo x bk [] = some acc) := hide HG.out.symm
        have hcyL := (hbel.cell (p := ⟨b, off + (m + 1), none⟩) (by exact hbb)).trans hcy
        have hryL := hry.below hbel
        clear hrcell hrl hRr hown hrx hcx hcy hry hr
        go_wp2_with fail
        go_loopw [13, 14, 15] (fun a u i wq => ∃ (j : Nat) (gs : List (List Cl)) (F : List Cl) (E : List Int), j ≤ m ∧ i = .int .i64 j ∧ gs.flatten = F ∧ (gs.map fun g => (g.length : Int)) = E ∧ rbGo (bk.drop j) (acc.drop j) F = rbGo bk acc [] ∧ headsB gs = acc.take j ∧ (∀ g ∈ gs, g ≠ []) ∧ F.length ≤ 1000 * j ∧ E.length ≤ j ∧ wq.ownsRow wL.heap.size 53 5 a F.length (cc F) ∧ wq.ownsRow wL.heap.size 3 1 u E.length (ic E) ∧ Below wL.heap.size wL wq)
          (fun _ _ i _ => m - (intOf i).toNat)
        case atStart => exact ⟨0, [], [], [], by omega, rfl, rfl, rfl, rfl, rfl, by simp, by simp, by simp, World.ownsRow_nil _ _ _ _, World.ownsRow_nil _ _ _ _, Below.refl _ _⟩
        case round =>
          obtain ⟨i, gs, F, E, hi, rfl, hgF, hgE, hgo2, hhd, hne, hFl, hEl, hoA, hoE, hbq⟩ := hrel
          have HGF := hide hgF
          have HGE := hide hgE
          have HG2 := hide hgo2
          have HHD := hide hhd
          have HNE := hide hne
          clear hgF hgE hgo2 hhd hne
          have hszq := hbq.size
          have hFq := hFr.below hbq hFr.lt
          have hbwq := hbwr.trans (hbq.mono hbwr.size)
          have hbelq := hbel.trans (hbq.mono hbel.size)
          by_cases hlt2 : i < m
          · obtain ⟨blk, hblk⟩ : ∃ blk, bk[i]? = some blk := ⟨_, List.getElem?_eq_getElem (by rw [HKL.out]; exact hlt2)⟩
            obtain ⟨t, ht⟩ : ∃ t, acc[i]? = some t := ⟨_, List.getElem?_eq_getElem (by rw [HRL.out]; exact hlt2)⟩
            have hdr := drop_cons bk i (by rw [HKL.out]; exact hlt2)
            have hdr2 := drop_cons acc i (by rw [HRL.out]; exact hlt2)
            rw [(List.getElem?_eq_some_iff.1 hblk).2] at hdr
            rw [(List.getElem?_eq_some_iff.1 ht).2] at hdr2
            rw [hdr, hdr2] at HG2
            have HTK : Hid (acc.take (i + 1) = acc.take i ++ [t]) := hide (by rw [List.take_add_one, ht]; rfl)
            obtain ⟨b3, off3, uo, ucap, hb3, hbb3, hcu, hru, hbl6⟩ := HCJ.out i blk hblk
            simp only [Option.some.injEq, Addr.mk.injEq, and_true] at hb3
            obtain ⟨rfl, rfl⟩ := hb3
            obtain ⟨rb, roff, rfl, hrb, hrc⟩ := HRC.out i (by rw [HRL.out]; exact hlt2)
            have hct : wL.cell? ⟨rb, roff + i, none⟩ = some (.string ⟨t.toArray⟩) := hrc i _ (by simp [sc, ht])
            have hcu2 := (hbelq.cell (p := ⟨b, off + i, none⟩) (by exact hbb3)).trans hcu
            have hi2 : (i : Int) < (bb.length : Int) := by omega
            have hi3 : (i : Int) < (acc.length : Int) := by have := HRL.out; omega
            clear hdr hdr2 hblk ht hrc hcu hcyL
            go_wp2_with fail
            refine (CellsOf_any _ blk _ (hru.below hbelq) (by omega)).mono ?_
            rintro e w2 ⟨v2, rfl, hr2, hb2, -⟩
            have hbel2 : Below wL.heap.size wL w2 := hbq.trans (hb2.mono hszq)
            have hoA2 := owns_below hoA hb2
            have hoE2 := owns_below hoE hb2
            have hz2 := hbel2.size
            have hF2 := hFq.below hb2 hFq.lt
            have hbw2 := hbwq.trans (hb2.mono hbwq.size)
            clear hoA hoE hbq hb2 hru hcu2 hFq hbwq hbelq
            have HBAD := hide (@rbGo_bad blk (bk.drop (i + 1)) (t :: acc.drop (i + 1)) F)
            have HNONE := hide (@rbGo_none blk (bk.drop (i + 1)) (t :: acc.drop (i + 1)) F)
            have HROW := hide (fun (c : Cl) (l : List Cl) => @rbGo_row blk (bk.drop (i + 1)) (t :: acc.drop (i + 1)) F c l)
            have HOK := hide (fun (c : Cl) (l : List Cl) => @rbGo_ok blk (bk.drop (i + 1)) (t :: acc.drop (i + 1)) F c l)
            have HFINE := hide (@readCR_fine blk)
            generalize readCR blk = RC at *
            obtain ⟨L, p, q⟩ := RC
            simp only at hr2 ⊢
            unfold fltC
            obtain ⟨lo, lcap, hvl, hl1, hl2⟩ := hr2.shape
            subst hvl
            unfold maxLen at hl2
            have hrA := hr2.alloc (.cells #[.int .i64 p, .int .i64 q] 26)
            have hbelA : Below wL.heap.size wL (w2.alloc (.cells #[.int .i64 p, .int .i64 q] 26)) := hbel2.alloc hz2 _
            have hFA := Bk.new w2 26 #[.int .i64 p, .int .i64 q]
            have hoAA := hoA2.alloc (.cells #[.int .i64 p, .int .i64 q] 26)
            have hoEA := hoE2.alloc (.cells #[.int .i64 p, .int .i64 q] 26)
            have hzA : wL.heap.size ≤ (w2.alloc (.cells #[.int .i64 p, .int .i64 q] 26)).heap.size := hbelA.size
            have hFFA := hF2.below (below_alloc' w2 (.cells #[.int .i64 p, .int .i64 q] 26)) hF2.lt
            have hbwA : Below w.heap.size w (w2.alloc (.cells #[.int .i64 p, .int .i64 q] 26)) := hbw2.alloc hbw2.size _
            go_wp2_with fail
            generalize w2.alloc (.cells #[.int .i64 p, .int .i64 q] 26) = wA at *
            generalize w2.heap.size = zF at *
            have f0 := hFA.cell 0
            have f1 := hFA.cell 1
            simp at f0 f1
            clear hoA2 hoE2 hbel2 hr2 hF2 hbw2
            by_cases hp : p = 0
            · subst hp
              obtain ⟨hxy, hfn⟩ := HFINE.out rfl
              simp only [Prod.mk.injEq, true_and] at hxy
              subst hxy
              have hl10 : L.length ≤ 1000 := fine_len hfn
              cases L with
              | nil =>
                have HE := hide (openF_blocks HBIG.out HP.out HR.out (by rw [rbR, ← HG2.out, HNONE.out rfl rfl]))
                simp only [List.length_nil]
                clear HNONE HBAD HROW HOK HFINE
                go_quiet (fail)
                go_wp2_with fail
                refine (FC_any 5 2 _).mono ?_
                rintro e w9 ⟨rfl, hb9⟩
                have hx9 : Below wA.heap.size wA w9 := (below_drewN (Below.refl _ _) nq).trans hb9
                have hF9 := hFFA.below hx9 hFFA.lt
                have hbw9 := hbwA.trans (hx9.mono hbwA.size)
                have r0 := hF9.cell 0
                have r1 := hF9.cell 1
                have r2 := hF9.frozen 0
                have r3 := hF9.frozen 1
                have hlt9 := hF9.lt
                simp at r0 r1
                (try clear hrd); (try clear hsm); (try clear hul); (try clear hxl); (try clear hmm); (try clear hl1); (try clear hl2); (try clear hl3); (try clear hl4); (try clear hj); (try clear hacc); (try clear hx1); (try clear hx2); (try clear hdl); (try clear hre1); (try clear hre2); (try clear hFl); (try clear hEl); (try clear hszq); (try clear hszr); (try clear hsz2); (try clear hsz3); (try clear hsz4); (try clear hbel); (try clear hbel2); (try clear hbel4); (try clear hbelq); (try clear hbq); (try clear hFq); (try clear hbwq); (try clear hFr); (try clear hbwr); (try clear hF1); (try clear hbw1); (try clear hown); (try clear hown2); (try clear ho4); (try clear hr); (try clear hV); (try clear hoA2); (try clear hoE2); (try clear hrc2); (try clear hbelq2); (try clear hryL); (try clear hrA); (try clear hbelA); (try clear hoAA); (try clear hoEA); (try clear hzA); (try clear hFFA); (try clear hbwA); (try clear hFA); (try clear f0); (try clear f1); (try clear hat3); (try clear hc0); (try clear hctA); (try clear hLl); (try clear hL1); (try clear hcl); (try clear hct); (try clear hrb); (try clear hp); (try clear hpb); (try clear hqb); (try clear hl10); (try clear hfn); (try clear HCJ); (try clear HKL); (try clear HP); (try clear HG); (try clear HR); (try clear HRC); (try clear HRL); (try clear HGF); (try clear HGE); (try clear HG2); (try clear HHD); (try clear HNE); (try clear HTK); (try clear HTX); (try clear hlt); (try clear hlt2); (try clear hi); (try clear hi2); (try clear hi3); (try clear hj2); (try clear hjb); (try clear hjb2); (try clear hneb); (try clear hng); (try clear hg); (try clear hc20); (try clear hc2l); (try clear hn29); (try clear hcl); (try clear hn9); (try clear hcu); (try clear hcu2); (try clear hcu4); (try clear hbb3); (try clear hbb); (try clear hb9); (try clear hx9); (try clear hF9); (try clear hF4); (try clear hF2); (try clear hbw2); (try clear hbw4); (try clear hcyL); (try clear hd1); (try clear hd2); (try clear hc1); (try clear hc2); (try clear hfd); (try clear hcb); (try clear h5); (try clear hd5); (try clear h5'); (try clear hnb); (try clear hdp); (try clear h2); (try clear h2'); (try clear h2d); (try clear hm); (try clear hB); (try clear hcx); (try clear hcy); (try clear hrx); (try clear hry); (try clear hqq)
                unfold fltC
                go_wp2_with fail
                exact bodyPost_ret (v := .tuple #[.slice none 0 0, .slice none 0 0, fltC (5, 2)]) (by simp [results, Try.results22, go_sem, fltC, r0, r1]) rfl (openPost_bad HE.out (by decide) rfl (by go_grown))
              | cons c l =>
                obtain ⟨bl3, off3, rfl, -, hat3⟩ := hrA.hereD (i := 0) (c := c) rfl
                rw [Nat.zero_mul, Nat.add_zero] at hat3
                have hc0 := hat3.c0
                have hctA : wA.cell? ⟨rb, roff + i, none⟩ = some (.string ⟨t.toArray⟩) := (hbelA.cell (by exact hrb)).trans hct
                have hLl : (((c :: l).length : Int) == 0) = false := beq_eq_false_iff_ne.2 (by rw [List.length_cons]; omega)
                have hL1 : (0 : Int) < ((c :: l).length : Int) := by rw [List.length_cons]; omega
                have hcl : (c :: l).length = l.length + 1 := rfl
                by_cases hq : c.row.data.toList = t
                · have HE := hide (HOK.out c l rfl rfl (by simp [hq]))
                  have HQ := hide hq
                  have hqb : (c.row.toList == t) = true := by rw [ba_list, hq]; simp
                  clear hq HNONE HBAD HROW HOK HFINE
                  go_quiet (fail)
                  have hownq : (wA.drewN nq).ownsRow wL.heap.size 53 5 u13 F.length (cc F) := hoAA
                  have hoEq : (wA.drewN nq).ownsRow wL.heap.size 3 1 u14 E.length (ic E) := hoEA
                  have hrq : RdC (wA.drewN nq) (.slice (some ⟨bl3, off3, none⟩) (l.length + 1) lcap) (c :: l) := hrA
                  have hln : F.length + (c :: l).length ≤ 1000000000 := by omega
                  have hbelqq : Below wL.heap.size wL (wA.drewN nq) := below_drewN hbelA nq
                  have hzq : wL.heap.size ≤ (wA.drewN nq).heap.size := hzA
                  go_upto_region 32 with (at_builtin; go_must (refine wpList_append_rdC hownq hrq Try.underlying22 Try.info53 rfl rfl rfl rfl rfl hln (by decide) hzq ?_); intro v6 w6 ho6 hb6 hg6)
                  have hoE6 := owns_otherZ (by decide) hoEq hownq hg6
                  have hbel6 := hbelqq.trans hb6
                  have hz6 := hbel6.size
                  clear hownq hoEq hoAA hoEA hg6 hb6 hbelqq hzq hrq
                  go_wp2_with (at_builtin; go_must (refine wpList_append_one hoE6 Try.underlying44 Try.info3 rfl rfl rfl rfl rfl rfl (by omega) (by decide) hz6 ?_); intro v7 w7 ho7 hb7 hg7)
                  have ho67 := owns_otherZ (by decide) ho6 hoE6 hg7
                  rw [ic_snoc9] at ho7
                  go_roundw
                  case rel =>
                    refine ⟨i + 1, gs ++ [c :: l], F ++ (c :: l), E ++ [(l.length : Int) + 1], by omega, by go_num, by rw [List.flatten_append, HGF.out]; simp, by rw [List.map_append, HGE.out]; simp, by rw [← HG2.out, HE.out]; rfl, ?_, ?_, by rw [List.length_append]; omega, by simp; omega, by rw [List.length_append]; exact ho67, by simpa using ho7, hbel6.trans hb7⟩
                    · unfold headsB at HHD ⊢
                      rw [HTK.out, List.map_append, HHD.out, ← HQ.out]
                      rfl
                    · intro g hg
                      rcases List.mem_append.1 hg with h | h
                      · exact HNE.out g h
                      · simp at h
                        subst h
                        simp
                  case measure => simp [intOf]; omega
                · have HE := hide (openF_blocks HBIG.out HP.out HR.out (by rw [rbR, ← HG2.out, HROW.out c l rfl rfl (by simp [hq])]))
                  have hqb : (c.row.toList == t) = false := by rw [ba_list]; simp [hq]
                  clear hq HNONE HBAD HROW HOK HFINE
                  go_quiet (fail)
                  go_wp2_with fail
                  refine (FC_any 5 2 _).mono ?_
                  rintro e w9 ⟨rfl, hb9⟩
                  have hx9 : Below wA.heap.size wA w9 := (below_drewN (Below.refl _ _) nq).trans hb9
                  have hF9 := hFFA.below hx9 hFFA.lt
                  have hbw9 := hbwA.trans (hx9.mono hbwA.size)
                  have r0 := hF9.cell 0
                  have r1 := hF9.cell 1
                  have r2 := hF9.frozen 0
                  have r3 := hF9.frozen 1
                  have hlt9 := hF9.lt
                  simp at r0 r1
                  (try clear hrd); (try clear hsm); (try clear hul); (try clear hxl); (try clear hmm); (try clear hl1); (try clear hl2); (try clear hl3); (try clear hl4); (try clear hj); (try clear hacc); (try clear hx1); (try clear hx2); (try clear hdl); (try clear hre1); (try clear hre2); (try clear hFl); (try clear hEl); (try clear hszq); (try clear hszr); (try clear hsz2); (try clear hsz3); (try clear hsz4); (try clear hbel); (try clear hbel2); (try clear hbel4); (try clear hbelq); (try clear hbq); (try clear hFq); (try clear hbwq); (try clear hFr); (try clear hbwr); (try clear hF1); (try clear hbw1); (try clear hown); (try clear hown2); (try clear ho4); (try clear hr); (try clear hV); (try clear hoA2); (try clear hoE2); (try clear hrc2); (try clear hbelq2); (try clear hryL); (try clear hrA); (try clear hbelA); (try clear hoAA); (try clear hoEA); (try clear hzA); (try clear hFFA); (try clear hbwA); (try clear hFA); (try clear f0); (try clear f1); (try clear hat3); (try clear hc0); (try clear hctA); (try clear hLl); (try clear hL1); (try clear hcl); (try clear hct); (try clear hrb); (try clear hp); (try clear hpb); (try clear hqb); (try clear hl10); (try clear hfn); (try clear HCJ); (try clear HKL); (try clear HP); (try clear HG); (try clear HR); (try clear HRC); (try clear HRL); (try clear HGF); (try clear HGE); (try clear HG2); (try clear HHD); (try clear HNE); (try clear HTK); (try clear HTX); (try clear hlt); (try clear hlt2); (try clear hi); (try clear hi2); (try clear hi3); (try clear hj2); (try clear hjb); (try clear hjb2); (try clear hneb); (try clear hng); (try clear hg); (try clear hc20); (try clear hc2l); (try clear hn29); (try clear hcl); (try clear hn9); (try clear hcu); (try clear hcu2); (try clear hcu4); (try clear hbb3); (try clear hbb); (try clear hb9); (try clear hx9); (try clear hF9); (try clear hF4); (try clear hF2); (try clear hbw2); (try clear hbw4); (try clear hcyL); (try clear hd1); (try clear hd2); (try clear hc1); (try clear hc2); (try clear hfd); (try clear hcb); (try clear h5); (try clear hd5); (try clear h5'); (try clear hnb); (try clear hdp); (try clear h2); (try clear h2'); (try clear h2d); (try clear hm); (try clear hB); (try clear hcx); (try clear hcy); (try clear hrx); (try clear hry); (try clear hqq)
                  unfold fltC
                  go_wp2_with fail
                  exact bodyPost_ret (v := .tuple #[.slice none 0 0, .slice none 0 0, fltC (5, 2)]) (by simp [results, Try.results22, go_sem, fltC, r0, r1]) rfl (openPost_bad HE.out (by decide) rfl (by go_grown))
            · have HE := hide (openF_blocks HBIG.out HP.out HR.out (by rw [rbR, ← HG2.out, HBAD.out hp]))
              have hpb : (p != 0) = true := by simp [hp]
              clear HNONE HBAD HROW HOK HFINE
              go_quiet (fail)
              go_wp2_with fail
              refine (FC_any 5 2 _).mono ?_
              rintro e w9 ⟨rfl, hb9⟩
              have hx9 : Below wA.heap.size wA w9 := (below_drewN (Below.refl _ _) nq).trans hb9
              have hF9 := hFFA.below hx9 hFFA.lt
              have hbw9 := hbwA.trans (hx9.mono hbwA.size)
              have r0 := hF9.cell 0
              have r1 := hF9.cell 1
              have r2 := hF9.frozen 0
              have r3 := hF9.frozen 1
              have hlt9 := hF9.lt
              simp at r0 r1
              (try clear hrd); (try clear hsm); (try clear hul); (try clear hxl); (try clear hmm); (try clear hl1); (try clear hl2); (try clear hl3); (try clear hl4); (try clear hj); (try clear hacc); (try clear hx1); (try clear hx2); (try clear hdl); (try clear hre1); (try clear hre2); (try clear hFl); (try clear hEl); (try clear hszq); (try clear hszr); (try clear hsz2); (try clear hsz3); (try clear hsz4); (try clear hbel); (try clear hbel2); (try clear hbel4); (try clear hbelq); (try clear hbq); (try clear hFq); (try clear hbwq); (try clear hFr); (try clear hbwr); (try clear hF1); (try clear hbw1); (try clear hown); (try clear hown2); (try clear ho4); (try clear hr); (try clear hV); (try clear hoA2); (try clear hoE2); (try clear hrc2); (try clear hbelq2); (try clear hryL); (try clear hrA); (try clear hbelA); (try clear hoAA); (try clear hoEA); (try clear hzA); (try clear hFFA); (try clear hbwA); (try clear hFA); (try clear f0); (try clear f1); (try clear hat3); (try clear hc0); (try clear hctA); (try clear hLl); (try clear hL1); (try clear hcl); (try clear hct); (try clear hrb); (try clear hp); (try clear hpb); (try clear hqb); (try clear hl10); (try clear hfn); (try clear HCJ); (try clear HKL); (try clear HP); (try clear HG); (try clear HR); (try clear HRC); (try clear HRL); (try clear HGF); (try clear HGE); (try clear HG2); (try clear HHD); (try clear HNE); (try clear HTK); (try clear HTX); (try clear hlt); (try clear hlt2); (try clear hi); (try clear hi2); (try clear hi3); (try clear hj2); (try clear hjb); (try clear hjb2); (try clear hneb); (try clear hng); (try clear hg); (try clear hc20); (try clear hc2l); (try clear hn29); (try clear hcl); (try clear hn9); (try clear hcu); (try clear hcu2); (try clear hcu4); (try clear hbb3); (try clear hbb); (try clear hb9); (try clear hx9); (try clear hF9); (try clear hF4); (try clear hF2); (try clear hbw2); (try clear hbw4); (try clear hcyL); (try clear hd1); (try clear hd2); (try clear hc1); (try clear hc2); (try clear hfd); (try clear hcb); (try clear h5); (try clear hd5); (try clear h5'); (try clear hnb); (try clear hdp); (try clear h2); (try clear h2'); (try clear h2d); (try clear hm); (try clear hB); (try clear hcx); (try clear hcy); (try clear hrx); (try clear hry); (try clear hqq)
              unfold fltC
              go_wp2_with fail
              exact bodyPost_ret (v := .tuple #[.slice none 0 0, .slice none 0 0, fltC (5, 2)]) (by simp [results, Try.results22, go_sem, fltC, r0, r1]) rfl (openPost_bad HE.out (by decide) rfl (by go_grown))
          · rw [List.drop_eq_nil_of_le (by rw [HKL.out]; omega), rbGo] at HG2
            obtain ⟨ao2, cap2, hv2⟩ := ownsC_shape hoA
            subst hv2
            obtain ⟨eo, ecap, hv3⟩ := owns_shape hoE
            subst hv3
            have hrc := RdC.ofOwns hoA
            go_wp2_with fail
            refine (CellsFault_any _ F _ hrc).mono ?_
            rintro e w2 ⟨rfl, hb2⟩
            have hF2 := hFq.below hb2 hFq.lt
            have hbw2 := hbwq.trans (hb2.mono hbwq.size)
            have hoA2 := owns_below hoA hb2
            have hoE2 := owns_below hoE hb2
            have hrc2 := hrc.below hb2
            have hbelq2 : Below wL.heap.size wL w2 := hbq.trans (hb2.mono hszq)
            clear hFq hbwq hoA hoE hrc hb2
            by_cases hc : (checkC F).1 = 0
            · rw [checkC_zero hc]
              unfold fltC
              have hfd : ∀ W : World, (Instr.field 26 (.agg #[.int .i64 0, .int .i64 0]) 0).run Try.prog W = .ok (.int .i64 0) W := fun _ => by kernel_rfl
              by_cases h5 : F.length ≤ 500
              · have HRB : Hid (rbR bk acc = some F) := hide (by rw [rbR, ← HG2.out]; simp only; rw [if_pos h5, if_pos hc])
                have h5' : ¬ (500 : Int) < (F.length : Int) := by omega
                have hd5 : decide ((500 : Int) < (F.length : Int)) = false := decide_eq_false h5'
                have HZ : Hid (∀ c ∈ F, c.row.size ≤ 1000000) := hide (fun c h => by rw [ba_size]; have := (codeC_parts (fine_code hc h)).2.1; omega)
                have hcy2 : ∀ W, Below w2.heap.size w2 W → W.cell? ⟨b, off + (m + 1), none⟩ = some (.slice yo y.length ycap) := fun W h => (h.cell (p := ⟨b, off + (m + 1), none⟩) (by exact Nat.lt_of_lt_of_le hbb (Nat.le_trans hbel.size hbelq2.size))).trans ((hbelq2.cell (p := ⟨b, off + (m + 1), none⟩) (by exact Nat.lt_of_lt_of_le hbb hbel.size)).trans hcyL)
                have hcy0 := hcy2 w2 (Below.refl _ _)
                have HCY := hide hcy2
                have hry2 := hryL.below hbelq2
                have HC := hide hc
                have hw1 : IntKind.i64.wrap ((m : Int) + 1) = (m : Int) + 1 := by rw [IntKind.wrap_i64]; omega
                have hw2 : (0 : Int) ≤ (m : Int) + 1 := by omega
                clear hcy2 hc hcyL
                go_wp2_with fail
                by_cases hq : y = filtB F
                · have HE := hide (openF_ok HBIG.out HP.out HR.out HRB.out hq)
                  have HQ : Hid ((filtB F == y) = true) := hide (by rw [hq]; simp)
                  clear hq
                  go_region_held3 (fun W => W.cell? ⟨b, off + (m + 1), none⟩ = some (.slice yo y.length ycap)) (exact HCY.out _ (by go_grown)) (first
                    | (go_at_call 55; refine (FilterOf_any _ F _ (by exact hrc2.below (by go_grown)) (by omega) HZ.out).mono ?_; rintro e w4 ⟨v4, rfl, hf4, hb4, hn4⟩; have hx4 : Below w2.heap.size w2 w4 := Below.trans (by go_grown) hb4)
                    | (go_at_call 25; refine (Same_any _ _ (filtB F) y _ (by exact hf4.below (by go_grown)) (by exact hry2.below (by go_grown))).mono ?_; rintro e w5 ⟨rfl, rfl⟩; rw [HQ.out]))
                  all_goals
                    have hF4 := hF2.below hx4 hF2.lt
                    have hbw4 := hbw2.trans (hx4.mono hbw2.size)
                    have r0 := hF4.cell 0
                    have r1 := hF4.cell 1
                    have r2 := hF4.frozen 0
                    have r3 := hF4.frozen 1
                    have hlt9 := hF4.lt
                    simp at r0 r1
                    have hoA4 := owns_below hoA2 hx4
                    have hoE4 := owns_below hoE2 hx4
                    have hwL : w.heap.size < wL.heap.size := hFr.lt
                    go_wp2_with fail
                    exact bodyPost_ret (v := .tuple #[.slice ao2 F.length cap2, .slice eo E.length ecap, fltC (0, 0)]) (by simp [results, Try.results22, go_sem, fltC, r0, r1]) rfl ⟨_, _, gs, by rw [HE.out], by rw [HE.out]; exact ((RdC.ofOwns hoA4).setNew (New.owns hoA4) hwL _).setNew (New.owns hoA4) hwL _, by rw [HGE.out]; exact ((Rd.ofOwns hoE4).setNew (New.owns hoE4) hwL _).setNew (New.owns hoE4) hwL _, fun _ => by rw [HE.out]; exact ⟨HGF.out.symm, by rw [HHD.out, List.take_of_length_le (by rw [HRL.out]; omega)], HNE.out⟩, by go_grown⟩
                · have HE := hide (openF_filter HBIG.out HP.out HR.out HRB.out hq)
                  have HQ : Hid ((filtB F == y) = false) := hide (beq_eq_false_iff_ne.2 fun e => hq e.symm)
                  clear hq
                  go_region_held3 (fun W => W.cell? ⟨b, off + (m + 1), none⟩ = some (.slice yo y.length ycap)) (exact HCY.out _ (by go_grown)) (first
                    | (go_at_call 55; refine (FilterOf_any _ F _ (by exact hrc2.below (by go_grown)) (by omega) HZ.out).mono ?_; rintro e w4 ⟨v4, rfl, hf4, hb4, hn4⟩; have hx4 : Below w2.heap.size w2 w4 := Below.trans (by go_grown) hb4)
                    | (go_at_call 25; refine (Same_any _ _ (filtB F) y _ (by exact hf4.below (by go_grown)) (by exact hry2.below (by go_grown))).mono ?_; rintro e w5 ⟨rfl, rfl⟩; rw [HQ.out]))
                  all_goals
                    have hF4 := hF2.below hx4 hF2.lt
                    have hbw4 := hbw2.trans (hx4.mono hbw2.size)
                    go_wp2_with fail
                    refine (FC_any 5 3 _).mono ?_
                    rintro e w9 ⟨rfl, hb9⟩
                    have hF9 : Bk w9 w.heap.size 26 #[.int .i64 0, .int .i64 0] := by
                      refine Bk.below ?_ hb9 ?_
                      · exact hF4
                      · exact hF4.lt
                    have hbw9 : Below w.heap.size w w9 := by
                      refine Below.trans ?_ (hb9.mono ?_)
                      · go_grown
                      · exact hbw4.size
                    have r0 := hF9.cell 0
                    have r1 := hF9.cell 1
                    have r2 := hF9.frozen 0
                    have r3 := hF9.frozen 1
                    have hlt9 := hF9.lt
                    simp at r0 r1
                    (try clear hrd); (try clear hsm); (try clear hul); (try clear hxl); (try clear hmm); (try clear hl1); (try clear hl2); (try clear hl3); (try clear hl4); (try clear hj); (try clear hacc); (try clear hx1); (try clear hx2); (try clear hdl); (try clear hre1); (try clear hre2); (try clear hFl); (try clear hEl); (try clear hszq); (try clear hszr); (try clear hsz2); (try clear hsz3); (try clear hsz4); (try clear hbel); (try clear hbel2); (try clear hbel4); (try clear hbelq); (try clear hbq); (try clear hFq); (try clear hbwq); (try clear hFr); (try clear hbwr); (try clear hF1); (try clear hbw1); (try clear hown); (try clear hown2); (try clear ho4); (try clear hr); (try clear hV); (try clear hoA2); (try clear hoE2); (try clear hrc2); (try clear hbelq2); (try clear hryL); (try clear hrA); (try clear hbelA); (try clear hoAA); (try clear hoEA); (try clear hzA); (try clear hFFA); (try clear hbwA); (try clear hFA); (try clear f0); (try clear f1); (try clear hat3); (try clear hc0); (try clear hctA); (try clear hLl); (try clear hL1); (try clear hcl); (try clear hct); (try clear hrb); (try clear hp); (try clear hpb); (try clear hqb); (try clear hl10); (try clear hfn); (try clear HCJ); (try clear HKL); (try clear HP); (try clear HG); (try clear HR); (try clear HRC); (try clear HRL); (try clear HGF); (try clear HGE); (try clear HG2); (try clear HHD); (try clear HNE); (try clear HTK); (try clear HTX); (try clear hlt); (try clear hlt2); (try clear hi); (try clear hi2); (try clear hi3); (try clear hj2); (try clear hjb); (try clear hjb2); (try clear hneb); (try clear hng); (try clear hg); (try clear hc20); (try clear hc2l); (try clear hn29); (try clear hcl); (try clear hn9); (try clear hcu); (try clear hcu2); (try clear hcu4); (try clear hbb3); (try clear hbb); (try clear hb9); (try clear hx9); (try clear hF9); (try clear hF4); (try clear hF2); (try clear hbw2); (try clear hbw4); (try clear hcyL); (try clear hd1); (try clear hd2); (try clear hc1); (try clear hc2); (try clear hfd); (try clear hcb); (try clear h5); (try clear hd5); (try clear h5'); (try clear hnb); (try clear hdp); (try clear h2); (try clear h2'); (try clear h2d); (try clear hm); (try clear hB); (try clear hcx); (try clear hcy); (try clear hrx); (try clear hry); (try clear hqq)
                    unfold fltC
                    go_wp2_with fail
                    exact bodyPost_ret (v := .tuple #[.slice none 0 0, .slice none 0 0, fltC (5, 3)]) (by simp [results, Try.results22, go_sem, fltC, r0, r1]) rfl (openPost_bad HE.out (by decide) rfl (by go_grown))
              · have HE := hide (openF_blocks HBIG.out HP.out HR.out (by rw [rbR, ← HG2.out]; simp only; rw [if_neg h5]))
                have h5' : (500 : Int) < (F.length : Int) := by omega
                have hd5 : decide ((500 : Int) < (F.length : Int)) = true := decide_eq_true h5'
                clear hc
                go_wp2_with fail
                refine (FC_any 5 2 _).mono ?_
                rintro e w9 ⟨rfl, hb9⟩
                have hF9 := hF2.below hb9 hF2.lt
                have hbw9 := hbw2.trans (hb9.mono hbw2.size)
                have r0 := hF9.cell 0
                have r1 := hF9.cell 1
                have r2 := hF9.frozen 0
                have r3 := hF9.frozen 1
                have hlt9 := hF9.lt
                simp at r0 r1
                (try clear hrd); (try clear hsm); (try clear hul); (try clear hxl); (try clear hmm); (try clear hl1); (try clear hl2); (try clear hl3); (try clear hl4); (try clear hj); (try clear hacc); (try clear hx1); (try clear hx2); (try clear hdl); (try clear hre1); (try clear hre2); (try clear hFl); (try clear hEl); (try clear hszq); (try clear hszr); (try clear hsz2); (try clear hsz3); (try clear hsz4); (try clear hbel); (try clear hbel2); (try clear hbel4); (try clear hbelq); (try clear hbq); (try clear hFq); (try clear hbwq); (try clear hFr); (try clear hbwr); (try clear hF1); (try clear hbw1); (try clear hown); (try clear hown2); (try clear ho4); (try clear hr); (try clear hV); (try clear hoA2); (try clear hoE2); (try clear hrc2); (try clear hbelq2); (try clear hryL); (try clear hrA); (try clear hbelA); (try clear hoAA); (try clear hoEA); (try clear hzA); (try clear hFFA); (try clear hbwA); (try clear hFA); (try clear f0); (try clear f1); (try clear hat3); (try clear hc0); (try clear hctA); (try clear hLl); (try clear hL1); (try clear hcl); (try clear hct); (try clear hrb); (try clear hp); (try clear hpb); (try clear hqb); (try clear hl10); (try clear hfn); (try clear HCJ); (try clear HKL); (try clear HP); (try clear HG); (try clear HR); (try clear HRC); (try clear HRL); (try clear HGF); (try clear HGE); (try clear HG2); (try clear HHD); (try clear HNE); (try clear HTK); (try clear HTX); (try clear hlt); (try clear hlt2); (try clear hi); (try clear hi2); (try clear hi3); (try clear hj2); (try clear hjb); (try clear hjb2); (try clear hneb); (try clear hng); (try clear hg); (try clear hc20); (try clear hc2l); (try clear hn29); (try clear hcl); (try clear hn9); (try clear hcu); (try clear hcu2); (try clear hcu4); (try clear hbb3); (try clear hbb); (try clear hb9); (try clear hx9); (try clear hF9); (try clear hF4); (try clear hF2); (try clear hbw2); (try clear hbw4); (try clear hcyL); (try clear hd1); (try clear hd2); (try clear hc1); (try clear hc2); (try clear hfd); (try clear hcb); (try clear h5); (try clear hd5); (try clear h5'); (try clear hnb); (try clear hdp); (try clear h2); (try clear h2'); (try clear h2d); (try clear hm); (try clear hB); (try clear hcx); (try clear hcy); (try clear hrx); (try clear hry); (try clear hqq)
                unfold fltC
                go_wp2_with fail
                exact bodyPost_ret (v := .tuple #[.slice none 0 0, .slice none 0 0, fltC (5, 2)]) (by simp [results, Try.results22, go_sem, fltC, r0, r1]) rfl (openPost_bad HE.out (by decide) rfl (by go_grown))
            · have HE := hide (openF_blocks HBIG.out HP.out HR.out (by rw [rbR, ← HG2.out]; simp only; split <;> first | rw [if_neg hc] | rfl))
              have hcb : ((checkC F).1 != 0) = true := by simp [hc]
              clear hc
              generalize checkC F = r at *
              obtain ⟨p, q⟩ := r
              simp only at hcb
              unfold fltC
              have hfd : ∀ W : World, (Instr.field 26 (.agg #[.int .i64 p, .int .i64 q]) 0).run Try.prog W = .ok (.int .i64 p) W := fun _ => by kernel_rfl
              go_wp2_with fail
              refine (FC_any 5 2 _).mono ?_
              rintro e w9 ⟨rfl, hb9⟩
              have hF9 := hF2.below hb9 hF2.lt
              have hbw9 := hbw2.trans (hb9.mono hbw2.size)
              have r0 := hF9.cell 0
              have r1 := hF9.cell 1
              have r2 := hF9.frozen 0
              have r3 := hF9.frozen 1
              have hlt9 := hF9.lt
              simp at r0 r1
              (try clear hrd); (try clear hsm); (try clear hul); (try clear hxl); (try clear hmm); (try clear hl1); (try clear hl2); (try clear hl3); (try clear hl4); (try clear hj); (try clear hacc); (try clear hx1); (try clear hx2); (try clear hdl); (try clear hre1); (try clear hre2); (try clear hFl); (try clear hEl); (try clear hszq); (try clear hszr); (try clear hsz2); (try clear hsz3); (try clear hsz4); (try clear hbel); (try clear hbel2); (try clear hbel4); (try clear hbelq); (try clear hbq); (try clear hFq); (try clear hbwq); (try clear hFr); (try clear hbwr); (try clear hF1); (try clear hbw1); (try clear hown); (try clear hown2); (try clear ho4); (try clear hr); (try clear hV); (try clear hoA2); (try clear hoE2); (try clear hrc2); (try clear hbelq2); (try clear hryL); (try clear hrA); (try clear hbelA); (try clear hoAA); (try clear hoEA); (try clear hzA); (try clear hFFA); (try clear hbwA); (try clear hFA); (try clear f0); (try clear f1); (try clear hat3); (try clear hc0); (try clear hctA); (try clear hLl); (try clear hL1); (try clear hcl); (try clear hct); (try clear hrb); (try clear hp); (try clear hpb); (try clear hqb); (try clear hl10); (try clear hfn); (try clear HCJ); (try clear HKL); (try clear HP); (try clear HG); (try clear HR); (try clear HRC); (try clear HRL); (try clear HGF); (try clear HGE); (try clear HG2); (try clear HHD); (try clear HNE); (try clear HTK); (try clear HTX); (try clear hlt); (try clear hlt2); (try clear hi); (try clear hi2); (try clear hi3); (try clear hj2); (try clear hjb); (try clear hjb2); (try clear hneb); (try clear hng); (try clear hg); (try clear hc20); (try clear hc2l); (try clear hn29); (try clear hcl); (try clear hn9); (try clear hcu); (try clear hcu2); (try clear hcu4); (try clear hbb3); (try clear hbb); (try clear hb9); (try clear hx9); (try clear hF9); (try clear hF4); (try clear hF2); (try clear hbw2); (try clear hbw4); (try clear hcyL); (try clear hd1); (try clear hd2); (try clear hc1); (try clear hc2); (try clear hfd); (try clear hcb); (try clear h5); (try clear hd5); (try clear h5'); (try clear hnb); (try clear hdp); (try clear h2); (try clear h2'); (try clear h2d); (try clear hm); (try clear hB); (try clear hcx); (try clear hcy); (try clear hrx); (try clear hry); (try clear hqq)
              unfold fltC
              go_wp2_with fail
              exact bodyPost_ret (v := .tuple #[.slice none 0 0, .slice none 0 0, fltC (5, 2)]) (by simp [results, Try.results22, go_sem, fltC, r0, r1]) rfl (openPost_bad HE.out (by decide) rfl (by go_grown))
      · rw [if_neg hds] at HG
        have hdp : (0 : Int) < (ds.length : Int) := by have : 0 < ds.length := List.length_pos_iff.2 hds; omega
        have HE := hide (openF_index HBIG.out HP.out HG.out.symm)
        clear hds hrx hcx hcy hry
        go_wp2_with fail
        refine (FC_any 5 1 _).mono ?_
        rintro e w9 ⟨rfl, hb9⟩
        have hF9 := hFr.below hb9 hFr.lt
        have hbw9 := hbwr.trans (hb9.mono hbwr.size)
        have r0 := hF9.cell 0
        have r1 := hF9.cell 1
        have r2 := hF9.frozen 0
        have r3 := hF9.frozen 1
        have hlt9 := hF9.lt
        simp at r0 r1
        (try clear hrd); (try clear hsm); (try clear hul); (try clear hxl); (try clear hmm); (try clear hl1); (try clear hl2); (try clear hl3); (try clear hl4); (try clear hj); (try clear hacc); (try clear hx1); (try clear hx2); (try clear hdl); (try clear hre1); (try clear hre2); (try clear hFl); (try clear hEl); (try clear hszq); (try clear hszr); (try clear hsz2); (try clear hsz3); (try clear hsz4); (try clear hbel); (try clear hbel2); (try clear hbel4); (try clear hbelq); (try clear hbq); (try clear hFq); (try clear hbwq); (try clear hFr); (try clear hbwr); (try clear hF1); (try clear hbw1); (try clear hown); (try clear hown2); (try clear ho4); (try clear hr); (try clear hV); (try clear hoA2); (try clear hoE2); (try clear hrc2); (try clear hbelq2); (try clear hryL); (try clear hrA); (try clear hbelA); (try clear hoAA); (try clear hoEA); (try clear hzA); (try clear hFFA); (try clear hbwA); (try clear hFA); (try clear f0); (try clear f1); (try clear hat3); (try clear hc0); (try clear hctA); (try clear hLl); (try clear hL1); (try clear hcl); (try clear hct); (try clear hrb); (try clear hp); (try clear hpb); (try clear hqb); (try clear hl10); (try clear hfn); (try clear HCJ); (try clear HKL); (try clear HP); (try clear HG); (try clear HR); (try clear HRC); (try clear HRL); (try clear HGF); (try clear HGE); (try clear HG2); (try clear HHD); (try clear HNE); (try clear HTK); (try clear HTX); (try clear hlt); (try clear hlt2); (try clear hi); (try clear hi2); (try clear hi3); (try clear hj2); (try clear hjb); (try clear hjb2); (try clear hneb); (try clear hng); (try clear hg); (try clear hc20); (try clear hc2l); (try clear hn29); (try clear hcl); (try clear hn9); (try clear hcu); (try clear hcu2); (try clear hcu4); (try clear hbb3); (try clear hbb); (try clear hb9); (try clear hx9); (try clear hF9); (try clear hF4); (try clear hF2); (try clear hbw2); (try clear hbw4); (try clear hcyL); (try clear hd1); (try clear hd2); (try clear hc1); (try clear hc2); (try clear hfd); (try clear hcb); (try clear h5); (try clear hd5); (try clear h5'); (try clear hnb); (try clear hdp); (try clear h2); (try clear h2'); (try clear h2d); (try clear hm); (try clear hB); (try clear hcx); (try clear hcy); (try clear hrx); (try clear hry); (try clear hqq)
        unfold fltC
        go_wp2_with fail
        exact bodyPost_ret (v := .tuple #[.slice none 0 0, .slice none 0 0, fltC (5, 1)]) (by simp [results, Try.results22, go_sem, fltC, r0, r1]) rfl (openPost_bad HE.out (by decide) rfl (by go_grown))

end Go.Proofs.Ytlebbkbbmgmmjac
