/-
  Texts joined: WritesMath, CrcMath, FrameW1, FrameW2, FrameW3, FrameW4, TornMath.
-/
import Derived.Test.YtlebbkbbmgmmjadMWalNotes3
import Derived.Laws.CopyOwn
import Derived.Deep.RegionHeld3
/-
  The bytes of cells, and cells of bytes: plain mathematics.
-/
namespace Go.Proofs.Ytlebbkbbmgmmjad

/-- A text's bytes, its length ahead of it. -/
def txB (s : ByteArray) : List UInt8 := encN s.data.toList.length ++ s.data.toList
def goneN (c : Cl) : Nat := if c.gone then 1 else 0
/-- A cell's bytes. -/
def cellB (c : Cl) : List UInt8 := txB c.row ++ (txB c.col ++ (encN c.time.toNat ++ (encN (goneN c) ++ txB c.val)))
def flatC (cs : List Cl) : List UInt8 := cs.flatMap cellB

theorem flatC_nil : flatC [] = [] := rfl
theorem flatC_cons (c : Cl) (cs : List Cl) : flatC (c :: cs) = cellB c ++ flatC cs := rfl
theorem flatC_append (a b : List Cl) : flatC (a ++ b) = flatC a ++ flatC b := by simp [flatC]
theorem flatC_snoc (cs : List Cl) (k : Nat) (h : k < cs.length) : flatC (cs.take (k + 1)) = flatC (cs.take k) ++ cellB cs[k] := by
  rw [List.take_succ_eq_append_getElem h, flatC_append]
  simp [flatC]

theorem ba_data (s : ByteArray) : (⟨s.data.toList.toArray⟩ : ByteArray) = s := by cases s; simp
theorem ba_size (s : ByteArray) : s.size = s.data.toList.length := by cases s; simp [ByteArray.size]
theorem ba_list (s : ByteArray) : s.toList = s.data.toList := by rw [ByteArray.toList_eq]

/-- A cell as it is written, whether it is one or not. -/
def rawAt (bs : List UInt8) : Option (Cl × Nat) :=
  match textAt bs with
  | none => none
  | some (r, k1) => match textAt (bs.drop k1) with
    | none => none
    | some (c, k2) => match numAt (bs.drop (k1 + k2)) with
      | none => none
      | some (t, k3) => match numAt (bs.drop (k1 + k2 + k3)) with
        | none => none
        | some (g, k4) => if 1 < g then none else match textAt (bs.drop (k1 + k2 + k3 + k4)) with
          | none => none
          | some (v, k5) => some (⟨⟨r.toArray⟩, ⟨c.toArray⟩, (t : Int), g == 1, ⟨v.toArray⟩⟩, k1 + k2 + k3 + k4 + k5)

theorem rawAt_1 {bs : List UInt8} (h : textAt bs = none) : rawAt bs = none := by unfold rawAt; rw [h]
theorem rawAt_2 {bs r : List UInt8} {k1 : Nat} (h1 : textAt bs = some (r, k1)) (h : textAt (bs.drop k1) = none) : rawAt bs = none := by unfold rawAt; rw [h1]; simp only; rw [h]
theorem rawAt_3 {bs r c : List UInt8} {k1 k2 : Nat} (h1 : textAt bs = some (r, k1)) (h2 : textAt (bs.drop k1) = some (c, k2)) (h : numAt (bs.drop (k1 + k2)) = none) : rawAt bs = none := by unfold rawAt; rw [h1]; simp only; rw [h2]; simp only; rw [h]
theorem rawAt_4 {bs r c : List UInt8} {k1 k2 t k3 : Nat} (h1 : textAt bs = some (r, k1)) (h2 : textAt (bs.drop k1) = some (c, k2)) (h3 : numAt (bs.drop (k1 + k2)) = some (t, k3)) (h : numAt (bs.drop (k1 + k2 + k3)) = none) : rawAt bs = none := by
  unfold rawAt; rw [h1]; simp only; rw [h2]; simp only; rw [h3]; simp only; rw [h]
theorem rawAt_5 {bs r c : List UInt8} {k1 k2 t k3 g k4 : Nat} (h1 : textAt bs = some (r, k1)) (h2 : textAt (bs.drop k1) = some (c, k2)) (h3 : numAt (bs.drop (k1 + k2)) = some (t, k3)) (h4 : numAt (bs.drop (k1 + k2 + k3)) = some (g, k4)) (h : 1 < g) : rawAt bs = none := by
  unfold rawAt; rw [h1]; simp only; rw [h2]; simp only; rw [h3]; simp only; rw [h4]; simp only; rw [if_pos h]
theorem rawAt_6 {bs r c : List UInt8} {k1 k2 t k3 g k4 : Nat} (h1 : textAt bs = some (r, k1)) (h2 : textAt (bs.drop k1) = some (c, k2)) (h3 : numAt (bs.drop (k1 + k2)) = some (t, k3)) (h4 : numAt (bs.drop (k1 + k2 + k3)) = some (g, k4)) (h : textAt (bs.drop (k1 + k2 + k3 + k4)) = none) : rawAt bs = none := by
  unfold rawAt; rw [h1]; simp only; rw [h2]; simp only; rw [h3]; simp only; rw [h4]; simp only; rw [h]; simp
theorem rawAt_ok {bs r c v : List UInt8} {k1 k2 t k3 g k4 k5 : Nat} (h1 : textAt bs = some (r, k1)) (h2 : textAt (bs.drop k1) = some (c, k2)) (h3 : numAt (bs.drop (k1 + k2)) = some (t, k3)) (h4 : numAt (bs.drop (k1 + k2 + k3)) = some (g, k4)) (hg : ¬ 1 < g) (h5 : textAt (bs.drop (k1 + k2 + k3 + k4)) = some (v, k5)) :
    rawAt bs = some (⟨⟨r.toArray⟩, ⟨c.toArray⟩, (t : Int), g == 1, ⟨v.toArray⟩⟩, k1 + k2 + k3 + k4 + k5) := by
  unfold rawAt; rw [h1]; simp only; rw [h2]; simp only; rw [h3]; simp only; rw [h4]; simp only; rw [if_neg hg, h5]

/-- A cell at the beginning of bytes. -/
def cellAt (bs : List UInt8) : Option (Cl × Nat) :=
  match rawAt bs with
  | none => none
  | some (c, k) => if codeC c = 0 then some (c, k) else none

theorem cellAt_no {bs : List UInt8} (h : rawAt bs = none) : cellAt bs = none := by unfold cellAt; rw [h]
theorem cellAt_bad {bs : List UInt8} {c : Cl} {k : Nat} (h : rawAt bs = some (c, k)) (hc : codeC c ≠ 0) : cellAt bs = none := by unfold cellAt; rw [h]; simp only; rw [if_neg hc]
theorem cellAt_ok {bs : List UInt8} {c : Cl} {k : Nat} (h : rawAt bs = some (c, k)) (hc : codeC c = 0) : cellAt bs = some (c, k) := by unfold cellAt; rw [h]; simp only; rw [if_pos hc]

theorem textAt_len {bs t : List UInt8} {m : Nat} (h : textAt bs = some (t, m)) : 0 < m ∧ m ≤ bs.length := by
  obtain ⟨n, k, h1, h2, _, h3, _⟩ := textAt_some h
  omega

theorem rawAt_len {bs : List UInt8} {c : Cl} {k : Nat} (h : rawAt bs = some (c, k)) : 0 < k ∧ k ≤ bs.length := by
  unfold rawAt at h
  split at h
  · cases h
  · rename_i r k1 h1
    split at h
    · cases h
    · rename_i c k2 h2
      split at h
      · cases h
      · rename_i t k3 h3
        split at h
        · cases h
        · rename_i g k4 h4
          split at h
          · cases h
          · split at h
            · cases h
            · rename_i v k5 h5
              simp only [Option.some.injEq, Prod.mk.injEq] at h
              have a1 := textAt_len h1
              have a5 := textAt_len h5
              rw [List.length_drop] at a5
              omega

theorem cellAt_len {bs : List UInt8} {c : Cl} {k : Nat} (h : cellAt bs = some (c, k)) : rawAt bs = some (c, k) ∧ codeC c = 0 ∧ 0 < k ∧ k ≤ bs.length := by
  unfold cellAt at h
  split at h
  · cases h
  · rename_i c' k' hr
    split at h
    · rename_i hc
      simp only [Option.some.injEq, Prod.mk.injEq] at h
      obtain ⟨rfl, rfl⟩ := h
      exact ⟨hr, hc, rawAt_len hr⟩
    · cases h

/-- What Read comes to, from what is left on. -/
def rdCells : Nat → List UInt8 → List Cl → List Cl × (Int × Int)
  | 0, _, _ => ([], (0, 0))
  | f + 1, bs, acc =>
    if bs = [] then (if (checkC acc).1 = 0 then (acc, (0, 0)) else ([], checkC acc))
    else match cellAt bs with
      | none => ([], (5, (acc.length : Int)))
      | some (c, k) => rdCells f (bs.drop k) (acc ++ [c])

def readCR (bs : List UInt8) : List Cl × (Int × Int) := if 60000 < bs.length then ([], (8, 0)) else rdCells (bs.length + 1) bs []
theorem rdCells_end {f : Nat} {acc : List Cl} (h : (checkC acc).1 = 0) : rdCells (f + 1) [] acc = (acc, (0, 0)) := by rw [rdCells, if_pos rfl, if_pos h]
theorem rdCells_fault {f : Nat} {acc : List Cl} (h : (checkC acc).1 ≠ 0) : rdCells (f + 1) [] acc = ([], checkC acc) := by rw [rdCells, if_pos rfl, if_neg h]
theorem rdCells_bad {f : Nat} {bs : List UInt8} {acc : List Cl} (h : bs ≠ []) (hn : cellAt bs = none) : rdCells (f + 1) bs acc = ([], (5, (acc.length : Int))) := by rw [rdCells, if_neg h, hn]
theorem rdCells_step {f : Nat} {bs : List UInt8} {acc : List Cl} {c : Cl} {k : Nat} (h : bs ≠ []) (hn : cellAt bs = some (c, k)) : rdCells (f + 1) bs acc = rdCells f (bs.drop k) (acc ++ [c]) := by rw [rdCells, if_neg h, hn]
theorem readCR_big {bs : List UInt8} (h : 60000 < bs.length) : readCR bs = ([], (8, 0)) := by rw [readCR, if_pos h]
theorem readCR_go {bs : List UInt8} (h : ¬ 60000 < bs.length) : readCR bs = rdCells (bs.length + 1) bs [] := by rw [readCR, if_neg h]

theorem rdCells_cases : ∀ (f : Nat) (bs : List UInt8) (acc : List Cl), (rdCells f bs acc).2.1 ≠ 0 → (rdCells f bs acc).1 = []
  | 0, _, _, h => rfl
  | f + 1, bs, acc, h => by
    rw [rdCells] at h ⊢
    split
    · rename_i h1
      rw [if_pos h1] at h
      split
      · rename_i h2
        rw [if_pos h2] at h
        simp at h
      · rfl
    · rename_i h1
      rw [if_neg h1] at h
      split
      · rfl
      · rename_i c k hc
        rw [hc] at h
        exact rdCells_cases f _ _ h

theorem readCR_fault {bs : List UInt8} (h : (readCR bs).2.1 ≠ 0) : (readCR bs).1 = [] := by
  unfold readCR at h ⊢
  split
  · rfl
  · rename_i h1
    rw [if_neg h1] at h
    exact rdCells_cases _ _ _ h

/-- What Write comes to, from what is left on. -/
def wrGo : List Cl → List UInt8 → List UInt8 × (Int × Int)
  | [], acc => (acc, (0, 0))
  | c :: cs, acc => if 60000 < (acc ++ cellB c).length then ([], (9, 0)) else wrGo cs (acc ++ cellB c)

def writeCR (cs : List Cl) : List UInt8 × (Int × Int) := if (checkC cs).1 = 0 then wrGo cs [] else ([], checkC cs)
theorem writeCR_bad {cs : List Cl} (h : (checkC cs).1 ≠ 0) : writeCR cs = ([], checkC cs) := by rw [writeCR, if_neg h]
theorem writeCR_go {cs : List Cl} (h : (checkC cs).1 = 0) : writeCR cs = wrGo cs [] := by rw [writeCR, if_pos h]
theorem wrGo_much {cs : List Cl} {acc : List UInt8} {c : Cl} (h : 60000 < (acc ++ cellB c).length) : wrGo (c :: cs) acc = ([], (9, 0)) := by rw [wrGo, if_pos h]
theorem wrGo_step {cs : List Cl} {acc : List UInt8} {c : Cl} (h : ¬ 60000 < (acc ++ cellB c).length) : wrGo (c :: cs) acc = wrGo cs (acc ++ cellB c) := by rw [wrGo, if_neg h]

theorem wrGo_eq : ∀ (cs : List Cl) (acc : List UInt8), acc.length ≤ 60000 → wrGo cs acc = if 60000 < (acc ++ flatC cs).length then ([], (9, 0)) else (acc ++ flatC cs, (0, 0))
  | [], acc, h => by rw [wrGo, flatC_nil, List.append_nil, if_neg (by omega)]
  | c :: cs, acc, h => by
    by_cases h1 : 60000 < (acc ++ cellB c).length
    · rw [wrGo_much h1, if_pos]
      rw [flatC_cons]
      simp only [List.length_append] at h1 ⊢
      omega
    · rw [wrGo_step h1, wrGo_eq cs _ (by omega), flatC_cons, List.append_assoc]

theorem writeCR_eq {cs : List Cl} (h : (checkC cs).1 = 0) : writeCR cs = if 60000 < (flatC cs).length then ([], (9, 0)) else (flatC cs, (0, 0)) := by
  rw [writeCR_go h, wrGo_eq _ _ (by simp)]
  rfl

theorem codeC_parts {c : Cl} (h : codeC c = 0) : c.row.data.toList ≠ [] ∧ c.row.data.toList.length ≤ 40 ∧ c.col.data.toList.length ≤ 40 ∧ c.val.data.toList.length ≤ 200 ∧ 0 ≤ c.time ∧ c.time ≤ 1000000000 := by
  unfold codeC at h
  split at h
  · simp at h
  · rename_i h1
    split at h
    · simp at h
    · rename_i h2
      have e1 := ba_size c.row
      have e2 := ba_size c.col
      have e3 := ba_size c.val
      unfold isNumB at h2
      simp at h2
      have hr : c.row.data.toList ≠ [] := by
        intro e
        apply h1
        left
        rw [ba_list, e]
        rfl
      refine ⟨hr, ?_, ?_, ?_, ?_⟩ <;> omega

theorem cellB_pos (c : Cl) : 0 < (cellB c).length := by
  unfold cellB txB
  simp only [List.length_append]
  have : 0 < (encN c.row.data.toList.length).length := enc_pos 9 _
  omega

theorem cellB_len {c : Cl} (h : codeC c = 0) : (cellB c).length ≤ 330 := by
  obtain ⟨_, h1, h2, h3, _⟩ := codeC_parts h
  unfold cellB txB
  simp only [List.length_append]
  have a1 := encN_length c.row.data.toList.length
  have a2 := encN_length c.col.data.toList.length
  have a3 := encN_length c.val.data.toList.length
  have a4 := encN_length c.time.toNat
  have a5 := encN_length (goneN c)
  omega

theorem textAt_txB (s : ByteArray) (r : List UInt8) (h : s.data.toList.length ≤ 1000000000) : textAt (txB s ++ r) = some (s.data.toList, (txB s).length) := by
  unfold txB
  rw [textAt_enc _ _ h, List.length_append]

theorem drop_left' {α : Type} {a b : List α} {k : Nat} (h : k = a.length) : (a ++ b).drop k = b := by subst h; simp

/-- A cell that is written is read as it was. -/
theorem rawAt_cellB {c : Cl} (r : List UInt8) (h : codeC c = 0) : rawAt (cellB c ++ r) = some (c, (cellB c).length) := by
  obtain ⟨_, h1, h2, h3, h4, h5⟩ := codeC_parts h
  have hg : goneN c ≤ 1 := by unfold goneN; split <;> omega
  have e1 : cellB c ++ r = txB c.row ++ (txB c.col ++ (encN c.time.toNat ++ (encN (goneN c) ++ (txB c.val ++ r)))) := by unfold cellB; simp only [List.append_assoc]
  have e2 : (cellB c ++ r).drop (txB c.row).length = txB c.col ++ (encN c.time.toNat ++ (encN (goneN c) ++ (txB c.val ++ r))) := by rw [e1, List.drop_left]
  have e3 : (cellB c ++ r).drop ((txB c.row).length + (txB c.col).length) = encN c.time.toNat ++ (encN (goneN c) ++ (txB c.val ++ r)) := by rw [← List.drop_drop, e2, List.drop_left]
  have e4 : (cellB c ++ r).drop ((txB c.row).length + (txB c.col).length + (encN c.time.toNat).length) = encN (goneN c) ++ (txB c.val ++ r) := by rw [← List.drop_drop, e3, List.drop_left]
  have e5 : (cellB c ++ r).drop ((txB c.row).length + (txB c.col).length + (encN c.time.toNat).length + (encN (goneN c)).length) = txB c.val ++ r := by rw [← List.drop_drop, e4, List.drop_left]
  have t1 : textAt (cellB c ++ r) = some (c.row.data.toList, (txB c.row).length) := by rw [e1]; exact textAt_txB _ _ (by omega)
  have t2 : textAt ((cellB c ++ r).drop (txB c.row).length) = some (c.col.data.toList, (txB c.col).length) := by rw [e2]; exact textAt_txB _ _ (by omega)
  have t3 : numAt ((cellB c ++ r).drop ((txB c.row).length + (txB c.col).length)) = some (c.time.toNat, (encN c.time.toNat).length) := by rw [e3]; exact numAt_enc _ _ (by omega)
  have t4 : numAt ((cellB c ++ r).drop ((txB c.row).length + (txB c.col).length + (encN c.time.toNat).length)) = some (goneN c, (encN (goneN c)).length) := by rw [e4]; exact numAt_enc _ _ (by omega)
  have t5 : textAt ((cellB c ++ r).drop ((txB c.row).length + (txB c.col).length + (encN c.time.toNat).length + (encN (goneN c)).length)) = some (c.val.data.toList, (txB c.val).length) := by rw [e5]; exact textAt_txB _ _ (by omega)
  rw [rawAt_ok t1 t2 t3 t4 (by omega) t5, ba_data, ba_data, ba_data]
  have hl : (txB c.row).length + (txB c.col).length + (encN c.time.toNat).length + (encN (goneN c)).length + (txB c.val).length = (cellB c).length := by
    unfold cellB
    simp only [List.length_append]
    omega
  rw [hl]
  have ht : ((c.time.toNat : Nat) : Int) = c.time := by omega
  have hgo : (goneN c == 1) = c.gone := by unfold goneN; cases c.gone <;> rfl
  rw [ht, hgo]

theorem cellAt_cellB {c : Cl} (r : List UInt8) (h : codeC c = 0) : cellAt (cellB c ++ r) = some (c, (cellB c).length) := cellAt_ok (rawAt_cellB r h) h

theorem rdCells_flat : ∀ (cs : List Cl) (f : Nat) (acc : List Cl), (∀ c ∈ cs, codeC c = 0) → cs.length ≤ f → rdCells (f + 1) (flatC cs) acc = if (checkC (acc ++ cs)).1 = 0 then (acc ++ cs, (0, 0)) else ([], checkC (acc ++ cs))
  | [], f, acc, _, _ => by
    rw [flatC_nil, rdCells, if_pos rfl, List.append_nil]
  | c :: cs, 0, acc, _, hf => by simp at hf
  | c :: cs, f + 1, acc, h, hf => by
    have hne : flatC (c :: cs) ≠ [] := by
      intro e
      have := cellB_pos c
      rw [flatC_cons] at e
      rw [(List.append_eq_nil_iff.1 e).1] at this
      simp at this
    have hc := cellAt_cellB (flatC cs) (h c (List.mem_cons_self ..))
    rw [← flatC_cons] at hc
    rw [rdCells_step hne hc]
    have hd : (flatC (c :: cs)).drop (cellB c).length = flatC cs := by rw [flatC_cons, List.drop_left]
    rw [hd, rdCells_flat cs f (acc ++ [c]) (fun d hd => h d (List.mem_cons_of_mem _ hd)) (by simpa using hf)]
    simp only [List.append_assoc, List.singleton_append]

theorem flatC_len : ∀ (cs : List Cl), cs.length ≤ (flatC cs).length
  | [] => by simp
  | c :: cs => by
    have := cellB_pos c
    have := flatC_len cs
    rw [flatC_cons, List.length_append, List.length_cons]
    omega

/-- Cells that are written are read as they were. -/
theorem read_write {cs : List Cl} (h : (checkC cs).1 = 0) (hl : (flatC cs).length ≤ 60000) : readCR (flatC cs) = (cs, (0, 0)) := by
  rw [readCR_go (by omega), rdCells_flat cs _ [] (fun c hc => fine_code h hc) (by have := flatC_len cs; omega), List.nil_append, if_pos h]

end Go.Proofs.Ytlebbkbbmgmmjad

/-
  The sum: plain mathematics.
-/
namespace Go.Proofs.Ytlebbkbbmgmmjad

/-- One bit goes down. -/
def crcBit (c : Nat) : Nat := if c % 2 = 1 then (c / 2) ^^^ 3988292384 else c / 2
def crcBits : Nat → Nat → Nat
  | 0, c => c
  | j + 1, c => crcBit (crcBits j c)

def crcByte (c : Nat) (x : UInt8) : Nat := crcBits 8 (c ^^^ x.toNat)
def crcGo (c : Nat) (bs : List UInt8) : Nat := bs.foldl crcByte c
def crc (bs : List UInt8) : Nat := 4294967295 - crcGo 4294967295 bs

theorem xor_rc {a b c : Nat} (h : a ^^^ c = b ^^^ c) : a = b := by
  have := congrArg (· ^^^ c) h
  simpa [Nat.xor_assoc] using this

theorem xor_lc {a b c : Nat} (h : c ^^^ a = c ^^^ b) : a = b := by
  rw [Nat.xor_comm c a, Nat.xor_comm c b] at h
  exact xor_rc h

theorem crcBit_lt {c : Nat} (h : c < 4294967296) : crcBit c < 4294967296 := by
  unfold crcBit
  split
  · exact Nat.xor_lt_two_pow (n := 32) (by omega) (by decide)
  · omega

theorem crcBits_lt {c : Nat} (h : c < 4294967296) : ∀ j, crcBits j c < 4294967296
  | 0 => h
  | j + 1 => crcBit_lt (crcBits_lt h j)

theorem crcByte_lt {c : Nat} (x : UInt8) (h : c < 4294967296) : crcByte c x < 4294967296 :=
  crcBits_lt (Nat.xor_lt_two_pow (n := 32) h (by have := x.toNat_lt; omega)) 8

theorem crcGo_lt : ∀ (bs : List UInt8) {c : Nat}, c < 4294967296 → crcGo c bs < 4294967296
  | [], _, h => h
  | x :: bs, _, h => crcGo_lt bs (crcByte_lt x h)

theorem crc_lt (bs : List UInt8) : crc bs < 4294967296 := by unfold crc; omega
theorem crcGo_snoc (c : Nat) (bs : List UInt8) (k : Nat) (h : k < bs.length) : crcGo c (bs.take (k + 1)) = crcByte (crcGo c (bs.take k)) bs[k] := by
  rw [List.take_succ_eq_append_getElem h]
  simp only [crcGo, List.foldl_append, List.foldl_cons, List.foldl_nil]

theorem crcGo_append (c : Nat) (xs ys : List UInt8) : crcGo c (xs ++ ys) = crcGo (crcGo c xs) ys := by simp [crcGo]

/-! ### no two differ in one place alone and have the same sum -/
theorem crcBit_inj {a b : Nat} (ha : a < 4294967296) (hb : b < 4294967296) (h : crcBit a = crcBit b) : a = b := by
  unfold crcBit at h
  have key : ∀ x y : Nat, x < 2147483648 → y < 2147483648 → x ^^^ 3988292384 ≠ y := by
    intro x y hx hy e
    have h1 : x ^^^ y = 3988292384 := by
      rw [← e, ← Nat.xor_assoc, Nat.xor_self, Nat.zero_xor]
    have h2 : x ^^^ y < 2 ^ 31 := Nat.xor_lt_two_pow hx hy
    rw [h1] at h2
    exact absurd h2 (by decide)
  split at h
  · split at h
    · have := xor_rc h
      omega
    · exact absurd h (key _ _ (by omega) (by omega))
  · split at h
    · exact absurd h.symm (key _ _ (by omega) (by omega))
    · omega

theorem crcBits_inj {a b : Nat} (ha : a < 4294967296) (hb : b < 4294967296) : ∀ j, crcBits j a = crcBits j b → a = b
  | 0, h => h
  | j + 1, h => crcBits_inj ha hb j (crcBit_inj (crcBits_lt ha j) (crcBits_lt hb j) h)

theorem xor_byte_lt {c : Nat} (x : UInt8) (h : c < 4294967296) : c ^^^ x.toNat < 4294967296 := Nat.xor_lt_two_pow (n := 32) h (by have := x.toNat_lt; omega)
theorem crcByte_inj {a b : Nat} (x : UInt8) (ha : a < 4294967296) (hb : b < 4294967296) (h : crcByte a x = crcByte b x) : a = b :=
  xor_rc (crcBits_inj (xor_byte_lt x ha) (xor_byte_lt x hb) 8 h)

theorem crcByte_inj' {c : Nat} (x y : UInt8) (hc : c < 4294967296) (h : crcByte c x = crcByte c y) : x = y :=
  UInt8.toNat_inj.1 (xor_lc (crcBits_inj (xor_byte_lt x hc) (xor_byte_lt y hc) 8 h))

theorem crcGo_inj : ∀ (bs : List UInt8) {a b : Nat}, a < 4294967296 → b < 4294967296 → crcGo a bs = crcGo b bs → a = b
  | [], _, _, _, _, h => h
  | x :: bs, _, _, ha, hb, h => crcByte_inj x ha hb (crcGo_inj bs (crcByte_lt x ha) (crcByte_lt x hb) h)

theorem crc_one {xs ys : List UInt8} {x y : UInt8} (h : x ≠ y) : crc (xs ++ x :: ys) ≠ crc (xs ++ y :: ys) := by
  intro e
  unfold crc at e
  have h0 : crcGo 4294967295 xs < 4294967296 := crcGo_lt xs (by decide)
  have h1 := crcGo_lt (xs ++ x :: ys) (c := 4294967295) (by decide)
  have h2 := crcGo_lt (xs ++ y :: ys) (c := 4294967295) (by decide)
  have e2 : crcGo 4294967295 (xs ++ x :: ys) = crcGo 4294967295 (xs ++ y :: ys) := by omega
  rw [crcGo_append, crcGo_append] at e2
  exact h (crcByte_inj' x y h0 (crcGo_inj ys (crcByte_lt x h0) (crcByte_lt y h0) e2))

/-! ### four bytes, the highest first -/
def be4 (n : Nat) : List UInt8 := [UInt8.ofNat (n / 16777216), UInt8.ofNat (n / 65536 % 256), UInt8.ofNat (n / 256 % 256), UInt8.ofNat (n % 256)]
def beVal (bs : List UInt8) : Nat := bs.foldl (fun n x => n * 256 + x.toNat) 0
theorem beVal_be4 (n : Nat) (h : n < 4294967296) : beVal (be4 n) = n := by
  simp only [beVal, be4, List.foldl_cons, List.foldl_nil]
  rw [u8_ofNat_toNat _ (by omega), u8_ofNat_toNat _ (by omega), u8_ofNat_toNat _ (by omega), u8_ofNat_toNat _ (by omega)]
  omega

theorem beVal_go_lt : ∀ (bs : List UInt8) (n j : Nat), n < 256 ^ j → bs.foldl (fun n x => n * 256 + x.toNat) n < 256 ^ (j + bs.length)
  | [], n, j, h => h
  | x :: bs, n, j, h => by
    have hx := x.toNat_lt
    have := beVal_go_lt bs (n * 256 + x.toNat) (j + 1) (by rw [Nat.pow_succ]; omega)
    rw [List.length_cons, show j + (bs.length + 1) = j + 1 + bs.length by omega]
    exact this

theorem beVal_lt {bs : List UInt8} (h : bs.length ≤ 4) : beVal bs < 4294967296 := by
  have h1 := beVal_go_lt bs 0 0 (by simp)
  have h2 : 256 ^ (0 + bs.length) ≤ 256 ^ 4 := Nat.pow_le_pow_right (by decide) (by omega)
  have h3 : (256 : Nat) ^ 4 = 4294967296 := by decide
  unfold beVal
  omega

theorem beVal_snoc (bs : List UInt8) (k : Nat) (h : k < bs.length) : beVal (bs.take (k + 1)) = beVal (bs.take k) * 256 + bs[k].toNat := by
  rw [List.take_succ_eq_append_getElem h]
  simp only [beVal, List.foldl_append, List.foldl_cons, List.foldl_nil]

theorem beVal_go_inj : ∀ (xs ys : List UInt8) (m n : Nat), xs.length = ys.length → xs.foldl (fun n x => n * 256 + x.toNat) m = ys.foldl (fun n x => n * 256 + x.toNat) n → m = n ∧ xs = ys
  | [], [], m, n, _, h => ⟨h, rfl⟩
  | x :: xs, y :: ys, m, n, hl, h => by
    obtain ⟨h1, h2⟩ := beVal_go_inj xs ys _ _ (by simpa using hl) h
    have hx := x.toNat_lt
    have hy := y.toNat_lt
    simp only at h1
    have : x = y := UInt8.toNat_inj.1 (by omega)
    exact ⟨by omega, by rw [this, h2]⟩
  | [], y :: ys, _, _, hl, _ => by simp at hl
  | x :: xs, [], _, _, hl, _ => by simp at hl

theorem beVal_inj {xs ys : List UInt8} (hl : xs.length = ys.length) (h : beVal xs = beVal ys) : xs = ys := (beVal_go_inj xs ys 0 0 hl h).2
theorem be4_length (n : Nat) : (be4 n).length = 4 := rfl
theorem be4_beVal {bs : List UInt8} (h : bs.length = 4) : be4 (beVal bs) = bs := by
  refine beVal_inj (by rw [be4_length, h]) ?_
  exact beVal_be4 _ (beVal_lt (by omega))

/-! ### a frame -/
def head2 (n : Nat) : List UInt8 := [UInt8.ofNat (n / 256), UInt8.ofNat (n % 256)]
def framed (body : List UInt8) : List UInt8 := head2 body.length ++ body ++ be4 (crc (head2 body.length ++ body))
theorem framed_length (body : List UInt8) : (framed body).length = body.length + 6 := by
  simp [framed, head2, be4]

/-- The body of the whole frame with which bytes begin. -/
def frameAt (bs : List UInt8) : Option (List UInt8) :=
  match bs with
  | a :: b :: r =>
    if bs.length < 6 + (a.toNat * 256 + b.toNat) then none
    else if crc (bs.take (2 + (a.toNat * 256 + b.toNat))) ≠ beVal ((bs.drop (2 + (a.toNat * 256 + b.toNat))).take 4) then none
    else some (r.take (a.toNat * 256 + b.toNat))
  | _ => none

end Go.Proofs.Ytlebbkbbmgmmjad

/-
  The walks over package wire's sum and its frames.
-/
namespace Go.Proofs.Ytlebbkbbmgmmjad
open Go.RowKit

theorem u32_and1 (c : Nat) (h : c < 4294967296) : bits .and .u32 (c : Int) 1 = ((c % 2 : Nat) : Int) := by
  rw [show (1 : Int) = ((1 : Nat) : Int) from rfl, u32_and_nat c 1 h (by decide), nat_mask1]

theorem u32_xorP (c : Nat) (h : c < 4294967296) : bits .xor .u32 (c : Int) 3988292384 = ((c ^^^ 3988292384 : Nat) : Int) := by
  rw [show (3988292384 : Int) = ((3988292384 : Nat) : Int) from rfl, u32_xor_nat c 3988292384 h (by decide)]

theorem nat_not32 (c : Nat) (h : c < 4294967296) : 4294967295 ^^^ c = 4294967295 - c := by
  have := congrArg BitVec.toNat (BitVec.allOnes_xor (x := BitVec.ofNat 32 c))
  rw [BitVec.toNat_xor, BitVec.toNat_not, BitVec.toNat_allOnes, BitVec.toNat_ofNat, Nat.mod_eq_of_lt (by omega)] at this
  exact this

theorem u32_not (c : Nat) (h : c < 4294967296) : bits .xor .u32 IntKind.u32.max (c : Int) = ((4294967295 - c : Nat) : Int) := by
  rw [show IntKind.u32.max = ((4294967295 : Nat) : Int) by decide, u32_xor_nat 4294967295 c (by decide) h, nat_not32 c h]

set_option maxRecDepth 100000 in
set_option maxHeartbeats 400000 in
theorem remainder_any (v : Value) (bs : List UInt8) (w : World) (hrd : Rd w v (bc bs)) :
    Calls Try.prog 109 #[v] w fun e w' => e = .returned (.int .u32 (crc bs)) ∧ w' = w := by
  obtain ⟨ao, cap, hv, hc1, hc2, hcell⟩ := hrd.open
  rw [bc_length] at hc1 hv hcell
  subst hv
  unfold maxLen at hc2
  go_enter Try.func109, Try.ntmps109
  go_wp2_with fail
  go_loop [3, 9] (fun c i => ∃ k : Nat, k ≤ bs.length ∧ i = .int .i64 k ∧ c = .int .u32 (crcGo 4294967295 (bs.take k))) (fun _ i => bs.length - (intOf i).toNat)
  case atStart => exact ⟨0, by omega, rfl, rfl⟩
  case round =>
    obtain ⟨k, hk, rfl, rfl⟩ := hrel
    have hcl := crcGo_lt (bs.take k) (c := 4294967295) (by decide)
    by_cases hlt : k < bs.length
    · obtain ⟨b, off, rfl, hb, hcl1⟩ := hcell k hlt
      have hck : w.cell? ⟨b, off + k, none⟩ = some (.int .u8 (bs[k].toNat : Int)) := hcl1 k _ (by simp [bc, hlt])
      have hsn := crcGo_snoc 4294967295 bs k hlt
      clear hcell hcl1
      unfold crcByte at hsn
      have hxl := bs[k].toNat_lt
      generalize bs[k].toNat = x at *
      generalize crcGo 4294967295 (bs.take k) = c at *
      have hx := u32_xor_nat c x hcl (by omega)
      have hcx : c ^^^ x < 4294967296 := Nat.xor_lt_two_pow (n := 32) hcl (by omega)
      have HS := hide hsn
      clear hsn
      generalize c ^^^ x = d at *
      go_wp2_with fail
      go_loop [3, 17] (fun c i => ∃ j : Nat, j ≤ 8 ∧ i = .int .i64 j ∧ c = .int .u32 (crcBits j d)) (fun _ i => 8 - (intOf i).toNat)
      case atStart => exact ⟨0, by omega, rfl, rfl⟩
      case round =>
        obtain ⟨j, hj, rfl, rfl⟩ := hrel
        have hdl := crcBits_lt hcx j
        by_cases hj8 : j < 8
        · have hst : crcBits (j + 1) d = crcBit (crcBits j d) := rfl
          generalize crcBits j d = g at *
          have ha := u32_and1 g hdl
          have hxp := u32_xorP (g / 2) (by omega)
          unfold crcBit at hst
          by_cases ho : g % 2 = 1
          · rw [if_pos ho] at hst
            have hob : (((g % 2 : Nat) : Int) == 1) = true := by rw [ho]; rfl
            have HO := hide ho
            have HST := hide hst
            clear ho hst
            go_wp2_with fail
            go_round
            case rel => exact ⟨j + 1, by omega, by go_num, by rw [HST.out, ← hxp]; rfl⟩
            case measure => simp [intOf]; omega
          · rw [if_neg ho] at hst
            have hob : (((g % 2 : Nat) : Int) == 1) = false := beq_eq_false_iff_ne.2 (by omega)
            have HO := hide ho
            have HST := hide hst
            clear ho hst
            go_wp2_with fail
            go_round
            case rel => exact ⟨j + 1, by omega, by go_num, by rw [HST.out]; rfl⟩
            case measure => simp [intOf]; omega
        · obtain rfl : j = 8 := by omega
          go_wp2_with fail
          go_round
          case rel => exact ⟨k + 1, by omega, by go_num, by rw [HS.out]⟩
          case measure => simp [intOf]; omega
    · rw [List.take_of_length_le (by omega)] at hcl ⊢
      have hn := u32_not _ hcl
      have hcr : 4294967295 - crcGo 4294967295 bs = crc bs := rfl
      rw [hcr] at hn
      have HN := hide hn
      clear hn hcr
      go_wp2_with fail
      go_ret
      exact ⟨by rw [← HN.out]; rfl, rfl⟩

set_option maxRecDepth 100000 in
set_option maxHeartbeats 400000 in
theorem highFirst_any (v : Value) (bs : List UInt8) (w : World) (hrd : Rd w v (bc bs)) (hl : bs.length ≤ 4) :
    Calls Try.prog 121 #[v] w fun e w' => e = .returned (.int .u32 (beVal bs)) ∧ w' = w := by
  obtain ⟨ao, cap, hv, hc1, hc2, hcell⟩ := hrd.open
  rw [bc_length] at hc1 hv hcell
  subst hv
  unfold maxLen at hc2
  go_enter Try.func121, Try.ntmps121
  go_wp2_with fail
  go_loop [3, 8] (fun c i => ∃ k : Nat, k ≤ bs.length ∧ i = .int .i64 k ∧ c = .int .u32 (beVal (bs.take k))) (fun _ i => bs.length - (intOf i).toNat)
  case atStart => exact ⟨0, by omega, rfl, rfl⟩
  case round =>
    obtain ⟨k, hk, rfl, rfl⟩ := hrel
    by_cases hlt : k < bs.length
    · obtain ⟨b, off, rfl, hb, hcl1⟩ := hcell k hlt
      have hck : w.cell? ⟨b, off + k, none⟩ = some (.int .u8 (bs[k].toNat : Int)) := hcl1 k _ (by simp [bc, hlt])
      have hsn := beVal_snoc bs k hlt
      have hlt3 : beVal (bs.take k) < 16777216 := by
        have h1 := beVal_go_lt (bs.take k) 0 0 (by simp)
        have h2 : 256 ^ (0 + (bs.take k).length) ≤ 256 ^ 3 := Nat.pow_le_pow_right (by decide) (by simp; omega)
        have h3 : (256 : Nat) ^ 3 = 16777216 := by decide
        unfold beVal
        omega
      clear hcell hcl1
      have hxl := bs[k].toNat_lt
      generalize bs[k].toNat = x at *
      generalize beVal (bs.take k) = c at *
      have HS := hide hsn
      clear hsn
      have hor := u32_or_nat (c * 256) x (by omega) (by omega)
      rw [nat_join 8 (c * 256) x (by omega) (by omega)] at hor
      have HO := hide hor
      clear hor
      go_wp2_with fail
      go_round
      case rel => exact ⟨k + 1, by omega, by go_num, by rw [HS.out, ← HO.out, Int.natCast_mul]; rfl⟩
      case measure => simp [intOf]; omega
    · rw [List.take_of_length_le (by omega)]
      go_wp2_with fail
      go_ret
      exact ⟨rfl, rfl⟩


theorem Rd.lits (w : World) (cs : Array Value) (e : TypeId) (h : cs.size ≤ 1000) : Rd (w.alloc (.cells cs e)) (.slice (some ⟨w.heap.size, 0, none⟩) cs.size cs.size) cs.toList :=
  Rd.ofOwns (World.ownsRow_lit (base := 0) (size := 1) w cs cs.size (Nat.zero_le _) (by simp [maxLen]; omega) (by simp))

/-- A slice that lies below B, while what lies from B on changes. -/
theorem Rd.low {w w' : World} {v : Value} {xs : List Value} {B : Nat} (h : Rd w v xs) (hlt : ∀ a l c, v = .slice (some a) l c → 0 < xs.length → a.block < B) (hb : Below B w w') : Rd w' v xs := by
  obtain ⟨ao, cap, hv, h1, h2, h3, h4⟩ := h
  refine ⟨ao, cap, hv, h1, h2, h3, fun a ha j u hu => ?_⟩
  have hc := h4 a ha j u hu
  have e : (a.add j).block = a.block := by unfold Addr.add; split <;> rfl
  have := hlt a _ _ (by rw [hv, ha]) (by have := (List.getElem?_eq_some_iff.1 hu).1; omega)
  rw [hb.cell (by omega)]
  exact hc

theorem head2_cells (n : Nat) (h : n ≤ 65535) : [Value.int .u8 ((n : Int) / 256), Value.int .u8 ((n : Int) % 256)] = bc (head2 n) := by
  simp only [bc, head2, List.map_cons, List.map_nil]
  rw [u8_ofNat_toNat _ (by omega), u8_ofNat_toNat _ (by omega)]
  simp

theorem be4_cells (n : Nat) (h : n < 4294967296) : [Value.int .u8 ((n : Int) / 16777216), Value.int .u8 ((n : Int) / 65536 % 256), Value.int .u8 ((n : Int) / 256 % 256), Value.int .u8 ((n : Int) % 256)] = bc (be4 n) := by
  simp only [bc, be4, List.map_cons, List.map_nil]
  rw [u8_ofNat_toNat _ (by omega), u8_ofNat_toNat _ (by omega), u8_ofNat_toNat _ (by omega), u8_ofNat_toNat _ (by omega)]
  simp

set_option maxRecDepth 100000 in
set_option maxHeartbeats 400000 in
theorem AppendFrame_any (v x : Value) (xs bs : List UInt8) (base : Nat) (w : World) (hown : w.ownsRow base 5 1 v xs.length (bc xs)) (hb : base ≤ w.heap.size) (hrd : Rd w x (bc bs))
    (hlt : ∀ a l c, x = .slice (some a) l c → 0 < (bc bs).length → a.block < base) (hx : xs.length ≤ 100000) (hl : bs.length ≤ 65535) :
    Calls Try.prog 79 #[v, x] w fun e w' => ∃ v', e = .returned v' ∧ w'.ownsRow base 5 1 v' (xs ++ framed bs).length (bc (xs ++ framed bs)) ∧ Below base w w' := by
  obtain ⟨ao, cap, hv, hc1, hc2, _⟩ := hrd.open
  rw [bc_length] at hc1 hv
  subst hv
  unfold maxLen at hc2
  obtain ⟨vo, vc, hv⟩ := owns_shape hown
  subst hv
  go_enter Try.func79, Try.ntmps79
  go_upto_region 3 with (at_builtin; go_must (refine wpList_append_rd (hown.alloc _) (Rd.lits _ _ _ (by simp)) Try.underlying42 Try.info5 rfl rfl rfl rfl rfl (by simp [Value.oneCell']) (by simp; omega) (by decide) (by simp; omega) ?_); intro v1 w1 ho1 hb1 hg1; clear hg1)
  have hbw1 : Below base w w1 := ((Below.refl _ _).alloc hb _).trans hb1
  have hx1 := hrd.low hlt hbw1
  have hsz1 : base ≤ w1.heap.size := by have := hbw1.size; omega
  have ho1' : w1.ownsRow base 5 1 v1 (xs ++ head2 bs.length).length (bc (xs ++ head2 bs.length)) := by
    rw [bc_append, ← head2_cells _ hl, List.length_append]
    exact ho1
  clear ho1 hb1 hown hrd
  go_upto_region 4 with (at_builtin; go_must (refine wpList_append_rd ho1' hx1 Try.underlying42 Try.info5 rfl rfl rfl rfl rfl (bc_one _) (by rw [bc_length]; simp [head2]; omega) (by decide) hsz1 ?_); intro v2 w2 ho2 hb2 hg2; clear hg2)
  have hbw2 := hbw1.trans hb2
  have hsz2 : base ≤ w2.heap.size := by have := hbw2.size; omega
  have ho2' : w2.ownsRow base 5 1 v2 (xs ++ (head2 bs.length ++ bs)).length (bc (xs ++ (head2 bs.length ++ bs))) := by
    rw [bc_length, ← bc_append, List.append_assoc, ← List.length_append, List.append_assoc] at ho2
    exact ho2
  have hl2 : (xs ++ (head2 bs.length ++ bs)).length = xs.length + (bs.length + 2) := by simp [head2]
  have hcrc := crc_lt (head2 bs.length ++ bs)
  have hfr : framed bs = (head2 bs.length ++ bs) ++ be4 (crc (head2 bs.length ++ bs)) := rfl
  clear ho2 ho1' hb2 hx1 hbw1 hsz1
  obtain ⟨ao2, cap2, hv2⟩ := owns_shape ho2'
  rw [hl2] at hv2
  subst hv2
  have hr2 : Rd w2 _ (bc (xs ++ (head2 bs.length ++ bs))) := Rd.ofOwns ho2'
  have hlen := hr2.len
  have hsl := run_slice_from (P := Try.prog) Try.underlying42 (by kernel_rfl) Try.info5 ao2 (xs.length + (bs.length + 2)) cap2 xs.length xs.length rfl (by omega)
  have hV := hr2.from (lo := xs.length) (by omega)
  rw [bc_drop, List.drop_left] at hV
  generalize sliced ao2 xs.length (xs.length + (bs.length + 2)) cap2 1 = V at hV hsl
  have HF := hide hfr
  have HL2 := hide hl2
  clear hfr hr2 hlen hl2
  generalize head2 bs.length ++ bs = hd at *
  go_wp2_with fail
  refine (remainder_any _ hd _ hV).mono ?_
  rintro e w3 ⟨rfl, hw3⟩
  subst hw3
  generalize hS : crc hd = S at *
  have HS := hide hS
  clear hS
  go_wp2_with (at_builtin; go_must (refine wpList_append_rd (ho2'.alloc _) (Rd.lits _ _ _ (by simp)) Try.underlying42 Try.info5 rfl rfl rfl rfl rfl (by simp [Value.oneCell']) (by have := HL2.out; simp only [List.length_append] at this ⊢; simp; omega) (by decide) (by simp; omega) ?_); intro v4 w4 ho4 hb4 hg4; clear hg4)
  go_ret
  refine ⟨v4, rfl, ?_, (hbw2.alloc hsz2 _).trans hb4⟩
  rw [HF.out, show xs.length + (hd ++ be4 S).length = (xs ++ hd).length + 4 by simp [be4, Nat.add_assoc], ← List.append_assoc, bc_append (xs ++ hd), ← be4_cells _ hcrc]
  exact ho4

end Go.Proofs.Ytlebbkbbmgmmjad

/-
  The walks over wire.Frames and wire.Open.
-/
namespace Go.Proofs.Ytlebbkbbmgmmjad
open Go.RowKit

theorem Rd.lts {w : World} {v : Value} {xs : List Value} (h : Rd w v xs) : ∀ a l c, v = .slice (some a) l c → 0 < xs.length → a.block < w.heap.size := by
  intro a l c e hp
  subst e
  exact h.block_lt hp

/-- A list of bodies: a slice of slices of bytes. -/
def RdB (w : World) (v : Value) (bb : List (List UInt8)) : Prop :=
  ∃ vs : List Value, Rd w v vs ∧ vs.length = bb.length ∧ ∀ (i : Nat) (u : Value) (b : List UInt8), vs[i]? = some u → bb[i]? = some b → Rd w u (bc b)

theorem RdB.below {w w' : World} {v : Value} {bb : List (List UInt8)} (h : RdB w v bb) (hb : Below w.heap.size w w') : RdB w' v bb := by
  obtain ⟨vs, h1, h2, h3⟩ := h
  exact ⟨vs, h1.below hb, h2, fun i u b hu hb' => (h3 i u b hu hb').below hb⟩

theorem RdB.nil (w : World) : RdB w (.slice none 0 0) [] := ⟨[], Rd.nil w, rfl, fun i u b hu => by simp at hu⟩
theorem RdB.drewN {w : World} {v : Value} {bb : List (List UInt8)} (h : RdB w v bb) (n : Nat) : RdB (w.drewN n) v bb := h
theorem RdB.open {w : World} {v : Value} {bb : List (List UInt8)} (h : RdB w v bb) :
    ∃ ao cap, v = .slice ao bb.length cap ∧ bb.length ≤ cap ∧ cap ≤ maxLen ∧ ∀ j (hj : j < bb.length), ∃ b off u, ao = some ⟨b, off, none⟩ ∧ b < w.heap.size ∧ w.cell? ⟨b, off + j, none⟩ = some u ∧ Rd w u (bc bb[j]) := by
  obtain ⟨vs, h1, h2, h3⟩ := h
  obtain ⟨ao, cap, hv, hc1, hc2, hc⟩ := h1.open
  rw [h2] at hv hc1 hc
  refine ⟨ao, cap, hv, hc1, hc2, fun j hj => ?_⟩
  obtain ⟨b, off, e, hb, hcl⟩ := hc j hj
  have hj' : j < vs.length := by omega
  exact ⟨b, off, vs[j], e, hb, hcl j _ (List.getElem?_eq_getElem hj'), h3 j _ _ (List.getElem?_eq_getElem hj') (List.getElem?_eq_getElem hj)⟩

/-- What Frames comes to, from what is left on. -/
def framesGo : List (List UInt8) → List UInt8 → List UInt8 × Int × Int
  | [], acc => (acc, 0, 0)
  | b :: bb, acc => if 60000 < acc.length + b.length + 6 then ([], 9, 0) else framesGo bb (acc ++ framed b)

def framesR (bb : List (List UInt8)) : List UInt8 × Int × Int := if 1000 < bb.length then ([], 2, 0) else framesGo bb []
theorem framesGo_step (zs : List (List UInt8)) (k : Nat) (acc : List UInt8) (h : k < zs.length) (h1 : acc.length + zs[k].length + 6 ≤ 60000) :
    framesGo (zs.drop (k + 1)) (acc ++ framed zs[k]) = framesGo (zs.drop k) acc := by
  rw [drop_cons zs k h, framesGo, if_neg (by omega)]

theorem framesGo_bad (zs : List (List UInt8)) (k : Nat) (acc : List UInt8) (h : k < zs.length) (h1 : 60000 < acc.length + zs[k].length + 6) : framesGo (zs.drop k) acc = ([], 9, 0) := by
  rw [drop_cons zs k h, framesGo, if_pos h1]

theorem framesGo_end (zs : List (List UInt8)) (k : Nat) (acc : List UInt8) (h : zs.length ≤ k) : framesGo (zs.drop k) acc = (acc, 0, 0) := by
  rw [List.drop_eq_nil_of_le h, framesGo]


end Go.Proofs.Ytlebbkbbmgmmjad

/-
  The walk over the reader's frames.
-/
namespace Go.Proofs.Ytlebbkbbmgmmjad
open Go.RowKit

/-- 'copy(dst, src)', dst just made, src as long as it. -/
theorem wpList_copy_full {P : Program} {w : World} {ops : Array Oper} {rest : List Oper} {o : Oper} {a : Act} {Q : Exit → Act → World → Prop} {d s : Operand} {dT sT e : TypeId} {base g n : Nat} {z : Value} {bytes : Nat} {vx : Value} {xs news : List Value}
    (hown : w.ownsRow base e 1 (.slice (some ⟨g, 0, none⟩) n n) n xs) (hrd : Rd w vx news) (hn : news.length = n)
    (ht : P.underlying dT = some (.slice e)) (hinf : (P.info? e).map (fun i => (i.zero, i.size, i.bytes)) = some (some z, 1, bytes))
    (hgd : o.guard = none) (ho : o.op = .call { callee := .builtin .copy, args := #[d, s], argTypes := #[dT, sT] })
    (hd : a.eval d = .slice (some ⟨g, 0, none⟩) n n) (hs : a.eval s = vx) (h1 : ∀ u ∈ news, u.oneCell' = true)
    (h : ∀ w', w'.ownsRow base e 1 (.slice (some ⟨g, 0, none⟩) n n) n news → w.grownBy w' (some g) → wpList P ops Q rest (a.put o.dst (.int .i64 (n : Int))) w') : wpList P ops Q (o :: rest) a w := by
  obtain ⟨i, hi, _, hsize, _⟩ := info_parts hinf
  have hsz : (P.info? e).map (·.size) = some 1 := by rw [hi]; simp [hsize]
  obtain ⟨ao, cap, hvx, h2, h3, h4, h5⟩ := hrd
  by_cases h0 : n = 0
  · subst h0
    obtain rfl : news = [] := List.eq_nil_of_length_eq_zero hn
    have hxs : xs = [] := List.eq_nil_of_length_eq_zero (by simpa using hown.1)
    subst hxs
    refine wpList_copy_nothing hgd d s dT sT ho e ht hsz _ ao 0 0 0 cap hd (hs.trans hvx) (by simp) ?_
    exact h w hown (World.grownBy.refl _ _)
  · have hb := hown
    rcases hown.2 with ⟨hv, _⟩ | ⟨g', cap', cur, hv, hbg, hg, hnc, hcm, hcs, htake⟩
    · simp at hv
    · simp only [Value.slice.injEq, Option.some.injEq, Addr.mk.injEq, and_true, true_and] at hv
      obtain ⟨rfl, rfl⟩ := hv
      cases ao with
      | none => have := h4 rfl; omega
      | some ad =>
        have hcs' : cur.size = n := by simpa using hcs
        refine wpList_copy_own hgd d s dT sT ho e ht hsz g 0 n n ad news.length cap hd (hs.trans hvx) cur e hg news (by rw [hn]; simp) (h5 ad rfl) (by omega) h1 ?_
        have hrow : (cur.toList.take 0 ++ (news ++ cur.toList.drop (0 + news.length))).toArray = news.toArray := by
          rw [List.take_zero, List.nil_append, List.drop_eq_nil_of_le (by simp; omega), List.append_nil]
        rw [hrow, hn]
        refine h _ ⟨by simpa using hn, .inr ⟨g, n, news.toArray, rfl, hbg, setRow_heap w g cur _ e _ hg, Nat.le_refl _, hcm, by simpa using hn, by simp; rw [List.take_of_length_le (by omega)]⟩⟩ ⟨rfl, rfl, rfl, by simp [World.setRow], fun k _ hk => setRow_other w g k _ (fun e => hk (by simp [e]))⟩

theorem quiet_add {P : Program} {f : FuncId} {args : Array Value} {w : World} {p n : Nat} {v : Value} (h : Calls P f args (w.drewN (p + n)) fun e w' => e = .returned v ∧ w' = w.drewN (p + n)) :
    Calls P f args (w.drewN (p + n)) fun e w'' => e = .returned v ∧ ∃ m, w'' = w.drewN (p + m) := h.mono fun _ _ ⟨he, hm⟩ => ⟨he, n, hm⟩

/-- 'make([]T, n)', T of one cell. -/
theorem wpList_make_rd {P : Program} {w : World} {ops : Array Oper} {rest : List Oper} {o : Oper} {a : Act} {Q : Exit → Act → World → Prop} {l c : Operand} {t e : TypeId} {base n : Nat} {z : Value} {bytes : Nat} {L C : Int}
    (hn : L = (n : Int)) (hn2 : C = (n : Int)) (ht : P.underlying t = some (.slice e)) (hinf : (P.info? e).map (fun i => (i.zero, i.size, i.bytes)) = some (some z, 1, bytes))
    (hgd : o.guard = none) (ho : o.op = Op.makeSlice t l c) (hl : a.eval l = .int .i64 L) (hc : a.eval c = .int .i64 C)
    (h63 : n ≤ 1000000000000) (hbytes : bytes ≤ 64) (hbase : base ≤ w.heap.size)
    (h : ∀ w' xs, w'.ownsRow base e 1 (.slice (some ⟨w.heap.size, 0, none⟩) n n) n xs → w.grownBy w' none → wpList P ops Q rest (a.put o.dst (.slice (some ⟨w.heap.size, 0, none⟩) n n)) w') : wpList P ops Q (o :: rest) a w := by
  obtain ⟨i, hi, hz, hsize, hby⟩ := info_parts hinf
  refine wpList_make_full w hgd l c t ho base e i z 1 ht hi hz hsize .i64 .i64 L C n hl hc hn hn2 ?_ (by simp [maxLen]; omega) hbase (fun w' h1 h2 => h w' _ h1 h2)
  rw [hby]
  have : bytes * n ≤ 64 * 1000000000000 := Nat.mul_le_mul hbytes h63
  omega

theorem frameAt_cons (a b : UInt8) (r : List UInt8) : frameAt (a :: b :: r) = if (a :: b :: r).length < 6 + (a.toNat * 256 + b.toNat) then none
    else if crc ((a :: b :: r).take (2 + (a.toNat * 256 + b.toNat))) ≠ beVal (((a :: b :: r).drop (2 + (a.toNat * 256 + b.toNat))).take 4) then none
    else some (r.take (a.toNat * 256 + b.toNat)) := rfl

theorem frameAt_short {bs : List UInt8} (h : bs.length < 6) : frameAt bs = none := by
  cases bs with
  | nil => rfl
  | cons a r =>
    cases r with
    | nil => rfl
    | cons b r =>
      rw [frameAt_cons]
      exact if_pos (Nat.lt_of_lt_of_le h (Nat.le_add_right _ _))

theorem frameAt_eq {bs : List UInt8} {a b : UInt8} (h0 : bs[0]? = some a) (h1 : bs[1]? = some b) (n : Nat) (hn : n = a.toNat * 256 + b.toNat) :
    frameAt bs = if bs.length < 6 + n then none else if crc (bs.take (2 + n)) ≠ beVal ((bs.drop (2 + n)).take 4) then none else some ((bs.drop 2).take n) := by
  subst hn
  cases bs with
  | nil => simp at h0
  | cons x r =>
    cases r with
    | nil => simp at h1
    | cons y r =>
      simp only [List.getElem?_cons_zero, List.getElem?_cons_succ, Option.some.injEq] at h0 h1
      subst h0 h1
      exact frameAt_cons _ _ _

theorem i64_or_head (a b : Nat) (ha : a < 256) (hb : b < 256) : bits .or .i64 ((a : Int) * 256) (b : Int) = ((a * 256 + b : Nat) : Int) := by
  rw [show (a : Int) * 256 = ((a * 256 : Nat) : Int) by simp, i64_or_nat _ _ (by omega) (by omega), nat_join 8 (a * 256) b (by omega) (by omega)]

/-- What Frame answers. -/
def framePost (w w' : World) (e : Ending) (t : TypeId) (R : Nat) (v : Value) (k : Nat) : Option (List UInt8) → Prop
  | none => e = .returned (.tuple #[.slice none 0 0, .bool false]) ∧ RdrT w' t R v k ∧ w.grownBy w' (some R)
  | some body => ∃ uo uc, e = .returned (.tuple #[.slice uo body.length uc, .bool true]) ∧ Rd w' (.slice uo body.length uc) (bc body) ∧ (∀ a, uo = some a → ∃ a' l c, v = .slice (some a') l c ∧ a.block = a'.block) ∧ RdrT w' t R v (k + (body.length + 6) : Nat) ∧ w.grownBy w' (some R)

theorem sliced_block {ao : Option Addr} {lo hi cap : Nat} {a : Addr} {l c : Nat} (h : Go.sliced ao lo hi cap 1 = .slice (some a) l c) : ∃ a', ao = some a' ∧ a.block = a'.block := by
  unfold Go.sliced at h
  simp only [Value.slice.injEq] at h
  obtain ⟨h1, _, _⟩ := h
  split at h1
  · exact ⟨a, h1, rfl⟩
  · obtain ⟨a0, h2, h3⟩ := Option.map_eq_some_iff.1 h1
    refine ⟨a0, h2, ?_⟩
    rw [← h3]
    unfold Addr.add
    split <;> rfl

set_option maxRecDepth 100000 in
set_option maxHeartbeats 1000000 in
theorem Frame_any (t : TypeId) (R : Nat) (v : Value) (bs : List UInt8) (k : Nat) (w : World) (hrd : Rd w v (bc bs)) (hblk : ∀ a l c, v = .slice (some a) l c → 0 < (bc bs).length → a.block ≠ R) (hr : RdrT w t R v k) (hk : k ≤ bs.length) (hbl : bs.length ≤ 1000000) :
    Calls Try.prog 106 #[.pointer (some ⟨R, 0, none⟩)] w fun e w' => framePost w w' e t R v k (frameAt (bs.drop k)) := by
  obtain ⟨ao, cap, hvv, hc1, hc2⟩ := hrd.shape
  rw [bc_length] at hc1 hvv
  have hr0 := hr
  rw [hvv] at hr0
  unfold maxLen at hc2
  have HREST := hide (Rest_any t R v bs k w hrd hr hk)
  have hdl : (bs.drop k).length = bs.length - k := List.length_drop
  rw [← hdl] at HREST
  have HBP : Hid (0 < (bs.drop k).length → 0 < (bc bs).length) := hide (fun h => by rw [bc_length]; omega)
  generalize bs.drop k = ds at *
  have HR0 := hide hr0
  have HV := hide hvv
  have HBLK := hide hblk
  clear hr0 hvv hblk
  by_cases h6 : ds.length < 6
  · have HE := hide (frameAt_short h6)
    clear hdl
    have h6' : (ds.length : Int) < 6 := by omega
    go_enter Try.func106, Try.ntmps106
    go_wp2_with fail
    refine HREST.out.mono ?_
    rintro e w1 ⟨⟨vo, vc, rfl, hV, _⟩, q, rfl⟩
    go_wp2_with fail
    go_ret2
    rw [HE.out]
    exact ⟨rfl, hr, grownT_drewN _ _ _⟩
  · obtain ⟨y0, hy0⟩ : ∃ y, ds[0]? = some y := ⟨_, List.getElem?_eq_getElem (by omega)⟩
    obtain ⟨y1, hy1⟩ : ∃ y, ds[1]? = some y := ⟨_, List.getElem?_eq_getElem (by omega)⟩
    have hfe := frameAt_eq hy0 hy1 _ rfl
    have hx0 := y0.toNat_lt
    have hx1 := y1.toNat_lt
    have hor := i64_or_head y0.toNat y1.toNat hx0 hx1
    obtain ⟨n, hn⟩ : ∃ n, n = y0.toNat * 256 + y1.toNat := ⟨_, rfl⟩
    rw [← hn] at hor hfe
    have h6' : ¬ (ds.length : Int) < 6 := by omega
    have HN := hide hn
    have HY0 := hide hy0
    have HY1 := hide hy1
    clear hn hy0 hy1
    go_enter Try.func106, Try.ntmps106
    go_wp2_with fail
    refine HREST.out.mono ?_
    rintro e w1 ⟨⟨vo, vc, rfl, hV, hvb⟩, q, rfl⟩
    obtain ⟨b, off, vcap, hvv, hv1, hv2, hvb2, hvc⟩ := hV.pos (by rw [bc_length]; omega)
    rw [bc_length] at hvv hv1
    simp only [Value.slice.injEq] at hvv
    obtain ⟨rfl, _, rfl⟩ := hvv
    unfold maxLen at hv2
    have hk0 : w.cell? ⟨b, off, none⟩ = some (.int .u8 (y0.toNat : Int)) := hvc 0 _ (by simp [bc, HY0.out])
    have hk1 : w.cell? ⟨b, off + 1, none⟩ = some (.int .u8 (y1.toNat : Int)) := hvc 1 _ (by simp [bc, HY1.out])
    clear hvc HREST
    by_cases hlong : ds.length < 6 + n
    · rw [if_pos hlong] at hfe
      have HE := hide hfe
      have hl1 : (ds.length : Int) - 6 < n := by omega
      clear hfe hdl
      generalize y0.toNat = x0 at *
      generalize y1.toNat = x1 at *
      go_wp2_with fail
      go_quiet (fail)
      go_wp2_with fail
      go_ret2
      rw [HE.out]
      exact ⟨rfl, hr, grownT_drewN w _ _⟩
    · rw [if_neg hlong] at hfe
      have hl1 : ¬ (ds.length : Int) - 6 < n := by omega
      have hs1 := run_slice_upto (P := Try.prog) Try.underlying42 (by kernel_rfl) Try.info5 (some ⟨b, off, none⟩) ds.length vc (2 + n) (2 + (n : Int)) (by omega) (by omega)
      have hV1 := hV.upto (hi := 2 + n) (by omega)
      rw [bc_take] at hV1
      have hs2 := run_slice_rd (P := Try.prog) Try.underlying42 (by kernel_rfl) Try.info5 (some ⟨b, off, none⟩) ds.length vc (2 + n) (2 + n + 4) (2 + (n : Int)) (2 + (n : Int) + 4) (by omega) (by omega) (by omega) (by omega)
      have hV2 := hV.sliced (lo := 2 + n) (hi := 2 + n + 4) (by omega) (by omega)
      rw [bc_drop, bc_take, show 2 + n + 4 - (2 + n) = 4 by omega] at hV2
      have hs3 := run_slice_rd (P := Try.prog) Try.underlying42 (by kernel_rfl) Try.info5 (some ⟨b, off, none⟩) ds.length vc 2 (2 + n) 2 (2 + (n : Int)) (by omega) (by omega) (by omega) (by omega)
      have hV3 := hV.sliced (lo := 2) (hi := 2 + n) (by omega) (by omega)
      rw [bc_drop, bc_take, show 2 + n - 2 = n by omega] at hV3
      have hblk3 : ∀ a l c, Go.sliced (some ⟨b, off, none⟩) 2 (2 + n) vc 1 = .slice (some a) l c → a.block = b := fun a l c h => by
        obtain ⟨a', h1, h2⟩ := sliced_block h
        simp only [Option.some.injEq] at h1
        rw [h2, ← h1]
      have hb4 : ((ds.drop (2 + n)).take 4).length ≤ 4 := by simp; omega
      have hb3 : ((ds.drop 2).take n).length = n := by simp; omega
      generalize Go.sliced (some ⟨b, off, none⟩) 0 (2 + n) vc 1 = V1 at hs1 hV1
      generalize Go.sliced (some ⟨b, off, none⟩) (2 + n) (2 + n + 4) vc 1 = V2 at hs2 hV2
      generalize Go.sliced (some ⟨b, off, none⟩) 2 (2 + n) vc 1 = V3 at hs3 hV3 hblk3
      generalize ds.take (2 + n) = A at *
      generalize (ds.drop (2 + n)).take 4 = B at *
      generalize (ds.drop 2).take n = body at *
      have HB3 := hide hb3
      have HB4 := hide hb4
      clear hb3 hb4 hV
      obtain ⟨uo, uc, hu3, _, _⟩ := hV3.shape
      rw [bc_length] at hu3
      subst hu3
      have hrm := fun q => remainder_any V1 A (w.drewN q) (hV1.drewN q)
      have hhf := fun q => highFirst_any V2 B (w.drewN q) (hV2.drewN q) HB4.out
      generalize crc A = S at *
      generalize beVal B = T at *
      have HRM := hide hrm
      have HHF := hide hhf
      clear hrm hhf
      have HB3L : Hid (body.length = n) := HB3
      generalize y0.toNat = x0 at *
      generalize y1.toNat = x1 at *
      by_cases hST : S = T
      · rw [if_neg (by simpa using hST)] at hfe
        have HE := hide hfe
        have hne : ((S : Int) != (T : Int)) = false := by simp [hST]
        have HST := hide hST
        have hkn : k + (2 + n + 4) ≤ bs.length := by omega
        have HWR : Hid (IntKind.i64.wrap (2 + (n : Int) + 4) = ((2 + n + 4 : Nat) : Int)) := hide (by rw [IntKind.wrap_i64]; omega)
        clear hfe hST hdl
        go_wp2_with fail
        go_quiet (fail)
        go_wp2_with fail
        go_quiet (first | (go_at_call 109; exact quiet_add (HRM.out _)) | (go_at_call 121; exact quiet_add (HHF.out _)))
        go_wp2_with fail
        go_region_held3 (fun _ => True) (trivial) (first
          | (go_at_call 100; rw [HWR.out]; refine (Skip_ok t R ao bs.length cap k (2 + n + 4) _ (by exact HR0.out) hkn (by omega)).mono ?_; rintro e w2 ⟨rfl, hr2, hg2⟩))
        all_goals
          go_wp2_with fail
          go_ret2
          have hg3 : w.grownBy w2 (some R) := grownT_trans (grownT_drewN w _ _) hg2
          rw [HE.out]
          refine ⟨_, _, rfl, ?_, ?_, ?_, hg3⟩
          · refine hV3.grownT hg3 (fun a l c h hp => ?_)
            rw [hblk3 a l c h]
            obtain ⟨a', l', c', h1, h2⟩ := hvb _ rfl
            simp only at h2
            rw [h2]
            exact HBLK.out a' l' c' h1 (HBP.out (by omega))
          · intro a ha
            obtain ⟨a', l', c', h1, h2⟩ := hvb _ rfl
            exact ⟨a', l', c', h1, by rw [hblk3 a _ _ (by rw [ha])]; exact h2⟩
          · rw [HV.out, HB3L.out, show k + (n + 6) = k + (2 + n + 4) by omega]
            exact hr2
      · rw [if_pos (by simpa using hST)] at hfe
        have HE := hide hfe
        have hne : ((S : Int) != (T : Int)) = true := by simp; omega
        have HST := hide hST
        clear hfe hST hdl
        go_wp2_with fail
        go_quiet (fail)
        go_wp2_with fail
        go_quiet (first | (go_at_call 109; exact quiet_add (HRM.out _)) | (go_at_call 121; exact quiet_add (HHF.out _)))
        go_wp2_with fail
        go_ret2
        rw [HE.out]
        exact ⟨rfl, hr, grownT_trans (grownT_drewN w _ _) (grownT_drewN _ _ _)⟩

/-- What Open comes to, from what is left on: the bodies, how many bytes, the fault's code. -/
def openGo : Nat → List UInt8 → List (List UInt8) → Nat → List (List UInt8) × Int × Int
  | 0, _, _, _ => ([], 0, 0)
  | f + 1, bs, acc, k => match frameAt bs with
    | none => (acc, (k : Int), 0)
    | some body => if acc.length = 1000 then ([], 0, 2) else openGo f (bs.drop (body.length + 6)) (acc ++ [body]) (k + (body.length + 6))

def openR (bs : List UInt8) : List (List UInt8) × Int × Int := if 60000 < bs.length then ([], 0, 8) else openGo (bs.length + 1) bs [] 0
theorem openGo_end {f k : Nat} {bs : List UInt8} {acc : List (List UInt8)} (h : frameAt bs = none) : openGo (f + 1) bs acc k = (acc, (k : Int), 0) := by
  rw [openGo, h]

theorem openGo_many {f k : Nat} {bs body : List UInt8} {acc : List (List UInt8)} (h : frameAt bs = some body) (h2 : acc.length = 1000) : openGo (f + 1) bs acc k = ([], 0, 2) := by
  rw [openGo, h]
  simp only
  rw [if_pos h2]

theorem openGo_step {f k : Nat} {bs body : List UInt8} {acc : List (List UInt8)} (h : frameAt bs = some body) (h2 : acc.length ≠ 1000) : openGo (f + 1) bs acc k = openGo f (bs.drop (body.length + 6)) (acc ++ [body]) (k + (body.length + 6)) := by
  rw [openGo, h]
  simp only
  rw [if_neg h2]

theorem frameAt_len {bs body : List UInt8} (h : frameAt bs = some body) : body.length + 6 ≤ bs.length := by
  by_cases h6 : bs.length < 6
  · rw [frameAt_short h6] at h; cases h
  · obtain ⟨y0, hy0⟩ : ∃ y, bs[0]? = some y := ⟨_, List.getElem?_eq_getElem (by omega)⟩
    obtain ⟨y1, hy1⟩ : ∃ y, bs[1]? = some y := ⟨_, List.getElem?_eq_getElem (by omega)⟩
    rw [frameAt_eq hy0 hy1 _ rfl] at h
    split at h
    · cases h
    · split at h
      · cases h
      · simp only [Option.some.injEq] at h
        subst h
        simp only [List.length_take]
        omega

/-- Bodies that the call itself made, as cells of its list: each lies in a row of its own. -/
def OwnB (w : World) (base : Nat) : List Value → List (List UInt8) → Prop
  | [], [] => True
  | u :: us, b :: bb => w.ownsRow base 5 1 u b.length (bc b) ∧ OwnB w base us bb
  | _, _ => False

theorem OwnB.length {w : World} {base : Nat} : ∀ {us : List Value} {bb : List (List UInt8)}, OwnB w base us bb → us.length = bb.length
  | [], [], _ => rfl
  | _ :: _, _ :: _, h => by simp [OwnB.length h.2]
  | [], _ :: _, h => by cases h
  | _ :: _, [], h => by cases h

theorem OwnB.keep {w w' : World} {base : Nat} (f : ∀ u n xs, w.ownsRow base 5 1 u n xs → w'.ownsRow base 5 1 u n xs) : ∀ {us : List Value} {bb : List (List UInt8)}, OwnB w base us bb → OwnB w' base us bb
  | [], [], _ => trivial
  | _ :: _, _ :: _, h => ⟨f _ _ _ h.1, OwnB.keep f h.2⟩
  | [], _ :: _, h => by cases h
  | _ :: _, [], h => by cases h

theorem OwnB.snoc {w : World} {base : Nat} {u : Value} {b : List UInt8} (hu : w.ownsRow base 5 1 u b.length (bc b)) : ∀ {us : List Value} {bb : List (List UInt8)}, OwnB w base us bb → OwnB w base (us ++ [u]) (bb ++ [b])
  | [], [], _ => ⟨hu, trivial⟩
  | _ :: _, _ :: _, h => ⟨h.1, OwnB.snoc hu h.2⟩
  | [], _ :: _, h => by cases h
  | _ :: _, [], h => by cases h

theorem OwnB.get {w : World} {base : Nat} : ∀ {us : List Value} {bb : List (List UInt8)}, OwnB w base us bb → ∀ (i : Nat) (u : Value) (b : List UInt8), us[i]? = some u → bb[i]? = some b → Rd w u (bc b)
  | [], [], _, i, u, b, hu, _ => by simp at hu
  | u0 :: us, b0 :: bb, h, 0, u, b, hu, hb => by
    simp at hu hb
    subst hu hb
    exact Rd.ofOwns h.1
  | u0 :: us, b0 :: bb, h, i + 1, u, b, hu, hb => OwnB.get h.2 i u b (by simpa using hu) (by simpa using hb)
  | [], _ :: _, h, _, _, _, _, _ => by cases h
  | _ :: _, [], h, _, _, _, _, _ => by cases h

theorem Try.info42 : (Try.prog.info? 42).map (fun i => (i.zero, i.size, i.bytes)) = some (some (.slice none 0 0), 1, 24) := by kernel_rfl

end Go.Proofs.Ytlebbkbbmgmmjad

/-
  The walk over wire.Open.
-/
namespace Go.Proofs.Ytlebbkbbmgmmjad
open Go.RowKit

theorem owns_base {w : World} {base base' : Nat} {e : TypeId} {size : Nat} {v : Value} {n : Nat} {xs : List Value} (h : w.ownsRow base' e size v n xs) (hb : base ≤ base') : w.ownsRow base e size v n xs := by
  refine ⟨h.1, ?_⟩
  rcases h.2 with hn | ⟨g, cap, cur, hv, hg, r⟩
  · exact .inl hn
  · exact .inr ⟨g, cap, cur, hv, Nat.le_trans hb hg, r⟩

/-- A list of bodies that lies, with all its bodies, in blocks from B on. -/
def RdBN (w : World) (B : Nat) (v : Value) (bb : List (List UInt8)) : Prop :=
  ∃ vs : List Value, Rd w v vs ∧ New B v ∧ vs.length = bb.length ∧ ∀ (i : Nat) (u : Value) (b : List UInt8), vs[i]? = some u → bb[i]? = some b → Rd w u (bc b) ∧ New B u

theorem RdBN.toB {w : World} {B : Nat} {v : Value} {bb : List (List UInt8)} (h : RdBN w B v bb) : RdB w v bb := by
  obtain ⟨vs, h1, _, h2, h3⟩ := h
  exact ⟨vs, h1, h2, fun i u b hu hb => (h3 i u b hu hb).1⟩

theorem RdBN.nil (w : World) (B : Nat) : RdBN w B (.slice none 0 0) [] := ⟨[], Rd.nil w, New.nil _, rfl, fun i u b hu => by simp at hu⟩
theorem RdBN.set {w : World} {B : Nat} {v : Value} {bb : List (List UInt8)} (h : RdBN w B v bb) {p : Addr} (hp : p.block < B) (x : Value) : RdBN (w.setCell p x) B v bb := by
  obtain ⟨vs, h1, hn, h2, h3⟩ := h
  exact ⟨vs, h1.setNew hn hp x, hn, h2, fun i u b hu hb => ⟨(h3 i u b hu hb).1.setNew (h3 i u b hu hb).2 hp x, (h3 i u b hu hb).2⟩⟩

theorem OwnB.news {w : World} {base : Nat} : ∀ {us : List Value} {bb : List (List UInt8)}, OwnB w base us bb → ∀ (i : Nat) (u : Value), us[i]? = some u → New base u
  | [], [], _, i, u, hu => by simp at hu
  | u0 :: us, b0 :: bb, h, 0, u, hu => by
    simp at hu
    subst hu
    exact New.owns h.1
  | u0 :: us, b0 :: bb, h, i + 1, u, hu => OwnB.news h.2 i u (by simpa using hu)
  | [], _ :: _, h, _, _, _ => by cases h
  | _ :: _, [], h, _, _, _ => by cases h

theorem rdBN_of {w : World} {base B : Nat} {v : Value} {us : List Value} {bb : List (List UInt8)} {e : TypeId} {n : Nat} (h : w.ownsRow base e 1 v n us) (hb : OwnB w base us bb) (hB : B ≤ base) : RdBN w B v bb :=
  ⟨us, Rd.ofOwns h, (New.owns h).mono hB, hb.length, fun i u b hu hb' => ⟨hb.get i u b hu hb', (hb.news i u hu).mono hB⟩⟩



end Go.Proofs.Ytlebbkbbmgmmjad

/-
  Frames that are cut off, and frames with one byte changed; plain mathematics.
-/
namespace Go.Proofs.Ytlebbkbbmgmmjad

def flatF (l : List (List UInt8)) : List UInt8 := l.flatMap framed
theorem flatF_cons (b : List UInt8) (l : List (List UInt8)) : flatF (b :: l) = framed b ++ flatF l := by simp [flatF]
theorem flatF_append (a b : List (List UInt8)) : flatF (a ++ b) = flatF a ++ flatF b := by simp [flatF]
theorem framesGo_of : ∀ (l : List (List UInt8)) (acc : List UInt8), acc.length + (flatF l).length ≤ 60000 → framesGo l acc = (acc ++ flatF l, 0, 0)
  | [], acc, _ => by simp [framesGo, flatF]
  | b :: l, acc, h => by
    rw [flatF_cons] at h ⊢
    rw [List.length_append, framed_length] at h
    rw [framesGo, if_neg (by omega), framesGo_of l _ (by rw [List.length_append, framed_length]; omega)]
    simp

theorem framesGo_much : ∀ (l : List (List UInt8)) (acc : List UInt8), acc.length ≤ 60000 → 60000 < acc.length + (flatF l).length → framesGo l acc = ([], 9, 0)
  | [], acc, h0, h => by simp [flatF] at h; omega
  | b :: l, acc, h0, h => by
    rw [flatF_cons, List.length_append, framed_length] at h
    rw [framesGo]
    split
    · rfl
    · exact framesGo_much l _ (by rw [List.length_append, framed_length]; omega) (by rw [List.length_append, framed_length]; omega)

theorem framesR_big {l : List (List UInt8)} (h : 1000 < l.length) : framesR l = ([], 2, 0) := by rw [framesR, if_pos h]
theorem framesR_much {l : List (List UInt8)} (h : ¬ 1000 < l.length) (h2 : 60000 < (flatF l).length) : framesR l = ([], 9, 0) := by
  rw [framesR, if_neg h, framesGo_much l [] (by simp) (by simpa using h2)]

theorem framesR_ok {l : List (List UInt8)} (h : ¬ 1000 < l.length) (h2 : ¬ 60000 < (flatF l).length) : framesR l = (flatF l, 0, 0) := by
  rw [framesR, if_neg h, framesGo_of l [] (by simp; omega)]
  simp

theorem framesR_zero {l : List (List UInt8)} (h : (framesR l).2.1 = 0) : l.length ≤ 1000 ∧ (flatF l).length ≤ 60000 ∧ framesR l = (flatF l, 0, 0) := by
  by_cases h1 : 1000 < l.length
  · rw [framesR_big h1] at h; simp at h
  · by_cases h2 : 60000 < (flatF l).length
    · rw [framesR_much h1 h2] at h; simp at h
    · exact ⟨by omega, by omega, framesR_ok h1 h2⟩

theorem flatF_mem : ∀ {l : List (List UInt8)} {b : List UInt8}, b ∈ l → b.length + 6 ≤ (flatF l).length
  | c :: l, b, h => by
    rw [flatF_cons, List.length_append, framed_length]
    rcases List.mem_cons.1 h with rfl | h
    · omega
    · have := flatF_mem h; omega

theorem head2_val (n : Nat) (h : n ≤ 65535) : (UInt8.ofNat (n / 256)).toNat * 256 + (UInt8.ofNat (n % 256)).toNat = n := by
  rw [u8_ofNat_toNat _ (by omega), u8_ofNat_toNat _ (by omega)]
  omega

/-- What decides of bytes with a body's length ahead. -/
theorem frameAt_of (body G : List UInt8) (hb : body.length ≤ 65535) (h0 : G[0]? = some (UInt8.ofNat (body.length / 256))) (h1 : G[1]? = some (UInt8.ofNat (body.length % 256))) :
    frameAt G = if G.length < 6 + body.length then none else if crc (G.take (2 + body.length)) ≠ beVal ((G.drop (2 + body.length)).take 4) then none else some ((G.drop 2).take body.length) :=
  frameAt_eq h0 h1 body.length (head2_val _ hb).symm

theorem framed_get0 (body r : List UInt8) : (framed body ++ r)[0]? = some (UInt8.ofNat (body.length / 256)) := by simp [framed, head2]
theorem framed_get1 (body r : List UInt8) : (framed body ++ r)[1]? = some (UInt8.ofNat (body.length % 256)) := by simp [framed, head2]
theorem framed_take (body r : List UInt8) : (framed body ++ r).take (2 + body.length) = head2 body.length ++ body := by
  have e : framed body ++ r = (head2 body.length ++ body) ++ (be4 (crc (head2 body.length ++ body)) ++ r) := by simp [framed]
  have l : (head2 body.length ++ body).length = 2 + body.length := by simp [head2]; omega
  rw [e, ← l, List.take_left]

theorem framed_drop (body r : List UInt8) : (framed body ++ r).drop (2 + body.length) = be4 (crc (head2 body.length ++ body)) ++ r := by
  have e : framed body ++ r = (head2 body.length ++ body) ++ (be4 (crc (head2 body.length ++ body)) ++ r) := by simp [framed]
  have l : (head2 body.length ++ body).length = 2 + body.length := by simp [head2]; omega
  rw [e, ← l, List.drop_left]

theorem framed_body (body r : List UInt8) : ((framed body ++ r).drop 2).take body.length = body := by
  have e : framed body ++ r = head2 body.length ++ (body ++ (be4 (crc (head2 body.length ++ body)) ++ r)) := by simp [framed]
  have l : (head2 body.length).length = 2 := rfl
  rw [e, ← l, List.drop_left, List.take_left]

theorem frameAt_framed (body r : List UInt8) (hb : body.length ≤ 65535) : frameAt (framed body ++ r) = some body := by
  rw [frameAt_of body _ hb (framed_get0 _ _) (framed_get1 _ _), if_neg (by rw [List.length_append, framed_length]; omega), framed_take, framed_drop]
  have e : (be4 (crc (head2 body.length ++ body)) ++ r).take 4 = be4 (crc (head2 body.length ++ body)) := by
    have l : (be4 (crc (head2 body.length ++ body))).length = 4 := rfl
    rw [← l, List.take_left]
  rw [e, beVal_be4 _ (crc_lt _), if_neg (by simp), framed_body]

theorem frameAt_cut (body r : List UInt8) (t : Nat) (hb : body.length ≤ 65535) (ht : t < body.length + 6) : frameAt ((framed body ++ r).take t) = none := by
  have hl : ((framed body ++ r).take t).length = t := by
    rw [List.length_take, List.length_append, framed_length]
    omega
  by_cases h6 : t < 6
  · exact frameAt_short (by omega)
  · rw [frameAt_of body _ hb, if_pos (by omega)]
    · rw [List.getElem?_take, if_pos (by omega)]; exact framed_get0 _ _
    · rw [List.getElem?_take, if_pos (by omega)]; exact framed_get1 _ _

theorem frameAt_set (body r : List UInt8) (j : Nat) (tb : UInt8) (hb : body.length ≤ 65535) (h2 : 2 ≤ j) (hj : j < body.length + 6) (hne : (framed body)[j]? ≠ some tb) : frameAt ((framed body).set j tb ++ r) = none := by
  have hfl := framed_length body
  have g0 : ((framed body).set j tb ++ r)[0]? = some (UInt8.ofNat (body.length / 256)) := by
    rw [List.getElem?_append_left (by rw [List.length_set]; omega), List.getElem?_set_ne (by omega)]
    have := framed_get0 body []
    rwa [List.append_nil] at this
  have g1 : ((framed body).set j tb ++ r)[1]? = some (UInt8.ofNat (body.length % 256)) := by
    rw [List.getElem?_append_left (by rw [List.length_set]; omega), List.getElem?_set_ne (by omega)]
    have := framed_get1 body []
    rwa [List.append_nil] at this
  rw [frameAt_of body _ hb g0 g1, if_neg (by rw [List.length_append, List.length_set, hfl]; omega), if_pos]
  have ft := framed_take body []
  have fd := framed_drop body []
  rw [List.append_nil] at ft fd
  rw [List.append_nil] at fd
  have e1 : ((framed body).set j tb ++ r).take (2 + body.length) = ((head2 body.length ++ body)).set j tb := by
    rw [List.take_append_of_le_length (by rw [List.length_set]; omega), List.take_set, ft]
  have e2 : (((framed body).set j tb ++ r).drop (2 + body.length)).take 4 = ((framed body).set j tb).drop (2 + body.length) := by
    rw [List.drop_append_of_le_length (by rw [List.length_set]; omega)]
    have l : (((framed body).set j tb).drop (2 + body.length)).length = 4 := by rw [List.length_drop, List.length_set]; omega
    rw [← l, List.take_left]
  rw [e1, e2]
  have lh : (head2 body.length ++ body).length = 2 + body.length := by simp [head2]; omega
  by_cases hjb : j < 2 + body.length
  · -- a byte of the body
    have e3 : ((framed body).set j tb).drop (2 + body.length) = be4 (crc (head2 body.length ++ body)) := by
      rw [List.drop_set, if_pos (by omega), fd]
    rw [e3, beVal_be4 _ (crc_lt _)]
    have hjl : j < (head2 body.length ++ body).length := by omega
    have hold : (head2 body.length ++ body)[j] ≠ tb := by
      intro e
      apply hne
      have h3 : (framed body)[j]? = (head2 body.length ++ body)[j]? := by
        rw [← ft, List.getElem?_take, if_pos (by omega)]
      rw [h3, List.getElem?_eq_getElem hjl, e]
    rw [List.set_eq_take_append_cons_drop, if_pos hjl]
    conv => rhs; rw [← List.take_append_drop j (head2 body.length ++ body), List.drop_eq_getElem_cons hjl]
    exact crc_one (fun e => hold e.symm)
  · -- a byte of the sum
    have e3 : (head2 body.length ++ body).set j tb = head2 body.length ++ body := by
      rw [List.set_eq_of_length_le (by omega)]
    have e4 : ((framed body).set j tb).drop (2 + body.length) = (be4 (crc (head2 body.length ++ body))).set (j - (2 + body.length)) tb := by
      rw [List.drop_set, if_neg (by omega), fd]
    rw [e3, e4]
    intro e
    have e5 : beVal (be4 (crc (head2 body.length ++ body))) = beVal ((be4 (crc (head2 body.length ++ body))).set (j - (2 + body.length)) tb) := by
      rw [beVal_be4 _ (crc_lt _)]; exact e
    have e6 := beVal_inj (by rw [List.length_set]) e5
    apply hne
    have h3 : (framed body)[j]? = (be4 (crc (head2 body.length ++ body)))[j - (2 + body.length)]? := by
      rw [← fd, List.getElem?_drop]
      congr 1
      omega
    rw [h3, e6, List.getElem?_set_self (by rw [be4_length]; omega)]

theorem openGo_flat (tail : List UInt8) (ht : frameAt tail = none) : ∀ (l : List (List UInt8)) (f k : Nat) (acc : List (List UInt8)), (∀ b ∈ l, b.length ≤ 65535) → l.length ≤ f → acc.length + l.length ≤ 1000 →
    openGo (f + 1) (flatF l ++ tail) acc k = (acc ++ l, ((k + (flatF l).length : Nat) : Int), 0)
  | [], f, k, acc, _, _, _ => by
    have e : flatF [] ++ tail = tail := rfl
    rw [e, openGo_end ht]
    simp [flatF]
  | b :: l, 0, _, _, _, h, _ => by simp at h
  | b :: l, f + 1, k, acc, hb, hf, hm => by
    simp only [List.length_cons] at hf hm
    rw [flatF_cons, List.append_assoc, openGo_step (frameAt_framed b _ (hb b (by simp))) (by omega), ← framed_length, List.drop_left, openGo_flat tail ht l f _ _ (fun x hx => hb x (by simp [hx])) (by omega) (by simp; omega)]
    simp [Nat.add_assoc]

theorem openR_flat (l : List (List UInt8)) (tail : List UInt8) (ht : frameAt tail = none) (hb : ∀ b ∈ l, b.length ≤ 65535) (hl : l.length ≤ 1000) (hlen : (flatF l ++ tail).length ≤ 60000) :
    openR (flatF l ++ tail) = (l, ((flatF l).length : Int), 0) := by
  have hll : l.length ≤ (flatF l).length := by
    clear hb hl hlen ht
    induction l with
    | nil => simp
    | cons b l ih => rw [flatF_cons, List.length_append, framed_length, List.length_cons]; omega
  rw [openR, if_neg (by omega), openGo_flat tail ht l _ 0 [] hb (by rw [List.length_append]; omega) (by simpa using hl)]
  simp

theorem flatF_snoc (l : List (List UInt8)) (k : Nat) (h : k < l.length) : flatF (l.take (k + 1)) = flatF (l.take k) ++ framed l[k] := by
  rw [List.take_succ_eq_append_getElem h, flatF_append]
  simp [flatF]

theorem flatF_split (l : List (List UInt8)) (k : Nat) : flatF l = flatF (l.take k) ++ flatF (l.drop k) := by
  rw [← flatF_append, List.take_append_drop]

/-- Cut off. -/
theorem torn_cut (l : List (List UInt8)) (cut k : Nat) (hl : l.length ≤ 1000) (hs : (flatF l).length ≤ 60000) (hc : cut ≤ (flatF l).length) (hk : k ≤ l.length) (hn : (flatF (l.take k)).length ≤ cut)
    (hend : ∀ h : k < l.length, cut < (flatF (l.take k)).length + l[k].length + 6) : openR ((flatF l).take cut) = (l.take k, ((flatF (l.take k)).length : Int), 0) := by
  have hb : ∀ b ∈ l, b.length ≤ 65535 := fun b hb => by have := flatF_mem hb; omega
  have e : (flatF l).take cut = flatF (l.take k) ++ (flatF (l.drop k)).take (cut - (flatF (l.take k)).length) := by
    conv => lhs; rw [flatF_split l k]
    rw [List.take_append, List.take_of_length_le hn]
  rw [e]
  refine openR_flat _ _ ?_ (fun b h => hb b (List.mem_of_mem_take h)) (by rw [List.length_take]; omega) ?_
  · by_cases hk2 : k < l.length
    · rw [drop_cons l k hk2, flatF_cons]
      exact frameAt_cut _ _ _ (hb _ (List.getElem_mem hk2)) (by have := hend hk2; omega)
    · rw [List.drop_eq_nil_of_le (by omega)]
      simp [flatF, frameAt]
  · rw [← e, List.length_take]; omega

/-- One byte changed. -/
theorem torn_set (l : List (List UInt8)) (i k : Nat) (tb : UInt8) (hl : l.length ≤ 1000) (hs : (flatF l).length ≤ 60000) (hk : k < l.length) (h2 : (flatF (l.take k)).length + 2 ≤ i) (h3 : i < (flatF (l.take k)).length + l[k].length + 6)
    (hne : (flatF l)[i]? ≠ some tb) : openR ((flatF l).set i tb) = (l.take k, ((flatF (l.take k)).length : Int), 0) := by
  have hb : ∀ b ∈ l, b.length ≤ 65535 := fun b hb => by have := flatF_mem hb; omega
  have e0 : flatF l = flatF (l.take k) ++ (framed l[k] ++ flatF (l.drop (k + 1))) := by
    rw [← flatF_cons, ← drop_cons l k hk]
    exact flatF_split l k
  have hfl := framed_length l[k]
  have e : (flatF l).set i tb = flatF (l.take k) ++ ((framed l[k]).set (i - (flatF (l.take k)).length) tb ++ flatF (l.drop (k + 1))) := by
    rw [e0, List.set_append_right _ _ (by omega), List.set_append_left _ _ (by omega)]
  have hne' : (framed l[k])[i - (flatF (l.take k)).length]? ≠ some tb := by
    intro h
    apply hne
    rw [e0, List.getElem?_append_right (by omega), List.getElem?_append_left (by omega), h]
  have hlen : ((flatF l).set i tb).length ≤ 60000 := by rw [List.length_set]; exact hs
  rw [e] at hlen ⊢
  exact openR_flat _ _ (frameAt_set _ _ _ _ (hb _ (List.getElem_mem hk)) (by omega) (by omega) hne') (fun b h => hb b (List.mem_of_mem_take h)) (by rw [List.length_take]; omega) hlen

end Go.Proofs.Ytlebbkbbmgmmjad
