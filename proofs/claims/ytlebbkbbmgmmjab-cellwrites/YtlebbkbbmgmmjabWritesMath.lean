/-
  The bytes of cells, and cells of bytes: plain mathematics.
-/
import Derived.Test.YtlebbkbbmgmmjabWireMath2
import Derived.Test.YtlebbkbbmgmmjabCellMath
namespace Go.Proofs.Ytlebbkbbmgmmjab

/-- A text's bytes, its length ahead of it. -/
def txB (s : ByteArray) : List UInt8 := encN s.data.toList.length ++ s.data.toList
def goneN (c : Cl) : Nat := if c.gone then 1 else 0
/-- A cell's bytes. -/
def cellB (c : Cl) : List UInt8 := txB c.row ++ (txB c.col ++ (encN c.time.toNat ++ (encN (goneN c) ++ txB c.val)))
def flatC (cs : List Cl) : List UInt8 := cs.flatMap cellB

theorem flatC_nil : flatC [] = [] := rfl
theorem flatC_cons (c : Cl) (cs : List Cl) : flatC (c :: cs) = cellB c ++ flatC cs := rfl
theorem flatC_append (a b : List Cl) : flatC (a ++ b) = flatC a ++ flatC b := by simp [flatC]
theorem flatC_snoc (cs : List Cl) (k : Nat) (h : k < cs.length) : flatC (cs.take (k + 1)) = flatC (cs.take k) ++ cellB cs[k] := by
  rw [List.take_succ_eq_append_getElem h, flatC_append]
  simp [flatC]

theorem ba_data (s : ByteArray) : (⟨s.data.toList.toArray⟩ : ByteArray) = s := by cases s; simp
theorem ba_size (s : ByteArray) : s.size = s.data.toList.length := by cases s; simp [ByteArray.size]
theorem ba_list (s : ByteArray) : s.toList = s.data.toList := by rw [ByteArray.toList_eq]

/-- A cell as it is written, whether it is one or not. -/
def rawAt (bs : List UInt8) : Option (Cl × Nat) :=
  match textAt bs with
  | none => none
  | some (r, k1) => match textAt (bs.drop k1) with
    | none => none
    | some (c, k2) => match numAt (bs.drop (k1 + k2)) with
      | none => none
      | some (t, k3) => match numAt (bs.drop (k1 + k2 + k3)) with
        | none => none
        | some (g, k4) => if 1 < g then none else match textAt (bs.drop (k1 + k2 + k3 + k4)) with
          | none => none
          | some (v, k5) => some (⟨⟨r.toArray⟩, ⟨c.toArray⟩, (t : Int), g == 1, ⟨v.toArray⟩⟩, k1 + k2 + k3 + k4 + k5)

theorem rawAt_1 {bs : List UInt8} (h : textAt bs = none) : rawAt bs = none := by unfold rawAt; rw [h]
theorem rawAt_2 {bs r : List UInt8} {k1 : Nat} (h1 : textAt bs = some (r, k1)) (h : textAt (bs.drop k1) = none) : rawAt bs = none := by unfold rawAt; rw [h1]; simp only; rw [h]
theorem rawAt_3 {bs r c : List UInt8} {k1 k2 : Nat} (h1 : textAt bs = some (r, k1)) (h2 : textAt (bs.drop k1) = some (c, k2)) (h : numAt (bs.drop (k1 + k2)) = none) : rawAt bs = none := by unfold rawAt; rw [h1]; simp only; rw [h2]; simp only; rw [h]
theorem rawAt_4 {bs r c : List UInt8} {k1 k2 t k3 : Nat} (h1 : textAt bs = some (r, k1)) (h2 : textAt (bs.drop k1) = some (c, k2)) (h3 : numAt (bs.drop (k1 + k2)) = some (t, k3)) (h : numAt (bs.drop (k1 + k2 + k3)) = none) : rawAt bs = none := by
  unfold rawAt; rw [h1]; simp only; rw [h2]; simp only; rw [h3]; simp only; rw [h]
theorem rawAt_5 {bs r c : List UInt8} {k1 k2 t k3 g k4 : Nat} (h1 : textAt bs = some (r, k1)) (h2 : textAt (bs.drop k1) = some (c, k2)) (h3 : numAt (bs.drop (k1 + k2)) = some (t, k3)) (h4 : numAt (bs.drop (k1 + k2 + k3)) = some (g, k4)) (h : 1 < g) : rawAt bs = none := by
  unfold rawAt; rw [h1]; simp only; rw [h2]; simp only; rw [h3]; simp only; rw [h4]; simp only; rw [if_pos h]
theorem rawAt_6 {bs r c : List UInt8} {k1 k2 t k3 g k4 : Nat} (h1 : textAt bs = some (r, k1)) (h2 : textAt (bs.drop k1) = some (c, k2)) (h3 : numAt (bs.drop (k1 + k2)) = some (t, k3)) (h4 : numAt (bs.drop (k1 + k2 + k3)) = some (g, k4)) (h : textAt (bs.drop (k1 + k2 + k3 + k4)) = none) : rawAt bs = none := by
  unfold rawAt; rw [h1]; simp only; rw [h2]; simp only; rw [h3]; simp only; rw [h4]; simp only; rw [h]; simp
theorem rawAt_ok {bs r c v : List UInt8} {k1 k2 t k3 g k4 k5 : Nat} (h1 : textAt bs = some (r, k1)) (h2 : textAt (bs.drop k1) = some (c, k2)) (h3 : numAt (bs.drop (k1 + k2)) = some (t, k3)) (h4 : numAt (bs.drop (k1 + k2 + k3)) = some (g, k4)) (hg : ¬ 1 < g) (h5 : textAt (bs.drop (k1 + k2 + k3 + k4)) = some (v, k5)) :
    rawAt bs = some (⟨⟨r.toArray⟩, ⟨c.toArray⟩, (t : Int), g == 1, ⟨v.toArray⟩⟩, k1 + k2 + k3 + k4 + k5) := by
  unfold rawAt; rw [h1]; simp only; rw [h2]; simp only; rw [h3]; simp only; rw [h4]; simp only; rw [if_neg hg, h5]

/-- A cell at the beginning of bytes. -/
def cellAt (bs : List UInt8) : Option (Cl × Nat) :=
  match rawAt bs with
  | none => none
  | some (c, k) => if codeC c = 0 then some (c, k) else none

theorem cellAt_no {bs : List UInt8} (h : rawAt bs = none) : cellAt bs = none := by unfold cellAt; rw [h]
theorem cellAt_bad {bs : List UInt8} {c : Cl} {k : Nat} (h : rawAt bs = some (c, k)) (hc : codeC c ≠ 0) : cellAt bs = none := by unfold cellAt; rw [h]; simp only; rw [if_neg hc]
theorem cellAt_ok {bs : List UInt8} {c : Cl} {k : Nat} (h : rawAt bs = some (c, k)) (hc : codeC c = 0) : cellAt bs = some (c, k) := by unfold cellAt; rw [h]; simp only; rw [if_pos hc]

theorem textAt_len {bs t : List UInt8} {m : Nat} (h : textAt bs = some (t, m)) : 0 < m ∧ m ≤ bs.length := by
  obtain ⟨n, k, h1, h2, _, h3, _⟩ := textAt_some h
  omega

theorem rawAt_len {bs : List UInt8} {c : Cl} {k : Nat} (h : rawAt bs = some (c, k)) : 0 < k ∧ k ≤ bs.length := by
  unfold rawAt at h
  split at h
  · cases h
  · rename_i r k1 h1
    split at h
    · cases h
    · rename_i c k2 h2
      split at h
      · cases h
      · rename_i t k3 h3
        split at h
        · cases h
        · rename_i g k4 h4
          split at h
          · cases h
          · split at h
            · cases h
            · rename_i v k5 h5
              simp only [Option.some.injEq, Prod.mk.injEq] at h
              have a1 := textAt_len h1
              have a5 := textAt_len h5
              rw [List.length_drop] at a5
              omega

theorem cellAt_len {bs : List UInt8} {c : Cl} {k : Nat} (h : cellAt bs = some (c, k)) : rawAt bs = some (c, k) ∧ codeC c = 0 ∧ 0 < k ∧ k ≤ bs.length := by
  unfold cellAt at h
  split at h
  · cases h
  · rename_i c' k' hr
    split at h
    · rename_i hc
      simp only [Option.some.injEq, Prod.mk.injEq] at h
      obtain ⟨rfl, rfl⟩ := h
      exact ⟨hr, hc, rawAt_len hr⟩
    · cases h

/-- What Read comes to, from what is left on. -/
def rdCells : Nat → List UInt8 → List Cl → List Cl × (Int × Int)
  | 0, _, _ => ([], (0, 0))
  | f + 1, bs, acc =>
    if bs = [] then (if (checkC acc).1 = 0 then (acc, (0, 0)) else ([], checkC acc))
    else match cellAt bs with
      | none => ([], (5, (acc.length : Int)))
      | some (c, k) => rdCells f (bs.drop k) (acc ++ [c])

def readCR (bs : List UInt8) : List Cl × (Int × Int) := if 60000 < bs.length then ([], (8, 0)) else rdCells (bs.length + 1) bs []
theorem rdCells_end {f : Nat} {acc : List Cl} (h : (checkC acc).1 = 0) : rdCells (f + 1) [] acc = (acc, (0, 0)) := by rw [rdCells, if_pos rfl, if_pos h]
theorem rdCells_fault {f : Nat} {acc : List Cl} (h : (checkC acc).1 ≠ 0) : rdCells (f + 1) [] acc = ([], checkC acc) := by rw [rdCells, if_pos rfl, if_neg h]
theorem rdCells_bad {f : Nat} {bs : List UInt8} {acc : List Cl} (h : bs ≠ []) (hn : cellAt bs = none) : rdCells (f + 1) bs acc = ([], (5, (acc.length : Int))) := by rw [rdCells, if_neg h, hn]
theorem rdCells_step {f : Nat} {bs : List UInt8} {acc : List Cl} {c : Cl} {k : Nat} (h : bs ≠ []) (hn : cellAt bs = some (c, k)) : rdCells (f + 1) bs acc = rdCells f (bs.drop k) (acc ++ [c]) := by rw [rdCells, if_neg h, hn]
theorem readCR_big {bs : List UInt8} (h : 60000 < bs.length) : readCR bs = ([], (8, 0)) := by rw [readCR, if_pos h]
theorem readCR_go {bs : List UInt8} (h : ¬ 60000 < bs.length) : readCR bs = rdCells (bs.length + 1) bs [] := by rw [readCR, if_neg h]

theorem rdCells_cases : ∀ (f : Nat) (bs : List UInt8) (acc : List Cl), (rdCells f bs acc).2.1 ≠ 0 → (rdCells f bs acc).1 = []
  | 0, _, _, h => rfl
  | f + 1, bs, acc, h => by
    rw [rdCells] at h ⊢
    split
    · rename_i h1
      rw [if_pos h1] at h
      split
      · rename_i h2
        rw [if_pos h2] at h
        simp at h
      · rfl
    · rename_i h1
      rw [if_neg h1] at h
      split
      · rfl
      · rename_i c k hc
        rw [hc] at h
        exact rdCells_cases f _ _ h

theorem readCR_fault {bs : List UInt8} (h : (readCR bs).2.1 ≠ 0) : (readCR bs).1 = [] := by
  unfold readCR at h ⊢
  split
  · rfl
  · rename_i h1
    rw [if_neg h1] at h
    exact rdCells_cases _ _ _ h

/-- What Write comes to, from what is left on. -/
def wrGo : List Cl → List UInt8 → List UInt8 × (Int × Int)
  | [], acc => (acc, (0, 0))
  | c :: cs, acc => if 60000 < (acc ++ cellB c).length then ([], (9, 0)) else wrGo cs (acc ++ cellB c)

def writeCR (cs : List Cl) : List UInt8 × (Int × Int) := if (checkC cs).1 = 0 then wrGo cs [] else ([], checkC cs)
theorem writeCR_bad {cs : List Cl} (h : (checkC cs).1 ≠ 0) : writeCR cs = ([], checkC cs) := by rw [writeCR, if_neg h]
theorem writeCR_go {cs : List Cl} (h : (checkC cs).1 = 0) : writeCR cs = wrGo cs [] := by rw [writeCR, if_pos h]
theorem wrGo_much {cs : List Cl} {acc : List UInt8} {c : Cl} (h : 60000 < (acc ++ cellB c).length) : wrGo (c :: cs) acc = ([], (9, 0)) := by rw [wrGo, if_pos h]
theorem wrGo_step {cs : List Cl} {acc : List UInt8} {c : Cl} (h : ¬ 60000 < (acc ++ cellB c).length) : wrGo (c :: cs) acc = wrGo cs (acc ++ cellB c) := by rw [wrGo, if_neg h]

theorem wrGo_eq : ∀ (cs : List Cl) (acc : List UInt8), acc.length ≤ 60000 → wrGo cs acc = if 60000 < (acc ++ flatC cs).length then ([], (9, 0)) else (acc ++ flatC cs, (0, 0))
  | [], acc, h => by rw [wrGo, flatC_nil, List.append_nil, if_neg (by omega)]
  | c :: cs, acc, h => by
    by_cases h1 : 60000 < (acc ++ cellB c).length
    · rw [wrGo_much h1, if_pos]
      rw [flatC_cons]
      simp only [List.length_append] at h1 ⊢
      omega
    · rw [wrGo_step h1, wrGo_eq cs _ (by omega), flatC_cons, List.append_assoc]

theorem writeCR_eq {cs : List Cl} (h : (checkC cs).1 = 0) : writeCR cs = if 60000 < (flatC cs).length then ([], (9, 0)) else (flatC cs, (0, 0)) := by
  rw [writeCR_go h, wrGo_eq _ _ (by simp)]
  rfl

theorem codeC_parts {c : Cl} (h : codeC c = 0) : c.row.data.toList ≠ [] ∧ c.row.data.toList.length ≤ 40 ∧ c.col.data.toList.length ≤ 40 ∧ c.val.data.toList.length ≤ 200 ∧ 0 ≤ c.time ∧ c.time ≤ 1000000000 := by
  unfold codeC at h
  split at h
  · simp at h
  · rename_i h1
    split at h
    · simp at h
    · rename_i h2
      have e1 := ba_size c.row
      have e2 := ba_size c.col
      have e3 := ba_size c.val
      unfold isNumB at h2
      simp at h2
      have hr : c.row.data.toList ≠ [] := by
        intro e
        apply h1
        left
        rw [ba_list, e]
        rfl
      refine ⟨hr, ?_, ?_, ?_, ?_⟩ <;> omega

theorem cellB_pos (c : Cl) : 0 < (cellB c).length := by
  unfold cellB txB
  simp only [List.length_append]
  have : 0 < (encN c.row.data.toList.length).length := enc_pos 9 _
  omega

theorem cellB_len {c : Cl} (h : codeC c = 0) : (cellB c).length ≤ 330 := by
  obtain ⟨_, h1, h2, h3, _⟩ := codeC_parts h
  unfold cellB txB
  simp only [List.length_append]
  have a1 := encN_length c.row.data.toList.length
  have a2 := encN_length c.col.data.toList.length
  have a3 := encN_length c.val.data.toList.length
  have a4 := encN_length c.time.toNat
  have a5 := encN_length (goneN c)
  omega

theorem textAt_txB (s : ByteArray) (r : List UInt8) (h : s.data.toList.length ≤ 1000000000) : textAt (txB s ++ r) = some (s.data.toList, (txB s).length) := by
  unfold txB
  rw [textAt_enc _ _ h, List.length_append]

theorem drop_left' {α : Type} {a b : List α} {k : Nat} (h : k = a.length) : (a ++ b).drop k = b := by subst h; simp

/-- A cell that is written is read as it was. -/
theorem rawAt_cellB {c : Cl} (r : List UInt8) (h : codeC c = 0) : rawAt (cellB c ++ r) = some (c, (cellB c).length) := by
  obtain ⟨_, h1, h2, h3, h4, h5⟩ := codeC_parts h
  have hg : goneN c ≤ 1 := by unfold goneN; split <;> omega
  have e1 : cellB c ++ r = txB c.row ++ (txB c.col ++ (encN c.time.toNat ++ (encN (goneN c) ++ (txB c.val ++ r)))) := by unfold cellB; simp only [List.append_assoc]
  have e2 : (cellB c ++ r).drop (txB c.row).length = txB c.col ++ (encN c.time.toNat ++ (encN (goneN c) ++ (txB c.val ++ r))) := by rw [e1, List.drop_left]
  have e3 : (cellB c ++ r).drop ((txB c.row).length + (txB c.col).length) = encN c.time.toNat ++ (encN (goneN c) ++ (txB c.val ++ r)) := by rw [← List.drop_drop, e2, List.drop_left]
  have e4 : (cellB c ++ r).drop ((txB c.row).length + (txB c.col).length + (encN c.time.toNat).length) = encN (goneN c) ++ (txB c.val ++ r) := by rw [← List.drop_drop, e3, List.drop_left]
  have e5 : (cellB c ++ r).drop ((txB c.row).length + (txB c.col).length + (encN c.time.toNat).length + (encN (goneN c)).length) = txB c.val ++ r := by rw [← List.drop_drop, e4, List.drop_left]
  have t1 : textAt (cellB c ++ r) = some (c.row.data.toList, (txB c.row).length) := by rw [e1]; exact textAt_txB _ _ (by omega)
  have t2 : textAt ((cellB c ++ r).drop (txB c.row).length) = some (c.col.data.toList, (txB c.col).length) := by rw [e2]; exact textAt_txB _ _ (by omega)
  have t3 : numAt ((cellB c ++ r).drop ((txB c.row).length + (txB c.col).length)) = some (c.time.toNat, (encN c.time.toNat).length) := by rw [e3]; exact numAt_enc _ _ (by omega)
  have t4 : numAt ((cellB c ++ r).drop ((txB c.row).length + (txB c.col).length + (encN c.time.toNat).length)) = some (goneN c, (encN (goneN c)).length) := by rw [e4]; exact numAt_enc _ _ (by omega)
  have t5 : textAt ((cellB c ++ r).drop ((txB c.row).length + (txB c.col).length + (encN c.time.toNat).length + (encN (goneN c)).length)) = some (c.val.data.toList, (txB c.val).length) := by rw [e5]; exact textAt_txB _ _ (by omega)
  rw [rawAt_ok t1 t2 t3 t4 (by omega) t5, ba_data, ba_data, ba_data]
  have hl : (txB c.row).length + (txB c.col).length + (encN c.time.toNat).length + (encN (goneN c)).length + (txB c.val).length = (cellB c).length := by
    unfold cellB
    simp only [List.length_append]
    omega
  rw [hl]
  have ht : ((c.time.toNat : Nat) : Int) = c.time := by omega
  have hgo : (goneN c == 1) = c.gone := by unfold goneN; cases c.gone <;> rfl
  rw [ht, hgo]

theorem cellAt_cellB {c : Cl} (r : List UInt8) (h : codeC c = 0) : cellAt (cellB c ++ r) = some (c, (cellB c).length) := cellAt_ok (rawAt_cellB r h) h

theorem rdCells_flat : ∀ (cs : List Cl) (f : Nat) (acc : List Cl), (∀ c ∈ cs, codeC c = 0) → cs.length ≤ f → rdCells (f + 1) (flatC cs) acc = if (checkC (acc ++ cs)).1 = 0 then (acc ++ cs, (0, 0)) else ([], checkC (acc ++ cs))
  | [], f, acc, _, _ => by
    rw [flatC_nil, rdCells, if_pos rfl, List.append_nil]
  | c :: cs, 0, acc, _, hf => by simp at hf
  | c :: cs, f + 1, acc, h, hf => by
    have hne : flatC (c :: cs) ≠ [] := by
      intro e
      have := cellB_pos c
      rw [flatC_cons] at e
      rw [(List.append_eq_nil_iff.1 e).1] at this
      simp at this
    have hc := cellAt_cellB (flatC cs) (h c (List.mem_cons_self ..))
    rw [← flatC_cons] at hc
    rw [rdCells_step hne hc]
    have hd : (flatC (c :: cs)).drop (cellB c).length = flatC cs := by rw [flatC_cons, List.drop_left]
    rw [hd, rdCells_flat cs f (acc ++ [c]) (fun d hd => h d (List.mem_cons_of_mem _ hd)) (by simpa using hf)]
    simp only [List.append_assoc, List.singleton_append]

theorem flatC_len : ∀ (cs : List Cl), cs.length ≤ (flatC cs).length
  | [] => by simp
  | c :: cs => by
    have := cellB_pos c
    have := flatC_len cs
    rw [flatC_cons, List.length_append, List.length_cons]
    omega

/-- Cells that are written are read as they were. -/
theorem read_write {cs : List Cl} (h : (checkC cs).1 = 0) (hl : (flatC cs).length ≤ 60000) : readCR (flatC cs) = (cs, (0, 0)) := by
  rw [readCR_go (by omega), rdCells_flat cs _ [] (fun c hc => fine_code h hc) (by have := flatC_len cs; omega), List.nil_append, if_pos h]

end Go.Proofs.Ytlebbkbbmgmmjab
