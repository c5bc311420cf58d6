/-
  Texts joined: WalMath, SortMath, CellS1, CellS2, CellS3, WalBase, CellW7.
-/
import Derived.Test.YtlebbkbbmgmmjadMWalNotes7
import Derived.Deep.RegionHeld3
/-
  Notes, their bytes and logs: plain maths. Nothing of a program stands here.
-/
namespace Go.Proofs.Ytlebbkbbmgmmjad

theorem rdCells_fineN : ∀ (f : Nat) (bs : List UInt8) (acc : List Cl), (∀ c ∈ acc, codeC c = 0) → (rdCells (f + 1) bs acc).2.1 = 0 → f ≥ bs.length → (rdCells (f + 1) bs acc).2 = (0, 0) ∧ (checkC (rdCells (f + 1) bs acc).1).1 = 0
  | f, bs, acc, ha, h, hf => by
    rw [rdCells] at h ⊢
    by_cases hb : bs = []
    · rw [if_pos hb] at h ⊢
      by_cases hc : (checkC acc).1 = 0
      · rw [if_pos hc] at h ⊢
        exact ⟨rfl, hc⟩
      · rw [if_neg hc] at h
        exact absurd h hc
    · rw [if_neg hb] at h ⊢
      cases hn : cellAt bs with
      | none => rw [hn] at h; simp at h
      | some p =>
        obtain ⟨c, k⟩ := p
        rw [hn] at h
        simp only at h ⊢
        obtain ⟨_, hcc, hk0, hkl⟩ := cellAt_len hn
        obtain ⟨f', rfl⟩ : ∃ f', f = f' + 1 := ⟨f - 1, by have : 0 < bs.length := List.length_pos_iff.2 hb; omega⟩
        refine rdCells_fineN f' (bs.drop k) (acc ++ [c]) (fun d hd => ?_) h (by rw [List.length_drop]; omega)
        rcases List.mem_append.1 hd with hd | hd
        · exact ha d hd
        · simp at hd; subst hd; exact hcc

theorem readCR_fineN {bs : List UInt8} (h : (readCR bs).2.1 = 0) : (readCR bs).2 = (0, 0) ∧ (checkC (readCR bs).1).1 = 0 := by
  unfold readCR at h ⊢
  split
  · rename_i h1; rw [if_pos h1] at h; simp at h
  · rename_i h1
    rw [if_neg h1] at h
    exact rdCells_fineN _ _ _ (by simp) h (Nat.le_refl _)

theorem readCR_zero {bs : List UInt8} (h : (readCR bs).2.1 = 0) : (readCR bs).2.2 = 0 := by rw [(readCR_fineN h).1]

/-- A note. -/
structure Nt where
  seq : Int
  cells : List Cl

def zeroN : Nt := ⟨0, []⟩

/-- A note's own fault. -/
def noteF (s : Int) (cs : List Cl) : Int × Int :=
  if s < 1 ∨ 1000000000 < s then (3, -1) else if cs.length = 0 ∨ 20 < cs.length then (2, -1) else checkC cs

theorem noteF_zero {s : Int} {cs : List Cl} (h : (noteF s cs).1 = 0) : noteF s cs = (0, 0) ∧ 1 ≤ s ∧ s ≤ 1000000000 ∧ 0 < cs.length ∧ cs.length ≤ 20 ∧ checkC cs = (0, 0) := by
  unfold noteF at h ⊢
  by_cases h1 : s < 1 ∨ 1000000000 < s
  · rw [if_pos h1] at h; simp at h
  · rw [if_neg h1] at h ⊢
    by_cases h2 : cs.length = 0 ∨ 20 < cs.length
    · rw [if_pos h2] at h; simp at h
    · rw [if_neg h2] at h ⊢
      exact ⟨checkC_zero h, by omega, by omega, by omega, by omega, checkC_zero h⟩

theorem noteF_range {s : Int} {cs : List Cl} (h : s < 1 ∨ 1000000000 < s) : noteF s cs = (3, -1) := by rw [noteF, if_pos h]
theorem noteF_many {s : Int} {cs : List Cl} (h : ¬ (s < 1 ∨ 1000000000 < s)) (h2 : cs.length = 0 ∨ 20 < cs.length) : noteF s cs = (2, -1) := by rw [noteF, if_neg h, if_pos h2]
theorem noteF_cells {s : Int} {cs : List Cl} (h : ¬ (s < 1 ∨ 1000000000 < s)) (h2 : ¬ (cs.length = 0 ∨ 20 < cs.length)) : noteF s cs = checkC cs := by rw [noteF, if_neg h, if_neg h2]

/-- A note's bytes. -/
def noteB (s : Int) (cs : List Cl) : List UInt8 := encN s.toNat ++ flatC cs

theorem flatC_le : ∀ {cs : List Cl}, (∀ c ∈ cs, codeC c = 0) → (flatC cs).length ≤ cs.length * 330
  | [], _ => by simp [flatC]
  | c :: cs, h => by
    rw [flatC_cons, List.length_append]
    have h1 := cellB_len (h c (by simp))
    have h2 := @flatC_le cs (fun x hx => h x (by simp [hx]))
    simp only [List.length_cons]
    omega

theorem noteF_flat {s : Int} {cs : List Cl} (h : (noteF s cs).1 = 0) : (flatC cs).length ≤ 6600 := by
  obtain ⟨_, _, _, _, h4, h5⟩ := noteF_zero h
  have := @flatC_le cs (fun c hc => fine_code (by rw [h5]) hc)
  omega

/-- What Write of cells comes to, of a note that has no fault. -/
theorem writeCR_note {s : Int} {cs : List Cl} (h : (noteF s cs).1 = 0) : writeCR cs = (flatC cs, (0, 0)) := by
  obtain ⟨_, _, _, _, h4, h5⟩ := noteF_zero h
  have := noteF_flat h
  rw [writeCR_eq (by rw [h5]), if_neg (by omega)]

theorem noteB_len {s : Int} {cs : List Cl} (h : (noteF s cs).1 = 0) : (noteB s cs).length ≤ 6610 ∧ 0 < (noteB s cs).length := by
  have h1 := noteF_flat h
  have h2 := encN_length s.toNat
  obtain ⟨_, h3, h4, h5, _, _⟩ := noteF_zero h
  rw [noteB, List.length_append]
  have := flatC_len cs
  omega

/-- What Write comes to. -/
def writeN (s : Int) (cs : List Cl) : List UInt8 × (Int × Int) := if (noteF s cs).1 = 0 then (noteB s cs, (0, 0)) else ([], noteF s cs)

/-- What Read comes to. -/
def readN (bs : List UInt8) : Nt × (Int × Int) :=
  if 60000 < bs.length then (zeroN, (8, 0)) else
  match numAt bs with
  | none => (zeroN, (5, -1))
  | some (s, k) =>
    if (readCR (bs.drop k)).2.1 ≠ 0 then (zeroN, (readCR (bs.drop k)).2)
    else if (noteF (s : Int) (readCR (bs.drop k)).1).1 ≠ 0 then (zeroN, noteF (s : Int) (readCR (bs.drop k)).1)
    else (⟨(s : Int), (readCR (bs.drop k)).1⟩, (0, 0))

theorem readN_big {bs : List UInt8} (h : 60000 < bs.length) : readN bs = (zeroN, (8, 0)) := by rw [readN, if_pos h]
theorem readN_form {bs : List UInt8} (h : ¬ 60000 < bs.length) (h2 : numAt bs = none) : readN bs = (zeroN, (5, -1)) := by rw [readN, if_neg h, h2]
theorem readN_cells {bs : List UInt8} {s k : Nat} (h : ¬ 60000 < bs.length) (h2 : numAt bs = some (s, k)) (h3 : (readCR (bs.drop k)).2.1 ≠ 0) : readN bs = (zeroN, (readCR (bs.drop k)).2) := by
  rw [readN, if_neg h, h2]; simp only; rw [if_pos h3]
theorem readN_own {bs : List UInt8} {s k : Nat} (h : ¬ 60000 < bs.length) (h2 : numAt bs = some (s, k)) (h3 : (readCR (bs.drop k)).2.1 = 0) (h4 : (noteF (s : Int) (readCR (bs.drop k)).1).1 ≠ 0) : readN bs = (zeroN, noteF (s : Int) (readCR (bs.drop k)).1) := by
  rw [readN, if_neg h, h2]; simp only; rw [if_neg (by omega), if_pos h4]
theorem readN_ok {bs : List UInt8} {s k : Nat} (h : ¬ 60000 < bs.length) (h2 : numAt bs = some (s, k)) (h3 : (readCR (bs.drop k)).2.1 = 0) (h4 : (noteF (s : Int) (readCR (bs.drop k)).1).1 = 0) : readN bs = (⟨(s : Int), (readCR (bs.drop k)).1⟩, (0, 0)) := by
  rw [readN, if_neg h, h2]; simp only; rw [if_neg (by omega), if_neg (by omega)]

/-- What is read either has a fault, and then there is nothing; or none, and then the note has none. -/
theorem readN_cases (bs : List UInt8) : ((readN bs).2.1 ≠ 0 ∧ (readN bs).1 = zeroN) ∨ ((readN bs).2 = (0, 0) ∧ (noteF (readN bs).1.seq (readN bs).1.cells).1 = 0) := by
  by_cases h : 60000 < bs.length
  · rw [readN_big h]; left; simp
  · cases h2 : numAt bs with
    | none => rw [readN_form h h2]; left; simp
    | some p =>
      obtain ⟨s, k⟩ := p
      by_cases h3 : (readCR (bs.drop k)).2.1 = 0
      · by_cases h4 : (noteF (s : Int) (readCR (bs.drop k)).1).1 = 0
        · rw [readN_ok h h2 h3 h4]; right; exact ⟨rfl, h4⟩
        · rw [readN_own h h2 h3 h4]; left; exact ⟨h4, rfl⟩
      · rw [readN_cells h h2 h3]; left; exact ⟨h3, rfl⟩

/-- What is written is read. -/
theorem readN_noteB {s : Int} {cs : List Cl} (h : (noteF s cs).1 = 0) : readN (noteB s cs) = (⟨s, cs⟩, (0, 0)) := by
  obtain ⟨h0, h1, h2, h3, h4, h5⟩ := noteF_zero h
  have hl := noteB_len h
  have hn : numAt (noteB s cs) = some (s.toNat, (encN s.toNat).length) := by
    rw [noteB]; exact numAt_enc _ _ (by omega)
  have hs : ((s.toNat : Nat) : Int) = s := by omega
  have hd : (noteB s cs).drop (encN s.toNat).length = flatC cs := by rw [noteB]; exact drop_left' rfl
  have hr := read_write (cs := cs) (by rw [h5]) (by have := noteF_flat h; omega)
  rw [readN_ok (by omega) hn (by rw [hd, hr]) (by rw [hd, hr, hs]; exact h), hd, hr, hs]

/-- May a note with this number be behind that one? (0: there is none.) -/
def follB (last s : Int) : Bool := last == 0 || s == last + 1

/-- The notes of the log with which bytes begin: each one's end, and the note. -/
def logGo : Nat → List UInt8 → Int → Nat → List (Nat × Nt)
  | 0, _, _, _ => []
  | f + 1, bs, last, k => match frameAt bs with
    | none => []
    | some body => if (readN body).2.1 = 0 ∧ follB last (readN body).1.seq = true then
        (k + (body.length + 6), (readN body).1) :: logGo f (bs.drop (body.length + 6)) (readN body).1.seq (k + (body.length + 6))
      else []

def logR (bs : List UInt8) : List (Nat × Nt) := logGo (bs.length + 1) bs 0 0
def notesR (bs : List UInt8) : List Nt := (logR bs).map (·.2)
def sizeR (bs : List UInt8) : Nat := ((logR bs).map (·.1)).getLastD 0

theorem logGo_end {f k : Nat} {bs : List UInt8} {last : Int} (h : frameAt bs = none) : logGo (f + 1) bs last k = [] := by rw [logGo, h]
theorem logGo_stop {f k : Nat} {bs body : List UInt8} {last : Int} (h : frameAt bs = some body) (h2 : ¬ ((readN body).2.1 = 0 ∧ follB last (readN body).1.seq = true)) : logGo (f + 1) bs last k = [] := by
  rw [logGo, h]; simp only; rw [if_neg h2]
theorem logGo_step {f k : Nat} {bs body : List UInt8} {last : Int} (h : frameAt bs = some body) (h2 : (readN body).2.1 = 0) (h3 : follB last (readN body).1.seq = true) :
    logGo (f + 1) bs last k = (k + (body.length + 6), (readN body).1) :: logGo f (bs.drop (body.length + 6)) (readN body).1.seq (k + (body.length + 6)) := by
  rw [logGo, h]; simp only; rw [if_pos ⟨h2, h3⟩]

/-- More fuel than there are bytes changes nothing. -/
theorem logGo_fuel : ∀ (f g : Nat) (bs : List UInt8) (last : Int) (k : Nat), bs.length < f → bs.length < g → logGo f bs last k = logGo g bs last k
  | 0, _, _, _, _, h, _ => by omega
  | _, 0, _, _, _, _, h => by omega
  | f + 1, g + 1, bs, last, k, hf, hg => by
    cases h : frameAt bs with
    | none => rw [logGo_end h, logGo_end h]
    | some body =>
      by_cases h2 : (readN body).2.1 = 0 ∧ follB last (readN body).1.seq = true
      · rw [logGo_step h h2.1 h2.2, logGo_step h h2.1 h2.2]
        have hl := frameAt_len h
        have hd : (bs.drop (body.length + 6)).length = bs.length - (body.length + 6) := List.length_drop ..
        rw [logGo_fuel f g _ _ _ (by omega) (by omega)]
      · rw [logGo_stop h h2, logGo_stop h h2]

/-- The same of bodies. -/
def lgB : List (List UInt8) → Int → Nat → List (Nat × Nt)
  | [], _, _ => []
  | b :: r, last, k => if (readN b).2.1 = 0 ∧ follB last (readN b).1.seq = true then (k + (b.length + 6), (readN b).1) :: lgB r (readN b).1.seq (k + (b.length + 6)) else []

theorem logGo_lgB : ∀ (f : Nat) (bs : List UInt8) (acc : List (List UInt8)) (j : Nat), bs.length < f → ∃ l, (unGo f bs acc j).1 = acc ++ l ∧ ∀ (last : Int) (k : Nat), logGo f bs last k = lgB l last k
  | 0, _, _, _, h => by omega
  | f + 1, bs, acc, j, hf => by
    cases h : frameAt bs with
    | none => exact ⟨[], by rw [unGo_end h, List.append_nil], fun last k => by rw [logGo_end h]; rfl⟩
    | some body =>
      have hl := frameAt_len h
      have hd : (bs.drop (body.length + 6)).length = bs.length - (body.length + 6) := List.length_drop ..
      obtain ⟨l, h1, h2⟩ := logGo_lgB f (bs.drop (body.length + 6)) (acc ++ [body]) (j + (body.length + 6)) (by omega)
      refine ⟨body :: l, by rw [unGo_step h, h1]; simp, fun last k => ?_⟩
      by_cases h3 : (readN body).2.1 = 0 ∧ follB last (readN body).1.seq = true
      · rw [logGo_step h h3.1 h3.2, h2, lgB, if_pos h3]
      · rw [logGo_stop h h3, lgB, if_neg h3]

theorem logR_lgB (bs : List UInt8) : logR bs = lgB (unGo (bs.length + 1) bs [] 0).1 0 0 := by
  obtain ⟨l, h1, h2⟩ := logGo_lgB (bs.length + 1) bs [] 0 (by omega)
  rw [h1, logR, h2]
  rfl

/-- The number of the last note, or 0. -/
def lastR (bs : List UInt8) : Int := ((logR bs).map (fun p => p.2.seq)).getLastD 0

/-- Where the log ends is within the bytes. -/
theorem logGo_size : ∀ (f : Nat) (bs : List UInt8) (last : Int) (k : Nat), bs.length < f → ((logGo f bs last k).map (·.1)).getLastD k ≤ k + bs.length
  | 0, _, _, _, h => by omega
  | f + 1, bs, last, k, hf => by
    cases h : frameAt bs with
    | none => rw [logGo_end h]; simp
    | some body =>
      have hl := frameAt_len h
      have hd : (bs.drop (body.length + 6)).length = bs.length - (body.length + 6) := List.length_drop ..
      by_cases h3 : (readN body).2.1 = 0 ∧ follB last (readN body).1.seq = true
      · rw [logGo_step h h3.1 h3.2, List.map_cons, List.getLastD_cons]
        have := logGo_size f (bs.drop (body.length + 6)) (readN body).1.seq (k + (body.length + 6)) (by omega)
        simp only at this ⊢
        omega
      · rw [logGo_stop h h3]; simp

theorem sizeR_le (bs : List UInt8) : sizeR bs ≤ bs.length := by
  have := logGo_size (bs.length + 1) bs 0 0 (by omega)
  simpa [sizeR, logR] using this

/-- The bodies of notes. -/
def bodiesN (ns : List Nt) : List (List UInt8) := ns.map fun n => noteB n.seq n.cells

/-- Notes that follow one another from s0 on, none of them with a fault. -/
def Foll (s0 : Int) (ns : List Nt) : Prop := ∀ (i : Nat) (n : Nt), ns[i]? = some n → (noteF n.seq n.cells).1 = 0 ∧ n.seq = s0 + i

theorem Foll.tail {s0 : Int} {n : Nt} {ns : List Nt} (h : Foll s0 (n :: ns)) : Foll (s0 + 1) ns := fun i m hi => by
  obtain ⟨h1, h2⟩ := h (i + 1) m (by simpa using hi)
  exact ⟨h1, by rw [h2]; push_cast; omega⟩

theorem Foll.nil (s0 : Int) : Foll s0 [] := fun i n h => by simp at h

theorem Foll.snoc {s0 : Int} {ns : List Nt} {cs : List Cl} (h : Foll s0 ns) (hf : (noteF (s0 + ns.length) cs).1 = 0) : Foll s0 (ns ++ [⟨s0 + ns.length, cs⟩]) := fun i m hi => by
  rcases Nat.lt_or_ge i ns.length with h1 | h1
  · exact h i m (by rwa [List.getElem?_append_left h1] at hi)
  · rw [List.getElem?_append_right h1] at hi
    have : i - ns.length = 0 := by
      have := (List.getElem?_eq_some_iff.1 hi).1
      simp at this
      omega
    rw [this] at hi
    simp at hi
    subst hi
    exact ⟨hf, by simp; omega⟩

theorem Foll.take {s0 : Int} {ns : List Nt} (h : Foll s0 ns) (j : Nat) : Foll s0 (ns.take j) := fun i m hi => by
  rw [List.getElem?_take] at hi
  split at hi
  · exact h i m hi
  · cases hi

theorem bodiesN_length (ns : List Nt) : (bodiesN ns).length = ns.length := by simp [bodiesN]
theorem bodiesN_take (ns : List Nt) (j : Nat) : (bodiesN ns).take j = bodiesN (ns.take j) := by simp [bodiesN, List.map_take]

/-- The log of what is left of frames of notes. -/
theorem logGo_flat : ∀ (ns : List Nt) (j t f k0 : Nat) (last s0 : Int), Foll s0 ns → follB last s0 = true → j ≤ ns.length → (flatF ((bodiesN ns).take j)).length ≤ t →
    (∀ h : j < (bodiesN ns).length, t < (flatF ((bodiesN ns).take j)).length + (bodiesN ns)[j].length + 6) → ((flatF (bodiesN ns)).take t).length < f →
    (logGo f ((flatF (bodiesN ns)).take t) last k0).map (·.2) = ns.take j ∧ ((logGo f ((flatF (bodiesN ns)).take t) last k0).map (·.1)).getLastD k0 = k0 + (flatF ((bodiesN ns).take j)).length
  | _, _, _, 0, _, _, _, _, _, _, _, _, hf => by omega
  | [], j, t, f + 1, k0, last, s0, _, _, hj, _, _, _ => by
    have e : j = 0 := by simpa using hj
    subst e
    have e2 : (flatF (bodiesN [])).take t = [] := by simp [bodiesN, flatF]
    rw [e2, logGo_end (frameAt_short (by simp))]
    simp [flatF]
  | n :: ns, 0, t, f + 1, k0, last, s0, hF, _, _, _, hend, _ => by
    have hb := noteB_len (hF 0 n rfl).1
    have ht := hend (by simp [bodiesN])
    have e : (flatF (bodiesN (n :: ns))) = framed (noteB n.seq n.cells) ++ flatF (bodiesN ns) := by simp only [bodiesN, List.map_cons]; rw [flatF_cons]
    rw [e, logGo_end (frameAt_cut _ _ _ (by omega) (by simp [bodiesN, flatF] at ht; omega))]
    simp [flatF]
  | n :: ns, j + 1, t, f + 1, k0, last, s0, hF, hfo, hj, hn, hend, hf => by
    obtain ⟨hfn, hsn⟩ := hF 0 n rfl
    have hb := noteB_len hfn
    have hr := readN_noteB hfn
    have e : (flatF (bodiesN (n :: ns))) = framed (noteB n.seq n.cells) ++ flatF (bodiesN ns) := by simp only [bodiesN, List.map_cons]; rw [flatF_cons]
    have e1 : (flatF ((bodiesN (n :: ns)).take (j + 1))).length = (noteB n.seq n.cells).length + 6 + (flatF ((bodiesN ns).take j)).length := by
      simp only [bodiesN, List.map_cons, List.take_succ_cons]
      rw [flatF_cons, List.length_append, framed_length]
    have hfl := framed_length (noteB n.seq n.cells)
    rw [e] at hf ⊢
    have e2 : (framed (noteB n.seq n.cells) ++ flatF (bodiesN ns)).take t = framed (noteB n.seq n.cells) ++ (flatF (bodiesN ns)).take (t - ((noteB n.seq n.cells).length + 6)) := by
      rw [List.take_append, List.take_of_length_le (by omega), hfl]
    rw [e2] at hf ⊢
    have h6 := frameAt_framed (noteB n.seq n.cells) ((flatF (bodiesN ns)).take (t - ((noteB n.seq n.cells).length + 6))) (by omega)
    have hdr : (framed (noteB n.seq n.cells) ++ (flatF (bodiesN ns)).take (t - ((noteB n.seq n.cells).length + 6))).drop ((noteB n.seq n.cells).length + 6) = (flatF (bodiesN ns)).take (t - ((noteB n.seq n.cells).length + 6)) := drop_left' hfl.symm
    rw [List.length_append] at hf
    have ih := logGo_flat ns j (t - ((noteB n.seq n.cells).length + 6)) f (k0 + ((noteB n.seq n.cells).length + 6)) n.seq (s0 + 1) hF.tail (by simp [follB]; right; rw [hsn]; simp) (by simpa using hj) (by omega)
      (fun h => by
        have h' := hend (by simp [bodiesN] at h ⊢; exact h)
        rw [e1] at h'
        have : (bodiesN (n :: ns))[j + 1]'(by simp [bodiesN] at h ⊢; exact h) = (bodiesN ns)[j] := by simp [bodiesN]
        rw [this] at h'
        omega) (by omega)
    rw [logGo_step h6 (by rw [hr]) (by rw [hr, hsn]; simpa using hfo), hdr, hr, List.map_cons, List.map_cons, List.getLastD_cons]
    simp only
    rw [ih.1, ih.2, e1]
    exact ⟨rfl, by omega⟩

/-- What stands in bytes that are cut off somewhere. -/
theorem log_cut {ns : List Nt} {s0 : Int} {j t : Nat} (hF : Foll s0 ns) (hj : j ≤ ns.length) (hn : (flatF ((bodiesN ns).take j)).length ≤ t)
    (hend : ∀ h : j < (bodiesN ns).length, t < (flatF ((bodiesN ns).take j)).length + (bodiesN ns)[j].length + 6) :
    notesR ((flatF (bodiesN ns)).take t) = ns.take j ∧ sizeR ((flatF (bodiesN ns)).take t) = (flatF (bodiesN (ns.take j))).length := by
  have h := logGo_flat ns j t (((flatF (bodiesN ns)).take t).length + 1) 0 0 s0 hF (by simp [follB]) hj hn hend (by omega)
  rw [bodiesN_take] at h
  exact ⟨h.1, by simpa [sizeR, logR] using h.2⟩

theorem log_whole {ns : List Nt} {s0 : Int} (hF : Foll s0 ns) : notesR (flatF (bodiesN ns)) = ns ∧ sizeR (flatF (bodiesN ns)) = (flatF (bodiesN ns)).length := by
  have h := @log_cut ns s0 ns.length (flatF (bodiesN ns)).length hF (Nat.le_refl _) (by rw [List.take_of_length_le (by rw [bodiesN_length]; omega)]; omega) (fun h => by rw [bodiesN_length] at h; omega)
  rwa [List.take_length, List.take_length] at h

theorem lastR_eq (bs : List UInt8) : lastR bs = ((notesR bs).map (·.seq)).getLastD 0 := by
  simp only [lastR, notesR, List.map_map]
  rfl

theorem foll_last {s0 : Int} : ∀ {ns : List Nt}, Foll s0 ns → (ns.map (·.seq)).getLastD 0 = if ns.length = 0 then 0 else s0 + ns.length - 1
  | ns, h => by
    rcases List.eq_nil_or_concat ns with rfl | ⟨l, n, rfl⟩
    · simp
    · obtain ⟨_, h2⟩ := h l.length n (by simp)
      simp only [List.concat_eq_append, List.map_append, List.map_cons, List.map_nil, List.getLastD_concat, h2, List.length_append, List.length_cons, List.length_nil]
      rw [if_neg (by omega)]
      push_cast
      omega

/-- A note behind notes follows. -/
theorem foll_next {s0 : Int} {ns : List Nt} (h : Foll s0 ns) : follB ((ns.map (·.seq)).getLastD 0) (s0 + ns.length) = true := by
  rw [foll_last h]
  unfold follB
  split
  · simp
  · simp

/-- What Log comes to: bytes, Kept, the fault. -/
def logD (bs : List UInt8) (k s : Int) (cs : List Cl) : List UInt8 × Int × (Int × Int) :=
  if checkR bs k ≠ 0 then ([], 0, (checkR bs k, 0))
  else if (noteF s cs).1 ≠ 0 then ([], 0, noteF s cs)
  else if sizeR bs < bs.length ∨ follB (lastR bs) s = false then ([], 0, (11, 0))
  else if 60000 < bs.length + (framed (noteB s cs)).length then ([], 0, (9, 0))
  else (bs ++ framed (noteB s cs), k, (0, 0))

theorem logD_bad {bs : List UInt8} {k s : Int} {cs : List Cl} (h : checkR bs k ≠ 0) : logD bs k s cs = ([], 0, (checkR bs k, 0)) := by rw [logD, if_pos h]
theorem logD_note {bs : List UInt8} {k s : Int} {cs : List Cl} (h : checkR bs k = 0) (h2 : (noteF s cs).1 ≠ 0) : logD bs k s cs = ([], 0, noteF s cs) := by rw [logD, if_neg (by omega), if_pos h2]
theorem logD_state {bs : List UInt8} {k s : Int} {cs : List Cl} (h : checkR bs k = 0) (h2 : (noteF s cs).1 = 0) (h3 : sizeR bs < bs.length ∨ follB (lastR bs) s = false) : logD bs k s cs = ([], 0, (11, 0)) := by
  rw [logD, if_neg (by omega), if_neg (by omega), if_pos h3]
theorem logD_much {bs : List UInt8} {k s : Int} {cs : List Cl} (h : checkR bs k = 0) (h2 : (noteF s cs).1 = 0) (h3 : ¬ (sizeR bs < bs.length ∨ follB (lastR bs) s = false)) (h4 : 60000 < bs.length + (framed (noteB s cs)).length) : logD bs k s cs = ([], 0, (9, 0)) := by
  rw [logD, if_neg (by omega), if_neg (by omega), if_neg h3, if_pos h4]
theorem logD_ok {bs : List UInt8} {k s : Int} {cs : List Cl} (h : checkR bs k = 0) (h2 : (noteF s cs).1 = 0) (h3 : ¬ (sizeR bs < bs.length ∨ follB (lastR bs) s = false)) (h4 : ¬ 60000 < bs.length + (framed (noteB s cs)).length) : logD bs k s cs = (bs ++ framed (noteB s cs), k, (0, 0)) := by
  rw [logD, if_neg (by omega), if_neg (by omega), if_neg h3, if_neg h4]

/-- What Replay comes to: bytes, notes, the fault. -/
def replD (bs : List UInt8) (k : Int) : List UInt8 × List Nt × Int :=
  if checkR bs k ≠ 0 then ([], [], checkR bs k)
  else if 1000 < (notesR bs).length then ([], [], 2)
  else (bs.take (sizeR bs), notesR bs, 0)

theorem replD_bad {bs : List UInt8} {k : Int} (h : checkR bs k ≠ 0) : replD bs k = ([], [], checkR bs k) := by rw [replD, if_pos h]
theorem replD_many {bs : List UInt8} {k : Int} (h : checkR bs k = 0) (h2 : 1000 < (notesR bs).length) : replD bs k = ([], [], 2) := by rw [replD, if_neg (by omega), if_pos h2]
theorem replD_ok {bs : List UInt8} {k : Int} (h : checkR bs k = 0) (h2 : ¬ 1000 < (notesR bs).length) : replD bs k = (bs.take (sizeR bs), notesR bs, 0) := by rw [replD, if_neg (by omega), if_neg h2]

end Go.Proofs.Ytlebbkbbmgmmjad

/-
  Plain maths of sorting: two lists in order made one, of cells in one place at one time the last one.
-/
namespace Go.Proofs.Ytlebbkbbmgmmjad
open Go.RowKit

/-- One Row, Col and Time. -/
def Sm (a b : Cl) : Prop := rc a = rc b ∧ a.time = b.time
theorem Sm.refl (a : Cl) : Sm a a := ⟨rfl, rfl⟩
theorem Sm.symm {a b : Cl} (h : Sm a b) : Sm b a := ⟨h.1.symm, h.2.symm⟩
theorem Sm.trans {a b c : Cl} (h : Sm a b) (k : Sm b c) : Sm a c := ⟨h.1.trans k.1, h.2.trans k.2⟩
theorem Lt_not_Sm {a b : Cl} (h : Lt a b) : ¬ Sm a b := by
  rintro ⟨h1, h2⟩
  rcases h with h | ⟨_, h⟩
  · exact kl_ne h h1
  · omega

theorem Lt_Sm {a b c : Cl} (h : Lt a b) (k : Sm b c) : Lt a c := by
  rcases h with h | ⟨h1, h2⟩
  · exact .inl (k.1 ▸ h)
  · exact .inr ⟨h1.trans k.1, by have := k.2; omega⟩

theorem Sm_Lt {a b c : Cl} (k : Sm a b) (h : Lt b c) : Lt a c := by
  rcases h with h | ⟨h1, h2⟩
  · exact .inl (by rw [k.1]; exact h)
  · exact .inr ⟨k.1.trans h1, by have := k.2; omega⟩

theorem Lt_total {a b : Cl} (h1 : ¬ Lt a b) (h2 : ¬ Lt b a) : Sm a b := by
  have e : rc a = rc b := kl_total (fun h => h1 (.inl h)) (fun h => h2 (.inl h))
  refine ⟨e, ?_⟩
  by_cases h3 : b.time < a.time
  · exact absurd (.inr ⟨e, h3⟩) h1
  · by_cases h4 : a.time < b.time
    · exact absurd (.inr ⟨e.symm, h4⟩) h2
    · omega

theorem ordC_zero {a b : Cl} : ordC a b = 0 ↔ Sm a b := by
  unfold ordC Sm rc
  by_cases h1 : cmpS a.row b.row = 0
  · have e1 := cmpS_zero.1 h1
    by_cases h2 : cmpS a.col b.col = 0
    · have e2 := cmpS_zero.1 h2
      simp only [h1, h2, ne_eq, not_true_eq_false, if_false, e1, e2, cmpI]
      simp
      split <;> (try split) <;> omega
    · have : ¬ a.col.toList = b.col.toList := fun e => h2 (cmpS_zero.2 e)
      simp [h1, h2, this]
  · have : ¬ a.row.toList = b.row.toList := fun e => h1 (cmpS_zero.2 e)
    simp [h1, this]

/-- Two lists made one. -/
def mrg : List Cl → List Cl → List Cl
  | [], b => b
  | x :: a, [] => x :: a
  | x :: a, y :: b => if ordC x y < 0 then x :: mrg a (y :: b) else if ordC x y = 0 then y :: mrg a b else y :: mrg (x :: a) b
  termination_by a b => a.length + b.length

theorem mrg_nil_right (a : List Cl) : mrg a [] = a := by cases a <;> simp [mrg]
theorem mrg_left {x y : Cl} {a b : List Cl} (h : ordC x y < 0) : mrg (x :: a) (y :: b) = x :: mrg a (y :: b) := by rw [mrg, if_pos h]
theorem mrg_both {x y : Cl} {a b : List Cl} (h : ordC x y = 0) : mrg (x :: a) (y :: b) = y :: mrg a b := by rw [mrg, if_neg (by omega), if_pos h]
theorem mrg_right {x y : Cl} {a b : List Cl} (h : 0 < ordC x y) : mrg (x :: a) (y :: b) = y :: mrg (x :: a) b := by rw [mrg, if_neg (by omega), if_neg (by omega)]

theorem mrg_len : ∀ (a b : List Cl), (mrg a b).length ≤ a.length + b.length
  | [], b => by simp [mrg]
  | x :: a, [] => by simp [mrg]
  | x :: a, y :: b => by
    have i1 := mrg_len a (y :: b)
    have i2 := mrg_len a b
    have i3 := mrg_len (x :: a) b
    rw [mrg]
    split
    · simp at i1 ⊢; omega
    · split
      · simp at i2 ⊢; omega
      · simp at i3 ⊢; omega
  termination_by a b => a.length + b.length

theorem mrg_mem : ∀ (a b : List Cl), a.Pairwise Lt → b.Pairwise Lt → ∀ c, c ∈ mrg a b ↔ c ∈ b ∨ (c ∈ a ∧ ∀ d ∈ b, ¬ Sm c d)
  | [], b, _, _, c => by simp [mrg]
  | x :: a, [], _, _, c => by simp [mrg]
  | x :: a, y :: b, ha, hb, c => by
    obtain ⟨ha1, ha2⟩ := List.pairwise_cons.1 ha
    obtain ⟨hb1, hb2⟩ := List.pairwise_cons.1 hb
    rw [mrg]
    split
    · rename_i h
      have hxy := ordC_neg.1 h
      rw [List.mem_cons, mrg_mem a (y :: b) ha2 hb c]
      constructor
      · rintro (rfl | h1 | ⟨h1, h2⟩)
        · refine .inr ⟨by simp, fun d hd => ?_⟩
          rcases List.mem_cons.1 hd with rfl | hd
          · exact Lt_not_Sm hxy
          · exact Lt_not_Sm (Lt_trans hxy (hb1 d hd))
        · exact .inl h1
        · exact .inr ⟨by simp [h1], h2⟩
      · rintro (h1 | ⟨h1, h2⟩)
        · exact .inr (.inl h1)
        · rcases List.mem_cons.1 h1 with rfl | h1
          · exact .inl rfl
          · exact .inr (.inr ⟨h1, h2⟩)
    · rename_i h
      split
      · rename_i h0
        have hxy := ordC_zero.1 h0
        rw [List.mem_cons, mrg_mem a b ha2 hb2 c]
        constructor
        · rintro (rfl | h1 | ⟨h1, h2⟩)
          · exact .inl (by simp)
          · exact .inl (by simp [h1])
          · refine .inr ⟨by simp [h1], fun d hd => ?_⟩
            rcases List.mem_cons.1 hd with rfl | hd
            · exact fun h3 => Lt_not_Sm (Sm_Lt hxy.symm (ha1 c h1)) h3.symm
            · exact h2 d hd
        · rintro (h1 | ⟨h1, h2⟩)
          · rcases List.mem_cons.1 h1 with rfl | h1
            · exact .inl rfl
            · exact .inr (.inl h1)
          · rcases List.mem_cons.1 h1 with rfl | h1
            · exact absurd hxy (h2 y (by simp))
            · exact .inr (.inr ⟨h1, fun d hd => h2 d (by simp [hd])⟩)
      · rename_i h0
        have hyx : Lt y x := by
          by_cases hh : Lt y x
          · exact hh
          · exact absurd (ordC_zero.2 (Lt_total (fun k => h (ordC_neg.2 k)) hh)) h0
        rw [List.mem_cons, mrg_mem (x :: a) b ha hb2 c]
        constructor
        · rintro (rfl | h1 | ⟨h1, h2⟩)
          · exact .inl (by simp)
          · exact .inl (by simp [h1])
          · refine .inr ⟨h1, fun d hd => ?_⟩
            rcases List.mem_cons.1 hd with rfl | hd
            · have hyc : Lt d c := by
                rcases List.mem_cons.1 h1 with rfl | h1
                · exact hyx
                · exact Lt_trans hyx (ha1 c h1)
              exact fun h3 => Lt_not_Sm hyc h3.symm
            · exact h2 d hd
        · rintro (h1 | ⟨h1, h2⟩)
          · rcases List.mem_cons.1 h1 with rfl | h1
            · exact .inl rfl
            · exact .inr (.inl h1)
          · exact .inr (.inr ⟨h1, fun d hd => h2 d (by simp [hd])⟩)
  termination_by a b => a.length + b.length

theorem mrg_pw : ∀ (a b : List Cl), a.Pairwise Lt → b.Pairwise Lt → (mrg a b).Pairwise Lt
  | [], b, _, hb => by simpa [mrg] using hb
  | x :: a, [], ha, _ => by simpa [mrg] using ha
  | x :: a, y :: b, ha, hb => by
    obtain ⟨ha1, ha2⟩ := List.pairwise_cons.1 ha
    obtain ⟨hb1, hb2⟩ := List.pairwise_cons.1 hb
    have i1 := mrg_pw a (y :: b) ha2 hb
    have i2 := mrg_pw a b ha2 hb2
    have i3 := mrg_pw (x :: a) b ha hb2
    rw [mrg]
    split
    · rename_i h
      have hxy := ordC_neg.1 h
      refine List.pairwise_cons.2 ⟨fun c hc => ?_, i1⟩
      rcases (mrg_mem a (y :: b) ha2 hb c).1 hc with h1 | ⟨h1, _⟩
      · rcases List.mem_cons.1 h1 with rfl | h1
        · exact hxy
        · exact Lt_trans hxy (hb1 c h1)
      · exact ha1 c h1
    · rename_i h
      split
      · rename_i h0
        have hxy := ordC_zero.1 h0
        refine List.pairwise_cons.2 ⟨fun c hc => ?_, i2⟩
        rcases (mrg_mem a b ha2 hb2 c).1 hc with h1 | ⟨h1, _⟩
        · exact hb1 c h1
        · exact Sm_Lt hxy.symm (ha1 c h1)
      · rename_i h0
        have hyx : Lt y x := by
          by_cases hh : Lt y x
          · exact hh
          · exact absurd (ordC_zero.2 (Lt_total (fun k => h (ordC_neg.2 k)) hh)) h0
        refine List.pairwise_cons.2 ⟨fun c hc => ?_, i3⟩
        rcases (mrg_mem (x :: a) b ha hb2 c).1 hc with h1 | ⟨h1, _⟩
        · exact hb1 c h1
        · rcases List.mem_cons.1 h1 with rfl | h1
          · exact hyx
          · exact Lt_trans hyx (ha1 c h1)
  termination_by a b => a.length + b.length

/-- c is the last one of its place and time in l. -/
def LastIn : List Cl → Cl → Prop
  | [], _ => False
  | x :: l, c => LastIn l c ∨ (c = x ∧ ∀ d ∈ l, ¬ Sm c d)

theorem LastIn.mem : ∀ {l : List Cl} {c : Cl}, LastIn l c → c ∈ l
  | x :: l, c, h => by
    rcases h with h | ⟨rfl, _⟩
    · exact List.mem_cons_of_mem _ h.mem
    · simp

theorem last_ex : ∀ {l : List Cl} {c : Cl}, c ∈ l → ∃ d, LastIn l d ∧ Sm c d
  | x :: l, c, h => by
    by_cases hx : ∃ d ∈ l, Sm c d
    · obtain ⟨d, hd, hcd⟩ := hx
      obtain ⟨e, he, hde⟩ := last_ex hd
      exact ⟨e, .inl he, hcd.trans hde⟩
    · rcases List.mem_cons.1 h with rfl | h
      · exact ⟨c, .inr ⟨rfl, fun d hd hs => hx ⟨d, hd, hs⟩⟩, Sm.refl _⟩
      · exact absurd ⟨c, h, Sm.refl _⟩ hx

theorem last_append : ∀ {a b : List Cl} {c : Cl}, LastIn (a ++ b) c ↔ LastIn b c ∨ (LastIn a c ∧ ∀ d ∈ b, ¬ Sm c d)
  | [], b, c => by simp [LastIn]
  | x :: a, b, c => by
    simp only [List.cons_append, LastIn, last_append (a := a), List.mem_append]
    constructor
    · rintro ((h | h) | ⟨rfl, h⟩)
      · exact .inl h
      · exact .inr ⟨.inl h.1, h.2⟩
      · exact .inr ⟨.inr ⟨rfl, fun d hd => h d (.inl hd)⟩, fun d hd => h d (.inr hd)⟩
    · rintro (h | ⟨h | ⟨rfl, h⟩, h2⟩)
      · exact .inl (.inl h)
      · exact .inl (.inr ⟨h, h2⟩)
      · exact .inr ⟨rfl, fun d hd => hd.elim (h d) (h2 d)⟩

theorem last_pw : ∀ {l : List Cl}, l.Pairwise Lt → ∀ {c : Cl}, LastIn l c ↔ c ∈ l
  | [], _, c => by simp [LastIn]
  | x :: l, hp, c => by
    obtain ⟨h1, h2⟩ := List.pairwise_cons.1 hp
    simp only [LastIn, last_pw h2, List.mem_cons]
    constructor
    · rintro (h | ⟨h, _⟩)
      · exact .inr h
      · exact .inl h
    · rintro (rfl | h)
      · exact .inr ⟨rfl, fun d hd => Lt_not_Sm (h1 d hd)⟩
      · exact .inl h

/-- out is l in order, of cells in one place at one time the last one. -/
def Srt (l out : List Cl) : Prop := out.Pairwise Lt ∧ (∀ c, c ∈ out ↔ LastIn l c) ∧ out.length ≤ l.length

theorem Srt.uniq {l o p : List Cl} (h : Srt l o) (k : Srt l p) : o = p :=
  pw_ext Lt_irrefl (fun _ _ _ => Lt_trans) h.1 k.1 fun c => (h.2.1 c).trans (k.2.1 c).symm

theorem Srt.nil : Srt [] [] := ⟨.nil, by simp [LastIn], by simp⟩
theorem Srt.pw {l : List Cl} (h : l.Pairwise Lt) : Srt l l := ⟨h, fun _ => (last_pw h).symm, Nat.le_refl _⟩

theorem Srt.join {a b o p : List Cl} (h : Srt a o) (k : Srt b p) : Srt (a ++ b) (mrg o p) := by
  refine ⟨mrg_pw o p h.1 k.1, fun c => ?_, ?_⟩
  · rw [mrg_mem o p h.1 k.1, last_append, k.2.1, h.2.1]
    constructor
    · rintro (h1 | ⟨h1, h2⟩)
      · exact .inl h1
      · refine .inr ⟨h1, fun d hd hs => ?_⟩
        obtain ⟨e, he, hde⟩ := last_ex hd
        exact h2 e ((k.2.1 e).2 he) (hs.trans hde)
    · rintro (h1 | ⟨h1, h2⟩)
      · exact .inl h1
      · exact .inr ⟨h1, fun d hd => h2 d ((k.2.1 d).1 hd).mem⟩
  · have := mrg_len o p
    have := h.2.2
    have := k.2.2
    simp
    omega

end Go.Proofs.Ytlebbkbbmgmmjad

/-
  The walks over what cell.Sort calls: copies, two lists made one.
-/
namespace Go.Proofs.Ytlebbkbbmgmmjad
open Go.RowKit


set_option maxRecDepth 100000 in
set_option maxHeartbeats 400000 in
theorem Clone_any (v : Value) (cs : List Cl) (w : World) (hv : RdC w v cs) (hl : cs.length ≤ 1000000) :
    Calls Try.prog 84 #[v] w fun e w' => ∃ v', e = .returned v' ∧ RdC w' v' cs ∧ Below w.heap.size w w' ∧ New w.heap.size v' := by
  obtain ⟨ao, cap, hvv, hc1, hc2, hnil, hcells⟩ := hv
  have hv : RdC w v cs := ⟨ao, cap, hvv, hc1, hc2, hnil, hcells⟩
  subst hvv
  have hl2 : 0 + cs.length ≤ 1000000000 := by omega
  cases ao with
  | none =>
    have hz := hnil rfl
    subst hz
    have he : cs = [] := List.eq_nil_of_length_eq_zero (by omega)
    subst he
    have heq : ∀ W, (binOp .eql 30 (.slice none 0 0) (.slice none 0 0)).run Try.prog W = .ok (.bool true) W := fun W => Lib.run_eql_slice_nil W _ _ none 0 0 0 0 Try.underlying30
    go_enter Try.func84, Try.ntmps84
    go_wp2_with fail
    go_ret
    exact ⟨_, rfl, RdC.nil _, Below.refl _ _, New.nil _⟩
  | some a =>
    have hown : (w.alloc (.cells #[] 91)).ownsRow w.heap.size 91 5 (.slice (some ⟨w.heap.size, 0, none⟩) 0 0) 0 (cc []) := World.ownsRow_made w #[] 0 (Nat.le_refl _) (by decide) rfl
    have hv1 := hv.alloc (.cells #[] 91)
    have hb8 : w.heap.size ≤ (w.alloc (.cells #[] 91)).heap.size := by simp
    have hbA := below_alloc' w (.cells #[] 91)
    clear hcells hnil
    have heq : ∀ W, (binOp .eql 30 (.slice (some a) cs.length cap) (.slice none 0 0)).run Try.prog W = .ok (.bool false) W := fun W => Lib.run_eql_slice_nil W _ _ (some a) cs.length cap 0 0 Try.underlying30
    go_enter Try.func84, Try.ntmps84
    go_wp2_with (at_builtin; go_must (refine wpList_append_rdC (cs := []) hown hv1 Try.underlying30 Try.info91 rfl rfl rfl rfl rfl hl2 (by decide) hb8 ?_); intro v1 w1 ho1 hb1 hg1; clear hg1)
    go_ret
    exact ⟨_, rfl, RdC.ofOwns (by simpa using ho1), hbA.trans hb1, New.owns ho1⟩

theorem RdC.from {w : World} {ao : Option Addr} {n cap lo : Nat} {cs : List Cl} (h : RdC w (.slice ao n cap) cs) (h1 : lo ≤ n) : RdC w (Go.sliced ao lo n cap 5) (cs.drop lo) := by
  obtain ⟨ao', cap', hv, h2, h3, h4, h5⟩ := h
  simp only [Value.slice.injEq] at hv
  obtain ⟨rfl, rfl, rfl⟩ := hv
  refine ⟨_, cap - lo, by rw [List.length_drop]; rfl, by rw [List.length_drop]; omega, by omega, ?_, ?_⟩
  · intro hn
    split at hn
    · omega
    · rw [Option.map_eq_none_iff] at hn
      have := h4 hn
      omega
  · intro a ha j u hu
    split at ha
    · rename_i hz
      have hj := (List.getElem?_eq_some_iff.1 hu).1
      rw [cc_length, List.length_drop] at hj
      omega
    · obtain ⟨a0, e0, rfl⟩ := Option.map_eq_some_iff.1 ha
      rw [← cc_drop, List.getElem?_drop] at hu
      have hl := (List.getElem?_eq_some_iff.1 hu).1
      have h0 := h5 a0 e0 0 (cc cs)[0] (by simp)
      obtain ⟨b, o, rfl⟩ := add_spot h0
      have := h5 _ e0 (lo * 5 + j) u hu
      simp only [Addr.add_lit] at this ⊢
      rw [Nat.add_assoc]
      exact this

end Go.Proofs.Ytlebbkbbmgmmjad

/-
  The walk over cell.mergedTwo.
-/
namespace Go.Proofs.Ytlebbkbbmgmmjad
open Go.RowKit

/-- 'v[1:]' of cells as an operation. -/
theorem run_slice_fromC {P : Program} {t e : TypeId} {z : Value} {bytes : Nat} (ht : P.underlying t = some (.slice e)) (he : P.elem t = e) (hinf : (P.info? e).map (fun i => (i.zero, i.size, i.bytes)) = some (some z, 5, bytes))
    (ao : Option Addr) (n cap lo : Nat) (l : Int) (hl : l = lo) (h1 : lo ≤ n) (W : World) :
    (Instr.slice t (.slice ao n cap) (some (.int .i64 l)) none none).run P W = .ok (Go.sliced ao lo n cap 5) W := by
  obtain ⟨i, hi0, _, hsize, _⟩ := info_parts hinf
  subst hl
  rw [run_slice_l (P := P) W t ao n cap (by rw [he]; exact ht) .i64 lo (by omega) (by omega)]
  simp [he, sizeOf, typeInfo, hi0, hsize, Result.andThen]

/-- 'make([]T, 0, c)' of cells. -/
theorem wpList_makeC {P : Program} {w : World} {ops : Array Oper} {rest : List Oper} {o : Oper} {a : Act} {Q : Exit → Act → World → Prop} {l c : Operand} {t e : TypeId} {z : Value} {bytes : Nat} {C : Int} {n : Nat}
    (ht : P.underlying t = some (.slice e)) (hinf : (P.info? e).map (fun i => (i.zero, i.size, i.bytes)) = some (some z, 5, bytes))
    (hg : o.guard = none) (hop : o.op = Op.makeSlice t l c) (hl : a.eval l = .int .i64 0) (hc : a.eval c = .int .i64 C) (hC : C = (n : Int)) (hn : n ≤ 1000000) (hb : bytes ≤ 64)
    (h : ∀ w', w'.ownsRow w.heap.size e 5 (.slice (some ⟨w.heap.size, 0, none⟩) 0 n) 0 (cc []) → Below w.heap.size w w' → w.heap.size < w'.heap.size → wpList P ops Q rest (a.put o.dst (.slice (some ⟨w.heap.size, 0, none⟩) 0 n)) w') : wpList P ops Q (o :: rest) a w := by
  obtain ⟨i, hi, hz, hsize, hby⟩ := info_parts hinf
  refine wpList_make_own w hg l c t hop w.heap.size e i z 5 ht hi hz hsize .i64 .i64 C n hl hc hC (by rw [hby]; exact Nat.le_trans (Nat.mul_le_mul hb hn) (by decide)) (by unfold maxLen; omega) (Nat.le_refl _) ?_
  intro w' h1 h2
  have h3 := (h1.lt w.heap.size rfl).2
  exact h w' h1 ((Below.refl _ _).grown h2 (Nat.le_refl _) (fun k hk => by cases hk)) h3

/-- The tail of a list of cells: its value. -/
theorem tailC {w : World} {ao : Option Addr} {n cap : Nat} {c : Cl} {cs : List Cl} (h : RdC w (.slice ao n cap) (c :: cs)) :
    ∃ vo vc, (∀ W, (Instr.slice 30 (.slice ao n cap) (some (.int .i64 1)) none none).run Try.prog W = .ok (.slice vo cs.length vc) W) ∧ RdC w (.slice vo cs.length vc) cs := by
  have hn : n = cs.length + 1 := by
    obtain ⟨_, _, hv, _⟩ := h
    simp only [Value.slice.injEq] at hv
    simpa using hv.2.1
  have h1 := h.from (lo := 1) (by omega)
  have hs := run_slice_fromC (P := Try.prog) Try.underlying30 (by kernel_rfl) Try.info91 ao n cap 1 1 rfl (by omega)
  simp only [List.drop_succ_cons, List.drop_zero] at h1
  obtain ⟨vo, vc, hv, _, _⟩ := h1.shape
  rw [hv] at h1 hs
  exact ⟨vo, vc, hs, h1⟩

theorem RdC.head {w : World} {ao : Option Addr} {n cap : Nat} {c : Cl} {cs : List Cl} (h : RdC w (.slice ao n cap) (c :: cs)) : ∃ b off, ao = some ⟨b, off, none⟩ ∧ b < w.heap.size ∧ At w b off c := by
  obtain ⟨ao', cap', hv, _, _, hat⟩ := h.at
  simp only [Value.slice.injEq] at hv
  obtain ⟨rfl, _, _⟩ := hv
  obtain ⟨b, off, ha, hb, hc⟩ := hat 0 (by simp)
  have := hc 0 (by simp)
  rw [Nat.zero_mul, Nat.add_zero] at this
  exact ⟨b, off, ha, hb, this⟩

theorem RdC.slen2 {w : World} {ao : Option Addr} {n cap : Nat} {cs : List Cl} (h : RdC w (.slice ao n cap) cs) : n ≤ cap ∧ cap ≤ 9223372036854775807 := by
  obtain ⟨ao', cap', hv, h1, h2, _⟩ := h
  simp only [Value.slice.injEq] at hv
  obtain ⟨_, rfl, rfl⟩ := hv
  exact ⟨h1, by unfold maxLen at h2; omega⟩


end Go.Proofs.Ytlebbkbbmgmmjad

/-
  The walk over cell.runs: lists in order, pieces of the argument.
-/
namespace Go.Proofs.Ytlebbkbbmgmmjad
open Go.RowKit

theorem Try.info30 : (Try.prog.info? 30).map (fun i => (i.zero, i.size, i.bytes)) = some (some (.slice none 0 0), 1, 24) := by kernel_rfl

/-- 'v[lo:hi]' of cells as an operation. -/
theorem run_slice_rdC {P : Program} {t e : TypeId} {z : Value} {bytes : Nat} (ht : P.underlying t = some (.slice e)) (he : P.elem t = e) (hinf : (P.info? e).map (fun i => (i.zero, i.size, i.bytes)) = some (some z, 5, bytes))
    (ao : Option Addr) (n cap lo hi : Nat) (l h : Int) (hl : l = lo) (hh : h = hi) (h1 : lo ≤ hi) (h2 : hi ≤ cap) (W : World) :
    (Instr.slice t (.slice ao n cap) (some (.int .i64 l)) (some (.int .i64 h)) none).run P W = .ok (Go.sliced ao lo hi cap 5) W := by
  obtain ⟨i, hi0, _, hsize, _⟩ := info_parts hinf
  subst hl hh
  rw [run_slice_lh (P := P) W t ao n cap (by rw [he]; exact ht) .i64 .i64 lo hi (by omega) (by omega) (by omega)]
  simp [he, sizeOf, typeInfo, hi0, hsize, Result.andThen]

theorem RdC.sliced {w : World} {ao : Option Addr} {n cap lo hi : Nat} {cs : List Cl} (h : RdC w (.slice ao n cap) cs) (h1 : lo ≤ hi) (h2 : hi ≤ n) : RdC w (Go.sliced ao lo hi cap 5) ((cs.drop lo).take (hi - lo)) := by
  obtain ⟨ao', cap', hv, h3, h4, h5, h6⟩ := h
  simp only [Value.slice.injEq] at hv
  obtain ⟨rfl, rfl, rfl⟩ := hv
  have hl : ((cs.drop lo).take (hi - lo)).length = hi - lo := by simp; omega
  refine ⟨_, cap - lo, by rw [hl]; rfl, by omega, by omega, ?_, ?_⟩
  · intro hn
    split at hn
    · omega
    · rw [Option.map_eq_none_iff] at hn
      have := h5 hn
      omega
  · intro a ha j u hu
    have hj := (List.getElem?_eq_some_iff.1 hu).1
    rw [cc_length, hl] at hj
    rw [← cc_take, ← cc_drop, List.getElem?_take, if_pos (by omega), List.getElem?_drop] at hu
    split at ha
    · omega
    · obtain ⟨a0, e0, rfl⟩ := Option.map_eq_some_iff.1 ha
      have hl2 := (List.getElem?_eq_some_iff.1 hu).1
      have h0 := h6 a0 e0 0 (cc cs)[0] (by simp)
      obtain ⟨b, o, rfl⟩ := add_spot h0
      have := h6 _ e0 (lo * 5 + j) u hu
      simp only [Addr.add_lit] at this ⊢
      rw [Nat.add_assoc]
      exact this

/-- The pieces of a list: each a slice of its own. -/
def RdL (w : World) (v : Value) (ls : List (List Cl)) : Prop := ∃ vs : List Value, Rd w v vs ∧ vs.length = ls.length ∧ (∀ u ∈ vs, u.oneCell' = true) ∧ ∀ (i : Nat) u l, vs[i]? = some u → ls[i]? = some l → RdC w u l

/-- The values of pieces. -/
def Pcs (w : World) (vs : List Value) (ls : List (List Cl)) : Prop := vs.length = ls.length ∧ (∀ u ∈ vs, u.oneCell' = true) ∧ ∀ (i : Nat) u l, vs[i]? = some u → ls[i]? = some l → RdC w u l

theorem Pcs.nil (w : World) : Pcs w [] [] := ⟨rfl, by simp, fun i u l h => by simp at h⟩
theorem Pcs.snoc {w : World} {vs : List Value} {ls : List (List Cl)} (h : Pcs w vs ls) {u : Value} {l : List Cl} (hu : RdC w u l) : Pcs w (vs ++ [u]) (ls ++ [l]) := by
  refine ⟨by simp [h.1], fun x hx => ?_, fun i x y hx hy => ?_⟩
  · rcases List.mem_append.1 hx with hx | hx
    · exact h.2.1 x hx
    · simp at hx
      subst hx
      obtain ⟨_, _, rfl, _⟩ := hu
      rfl
  · by_cases hi : i < vs.length
    · rw [List.getElem?_append_left hi] at hx
      rw [List.getElem?_append_left (by rw [← h.1]; exact hi)] at hy
      exact h.2.2 i x y hx hy
    · have h1 := (List.getElem?_eq_some_iff.1 hx).1
      simp at h1
      have e : i = vs.length := by omega
      subst e
      rw [List.getElem?_append_right (Nat.le_refl _), Nat.sub_self] at hx
      rw [List.getElem?_append_right (by rw [h.1]; exact Nat.le_refl _), h.1, Nat.sub_self] at hy
      simp at hx hy
      subst hx hy
      exact hu

theorem Pcs.below {w w' : World} {vs : List Value} {ls : List (List Cl)} (h : Pcs w vs ls) (hb : Below w.heap.size w w') : Pcs w' vs ls :=
  ⟨h.1, h.2.1, fun i u l hu hl => (h.2.2 i u l hu hl).below hb⟩

/-- The piece from s up to k grows by one. -/
theorem piece_grow {cs : List Cl} {s k : Nat} (h : s ≤ k) {c d : Cl} (hc : cs[k]? = some c) (hd : cs[k + 1]? = some d) (hp : ((cs.drop s).take (k + 1 - s)).Pairwise Lt) (hcd : Lt c d) : ((cs.drop s).take (k + 2 - s)).Pairwise Lt := by
  have e : (cs.drop s).take (k + 2 - s) = (cs.drop s).take (k + 1 - s) ++ [d] := by
    rw [show k + 2 - s = (k + 1 - s) + 1 by omega, List.take_add_one, List.getElem?_drop, show s + (k + 1 - s) = k + 1 by omega, hd]
    rfl
  have e2 : (cs.drop s).take (k + 1 - s) = (cs.drop s).take (k - s) ++ [c] := by
    rw [show k + 1 - s = (k - s) + 1 by omega, List.take_add_one, List.getElem?_drop, show s + (k - s) = k by omega, hc]
    rfl
  rw [e]
  refine List.pairwise_append.2 ⟨hp, by simp, fun x hx y hy => ?_⟩
  simp at hy
  subst hy
  rw [e2] at hx hp
  rcases List.mem_append.1 hx with hx | hx
  · exact Lt_trans ((List.pairwise_append.1 hp).2.2 x hx c (by simp)) hcd
  · simp at hx
    subst hx
    exact hcd

theorem piece_one {cs : List Cl} {k : Nat} : ((cs.drop k).take (k + 1 - k)).Pairwise Lt := by
  rw [show k + 1 - k = 1 by omega]
  cases h : cs.drop k with
  | nil => simp
  | cons x l => simp

theorem piece_join {cs : List Cl} {s k : Nat} (h : s ≤ k) : cs.take s ++ (cs.drop s).take (k - s) = cs.take k := by
  rw [← List.take_add, show s + (k - s) = k by omega]


end Go.Proofs.Ytlebbkbbmgmmjad

/-
  Lists of notes in memory: two places each.
-/
namespace Go.Proofs.Ytlebbkbbmgmmjad
open Go.RowKit

/-- The places of notes: the number, and the cells' slice. -/
def nn (ps : List (Int × Value)) : List Value := ps.flatMap fun p => [.int .i64 p.1, p.2]

theorem nn_nil : nn [] = [] := rfl
theorem nn_cons (p : Int × Value) (ps : List (Int × Value)) : nn (p :: ps) = .int .i64 p.1 :: p.2 :: nn ps := rfl
theorem nn_append (a b : List (Int × Value)) : nn (a ++ b) = nn a ++ nn b := by simp [nn]
theorem nn_length : ∀ ps : List (Int × Value), (nn ps).length = ps.length * 2
  | [] => rfl
  | p :: ps => by rw [nn_cons, List.length_cons, List.length_cons, nn_length ps, List.length_cons]; omega

theorem nn_one {ps : List (Int × Value)} (h : ∀ p ∈ ps, p.2.oneCell' = true) : ∀ u ∈ nn ps, u.oneCell' = true := by
  intro u hu
  obtain ⟨p, hp, hx⟩ := List.mem_flatMap.1 hu
  simp at hx
  rcases hx with rfl | rfl
  · rfl
  · exact h p hp

theorem nn_get : ∀ (ps : List (Int × Value)) (j : Nat) (h : j < ps.length), (nn ps)[j * 2]? = some (.int .i64 ps[j].1) ∧ (nn ps)[j * 2 + 1]? = some ps[j].2
  | [], j, h => by simp at h
  | p :: ps, 0, h => by rw [nn_cons]; simp
  | p :: ps, j + 1, h => by
    have := nn_get ps j (by simpa using h)
    rw [nn_cons, show (j + 1) * 2 = j * 2 + 1 + 1 by omega]
    simpa using this

theorem nn_drop : ∀ (ps : List (Int × Value)) (k : Nat), (nn ps).drop (k * 2) = nn (ps.drop k)
  | ps, 0 => by simp
  | [], k + 1 => by simp [nn]
  | p :: ps, k + 1 => by
    rw [nn_cons, show (k + 1) * 2 = k * 2 + 1 + 1 by omega, List.drop_succ_cons, List.drop_succ_cons, nn_drop ps k, List.drop_succ_cons]

theorem nn_take : ∀ (ps : List (Int × Value)) (k : Nat), (nn ps).take (k * 2) = nn (ps.take k)
  | ps, 0 => by simp [nn]
  | [], k + 1 => by simp [nn]
  | p :: ps, k + 1 => by
    rw [nn_cons, show (k + 1) * 2 = k * 2 + 1 + 1 by omega, List.take_succ_cons, List.take_succ_cons, nn_take ps k, List.take_succ_cons, nn_cons]

/-- A slice of such. -/
def Rd2 (w : World) (v : Value) (ps : List (Int × Value)) : Prop :=
  ∃ ao cap, v = .slice ao ps.length cap ∧ ps.length ≤ cap ∧ cap ≤ maxLen ∧ (ao = none → cap = 0) ∧ (∀ p ∈ ps, p.2.oneCell' = true) ∧ ∀ a, ao = some a → ∀ j u, (nn ps)[j]? = some u → w.cell? (a.add j) = some u

theorem Rd2.nil (w : World) : Rd2 w (.slice none 0 0) [] := ⟨none, 0, rfl, Nat.le_refl _, Nat.zero_le _, fun _ => rfl, by simp, fun a h => by cases h⟩

theorem Rd2.ofOwns {w : World} {base : Nat} {e : TypeId} {v : Value} {n : Nat} {ps : List (Int × Value)} (h : w.ownsRow base e 2 v n (nn ps)) (h1 : ∀ p ∈ ps, p.2.oneCell' = true) : Rd2 w v ps := by
  have hl : ps.length = n := by have := h.1; rw [nn_length] at this; omega
  rcases h.2 with ⟨rfl, hn⟩ | ⟨g, cap, cur, rfl, hb, hg, hnc, hcm, hcs, htake⟩
  · have : ps = [] := List.eq_nil_of_length_eq_zero (by omega)
    subst this
    exact Rd2.nil w
  · refine ⟨some ⟨g, 0, none⟩, cap, by rw [hl], (by omega), hcm, (fun h => by cases h), h1, fun a ha j u hu => ?_⟩
    cases ha
    exact h.cells (by simp [Value.ownBlock]) j u hu

theorem Rd2.below {w w' : World} {v : Value} {ps : List (Int × Value)} (h : Rd2 w v ps) (hb : Below w.heap.size w w') : Rd2 w' v ps := by
  obtain ⟨ao, cap, hv, h1, h2, h3, h5, h4⟩ := h
  refine ⟨ao, cap, hv, h1, h2, h3, h5, fun a ha j u hu => ?_⟩
  have hc := h4 a ha j u hu
  rw [hb.cell (World.block_lt_of_cell? w _ hc)]
  exact hc

theorem Rd2.shape {w : World} {v : Value} {ps : List (Int × Value)} (h : Rd2 w v ps) : ∃ ao cap, v = .slice ao ps.length cap ∧ ps.length ≤ cap ∧ cap ≤ maxLen := by
  obtain ⟨ao, cap, hv, h1, h2, _⟩ := h
  exact ⟨ao, cap, hv, h1, h2⟩

theorem Rd2.at {w : World} {v : Value} {ps : List (Int × Value)} (h : Rd2 w v ps) :
    ∃ ao cap, v = .slice ao ps.length cap ∧ ps.length ≤ cap ∧ cap ≤ maxLen ∧ ∀ j, (hj : j < ps.length) → ∃ b off, ao = some ⟨b, off, none⟩ ∧ b < w.heap.size ∧ w.cell? ⟨b, off + j * 2, none⟩ = some (.int .i64 ps[j].1) ∧ w.cell? ⟨b, off + j * 2 + 1, none⟩ = some ps[j].2 := by
  obtain ⟨ao, cap, hv, h1, h2, h3, h5, h4⟩ := h
  refine ⟨ao, cap, hv, h1, h2, fun j hj => ?_⟩
  cases ao with
  | none => have := h3 rfl; omega
  | some a =>
    obtain ⟨g0, g1⟩ := nn_get ps j hj
    have z0 := h4 a rfl _ _ (nn_get ps 0 (by omega)).1
    rw [Nat.zero_mul] at z0
    have k0 := h4 a rfl _ _ g0
    have k1 := h4 a rfl _ _ g1
    obtain ⟨b, o, rfl⟩ := add_spot z0
    rw [Addr.add_lit] at k0 k1
    exact ⟨b, o, rfl, World.block_lt_of_cell? w _ k0, k0, by rw [Nat.add_assoc]; exact k1⟩

/-- Notes: what their places read as. -/
def NtP (w : World) (ps : List (Int × Value)) (ns : List Nt) : Prop :=
  ps.length = ns.length ∧ ∀ (i : Nat) (p : Int × Value) (n : Nt), ps[i]? = some p → ns[i]? = some n → p.1 = n.seq ∧ RdC w p.2 n.cells

theorem NtP.nil (w : World) : NtP w [] [] := ⟨rfl, fun i p n h => by simp at h⟩
theorem NtP.below {w w' : World} {ps : List (Int × Value)} {ns : List Nt} (h : NtP w ps ns) (hb : Below w.heap.size w w') : NtP w' ps ns :=
  ⟨h.1, fun i p n hp hn => ⟨(h.2 i p n hp hn).1, (h.2 i p n hp hn).2.below hb⟩⟩
theorem NtP.one {w : World} {ps : List (Int × Value)} {ns : List Nt} (h : NtP w ps ns) : ∀ p ∈ ps, p.2.oneCell' = true := by
  intro p hp
  obtain ⟨i, hi, e⟩ := List.getElem_of_mem hp
  have := (h.2 i p (ns[i]'(by rw [← h.1]; exact hi)) (by rw [List.getElem?_eq_getElem hi, e]) (List.getElem?_eq_getElem _)).2
  obtain ⟨_, _, e2, _⟩ := this
  rw [e2]
  rfl

theorem NtP.snoc {w : World} {ps : List (Int × Value)} {ns : List Nt} (h : NtP w ps ns) {u : Value} {n : Nt} (hu : RdC w u n.cells) : NtP w (ps ++ [(n.seq, u)]) (ns ++ [n]) := by
  refine ⟨by simp [h.1], fun i p m hp hm => ?_⟩
  by_cases hi : i < ps.length
  · rw [List.getElem?_append_left hi] at hp
    rw [List.getElem?_append_left (by rw [← h.1]; exact hi)] at hm
    exact h.2 i p m hp hm
  · have h1 := (List.getElem?_eq_some_iff.1 hp).1
    simp at h1
    have e : i = ps.length := by omega
    subst e
    rw [List.getElem?_append_right (Nat.le_refl _), Nat.sub_self] at hp
    rw [List.getElem?_append_right (by rw [h.1]; exact Nat.le_refl _), h.1, Nat.sub_self] at hm
    simp at hp hm
    subst hp hm
    exact ⟨rfl, hu⟩

/-- A slice that reads as notes. -/
def RdN (w : World) (v : Value) (ns : List Nt) : Prop := ∃ ps, Rd2 w v ps ∧ NtP w ps ns

theorem RdN.nil (w : World) : RdN w (.slice none 0 0) [] := ⟨[], Rd2.nil w, NtP.nil w⟩
theorem RdN.below {w w' : World} {v : Value} {ns : List Nt} (h : RdN w v ns) (hb : Below w.heap.size w w') : RdN w' v ns := by
  obtain ⟨ps, h1, h2⟩ := h
  exact ⟨ps, h1.below hb, h2.below hb⟩
theorem RdN.alloc {w : World} {v : Value} {ns : List Nt} (h : RdN w v ns) (o : Obj) : RdN (w.alloc o) v ns := h.below ((Below.refl _ _).alloc (Nat.le_refl _) o)
theorem RdN.drewN {w : World} {v : Value} {ns : List Nt} (h : RdN w v ns) (n : Nat) : RdN (w.drewN n) v ns := h
theorem RdN.shape {w : World} {v : Value} {ns : List Nt} (h : RdN w v ns) : ∃ ao cap, v = .slice ao ns.length cap ∧ ns.length ≤ cap ∧ cap ≤ maxLen := by
  obtain ⟨ps, h1, h2⟩ := h
  have := h1.shape
  rwa [h2.1] at this

theorem RdN.hereD {w : World} {ao : Option Addr} {m cap : Nat} {ns : List Nt} (h : RdN w (.slice ao m cap) ns) {i : Nat} {n : Nt} (hi : ns[i]? = some n) :
    ∃ b off u, ao = some ⟨b, off, none⟩ ∧ b < w.heap.size ∧ w.cell? ⟨b, off + i * 2, none⟩ = some (.int .i64 n.seq) ∧ w.cell? ⟨b, off + i * 2 + 1, none⟩ = some u ∧ RdC w u n.cells := by
  obtain ⟨ps, h1, h2⟩ := h
  obtain ⟨ao', cap', hv, _, _, hat⟩ := h1.at
  simp only [Value.slice.injEq] at hv
  obtain ⟨rfl, _, _⟩ := hv
  obtain ⟨hl, e⟩ := List.getElem?_eq_some_iff.1 hi
  have hl' : i < ps.length := by rw [h2.1]; exact hl
  obtain ⟨b, off, ha, hb, k0, k1⟩ := hat i hl'
  obtain ⟨e1, e2⟩ := h2.2 i ps[i] n (List.getElem?_eq_getElem hl') hi
  exact ⟨b, off, ps[i].2, ha, hb, by rw [k0, e1], k1, e2⟩

theorem Rd2.new (w : World) (s : Int) (u : Value) (e : TypeId) (hu : u.oneCell' = true) : Rd2 (w.alloc (.cells #[.int .i64 s, u] e)) (.slice (some ⟨w.heap.size, 0, none⟩) 1 1) [(s, u)] :=
  ⟨some ⟨w.heap.size, 0, none⟩, 1, rfl, Nat.le_refl _, by decide, (fun h => by cases h), by simpa using hu, fun a ha j v hv => by
    cases ha
    rw [Addr.add_lit, Nat.zero_add, ← hv]
    have := cell_of_row (w.alloc (.cells #[.int .i64 s, u] e)) w.heap.size j _ e (0, 0) (heap_alloc_new w _)
    rw [this]
    simp [nn]⟩

/-- 'append(out, xs...)' of notes, out the call's own. -/
theorem wpList_append_rd2 {P : Program} {w : World} {ops : Array Oper} {rest : List Oper} {o : Oper} {a : Act} {Q : Exit → Act → World → Prop} {s x : Operand} {t : TypeId} {base : Nat} {e : TypeId} {z : Value} {bytes : Nat}
    {v : Value} {n : Nat} {cs : List (Int × Value)} {vx : Value} {news : List (Int × Value)}
    (hown : w.ownsRow base e 2 v n (nn cs)) (hrd : Rd2 w vx news)
    (ht : P.underlying t = some (.slice e)) (hinf : (P.info? e).map (fun i => (i.zero, i.size, i.bytes)) = some (some z, 2, bytes)) (hzs : z.cells.size = 2)
    (hgd : o.guard = none) (ho : o.op = .call { callee := .builtin .append, args := #[s, x], argTypes := #[t, t] })
    (hs : a.eval s = v) (hx : a.eval x = vx)
    (h63 : n + news.length ≤ 1000000000) (hbytes : bytes ≤ 64) (hbase : base ≤ w.heap.size)
    (h : ∀ v' w', w'.ownsRow base e 2 v' (n + news.length) (nn (cs ++ news)) → Below base w w' → w.grownBy w' v.ownBlock → wpList P ops Q rest (a.put o.dst v') w') : wpList P ops Q (o :: rest) a w := by
  obtain ⟨i, hi, hz, hsize, hby⟩ := info_parts hinf
  have hlt := hown.lt
  have hbytes' : (n + news.length) * bytes ≤ 1000000000 * 64 := Nat.mul_le_mul h63 hbytes
  obtain ⟨ao, cap, hvx, h2, h3, h4, h6, h5⟩ := hrd
  cases ao with
  | none =>
    have hc := h4 rfl
    have hnews : news = [] := List.eq_nil_of_length_eq_zero (by omega)
    subst hnews
    subst hc
    refine wpList_append_own_none hgd s x t ho base e i 2 ht hi v n (nn cs) hs hown (hx.trans hvx) ?_
    exact h v w (by simpa using hown) (Below.refl _ _) (World.grownBy.refl _ _)
  | some ad =>
    refine wpList_append_own w hgd s x t ho base e i z 2 bytes ht hi hz hsize hby hzs (by decide) v n (nn cs) hs hown ad news.length cap (nn news) (hx.trans hvx) (nn_length _) (h5 ad rfl) (nn_one h6) (by simp [maxLen]; omega) (by omega) hbase ?_
    intro v' w' ho' hg' _
    rw [← nn_append] at ho'
    exact h v' w' ho' ((Below.refl _ _).grown hg' hbase (fun k hk => (hlt k hk).1)) hg'

/-- 'append(out, n)' of a note that was laid in a block of its own just ahead. -/
theorem wpList_append_one2 {P : Program} {w : World} {q : Int} {u : Value} {ops : Array Oper} {rest : List Oper} {o : Oper} {a : Act} {Q : Exit → Act → World → Prop} {s x : Operand} {t : TypeId} {base : Nat} {e : TypeId} {z : Value} {bytes : Nat}
    {v : Value} {n : Nat} {cs : List (Int × Value)} (hu : u.oneCell' = true)
    (hown : w.ownsRow base e 2 v n (nn cs))
    (ht : P.underlying t = some (.slice e)) (hinf : (P.info? e).map (fun i => (i.zero, i.size, i.bytes)) = some (some z, 2, bytes)) (hzs : z.cells.size = 2)
    (hgd : o.guard = none) (ho : o.op = .call { callee := .builtin .append, args := #[s, x], argTypes := #[t, t] })
    (hs : a.eval s = v) (hx : a.eval x = .slice (some ⟨w.heap.size, 0, none⟩) 1 1)
    (h63 : n ≤ 100000000) (hbytes : bytes ≤ 64) (hbase : base ≤ w.heap.size)
    (h : ∀ v' w', w'.ownsRow base e 2 v' (n + 1) (nn (cs ++ [(q, u)])) → Below base w w' → w.grownBy w' v.ownBlock → wpList P ops Q rest (a.put o.dst v') w') : wpList P ops Q (o :: rest) a (w.alloc (.cells #[.int .i64 q, u] e)) := by
  refine wpList_append_rd2 (hown.alloc _) (Rd2.new _ q u _ hu) ht hinf hzs hgd ho hs hx (by simp; omega) hbytes (by simp; omega) ?_
  intro v' w' h2 h3 h4
  refine h v' w' h2 (((Below.refl _ _).alloc hbase _).trans h3) ⟨h4.os, h4.tape, h4.output, ?_, fun k hk hne => ?_⟩
  · have := h4.size; simp at this; omega
  · rw [h4.block k (by simp; omega) hne, Below.heap_alloc _ _ _ hk]

/-- A list of cells lies off a block that has no text. -/
theorem RdC.apartN {w : World} {v : Value} {cs : List Cl} {B : Nat} {t : TypeId} {xs : Array Value} (h : RdC w v cs) (hB : Bk w B t xs) (hx : ∀ (k : Nat) (s : ByteArray), xs[k]? ≠ some (Value.string s)) (k : Nat) (u : Value) : RdC (w.setCell ⟨B, k, none⟩ u) v cs := by
  obtain ⟨ao, cap, hv, h1, h2, h3, h4⟩ := h
  refine ⟨ao, cap, hv, h1, h2, h3, fun a ha j x hxx => ?_⟩
  have hc := h4 a ha j x hxx
  rw [← hc]
  have hl := (List.getElem?_eq_some_iff.1 hxx).1
  rw [cc_length] at hl
  have hne : cs ≠ [] := by intro e; rw [e] at hl; simp at hl
  have h0 : (cc cs)[0]? = some (.string (cs.head hne).row) := by
    cases cs with
    | nil => exact absurd rfl hne
    | cons c r => rfl
  have hs := h4 a ha 0 _ h0
  obtain ⟨b, o, rfl⟩ := add_spot hs
  rw [Addr.add_lit] at hs ⊢
  refine World.cell?_of_block (heap_setCell_other w _ _ u ?_)
  intro e
  simp only at e
  subst e
  rw [hB.cell] at hs
  exact hx _ _ hs

theorem no_textN (x y : Int) : ∀ (k : Nat) (s : ByteArray), (#[Value.int .i64 x, Value.int .i64 y])[k]? ≠ some (Value.string s) := by
  intro k s h
  match k with
  | 0 => simp at h
  | 1 => simp at h
  | k + 2 => simp at h

/-- A fault's block is stored anew. -/
theorem RdC.setFlt {w : World} {v : Value} {cs : List Cl} {B : Nat} {t : TypeId} {x y : Int} (h : RdC w v cs) (hB : Bk w B t #[.int .i64 x, .int .i64 y]) (a b : Int) : RdC ((w.setCell ⟨B, 0, none⟩ (.int .i64 a)).setCell ⟨B, 1, none⟩ (.int .i64 b)) v cs := by
  have h1 := hB.set 0 (.int .i64 a)
  exact (h.apartN hB (no_textN x y) 0 _).apartN (show Bk _ B t #[.int .i64 a, .int .i64 y] from h1) (no_textN a y) 1 _

end Go.Proofs.Ytlebbkbbmgmmjad

/-
  The walks over cell.appendCell and cell.Write.
-/
namespace Go.Proofs.Ytlebbkbbmgmmjad
open Go.RowKit

theorem Bk.ext {w w' : World} {B : Nat} {t : TypeId} {xs : Array Value} {v v' : Value} (h : Bk w B t xs) (he : Ext w w' v v') (hne : v.ownBlock ≠ some B) : Bk w' B t xs := by
  unfold Bk
  rw [he.block h.lt hne]
  exact h

theorem AppendStr_any (v : Value) (xs : List UInt8) (s : ByteArray) (base : Nat) (w : World) (hown : w.ownsRow base 5 1 v xs.length (bc xs)) (hb : base ≤ w.heap.size)
    (ht : s.data.toList.length ≤ 1000000000) (hx : xs.length ≤ 1000000000) :
    Calls Try.prog 119 #[v, .string s] w fun e w' => ∃ v', e = .returned v' ∧ w'.ownsRow base 5 1 v' (xs ++ txB s).length (bc (xs ++ txB s)) ∧ Below base w w' ∧ Ext w w' v v' := by
  have h := AppendText_any v xs s.data.toList base w hown hb ht hx
  rw [ba_data] at h
  exact h

set_option maxRecDepth 100000 in
set_option maxHeartbeats 1000000 in
theorem appendCell_any (v : Value) (xs : List UInt8) (c : Cl) (base : Nat) (w : World) (hown : w.ownsRow base 5 1 v xs.length (bc xs)) (hb : base ≤ w.heap.size)
    (hc : codeC c = 0) (hx : xs.length ≤ 100000000) :
    Calls Try.prog 99 #[v, cA c] w fun e w' => ∃ v', e = .returned v' ∧ w'.ownsRow base 5 1 v' (xs ++ cellB c).length (bc (xs ++ cellB c)) ∧ Below base w w' ∧ Ext w w' v v' := by
  obtain ⟨_, h1, h2, h3, h4, h5⟩ := codeC_parts hc
  have hcl := cellB_len hc
  have hlt := hown.lt
  have hne0 : ∀ B, w.heap.size ≤ B → v.ownBlock ≠ some B := fun B hB e => by have := (hlt B e).2; omega
  obtain ⟨m, hm⟩ := Int.eq_ofNat_of_zero_le h4
  have HM : Hid (c.time.toNat = m) := hide (by rw [hm]; simp)
  have HMT := hide hm
  have hm9 : (m : Int) ≤ 1000000000 := by omega
  clear hm
  have hgn : c.gone = true ∧ goneN c = 1 ∨ c.gone = false ∧ goneN c = 0 := by unfold goneN; cases c.gone <;> simp
  unfold cA
  have hB0 : Bk (w.alloc (.cells #[.string c.row, .string c.col, .int .i64 c.time, .bool c.gone, .string c.val] 91)) w.heap.size 91 (ca c) := Bk.new _ _ _
  have ho0 := hown.alloc (.cells #[.string c.row, .string c.col, .int .i64 c.time, .bool c.gone, .string c.val] 91)
  have he0 : Ext w (w.alloc (.cells #[.string c.row, .string c.col, .int .i64 c.time, .bool c.gone, .string c.val] 91)) v v := Ext.alloc _ _ _
  have hs0 : (w.alloc (.cells #[.string c.row, .string c.col, .int .i64 c.time, .bool c.gone, .string c.val] 91)).heap.size = w.heap.size + 1 := by simp
  have HCL : Hid ((xs ++ cellB c).length ≤ 200000000) := hide (by rw [List.length_append]; omega)
  have hee : cellB c = txB c.row ++ (txB c.col ++ (encN c.time.toNat ++ (encN (goneN c) ++ txB c.val))) := rfl
  have HEE := hide hee
  have hl1 : (txB c.row).length ≤ 330 := by rw [hee] at hcl; simp only [List.length_append] at hcl; omega
  have hl2 : (txB c.col).length ≤ 330 := by rw [hee] at hcl; simp only [List.length_append] at hcl; omega
  have hl3 : (encN c.time.toNat).length ≤ 330 := by rw [hee] at hcl; simp only [List.length_append] at hcl; omega
  have hl4 : (encN (goneN c)).length ≤ 330 := by rw [hee] at hcl; simp only [List.length_append] at hcl; omega
  clear hee hcl
  have hbel : ∀ w' v', Ext w w' v v' → Below base w w' := fun w' v' h => h.below hb (fun k hk => (hlt k hk).1)
  go_enter Try.func99, Try.ntmps99
  go_wp2_with fail
  refine (AppendStr_any _ xs c.row base _ ho0 (by rw [hs0]; omega) (by omega) (by omega)).mono ?_
  rintro e w1 ⟨v1, rfl, ho1, hb1, he1⟩
  have hB1 := hB0.ext he1 (hne0 _ (Nat.le_refl _))
  have hn1 := he1.apart hB0.lt (hne0 _ (Nat.le_refl _))
  have hw1 := he0.trans he1
  clear hB0 ho0 he0 hb1
  obtain ⟨c0, c1, c2, c3, c4⟩ := hB1.facts
  go_wp2_with fail
  refine (AppendStr_any _ _ c.col base _ ho1 (by have := hw1.size; omega) (by omega) (by simp only [List.length_append]; omega)).mono ?_
  rintro e w2 ⟨v2, rfl, ho2, hb2, he2⟩
  have hB2 := hB1.ext he2 hn1
  have hn2 := he2.apart hB1.lt hn1
  have hw2 := hw1.trans he2
  clear hB1 ho1 hw1 hb2 hn1 c0 c1 c2 c3 c4
  obtain ⟨c0, c1, c2, c3, c4⟩ := hB2.facts
  go_wp2_with fail
  rw [HMT.out]
  refine (AppendNum_any _ _ m base _ ho2 (by have := hw2.size; omega) (by omega) (by simp only [List.length_append]; omega)).mono ?_
  rintro e w3 ⟨v3, rfl, ho3, hb3, he3⟩
  have hB3 := hB2.ext he3 hn2
  have hn3 := he3.apart hB2.lt hn2
  have hw3 := hw2.trans he3
  rw [← HM.out] at ho3
  clear hB2 ho2 hw2 hb3 hn2 c0 c1 c2 c3 c4
  obtain ⟨c0, c1, c2, c3, c4⟩ := hB3.facts
  rcases hgn with ⟨hg, hgn⟩ | ⟨hg, hgn⟩
  · rw [hg] at c3
    have HGN := hide hgn
    clear hgn
    go_wp2_with fail
    refine (AppendNum_any _ _ 1 base _ ho3 (by have := hw3.size; omega) (by omega) (by simp only [List.length_append]; omega)).mono ?_
    rintro e w4 ⟨v4, rfl, ho4, hb4, he4⟩
    have hB4 := hB3.ext he4 hn3
    have hw4 := hw3.trans he4
    rw [show encN 1 = encN (goneN c) by rw [HGN.out]] at ho4
    clear hB3 ho3 hw3 hb4 hn3 c0 c1 c2 c3 c4
    obtain ⟨c0, c1, c2, c3, c4⟩ := hB4.facts
    go_wp2_with fail
    refine (AppendStr_any _ _ c.val base _ ho4 (by have := hw4.size; omega) (by omega) (by simp only [List.length_append]; omega)).mono ?_
    rintro e w5 ⟨v5, rfl, ho5, hb5, he5⟩
    have hw5 := hw4.trans he5
    go_wp2_with fail
    go_ret
    refine ⟨v5, rfl, ?_, hbel _ _ hw5, hw5⟩
    rw [HEE.out]
    simpa only [List.append_assoc] using ho5
  · rw [hg] at c3
    have HGN := hide hgn
    clear hgn
    go_wp2_with fail
    refine (AppendNum_any _ _ 0 base _ ho3 (by have := hw3.size; omega) (by omega) (by simp only [List.length_append]; omega)).mono ?_
    rintro e w4 ⟨v4, rfl, ho4, hb4, he4⟩
    have hB4 := hB3.ext he4 hn3
    have hw4 := hw3.trans he4
    rw [show encN 0 = encN (goneN c) by rw [HGN.out]] at ho4
    clear hB3 ho3 hw3 hb4 hn3 c0 c1 c2 c3 c4
    obtain ⟨c0, c1, c2, c3, c4⟩ := hB4.facts
    go_wp2_with fail
    refine (AppendStr_any _ _ c.val base _ ho4 (by have := hw4.size; omega) (by omega) (by simp only [List.length_append]; omega)).mono ?_
    rintro e w5 ⟨v5, rfl, ho5, hb5, he5⟩
    have hw5 := hw4.trans he5
    go_wp2_with fail
    go_ret
    refine ⟨v5, rfl, ?_, hbel _ _ hw5, hw5⟩
    rw [HEE.out]
    simpa only [List.append_assoc] using ho5

set_option maxRecDepth 100000 in
set_option maxHeartbeats 1000000 in
theorem CWrite_any (v : Value) (cs : List Cl) (w : World) (hv : RdC w v cs) :
    Calls Try.prog 65 #[v] w fun e w' => ∃ v', e = .returned (.tuple #[v', fltC (writeCR cs).2]) ∧ Rd w' v' (bc (writeCR cs).1) ∧ Below w.heap.size w w' ∧ New w.heap.size v' := by
  obtain ⟨ao, cap, hvv, hc1, hc2, hat⟩ := hv.at
  subst hvv
  unfold maxLen at hc2
  go_enter Try.func65, Try.ntmps65
  go_wp2_with fail
  have hR0 := Bk.new w 28 #[.int .i64 0, .int .i64 0]
  refine (CCheck_any _ cs _ (hv.alloc _)).mono ?_
  rintro e w1 ⟨rfl, hb1⟩
  have hR1 := hR0.below hb1 (by simp)
  have hbw1 : Below w.heap.size w w1 := (below_alloc' _ _).trans (hb1.mono (by simp))
  have hsz1 := hR1.lt
  clear hb1 hR0
  have r0 := hR1.cell 0
  have r1 := hR1.cell 1
  have r2 := hR1.frozen 0
  have r3 := hR1.frozen 1
  simp at r0 r1
  by_cases hc : (checkC cs).1 = 0
  · have hcz := checkC_zero hc
    have HE := hide (@writeCR_go cs hc)
    have HC : Hid (∀ c ∈ cs, codeC c = 0) := hide (fun c h => fine_code hc h)
    rw [hcz]
    unfold fltC
    clear hcz hc
    have hRA : Bk (w1.alloc (.cells #[.int .i64 0, .int .i64 0] 28)) w.heap.size 28 #[.int .i64 0, .int .i64 0] := hR1.below (below_alloc' _ _) hsz1
    have hbwA : Below w.heap.size w (w1.alloc (.cells #[.int .i64 0, .int .i64 0] 28)) := hbw1.trans ((below_alloc' _ _).mono (by omega))
    have hszA : (w1.alloc (.cells #[.int .i64 0, .int .i64 0] 28)).heap.size = w1.heap.size + 1 := by simp
    go_wp2_with fail
    go_loopw [5, 16] (fun o i wr => ∃ (k : Nat) (acc : List UInt8), k ≤ cs.length ∧ i = .int .i64 k ∧ wrGo (cs.drop k) acc = wrGo cs [] ∧ acc.length ≤ 60000 ∧ wr.ownsRow (w1.heap.size + 1) 5 1 o acc.length (bc acc) ∧ Below (w1.heap.size + 1) (w1.alloc (.cells #[.int .i64 0, .int .i64 0] 28)) wr)
      (fun _ i _ => cs.length - (intOf i).toNat)
    case atStart => exact ⟨0, [], by omega, rfl, rfl, by simp, World.ownsRow_nil _ _ _ _, Below.refl _ _⟩
    case round =>
      obtain ⟨k, acc, hk, rfl, hgo, hacc, hown, hbel⟩ := hrel
      have HG := hide hgo
      clear hgo
      have hbw : Below w.heap.size w wr := hbwA.trans (hbel.mono (by omega))
      have hRr := hRA.below hbel (by omega)
      have hszr : w1.heap.size + 1 ≤ wr.heap.size := by have := hbel.size; omega
      by_cases hlt : k < cs.length
      · obtain ⟨bb, off, rfl, hb, hcl⟩ := hat k hlt
        have hck := (hcl k hlt).below hbw
        have hcc := HC.out cs[k] (List.getElem_mem hlt)
        have hdr := drop_consC hlt
        generalize cs[k] = c at *
        rw [hdr] at HG
        obtain ⟨c0, c1, c2, c3, c4⟩ := hck
        clear hcl hat hdr hR1 r0 r1 r2 r3
        go_wp2_with fail
        refine (appendCell_any _ acc c (w1.heap.size + 1) _ (hown.alloc _) (by simp; omega) hcc (by omega)).mono ?_
        rintro e w2 ⟨v2, rfl, ho2, hb2, _⟩
        have hbel2 : Below (w1.heap.size + 1) (w1.alloc (.cells #[.int .i64 0, .int .i64 0] 28)) w2 := (hbel.alloc hszr _).trans hb2
        have hR2 := hRA.below hbel2 (by omega)
        have hbw2 : Below w.heap.size w w2 := hbwA.trans (hbel2.mono (by omega))
        have hmu := @wrGo_much (cs.drop (k + 1)) acc c
        have hst := @wrGo_step (cs.drop (k + 1)) acc c
        generalize acc ++ cellB c = Y at *
        have HMU := hide hmu
        have HST := hide hst
        clear hmu hst
        obtain ⟨ao2, cap2, hv2⟩ := owns_shape ho2
        subst hv2
        have r0 := hR2.cell 0
        have r1 := hR2.cell 1
        have r2 := hR2.frozen 0
        have r3 := hR2.frozen 1
        have hsr := hR2.lt
        simp at r0 r1
        clear hb2 hbel hRr hbw hown c0 c1 c2 c3 c4
        by_cases hm : 60000 < Y.length
        · have HM := hide (HMU.out hm)
          have hm' : (60000 : Int) < (Y.length : Int) := by omega
          clear hm
          go_wp2_with fail
          exact bodyPost_ret (v := .tuple #[.slice none 0 0, fltC (9, 0)]) (by simp [results, Try.results65, go_sem, fltC, r0, r1]) rfl ⟨_, by rw [HE.out, ← HG.out, HM.out], by rw [HE.out, ← HG.out, HM.out]; exact Rd.nil _, by go_grown, New.nil _⟩
        · have HM := hide (HST.out hm)
          have hm' : (Y.length : Int) ≤ 60000 := by omega
          go_wp2_with fail
          go_roundw
          case rel => exact ⟨k + 1, Y, by omega, by go_num, by rw [← HG.out, HM.out], by omega, ho2, hbel2⟩
          case measure => simp [intOf]; omega
      · rw [List.drop_eq_nil_of_le (by omega)] at HG
        clear hR1 r0 r1 r2 r3
        have r0 := hRr.cell 0
        have r1 := hRr.cell 1
        have r2 := hRr.frozen 0
        have r3 := hRr.frozen 1
        have hsr := hRr.lt
        simp at r0 r1
        obtain ⟨ao2, cap2, hv2⟩ := owns_shape hown
        subst hv2
        go_wp2_with fail
        exact bodyPost_ret (v := .tuple #[.slice ao2 acc.length cap2, fltC (0, 0)]) (by simp [results, Try.results65, go_sem, fltC, r0, r1]) rfl ⟨_, by rw [HE.out, ← HG.out]; rfl, by rw [HE.out, ← HG.out]; exact Rd.ofOwns (ownsRow_setCell_below (ownsRow_setCell_below hown (by simp only; omega) _) (by simp only; omega) _), by go_grown, (New.owns hown).mono (by omega)⟩
  · have HE := hide (@writeCR_bad cs hc)
    have hcb : ((checkC cs).1 == 0) = false := beq_eq_false_iff_ne.2 hc
    have hcb2 : ((checkC cs).1 != 0) = true := by simp [hc]
    clear hc hat
    generalize checkC cs = r at *
    obtain ⟨x, y⟩ := r
    simp only at hcb hcb2
    unfold fltC
    go_wp2_with fail
    go_region
    all_goals
      go_wp2_with fail
      exact bodyPost_ret (v := .tuple #[.slice none 0 0, fltC (x, y)]) (by simp [results, Try.results65, go_sem, fltC, r0, r1, hsz1]) rfl ⟨_, by rw [HE.out], by rw [HE.out]; exact Rd.nil _, by go_grown, New.nil _⟩

end Go.Proofs.Ytlebbkbbmgmmjad
