/-
  Plain maths of lists made one: which cells count, in which order a heap tells them.
-/
import Derived.Test.YtlebbkbbmgmmjadMergeW5
namespace Go.Proofs.Ytlebbkbbmgmmjad
open Go.RowKit

/-- Not behind. -/
def CLe (a b : Cl) : Prop := Lt a b ∨ Sm a b
theorem CLe.not {a b : Cl} (h : CLe a b) : ¬ Lt b a := by
  rcases h with h | h
  · exact fun k => Lt_irrefl _ (Lt_trans h k)
  · exact fun k => Lt_not_Sm k h.symm

theorem CLe.lt {a b c : Cl} (h : CLe a b) (k : Lt b c) : Lt a c := h.elim (fun h => Lt_trans h k) (fun h => Sm_Lt h k)
theorem Lt.cle {a b c : Cl} (h : Lt a b) (k : CLe b c) : Lt a c := k.elim (fun k => Lt_trans h k) (fun k => Lt_Sm h k)

/-- c counts: no list that is newer has one in its place at its time. -/
def Cnt (hs : List Src) (c : Cl) : Prop := ∃ s ∈ hs, c ∈ s.cs ∧ ∀ o ∈ hs, o.n < s.n → ∀ d ∈ o.cs, ¬ Sm d c

/-- What a heap's sources tell from now on: L, behind one that was told. -/
structure Rem (told : Cl) (hs : List Src) (L : List Cl) : Prop where
  nums : (hs.map (·.n)).Nodup
  srt : ∀ s ∈ hs, s.cs.Pairwise Lt
  pw : L.Pairwise Lt
  mem : ∀ c, c ∈ L ↔ Cnt hs c ∧ ¬ Sm told c
  ge : ∀ s ∈ hs, ∀ c ∈ s.cs, ¬ Lt c told

theorem cs_eq {s : Src} (h : s.cs ≠ []) : s.cs = hd s :: s.cs.tail := by
  unfold hd
  cases hc : s.cs with
  | nil => exact absurd hc h
  | cons c r => rfl

theorem restL_back {s : Src} {r hs' : List Src} (hp : hs'.Perm (restL s r)) : ∀ o' ∈ hs', ∃ o ∈ s :: r, o'.n = o.n ∧ ∀ d ∈ o'.cs, d ∈ o.cs := by
  intro o' ho'
  have h := hp.mem_iff.1 ho'
  unfold restL at h
  split at h
  · exact ⟨o', by simp [h], rfl, fun d hd => hd⟩
  · rcases List.mem_cons.1 h with rfl | h
    · exact ⟨s, by simp, rfl, fun d hd => List.mem_of_mem_tail hd⟩
    · exact ⟨o', by simp [h], rfl, fun d hd => hd⟩

theorem restL_there {s : Src} {r hs' : List Src} (hne : s.cs ≠ []) (hp : hs'.Perm (restL s r)) : ∀ o ∈ s :: r, ∀ d ∈ o.cs, (o = s ∧ d = hd s) ∨ ∃ o' ∈ hs', o'.n = o.n ∧ d ∈ o'.cs := by
  intro o ho d hd'
  rcases List.mem_cons.1 ho with rfl | ho
  · rw [cs_eq hne] at hd'
    rcases List.mem_cons.1 hd' with rfl | hd'
    · exact .inl ⟨rfl, rfl⟩
    · refine .inr ⟨tl o, hp.mem_iff.2 ?_, rfl, hd'⟩
      unfold restL
      rw [if_neg (by intro e; rw [e] at hd'; simp at hd')]
      simp
  · refine .inr ⟨o, hp.mem_iff.2 ?_, rfl, hd'⟩
    unfold restL
    split <;> simp [ho]

theorem cnt_rest {s : Src} {r hs' : List Src} (hne : s.cs ≠ []) (hp : hs'.Perm (restL s r)) {x : Cl} (hx : ¬ Sm (hd s) x) : Cnt hs' x ↔ Cnt (s :: r) x := by
  constructor
  · rintro ⟨s1', h1, h2, h3⟩
    obtain ⟨s1, k1, k2, k3⟩ := restL_back hp s1' h1
    refine ⟨s1, k1, k3 x h2, fun o ho hlt e he hs => ?_⟩
    rcases restL_there hne hp o ho e he with ⟨_, rfl⟩ | ⟨o', q1, q2, q3⟩
    · exact hx hs
    · exact h3 o' q1 (by omega) e q3 hs
  · rintro ⟨s1, h1, h2, h3⟩
    rcases restL_there hne hp s1 h1 x h2 with ⟨_, rfl⟩ | ⟨s1', q1, q2, q3⟩
    · exact absurd (Sm.refl _) hx
    · refine ⟨s1', q1, q3, fun o' ho' hlt e he => ?_⟩
      obtain ⟨o, k1, k2, k3⟩ := restL_back hp o' ho'
      exact h3 o k1 (by omega) e (k3 e he)

/-- The first one of all. -/
theorem cle_all {hs : List Src} {s : Src} (hsrt : ∀ o ∈ hs, o.cs.Pairwise Lt) (hne : ∀ o ∈ hs, o.cs ≠ []) (hmin : ∀ o ∈ hs, Le2 s o) {o : Src} (ho : o ∈ hs) {d : Cl} (hd' : d ∈ o.cs) : CLe (hd s) d ∧ (Sm (hd s) d → s.n ≤ o.n) := by
  have h1 := Le2_iff.1 (hmin o ho)
  have hp := hsrt o ho
  rw [cs_eq (hne o ho)] at hd' hp
  obtain ⟨hp1, _⟩ := List.pairwise_cons.1 hp
  have h2 : CLe (hd s) (hd o) := h1.elim .inl (fun h => .inr h.1)
  rcases List.mem_cons.1 hd' with rfl | hd'
  · refine ⟨h2, fun hs => ?_⟩
    rcases h1 with h1 | h1
    · exact absurd hs (Lt_not_Sm h1)
    · exact h1.2
  · have h3 := h2.lt (hp1 d hd')
    exact ⟨.inl h3, fun hs => absurd hs (Lt_not_Sm h3)⟩

theorem nodup_eq {hs : List Src} (h : (hs.map (·.n)).Nodup) {a b : Src} (ha : a ∈ hs) (hb : b ∈ hs) (he : a.n = b.n) : a = b := by
  induction hs with
  | nil => simp at ha
  | cons x l ih =>
    simp only [List.map_cons, List.nodup_cons, List.mem_map, not_exists, not_and] at h
    rcases List.mem_cons.1 ha with h1 | h1 <;> rcases List.mem_cons.1 hb with h2 | h2
    · rw [h1, h2]
    · rw [h1] at he
      exact absurd he.symm (h.1 b h2)
    · rw [h2] at he
      exact absurd he (h.1 a h1)
    · exact ih h.2 h1 h2

theorem nums_rest {s : Src} {r hs' : List Src} (h : ((s :: r).map (·.n)).Nodup) (hp : hs'.Perm (restL s r)) : (hs'.map (·.n)).Nodup := by
  refine (hp.map _).nodup_iff.2 ?_
  unfold restL
  split
  · exact (List.nodup_cons.1 h).2
  · exact h

theorem srt_rest {s : Src} {r hs' : List Src} (h : ∀ o ∈ s :: r, o.cs.Pairwise Lt) (hp : hs'.Perm (restL s r)) : ∀ o ∈ hs', o.cs.Pairwise Lt := by
  intro o ho
  have hm := hp.mem_iff.1 ho
  unfold restL at hm
  split at hm
  · exact h o (by simp [hm])
  · rcases List.mem_cons.1 hm with rfl | hm
    · exact (h s (by simp)).tail
    · exact h o (by simp [hm])

/-- One that was told is passed by. -/
theorem Rem.skip {told : Cl} {s : Src} {r hs' : List Src} {L : List Cl} (h : Rem told (s :: r) L) (hne : ∀ o ∈ s :: r, o.cs ≠ []) (hp : hs'.Perm (restL s r)) (hsm : Sm told (hd s)) : Rem told hs' L := by
  refine ⟨nums_rest h.nums hp, srt_rest h.srt hp, h.pw, fun c => ?_, fun o ho c hc => ?_⟩
  · rw [h.mem]
    by_cases hc : Sm (hd s) c
    · have : Sm told c := hsm.trans hc
      simp [this]
    · rw [cnt_rest (hne s (by simp)) hp hc]
  · obtain ⟨o1, k1, k2, k3⟩ := restL_back hp o ho
    exact h.ge o1 k1 c (k3 c hc)

/-- The next one is told. -/
theorem Rem.next {told : Cl} {s : Src} {r hs' : List Src} {L : List Cl} (h : Rem told (s :: r) L) (hne : ∀ o ∈ s :: r, o.cs ≠ []) (hmin : ∀ o ∈ s :: r, Le2 s o) (hp : hs'.Perm (restL s r)) (hsm : ¬ Sm told (hd s)) : ∃ L', L = hd s :: L' ∧ Rem (hd s) hs' L' := by
  have hs0 : hd s ∈ s.cs := by rw [cs_eq (hne s (by simp))]; simp
  have hall := @cle_all (s :: r) s h.srt hne hmin
  have hcnt : Cnt (s :: r) (hd s) := ⟨s, by simp, hs0, fun o ho hlt d hd' hs => by have := (hall ho hd').2 hs.symm; omega⟩
  have hin : hd s ∈ L := (h.mem _).2 ⟨hcnt, hsm⟩
  have htl : Lt told (hd s) := by
    by_cases hh : Lt told (hd s)
    · exact hh
    · exact absurd (Lt_total hh (h.ge s (by simp) _ hs0)) hsm
  have hge : ∀ x ∈ L, CLe (hd s) x := fun x hx => by
    obtain ⟨⟨o, ho, hx', _⟩, _⟩ := (h.mem x).1 hx
    exact (hall ho hx').1
  cases L with
  | nil => simp at hin
  | cons y L' =>
    obtain ⟨hp1, hp2⟩ := List.pairwise_cons.1 h.pw
    have hy : y = hd s := by
      rcases List.mem_cons.1 hin with e | hin
      · exact e.symm
      · exact absurd (hp1 _ hin) (hge y (by simp)).not
    subst hy
    refine ⟨L', rfl, nums_rest h.nums hp, srt_rest h.srt hp, hp2, fun x => ?_, fun o ho c hc => ?_⟩
    · constructor
      · intro hx
        have hlt := hp1 x hx
        have hn := Lt_not_Sm hlt
        exact ⟨(cnt_rest (hne s (by simp)) hp hn).2 ((h.mem x).1 (by simp [hx])).1, hn⟩
      · rintro ⟨hx, hn⟩
        have hc := (cnt_rest (hne s (by simp)) hp hn).1 hx
        have hc2 := hc
        obtain ⟨o, ho, hx', _⟩ := hc2
        have hL := (h.mem x).2 ⟨hc, Lt_not_Sm (htl.cle (hall ho hx').1)⟩
        rcases List.mem_cons.1 hL with rfl | hL
        · exact absurd (Sm.refl _) hn
        · exact hL
    · obtain ⟨o1, k1, k2, k3⟩ := restL_back hp o ho
      exact (hall k1 (k3 c hc)).1.not

theorem Rem.nil {told : Cl} {L : List Cl} (h : Rem told [] L) : L = [] := by
  cases L with
  | nil => rfl
  | cons c L =>
    obtain ⟨⟨s, hs, _⟩, _⟩ := (h.mem c).1 (by simp)
    simp at hs

/-- How many cells are left. -/
def tot (hs : List Src) : Nat := (hs.map (fun s => s.cs.length)).sum
theorem tot_perm {a b : List Src} (h : a.Perm b) : tot a = tot b := by
  induction h with
  | nil => rfl
  | cons x _ ih => simp only [tot, List.map_cons, List.sum_cons] at *; omega
  | swap x y l => simp only [tot, List.map_cons, List.sum_cons]; omega
  | trans _ _ ih1 ih2 => omega

theorem tot_rest {s : Src} {r hs' : List Src} (hne : s.cs ≠ []) (hp : hs'.Perm (restL s r)) : tot hs' + 1 = tot (s :: r) := by
  rw [tot_perm hp]
  have hl : s.cs.length = s.cs.tail.length + 1 := by
    have := congrArg List.length (cs_eq hne)
    simpa using this
  unfold restL tot
  split
  · rename_i h
    rw [h] at hl
    simp only [List.map_cons, List.sum_cons]
    simp at hl
    omega
  · simp only [List.map_cons, List.sum_cons]
    show s.cs.tail.length + _ + 1 = _
    omega

/-- How many cells are left, by a heap's block. -/
def remX (xs : Array Value) : Nat := ((List.range (intOf (xs.getD 40 undef)).toNat).map fun i => lenV (xs.getD (i * 2) undef)).sum
def remW (w : World) (H : Nat) : Nat := match w.heap[H]? with | some (.cells xs _ _) => remX xs | _ => 0

theorem remW_bk {w : World} {H : Nat} {t : TypeId} {xs : Array Value} (h : Bk w H t xs) : remW w H = remX xs := by
  unfold remW
  rw [show w.heap[H]? = _ from h]

theorem remX_hp {xs : Array Value} {hs : List Src} (h : HpAt xs hs) (hl : ∀ s ∈ hs, lenV s.v = s.cs.length) : remX xs = tot hs := by
  unfold remX tot
  have e40 : xs.getD 40 undef = .int .i64 hs.length := by
    have := h.n
    simp [Array.getD_eq_getD_getElem?, this]
  rw [e40]
  congr 1
  refine List.ext_getElem? fun i => ?_
  simp only [List.getElem?_map, intOf, Int.toNat_natCast]
  by_cases hi : i < hs.length
  · have h1 := List.getElem?_eq_getElem hi
    have h2 := h.at0 i _ h1
    rw [List.getElem?_range hi, h1]
    simp only [Option.map_some, Array.getD_eq_getD_getElem?, h2, Option.getD_some]
    rw [hl _ (List.mem_of_getElem? h1)]
  · rw [List.getElem?_eq_none (by simp; omega), List.getElem?_eq_none (by omega)]
    rfl

theorem lenV_ok {w : World} {s : Src} (h : SOk w s) : lenV s.v = s.cs.length := by
  obtain ⟨b, off, cap, hv, _⟩ := h.first
  rw [hv]
  rfl

/-- All that count, in order. -/
def joinR : List (List Cl) → List Cl
  | [] => []
  | l :: ls => mrg (joinR ls) l

def CntL (ls : List (List Cl)) (c : Cl) : Prop := ∃ (i : Nat) (l : List Cl), ls[i]? = some l ∧ c ∈ l ∧ ∀ (j : Nat) m, j < i → ls[j]? = some m → ∀ d ∈ m, ¬ Sm d c

theorem cntL_cons {l : List Cl} {ls : List (List Cl)} {c : Cl} : CntL (l :: ls) c ↔ c ∈ l ∨ (CntL ls c ∧ ∀ d ∈ l, ¬ Sm d c) := by
  constructor
  · rintro ⟨i, m, h1, h2, h3⟩
    cases i with
    | zero => simp at h1; subst h1; exact .inl h2
    | succ i =>
      refine .inr ⟨⟨i, m, by simpa using h1, h2, fun j n hj hn => h3 (j + 1) n (by omega) (by simpa using hn)⟩, h3 0 l (by omega) rfl⟩
  · rintro (h | ⟨⟨i, m, h1, h2, h3⟩, h4⟩)
    · exact ⟨0, l, rfl, h, fun j m hj => by omega⟩
    · refine ⟨i + 1, m, by simpa using h1, h2, fun j n hj hn => ?_⟩
      cases j with
      | zero => simp at hn; subst hn; exact h4
      | succ j => exact h3 j n (by omega) (by simpa using hn)

theorem joinR_pw : ∀ {ls : List (List Cl)}, (∀ l ∈ ls, l.Pairwise Lt) → (joinR ls).Pairwise Lt
  | [], _ => .nil
  | l :: ls, h => mrg_pw _ _ (joinR_pw fun m hm => h m (by simp [hm])) (h l (by simp))

theorem joinR_mem : ∀ {ls : List (List Cl)}, (∀ l ∈ ls, l.Pairwise Lt) → ∀ {c : Cl}, c ∈ joinR ls ↔ CntL ls c
  | [], _, c => by
    constructor
    · intro h; simp [joinR] at h
    · rintro ⟨i, l, h, _⟩; simp at h
  | l :: ls, h, c => by
    have hl := fun m hm => h m (List.mem_cons_of_mem l hm)
    rw [cntL_cons, joinR, mrg_mem _ _ (joinR_pw hl) (h l (by simp)), joinR_mem hl]
    constructor
    · rintro (h1 | ⟨h1, h2⟩)
      · exact .inl h1
      · exact .inr ⟨h1, fun d hd hs => h2 d hd hs.symm⟩
    · rintro (h1 | ⟨h1, h2⟩)
      · exact .inl h1
      · exact .inr ⟨h1, fun d hd hs => h2 d hd hs.symm⟩

/-- The sources are those of the first k lists that have cells. -/
structure Cor (ls : List (List Cl)) (k : Nat) (hs : List Src) : Prop where
  frm : ∀ s ∈ hs, ∃ i : Nat, i < k ∧ ls[i]? = some s.cs ∧ s.n = i
  all : ∀ (i : Nat) l, i < k → ls[i]? = some l → l ≠ [] → ∃ s ∈ hs, s.cs = l ∧ s.n = i
  nums : (hs.map (·.n)).Nodup
  len : hs.length ≤ k

theorem Cor.nil (ls : List (List Cl)) : Cor ls 0 [] := ⟨by simp, fun i l h => by omega, by simp, by simp⟩

theorem Cor.pass {ls : List (List Cl)} {k : Nat} {hs : List Src} (h : Cor ls k hs) (hk : ls[k]? = some []) : Cor ls (k + 1) hs := by
  refine ⟨fun s hs' => ?_, fun i l hi hl hne => ?_, h.nums, by have := h.len; omega⟩
  · obtain ⟨i, h1, h2⟩ := h.frm s hs'
    exact ⟨i, by omega, h2⟩
  · by_cases e : i = k
    · subst e; rw [hk] at hl; cases hl; exact absurd rfl hne
    · exact h.all i l (by omega) hl hne

theorem Cor.add {ls : List (List Cl)} {k : Nat} {hs hs' : List Src} (h : Cor ls k hs) {s : Src} (hk : ls[k]? = some s.cs) (hn : s.n = k) (hp : hs'.Perm (s :: hs)) : Cor ls (k + 1) hs' := by
  refine ⟨fun o ho => ?_, fun i l hi hl hne => ?_, ?_, ?_⟩
  · rcases List.mem_cons.1 (hp.mem_iff.1 ho) with rfl | ho
    · exact ⟨k, by omega, hk, hn⟩
    · obtain ⟨i, h1, h2⟩ := h.frm o ho
      exact ⟨i, by omega, h2⟩
  · by_cases e : i = k
    · subst e
      rw [hk] at hl
      cases hl
      exact ⟨s, hp.mem_iff.2 (by simp), rfl, hn⟩
    · obtain ⟨o, h1, h2⟩ := h.all i l (by omega) hl hne
      exact ⟨o, hp.mem_iff.2 (by simp [h1]), h2⟩
  · refine (hp.map _).nodup_iff.2 ?_
    rw [List.map_cons, List.nodup_cons]
    refine ⟨fun hm => ?_, h.nums⟩
    obtain ⟨o, h1, h2⟩ := List.mem_map.1 hm
    obtain ⟨i, h3, _, h4⟩ := h.frm o h1
    omega
  · have h1 := hp.length_eq
    have h2 := h.len
    simp at h1
    omega

theorem Cor.cnt {ls : List (List Cl)} {hs : List Src} (h : Cor ls ls.length hs) {c : Cl} : Cnt hs c ↔ CntL ls c := by
  constructor
  · rintro ⟨s, h1, h2, h3⟩
    obtain ⟨i, k1, k2, k3⟩ := h.frm s h1
    refine ⟨i, s.cs, k2, h2, fun j m hj hm d hd => ?_⟩
    obtain ⟨o, q1, q2, q3⟩ := h.all j m (by omega) hm (by intro e; rw [e] at hd; simp at hd)
    exact h3 o q1 (by omega) d (by rw [q2]; exact hd)
  · rintro ⟨i, l, h1, h2, h3⟩
    have hi := (List.getElem?_eq_some_iff.1 h1).1
    obtain ⟨s, k1, k2, k3⟩ := h.all i l hi h1 (by intro e; rw [e] at h2; simp at h2)
    refine ⟨s, k1, by rw [k2]; exact h2, fun o ho hlt d hd => ?_⟩
    obtain ⟨j, q1, q2, q3⟩ := h.frm o ho
    exact h3 j o.cs (by omega) q2 d hd

/-- What the sources of lists tell. -/
theorem Rem.init {ls : List (List Cl)} {hs : List Src} (h : Cor ls ls.length hs) (hf : ∀ l ∈ ls, (checkC l).1 = 0) : Rem zeroC hs (joinR ls) := by
  have hmem : ∀ s ∈ hs, s.cs ∈ ls := fun s hs' => by
    obtain ⟨i, _, h2, _⟩ := h.frm s hs'
    exact List.mem_of_getElem? h2
  have hpw : ∀ l ∈ ls, l.Pairwise Lt := fun l hl => fine_pw (hf l hl)
  refine ⟨h.nums, fun s hs' => hpw _ (hmem s hs'), joinR_pw hpw, fun c => ?_, fun s hs' c hc => ?_⟩
  · rw [joinR_mem hpw, h.cnt]
    constructor
    · rintro ⟨i, l, h1, h2, h3⟩
      exact ⟨⟨i, l, h1, h2, h3⟩, Lt_not_Sm (.inl (kl_zero (fine_code (hf l (List.mem_of_getElem? h1)) h2)))⟩
    · exact fun h => h.1
  · exact fun hlt => Lt_irrefl _ (Lt_trans hlt (.inl (kl_zero (fine_code (hf _ (hmem s hs')) hc))))

end Go.Proofs.Ytlebbkbbmgmmjad
