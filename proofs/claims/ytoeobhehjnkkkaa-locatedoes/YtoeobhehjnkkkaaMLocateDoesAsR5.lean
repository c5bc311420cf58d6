/-
  Texts joined: AsR5.
-/
import Derived.Test.YtoeobhehjnkkkaaMLocateDoesAsR4
/-
  slices.Replace as split and join call it; what a split and a join come to.
-/
namespace Go.Proofs.Ytoeobhehjnkkkaa
open Go.RowKit
set_option linter.unusedVariables false

theorem replSplit {base : Nat} {sv : Value} {l : List Sl} {i : Nat} (hi : i < l.length) (hl : l.length ≤ 1000) (W : World) (S : List Sl) (vb vcap base2 : Nat) (hown : W.ownsRow base 46 6 sv l.length (slE.vs l)) (hS : S.length = 2) (hvo : W.ownsRow base2 46 6 (.slice (some ⟨vb, 0, none⟩) S.length vcap) S.length (slE.vs S)) (hne : some vb ≠ sv.ownBlock) (hbw : base ≤ W.heap.size) :
    Calls Try.prog 109 #[sv, .int .i64 i, .int .i64 ((i : Int) + 1), .slice (some ⟨vb, 0, none⟩) S.length vcap] W (fun e W' => ∃ v', e = .returned v' ∧ W'.ownsRow base 46 6 v' (l.take i ++ S ++ l.drop (i + 1)).length (slE.vs (l.take i ++ S ++ l.drop (i + 1))) ∧ W.grownBy W' sv.ownBlock) := by
  obtain ⟨g, cap, cur, rfl, hb, hg, hnc, hcm, hcs, ht⟩ := owns_pos hown (by omega)
  match S, hS with
  | [a, b], _ =>
    have hne2 : vb ≠ g := fun q => hne (by rw [q]; rfl)
    by_cases h1 : i + 1 = l.length
    · have := replLast2 base g cap i l a b _ W hown h1 (by omega) (RdG.ofOwns hvo) hbw
      rw [h1, List.drop_length, List.append_nil]
      exact this
    · by_cases h2 : l.length + 1 ≤ cap
      · exact replMid2 base base2 g vb cap vcap i l a b W hown (by omega) (by omega) h2 hvo hne2 hbw
      · exact replGrow2 base base2 g vb cap vcap i l a b W hown (by omega) (by omega) (by omega) hvo hne2 hbw

theorem replJoin {base : Nat} {sv : Value} {l : List Sl} {i : Nat} (hi : i + 1 < l.length) (hl : l.length ≤ 1000) (W : World) (S : List Sl) (vb vcap base2 : Nat) (hown : W.ownsRow base 46 6 sv l.length (slE.vs l)) (hS : S.length = 1) (hvo : W.ownsRow base2 46 6 (.slice (some ⟨vb, 0, none⟩) S.length vcap) S.length (slE.vs S)) (hne : some vb ≠ sv.ownBlock) (hbw : base ≤ W.heap.size) :
    Calls Try.prog 109 #[sv, .int .i64 i, .int .i64 ((i : Int) + 2), .slice (some ⟨vb, 0, none⟩) S.length vcap] W (fun e W' => ∃ v', e = .returned v' ∧ W'.ownsRow base 46 6 v' (l.take i ++ S ++ l.drop (i + 2)).length (slE.vs (l.take i ++ S ++ l.drop (i + 2))) ∧ W.grownBy W' sv.ownBlock) := by
  obtain ⟨g, cap, cur, rfl, hb, hg, hnc, hcm, hcs, ht⟩ := owns_pos hown (by omega)
  match S, hS with
  | [a], _ =>
    have hne2 : vb ≠ g := fun q => hne (by rw [q]; rfl)
    by_cases h1 : i + 2 = l.length
    · have := replLast1 base g cap i l a _ W hown h1 (by omega) (RdG.ofOwns hvo) hbw
      rw [h1, List.drop_length, List.append_nil]
      exact this
    · exact replMid1 base base2 g vb cap vcap i l a W hown (by omega) (by omega) hvo hne2 hbw

/-- The two parts of a slot that is split. -/
def spP (b : Bd) (k : Nat) (row : ByteArray) : List Pt := [⟨(b.sl.getD k zeroSl).p.fr, row, 0⟩, ⟨row, (b.sl.getD k zeroSl).p.to_, b.nx⟩]

def spF (b : Bd) (id : Int) (row : ByteArray) : Int × Int :=
  match idxS b.sl id with
  | none => (6, -1)
  | some k => if (b.sl.getD k zeroSl).st ≠ 0 then (11, -1) else if (splitF (parts b.sl) k row 0 b.nx).1 ≠ 0 then splitF (parts b.sl) k row 0 b.nx else renF b (spP b k row)

def spB (b : Bd) (id : Int) (row : ByteArray) : Bd :=
  match idxS b.sl id with
  | none => b
  | some k => if (b.sl.getD k zeroSl).st ≠ 0 then b else if (splitF (parts b.sl) k row 0 b.nx).1 ≠ 0 then b else renB b k (k + 1) (spP b k row)

/-- The part of two slots that are joined. -/
def jnP (b : Bd) (k : Nat) : List Pt := [⟨(b.sl.getD k zeroSl).p.fr, (b.sl.getD (k + 1) zeroSl).p.to_, 0⟩]

def jnF (b : Bd) (id : Int) : Int × Int :=
  match idxS b.sl id with
  | none => (6, -1)
  | some k => if k + 1 = b.sl.length then (6, -1) else if (b.sl.getD k zeroSl).st ≠ 0 ∨ (b.sl.getD (k + 1) zeroSl).st ≠ 0 then (11, -1) else renF b (jnP b k)

def jnB (b : Bd) (id : Int) : Bd :=
  match idxS b.sl id with
  | none => b
  | some k => if k + 1 = b.sl.length then b else if (b.sl.getD k zeroSl).st ≠ 0 ∨ (b.sl.getD (k + 1) zeroSl).st ≠ 0 then b else renB b k (k + 2) (jnP b k)

theorem spF_none {b : Bd} {id : Int} {row : ByteArray} (h : idxS b.sl id = none) : spF b id row = (6, -1) ∧ spB b id row = b := by
  unfold spF spB; rw [h]; exact ⟨rfl, rfl⟩

theorem spF_some {b : Bd} {id : Int} {row : ByteArray} {k : Nat} (h : idxS b.sl id = some k) :
    spF b id row = (if (b.sl.getD k zeroSl).st ≠ 0 then (11, -1) else if (splitF (parts b.sl) k row 0 b.nx).1 ≠ 0 then splitF (parts b.sl) k row 0 b.nx else renF b (spP b k row)) ∧
    spB b id row = (if (b.sl.getD k zeroSl).st ≠ 0 then b else if (splitF (parts b.sl) k row 0 b.nx).1 ≠ 0 then b else renB b k (k + 1) (spP b k row)) := by
  unfold spF spB; rw [h]; exact ⟨rfl, rfl⟩

theorem jnF_none {b : Bd} {id : Int} (h : idxS b.sl id = none) : jnF b id = (6, -1) ∧ jnB b id = b := by
  unfold jnF jnB; rw [h]; exact ⟨rfl, rfl⟩

theorem jnF_some {b : Bd} {id : Int} {k : Nat} (h : idxS b.sl id = some k) :
    jnF b id = (if k + 1 = b.sl.length then (6, -1) else if (b.sl.getD k zeroSl).st ≠ 0 ∨ (b.sl.getD (k + 1) zeroSl).st ≠ 0 then (11, -1) else renF b (jnP b k)) ∧
    jnB b id = (if k + 1 = b.sl.length then b else if (b.sl.getD k zeroSl).st ≠ 0 ∨ (b.sl.getD (k + 1) zeroSl).st ≠ 0 then b else renB b k (k + 2) (jnP b k)) := by
  unfold jnF jnB; rw [h]; exact ⟨rfl, rfl⟩

end Go.Proofs.Ytoeobhehjnkkkaa
