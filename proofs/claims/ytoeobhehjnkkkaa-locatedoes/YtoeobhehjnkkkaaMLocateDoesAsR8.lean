/-
  Texts joined: AsR8.
-/
import Derived.Test.YtoeobhehjnkkkaaMLocateDoesAsR7
import Derived.Test.YtoeobhehjnkkkaaMLocateDoesAsN3
import Derived.Test.YtoeobhehjnkkkaaMLocateDoesAsW20
/-
  Do and Play of package assign, by what a step comes to.
-/
namespace Go.Proofs.Ytoeobhehjnkkkaa
open Go.RowKit
set_option linter.unusedVariables false

theorem chn_all : ∀ {l : List Pt} {e : List UInt8}, Chn e l → ∀ p ∈ l, okP p
  | [], _, h, _, _ => absurd h id
  | [q], _, h, p, hp => by
    rw [List.mem_singleton.1 hp]
    exact h.1
  | q :: r :: l, _, h, p, hp => by
    rcases List.mem_cons.1 hp with e | e
    · rw [e]; exact h.1
    · exact chn_all h.2.2.2 p e

theorem FineB.wfp {b : Bd} (h : FineB b) : WfP (parts b.sl) := fun p hp => wf_num (chn_all h.pt.2.1 p hp).2.2

theorem FineB.ok {b : Bd} (h : FineB b) : OkB b := OkB.of (fineB_iff.2 h)

theorem comeF_zz {b : Bd} {id : Int} (h : (comeF b id).1 = 0) : comeF b id = (0, 0) := by
  unfold comeF at h ⊢
  split
  · rename_i q; rw [if_pos q] at h; cases h
  · rename_i q
    rw [if_neg q] at h
    cases hi : idxH b.hs id with
    | none =>
      rw [hi] at h
      dsimp only at h ⊢
      split
      · rename_i z; rw [if_pos z] at h; cases h
      · rfl
    | some k =>
      rw [hi] at h
      dsimp only at h ⊢
      split
      · rename_i z; rw [if_pos z] at h; cases h
      · rename_i z
        rw [if_neg z] at h
        split
        · rename_i y; rw [if_pos y] at h; cases h
        · rfl

theorem loseF_zz {b : Bd} {id : Int} (h : (loseF b id).1 = 0) : loseF b id = (0, 0) := by
  unfold loseF at h ⊢
  cases hi : idxH b.hs id with
  | none => rw [hi] at h; cases h
  | some k =>
    rw [hi] at h
    dsimp only at h ⊢
    split
    · rfl
    · rename_i z; rw [if_neg z] at h; cases h

theorem giveF_zz {b : Bd} {id ho : Int} (h : (giveF b id ho).1 = 0) : giveF b id ho = (0, 0) := by
  unfold giveF at h ⊢
  cases hi : idxS b.sl id with
  | none => rw [hi] at h; cases h
  | some k =>
    rw [hi] at h
    dsimp only at h ⊢
    split
    · rename_i z; rw [if_pos z] at h; cases h
    · rename_i z
      rw [if_neg z] at h
      split
      · rename_i y; rw [if_pos y] at h; cases h
      · rename_i y
        rw [if_neg y] at h
        split
        · rename_i x; rw [if_pos x] at h; cases h
        · rfl

theorem slF_zz {l : List Sl} {o : Option Nat} {st : Int} (h : (slF l o st).1 = 0) : slF l o st = (0, 0) := by
  cases o with
  | none => cases h
  | some k =>
    unfold slF at h ⊢
    dsimp only at h ⊢
    split
    · rename_i z; rw [if_pos z] at h; cases h
    · rfl

theorem heF_zz {l : List Sl} {o : Option Nat} {ho tu st : Int} (h : (heF l o ho tu st).1 = 0) : heF l o ho tu st = (0, 0) := by
  cases o with
  | none => cases h
  | some k =>
    unfold heF at h ⊢
    dsimp only at h ⊢
    split
    · rename_i z; rw [if_pos z] at h; cases h
    · rename_i z; rw [if_neg z] at h; exact slF_zz h

theorem renF_zz {b : Bd} {ps : List Pt} (h : (renF b ps).1 = 0) : renF b ps = (0, 0) := by
  unfold renF at h ⊢
  split
  · rename_i z; rw [if_pos z] at h; cases h
  · rfl

theorem spF_zz {b : Bd} {id : Int} {row : ByteArray} (h : (spF b id row).1 = 0) : spF b id row = (0, 0) := by
  cases hi : idxS b.sl id with
  | none => rw [(spF_none hi).1] at h; cases h
  | some k =>
    rw [(spF_some hi).1] at h ⊢
    split
    · rename_i z; rw [if_pos z] at h; cases h
    · rename_i z
      rw [if_neg z] at h
      split
      · rename_i y; rw [if_pos y] at h; exact absurd h y
      · rename_i y; rw [if_neg y] at h; exact renF_zz h

theorem jnF_zz {b : Bd} {id : Int} (h : (jnF b id).1 = 0) : jnF b id = (0, 0) := by
  cases hi : idxS b.sl id with
  | none => rw [(jnF_none hi).1] at h; cases h
  | some k =>
    rw [(jnF_some hi).1] at h ⊢
    split
    · rename_i z; rw [if_pos z] at h; cases h
    · rename_i z
      rw [if_neg z] at h
      split
      · rename_i y; rw [if_pos y] at h; cases h
      · rename_i y; rw [if_neg y] at h; exact renF_zz h

theorem step_zz {b : Bd} {o : Od} (h : (stepB b o).2.1 = 0) : (stepB b o).2 = (0, 0) := by
  show doF b o _ _ = _
  have h : (doF b o (spF b o.id o.row) (jnF b o.id)).1 = 0 := h
  unfold doF at h ⊢
  split
  · rename_i q; rw [if_pos q] at h; exact comeF_zz h
  rename_i q1; rw [if_neg q1] at h
  split
  · rename_i q; rw [if_pos q] at h; exact loseF_zz h
  rename_i q2; rw [if_neg q2] at h
  split
  · rename_i q; rw [if_pos q] at h; exact giveF_zz h
  rename_i q3; rw [if_neg q3] at h
  split
  · rename_i q; rw [if_pos q] at h; exact heF_zz h
  rename_i q4; rw [if_neg q4] at h
  split
  · rename_i q; rw [if_pos q] at h; exact slF_zz h
  rename_i q5; rw [if_neg q5] at h
  split
  · rename_i q; rw [if_pos q] at h; exact heF_zz h
  rename_i q6; rw [if_neg q6] at h
  split
  · rename_i q; rw [if_pos q] at h; exact spF_zz h
  rename_i q7; rw [if_neg q7] at h
  split
  · rename_i q; rw [if_pos q] at h; exact jnF_zz h
  rename_i q8; rw [if_neg q8] at h
  cases h

/-- What Do tells: the board, what is said. -/
def ordB (b : Bd) (o : Od) : Bd := doBB b (stepB b o).2 (stepB b o).1
def ordF (b : Bd) (o : Od) : Int × Int := doFF b (stepB b o).2

theorem Do_any (b : Bd) (hv sv : Value) (o : Od) (w : World) (hh : RdG hoE w hv b.hs) (hs : RdG slE w sv b.sl) (hl1 : b.hs.length ≤ 1000) (hl : b.sl.length ≤ 1000) (hwp : WfP (parts b.sl)) (hwf : ∀ s ∈ b.sl, (Lit.int .i64 s.ho).wf = true) :
    Calls Try.prog 15 #[bdV hv sv b, odV o] w fun e w' => ∃ hv' sv', e = .returned (.tuple #[bdV hv' sv' (ordB b o), flt (ordF b o)]) ∧ w'.ownsRow w.heap.size 42 3 hv' (ordB b o).hs.length (hoE.vs (ordB b o).hs) ∧ w'.ownsRow w.heap.size 46 6 sv' (ordB b o).sl.length (slE.vs (ordB b o).sl) ∧ Below w.heap.size w w' :=
  ADo_any b hv sv o (spF b o.id o.row) (jnF b o.id) (spB b o.id o.row) (jnB b o.id) w hh hs hl1 hl hwp hwf (fun h => step_zz (b := b) (o := o) h)
    (fun h0 W base B hv sv hB hb => split_any base B b hv sv o.id o.row W hB (OkB.of h0) (fineB_iff.1 h0).wfp hb)
    (fun h0 W base B hv sv hB hb => join_any base B b hv sv o.id W hB (OkB.of h0) hb)

theorem new_fine : (chkB newBd).1 = 0 := by kernel_rfl

theorem PlayA_any (v : Value) (l : List Od) (w : World) (hv : RdG odE w v l) (hl : l.length ≤ 2000) :
    Calls Try.prog 9 #[v] w fun e w' => ∃ hv' sv' sd, e = .returned (.tuple #[bdV hv' sv' (plyB stepB l newBd), sd, flt (0, 0)]) ∧ w'.ownsRow w.heap.size 42 3 hv' (plyB stepB l newBd).hs.length (hoE.vs (plyB stepB l newBd).hs) ∧ w'.ownsRow w.heap.size 46 6 sv' (plyB stepB l newBd).sl.length (slE.vs (plyB stepB l newBd).sl) ∧ RdG ftE w' sd (plyF stepB l newBd) ∧ Below w.heap.size w w' :=
  Play_any (fun b o => spB b o.id o.row) (fun b o => jnB b o.id) (fun b o => spF b o.id o.row) (fun b o => jnF b o.id) stepB (fun _ _ => rfl) step_chk new_fine
    (fun b o h0 W base B hv sv hB hb => split_any base B b hv sv o.id o.row W hB (OkB.of h0) (fineB_iff.1 h0).wfp hb)
    (fun b o h0 W base B hv sv hB hb => join_any base B b hv sv o.id W hB (OkB.of h0) hb) v l w hv hl

end Go.Proofs.Ytoeobhehjnkkkaa
