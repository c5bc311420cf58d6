/-
  No cell of these rows narrows 'for every input' (looked for: loops, veiled, ifaces, maps, wideKeys, modest, calm, conditions, laid).
  DERIVED. THE GIVEN ROWS OF THIS SEAT. 5 by the template 'for every input the law returns true; each argument reads behind the call as it read before'; 0 by the template 'total and deterministic' (their statements: YtoeobhehjnkkkaaTotals.lean).
  GIVEN WITH THE SEED: the statements are not yours to turn. If you find one false, say at which input.
  Laid BY PROGRAM, IN A SANDBOX (cutbox-rows.mjs): the forced cells as the released guide's own fill.sh prints them over the translation c51d3868c4d7c8bc… (all of the seat's roots in one cut). By AI agents, Wed Nov 11 2026. No macro, syntax, notation, axiom, sorry.
-/
import Derived.Test.YtoeobhehjnkkkaaChecked
import GoSem.Claim
import GoSem.ClaimJoined
import GoSem.ClaimMapViews
import Derived.JoinedTies
import Derived.KernelRfl
namespace Go.Proofs.Ytoeobhehjnkkkaa
/- THE CELL 'sum', in the pinned program and in every row, IS THE sha256 OF THE DUMP (.gsa) THAT YtoeobhehjnkkkaaProg.lean LOADS. Nothing in Lean hashes anything: it is a label: what it is worth is what the hold of that sum in a sandbox is worth. -/
noncomputable def Try.pinned : Pinned := { name := "ytoeobhehjnkkkaa", sum := "c51d3868c4d7c8bc803fbda61c630f5c6355287e6953b99c9b783fe8864282b6", checked := Try.checked }
namespace Rows
def none {H : Type} : Left H := { results := [], args := [] }

/-- 'tabularylaw.AssignPlays': WHATEVER THE INPUT: true; the input reads as it did. -/
def assignPlaysSpec : ChangeSpec := { name := "assignPlays", fn := fun _ => fun
  | [d] => { results := [.lit (.bool true)], args := [d] }
  | _ => none }
def assignPlaysRow : OpenClaim := { program := "ytoeobhehjnkkkaa", sum := "c51d3868c4d7c8bc803fbda61c630f5c6355287e6953b99c9b783fe8864282b6", func := "tabulary/tabularylaw.AssignPlays", spec := "assignPlays", inPlace := ["slices.overlaps[tabulary/api.Slot]"], unfollowed := true, recurses := true, apart := false }
def AssignPlaysSaid : Prop := assignPlaysRow.holds Try.pinned (OpenSpec.ofChange assignPlaysSpec)

/-- ITS FALSE NEIGHBOUR: 'it returns false'. Refute it at one input. -/
def assignPlaysWrong : ChangeSpec := { name := "assignPlays", fn := fun _ => fun
  | [d] => { results := [.lit (.bool false)], args := [d] }
  | _ => none }
def AssignPlaysWrongFalsely : Prop := assignPlaysRow.holds Try.pinned (OpenSpec.ofChange assignPlaysWrong)

/-- 'tabularylaw.AssignHeals': WHATEVER THE INPUT: true; the input reads as it did. -/
def assignHealsSpec : ChangeSpec := { name := "assignHeals", fn := fun _ => fun
  | [d] => { results := [.lit (.bool true)], args := [d] }
  | _ => none }
def assignHealsRow : OpenClaim := { program := "ytoeobhehjnkkkaa", sum := "c51d3868c4d7c8bc803fbda61c630f5c6355287e6953b99c9b783fe8864282b6", func := "tabulary/tabularylaw.AssignHeals", spec := "assignHeals", inPlace := ["slices.overlaps[tabulary/api.Slot]"], unfollowed := true, recurses := true, apart := false }
def AssignHealsSaid : Prop := assignHealsRow.holds Try.pinned (OpenSpec.ofChange assignHealsSpec)

/-- ITS FALSE NEIGHBOUR: 'it returns false'. Refute it at one input. -/
def assignHealsWrong : ChangeSpec := { name := "assignHeals", fn := fun _ => fun
  | [d] => { results := [.lit (.bool false)], args := [d] }
  | _ => none }
def AssignHealsWrongFalsely : Prop := assignHealsRow.holds Try.pinned (OpenSpec.ofChange assignHealsWrong)

/-- 'tabularylaw.AssignKeeps': WHATEVER THE INPUT: true; the input reads as it did. -/
def assignKeepsSpec : ChangeSpec := { name := "assignKeeps", fn := fun _ => fun
  | [d1, d2] => { results := [.lit (.bool true)], args := [d1, d2] }
  | _ => none }
def assignKeepsRow : OpenClaim := { program := "ytoeobhehjnkkkaa", sum := "c51d3868c4d7c8bc803fbda61c630f5c6355287e6953b99c9b783fe8864282b6", func := "tabulary/tabularylaw.AssignKeeps", spec := "assignKeeps", inPlace := ["slices.overlaps[tabulary/api.Slot]"], unfollowed := true, recurses := true, apart := false }
def AssignKeepsSaid : Prop := assignKeepsRow.holds Try.pinned (OpenSpec.ofChange assignKeepsSpec)

/-- ITS FALSE NEIGHBOUR: 'it returns false'. Refute it at one input. -/
def assignKeepsWrong : ChangeSpec := { name := "assignKeeps", fn := fun _ => fun
  | [d1, d2] => { results := [.lit (.bool false)], args := [d1, d2] }
  | _ => none }
def AssignKeepsWrongFalsely : Prop := assignKeepsRow.holds Try.pinned (OpenSpec.ofChange assignKeepsWrong)

/-- 'tabularylaw.LocateDoes': WHATEVER THE INPUT: true; the input reads as it did. -/
def locateDoesSpec : ChangeSpec := { name := "locateDoes", fn := fun _ => fun
  | [d1, d2, d3] => { results := [.lit (.bool true)], args := [d1, d2, d3] }
  | _ => none }
def locateDoesRow : OpenClaim := { program := "ytoeobhehjnkkkaa", sum := "c51d3868c4d7c8bc803fbda61c630f5c6355287e6953b99c9b783fe8864282b6", func := "tabulary/tabularylaw.LocateDoes", spec := "locateDoes", unfollowed := true, recurses := true, apart := false }
def LocateDoesSaid : Prop := locateDoesRow.holds Try.pinned (OpenSpec.ofChange locateDoesSpec)

/-- ITS FALSE NEIGHBOUR: 'it returns false'. Refute it at one input. -/
def locateDoesWrong : ChangeSpec := { name := "locateDoes", fn := fun _ => fun
  | [d1, d2, d3] => { results := [.lit (.bool false)], args := [d1, d2, d3] }
  | _ => none }
def LocateDoesWrongFalsely : Prop := locateDoesRow.holds Try.pinned (OpenSpec.ofChange locateDoesWrong)

/-- 'tabularylaw.LocateFinds': WHATEVER THE INPUT: true; the input reads as it did. -/
def locateFindsSpec : ChangeSpec := { name := "locateFinds", fn := fun _ => fun
  | [d1, d2] => { results := [.lit (.bool true)], args := [d1, d2] }
  | _ => none }
def locateFindsRow : OpenClaim := { program := "ytoeobhehjnkkkaa", sum := "c51d3868c4d7c8bc803fbda61c630f5c6355287e6953b99c9b783fe8864282b6", func := "tabulary/tabularylaw.LocateFinds", spec := "locateFinds", unfollowed := true, recurses := true, apart := false }
def LocateFindsSaid : Prop := locateFindsRow.holds Try.pinned (OpenSpec.ofChange locateFindsSpec)

/-- ITS FALSE NEIGHBOUR: 'it returns false'. Refute it at one input. -/
def locateFindsWrong : ChangeSpec := { name := "locateFinds", fn := fun _ => fun
  | [d1, d2] => { results := [.lit (.bool false)], args := [d1, d2] }
  | _ => none }
def LocateFindsWrongFalsely : Prop := locateFindsRow.holds Try.pinned (OpenSpec.ofChange locateFindsWrong)

/- THE SECOND FORM. 'bulk': how many values and letters a reading holds, each counted each time it is reached (what is shared counts as often as it is met; a slice's spare places count too). A statement '..UptoSaid' is the law's where the arguments, and the package variables that the reading takes, are together of bulk at most 1048576: NARROWER than '..Said'. Prove '..Said' where nothing that the law and all that it calls make is longer than what came in: it says more and counts as full. Else prove '..UptoSaid'. A law counts once. -/
mutual
def uptoBulk {H : Type} : DataW H → Nat
  | .lit (.string bytes) => bytes.length + 1
  | .lit _ => 1
  | .nil => 1
  | .ptr d => uptoBulk d + 1
  | .slice elems spare => uptoBulkAll elems + uptoBulkAll spare + 1
  | .agg parts => uptoBulkAll parts + 1
  | .iface _ d => uptoBulk d + 1
  | .map entries => uptoBulkEntries entries + 1
  | .held _ => 1
def uptoBulkAll {H : Type} : List (DataW H) → Nat
  | [] => 0
  | d :: r => uptoBulk d + uptoBulkAll r
def uptoBulkEntries {H : Type} : List (Lit × DataW H) → Nat
  | [] => 0
  | x :: r => uptoBulkEntry x + uptoBulkEntries r
def uptoBulkEntry {H : Type} : Lit × DataW H → Nat
  | (.string bytes, d) => bytes.length + uptoBulk d + 1
  | (_, d) => uptoBulk d + 1
 end
def uptoSmall : (H : Type) → List (DataW H) → Bool := fun _ ds => decide (uptoBulkAll ds ≤ 1048576)
def OpenSpec.upto (s : _root_.Go.ChangeSpec) : _root_.Go.OpenSpec := { _root_.Go.OpenSpec.ofChange s with cond := some uptoSmall }

/-- 'tabularylaw.AssignPlays', WHERE WHAT IT READS IS OF BULK AT MOST 1048576: true; the input reads as it did. -/
def assignPlaysUptoRow : OpenClaim := { program := "ytoeobhehjnkkkaa", sum := "c51d3868c4d7c8bc803fbda61c630f5c6355287e6953b99c9b783fe8864282b6", func := "tabulary/tabularylaw.AssignPlays", spec := "assignPlays", inPlace := ["slices.overlaps[tabulary/api.Slot]"], unfollowed := true, recurses := true, apart := false, narrowed := true }
def AssignPlaysUptoSaid : Prop := assignPlaysUptoRow.holds Try.pinned (OpenSpec.upto assignPlaysSpec)

/-- 'tabularylaw.AssignHeals', WHERE WHAT IT READS IS OF BULK AT MOST 1048576: true; the input reads as it did. -/
def assignHealsUptoRow : OpenClaim := { program := "ytoeobhehjnkkkaa", sum := "c51d3868c4d7c8bc803fbda61c630f5c6355287e6953b99c9b783fe8864282b6", func := "tabulary/tabularylaw.AssignHeals", spec := "assignHeals", inPlace := ["slices.overlaps[tabulary/api.Slot]"], unfollowed := true, recurses := true, apart := false, narrowed := true }
def AssignHealsUptoSaid : Prop := assignHealsUptoRow.holds Try.pinned (OpenSpec.upto assignHealsSpec)

/-- 'tabularylaw.AssignKeeps', WHERE WHAT IT READS IS OF BULK AT MOST 1048576: true; the input reads as it did. -/
def assignKeepsUptoRow : OpenClaim := { program := "ytoeobhehjnkkkaa", sum := "c51d3868c4d7c8bc803fbda61c630f5c6355287e6953b99c9b783fe8864282b6", func := "tabulary/tabularylaw.AssignKeeps", spec := "assignKeeps", inPlace := ["slices.overlaps[tabulary/api.Slot]"], unfollowed := true, recurses := true, apart := false, narrowed := true }
def AssignKeepsUptoSaid : Prop := assignKeepsUptoRow.holds Try.pinned (OpenSpec.upto assignKeepsSpec)

/-- 'tabularylaw.LocateDoes', WHERE WHAT IT READS IS OF BULK AT MOST 1048576: true; the input reads as it did. -/
def locateDoesUptoRow : OpenClaim := { program := "ytoeobhehjnkkkaa", sum := "c51d3868c4d7c8bc803fbda61c630f5c6355287e6953b99c9b783fe8864282b6", func := "tabulary/tabularylaw.LocateDoes", spec := "locateDoes", unfollowed := true, recurses := true, apart := false, narrowed := true }
def LocateDoesUptoSaid : Prop := locateDoesUptoRow.holds Try.pinned (OpenSpec.upto locateDoesSpec)

/-- 'tabularylaw.LocateFinds', WHERE WHAT IT READS IS OF BULK AT MOST 1048576: true; the input reads as it did. -/
def locateFindsUptoRow : OpenClaim := { program := "ytoeobhehjnkkkaa", sum := "c51d3868c4d7c8bc803fbda61c630f5c6355287e6953b99c9b783fe8864282b6", func := "tabulary/tabularylaw.LocateFinds", spec := "locateFinds", unfollowed := true, recurses := true, apart := false, narrowed := true }
def LocateFindsUptoSaid : Prop := locateFindsUptoRow.holds Try.pinned (OpenSpec.upto locateFindsSpec)

end Rows
end Go.Proofs.Ytoeobhehjnkkkaa
