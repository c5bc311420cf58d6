/-
  No cell of these rows narrows 'for every input' (looked for: loops, veiled, ifaces, maps, wideKeys, modest, calm, conditions, laid).
  DERIVED. THE GIVEN ROWS OF THIS SEAT. 6 by the template 'for every input the law returns true; each argument reads behind the call as it read before'; 0 by the template 'total and deterministic' (their statements: YtlebbkbbmgmmjabTotals.lean).
  GIVEN WITH THE SEED: the statements are not yours to turn. If you find one false, say at which input.
  Laid BY PROGRAM, IN A SANDBOX (cutbox-rows.mjs): the forced cells as the released guide's own fill.sh prints them over the translation 9a0583f34330c70f… (all of the seat's roots in one cut). By AI agents, Wed Nov 11 2026. No macro, syntax, notation, axiom, sorry.
-/
import Derived.Test.YtlebbkbbmgmmjabChecked
import GoSem.Claim
import GoSem.ClaimJoined
import GoSem.ClaimMapViews
import Derived.JoinedTies
import Derived.KernelRfl
namespace Go.Proofs.Ytlebbkbbmgmmjab
/- THE CELL 'sum', in the pinned program and in every row, IS THE sha256 OF THE DUMP (.gsa) THAT YtlebbkbbmgmmjabProg.lean LOADS. Nothing in Lean hashes anything: it is a label: what it is worth is what the hold of that sum in a sandbox is worth. -/
noncomputable def Try.pinned : Pinned := { name := "ytlebbkbbmgmmjab", sum := "9a0583f34330c70f4c0e7f064b69b1b0b74f750d4b46ec705efe0c0e30fe3525", checked := Try.checked }
namespace Rows
def none {H : Type} : Left H := { results := [], args := [] }

/-- 'tabularylaw.DiskKeeps': WHATEVER THE INPUT: true; the input reads as it did. -/
def diskKeepsSpec : ChangeSpec := { name := "diskKeeps", fn := fun _ => fun
  | [d1, d2] => { results := [.lit (.bool true)], args := [d1, d2] }
  | _ => none }
def diskKeepsRow : OpenClaim := { program := "ytlebbkbbmgmmjab", sum := "9a0583f34330c70f4c0e7f064b69b1b0b74f750d4b46ec705efe0c0e30fe3525", func := "tabulary/tabularylaw.DiskKeeps", spec := "diskKeeps", apart := false }
def DiskKeepsSaid : Prop := diskKeepsRow.holds Try.pinned (OpenSpec.ofChange diskKeepsSpec)

/-- ITS FALSE NEIGHBOUR: 'it returns false'. Refute it at one input. -/
def diskKeepsWrong : ChangeSpec := { name := "diskKeeps", fn := fun _ => fun
  | [d1, d2] => { results := [.lit (.bool false)], args := [d1, d2] }
  | _ => none }
def DiskKeepsWrongFalsely : Prop := diskKeepsRow.holds Try.pinned (OpenSpec.ofChange diskKeepsWrong)

/-- 'tabularylaw.DiskRecovers': WHATEVER THE INPUT: true; the input reads as it did. -/
def diskRecoversSpec : ChangeSpec := { name := "diskRecovers", fn := fun _ => fun
  | [d1, d2, d3] => { results := [.lit (.bool true)], args := [d1, d2, d3] }
  | _ => none }
def diskRecoversRow : OpenClaim := { program := "ytlebbkbbmgmmjab", sum := "9a0583f34330c70f4c0e7f064b69b1b0b74f750d4b46ec705efe0c0e30fe3525", func := "tabulary/tabularylaw.DiskRecovers", spec := "diskRecovers", apart := false }
def DiskRecoversSaid : Prop := diskRecoversRow.holds Try.pinned (OpenSpec.ofChange diskRecoversSpec)

/-- ITS FALSE NEIGHBOUR: 'it returns false'. Refute it at one input. -/
def diskRecoversWrong : ChangeSpec := { name := "diskRecovers", fn := fun _ => fun
  | [d1, d2, d3] => { results := [.lit (.bool false)], args := [d1, d2, d3] }
  | _ => none }
def DiskRecoversWrongFalsely : Prop := diskRecoversRow.holds Try.pinned (OpenSpec.ofChange diskRecoversWrong)

/-- 'tabularylaw.CellSorts': WHATEVER THE INPUT: true; the input reads as it did. -/
def cellSortsSpec : ChangeSpec := { name := "cellSorts", fn := fun _ => fun
  | [d] => { results := [.lit (.bool true)], args := [d] }
  | _ => none }
def cellSortsRow : OpenClaim := { program := "ytlebbkbbmgmmjab", sum := "9a0583f34330c70f4c0e7f064b69b1b0b74f750d4b46ec705efe0c0e30fe3525", func := "tabulary/tabularylaw.CellSorts", spec := "cellSorts", unfollowed := true, recurses := true, apart := false }
def CellSortsSaid : Prop := cellSortsRow.holds Try.pinned (OpenSpec.ofChange cellSortsSpec)

/-- ITS FALSE NEIGHBOUR: 'it returns false'. Refute it at one input. -/
def cellSortsWrong : ChangeSpec := { name := "cellSorts", fn := fun _ => fun
  | [d] => { results := [.lit (.bool false)], args := [d] }
  | _ => none }
def CellSortsWrongFalsely : Prop := cellSortsRow.holds Try.pinned (OpenSpec.ofChange cellSortsWrong)

/-- 'tabularylaw.CellAsks': WHATEVER THE INPUT: true; the input reads as it did. -/
def cellAsksSpec : ChangeSpec := { name := "cellAsks", fn := fun _ => fun
  | [d1, d2, d3, d4] => { results := [.lit (.bool true)], args := [d1, d2, d3, d4] }
  | _ => none }
def cellAsksRow : OpenClaim := { program := "ytlebbkbbmgmmjab", sum := "9a0583f34330c70f4c0e7f064b69b1b0b74f750d4b46ec705efe0c0e30fe3525", func := "tabulary/tabularylaw.CellAsks", spec := "cellAsks", unfollowed := true, recurses := true, apart := false }
def CellAsksSaid : Prop := cellAsksRow.holds Try.pinned (OpenSpec.ofChange cellAsksSpec)

/-- ITS FALSE NEIGHBOUR: 'it returns false'. Refute it at one input. -/
def cellAsksWrong : ChangeSpec := { name := "cellAsks", fn := fun _ => fun
  | [d1, d2, d3, d4] => { results := [.lit (.bool false)], args := [d1, d2, d3, d4] }
  | _ => none }
def CellAsksWrongFalsely : Prop := cellAsksRow.holds Try.pinned (OpenSpec.ofChange cellAsksWrong)

/-- 'tabularylaw.CellWrites': WHATEVER THE INPUT: true; the input reads as it did. -/
def cellWritesSpec : ChangeSpec := { name := "cellWrites", fn := fun _ => fun
  | [d1, d2] => { results := [.lit (.bool true)], args := [d1, d2] }
  | _ => none }
def cellWritesRow : OpenClaim := { program := "ytlebbkbbmgmmjab", sum := "9a0583f34330c70f4c0e7f064b69b1b0b74f750d4b46ec705efe0c0e30fe3525", func := "tabulary/tabularylaw.CellWrites", spec := "cellWrites", unfollowed := true, recurses := true, apart := false }
def CellWritesSaid : Prop := cellWritesRow.holds Try.pinned (OpenSpec.ofChange cellWritesSpec)

/-- ITS FALSE NEIGHBOUR: 'it returns false'. Refute it at one input. -/
def cellWritesWrong : ChangeSpec := { name := "cellWrites", fn := fun _ => fun
  | [d1, d2] => { results := [.lit (.bool false)], args := [d1, d2] }
  | _ => none }
def CellWritesWrongFalsely : Prop := cellWritesRow.holds Try.pinned (OpenSpec.ofChange cellWritesWrong)

/-- 'tabularylaw.CellScans': WHATEVER THE INPUT: true; the input reads as it did. -/
def cellScansSpec : ChangeSpec := { name := "cellScans", fn := fun _ => fun
  | [d1, d2] => { results := [.lit (.bool true)], args := [d1, d2] }
  | _ => none }
def cellScansRow : OpenClaim := { program := "ytlebbkbbmgmmjab", sum := "9a0583f34330c70f4c0e7f064b69b1b0b74f750d4b46ec705efe0c0e30fe3525", func := "tabulary/tabularylaw.CellScans", spec := "cellScans", unfollowed := true, recurses := true, apart := false }
def CellScansSaid : Prop := cellScansRow.holds Try.pinned (OpenSpec.ofChange cellScansSpec)

/-- ITS FALSE NEIGHBOUR: 'it returns false'. Refute it at one input. -/
def cellScansWrong : ChangeSpec := { name := "cellScans", fn := fun _ => fun
  | [d1, d2] => { results := [.lit (.bool false)], args := [d1, d2] }
  | _ => none }
def CellScansWrongFalsely : Prop := cellScansRow.holds Try.pinned (OpenSpec.ofChange cellScansWrong)

/- THE SECOND FORM. 'bulk': how many values and letters a reading holds, each counted each time it is reached (what is shared counts as often as it is met; a slice's spare places count too). A statement '..UptoSaid' is the law's where the arguments, and the package variables that the reading takes, are together of bulk at most 1048576: NARROWER than '..Said'. Prove '..Said' where nothing that the law and all that it calls make is longer than what came in: it says more and counts as full. Else prove '..UptoSaid'. A law counts once. -/
mutual
def uptoBulk {H : Type} : DataW H → Nat
  | .lit (.string bytes) => bytes.length + 1
  | .lit _ => 1
  | .nil => 1
  | .ptr d => uptoBulk d + 1
  | .slice elems spare => uptoBulkAll elems + uptoBulkAll spare + 1
  | .agg parts => uptoBulkAll parts + 1
  | .iface _ d => uptoBulk d + 1
  | .map entries => uptoBulkEntries entries + 1
  | .held _ => 1
def uptoBulkAll {H : Type} : List (DataW H) → Nat
  | [] => 0
  | d :: r => uptoBulk d + uptoBulkAll r
def uptoBulkEntries {H : Type} : List (Lit × DataW H) → Nat
  | [] => 0
  | x :: r => uptoBulkEntry x + uptoBulkEntries r
def uptoBulkEntry {H : Type} : Lit × DataW H → Nat
  | (.string bytes, d) => bytes.length + uptoBulk d + 1
  | (_, d) => uptoBulk d + 1
 end
def uptoSmall : (H : Type) → List (DataW H) → Bool := fun _ ds => decide (uptoBulkAll ds ≤ 1048576)
def OpenSpec.upto (s : _root_.Go.ChangeSpec) : _root_.Go.OpenSpec := { _root_.Go.OpenSpec.ofChange s with cond := some uptoSmall }

/-- 'tabularylaw.DiskKeeps', WHERE WHAT IT READS IS OF BULK AT MOST 1048576: true; the input reads as it did. -/
def diskKeepsUptoRow : OpenClaim := { program := "ytlebbkbbmgmmjab", sum := "9a0583f34330c70f4c0e7f064b69b1b0b74f750d4b46ec705efe0c0e30fe3525", func := "tabulary/tabularylaw.DiskKeeps", spec := "diskKeeps", apart := false, narrowed := true }
def DiskKeepsUptoSaid : Prop := diskKeepsUptoRow.holds Try.pinned (OpenSpec.upto diskKeepsSpec)

/-- 'tabularylaw.DiskRecovers', WHERE WHAT IT READS IS OF BULK AT MOST 1048576: true; the input reads as it did. -/
def diskRecoversUptoRow : OpenClaim := { program := "ytlebbkbbmgmmjab", sum := "9a0583f34330c70f4c0e7f064b69b1b0b74f750d4b46ec705efe0c0e30fe3525", func := "tabulary/tabularylaw.DiskRecovers", spec := "diskRecovers", apart := false, narrowed := true }
def DiskRecoversUptoSaid : Prop := diskRecoversUptoRow.holds Try.pinned (OpenSpec.upto diskRecoversSpec)

/-- 'tabularylaw.CellSorts', WHERE WHAT IT READS IS OF BULK AT MOST 1048576: true; the input reads as it did. -/
def cellSortsUptoRow : OpenClaim := { program := "ytlebbkbbmgmmjab", sum := "9a0583f34330c70f4c0e7f064b69b1b0b74f750d4b46ec705efe0c0e30fe3525", func := "tabulary/tabularylaw.CellSorts", spec := "cellSorts", unfollowed := true, recurses := true, apart := false, narrowed := true }
def CellSortsUptoSaid : Prop := cellSortsUptoRow.holds Try.pinned (OpenSpec.upto cellSortsSpec)

/-- 'tabularylaw.CellAsks', WHERE WHAT IT READS IS OF BULK AT MOST 1048576: true; the input reads as it did. -/
def cellAsksUptoRow : OpenClaim := { program := "ytlebbkbbmgmmjab", sum := "9a0583f34330c70f4c0e7f064b69b1b0b74f750d4b46ec705efe0c0e30fe3525", func := "tabulary/tabularylaw.CellAsks", spec := "cellAsks", unfollowed := true, recurses := true, apart := false, narrowed := true }
def CellAsksUptoSaid : Prop := cellAsksUptoRow.holds Try.pinned (OpenSpec.upto cellAsksSpec)

/-- 'tabularylaw.CellWrites', WHERE WHAT IT READS IS OF BULK AT MOST 1048576: true; the input reads as it did. -/
def cellWritesUptoRow : OpenClaim := { program := "ytlebbkbbmgmmjab", sum := "9a0583f34330c70f4c0e7f064b69b1b0b74f750d4b46ec705efe0c0e30fe3525", func := "tabulary/tabularylaw.CellWrites", spec := "cellWrites", unfollowed := true, recurses := true, apart := false, narrowed := true }
def CellWritesUptoSaid : Prop := cellWritesUptoRow.holds Try.pinned (OpenSpec.upto cellWritesSpec)

/-- 'tabularylaw.CellScans', WHERE WHAT IT READS IS OF BULK AT MOST 1048576: true; the input reads as it did. -/
def cellScansUptoRow : OpenClaim := { program := "ytlebbkbbmgmmjab", sum := "9a0583f34330c70f4c0e7f064b69b1b0b74f750d4b46ec705efe0c0e30fe3525", func := "tabulary/tabularylaw.CellScans", spec := "cellScans", unfollowed := true, recurses := true, apart := false, narrowed := true }
def CellScansUptoSaid : Prop := cellScansUptoRow.holds Try.pinned (OpenSpec.upto cellScansSpec)

end Rows
end Go.Proofs.Ytlebbkbbmgmmjab
