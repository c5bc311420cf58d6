/-
  Texts joined: AsW18.
-/
import Derived.Test.YtoeobhehjnkkkaaMLocateDoesAsW17
/-
  Lists of orders and of faults; what a play of orders comes to.
-/
namespace Go.Proofs.Ytoeobhehjnkkkaa
open Go.RowKit Go.Maps
set_option linter.unusedVariables false

/-- How an order lies in memory. -/
def odE : En Od 5 where
  v o := [.int .i64 o.kind, .int .i64 o.id, .int .i64 o.ho, .int .i64 o.tu, .string o.row]
  len _ := rfl
  one o u hu := by
    simp only [List.mem_cons, List.not_mem_nil, or_false] at hu
    rcases hu with rfl | rfl | rfl | rfl | rfl <;> rfl
  pos := by decide

/-- How a fault lies in memory. -/
def ftE : En (Int × Int) 2 where
  v f := [.int .i64 f.1, .int .i64 f.2]
  len _ := rfl
  one f u hu := by
    simp only [List.mem_cons, List.not_mem_nil, or_false] at hu
    rcases hu with rfl | rfl <;> rfl
  pos := by decide

theorem infoFault : (Try.prog.info? 30).map (fun i => (i.zero, i.size, i.bytes)) = some (some (.agg #[.int .i64 0, .int .i64 0]), 2, 16) := by kernel_rfl

theorem AtG.order {w : World} {b off : Nat} {c : Od} (h : AtG odE w b off c) :
    w.cell? ⟨b, off, none⟩ = some (.int .i64 c.kind) ∧ w.cell? ⟨b, off + 1, none⟩ = some (.int .i64 c.id) ∧ w.cell? ⟨b, off + 2, none⟩ = some (.int .i64 c.ho) ∧ w.cell? ⟨b, off + 3, none⟩ = some (.int .i64 c.tu) ∧ w.cell? ⟨b, off + 4, none⟩ = some (.string c.row) :=
  ⟨h 0 _ rfl, h 1 _ rfl, h 2 _ rfl, h 3 _ rfl, h 4 _ rfl⟩

/-- The board behind orders, by a step; and what is said of each. -/
def plyB (step : Bd → Od → Bd × (Int × Int)) : List Od → Bd → Bd
  | [], b => b
  | o :: r, b => plyB step r (step b o).1

def plyF (step : Bd → Od → Bd × (Int × Int)) : List Od → Bd → List (Int × Int)
  | [], _ => []
  | o :: r, b => (step b o).2 :: plyF step r (step b o).1

theorem plyB_snoc (step : Bd → Od → Bd × (Int × Int)) : ∀ (l : List Od) (o : Od) (b : Bd), plyB step (l ++ [o]) b = (step (plyB step l b) o).1
  | [], _, _ => rfl
  | x :: l, o, b => plyB_snoc step l o (step b x).1

theorem plyF_snoc (step : Bd → Od → Bd × (Int × Int)) : ∀ (l : List Od) (o : Od) (b : Bd), plyF step (l ++ [o]) b = plyF step l b ++ [(step (plyB step l b) o).2]
  | [], _, _ => rfl
  | x :: l, o, b => by
    show (step b x).2 :: plyF step (l ++ [o]) (step b x).1 = _
    rw [plyF_snoc step l o (step b x).1]
    rfl

theorem plyF_len (step : Bd → Od → Bd × (Int × Int)) : ∀ (l : List Od) (b : Bd), (plyF step l b).length = l.length
  | [], _ => rfl
  | x :: l, b => by
    show (plyF step l (step b x).1).length + 1 = l.length + 1
    rw [plyF_len step l (step b x).1]

theorem plyB_fine {step : Bd → Od → Bd × (Int × Int)} (h : ∀ b o, (chkB b).1 = 0 → (chkB (step b o).1).1 = 0) : ∀ (l : List Od) (b : Bd), (chkB b).1 = 0 → (chkB (plyB step l b)).1 = 0
  | [], _, hb => hb
  | x :: l, b, hb => plyB_fine h l _ (h b x hb)

end Go.Proofs.Ytoeobhehjnkkkaa
