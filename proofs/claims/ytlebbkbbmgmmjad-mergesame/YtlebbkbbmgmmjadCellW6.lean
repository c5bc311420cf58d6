/-
  The walk over cell.Scan.
-/
import Derived.Test.YtlebbkbbmgmmjadCellW5
namespace Go.Proofs.Ytlebbkbbmgmmjad
open Go.RowKit

theorem Try.info91 : (Try.prog.info? 91).map (fun i => (i.zero, i.size, i.bytes)) = some (some (.agg #[.string ⟨#[]⟩, .string ⟨#[]⟩, .int .i64 0, .bool false, .string ⟨#[]⟩]), 5, 64) := by kernel_rfl

/-- What Scan collects, behind one that hides. -/
def scanGo (a b : ByteArray) (t m : Int) : Cl → List Cl → List Cl → List Cl
  | _, [], acc => acc
  | nw, c :: r, acc => if seenB t nw c && askB a b c.row && decide ((acc.length : Int) < m) then scanGo a b t m (nextN t nw c) r (acc ++ [c]) else scanGo a b t m (nextN t nw c) r acc

/-- What Scan answers. -/
def scanC (cs : List Cl) (a b : ByteArray) (t m : Int) : List Cl × (Int × Int) :=
  if (checkC cs).1 ≠ 0 then ([], checkC cs) else if isNumB t = false then ([], (3, -1)) else if m < 0 ∨ 1000 < m then ([], (3, -2)) else (scanGo a b t m zeroC cs [], (0, 0))

theorem scanC_bad {cs : List Cl} {a b : ByteArray} {t m : Int} (h : (checkC cs).1 ≠ 0) : scanC cs a b t m = ([], checkC cs) := by rw [scanC, if_pos h]
theorem scanC_time {cs : List Cl} {a b : ByteArray} {t m : Int} (h : (checkC cs).1 = 0) (h2 : isNumB t = false) : scanC cs a b t m = ([], (3, -1)) := by rw [scanC, if_neg (by omega), if_pos h2]
theorem scanC_many {cs : List Cl} {a b : ByteArray} {t m : Int} (h : (checkC cs).1 = 0) (h2 : isNumB t = true) (h3 : m < 0 ∨ 1000 < m) : scanC cs a b t m = ([], (3, -2)) := by rw [scanC, if_neg (by omega), if_neg (by rw [h2]; decide), if_pos h3]
theorem scanC_ok {cs : List Cl} {a b : ByteArray} {t m : Int} (h : (checkC cs).1 = 0) (h2 : isNumB t = true) (h3 : ¬ (m < 0 ∨ 1000 < m)) : scanC cs a b t m = (scanGo a b t m zeroC cs [], (0, 0)) := by rw [scanC, if_neg (by omega), if_neg (by rw [h2]; decide), if_neg h3]

theorem scanGo_hit {a b : ByteArray} {t m : Int} {nw c : Cl} {r acc : List Cl} (h1 : seenB t nw c = true) (h2 : askB a b c.row = true) (h3 : decide ((acc.length : Int) < m) = true) : scanGo a b t m nw (c :: r) acc = scanGo a b t m (nextN t nw c) r (acc ++ [c]) := by
  simp only [scanGo, h1, h2, h3, Bool.and_self, if_true]

theorem scanGo_miss {a b : ByteArray} {t m : Int} {nw c : Cl} {r acc : List Cl} (h : (seenB t nw c && askB a b c.row && decide ((acc.length : Int) < m)) = false) : scanGo a b t m nw (c :: r) acc = scanGo a b t m (nextN t nw c) r acc := by
  simp only [scanGo, h, Bool.false_eq_true, if_false]

theorem Bk.new2 (w : World) (o : Obj) (t : TypeId) (xs : Array Value) : Bk ((w.alloc o).alloc (.cells xs t)) (w.heap.size + 1) t xs := by
  have := Bk.new (w.alloc o) t xs
  rwa [show (w.alloc o).heap.size = w.heap.size + 1 by simp] at this

theorem ownsC_shape {w : World} {base : Nat} {e : TypeId} {v : Value} {n : Nat} {xs : List Value} (h : w.ownsRow base e 5 v n xs) : ∃ ao cap, v = .slice ao n cap := by
  rcases h.2 with ⟨rfl, hn⟩ | ⟨g, cap, cur, rfl, _⟩
  · exact ⟨none, 0, by rw [hn]⟩
  · exact ⟨_, _, rfl⟩

theorem scanGo_full {a b : ByteArray} {t m : Int} : ∀ {cs : List Cl} {nw : Cl} {acc : List Cl}, ¬ (acc.length : Int) < m → scanGo a b t m nw cs acc = acc
  | [], _, _, _ => rfl
  | c :: r, nw, acc, h => by
    rw [scanGo_miss (by rw [show decide ((acc.length : Int) < m) = false by simpa using h, Bool.and_false])]
    exact scanGo_full h

theorem scanC_ask {cs : List Cl} {a b : ByteArray} {t m : Int} (h : (checkC cs).1 = 0) (h2 : (askFV t m).1 ≠ 0) : scanC cs a b t m = ([], askFV t m) := by
  rw [scanC, if_neg (by omega)]
  unfold askFV at h2 ⊢
  split
  · rfl
  · split
    · rfl
    · rename_i h3 h4
      simp [h3, h4] at h2

theorem askFV_zero {t m : Int} (h : (askFV t m).1 = 0) : askFV t m = (0, 0) ∧ isNumB t = true ∧ ¬ (m < 0 ∨ 1000 < m) := by
  unfold askFV at h ⊢
  cases hn : isNumB t
  · simp [hn] at h
  · by_cases hm : m < 0 ∨ 1000 < m
    · simp [hn, hm] at h
    · simp [hm]


end Go.Proofs.Ytlebbkbbmgmmjad
