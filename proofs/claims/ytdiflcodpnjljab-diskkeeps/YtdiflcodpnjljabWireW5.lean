/-
  The walk over wire.Texts.
-/
import Derived.Test.YtdiflcodpnjljabWireW4
namespace Go.Proofs.Ytdiflcodpnjljab
open Go.RowKit

/-- What Texts comes to, from what is left on. -/
def textsGo : List (List UInt8) → List UInt8 → List UInt8 × Int × Int
  | [], acc => (acc, 0, 0)
  | t :: ts, acc => if 60000 < acc.length + (encN t.length).length + t.length then ([], 9, 0) else textsGo ts (acc ++ encN t.length ++ t)

def textsR (ss : List (List UInt8)) : List UInt8 × Int × Int := if 1000 < ss.length then ([], 2, 0) else textsGo ss []
theorem textsGo_step (zs : List (List UInt8)) (k : Nat) (acc : List UInt8) (h : k < zs.length) (h1 : acc.length + (encN zs[k].length).length + zs[k].length ≤ 60000) :
    textsGo (zs.drop (k + 1)) (acc ++ encN zs[k].length ++ zs[k]) = textsGo (zs.drop k) acc := by
  rw [drop_cons zs k h, textsGo, if_neg (by omega)]

theorem textsGo_bad (zs : List (List UInt8)) (k : Nat) (acc : List UInt8) (h : k < zs.length) (h1 : 60000 < acc.length + (encN zs[k].length).length + zs[k].length) : textsGo (zs.drop k) acc = ([], 9, 0) := by
  rw [drop_cons zs k h, textsGo, if_pos h1]

theorem textsGo_end (zs : List (List UInt8)) (k : Nat) (acc : List UInt8) (h : zs.length ≤ k) : textsGo (zs.drop k) acc = (acc, 0, 0) := by
  rw [List.drop_eq_nil_of_le h, textsGo]

/-- 'append(out, t...)', out the call's own, t a text. -/
theorem wpList_append_str {P : Program} {w : World} {ops : Array Oper} {rest : List Oper} {o : Oper} {a : Act} {Q : Exit → Act → World → Prop} {sl x : Operand} {t u : TypeId} {base : Nat} {e : TypeId}
    {v : Value} {xs s : List UInt8}
    (hown : w.ownsRow base e 1 v xs.length (bc xs))
    (ht : P.underlying t = some (.slice e)) (hu : P.underlying u = some .string) (hinf : (P.info? e).map (fun i => (i.zero, i.size, i.bytes)) = some (some (.int .u8 0), 1, 1))
    (hgd : o.guard = none) (ho : o.op = .call { callee := .builtin .append, args := #[sl, x], argTypes := #[t, u] })
    (hs : a.eval sl = v) (hx : a.eval x = .string ⟨s.toArray⟩) (h63 : xs.length + s.length ≤ 1000000000000) (hbase : base ≤ w.heap.size)
    (h : ∀ v' w', w'.ownsRow base e 1 v' (xs ++ s).length (bc (xs ++ s)) → Below base w w' → w.grownBy w' v.ownBlock → wpList P ops Q rest (a.put o.dst v') w') : wpList P ops Q (o :: rest) a w := by
  obtain ⟨i, hi, hz, hsize, hby⟩ := info_parts hinf
  have hlt := hown.lt
  have hsz : (⟨s.toArray⟩ : ByteArray).size = s.length := by simp [ByteArray.size]
  refine Lib.wpList_append_own_string w hgd sl x t u ho base e i ht hu hi hz hsize hby v _ _ hs hown ⟨s.toArray⟩ hx (by rw [hsz]; simp [maxLen]; omega) (by rw [hsz]; omega) hbase ?_
  intro v' w' h2 h3 _
  refine h v' w' ?_ ((Below.refl _ _).grown h3 hbase (fun k hk => (hlt k hk).1)) h3
  rw [hsz] at h2
  rw [List.length_append, bc_append]
  exact h2


end Go.Proofs.Ytdiflcodpnjljab
