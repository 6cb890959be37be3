/-
  Plain facts of layer 15's laws: numbers of bytes; what a look for the first run knows. No condition; nothing of the program.
-/
import Derived.Test.YtcmbkpdefbaakaaSpaL
namespace Go.Proofs.Ytcmbkpdefbaakaa
open Go.RowKit

theorem tmodN (n k : Nat) : (n : Int).tmod (k : Int) = ((n % k : Nat) : Int) := by
  rw [Int.tmod_eq_emod_of_nonneg (by omega)]
  rfl
theorem wrapN {n : Nat} (h : n ≤ 255) : wrap64 (n : Int) = (n : Int) := by unfold wrap64; omega
/-- Behind a places of the law's own look: the first that fits, or none yet. -/
def Look (l : List Bool) (M a : Nat) (f : Value) : Prop :=
  (f = .int .i64 (-1) ∧ ∀ b, b < a → allB l b M false = false) ∨ (∃ x : Nat, a = x + 1 ∧ f = .int .i64 (x : Int) ∧ findL l M = some x)
theorem Look.zero (l : List Bool) (M : Nat) : Look l M 0 (.int .i64 (-1)) := Or.inl ⟨rfl, fun b hb => by omega⟩
end Go.Proofs.Ytcmbkpdefbaakaa
