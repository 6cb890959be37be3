/-
  Two like rows held against each other. No condition; no statement of the seat is proved here.
-/
import Derived.Test.YtmnlcmgkhgckcaaSame
import Derived.Test.YtmnlcmgkhgckcaaStepApp
namespace Go.Proofs.Ytmnlcmgkhgckcaa
open Go.RowKit

theorem sameT (w : World) {a b : Option Addr} {n c n' c' : Nat} {l : List UInt8} (ha : Bs w a n c l) (hb : Bs w b n' c' l) : Calls Try.prog 10 #[.slice a n c, .slice b n' c'] w fun e w' => e = .returned (.bool true) ∧ Below w.heap.size w w' := by
  have := rSame w ha hb
  rw [decide_eq_true rfl] at this
  refine this.mono ?_
  rintro e w' ⟨rfl, k, rfl⟩
  exact ⟨rfl, below_drewN' w k⟩

end Go.Proofs.Ytmnlcmgkhgckcaa
