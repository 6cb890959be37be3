/-
  The contract of the program's Join at one part: the same bytes in new memory. Condition: at most 99000 bytes.
-/
import Derived.Test.YtphkkbkfioaikaaJoinO
import Derived.Test.YtphkkbkfioaikaaBssN
namespace Go.Proofs.Ytphkkbkfioaikaa
open Go.RowKit

/-- One part, new. -/
theorem oJoinOne (w : World) {p : Option Addr} {m c : Nat} {b : List UInt8} (h : Bs w p m c b) (hz : b.length ≤ 99000) : Calls Try.prog 22 #[.slice (some ⟨w.heap.size, 0, none⟩) 1 1] (w.alloc (.cells #[.slice p m c] 31)) (Gives w b) := by
  refine (oJoin _ (Bss.one1 h) (by simp [tot]; omega)).mono ?_
  rintro e w2 ⟨a3, m3, c3, rfl, o3, hb3⟩
  rw [show [b].flatten = b from by simp] at o3
  have kk : Below w.heap.size w (w.alloc (.cells #[.slice p m c] 31)) := below_alloc _ _
  exact ⟨a3, m3, c3, rfl, o3.mono kk.size, kk.trans (hb3.mono kk.size)⟩

end Go.Proofs.Ytphkkbkfioaikaa
