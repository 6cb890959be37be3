/-
  What was made last, and what outlasts it. No condition; no statement of the seat is proved here.
-/
import Derived.Test.YtcmbkpdefbaakaaCut
import Derived.Test.YtcmbkpdefbaakaaBss
import Derived.Test.YtcmbkpdefbaakaaStepApp
namespace Go.Proofs.Ytcmbkpdefbaakaa
open Go.RowKit


theorem Own.but {w w' : World} {base r : Nat} {v : Value} {l : List UInt8} (h : Own w base v l) (hg : w.grownBy w' (some r)) (hr : r < base) : Own w' base v l := by
  refine World.ownsRow.kept h hg (Or.inr ?_)
  intro e
  have := (World.ownsRow.lt h r e).1
  omega

theorem Bs.marked (w : World) (l : List UInt8) (arr : Array Value) (f : Nat × Nat) (h : arr.toList = cs l) (hm : l.length ≤ 1000000) : Bs (w.alloc (.cells arr 5 f)) (some ⟨w.heap.size, 0, none⟩) l.length l.length l := by
  refine ⟨rfl, Nat.le_refl _, by unfold maxLen; omega, by simp, fun i hi => ⟨w.heap.size, 0, rfl, ?_⟩⟩
  rw [Nat.zero_add, cell_new, ← Array.getElem?_toList, h, cs_get hi]
end Go.Proofs.Ytcmbkpdefbaakaa
