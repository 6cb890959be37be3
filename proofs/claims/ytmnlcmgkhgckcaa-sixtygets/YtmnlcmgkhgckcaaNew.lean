/-
  What was made last, and what outlasts it. No condition; no statement of the seat is proved here.
-/
import Derived.Test.YtmnlcmgkhgckcaaCut
import Derived.Test.YtmnlcmgkhgckcaaBss
import Derived.Test.YtmnlcmgkhgckcaaStepApp
namespace Go.Proofs.Ytmnlcmgkhgckcaa
open Go.RowKit


theorem Own.but {w w' : World} {base r : Nat} {v : Value} {l : List UInt8} (h : Own w base v l) (hg : w.grownBy w' (some r)) (hr : r < base) : Own w' base v l := by
  refine World.ownsRow.kept h hg (Or.inr ?_)
  intro e
  have := (World.ownsRow.lt h r e).1
  omega

theorem cell_new (w : World) (arr : Array Value) (t : TypeId) (f : Nat × Nat) (i : Nat) : (w.alloc (.cells arr t f)).cell? ⟨w.heap.size, i, none⟩ = arr[i]? := by
  unfold World.cell?
  rw [show (w.alloc (.cells arr t f)).heap[w.heap.size]? = some (.cells arr t f) from by show (w.heap.push _)[w.heap.size]? = _; simp]
  simp
theorem Bs.marked (w : World) (l : List UInt8) (arr : Array Value) (f : Nat × Nat) (h : arr.toList = cs l) (hm : l.length ≤ 1000000) : Bs (w.alloc (.cells arr 5 f)) (some ⟨w.heap.size, 0, none⟩) l.length l.length l := by
  refine ⟨rfl, Nat.le_refl _, by unfold maxLen; omega, by simp, fun i hi => ⟨w.heap.size, 0, rfl, ?_⟩⟩
  rw [Nat.zero_add, cell_new, ← Array.getElem?_toList, h, cs_get hi]
theorem below2 (w : World) (o p : Obj) : Below w.heap.size w ((w.alloc o).alloc p) := (below_alloc _ _).alloc (by simp) _
theorem below3 (w : World) (o p q : Obj) : Below w.heap.size w (((w.alloc o).alloc p).alloc q) := (below2 _ _ _).alloc (by simp; omega) _
theorem size2 (w : World) (o p : Obj) : ((w.alloc o).alloc p).heap.size = w.heap.size + 2 := by simp
end Go.Proofs.Ytmnlcmgkhgckcaa
