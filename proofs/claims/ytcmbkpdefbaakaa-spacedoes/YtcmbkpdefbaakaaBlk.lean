/-
  Blocks of memory that are known whole ('Blk'): a variable of a call's own. What is read of them, and what stores make of them; whole arrays loaded and stored. No condition; no statement of the seat is proved here.
-/
import Derived.Test.YtcmbkpdefbaakaaNew
import Derived.Deep.MidRow
namespace Go.Proofs.Ytcmbkpdefbaakaa
open Go.RowKit

/-- A row of bytes as an array value. -/
def bv (l : List UInt8) : Value := .agg (cs l).toArray

/-- The bytes that lie in a block from o on, as a slice. -/
theorem Blk.bs {w : World} {g : Nat} {vs : List Value} {t : TypeId} (h : Blk w g vs t) (o c : Nat) (l : List UInt8) (hl : ∀ j v, (cs l)[j]? = some v → vs[o + j]? = some v) (hc : l.length ≤ c) (hm : c ≤ 1000000) : Bs w (some ⟨g, o, none⟩) l.length c l := by
  refine ⟨rfl, hc, by unfold maxLen; omega, by simp, fun i hi => ⟨g, o, rfl, ?_⟩⟩
  rw [h.cell]
  exact hl i _ (cs_get hi)

theorem cs_sub {b : List UInt8} {o n j : Nat} {v : Value} (h : (cs ((b.drop o).take n))[j]? = some v) : (cs b)[o + j]? = some v := by
  simp only [cs, List.getElem?_map, List.getElem?_take, List.getElem?_drop] at h ⊢
  by_cases hj : j < n
  · simpa [hj] using h
  · simp [hj] at h

end Go.Proofs.Ytcmbkpdefbaakaa
