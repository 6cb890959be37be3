/-
  What the proofs about sums share: their length, sums as slices, the sum of one part. No condition; no statement of the seat is proved here.
-/
import Derived.Test.YtpmdjailpdajkaaDoorPairs2
import Derived.Test.YtpmdjailpdajkaaDoorRefSum
namespace Go.Proofs.YtpmdjailpdajkaaDoor
open Go.RowKit

theorem sumL_length (l : List UInt8) : (sumL l).length = 32 := by
  rw [sum_fin, outL_length]
  unfold fin
  split
  · rw [tk_length (tks_length _ _)]
  · rw [tk_length (tk_length (tks_length _ _) _)]
theorem cs_sum (l : List UInt8) : (cs (sumL l)).length = 32 := by rw [cs_length, sumL_length]
theorem sum_bs {w : World} {g : Nat} {l : List UInt8} {t : TypeId} (h : Blk w g (cs (sumL l)) t) : Bs w (some ⟨g, 0, none⟩) 32 32 (sumL l) := by
  have := h.bs 0 32 (sumL l) cs_self (by rw [sumL_length]; omega) (by omega)
  rw [sumL_length] at this
  exact this
theorem oOf1 (w : World) (hK : Kon w) {a : Option Addr} {n c : Nat} {l : List UInt8} (ha : Bs w a n c l) (hz : n ≤ 100000) :
    Calls Tryd.prog 25 #[.slice (some ⟨w.heap.size, 0, none⟩) 1 1] (w.alloc (.cells #[.slice a n c] 22)) fun e w' => e = .returned (.agg (cs (sumL l)).toArray) ∧ Below w.heap.size w w' := by
  have hb := below_alloc w (.cells #[.slice a n c] 22)
  have := oOf _ (hK.below hb hK.lt) (Bss.one1 ha) (by have := ha.len; simp [tot]; omega)
  refine this.mono ?_
  rintro e w' ⟨rfl, hb'⟩
  refine ⟨?_, hb.trans (hb'.mono hb.size)⟩
  simp [bv]

end Go.Proofs.YtpmdjailpdajkaaDoor
