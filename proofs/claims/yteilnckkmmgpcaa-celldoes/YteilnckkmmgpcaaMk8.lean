/-
  'make' of bytes in a region that draws its order. No condition; no statement of the seat is proved here.
-/
import Derived.Test.YteilnckkmmgpcaaAllocs
import Derived.Test.YteilnckkmmgpcaaBsGrow
namespace Go.Proofs.Yteilnckkmmgpcaa
open Go.RowKit

/-- 'make([]byte, n)', the one that may come up. -/
theorem opMk8 {ops : Array Oper} {Q : Exit → Act → World → Prop} {i : Nat} {oi : Oper} (d : Option Tmp) (hi : ops[i]? = some oi) (hd : oi.dst = d) (hg : oi.guard = none) (l c : Operand) (ho : oi.op = Op.makeSlice 38 l c) {K : Act → World → Prop} {a : Act} {w : World} (n : Nat) (hl : a.eval l = .int .i64 (n : Int)) (hc : a.eval c = .int .i64 (n : Int)) (hz : n ≤ 2147483647)
    (k : ∀ w', Own w' w.heap.size (.slice (some ⟨w.heap.size, 0, none⟩) n n) (List.replicate n 0) → Grows w w' → K (a.put d (.slice (some ⟨w.heap.size, 0, none⟩) n n)) w') : wpOp Try.prog ops Q i K a w := by
  subst hd
  obtain ⟨i0, hi0, hz0, hz1, hz2⟩ := info_parts info5
  obtain ⟨w', hrun, r1, r2⟩ := run_make_full (P := Try.prog) w w.heap.size 38 5 i0 (.int .u8 0) 1 Try.underlying38 hi0 hz0 hz1 .i64 .i64 n (by rw [hz2]; omega) (by unfold maxLen; omega) (Nat.le_refl _)
  have e : (madeCells (Value.int .u8 0).cells (n * 1)).toList = cs (List.replicate n 0) := by
    rw [show (Value.int .u8 0).cells = #[.int .u8 0] from rfl, toList_madeCells_one]
    simp [cs]
  rw [e] at r1
  have hO : Own w' w.heap.size (.slice (some ⟨w.heap.size, 0, none⟩) n n) (List.replicate n 0) := by
    unfold Own
    rw [List.length_replicate]
    exact r1
  have hk := k w' hO ((Below.refl _ _).grown r2 (Nat.le_refl _) (by simp))
  unfold wpOp
  simp only [hi]
  rw [if_pos (by simp [Region.wanted, hg])]
  left
  unfold Oper.wp
  simp [execOp, ho, hl, hc, hrun, Result.andThen]
  rw [Oper.upon_value]
  exact hk

end Go.Proofs.Yteilnckkmmgpcaa
