/-
  Arrays of 16 bytes: their size, what is cut out of them. No condition; no statement of the seat is proved here.
-/
import Derived.Test.YtfgoomlgmepalaaBlk
namespace Go.Proofs.Ytfgoomlgmepalaa
open Go.RowKit

theorem sizeK : (Try.prog.info? 22).map (·.size) = some 16 := by kernel_rfl
abbrev z16 : Array Value := #[.int .u8 0, .int .u8 0, .int .u8 0, .int .u8 0, .int .u8 0, .int .u8 0, .int .u8 0, .int .u8 0, .int .u8 0, .int .u8 0, .int .u8 0, .int .u8 0, .int .u8 0, .int .u8 0, .int .u8 0, .int .u8 0]
theorem z16_eq : z16.toList = cs (List.replicate 16 0) := rfl
theorem lenK : Try.prog.arrayLen 22 = 16 := by kernel_rfl
theorem undK : Try.prog.underlying 22 = some (.array (Try.prog.arrayLen 22) (Try.prog.elem 22)) := by kernel_rfl
theorem elK (w : World) : Sem.run Try.prog (sizeOf (Try.prog.elem 22)) w = .ok 1 w := by kernel_rfl
theorem allK (g o : Nat) (w : World) : Sem.run Try.prog (Instr.sliceAt 22 (.pointer (some ⟨g, o, none⟩)) none none none) w = .ok (.slice (some ⟨g, o, none⟩) 16 16) w := by
  rw [run_sliceAt_array_all w 22 _ undK, elK]
  simp only [Result.andThen, slicedAt, lenK]
  rfl
theorem Bs.of_range {w : World} {g o : Nat} {l : List UInt8} (h : w.rangeAt g o (cs l)) {c : Nat} (hc : l.length ≤ c) (hm : c ≤ 1000000) : Bs w (some ⟨g, o, none⟩) l.length c l :=
  ⟨rfl, hc, by unfold maxLen; omega, by simp, fun i hi => ⟨g, o, rfl, h i _ (cs_get hi)⟩⟩
/-- The first eight, and those behind. -/
theorem loK (g : Nat) (w : World) : Sem.run Try.prog (Instr.sliceAt 22 (.pointer (some ⟨g, 0, none⟩)) none (some (.int .i64 8)) none) w = .ok (.slice (some ⟨g, 0, none⟩) 8 16) w := by
  rw [run_sliceAt_array_h w 22 _ undK .i64 _ (by omega) (by rw [lenK]; omega), elK]
  simp only [Result.andThen, slicedAt, lenK]
  rfl
theorem hiK (g : Nat) (w : World) : Sem.run Try.prog (Instr.sliceAt 22 (.pointer (some ⟨g, 0, none⟩)) (some (.int .i64 8)) none none) w = .ok (.slice (some ⟨g, 8, none⟩) 8 8) w := by
  rw [run_sliceAt_array_l w 22 _ undK .i64 _ (by omega) (by rw [lenK]; omega), elK]
  simp only [Result.andThen, slicedAt, lenK]
  rfl

end Go.Proofs.Ytfgoomlgmepalaa
