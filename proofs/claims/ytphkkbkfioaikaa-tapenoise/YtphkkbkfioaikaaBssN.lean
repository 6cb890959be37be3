/-
  Slices of one, two and three rows of bytes, made as one; a text's bytes. No condition; no statement of the seat is proved here.
-/
import Derived.Test.YtphkkbkfioaikaaNew
import Derived.Lib.SlBytesConst
namespace Go.Proofs.Ytphkkbkfioaikaa
open Go.RowKit

theorem conv2 (w : World) (o : Obj) (C : Array Value) (n c : Nat) : Sem.run Try.prog (convert 31 31 (.slice (some ⟨w.heap.size + 1, 0, none⟩) n c)) ((w.alloc o).alloc (.cells C 5)) = .ok (.slice (some ⟨w.heap.size + 1, 0, none⟩) n c) ((w.alloc o).alloc (.cells C 5 (C.size, C.size + 1))) := by
  have := Lib.run_convert_bytes_const (P := Try.prog) (w.alloc o) 31 5 C n c Try.underlying31 Try.underlying5
  rw [World.size_alloc] at this
  exact this
theorem Bss.two {w : World} {a1 a2 : Option Addr} {n1 c1 n2 c2 : Nat} {l1 l2 : List UInt8} (h1 : Bs w a1 n1 c1 l1) (h2 : Bs w a2 n2 c2 l2) :
    Bss (w.alloc (.cells #[.slice a1 n1 c1, .slice a2 n2 c2] 31)) (some ⟨w.heap.size, 0, none⟩) 2 2 [l1, l2] := by
  refine ⟨rfl, Nat.le_refl _, by unfold maxLen; omega, fun i hi => ?_⟩
  match i, hi with
  | 0, _ => exact ⟨w.heap.size, 0, a1, n1, c1, rfl, by rw [cell_new]; rfl, h1.below (below_alloc _ _) (Nat.le_refl _)⟩
  | 1, _ => exact ⟨w.heap.size, 0, a2, n2, c2, rfl, by rw [cell_new]; rfl, h2.below (below_alloc _ _) (Nat.le_refl _)⟩
theorem Bss.one1 {w : World} {a1 : Option Addr} {n1 c1 : Nat} {l1 : List UInt8} (h1 : Bs w a1 n1 c1 l1) :
    Bss (w.alloc (.cells #[.slice a1 n1 c1] 31)) (some ⟨w.heap.size, 0, none⟩) 1 1 [l1] := by
  refine ⟨rfl, Nat.le_refl _, by unfold maxLen; omega, fun i hi => ?_⟩
  match i, hi with
  | 0, _ => exact ⟨w.heap.size, 0, a1, n1, c1, rfl, by rw [cell_new]; rfl, h1.below (below_alloc _ _) (Nat.le_refl _)⟩
theorem Bss.three {w : World} {a1 a2 a3 : Option Addr} {n1 c1 n2 c2 n3 c3 : Nat} {l1 l2 l3 : List UInt8} (h1 : Bs w a1 n1 c1 l1) (h2 : Bs w a2 n2 c2 l2) (h3 : Bs w a3 n3 c3 l3) :
    Bss (w.alloc (.cells #[.slice a1 n1 c1, .slice a2 n2 c2, .slice a3 n3 c3] 31)) (some ⟨w.heap.size, 0, none⟩) 3 3 [l1, l2, l3] := by
  refine ⟨rfl, Nat.le_refl _, by unfold maxLen; omega, fun i hi => ?_⟩
  match i, hi with
  | 0, _ => exact ⟨w.heap.size, 0, a1, n1, c1, rfl, by rw [cell_new]; rfl, h1.below (below_alloc _ _) (Nat.le_refl _)⟩
  | 1, _ => exact ⟨w.heap.size, 0, a2, n2, c2, rfl, by rw [cell_new]; rfl, h2.below (below_alloc _ _) (Nat.le_refl _)⟩
  | 2, _ => exact ⟨w.heap.size, 0, a3, n3, c3, rfl, by rw [cell_new]; rfl, h3.below (below_alloc _ _) (Nat.le_refl _)⟩

end Go.Proofs.Ytphkkbkfioaikaa
