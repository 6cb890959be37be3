/-
  Slices of one and of two rows, an array of 32 as a slice, two like rows held against each other: what the smokes of several layers share. No condition; no statement of the seat is proved here.
-/
import Derived.Test.YtpmdjailpdajkaaDoorOf
import Derived.Test.YtpmdjailpdajkaaDoorHexO
import Derived.Test.YtpmdjailpdajkaaDoorSame
import Derived.Lib.SlBytesConst
namespace Go.Proofs.YtpmdjailpdajkaaDoor
open Go.RowKit

theorem conv2 (w : World) (o : Obj) (C : Array Value) (n c : Nat) : Sem.run Tryd.prog (convert 22 22 (.slice (some ⟨w.heap.size + 1, 0, none⟩) n c)) ((w.alloc o).alloc (.cells C 5)) = .ok (.slice (some ⟨w.heap.size + 1, 0, none⟩) n c) ((w.alloc o).alloc (.cells C 5 (C.size, C.size + 1))) := by
  have := Lib.run_convert_bytes_const (P := Tryd.prog) (w.alloc o) 22 5 C n c Tryd.underlying22 Tryd.underlying5
  rw [World.size_alloc] at this
  exact this
theorem Bss.two {w : World} {a1 a2 : Option Addr} {n1 c1 n2 c2 : Nat} {l1 l2 : List UInt8} (h1 : Bs w a1 n1 c1 l1) (h2 : Bs w a2 n2 c2 l2) :
    Bss (w.alloc (.cells #[.slice a1 n1 c1, .slice a2 n2 c2] 22)) (some ⟨w.heap.size, 0, none⟩) 2 2 [l1, l2] := by
  refine ⟨rfl, Nat.le_refl _, by unfold maxLen; omega, fun i hi => ?_⟩
  match i, hi with
  | 0, _ => exact ⟨w.heap.size, 0, a1, n1, c1, rfl, by rw [cell_new]; rfl, h1.below (below_alloc _ _) (Nat.le_refl _)⟩
  | 1, _ => exact ⟨w.heap.size, 0, a2, n2, c2, rfl, by rw [cell_new]; rfl, h2.below (below_alloc _ _) (Nat.le_refl _)⟩
theorem Bss.one1 {w : World} {a1 : Option Addr} {n1 c1 : Nat} {l1 : List UInt8} (h1 : Bs w a1 n1 c1 l1) :
    Bss (w.alloc (.cells #[.slice a1 n1 c1] 22)) (some ⟨w.heap.size, 0, none⟩) 1 1 [l1] := by
  refine ⟨rfl, Nat.le_refl _, by unfold maxLen; omega, fun i hi => ?_⟩
  match i, hi with
  | 0, _ => exact ⟨w.heap.size, 0, a1, n1, c1, rfl, by rw [cell_new]; rfl, h1.below (below_alloc _ _) (Nat.le_refl _)⟩

theorem all24 (g : Nat) (w : World) : Sem.run Tryd.prog (Instr.sliceAt 26 (.pointer (some ⟨g, 0, none⟩)) none none none) w = .ok (.slice (some ⟨g, 0, none⟩) 32 32) w := by
  rw [run_sliceAt_array_all w 26 _ und24, el24]
  simp only [Result.andThen, slicedAt, len24]
  rfl

theorem cs_self {l : List UInt8} (j : Nat) (v : Value) (h : (cs l)[j]? = some v) : (cs l)[0 + j]? = some v := by rw [Nat.zero_add]; exact h

theorem sameT (w : World) {a b : Option Addr} {n c n' c' : Nat} {l : List UInt8} (ha : Bs w a n c l) (hb : Bs w b n' c' l) : Calls Tryd.prog 10 #[.slice a n c, .slice b n' c'] w fun e w' => e = .returned (.bool true) ∧ Below w.heap.size w w' := by
  have := rSame w ha hb
  rw [decide_eq_true rfl] at this
  refine this.mono ?_
  rintro e w' ⟨rfl, k, rfl⟩
  exact ⟨rfl, below_drewN' w k⟩

end Go.Proofs.YtpmdjailpdajkaaDoor
