/-
  Slices of rows of bytes that a call made itself: literals of one row, storing such a slice into a field, how they outlast what is written. No condition; no statement of the seat is proved here.
-/
import Derived.Test.YtphkkbkfioaikaaCelL
import Derived.Test.YtphkkbkfioaikaaGrow
namespace Go.Proofs.Ytphkkbkfioaikaa
open Go.RowKit

theorem infoBy : (Try.prog.info? 31).map (fun i => (i.zero, i.size, i.bytes)) = some (some (.slice none 0 0), 1, 24) := by kernel_rfl
theorem neB5 : 31 ≠ 5 := by decide
/-- A literal of one slice, the one that may come up. -/
theorem opBS1 {ops : Array Oper} {Q : Exit → Act → World → Prop} {i : Nat} {oi : Oper} (d : Option Tmp) (hi : ops[i]? = some oi) (hd : oi.dst = d) (hg : oi.guard = none) (x : Operand) (ho : oi.op = .buildSlice 22 1 #[(0, x)]) {K : Act → World → Prop} {a : Act} {w : World} (s : Option Addr) (n c : Nat) (hx : a.eval x = .slice s n c)
    (k : K (a.put d (.slice (some ⟨w.heap.size, 0, none⟩) 1 1)) (w.alloc (.cells #[.slice s n c] 31))) : wpOp Try.prog ops Q i K a w := by
  subst hd
  have hK : Hid _ := k
  clear k
  unfold wpOp
  simp only [hi]
  rw [if_pos (by simp [Region.wanted, hg])]
  left
  unfold Oper.wp execOp
  simp only [ho, List.map_toArray, List.map_cons, List.map_nil, hx]
  go_simp
  exact hK.out
/-- A slice of slices stored into a field, the one that may come up. -/
theorem opStS {ops : Array Oper} {Q : Exit → Act → World → Prop} {i : Nat} {oi : Oper} (hi : ops[i]? = some oi) (hd : oi.dst = none) (hg : oi.guard = none) (x y : Operand) (ho : oi.op = .store 22 x y) {K : Act → World → Prop} {a : Act} {w : World} (g o : Nat) (hx : a.eval x = .pointer (some ⟨g, o, none⟩)) (s : Option Addr) (n c : Nat) (hy : a.eval y = .slice s n c) (vs : List Value) (t : TypeId) (hb : Blk w g vs t) (ho2 : o < vs.length)
    (k : K a (w.setCell ⟨g, o, none⟩ (.slice s n c))) : wpOp Try.prog ops Q i K a w := by
  have hc := hb.cell o
  rw [List.getElem?_eq_getElem ho2] at hc
  have hf := hb.free o
  have hl := hb.lt
  have hK : Hid _ := k
  clear k
  unfold wpOp
  simp only [hi]
  rw [if_pos (by simp [Region.wanted, hg])]
  left
  unfold Oper.wp execOp
  simp only [ho, hx, hy]
  go_simp
  exact hK.out
theorem Blk.not5' {w : World} {g : Nat} {vs : List Value} {t : TypeId} (h : Blk w g vs t) (ht : t ≠ 5) : ∀ cur f, w.heap[g]? ≠ some (.cells cur 5 f) := fun cur f hh => by
  rw [show w.heap[g]? = _ from h] at hh
  simp only [Option.some.injEq, Obj.cells.injEq] at hh
  exact ht hh.2.1
theorem but_cells' (g : Nat) : ∀ (us : List Value) (w : World) (o : Nat), w.grownBy (w.setCells g o us) (some g)
  | [], _, _ => World.grownBy.refl _ _
  | u :: us, w, o => but_trans (but_set w g o u) (but_cells' g us _ (o + 1))
theorem OwB.grown {A : Nat → Prop} {e : TypeId} {w w' : World} {base r : Nat} {v : Value} {l : List (List UInt8)} (h : OwS (elB A) 1 e w base v l) (g : w.grownBy w' (some r)) (hr : r < base) (h5 : ∀ cur f, w.heap[r]? ≠ some (.cells cur 5 f)) : OwS (elB A) 1 e w' base v l :=
  h.keep (elB.grown g (fun j cur f hj => by obtain rfl := Option.some.inj hj; exact h5 cur f)) (fun j hj => g.block j (h.lt j hj).2 (fun e => by have := (h.lt j hj).1; have := Option.some.inj e; omega))
theorem OwB.below {A : Nat → Prop} {e : TypeId} {w w' : World} {base : Nat} {v : Value} {l : List (List UInt8)} (h : OwS (elB A) 1 e w base v l) (g : Below w.heap.size w w') : OwS (elB A) 1 e w' base v l :=
  h.keep (elB.keep fun j hj _ => g.block j hj) (fun j hj => g.block j (h.lt j hj).2)

end Go.Proofs.Ytphkkbkfioaikaa
