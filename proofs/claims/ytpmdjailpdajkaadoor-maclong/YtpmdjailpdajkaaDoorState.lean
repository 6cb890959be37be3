/-
  A sum that is not at its end, in memory ('Sta'), and the contracts of 'firstWords' and 'New'. No condition.
-/
import Derived.Test.YtpmdjailpdajkaaDoorBytes
namespace Go.Proofs.YtpmdjailpdajkaaDoor
open Go.RowKit

/-- What was not taken yet, with noughts behind. -/
def rst (m : List UInt8) : List UInt8 := m.drop (64 * (m.length / 64)) ++ List.replicate (64 - m.length % 64) 0
theorem rst_length (m : List UInt8) : (rst m).length = 64 := by simp [rst]; omega
theorem tks_length (m : List UInt8) (n : Nat) : (tks m n).length = 8 := by
  induction n with
  | zero => rfl
  | succ n ih => rw [tks]; exact tk_length ih _

/-- The cells of a state behind the bytes m. -/
def sta (m : List UInt8) : List Value := ws (tks m (m.length / 64)) ++ cs (rst m) ++ [.int .u64 (m.length : Int)]
/-- Block r is a state behind the bytes m. -/
def Sta (w : World) (r : Nat) (m : List UInt8) : Prop := Blk w r (sta m) 63

theorem at_bd (ty : TypeId) {parts : Array (Nat × Operand)} {ops : Array Oper} {rest : List Oper} {a : Act} {w : World} {Q : Exit → Act → World → Prop} {dst : Option Tmp} {tp : TypeId} {pos : String} {aft : Array Edge}
    (h : wpList Tryd.prog ops Q ({ dst := dst, op := .build ty parts, type := tp, pos := pos, after := aft, guard := none } :: rest) a w) : wpList Tryd.prog ops Q ({ dst := dst, op := .build ty parts, type := tp, pos := pos, after := aft, guard := none } :: rest) a w := h
/-- A literal of a struct or an array. -/
theorem bd {ops : Array Oper} {rest : List Oper} {a : Act} {w : World} {Q : Exit → Act → World → Prop} {dst : Option Tmp} {tp : TypeId} {pos : String} {aft : Array Edge} (ty : TypeId) (parts : Array (Nat × Operand)) (vals : List (Nat × Value)) (cells : Array Value)
    (hv : parts.toList.map (fun p => (p.1, a.eval p.2)) = vals) (hf : Tryd.prog.built ty vals = some cells)
    (h : wpList Tryd.prog ops Q rest (a.put dst (.agg cells)) w) : wpList Tryd.prog ops Q ({ dst := dst, op := .build ty parts, type := tp, pos := pos, after := aft, guard := none } :: rest) a w :=
  have hv' : (parts.map fun (i, x) => (i, a.eval x)).toList = vals := by rw [Array.toList_map]; exact hv
  wpList_build rfl ty parts rfl (by rw [hv', hf]; rfl) (by rw [hv', hf]; exact h)

theorem built50 : Tryd.prog.built 63 [(0, wv sHs)] = some (sta []).toArray := by kernel_rfl
def z64 : List UInt8 := List.replicate 64 0
theorem z64_length : z64.length = 64 := rfl
theorem built48 : Tryd.prog.built 41 [] = some (cs z64).toArray := by kernel_rfl

theorem oFirst (w : World) : Calls Tryd.prog 33 #[] w fun e w' => e = .returned (wv sHs) ∧ Below w.heap.size w w' := by
  go_enter Tryd.func33, Tryd.ntmps33
  go_wp2_with fail
  exact bodyPost_ret (v := wv sHs) (by simp [results, Tryd.results33, go_sem, wv, sHs, ws]) rfl ⟨rfl, below_alloc _ _⟩

theorem oNew (w : World) : Calls Tryd.prog 21 #[] w fun e w' => ∃ r, e = .returned (.pointer (some ⟨r, 0, none⟩)) ∧ w.heap.size ≤ r ∧ Sta w' r [] ∧ Below w.heap.size w w' := by
  go_enter Tryd.func21, Tryd.ntmps21
  go_wp2_with (first
    | (go_at_call 33; refine (oFirst w).mono ?_; rintro e w1 ⟨rfl, hb⟩)
    | (with_reducible refine at_bd 63 ?_; refine bd 63 #[(0, .tmp 1)] [(0, wv sHs)] (sta []).toArray rfl built50 ?_))
  go_ret
  exact ⟨w1.heap.size, rfl, hb.size, Blk.new w1 _ _, hb.alloc hb.size _⟩

end Go.Proofs.YtpmdjailpdajkaaDoor
