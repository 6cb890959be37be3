/-
  8 texts in one. No statement of the seat is proved here.
-/
import Derived.Test.YtlenmkhmkommcaaGreatJ15
import Derived.Laws.CopyOwn
import Derived.Deep.RegionHeld3
import Derived.Deep.DeepCutAuto
/-
  Regions that draw their order and end in a store into what they read ('x = f(x)'): as in Grow, but what is kept between the operations need not outlast the store. No condition; no statement of the seat is proved here.
-/
namespace Go.Proofs.YtlenmkhmkommcaaGreat
open Go.RowKit

end Go.Proofs.YtlenmkhmkommcaaGreat

/-
  Elements as two words of 64 bits, the first bit the highest: what a shift down is, what a table of sixteen products gives, four bits at a time. Plain mathematics; no condition; nothing of the program.
-/
namespace Go.Proofs.YtlenmkhmkommcaaGreat

/-- An element read from its other end: the first bit the highest. -/
def rv (a : Fe) : Fe := lin a (fun i => (1 : Fe) <<< (127 - i)) 128
/-- Its two words. -/
def hB (a : Fe) : BitVec 64 := (rv a).extractLsb' 64 64
def lB (a : Fe) : BitVec 64 := (rv a).extractLsb' 0 64
/-- Times x^k, word by word. -/
def rsO (k : Nat) (l : BitVec 64) : BitVec 64 := l <<< (64 - k)
def rsH (k : Nat) (h l : BitVec 64) : BitVec 64 := (h >>> k) ^^^ rsO k l ^^^ (rsO k l >>> 1) ^^^ (rsO k l >>> 2) ^^^ (rsO k l >>> 7)
def rsL (k : Nat) (h l : BitVec 64) : BitVec 64 := (l >>> k) ^^^ (h <<< (64 - k))
/-- An element times the polynomial of the four bits of n, the first one the highest. -/
def pr (h : Fe) (n : Nat) : Fe := ((if n.testBit 3 then h else 0) ^^^ (if n.testBit 2 then txN h 1 else 0)) ^^^ ((if n.testBit 1 then txN h 2 else 0) ^^^ (if n.testBit 0 then txN h 3 else 0))
/-- A product so far, with k times four bits of a word taken. -/
def tkF (h p : Fe) (w : Nat) : Nat → Fe
  | 0 => p
  | k + 1 => txN (tkF h p w k) 4 ^^^ pr h (w / 16 ^ k % 16)
end Go.Proofs.YtlenmkhmkommcaaGreat

/-
  Elements as the program's values: two words in a struct. The contracts of Add and raised. No condition.
-/
namespace Go.Proofs.YtlenmkhmkommcaaGreat
open Go.RowKit

/-- The words as numbers. -/
def hN (a : Fe) : Nat := (hB a).toNat
def lN (a : Fe) : Nat := (lB a).toNat
/-- An element as a value. -/
def ev (a : Fe) : Value := .agg #[.int .u64 (hN a : Int), .int .u64 (lN a : Int)]

end Go.Proofs.YtlenmkhmkommcaaGreat

/-
  The builtin copy of bytes into a block that is known whole, as one step of a region that draws its order. No condition; no statement of the seat is proved here.
-/
namespace Go.Proofs.YtlenmkhmkommcaaGreat
open Go.RowKit

theorem cs_sub' {l : List UInt8} {n j : Nat} {v : Value} (h : (cs (l.take n))[j]? = some v) : (cs l)[j]? = some v := by
  simp only [cs, List.getElem?_map, List.getElem?_take] at h ⊢
  by_cases hj : j < n
  · simpa [hj] using h
  · simp [hj] at h

/-- What a copy of so many bytes leaves. -/
structure Copied (w w' : World) (g off n : Nat) (vs : List Value) (l : List UInt8) (t : TypeId) : Prop where
  blk : Blk w' g (vs.take off ++ cs (l.take n) ++ vs.drop (off + n)) t
  by_ : w.grownBy w' (some g)
  size : w'.heap.size = w.heap.size

theorem Copied.other {w w' : World} {g off n : Nat} {vs : List Value} {l : List UInt8} {t : TypeId} (h : Copied w w' g off n vs l t) {k : Nat} {us : List Value} {u : TypeId} (b : Blk w k us u) (hk : k ≠ g) : Blk w' k us u := by
  unfold Blk
  rw [h.by_.block k b.lt (by simpa using hk)]
  exact b
theorem Copied.below {w w' : World} {g off n : Nat} {vs : List Value} {l : List UInt8} {t : TypeId} (h : Copied w w' g off n vs l t) {B : Nat} {a : World} (hb : Below B a w) (hg : B ≤ g) (hB : B ≤ w.heap.size) : Below B a w' :=
  hb.grown h.by_ hB (fun k hk => by simp at hk; omega)

end Go.Proofs.YtlenmkhmkommcaaGreat

/-
  The builtin copy of bytes into a block that is known whole, as an operation of its own. No condition; no statement of the seat is proved here.
-/
namespace Go.Proofs.YtlenmkhmkommcaaGreat
open Go.RowKit

/-- Looks whether the next operation is a copy: for 'with_reducible refine' ahead of the law below. -/
theorem at_cp {args : Array Operand} {tys : Array TypeId} {ops : Array Oper} {rest : List Oper} {a : Act} {w : World} {Q : Exit → Act → World → Prop} {dst : Option Tmp} {tp : TypeId} {pos : String} {aft : Array Edge}
    (h : wpList Tryz.prog ops Q ({ dst := dst, op := .call { callee := .builtin .copy, args := args, argTypes := tys }, type := tp, pos := pos, after := aft, guard := none } :: rest) a w) : wpList Tryz.prog ops Q ({ dst := dst, op := .call { callee := .builtin .copy, args := args, argTypes := tys }, type := tp, pos := pos, after := aft, guard := none } :: rest) a w := h
end Go.Proofs.YtlenmkhmkommcaaGreat

/-
  The contract of the program's Get: the number of a row of bytes, the highest first, of the last eight. No condition.
-/
namespace Go.Proofs.YtlenmkhmkommcaaGreat
open Go.RowKit

set_option maxHeartbeats 400000 in
theorem oGet (w : World) {a : Option Addr} {n c : Nat} {l : List UInt8} (ha : Bs w a n c l) :
    Calls Tryz.prog 94 #[.slice a n c] w fun e w' => e = .returned (.int .u64 (getN l)) ∧ w = w' := by
  have h1 := ha.max
  by_cases h0 : n = 0
  · subst h0
    have e : l = [] := List.length_eq_zero_iff.1 ha.len
    subst e
    clear ha
    go_enter Tryz.func94, Tryz.ntmps94
    go_wp2
    refine wp_loop_rounds 1 ?_; rw [rounds_succ]; go_wp2
    go_ret
    exact ⟨rfl, rfl⟩
  · obtain ⟨x, o, rfl, hx, hc⟩ := ha.at (by omega)
    have H : Hid (l.length = n) := ha.len
    clear ha
    go_enter Tryz.func94, Tryz.ntmps94
    go_wp2
    go_loop [3, 8] (fun t i => ∃ k : Nat, k ≤ n ∧ i = .int .i64 k ∧ t = .int .u64 (getN (l.take k))) (fun _ i => n - (intOf i).toNat)
    case atStart => exact ⟨0, Nat.zero_le _, rfl, rfl⟩
    case round =>
      obtain ⟨k, hk, rfl, rfl⟩ := hrel
      by_cases hlt : k < n
      · have c1 := hc k hlt
        have b1 := bt_lo l k
        have b2 := bt_hi l k
        clear hc
        go_wp2
        go_round
        case rel => exact ⟨k + 1, by omega, by go_num, by rw [get_step_or (by rw [H.out]; exact hlt)]⟩
        case measure => simp [intOf]; omega
      · go_wp2
        go_ret
        exact ⟨ret_int (get_end H hlt), rfl⟩
end Go.Proofs.YtlenmkhmkommcaaGreat

/-
  The contracts of the program's From and Bytes: an element of bytes, and its bytes. No condition.
-/
namespace Go.Proofs.YtlenmkhmkommcaaGreat
open Go.RowKit

/-- Sixteen bytes of any: more count for nothing, noughts stand behind fewer. -/
def pad16 (l : List UInt8) : List UInt8 := l.take 16 ++ List.replicate (16 - min l.length 16) 0
/-- The cells of an element. -/
def ec (a : Fe) : List Value := [.int .u64 (hN a : Int), .int .u64 (lN a : Int)]
/-- Two rows, one behind the other. -/
theorem oJoin2 (w : World) {a1 a2 : Option Addr} {n1 c1 n2 c2 : Nat} {l1 l2 : List UInt8} (h1 : Bs w a1 n1 c1 l1) (h2 : Bs w a2 n2 c2 l2) (hz : n1 + n2 ≤ 99000) :
    Calls Tryz.prog 67 #[.slice (some ⟨w.heap.size, 0, none⟩) 2 2] (w.alloc (.cells #[.slice a1 n1 c1, .slice a2 n2 c2] 26)) fun e w' =>
      ∃ a m c, e = .returned (.slice a m c) ∧ Own w' w.heap.size (.slice a m c) (l1 ++ l2) ∧ Below w.heap.size w w' := by
  have := oJoin _ (Bss.two h1 h2) (by have := h1.len; have := h2.len; simp [tot]; omega)
  refine this.mono ?_
  rintro e w' ⟨a, m, c, rfl, ho, hb⟩
  rw [show [l1, l2].flatten = l1 ++ l2 from by simp] at ho
  exact ⟨a, m, c, rfl, ho.mono (by simp), (below_alloc _ _).trans (hb.mono (by simp))⟩

end Go.Proofs.YtlenmkhmkommcaaGreat

/-
  Variables of elements in a region that draws its order: made, and written. No condition; no statement of the seat is proved here.
-/
namespace Go.Proofs.YtlenmkhmkommcaaGreat
open Go.RowKit

abbrev z2 : Array Value := #[.int .u64 0, .int .u64 0]
end Go.Proofs.YtlenmkhmkommcaaGreat
