/-
  8 texts in one. No statement of the seat is proved here.
-/
import Derived.Test.YtnmmopneacdgfaaI2
import Derived.Deep.RegionLaw
import Derived.BigRegion
import Derived.Laws.BytesArg
import Derived.Laws.IdiomStrings
/-
  The contract of the program's Same. No condition.
-/
namespace Go.Proofs.Ytnmmopneacdgfaa
open Go.RowKit

end Go.Proofs.Ytnmmopneacdgfaa

/-
  The contract of the reference's Xor. Condition: rows of at most 1000000 bytes.
-/
namespace Go.Proofs.Ytnmmopneacdgfaa
open Go.RowKit

end Go.Proofs.Ytnmmopneacdgfaa

/-
  What layer 1's laws ask of Same and Xor, together. No condition; no statement of the seat is proved here.
-/
namespace Go.Proofs.Ytnmmopneacdgfaa

end Go.Proofs.Ytnmmopneacdgfaa

/-
  'string(b)' of bytes of the call's own. No condition; no statement of the seat is proved here.
-/
namespace Go.Proofs.Ytnmmopneacdgfaa
open Go.RowKit

theorem Own.shape {w : World} {base : Nat} {v : Value} {l : List UInt8} (h : Own w base v l) : ∃ a m c, v = .slice a m c ∧ (a = none ∨ ∃ g, a = some ⟨g, 0, none⟩) := by
  obtain ⟨_, h2⟩ := h
  rcases h2 with ⟨rfl, _⟩ | ⟨g, cap, cur, rfl, _⟩
  · exact ⟨none, 0, 0, rfl, Or.inl rfl⟩
  · exact ⟨_, _, cap, rfl, Or.inr ⟨g, rfl⟩⟩

/-- 'string(b)' of bytes of the call's own. -/
theorem Own.str {w : World} {base : Nat} {a : Option Addr} {m c : Nat} {l : List UInt8} (h : Own w base (.slice a m c) l) : Sem.run Try.prog (convert 26 9 (.slice a m c)) w = .ok (.string ⟨l.toArray⟩) w := by
  have hb := h.toBs
  obtain ⟨a', m', c', e, hs⟩ := h.shape
  simp only [Value.slice.injEq] at e
  obtain ⟨rfl, rfl, rfl⟩ := e
  rcases hs with rfl | ⟨g, rfl⟩
  · have hc := hb.2.2.2.1 rfl
    have hcap := hb.cap
    have e : l = [] := List.length_eq_zero_iff.1 (by rw [hb.len]; omega)
    subst e
    rw [run_convert_bytes_nil w 26 5 Try.underlying26 Try.underlying5 m c 9 Try.underlying9]
    rfl
  · rw [run_convert_bytes_arg w 26 5 Try.underlying26 Try.underlying5 g 0 m c (l.map fun x => (x.toNat : Int)) (by simp [hb.len]) ?_ 9 Try.underlying9]
    · have e : strOfNums (l.map fun x => (x.toNat : Int)) = ⟨l.toArray⟩ := by
        unfold strOfNums
        simp [Function.comp_def]
      rw [e]
    · intro i hi
      obtain ⟨b, o, ha, hc⟩ := hb.2.2.2.2 i hi
      simp at ha
      obtain ⟨rfl, rfl⟩ := ha
      rw [hc]
      have hi' : i < l.length := by rw [hb.len]; exact hi
      rw [bt_of_lt hi']
      simp [List.getD_eq_getElem?_getD, hi']
end Go.Proofs.Ytnmmopneacdgfaa

/-
  The contract of the program's Hex: two digits of sixteen of each byte. Condition: a row of at most 1000000 bytes.
-/
namespace Go.Proofs.Ytnmmopneacdgfaa
open Go.RowKit

def digs : List UInt8 := [48, 49, 50, 51, 52, 53, 54, 55, 56, 57, 97, 98, 99, 100, 101, 102]
def hex2 (x : UInt8) : List UInt8 := [digs.getD (x.toNat / 16) 0, digs.getD (x.toNat % 16) 0]
def hexL (l : List UInt8) : List UInt8 := l.flatMap hex2

abbrev dg (i : Nat) (h : i < 16) : UInt8 := (⟨#[48, 49, 50, 51, 52, 53, 54, 55, 56, 57, 97, 98, 99, 100, 101, 102]⟩ : ByteArray)[i]'h
end Go.Proofs.Ytnmmopneacdgfaa

/-
  The contracts of both Hexes: two digits of sixteen of each byte. Condition: a row of at most 1000000 bytes.
-/
namespace Go.Proofs.Ytnmmopneacdgfaa
open Go.RowKit

end Go.Proofs.Ytnmmopneacdgfaa

/-
  Slices of bytes that are cut; worlds that differ in one block and in what is new. No condition; no statement of the seat is proved here.
-/
namespace Go.Proofs.Ytnmmopneacdgfaa
open Go.RowKit


theorem sizeOf5 (w : World) : Sem.run Try.prog (sizeOf (Try.prog.elem 26)) w = .ok 1 w := by kernel_rfl
theorem under23 : Try.prog.underlying 26 = some (.slice (Try.prog.elem 26)) := by kernel_rfl

theorem bt_drop (l : List UInt8) (k i : Nat) : bt (l.drop k) i = bt l (k + i) := by
  unfold bt
  simp [List.getD_eq_getElem?_getD]
theorem bt_take {l : List UInt8} {k i : Nat} (h : i < k) : bt (l.take k) i = bt l i := by
  unfold bt
  simp [List.getD_eq_getElem?_getD, h]

/-- 'b[k:]' -/
theorem Bs.cutLow {w0 : World} {a : Option Addr} {n c : Nat} {l : List UInt8} (h : Bs w0 a n c l) (k : Nat) (hk : k ≤ n) :
    ∃ a' c', (∀ w, Sem.run Try.prog (Instr.slice 26 (.slice a n c) (some (.int .i64 k)) none none) w = .ok (.slice a' (n - k) c') w) ∧
      (∀ w, Bs w a n c l → Bs w a' (n - k) c' (l.drop k)) ∧ ∀ x, a' = some x → ∃ y, a = some y ∧ x.block = y.block := by
  have hcap := h.cap
  refine ⟨if c = k then a else a.map (fun x => x.add (k * 1)), c - k, ?_, ?_, ?_⟩
  · intro w
    rw [run_slice_l w 26 a n c under23 .i64 (k : Int) (by omega) (by omega), sizeOf5]
    simp only [Result.andThen, sliced, Int.toNat_natCast]
  · intro w hb
    refine ⟨by simp [hb.len], by omega, Nat.le_trans (Nat.sub_le _ _) hb.2.2.1, ?_, ?_⟩
    · intro he
      by_cases hck : c = k
      · omega
      · rw [if_neg hck] at he
        simp at he
        have := hb.2.2.2.1 he
        omega
    · intro i hi
      obtain ⟨b, o, ha, hc⟩ := hb.2.2.2.2 (k + i) (by omega)
      subst ha
      refine ⟨b, o + k, ?_, ?_⟩
      · rw [if_neg (by omega)]
        simp only [Option.map_some, Nat.mul_one]
        unfold Addr.add
        split
        · subst_vars; rfl
        · rfl
      · rw [bt_drop, show o + k + i = o + (k + i) from by omega]
        exact hc
  · intro x hx
    by_cases hck : c = k
    · rw [if_pos hck] at hx
      exact ⟨x, hx, rfl⟩
    · rw [if_neg hck] at hx
      cases a with
      | none => simp at hx
      | some y =>
        simp at hx
        refine ⟨y, rfl, ?_⟩
        rw [← hx]
        unfold Addr.add
        split <;> rfl

/-- 'b[:k]' -/
theorem Bs.cutHigh {w0 : World} {a : Option Addr} {n c : Nat} {l : List UInt8} (h : Bs w0 a n c l) (k : Nat) (hk : k ≤ n) :
    (∀ w, Sem.run Try.prog (Instr.slice 26 (.slice a n c) none (some (.int .i64 k)) none) w = .ok (.slice a k c) w) ∧ ∀ w, Bs w a n c l → Bs w a k c (l.take k) := by
  have hcap := h.cap
  constructor
  · intro w
    rw [run_slice_h w 26 a n c under23 .i64 (k : Int) (by omega) (by omega), sizeOf5]
    simp only [Result.andThen, sliced, Int.toNat_natCast, Nat.sub_zero]
    by_cases hc : c = 0
    · rw [if_pos hc]
    · rw [if_neg hc]
      cases a with
      | none => rfl
      | some y => simp [Addr.add]
  · intro w hb
    refine ⟨by simp [hb.len]; omega, by omega, hb.2.2.1, hb.2.2.2.1, fun i hi => ?_⟩
    obtain ⟨b, o, ha, hc⟩ := hb.2.2.2.2 i (by omega)
    exact ⟨b, o, ha, by rw [bt_take hi]; exact hc⟩

/-- 'b[i:j]' -/
theorem Bs.cut2 {w0 : World} {a : Option Addr} {n c : Nat} {l : List UInt8} (h : Bs w0 a n c l) (i j : Nat) (hij : i ≤ j) (hj : j ≤ n) :
    ∃ a' c', (∀ w, Sem.run Try.prog (Instr.slice 26 (.slice a n c) (some (.int .i64 (i : Int))) (some (.int .i64 (j : Int))) none) w = .ok (.slice a' (j - i) c') w) ∧
      (∀ w, Bs w a n c l → Bs w a' (j - i) c' ((l.drop i).take (j - i))) := by
  have hcap := h.cap
  refine ⟨if c = i then a else a.map (fun x => x.add (i * 1)), c - i, ?_, ?_⟩
  · intro w
    rw [run_slice_lh w 26 a n c under23 .i64 .i64 (i : Int) (j : Int) (by omega) (by omega) (by omega), sizeOf5]
    simp only [Result.andThen, sliced, Int.toNat_natCast]
  · intro w hb
    refine ⟨by simp [hb.len]; omega, by omega, Nat.le_trans (Nat.sub_le _ _) hb.2.2.1, ?_, ?_⟩
    · intro he
      by_cases hck : c = i
      · omega
      · rw [if_neg hck] at he
        simp at he
        have := hb.2.2.2.1 he
        omega
    · intro k hk
      obtain ⟨b, o, ha, hc⟩ := hb.2.2.2.2 (i + k) (by omega)
      subst ha
      refine ⟨b, o + i, ?_, ?_⟩
      · rw [if_neg (by omega)]
        simp only [Option.map_some, Nat.mul_one]
        unfold Addr.add
        split
        · subst_vars; rfl
        · rfl
      · rw [bt_take hk, bt_drop, show o + i + k = o + (i + k) from by omega]
        exact hc


theorem Bs.but {w w' : World} {r : Nat} {a : Option Addr} {n c : Nat} {l : List UInt8} (h : Bs w a n c l) (hg : w.grownBy w' (some r)) (hr : ∀ x, a = some x → x.block ≠ r) : Bs w' a n c l := by
  refine ⟨h.1, h.2.1, h.2.2.1, h.2.2.2.1, fun i hi => ?_⟩
  obtain ⟨b, o, ha, hc⟩ := h.2.2.2.2 i hi
  exact ⟨b, o, ha, hg.cell hc (by have := hr _ ha; simpa using this)⟩

end Go.Proofs.Ytnmmopneacdgfaa

/-
  Slices of bytes that are cut, and what a reader of bytes holds in memory. No condition; no statement of the seat is proved here.
-/
namespace Go.Proofs.Ytnmmopneacdgfaa
open Go.RowKit

/-- A reader: a struct of the bytes left and a code, in block r; its bytes lie elsewhere. -/
def Rd (w : World) (r : Nat) (l : List UInt8) (c : Int) : Prop :=
  ∃ a n q, w.cell? ⟨r, 0, none⟩ = some (.slice a n q) ∧ w.cell? ⟨r, 1, none⟩ = some (.int .i64 c) ∧ w.frozen? ⟨r, 0, none⟩ = false ∧ w.frozen? ⟨r, 1, none⟩ = false ∧ Bs w a n q l ∧ ∀ x, a = some x → x.block < r

theorem Rd.lt {w : World} {r : Nat} {l : List UInt8} {c : Int} (h : Rd w r l c) : r < w.heap.size := by
  obtain ⟨a, n, q, h1, _⟩ := h
  exact lt_of_cell h1

theorem Rd.below {w w' : World} {r : Nat} {l : List UInt8} {c : Int} (h : Rd w r l c) {B : Nat} (hb : Below B w w') (hB : w.heap.size ≤ B) : Rd w' r l c := by
  have hlt := h.lt
  obtain ⟨a, n, q, h1, h2, h3, h4, h5, h6⟩ := h
  refine ⟨a, n, q, ?_, ?_, ?_, ?_, h5.below hb hB, h6⟩
  · rw [hb.cell (p := ⟨r, 0, none⟩) (by simp; omega)]; exact h1
  · rw [hb.cell (p := ⟨r, 1, none⟩) (by simp; omega)]; exact h2
  · rw [hb.frozen (p := ⟨r, 0, none⟩) (by simp; omega)]; exact h3
  · rw [hb.frozen (p := ⟨r, 1, none⟩) (by simp; omega)]; exact h4

theorem cell_set {w : World} {r : Nat} {i j : Nat} {v u : Value} (h : w.cell? ⟨r, j, none⟩ = some u) : (w.setCell ⟨r, i, none⟩ v).cell? ⟨r, j, none⟩ = some (if i = j then v else u) := by
  unfold World.cell? at *
  simp only [World.setCell, Array.getElem?_modify]
  simp at h ⊢
  cases hb : w.heap[r]? with
  | none => rw [hb] at h; simp at h
  | some o =>
    rw [hb] at h
    cases o with
    | cells cs e f =>
      simp at h ⊢
      rw [Array.getElem?_setIfInBounds]
      by_cases e : i = j
      · subst e
        have : i < cs.size := by
          by_cases hi : i < cs.size
          · exact hi
          · rw [Array.getElem?_eq_none (by omega)] at h; simp at h
        simp [this]
      · simp [e, h]
    | _ => simp at h
theorem frozen_set {w : World} {r : Nat} {i j : Nat} {v : Value} (h : w.frozen? ⟨r, j, none⟩ = false) : (w.setCell ⟨r, i, none⟩ v).frozen? ⟨r, j, none⟩ = false := by
  unfold World.frozen? at *
  simp only [World.setCell, Array.getElem?_modify]
  simp at h ⊢
  cases hb : w.heap[r]? with
  | none => simp
  | some o =>
    rw [hb] at h
    cases o with
    | cells cs e f => simpa using h
    | _ => simp

theorem Rd.setCode {w : World} {r : Nat} {l : List UInt8} {c : Int} (h : Rd w r l c) (d : Int) : Rd (w.setCell ⟨r, 1, none⟩ (.int .i64 d)) r l d := by
  obtain ⟨a, n, q, h1, h2, h3, h4, h5, h6⟩ := h
  refine ⟨a, n, q, ?_, ?_, frozen_set h3, frozen_set h4, h5.but (but_set _ _ _ _) (fun x hx => by have := h6 x hx; omega), h6⟩
  · rw [cell_set h1]; rfl
  · rw [cell_set h2]; rfl
theorem Rd.setRest {w : World} {r : Nat} {l l' : List UInt8} {c : Int} (h : Rd w r l c) {a : Option Addr} {n q : Nat} (hb : Bs w a n q l') (hr : ∀ x, a = some x → x.block < r) : Rd (w.setCell ⟨r, 0, none⟩ (.slice a n q)) r l' c := by
  obtain ⟨a0, n0, q0, h1, h2, h3, h4, h5, h6⟩ := h
  refine ⟨a, n, q, ?_, ?_, frozen_set h3, frozen_set h4, hb.but (but_set _ _ _ _) (fun x hx => by have := hr x hx; omega), hr⟩
  · rw [cell_set h1]; rfl
  · rw [cell_set h2]; rfl
/-- What somebody does in a later block leaves a reader alone. -/
theorem Rd.but {w w' : World} {r X : Nat} {l : List UInt8} {c : Int} (h : Rd w r l c) (hg : w.grownBy w' (some X)) (hX : r < X) : Rd w' r l c := by
  have hlt := h.lt
  obtain ⟨a, n, q, h1, h2, h3, h4, h5, h6⟩ := h
  refine ⟨a, n, q, hg.cell h1 (by simp; omega), hg.cell h2 (by simp; omega), ?_, ?_, h5.but hg (fun x hx => by have := h6 x hx; omega), h6⟩
  · rw [but_frozen hg (p := ⟨r, 0, none⟩) hlt (by simp; omega)]; exact h3
  · rw [but_frozen hg (p := ⟨r, 1, none⟩) hlt (by simp; omega)]; exact h4

/-- A box of two cells. -/
def Bx (w : World) (X : Nat) (u v : Value) : Prop := w.cell? ⟨X, 0, none⟩ = some u ∧ w.cell? ⟨X, 1, none⟩ = some v ∧ w.frozen? ⟨X, 0, none⟩ = false ∧ w.frozen? ⟨X, 1, none⟩ = false
theorem Bx.lt {w : World} {X : Nat} {u v : Value} (h : Bx w X u v) : X < w.heap.size := lt_of_cell h.1
theorem Bx.below {w w' : World} {X : Nat} {u v : Value} (h : Bx w X u v) {B : Nat} (hb : Below B w w') (hB : w.heap.size ≤ B) : Bx w' X u v := by
  have hlt := h.lt
  refine ⟨?_, ?_, ?_, ?_⟩
  · rw [hb.cell (p := ⟨X, 0, none⟩) (by simp; omega)]; exact h.1
  · rw [hb.cell (p := ⟨X, 1, none⟩) (by simp; omega)]; exact h.2.1
  · rw [hb.frozen (p := ⟨X, 0, none⟩) (by simp; omega)]; exact h.2.2.1
  · rw [hb.frozen (p := ⟨X, 1, none⟩) (by simp; omega)]; exact h.2.2.2
theorem Bx.but {w w' : World} {X r : Nat} {u v : Value} (h : Bx w X u v) (hg : w.grownBy w' (some r)) (hr : X ≠ r) : Bx w' X u v := by
  have hlt := h.lt
  refine ⟨hg.cell h.1 (by simpa using hr), hg.cell h.2.1 (by simpa using hr), ?_, ?_⟩
  · rw [but_frozen hg (p := ⟨X, 0, none⟩) hlt hr]; exact h.2.2.1
  · rw [but_frozen hg (p := ⟨X, 1, none⟩) hlt hr]; exact h.2.2.2
theorem Bx.set {w : World} {X : Nat} {u v : Value} (h : Bx w X u v) (u' v' : Value) : Bx ((w.setCell ⟨X, 0, none⟩ u').setCell ⟨X, 1, none⟩ v') X u' v' := by
  have h0 := cell_set (i := 0) (v := u') h.1
  have h1 := cell_set (i := 0) (v := u') h.2.1
  have h2 := cell_set (i := 1) (v := v') h0
  have h3 := cell_set (i := 1) (v := v') h1
  exact ⟨by simpa using h2, by simpa using h3, frozen_set (frozen_set h.2.2.1), frozen_set (frozen_set h.2.2.2)⟩
/-- Three numbers in a block. -/
def Ak (w : World) (O : Nat) (x y z : Int) : Prop := w.cell? ⟨O, 0, none⟩ = some (.int .i64 x) ∧ w.cell? ⟨O, 1, none⟩ = some (.int .i64 y) ∧ w.cell? ⟨O, 2, none⟩ = some (.int .i64 z)
theorem Ak.lt {w : World} {X : Nat} {x y z : Int} (h : Ak w X x y z) : X < w.heap.size := lt_of_cell h.1
theorem Ak.below {w w' : World} {X : Nat} {x y z : Int} (h : Ak w X x y z) {B : Nat} (hb : Below B w w') (hB : w.heap.size ≤ B) : Ak w' X x y z := by
  have hlt := h.lt
  refine ⟨?_, ?_, ?_⟩
  · rw [hb.cell (p := ⟨X, 0, none⟩) (by simp; omega)]; exact h.1
  · rw [hb.cell (p := ⟨X, 1, none⟩) (by simp; omega)]; exact h.2.1
  · rw [hb.cell (p := ⟨X, 2, none⟩) (by simp; omega)]; exact h.2.2
theorem Ak.but {w w' : World} {X r : Nat} {x y z : Int} (h : Ak w X x y z) (hg : w.grownBy w' (some r)) (hr : X ≠ r) : Ak w' X x y z :=
  ⟨hg.cell h.1 (by simpa using hr), hg.cell h.2.1 (by simpa using hr), hg.cell h.2.2 (by simpa using hr)⟩

end Go.Proofs.Ytnmmopneacdgfaa
