/-
  8 texts in one. No statement of the seat is proved here.
-/
import Derived.Test.YtlenmkhmkommcaaGreatJ23
import Derived.Laws.BytesArg
import Derived.Laws.IdiomStrings
import Derived.WalkMore
/-
  The contract of the program's Hex: two digits of sixteen of each byte. Condition: a row of at most 1000000 bytes.
-/
namespace Go.Proofs.YtlenmkhmkommcaaGreat
open Go.RowKit

def digs : List UInt8 := [48, 49, 50, 51, 52, 53, 54, 55, 56, 57, 97, 98, 99, 100, 101, 102]
def hex2 (x : UInt8) : List UInt8 := [digs.getD (x.toNat / 16) 0, digs.getD (x.toNat % 16) 0]
def hexL (l : List UInt8) : List UInt8 := l.flatMap hex2

abbrev dg (i : Nat) (h : i < 16) : UInt8 := (⟨#[48, 49, 50, 51, 52, 53, 54, 55, 56, 57, 97, 98, 99, 100, 101, 102]⟩ : ByteArray)[i]'h
end Go.Proofs.YtlenmkhmkommcaaGreat

/-
  The contracts of both Hexes: two digits of sixteen of each byte. Condition: a row of at most 1000000 bytes.
-/
namespace Go.Proofs.YtlenmkhmkommcaaGreat
open Go.RowKit

end Go.Proofs.YtlenmkhmkommcaaGreat

/-
  Slices of bytes that are cut, and what a reader of bytes holds in memory. No condition; no statement of the seat is proved here.
-/
namespace Go.Proofs.YtlenmkhmkommcaaGreat
open Go.RowKit

/-- A reader: a struct of the bytes left and a code, in block r; its bytes lie elsewhere. -/
def Rd (w : World) (r : Nat) (l : List UInt8) (c : Int) : Prop :=
  ∃ a n q, w.cell? ⟨r, 0, none⟩ = some (.slice a n q) ∧ w.cell? ⟨r, 1, none⟩ = some (.int .i64 c) ∧ w.frozen? ⟨r, 0, none⟩ = false ∧ w.frozen? ⟨r, 1, none⟩ = false ∧ Bs w a n q l ∧ ∀ x, a = some x → x.block < r

theorem Rd.lt {w : World} {r : Nat} {l : List UInt8} {c : Int} (h : Rd w r l c) : r < w.heap.size := by
  obtain ⟨a, n, q, h1, _⟩ := h
  exact lt_of_cell h1

theorem Rd.below {w w' : World} {r : Nat} {l : List UInt8} {c : Int} (h : Rd w r l c) {B : Nat} (hb : Below B w w') (hB : w.heap.size ≤ B) : Rd w' r l c := by
  have hlt := h.lt
  obtain ⟨a, n, q, h1, h2, h3, h4, h5, h6⟩ := h
  refine ⟨a, n, q, ?_, ?_, ?_, ?_, h5.below hb hB, h6⟩
  · rw [hb.cell (p := ⟨r, 0, none⟩) (by simp; omega)]; exact h1
  · rw [hb.cell (p := ⟨r, 1, none⟩) (by simp; omega)]; exact h2
  · rw [hb.frozen (p := ⟨r, 0, none⟩) (by simp; omega)]; exact h3
  · rw [hb.frozen (p := ⟨r, 1, none⟩) (by simp; omega)]; exact h4

theorem cell_set {w : World} {r : Nat} {i j : Nat} {v u : Value} (h : w.cell? ⟨r, j, none⟩ = some u) : (w.setCell ⟨r, i, none⟩ v).cell? ⟨r, j, none⟩ = some (if i = j then v else u) := by
  unfold World.cell? at *
  simp only [World.setCell, Array.getElem?_modify]
  simp at h ⊢
  cases hb : w.heap[r]? with
  | none => rw [hb] at h; simp at h
  | some o =>
    rw [hb] at h
    cases o with
    | cells cs e f =>
      simp at h ⊢
      rw [Array.getElem?_setIfInBounds]
      by_cases e : i = j
      · subst e
        have : i < cs.size := by
          by_cases hi : i < cs.size
          · exact hi
          · rw [Array.getElem?_eq_none (by omega)] at h; simp at h
        simp [this]
      · simp [e, h]
    | _ => simp at h
theorem frozen_set {w : World} {r : Nat} {i j : Nat} {v : Value} (h : w.frozen? ⟨r, j, none⟩ = false) : (w.setCell ⟨r, i, none⟩ v).frozen? ⟨r, j, none⟩ = false := by
  unfold World.frozen? at *
  simp only [World.setCell, Array.getElem?_modify]
  simp at h ⊢
  cases hb : w.heap[r]? with
  | none => simp
  | some o =>
    rw [hb] at h
    cases o with
    | cells cs e f => simpa using h
    | _ => simp

/-- What somebody does in a later block leaves a reader alone. -/
theorem Rd.but {w w' : World} {r X : Nat} {l : List UInt8} {c : Int} (h : Rd w r l c) (hg : w.grownBy w' (some X)) (hX : r < X) : Rd w' r l c := by
  have hlt := h.lt
  obtain ⟨a, n, q, h1, h2, h3, h4, h5, h6⟩ := h
  refine ⟨a, n, q, hg.cell h1 (by simp; omega), hg.cell h2 (by simp; omega), ?_, ?_, h5.but hg (fun x hx => by have := h6 x hx; omega), h6⟩
  · rw [but_frozen hg (p := ⟨r, 0, none⟩) hlt (by simp; omega)]; exact h3
  · rw [but_frozen hg (p := ⟨r, 1, none⟩) hlt (by simp; omega)]; exact h4

/-- A box of two cells. -/
def Bx (w : World) (X : Nat) (u v : Value) : Prop := w.cell? ⟨X, 0, none⟩ = some u ∧ w.cell? ⟨X, 1, none⟩ = some v ∧ w.frozen? ⟨X, 0, none⟩ = false ∧ w.frozen? ⟨X, 1, none⟩ = false
theorem Bx.lt {w : World} {X : Nat} {u v : Value} (h : Bx w X u v) : X < w.heap.size := lt_of_cell h.1
theorem Bx.below {w w' : World} {X : Nat} {u v : Value} (h : Bx w X u v) {B : Nat} (hb : Below B w w') (hB : w.heap.size ≤ B) : Bx w' X u v := by
  have hlt := h.lt
  refine ⟨?_, ?_, ?_, ?_⟩
  · rw [hb.cell (p := ⟨X, 0, none⟩) (by simp; omega)]; exact h.1
  · rw [hb.cell (p := ⟨X, 1, none⟩) (by simp; omega)]; exact h.2.1
  · rw [hb.frozen (p := ⟨X, 0, none⟩) (by simp; omega)]; exact h.2.2.1
  · rw [hb.frozen (p := ⟨X, 1, none⟩) (by simp; omega)]; exact h.2.2.2
theorem Bx.but {w w' : World} {X r : Nat} {u v : Value} (h : Bx w X u v) (hg : w.grownBy w' (some r)) (hr : X ≠ r) : Bx w' X u v := by
  have hlt := h.lt
  refine ⟨hg.cell h.1 (by simpa using hr), hg.cell h.2.1 (by simpa using hr), ?_, ?_⟩
  · rw [but_frozen hg (p := ⟨X, 0, none⟩) hlt hr]; exact h.2.2.1
  · rw [but_frozen hg (p := ⟨X, 1, none⟩) hlt hr]; exact h.2.2.2
theorem Bx.set {w : World} {X : Nat} {u v : Value} (h : Bx w X u v) (u' v' : Value) : Bx ((w.setCell ⟨X, 0, none⟩ u').setCell ⟨X, 1, none⟩ v') X u' v' := by
  have h0 := cell_set (i := 0) (v := u') h.1
  have h1 := cell_set (i := 0) (v := u') h.2.1
  have h2 := cell_set (i := 1) (v := v') h0
  have h3 := cell_set (i := 1) (v := v') h1
  exact ⟨by simpa using h2, by simpa using h3, frozen_set (frozen_set h.2.2.1), frozen_set (frozen_set h.2.2.2)⟩
/-- Three numbers in a block. -/
def Ak (w : World) (O : Nat) (x y z : Int) : Prop := w.cell? ⟨O, 0, none⟩ = some (.int .i64 x) ∧ w.cell? ⟨O, 1, none⟩ = some (.int .i64 y) ∧ w.cell? ⟨O, 2, none⟩ = some (.int .i64 z)
theorem Ak.lt {w : World} {X : Nat} {x y z : Int} (h : Ak w X x y z) : X < w.heap.size := lt_of_cell h.1
theorem Ak.below {w w' : World} {X : Nat} {x y z : Int} (h : Ak w X x y z) {B : Nat} (hb : Below B w w') (hB : w.heap.size ≤ B) : Ak w' X x y z := by
  have hlt := h.lt
  refine ⟨?_, ?_, ?_⟩
  · rw [hb.cell (p := ⟨X, 0, none⟩) (by simp; omega)]; exact h.1
  · rw [hb.cell (p := ⟨X, 1, none⟩) (by simp; omega)]; exact h.2.1
  · rw [hb.cell (p := ⟨X, 2, none⟩) (by simp; omega)]; exact h.2.2
theorem Ak.but {w w' : World} {X r : Nat} {x y z : Int} (h : Ak w X x y z) (hg : w.grownBy w' (some r)) (hr : X ≠ r) : Ak w' X x y z :=
  ⟨hg.cell h.1 (by simpa using hr), hg.cell h.2.1 (by simpa using hr), hg.cell h.2.2 (by simpa using hr)⟩

end Go.Proofs.YtlenmkhmkommcaaGreat

/-
  The contract of the reference's Get: the number of a row of bytes, the highest first, of the last eight. No condition.
-/
namespace Go.Proofs.YtlenmkhmkommcaaGreat
open Go.RowKit

set_option maxHeartbeats 400000 in
theorem rGet (w : World) {a : Option Addr} {n c : Nat} {l : List UInt8} (ha : Bs w a n c l) :
    Calls Tryz.prog 64 #[.slice a n c] w fun e w' => e = .returned (.int .u64 (getN l)) ∧ w = w' := by
  have h1 := ha.max
  by_cases h0 : n = 0
  · subst h0
    have e : l = [] := List.length_eq_zero_iff.1 ha.len
    subst e
    clear ha
    go_enter Tryz.func64, Tryz.ntmps64
    go_wp2
    refine wp_loop_rounds 1 ?_; rw [rounds_succ]; go_wp2
    go_ret
    exact ⟨rfl, rfl⟩
  · obtain ⟨x, o, rfl, hx, hc⟩ := ha.at (by omega)
    have H : Hid (l.length = n) := ha.len
    clear ha
    go_enter Tryz.func64, Tryz.ntmps64
    go_wp2
    go_loop [3, 4] (fun t i => ∃ k : Nat, k ≤ n ∧ i = .int .i64 k ∧ t = .int .u64 (getN (l.take k))) (fun _ i => n - (intOf i).toNat)
    case atStart => exact ⟨0, Nat.zero_le _, rfl, rfl⟩
    case round =>
      obtain ⟨k, hk, rfl, rfl⟩ := hrel
      by_cases hlt : k < n
      · have c1 := hc k hlt
        have b1 := bt_lo l k
        have b2 := bt_hi l k
        clear hc
        go_wp2
        go_round
        case rel => exact ⟨k + 1, by omega, by go_num, by rw [get_step (by rw [H.out]; exact hlt)]⟩
        case measure => simp [intOf]; omega
      · go_wp2
        go_ret
        exact ⟨ret_int (get_end H hlt), rfl⟩

end Go.Proofs.YtlenmkhmkommcaaGreat

/-
  The contracts of the program's reader: Read, Bytes, Number, Text, Fail, Left, Code, End. Condition: at most 100000 bytes.
-/
namespace Go.Proofs.YtlenmkhmkommcaaGreat
open Go.RowKit

/-- What is left and the code behind a read of n bytes, and what was read. -/
def rdBytes (l : List UInt8) (c n : Int) : List UInt8 × Int × List UInt8 :=
  if c ≠ 0 then (l, c, []) else if n < 0 ∨ (l.length : Int) < n then (l, 3, []) else (l.drop n.toNat, 0, l.take n.toNat)

/-- .. behind a read of a text. -/
def rdText (l : List UInt8) (c size most : Int) : List UInt8 × Int × List UInt8 :=
  let s := rdBytes l c size
  if max most 0 < (getN s.2.2 : Int) then (s.1, if s.2.1 = 0 then 4 else s.2.1, []) else rdBytes s.1 s.2.1 (getN s.2.2)

/-- What a call that reads leaves: bytes in new memory, the reader turned, all else as it was. -/
def Reads (w : World) (r : Nat) (s : List UInt8 × Int × List UInt8) (e : Ending) (w' : World) : Prop :=
  ∃ a m q, e = .returned (.slice a m q) ∧ Own w' w.heap.size (.slice a m q) s.2.2 ∧ Rd w' r s.1 s.2.1 ∧ w.grownBy w' (some r)

set_option maxHeartbeats 400000 in
theorem oLeft (w : World) (r : Nat) {l : List UInt8} {c : Int} (h : Rd w r l c) :
    Calls Tryz.prog 96 #[.pointer (some ⟨r, 0, none⟩)] w fun e w' => e = .returned (.int .i64 (l.length : Nat)) ∧ w' = w := by
  obtain ⟨a, n, q, h1, h2, h3, h4, h5, h6⟩ := h
  rw [h5.len]
  clear h5
  go_enter Tryz.func96, Tryz.ntmps96
  go_wp2
  go_ret
  exact ⟨rfl, rfl⟩

/-- A slice of one slice of bytes, as it stands in a call with one part. -/
theorem Bss.one {w : World} {a : Option Addr} {n c : Nat} {l : List UInt8} (h : Bs w a n c l) : Bss (w.alloc (.cells #[.slice a n c] 26)) (some ⟨w.heap.size, 0, none⟩) 1 1 [l] := by
  refine ⟨rfl, Nat.le_refl _, by unfold maxLen; omega, fun i hi => ?_⟩
  obtain rfl : i = 0 := by omega
  refine ⟨w.heap.size, 0, a, n, c, rfl, ?_, h.below (below_alloc _ _) (Nat.le_refl _)⟩
  simp

theorem free_new (w : World) (arr : Array Value) (t : TypeId) (i : Nat) : (w.alloc (.cells arr t)).frozen? ⟨w.heap.size, i, none⟩ = false := by
  unfold World.frozen?
  rw [show (w.alloc (.cells arr t)).heap[w.heap.size]? = some (.cells arr t) from by show (w.heap.push _)[w.heap.size]? = _; simp]
  simp
theorem Rd.new {w : World} {base : Nat} {a : Option Addr} {m c : Nat} {l : List UInt8} (h : Own w base (.slice a m c) l) (t : TypeId) : Rd (w.alloc (.cells #[.slice a m c, .int .i64 0] t)) w.heap.size l 0 := by
  refine ⟨a, m, c, by simp, by simp, free_new _ _ _ _, free_new _ _ _ _, h.toBs.below (below_alloc _ _) (Nat.le_refl _), ?_⟩
  intro x hx
  subst hx
  have := (World.ownsRow.lt h x.block rfl).2
  omega
theorem own_flat {w : World} {base : Nat} {v : Value} {l : List UInt8} (h : Own w base v [l].flatten) : Own w base v l := by simpa using h

end Go.Proofs.YtlenmkhmkommcaaGreat

/-
  The program's reader, and where its bytes lie ('RdP'): Read, Number. Condition: at most a thousand bytes.
-/
namespace Go.Proofs.YtlenmkhmkommcaaGreat
open Go.RowKit
set_option linter.unusedVariables false

/-- A reader without an error in block r, that has l left; it and its bytes lie in A. -/
def RdP (A : Nat → Prop) (w : World) (r : Nat) (l : List UInt8) : Prop :=
  A r ∧ ∃ a n q, w.cell? ⟨r, 0, none⟩ = some (.slice a n q) ∧ w.cell? ⟨r, 1, none⟩ = some (.int .i64 0) ∧ w.frozen? ⟨r, 0, none⟩ = false ∧ w.frozen? ⟨r, 1, none⟩ = false ∧ Bs w a n q l ∧ ∀ x, a = some x → x.block < r ∧ A x.block
theorem RdP.rd {A : Nat → Prop} {w : World} {r : Nat} {l : List UInt8} (h : RdP A w r l) : Rd w r l 0 := by
  obtain ⟨_, a, n, q, h1, h2, h3, h4, h5, h6⟩ := h
  exact ⟨a, n, q, h1, h2, h3, h4, h5, fun x hx => (h6 x hx).1⟩
theorem RdP.lt {A : Nat → Prop} {w : World} {r : Nat} {l : List UInt8} (h : RdP A w r l) : r < w.heap.size := h.rd.lt
theorem frozen_same {w w' : World} {p : Addr} (h : w'.heap[p.block]? = w.heap[p.block]?) : w'.frozen? p = w.frozen? p := by
  unfold World.frozen?
  rw [h]
theorem RdP.keep {A : Nat → Prop} {w w' : World} {r : Nat} {l : List UInt8} (h : RdP A w r l) (hs : w.heap.size ≤ w'.heap.size) (hk : ∀ j, j < w.heap.size → A j → w'.heap[j]? = w.heap[j]?) : RdP A w' r l := by
  have hlt := h.lt
  obtain ⟨h0, a, n, q, h1, h2, h3, h4, h5, h6⟩ := h
  have hr := hk r hlt h0
  have hb : BA A w a n q l := ⟨h5, fun hm => by
    obtain ⟨x, o, ha, hlx, _⟩ := h5.at hm
    exact ⟨_, ha, (h6 _ ha).2, hlx⟩⟩
  refine ⟨h0, a, n, q, ?_, ?_, ?_, ?_, (hb.keep hs hk).1, h6⟩
  · rw [World.cell?_of_block (w := w) hr]; exact h1
  · rw [World.cell?_of_block (w := w) hr]; exact h2
  · rw [frozen_same hr]; exact h3
  · rw [frozen_same hr]; exact h4
theorem RdP.grow {A : Nat → Prop} {w w' : World} {r : Nat} {l : List UInt8} (h : RdP A w r l) (hb : Below w.heap.size w w') : RdP A w' r l := h.keep hb.size fun j hj _ => hb.block j hj
theorem RdP.mono {A A' : Nat → Prop} {w : World} {r : Nat} {l : List UInt8} (h : RdP A w r l) (hA : ∀ j, j ≤ r → A j → A' j) : RdP A' w r l := by
  obtain ⟨h0, a, n, q, h1, h2, h3, h4, h5, h6⟩ := h
  exact ⟨hA r (Nat.le_refl _) h0, a, n, q, h1, h2, h3, h4, h5, fun x hx => ⟨(h6 x hx).1, hA _ (Nat.le_of_lt (h6 x hx).1) (h6 x hx).2⟩⟩
theorem RdP.keepLe {A : Nat → Prop} {w w' : World} {r : Nat} {l : List UInt8} (h : RdP A w r l) (hs : w.heap.size ≤ w'.heap.size) (hk : ∀ j, j < w.heap.size → j ≤ r → w'.heap[j]? = w.heap[j]?) : RdP A w' r l :=
  ((h.mono (A' := fun j => A j ∧ j ≤ r) fun j hj ha => ⟨ha, hj⟩).keep hs fun j hj ha => hk j hj ha.2).mono fun j _ ha => ha.1
/-- Behind a call of an object that has none of it. -/
theorem RdP.after {U U' F : Nat → Prop} {w w' : World} {r : Nat} {l : List UInt8} (h : RdP (fun j => ¬ U j) w r l) (k : Kp F w w') (hF : ∀ j, F j → U j) (n : Next w U U') : RdP (fun j => ¬ U' j) w' r l := by
  have hlt := h.lt
  refine (h.keep k.size fun j hj ha => k.block j hj fun hf => ha (hF j hf)).mono fun j hj ha hu => ?_
  rcases n j hu with h1 | h1
  · exact ha h1
  · omega
set_option maxHeartbeats 400000 in
theorem oReadP (w : World) {a : Option Addr} {n c : Nat} {l : List UInt8} (h : Bs w a n c l) (hz : n ≤ 1000) :
    Calls Tryz.prog 59 #[.slice a n c] w fun e w' => ∃ r, e = .returned (.pointer (some ⟨r, 0, none⟩)) ∧ RdP (fun j => w.heap.size ≤ j) w' r l ∧ Below w.heap.size w w' := by
  have hJ := oJoin _ (Bss.one h) (by simp [tot, h.len]; omega)
  have HJ : Hid (Calls Tryz.prog 67 #[.slice (some ⟨w.heap.size, 0, none⟩) 1 1] (w.alloc (.cells #[.slice a n c] 26)) (Gives (w.alloc (.cells #[.slice a n c] 26)) [l].flatten)) := hJ
  clear hJ h
  go_enter Tryz.func59, Tryz.ntmps59
  go_wp2_with (go_at_call 67; refine HJ.out.mono ?_; rintro e w1 ⟨a1, m1, c1, rfl, ho1, hb1⟩)
  go_ret
  have o1 := own_flat ho1
  have hs1 : w.heap.size ≤ w1.heap.size := Nat.le_trans (by simp) hb1.size
  refine ⟨w1.heap.size, rfl, ⟨hs1, a1, m1, c1, ?_, ?_, free_new _ _ _ _, free_new _ _ _ _, o1.toBs.below (below_alloc _ _) (Nat.le_refl _), fun x hx => ?_⟩, ((below_alloc _ _).trans (hb1.mono (by simp))).alloc hs1 _⟩
  · rw [cell_new]; rfl
  · rw [cell_new]; rfl
  · subst hx
    have := World.ownsRow.lt o1 x.block rfl
    rw [show (w.alloc (.cells #[.slice a n c] 26)).heap.size = w.heap.size + 1 from by simp] at this
    exact ⟨this.2, by omega⟩
/-- What a call that reads leaves. -/
def ReadsP (A : Nat → Prop) (w : World) (r : Nat) (l m : List UInt8) (e : Ending) (w' : World) : Prop :=
  ∃ a n q, e = .returned (.slice a n q) ∧ Own w' w.heap.size (.slice a n q) m ∧ RdP A w' r l ∧ w.grownBy w' (some r)
set_option maxHeartbeats 1000000 in
theorem oBytesP (w : World) {A : Nat → Prop} (r : Nat) {l : List UInt8} (h : RdP A w r l) (k : Nat) (hk : k ≤ l.length) (hz : l.length ≤ 1000) :
    Calls Tryz.prog 95 #[.pointer (some ⟨r, 0, none⟩), .int .i64 (k : Int)] w (ReadsP A w r (l.drop k) (l.take k)) := by
  have h' := h
  obtain ⟨h0, a, m, q, h1, h2, h3, h4, h5, h6⟩ := h
  have hl := h5.len
  have hk2 : k ≤ m := by omega
  obtain ⟨s1, s2⟩ := h5.cutHigh k hk2
  obtain ⟨a2, q2, t1, t2, t3⟩ := h5.cutLow k hk2
  have hJ := oJoin _ (Bss.one (s2 w h5)) (by simp [tot]; omega)
  have HJ : Hid (Calls Tryz.prog 67 #[.slice (some ⟨w.heap.size, 0, none⟩) 1 1] (w.alloc (.cells #[.slice a k q] 26)) (Gives (w.alloc (.cells #[.slice a k q] 26)) [l.take k].flatten)) := hJ
  have T2 : Hid (∀ w, Bs w a m q l → Bs w a2 (m - k) q2 (l.drop k)) := t2
  have T3 : Hid (∀ x, a2 = some x → ∃ y, a = some y ∧ x.block = y.block) := t3
  have hW : Hid (∀ w1, Below (w.alloc (.cells #[.slice a k q] 26)).heap.size (w.alloc (.cells #[.slice a k q] 26)) w1 → Below w.heap.size w w1) := fun w1 hb1 => (below_alloc _ _).trans (hb1.mono (by simp))
  have i0 : ¬ (k : Int) < 0 := by omega
  have i1 : ¬ (m : Int) < k := by omega
  have hlt := h'.lt
  have H' : Hid (Rd w r l 0) := h'.rd
  have H5 : Hid (Bs w a m q l) := h5
  have H6 : Hid (∀ x, a = some x → x.block < r ∧ A x.block) := h6
  have H0 : Hid (A r) := h0
  clear hJ t2 t3 s2 h5 h' hl h0 h6 hk
  go_enter Tryz.func95, Tryz.ntmps95
  go_wp2_with (go_at_call 67; refine HJ.out.mono ?_; rintro e w1 ⟨a1, m1, c1, rfl, ho1, hb1⟩; have g0 := (hW.out w1 hb1).cell (p := ⟨r, 0, none⟩) hlt; have g1 := (hW.out w1 hb1).frozen (p := ⟨r, 0, none⟩) hlt; rw [h1] at g0; rw [h3] at g1)
  go_ret
  have hb := hW.out w1 hb1
  have b5 := T2.out w1 (H5.out.below hb (Nat.le_refl _))
  have hA : ∀ x, a2 = some x → x.block < r ∧ A x.block := fun x hx => by
    obtain ⟨y, hy, e⟩ := T3.out x hx
    rw [e]
    exact H6.out y hy
  obtain ⟨_, _, _, f1, f2, f3, f4, _, _⟩ := H'.out.below hb (Nat.le_refl _)
  refine ⟨a1, m1, c1, rfl, ownsRow_setCell_below ((own_flat ho1).mono (by simp)) (by simpa using hlt) _, ⟨H0.out, a2, m - k, q2, ?_, ?_, frozen_set f3, frozen_set f4, b5.but (but_set _ _ _ _) (fun x hx => by have := (hA x hx).1; omega), hA⟩, but_trans (but_of_below hb) (but_set _ _ _ _)⟩
  · rw [cell_set f1]; rfl
  · rw [cell_set f2]; rfl
set_option maxHeartbeats 400000 in
theorem oNumP (w : World) {A : Nat → Prop} (r : Nat) {l : List UInt8} (h : RdP A w r l) (k : Nat) (hk : k ≤ l.length) (hz : l.length ≤ 1000) :
    Calls Tryz.prog 60 #[.pointer (some ⟨r, 0, none⟩), .int .i64 (k : Int)] w fun e w' => e = .returned (.int .u64 (getN (l.take k) : Nat)) ∧ RdP A w' r (l.drop k) ∧ w.grownBy w' (some r) := by
  have hB : Hid (Calls Tryz.prog 95 #[.pointer (some ⟨r, 0, none⟩), .int .i64 (k : Int)] w (ReadsP A w r (l.drop k) (l.take k))) := oBytesP w r h k hk hz
  clear h
  generalize l.drop k = s1 at *
  generalize l.take k = s2 at *
  go_enter Tryz.func60, Tryz.ntmps60
  go_wp2_with (first | (go_at_call 95; refine hB.out.mono ?_; rintro e w1 ⟨a1, m1, c1, rfl, ho1, hr1, hg1⟩) | (go_at_call 94; refine (oGet _ ho1.toBs).mono ?_; rintro e w2 ⟨rfl, rfl⟩))
  go_ret
  exact ⟨rfl, hr1, hg1⟩

end Go.Proofs.YtlenmkhmkommcaaGreat

/-
  The contract of layer 16's program's noted: the blocks behind the head. Conditions: at most 23 pages; a disk that is not too full.
-/
namespace Go.Proofs.YtlenmkhmkommcaaGreat
open Go.RowKit
set_option linter.unusedVariables false

theorem getN_two {l : List UInt8} (h : l.length ≤ 2) : getN l < 65536 := by
  match l, h with
  | [], _ => decide
  | [a], _ =>
    have := a.toNat_lt
    simp only [getN, List.foldl_cons, List.foldl_nil]
    omega
  | [a, b], _ =>
    have := a.toNat_lt
    have := b.toNat_lt
    simp only [getN, List.foldl_cons, List.foldl_nil]
    omega
/-- Where images lie while they are read: in new memory that the disk does not use. -/
abbrev Fr (U : Nat → Prop) (w : World) : Nat → Prop := fun j => ¬ U j ∧ w.heap.size ≤ j
/-- The images ahead of the k-th, in a row of our own. -/
structure NtO (U : Nat → Prop) (w wr : World) (v : Value) (acc : List Chg) : Prop where
  own : OwS (elC (Fr U w)) 2 79 wr w.heap.size v acc
  no : ∀ j, v.ownBlock = some j → ¬ U j
theorem NtO.after {U U' F : Nat → Prop} {w wr w' : World} {v : Value} {acc : List Chg} (h : NtO U w wr v acc) (k : Kp F wr w') (hF : ∀ j, F j → U j) (n : Next wr U U') : NtO U' w w' v acc := by
  refine ⟨h.own.turn (fun x vs hx => ?_) fun j hj => k.block j (h.own.lt j hj).2 fun hf => h.no j hj (hF j hf), fun j hj hu => ?_⟩
  · obtain ⟨p, m, q, e, hb, hi⟩ := hx
    refine ⟨p, m, q, e, ?_, hi⟩
    have h1 : B5 (fun j => Fr U w j ∧ j < wr.heap.size) wr p m q x.2 := hb.mono fun j hj ha => ⟨ha, hj⟩
    refine (h1.kp k fun j hj hf => hj.1.1 (hF j hf)).mono fun j _ hj => ⟨fun hu => ?_, hj.1.2⟩
    rcases n j hu with h2 | h2
    · exact hj.1.1 h2
    · have := hj.2
      omega
  · rcases n j hu with h2 | h2
    · exact h.no j hj h2
    · have := (h.own.lt j hj).2
      omega
theorem NtO.turn {U : Nat → Prop} {w wr w' : World} {v : Value} {acc : List Chg} (h : NtO U w wr v acc) {rr : Nat} (hr : rr < w.heap.size) (g : wr.grownBy w' (some rr)) : NtO U w w' v acc :=
  ⟨h.own.keep (elC.keep fun j hj ha => g.block j hj fun e => by have := Option.some.inj e; have := ha.2; omega) fun j hj => g.block j (h.own.lt j hj).2 fun e => by have := Option.some.inj e; have := (h.own.lt j hj).1; omega, h.no⟩
theorem NtO.grow {U : Nat → Prop} {w wr w' : World} {v : Value} {acc : List Chg} (h : NtO U w wr v acc) (g : Below wr.heap.size wr w') : NtO U w w' v acc := ⟨OwC.below h.own g, h.no⟩
theorem NtO.sl {U : Nat → Prop} {w wr : World} {a : Option Addr} {n c : Nat} {acc : List Chg} (h : NtO U w wr (.slice a n c) acc) : Imgs (Fr U w) wr a n c acc := by
  have hs := h.own.sl3 (A := fun j => w.heap.size ≤ j) fun j hj _ => hj
  obtain ⟨rows, h1, h2, h3, h4, h5, h6⟩ := hs
  refine ⟨rows, h1, h2, h3, h4, h5, fun hn => ?_⟩
  obtain ⟨b, o, ha, hlt, hb, hrg⟩ := h6 hn
  exact ⟨b, o, ha, hlt, ⟨h.no b (by rw [ha]; rfl), hb⟩, hrg⟩
/-- Ahead of the k-th block. -/
def NtI (U F : Nat → Prop) (w : World) (d r : Nat) (D : DskS) (mm rr : Nat) (t : List UInt8) (n k : Nat) (v : Value) (wr : World) : Prop :=
  ∃ U' F' D' acc, Dk U' F' wr d r D' ∧ D'.fit (mm + 3 * k) ∧ Next w U U' ∧ Next w F F' ∧ Kp (fun j => F j ∨ j = rr) w wr ∧ RdP (fun j => ¬ U' j) wr rr (t.drop (2 + 2 * k)) ∧ NtO U' w wr v acc ∧ acc.length = k ∧ readD D 1 [] (pagL t n) = readD D' (k + 1) acc ((pagL t n).drop k)
/-- Behind it, its page still to be read. -/
def NtM (U F : Nat → Prop) (w : World) (d r : Nat) (D : DskS) (mm rr : Nat) (t : List UInt8) (n k : Nat) (v : Value) (p : Option Addr) (m q : Nat) (w3 : World) : Prop :=
  ∃ U' F' D' acc b, Dk U' F' w3 d r D' ∧ D'.fit (mm + 3 * (k + 1)) ∧ Next w U U' ∧ Next w F F' ∧ Kp (fun j => F j ∨ j = rr) w w3 ∧ RdP (fun j => ¬ U' j) w3 rr (t.drop (2 + 2 * k)) ∧ NtO U' w w3 v acc ∧ acc.length = k ∧ B5 (Fr U' w) w3 p m q b ∧ readD D 1 [] (pagL t n) = readD D' (k + 2) (acc ++ [((getN ((t.drop (2 + 2 * k)).take 2) : Int), b)]) ((pagL t n).drop (k + 1))
/-- What noted answers. -/
def NotedP (U F : Nat → Prop) (w : World) (d r rr : Nat) (R : DskS × List Chg × Int) (e : Ending) (w' : World) : Prop :=
  ∃ a m c U' F', e = .returned (.tuple #[.slice a m c, .int .i64 R.2.2]) ∧ Dk U' F' w' d r R.1 ∧ Next w U U' ∧ Next w F F' ∧ Kp (fun j => F j ∨ j = rr) w w' ∧ Imgs (Fr U' w) w' a m c R.2.1
/-- What Read answers. -/
def NtR (U F : Nat → Prop) (w : World) (d r : Nat) (D : DskS) (mm rr : Nat) (t : List UInt8) (n k : Nat) (v : Value) (e : Ending) (w' : World) : Prop :=
  ∃ p m q z, e = .returned (.tuple #[.slice p m q, .int .i64 z]) ∧ ((z = 0 ∧ NtM U F w d r D mm rr t n k v p m q w') ∨ (¬ z = 0 ∧ NotedP U F w d r rr (readD D 1 [] (pagL t n)) (.returned (.tuple #[.slice none 0 0, .int .i64 z])) w'))
theorem Kp.down2 {F F' G : Nat → Prop} {w u w' : World} (h : Kp G w u) (k : Kp F' u w') (n : Next w F F') (hG : ∀ j, F j → G j) : Kp G w w' :=
  ⟨k.os.trans h.os, k.tape.trans h.tape, k.output.trans h.output, Nat.le_trans h.size k.size, fun i hi hn => (k.block i (Nat.lt_of_lt_of_le hi h.size) (fun hf => by rcases n i hf with h1 | h1; exact hn (hG i h1); omega)).trans (h.block i hi hn)⟩
theorem NtI.read {U F : Nat → Prop} {w wr : World} {d r : Nat} {D : DskS} {mm rr : Nat} {t : List UInt8} {n k : Nat} {v : Value} (h : NtI U F w d r D mm rr t n k v wr) (hk : k < n) (hn : n ≤ 23) (hm : mm + 3 * n ≤ 5000) :
    Calls Tryz.prog 56 #[.pointer (some ⟨d, 0, none⟩), .int .i64 ((k : Int) + 1)] wr (NtR U F w d r D mm rr t n k v) := by
  obtain ⟨U', F', D', acc, hd, hf, nU, nF, hk', hr, ho, hl, he⟩ := h
  refine (oDReadB wr hd hf (by omega) ((k : Int) + 1) (by constructor <;> omega)).mono ?_
  rintro e w' ⟨p, m, q, rfl, U2, F2, hd2, nU2, nF2, hk2, hb⟩
  have N1 : Next w U U2 := nU.more nU2 hk'.size
  have N2 : Next w F F2 := nF.more nF2 hk'.size
  have K2 : Kp (fun j => F j ∨ j = rr) w w' := hk'.down2 hk2 nF fun j hj => Or.inl hj
  rw [pagL_drop t hk] at he
  refine ⟨p, m, q, _, rfl, ?_⟩
  have ec : ((k + 1 : Nat) : Int) = (k : Int) + 1 := by omega
  by_cases hz : (D'.read ((k : Int) + 1)).2.2 = 0
  · rw [readD_ok (by rw [ec]; exact hz), ec] at he
    exact Or.inl ⟨hz, U2, F2, _, acc, _, hd2, (hf.a_read _).a_mono (by omega), N1, N2, K2, hr.after hk2 hd.sub nU2, ho.after hk2 hd.sub nU2, hl, hb.mono fun j _ hj => ⟨hj.1, Nat.le_trans hk'.size hj.2⟩, he⟩
  · rw [readD_not (by rw [ec]; exact hz), ec] at he
    refine Or.inr ⟨hz, none, 0, 0, U2, F2, ?_, ?_, N1, N2, K2, ?_⟩
    · rw [he]
    · rw [he]; exact hd2
    · rw [he]; exact Sl.nil _ _ _ _
theorem NtI.left {U F : Nat → Prop} {w wr : World} {d r : Nat} {D : DskS} {mm rr : Nat} {t : List UInt8} {n k : Nat} {v : Value} (h : NtI U F w d r D mm rr t n k v wr) (ht : t.length = 2 + 2 * n) (hk : k ≤ n) : Calls Tryz.prog 96 #[.pointer (some ⟨rr, 0, none⟩)] wr fun e w' => e = .returned (.int .i64 ((2 * (n - k) : Nat) : Int)) ∧ w' = wr := by
  obtain ⟨U', F', D', acc, hd, hf, nU, nF, hk', hr, ho, hl, he⟩ := h
  have := oLeft wr rr hr.rd
  rw [List.length_drop, ht, show 2 + 2 * n - (2 + 2 * k) = 2 * (n - k) from by omega] at this
  exact this
theorem NtI.done {U F : Nat → Prop} {w wr : World} {d r : Nat} {D : DskS} {mm rr : Nat} {t : List UInt8} {n : Nat} {a : Option Addr} {m c : Nat} (h : NtI U F w d r D mm rr t n n (.slice a m c) wr) : NotedP U F w d r rr (readD D 1 [] (pagL t n)) (.returned (.tuple #[.slice a m c, .int .i64 0])) wr := by
  obtain ⟨U', F', D', acc, hd, hf, nU, nF, hk', hr, ho, hl, he⟩ := h
  rw [List.drop_of_length_le (by rw [pagL_length]; exact Nat.le_refl _), readD_nil] at he
  rw [he]
  exact ⟨a, m, c, U', F', rfl, hd, nU, nF, hk', ho.sl⟩
theorem NtI.shape {U F : Nat → Prop} {w wr : World} {d r : Nat} {D : DskS} {mm rr : Nat} {t : List UInt8} {n k : Nat} {v : Value} (h : NtI U F w d r D mm rr t n k v wr) : ∃ a m c, v = .slice a m c := by
  obtain ⟨U', F', D', acc, hd, hf, nU, nF, hk', hr, ho, hl, he⟩ := h
  obtain ⟨a, m, c, hv, _⟩ := ho.own.shape
  exact ⟨a, m, c, hv⟩

set_option maxRecDepth 100000 in
set_option maxHeartbeats 4000000 in
theorem oNoted16 (w : World) {U F : Nat → Prop} {d r : Nat} {D : DskS} (h : Dk U F w d r D) {mm : Nat} (hf : D.fit mm) {rr : Nat} {t : List UInt8} {n : Nat} (hr : RdP (fun j => ¬ U j) w rr (t.drop 2)) (ht : t.length = 2 + 2 * n) (hn : n ≤ 23) (hm : mm + 3 * n ≤ 5000) :
    Calls Tryz.prog 61 #[.pointer (some ⟨d, 0, none⟩), .pointer (some ⟨rr, 0, none⟩)] w (NotedP U F w d r rr (readD D 1 [] (pagL t n))) := by
  have H0 : Hid (NtI U F w d r D mm rr t n 0 (.slice none 0 0) w) := ⟨U, F, D, [], h, hf, Next.refl _ _, Next.refl _ _, Kp.refl _ _, hr, ⟨OwS.nil _ _ _ _ _, fun j hj => by simp [Value.ownBlock] at hj⟩, rfl, rfl⟩
  have HT : Hid (t.length = 2 + 2 * n) := ht
  have HM : Hid (mm + 3 * n ≤ 5000) := hm
  have HRL : Hid (rr < w.heap.size) := hr.lt
  obtain ⟨P, hP⟩ : ∃ P, P = NotedP U F w d r rr (readD D 1 [] (pagL t n)) := ⟨_, rfl⟩
  have HDONE : Hid (∀ a m c wr, NtI U F w d r D mm rr t n n (.slice a m c) wr → P (.returned (.tuple #[.slice a m c, .int .i64 0])) wr) := fun a m c wr hh => by rw [hP]; exact hh.done
  have HRD : Hid (∀ k v wr, NtI U F w d r D mm rr t n k v wr → k < n → Calls Tryz.prog 56 #[.pointer (some ⟨d, 0, none⟩), .int .i64 ((k : Int) + 1)] wr fun e w' => ∃ p m q z, e = .returned (.tuple #[.slice p m q, .int .i64 z]) ∧ ((z = 0 ∧ NtM U F w d r D mm rr t n k v p m q w') ∨ (¬ z = 0 ∧ P (.returned (.tuple #[.slice none 0 0, .int .i64 z])) w'))) := fun k v wr hh hk => by rw [hP]; exact hh.read hk hn hm
  rw [← hP]
  clear hP h hf hr ht hm
  go_enter Tryz.func61, Tryz.ntmps61
  go_wp2_with fail
  go_step3
  go_wp2_with fail
  go_step3
  go_wp2_with fail
  go_loopw [6, 7] (fun out i wr => ∃ (k : Nat) (oa : Option Addr) (on oc : Nat), k ≤ n ∧ i = .int .i64 ((k : Int) + 1) ∧ out = .slice oa on oc ∧ Hid (NtI U F w d r D mm rr t n k (.slice oa on oc) wr)) (fun _ i _ => 24 - (intOf i).toNat)
  case atStart => exact ⟨0, none, 0, 0, Nat.zero_le _, rfl, rfl, H0⟩
  case round =>
    obtain ⟨k, oa, on, oc, hk, rfl, rfl, HK⟩ := hrel
    clear H0
    by_cases h24 : k < 23
    · have j0 : (k : Int) + 1 < 24 := by omega
      by_cases hlt : k < n
      · have j1 : ¬ ((2 * (n - k) : Nat) : Int) = 0 := by omega
        go_wp2_with fail
        refine (HK.out.left HT.out hk).mono ?_
        rintro e w1 ⟨rfl, rfl⟩
        go_wp2_with fail
        refine (HRD.out k _ _ HK.out hlt).mono ?_
        rintro e w3 ⟨p, m, q, z, rfl, hz⟩
        have HZ : Hid ((z = 0 ∧ NtM U F w d r D mm rr t n k (.slice oa on oc) p m q w3) ∨ (¬ z = 0 ∧ P (.returned (.tuple #[.slice none 0 0, .int .i64 z])) w3)) := hz
        clear hz HK
        by_cases z0 : z = 0
        · subst z0
          have HN : Hid (NtM U F w d r D mm rr t n k (.slice oa on oc) p m q w3) := by rcases HZ.out with h | h; exact h.2; exact absurd rfl h.1
          clear HZ HRD HDONE
          obtain ⟨U', F', D', acc, bb, hd, hf, nU, nF, hk', hr, ho, hl, hb5, he⟩ := HN.out
          clear HN
          have hdl : (t.drop (2 + 2 * k)).length = 2 * (n - k) := by rw [List.length_drop, HT.out]; omega
          have hg2 := getN_two (l := (t.drop (2 + 2 * k)).take 2) (by rw [List.length_take]; omega)
          have CN : Hid (Calls Tryz.prog 60 #[.pointer (some ⟨rr, 0, none⟩), .int .i64 2] w3 fun e w' => e = .returned (.int .u64 (getN ((t.drop (2 + 2 * k)).take 2) : Nat)) ∧ RdP (fun j => ¬ U' j) w' rr ((t.drop (2 + 2 * k)).drop 2) ∧ w3.grownBy w' (some rr)) := oNumP w3 rr hr 2 (by omega) (by omega)
          have HD3 : Hid (Dk U' F' w3 d r D') := hd
          have HF3 : Hid (D'.fit (mm + 3 * (k + 1))) := hf
          have HU3 : Hid (Next w U U' ∧ Next w F F') := ⟨nU, nF⟩
          have HK3 : Hid (Kp (fun j => F j ∨ j = rr) w w3) := hk'
          have HO3 : Hid (NtO U' w w3 (.slice oa on oc) acc) := ho
          have HL3 : Hid (acc.length = k) := hl
          have HB3 : Hid (B5 (Fr U' w) w3 p m q bb) := hb5
          have HNU : Hid (¬ U' rr) := hr.1
          obtain ⟨G, hG⟩ : ∃ G, G = getN ((t.drop (2 + 2 * k)).take 2) := ⟨_, rfl⟩
          have HE3 : Hid (readD D 1 [] (pagL t n) = readD D' (k + 2) (acc ++ [(((G : Nat) : Int), bb)]) ((pagL t n).drop (k + 1))) := by rw [hG]; exact he
          rw [← hG] at CN hg2
          rw [List.drop_drop, show 2 + 2 * k + 2 = 2 + 2 * (k + 1) from by omega] at CN
          clear hG hd hf nU nF hk' hr ho hl hb5 he hdl
          go_wp2_with fail
          refine CN.out.mono ?_
          rintro e w4 ⟨rfl, hr4, hg4⟩
          have KR4 : Kp (fun j => j = rr) w3 w4 := ⟨hg4.os, hg4.tape, hg4.output, hg4.size, fun j hj hn => hg4.block j hj fun e => hn (Option.some.inj e)⟩
          have HD4 : Hid (Dk U' F' w4 d r D') := HD3.out.keep KR4 fun j hj e => HNU.out (e ▸ hj)
          have HK4 : Hid (Kp (fun j => F j ∨ j = rr) w w4) := HK3.out.trans (KR4.mono fun j _ e => Or.inr e)
          have HR4 : Hid (RdP (fun j => ¬ U' j) w4 rr (t.drop (2 + 2 * (k + 1)))) := hr4
          have HO4 : Hid (NtO U' w w4 (.slice oa on oc) acc) := HO3.out.turn HRL.out hg4
          have HB4 : Hid (B5 (Fr U' w) w4 p m q bb) := HB3.out.kp KR4 fun j hj e => by have := hj.2; have := HRL.out; omega
          clear hr4 hg4 KR4 HD3 HK3 HO3 HB3 CN
          have i64G : i64 (G : Int) := by unfold i64; omega
          have b5 : Hid (Blk (w4.alloc (.cells #[.int .i64 (G : Int), .slice p m q] 79)) w4.heap.size [.int .i64 (G : Int), .slice p m q] 79) := Blk.newAt w4 _ _ w4.heap.size rfl _ rfl
          have k5 : Hid (Below w4.heap.size w4 (w4.alloc (.cells #[.int .i64 (G : Int), .slice p m q] 79))) := below_alloc _ _
          have HO5 : Hid (NtO U' w (w4.alloc (.cells #[.int .i64 (G : Int), .slice p m q] 79)) (.slice oa on oc) acc) := HO4.out.grow k5.out
          have HR5 : Hid (Row (elC (Fr U' w)) 2 (w4.alloc (.cells #[.int .i64 (G : Int), .slice p m q] 79)) ((G : Int), bb) [.int .i64 (G : Int), .slice p m q]) := ⟨rfl, oneI _ _ _ _, p, m, q, rfl, HB4.out.below k5.out, i64G⟩
          have HZ5 : Hid (acc.length + 1 ≤ 1000000) := by show _ ≤ _; rw [HL3.out]; omega
          have HS5 : Hid (w.heap.size ≤ (w4.alloc (.cells #[.int .i64 (G : Int), .slice p m q] 79)).heap.size) := Nat.le_trans HK4.out.size k5.out.size
          have HLT : Hid (∀ j, U' j → j < w4.heap.size) := HD4.out.lt
          clear i64G HO4 HB4
          go_wp2_with (at_builtin; refine wpList_app1At (elC (Fr U' w)) 2 32 46 79 _ Tryz.underlying46 infoI rfl (by decide) (by decide) (w4.alloc (.cells #[.int .i64 (G : Int), .slice p m q] 79)) rfl (.tmp 25) (.tmp 31) rfl w.heap.size (.slice oa on oc) acc rfl HO5.out.own w4.heap.size 1 ((G : Int), bb) [.int .i64 (G : Int), .slice p m q] rfl b5.out.whole HR5.out HZ5.out HS5.out (fun w' x vs hg hx => elC.grown hg (HO5.out.own.not5 neI5) x vs hx) ?_; intro v6 w6 o6 g6 hp6; obtain ⟨a6, n6, c6, rfl, hn6⟩ := o6.shape; have O6 : Hid (OwS (elC (Fr U' w)) 2 79 w6 w.heap.size (.slice a6 n6 c6) (acc ++ [((G : Int), bb)])) := o6; have G6 : Hid ((w4.alloc (.cells #[.int .i64 (G : Int), .slice p m q] 79)).grownBy w6 (Value.slice oa on oc).ownBlock) := g6; have P6 : Hid ((Value.slice a6 n6 c6).ownBlock = (Value.slice oa on oc).ownBlock ∨ (Value.slice a6 n6 c6).ownBlock = some (w4.alloc (.cells #[.int .i64 (G : Int), .slice p m q] 79)).heap.size) := hp6; clear o6 g6 hp6 hn6)
          have KR6 : Kp (fun j => (Value.slice oa on oc).ownBlock = some j) w4 w6 := (Kp.of_below k5.out).trans ⟨G6.out.os, G6.out.tape, G6.out.output, G6.out.size, fun j hj hn => G6.out.block j hj fun e => hn e.symm⟩
          have hsz : (w4.alloc (.cells #[.int .i64 (G : Int), .slice p m q] 79)).heap.size = w4.heap.size + 1 := by simp
          have HN6 : Hid (NtI U F w d r D mm rr t n (k + 1) (.slice a6 n6 c6) w6) := by
            refine ⟨U', F', D', acc ++ [((G : Int), bb)], HD4.out.keep KR6 fun j hj e => HO5.out.no j e hj, HF3.out, HU3.out.1, HU3.out.2, HK4.out.newer KR6 fun j hj => (HO5.out.own.lt j hj).1, HR4.out.keepLe KR6.size fun j hj hjr => KR6.block j hj fun e => ?_, ⟨O6.out, fun j hj hu => ?_⟩, by rw [List.length_append, HL3.out]; rfl, HE3.out⟩
            · have := (HO5.out.own.lt j e).1
              have := HRL.out
              omega
            · rcases P6.out with e | e
              · exact HO5.out.no j (by rw [← e]; exact hj) hu
              · rw [hj] at e
                have := Option.some.inj e
                have := HLT.out j hu
                omega
          clear KR6 hsz O6 G6 P6 HD4 HK4 HR4 HO5 HR5 HZ5 HS5 HLT HE3 HU3 HF3 HL3 b5 k5 HNU
          go_roundw
          case rel => exact ⟨k + 1, _, _, _, by omega, by go_num, rfl, HN6⟩
          case measure => simp [intOf]; omega
        · have HN : Hid (P (.returned (.tuple #[.slice none 0 0, .int .i64 z])) w3) := by rcases HZ.out with h | h; exact absurd h.1 z0; exact h.2
          clear HZ HRD HDONE
          go_wp2_with fail
          exact HN.out
      · obtain rfl : k = n := by omega
        have j1 : ((2 * (k - k) : Nat) : Int) = 0 := by omega
        go_wp2_with fail
        refine (HK.out.left HT.out hk).mono ?_
        rintro e w1 ⟨rfl, rfl⟩
        rw [j1]
        go_wp2_with fail
        exact HDONE.out _ _ _ _ HK.out
    · have j0 : ¬ (k : Int) + 1 < 24 := by omega
      obtain rfl : k = n := by omega
      go_wp2_with fail
      exact HDONE.out _ _ _ _ HK.out

end Go.Proofs.YtlenmkhmkommcaaGreat

/-
  Contracts of layer 16's program's head and logged. Conditions: at most 23 pages that may be noted.
-/
namespace Go.Proofs.YtlenmkhmkommcaaGreat
open Go.RowKit
set_option linter.unusedVariables false

set_option maxRecDepth 100000 in
set_option maxHeartbeats 2000000 in
theorem oHed16 (w : World) {A : Nat → Prop} {a : Option Addr} {n c : Nat} {l : List Chg} (h : Imgs A w a n c l) (hn : n ≤ 23) (hok : ∀ c ∈ l, okI c) : Calls Tryz.prog 47 #[.slice a n c] w (Gives w (hedL l)) := by
  have HI : Hid (Imgs A w a n c l) := h
  have HL : Hid (l.length = n) := Sl.len h
  have HOK : Hid (∀ c ∈ l, okI c) := hok
  have hmax := Sl.cap h
  clear h hok
  go_enter Tryz.func47, Tryz.ntmps47
  go_wp2_with fail
  refine (oPut (n : Int) 2 w (by omega) (by omega) (by omega) (by omega)).mono ?_
  rintro _ w1 ⟨a1, m1, c1, rfl, o1, hb1⟩
  have O1 : Hid (Own w1 w.heap.size (.slice a1 m1 c1) (putL n 2 ++ ((l.take 0).map fun c => putL c.1.toNat 2).flatten)) := by show Own _ _ _ _; simpa using o1
  have B1 : Hid (Below w.heap.size w w1) := hb1
  clear o1 hb1
  go_wp2_with fail
  go_loopw [3, 12] (fun out i wr => ∃ (k : Nat) (oa : Option Addr) (on oc : Nat), k ≤ n ∧ i = .int .i64 (k : Int) ∧ out = .slice oa on oc ∧ Hid (Own wr w.heap.size (.slice oa on oc) (putL n 2 ++ ((l.take k).map fun c => putL c.1.toNat 2).flatten)) ∧ Hid (Below w.heap.size w wr)) (fun _ i _ => n - (intOf i).toNat)
  case atStart => exact ⟨0, _, _, _, Nat.zero_le _, rfl, rfl, O1, B1⟩
  case round =>
    obtain ⟨k, oa, on, oc, hk, rfl, rfl, HO, HB⟩ := hrel
    clear O1 B1
    by_cases hlt : k < n
    · have j0 : (k : Int) < (n : Int) := by omega
      obtain ⟨x, hx⟩ : ∃ x, l[k]? = some x := ⟨_, List.getElem?_eq_getElem (by rw [HL.out]; exact hlt)⟩
      obtain ⟨b, o, p, m, q, ha, hlb, _, hrg, hB5, hi⟩ := (HI.out.grow HB.out).at hx
      have ho := HOK.out x (List.mem_of_getElem? hx)
      have HT : Hid (putL n 2 ++ ((l.take (k + 1)).map fun c => putL c.1.toNat 2).flatten = (putL n 2 ++ ((l.take k).map fun c => putL c.1.toNat 2).flatten) ++ putL x.1.toNat 2) := by
        show _ = _
        rw [List.take_add_one, hx]
        exact hedL_snoc _ _ _
      have HZ : Hid ((putL n 2 ++ ((l.take k).map fun c => putL c.1.toNat 2).flatten).length + 2 ≤ 1000000) := by
        show _ ≤ _
        rw [List.length_append, flat2_length, putL_length, List.length_take, HL.out]
        omega
      obtain ⟨xa, xb⟩ := x
      dsimp only at hrg hi HT
      obtain ⟨h1, h2, _⟩ := ho
      dsimp only at h1 h2
      obtain ⟨y, hy⟩ : ∃ y : Nat, xa = (y : Int) := ⟨xa.toNat, by omega⟩
      subst hy
      rw [Int.toNat_natCast] at HT
      clear hx hB5 hi
      rw [ha]
      obtain ⟨OL, hOL⟩ : ∃ OL, OL = putL n 2 ++ ((l.take k).map fun c => putL c.1.toNat 2).flatten := ⟨_, rfl⟩
      rw [← hOL] at HO HT HZ
      clear hOL
      have z7 : Blk (wr.alloc (.cells #[.int .i64 0, .slice none 0 0] 79)) wr.heap.size [.int .i64 0, .slice none 0 0] 79 := Blk.newAt wr _ _ wr.heap.size rfl _ rfl
      have k7 : Below wr.heap.size wr (wr.alloc (.cells #[.int .i64 0, .slice none 0 0] 79)) := below_alloc _ _
      go_wp2_with (first
        | ((with_reducible refine at_ld 79 ?_); (refine ld 79 (.tmp 14) 2 sizeI _ Tryz.underlying79 rfl b (o + k * 2) [.int .i64 (y : Int), .slice p m q] rfl hrg rfl ?_))
        | ((with_reducible refine at_st 79 ?_); (refine st' 79 (.tmp 5) (.tmp 15) 2 sizeI wr.heap.size 0 [.int .i64 (y : Int), .slice p m q] rfl (oneI _ _ _ _) (z7.there 0 2 (by simp)) rfl rfl ?_); intro v3 hv3; have b3 : Blk v3 wr.heap.size [.int .i64 (y : Int), .slice p m q] 79 := (by rw [hv3]; exact z7.setsW _ rfl); have k3 : Below wr.heap.size wr v3 := (by rw [hv3]; exact below_sets (Nat.le_refl _) _ k7 0); have c1 : v3.cell? ⟨wr.heap.size, 0, none⟩ = some (.int .i64 (y : Int)) := b3.cell 0; have c2 : v3.cell? ⟨wr.heap.size, 1, none⟩ = some (.slice p m q) := b3.cell 1; have l3 := b3.lt; clear hv3))
      have HO3 : Hid (Own v3 w.heap.size (.slice oa on oc) OL) := HO.out.below k3 (Nat.le_refl _)
      have HB3 : Hid (Below w.heap.size w v3) := HB.out.trans (k3.mono HB.out.size)
      clear c1 c2 l3 b3 k3 z7 k7 hrg HO HB
      refine (oPut (y : Int) 2 v3 (by omega) (by omega) (by omega) (by omega)).mono ?_
      rintro _ w4 ⟨a4, m4, c4, rfl, o4, hb4⟩
      have P4 : Hid (Bs w4 a4 m4 c4 (putL y 2)) := o4.toBs
      have HO4 : Hid (Own w4 w.heap.size (.slice oa on oc) OL) := HO3.out.below hb4 (Nat.le_refl _)
      have HB4 : Hid (Below w.heap.size w w4) := HB3.out.trans (hb4.mono HB3.out.size)
      have HZ4 : Hid (OL.length + (putL y 2).length ≤ 1000000000) := by show _ ≤ _; rw [putL_length]; have := HZ.out; omega
      clear o4 hb4 HO3 HB3 HZ
      go_wp2_with (at_builtin; refine wpList_app w4 rfl (.tmp 16) (.tmp 20) rfl w.heap.size (.slice oa on oc) _ rfl HO4.out a4 m4 c4 (putL y 2) rfl P4.out HZ4.out HB4.out.size ?_; intro v5 w5 o5 hb5; have O5 : Hid (Own w5 w.heap.size v5 (putL n 2 ++ ((l.take (k + 1)).map fun c => putL c.1.toNat 2).flatten)) := (by rw [HT.out]; exact o5); clear o5)
      obtain ⟨oa5, on5, oc5, hv5, _⟩ := O5.out.bs3
      subst hv5
      go_roundw
      case rel => exact ⟨k + 1, _, _, _, by omega, by go_num, rfl, O5, HB4.out.trans hb5⟩
      case measure => simp [intOf]; omega
    · have j0 : ¬ (k : Int) < (n : Int) := by omega
      have HE : Hid (putL n 2 ++ ((l.take k).map fun c => putL c.1.toNat 2).flatten = hedL l) := by
        show _ = _
        rw [List.take_of_length_le (by rw [HL.out]; omega)]
        unfold hedL
        rw [HL.out]
      rw [HE.out] at HO
      go_wp2_with fail
      go_ret
      exact Gives.mk HO.out HB.out
theorem logL_take (s : List UInt8) {l : List Chg} {k : Nat} {x : Chg} (hx : l[k]? = some x) : (l.take (k + 1)).mapIdx (fun i c => ((i : Int) + 1, c.2)) = (l.take k).mapIdx (fun i c => ((i : Int) + 1, c.2)) ++ [((k : Int) + 1, x.2)] := by
  have hk : k < l.length := (List.getElem?_eq_some_iff.1 hx).1
  rw [List.take_add_one, hx, Option.toList_some, List.mapIdx_concat, List.length_take, Nat.min_eq_left (by omega)]
/-- What logged answers. -/
def Logd (A : Nat → Prop) (w : World) (l : List Chg) (e : Ending) (w' : World) : Prop := ∃ a n c, e = .returned (.slice a n c) ∧ Imgs (fun j => A j ∨ w.heap.size ≤ j) w' a n c l ∧ Below w.heap.size w w'
theorem OwI.sl {A : Nat → Prop} {w : World} {base : Nat} {a : Option Addr} {n c : Nat} {l : List Chg} (h : OwS (elC fun j => A j ∨ base ≤ j) 2 79 w base (.slice a n c) l) : Imgs (fun j => A j ∨ base ≤ j) w a n c l := h.sl3 fun j hj _ => Or.inr hj

set_option maxRecDepth 100000 in
set_option maxHeartbeats 2000000 in
theorem oLog16 (w : World) {A : Nat → Prop} {a : Option Addr} {n c : Nat} {l : List Chg} (h : Imgs A w a n c l) (hn : n ≤ 23) {as' : Option Addr} {ns cs' : Nat} {s : List UInt8} (hs : Bs w as' ns cs' s) (hns : ns ≤ 512) : Calls Tryz.prog 48 #[.slice as' ns cs', .slice a n c] w (Logd A w (logL s l)) := by
  have HI : Hid (Imgs A w a n c l) := h
  have HL : Hid (l.length = n) := Sl.len h
  have HS : Hid (Bs w as' ns cs' s) := hs
  have hmax := Sl.cap h
  clear h hs
  have hcp : (n : Int) + 1 ≤ 1000000 := by omega
  go_enter Tryz.func48, Tryz.ntmps48
  go_wp2_with (at_make; refine wpList_mkS0 (elC fun j => A j ∨ w.heap.size ≤ j) 2 32 46 79 _ Tryz.underlying46 infoI (by decide) _ rfl _ _ rfl w.heap.size ((n : Int) + 1) rfl rfl (by omega) hcp (Nat.le_refl _) ?_; intro v1 w1 o1 hb1; obtain ⟨a1, n1, c1, rfl, hn1⟩ := o1.shape; have O1 : Hid (OwS (elC fun j => A j ∨ w.heap.size ≤ j) 2 79 w1 w.heap.size (.slice a1 n1 c1) ((l.take 0).mapIdx fun i c => ((i : Int) + 1, c.2))) := o1; have B1 : Hid (Below w.heap.size w w1) := hb1; clear o1 hb1 hn1)
  go_loopw [5, 14] (fun out i wr => ∃ (k : Nat) (oa : Option Addr) (on oc : Nat), k ≤ n ∧ i = .int .i64 (k : Int) ∧ out = .slice oa on oc ∧ Hid (OwS (elC fun j => A j ∨ w.heap.size ≤ j) 2 79 wr w.heap.size (.slice oa on oc) ((l.take k).mapIdx fun i c => ((i : Int) + 1, c.2))) ∧ Hid (Below w.heap.size w wr)) (fun _ i _ => n - (intOf i).toNat)
  case atStart => exact ⟨0, _, _, _, Nat.zero_le _, rfl, rfl, O1, B1⟩
  case round =>
    obtain ⟨k, oa, on, oc, hk, rfl, rfl, HO, HB⟩ := hrel
    clear O1 B1
    by_cases hlt : k < n
    · have j0 : (k : Int) < (n : Int) := by omega
      obtain ⟨x, hx⟩ : ∃ x, l[k]? = some x := ⟨_, List.getElem?_eq_getElem (by rw [HL.out]; exact hlt)⟩
      obtain ⟨b, o, p, m, q, ha, hlb, _, hrg, hB5, hi⟩ := (HI.out.grow HB.out).at hx
      have HT : Hid ((l.take (k + 1)).mapIdx (fun i c => ((i : Int) + 1, c.2)) = (l.take k).mapIdx (fun i c => ((i : Int) + 1, c.2)) ++ [((k : Int) + 1, x.2)]) := logL_take s hx
      have HZ : Hid (((l.take k).mapIdx fun i c => ((i : Int) + 1, c.2)).length + 1 ≤ 1000000) := by
        show _ ≤ _
        rw [List.length_mapIdx, List.length_take, HL.out]
        omega
      have H5 : Hid (B5 A wr p m q x.2) := hB5
      obtain ⟨xa, xb⟩ := x
      dsimp only at hrg HT H5
      clear hx hB5 hi
      rw [ha]
      obtain ⟨OL, hOL⟩ : ∃ OL, OL = (l.take k).mapIdx (fun i c => ((i : Int) + 1, c.2)) := ⟨_, rfl⟩
      rw [← hOL] at HO HT HZ
      clear hOL
      have i64k : i64 ((k : Int) + 1) := by unfold i64; omega
      have e1 : (1 : Int) + (k : Int) = (k : Int) + 1 := by omega
      have z7 : Blk (wr.alloc (.cells #[.int .i64 0, .slice none 0 0] 79)) wr.heap.size [.int .i64 0, .slice none 0 0] 79 := Blk.newAt wr _ _ wr.heap.size rfl _ rfl
      have k7 : Below wr.heap.size wr (wr.alloc (.cells #[.int .i64 0, .slice none 0 0] 79)) := below_alloc _ _
      go_upto_region 5 with (first
        | ((with_reducible refine at_ld 79 ?_); (refine ld 79 (.tmp 17) 2 sizeI _ Tryz.underlying79 rfl b (o + k * 2) [.int .i64 xa, .slice p m q] rfl hrg rfl ?_))
        | ((with_reducible refine at_st 79 ?_); (refine st' 79 (.tmp 7) (.tmp 18) 2 sizeI wr.heap.size 0 [.int .i64 xa, .slice p m q] rfl (oneI _ _ _ _) (z7.there 0 2 (by simp)) rfl rfl ?_); intro v3 hv3; have b3 : Blk v3 wr.heap.size [.int .i64 xa, .slice p m q] 79 := (by rw [hv3]; exact z7.setsW _ rfl); have k3 : Below wr.heap.size wr v3 := (by rw [hv3]; exact below_sets (Nat.le_refl _) _ k7 0); have c1 : v3.cell? ⟨wr.heap.size, 0, none⟩ = some (.int .i64 xa) := b3.cell 0; have c2 : v3.cell? ⟨wr.heap.size, 1, none⟩ = some (.slice p m q) := b3.cell 1; have l3 := b3.lt; clear hv3))
      have HO3 : Hid (OwS (elC fun j => A j ∨ w.heap.size ≤ j) 2 79 v3 w.heap.size (.slice oa on oc) OL) := OwC.below HO.out k3
      have HB3 : Hid (Below w.heap.size w v3) := HB.out.trans (k3.mono HB.out.size)
      have H53 : Hid (B5 A v3 p m q xb) := H5.out.below k3
      clear c1 b3 k3 z7 k7 hrg HO HB H5
      have b4 : Hid (Blk (v3.alloc (.cells #[.int .i64 ((k : Int) + 1), .slice p m q] 79)) v3.heap.size [.int .i64 ((k : Int) + 1), .slice p m q] 79) := Blk.newAt v3 _ _ v3.heap.size rfl _ rfl
      have k4 : Hid (Below v3.heap.size v3 (v3.alloc (.cells #[.int .i64 ((k : Int) + 1), .slice p m q] 79))) := below_alloc _ _
      have HO4 : Hid (OwS (elC fun j => A j ∨ w.heap.size ≤ j) 2 79 (v3.alloc (.cells #[.int .i64 ((k : Int) + 1), .slice p m q] 79)) w.heap.size (.slice oa on oc) OL) := OwC.below HO3.out k4.out
      have HB4 : Hid (Below w.heap.size w (v3.alloc (.cells #[.int .i64 ((k : Int) + 1), .slice p m q] 79))) := HB3.out.trans (k4.out.mono HB3.out.size)
      have HR4 : Hid (Row (elC fun j => A j ∨ w.heap.size ≤ j) 2 (v3.alloc (.cells #[.int .i64 ((k : Int) + 1), .slice p m q] 79)) ((k : Int) + 1, xb) [.int .i64 ((k : Int) + 1), .slice p m q]) := ⟨rfl, oneI _ _ _ _, p, m, q, rfl, (H53.out.below k4.out).mono fun j _ hj => Or.inl hj, i64k⟩
      clear k4 HO3 HB3 H53 i64k
      go_wp2_with (at_builtin; refine wpList_app1At (elC fun j => A j ∨ w.heap.size ≤ j) 2 32 46 79 _ Tryz.underlying46 infoI rfl (by decide) (by decide) (v3.alloc (.cells #[.int .i64 ((k : Int) + 1), .slice p m q] 79)) rfl (.tmp 19) (.tmp 25) rfl w.heap.size (.slice oa on oc) OL rfl HO4.out v3.heap.size 1 ((k : Int) + 1, xb) [.int .i64 ((k : Int) + 1), .slice p m q] rfl b4.out.whole HR4.out HZ.out HB4.out.size (fun w' x vs hg hx => elC.grown hg (HO4.out.not5 neI5) x vs hx) ?_; intro v5 w5 o5 g5 _; obtain ⟨a5, n5, c5, rfl, hn5⟩ := o5.shape; have O5 : Hid (OwS (elC fun j => A j ∨ w.heap.size ≤ j) 2 79 w5 w.heap.size (.slice a5 n5 c5) ((l.take (k + 1)).mapIdx fun i c => ((i : Int) + 1, c.2))) := (by rw [HT.out]; exact o5); have B5' : Hid (Below w.heap.size w w5) := HB4.out.grown g5 HB4.out.size (fun j hj => (HO4.out.lt j hj).1); clear o5 g5 hn5)
      go_roundw
      case rel => exact ⟨k + 1, _, _, _, by omega, by go_num, rfl, O5, B5'⟩
      case measure => simp [intOf]; omega
    · have j0 : ¬ (k : Int) < (n : Int) := by omega
      rw [List.take_of_length_le (by rw [HL.out]; omega)] at HO
      have HZ : Hid ((l.mapIdx fun i c => ((i : Int) + 1, c.2)).length + 1 ≤ 1000000) := by
        show _ ≤ _
        rw [List.length_mapIdx, HL.out]
        omega
      obtain ⟨OL, hOL⟩ : ∃ OL, OL = l.mapIdx (fun i c => ((i : Int) + 1, c.2)) := ⟨_, rfl⟩
      have HE : Hid (OL ++ [(0, pad s)] = logL s l) := by show _ = _; rw [hOL]; rfl
      rw [← hOL] at HO HZ
      clear hOL
      go_wp2_with fail
      refine (oFil16 wr (HS.out.below HB.out (Nat.le_refl _)) hns).mono ?_
      rintro _ w3 ⟨p, m, q, rfl, o3, hb3⟩
      have H53 : Hid (B5 (fun j => A j ∨ w.heap.size ≤ j) w3 p m q (pad s)) := o3.b5 fun j hj _ => Or.inr (Nat.le_trans HB.out.size hj)
      have HO3 : Hid (OwS (elC fun j => A j ∨ w.heap.size ≤ j) 2 79 w3 w.heap.size (.slice oa on oc) OL) := OwC.below HO.out hb3
      have HB3 : Hid (Below w.heap.size w w3) := HB.out.trans (hb3.mono HB.out.size)
      clear HO HB o3 hb3
      have b4 : Hid (Blk (w3.alloc (.cells #[.int .i64 0, .slice p m q] 79)) w3.heap.size [.int .i64 0, .slice p m q] 79) := Blk.newAt w3 _ _ w3.heap.size rfl _ rfl
      have k4 : Hid (Below w3.heap.size w3 (w3.alloc (.cells #[.int .i64 0, .slice p m q] 79))) := below_alloc _ _
      have HO4 : Hid (OwS (elC fun j => A j ∨ w.heap.size ≤ j) 2 79 (w3.alloc (.cells #[.int .i64 0, .slice p m q] 79)) w.heap.size (.slice oa on oc) OL) := OwC.below HO3.out k4.out
      have HB4 : Hid (Below w.heap.size w (w3.alloc (.cells #[.int .i64 0, .slice p m q] 79))) := HB3.out.trans (k4.out.mono HB3.out.size)
      have HR4 : Hid (Row (elC fun j => A j ∨ w.heap.size ≤ j) 2 (w3.alloc (.cells #[.int .i64 0, .slice p m q] 79)) (0, pad s) [.int .i64 0, .slice p m q]) := ⟨rfl, oneI _ _ _ _, p, m, q, rfl, H53.out.below k4.out, by unfold i64; omega⟩
      clear k4 HO3 HB3 H53
      go_wp2_with (at_builtin; refine wpList_app1At (elC fun j => A j ∨ w.heap.size ≤ j) 2 32 46 79 _ Tryz.underlying46 infoI rfl (by decide) (by decide) (w3.alloc (.cells #[.int .i64 0, .slice p m q] 79)) rfl (.tmp 28) (.tmp 32) rfl w.heap.size (.slice oa on oc) OL rfl HO4.out w3.heap.size 1 (0, pad s) [.int .i64 0, .slice p m q] rfl b4.out.whole HR4.out HZ.out HB4.out.size (fun w' x vs hg hx => elC.grown hg (HO4.out.not5 neI5) x vs hx) ?_; intro v5 w5 o5 g5 _; obtain ⟨a5, n5, c5, rfl, hn5⟩ := o5.shape; have O5 : Hid (OwS (elC fun j => A j ∨ w.heap.size ≤ j) 2 79 w5 w.heap.size (.slice a5 n5 c5) (logL s l)) := (by rw [← HE.out]; exact o5); have B5' : Hid (Below w.heap.size w w5) := HB4.out.grown g5 HB4.out.size (fun j hj => (HO4.out.lt j hj).1); clear o5 g5 hn5)
      go_ret
      exact ⟨a5, n5, c5, rfl, OwI.sl O5.out, B5'.out⟩

end Go.Proofs.YtlenmkhmkommcaaGreat
