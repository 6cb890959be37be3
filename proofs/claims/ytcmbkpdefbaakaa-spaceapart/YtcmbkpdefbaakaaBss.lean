/-
  Slices of slices of bytes: what they hold, how many bytes in all. No condition; no statement of the seat is proved here.
-/
import Derived.Test.YtcmbkpdefbaakaaOwn
namespace Go.Proofs.Ytcmbkpdefbaakaa
open Go.RowKit


/-- The slice (a, n, c) holds slices of the bytes ls. -/
def Bss (w : World) (a : Option Addr) (n c : Nat) (ls : List (List UInt8)) : Prop :=
  ls.length = n ∧ n ≤ c ∧ c ≤ maxLen ∧ ∀ i, i < n → ∃ b o p m q, a = some ⟨b, o, none⟩ ∧ w.cell? ⟨b, o + i, none⟩ = some (.slice p m q) ∧ Bs w p m q (ls.getD i [])

theorem Bss.len {w : World} {a : Option Addr} {n c : Nat} {l : List (List UInt8)} (h : Bss w a n c l) : l.length = n := h.1
theorem Bss.max {w : World} {a : Option Addr} {n c : Nat} {l : List (List UInt8)} (h : Bss w a n c l) : n ≤ 9223372036854775807 := by
  have h1 := h.2.1
  have h2 := h.2.2.1
  unfold maxLen at h2
  omega

theorem Bss.at {w : World} {a : Option Addr} {n c : Nat} {ls : List (List UInt8)} (h : Bss w a n c ls) (hn : 0 < n) :
    ∃ b o, a = some ⟨b, o, none⟩ ∧ b < w.heap.size ∧ ∀ i, i < n → ∃ p m q, w.cell? ⟨b, o + i, none⟩ = some (.slice p m q) ∧ Bs w p m q (ls.getD i []) := by
  obtain ⟨b, o, p, m, q, ha, hc, _⟩ := h.2.2.2 0 hn
  refine ⟨b, o, ha, lt_of_cell hc, fun i hi => ?_⟩
  obtain ⟨b', o', p', m', q', ha', hc', hb'⟩ := h.2.2.2 i hi
  rw [ha] at ha'
  simp at ha'
  obtain ⟨rfl, rfl⟩ := ha'
  exact ⟨p', m', q', hc', hb'⟩

theorem Bss.below {w w' : World} {a : Option Addr} {n c : Nat} {l : List (List UInt8)} (h : Bss w a n c l) {B : Nat} (hb : Below B w w') (hB : w.heap.size ≤ B) : Bss w' a n c l := by
  refine ⟨h.1, h.2.1, h.2.2.1, fun i hi => ?_⟩
  obtain ⟨b, o, p, m, q, ha, hc, hs⟩ := h.2.2.2 i hi
  refine ⟨b, o, p, m, q, ha, ?_, hs.below hb hB⟩
  rw [hb.cell (p := ⟨b, o + i, none⟩) (by have := lt_of_cell hc; simp at this ⊢; omega)]
  exact hc

/-- How many bytes in all. -/
def tot : List (List UInt8) → Nat
  | [] => 0
  | x :: r => x.length + tot r

theorem tot_snoc (l : List (List UInt8)) (x : List UInt8) : tot (l ++ [x]) = tot l + x.length := by
  induction l with
  | nil => simp [tot]
  | cons y r ih => simp [tot, ih]; omega

theorem tot_flatten (l : List (List UInt8)) : l.flatten.length = tot l := by
  induction l with
  | nil => rfl
  | cons y r ih => simp [tot, ← ih]

theorem takes_snoc {l : List (List UInt8)} {k : Nat} (h : k < l.length) : l.take (k + 1) = l.take k ++ [l.getD k []] := by
  rw [List.take_succ_eq_append_getElem h, List.getD_eq_getElem?_getD, List.getElem?_eq_getElem h]
  rfl

theorem tot_take_le (l : List (List UInt8)) (k : Nat) : tot (l.take k) ≤ tot l := by
  induction l generalizing k with
  | nil => simp
  | cons y r ih =>
    cases k with
    | zero => simp [tot]
    | succ k => simp [tot]; exact ih k

theorem tot_step {l : List (List UInt8)} {k m : Nat} (h : k < l.length) (hm : (l.getD k []).length = m) : (tot (l.take k) : Int) + (m : Int) = (tot (l.take (k + 1)) : Nat) := by
  rw [takes_snoc h, tot_snoc, hm]
  omega

/-- A part, asked for in the middle of a loop. -/
theorem Bss.part {w wr : World} {x o n : Nat} {ls : List (List UInt8)} (hc : ∀ i, i < n → ∃ p m q, w.cell? ⟨x, o + i, none⟩ = some (.slice p m q) ∧ Bs w p m q (ls.getD i [])) (hb : Below w.heap.size w wr) (k : Nat) (hk : k < n) :
    ∃ p m q, wr.cell? ⟨x, o + k, none⟩ = some (.slice p m q) ∧ Bs w p m q (ls.getD k []) := by
  obtain ⟨p, m, q, c1, h⟩ := hc k hk
  refine ⟨p, m, q, ?_, h⟩
  rw [hb.cell (p := ⟨x, o + k, none⟩) (lt_of_cell c1)]
  exact c1

theorem flat_step {l : List (List UInt8)} {k : Nat} (h : k < l.length) : (l.take k).flatten ++ l.getD k [] = (l.take (k + 1)).flatten := by
  rw [takes_snoc h]; simp
theorem flat_room {l : List (List UInt8)} {k : Nat} (h : k < l.length) (hz : tot l ≤ 100000) : (l.take k).flatten.length + (l.getD k []).length ≤ 1000000000 := by
  have := tot_take_le l (k + 1)
  rw [takes_snoc h, tot_snoc] at this
  rw [tot_flatten]
  omega
theorem flat_end {w : World} {base n k : Nat} {v : Value} {l : List (List UInt8)} (H : Hid (l.length = n)) (h : ¬ k < n) (ho : Own w base v (l.take k).flatten) : Own w base v l.flatten := by
  rw [List.take_of_length_le (by rw [H.out]; omega)] at ho
  exact ho

end Go.Proofs.Ytcmbkpdefbaakaa
