/-
  3 texts in one. No statement of the seat is proved here.
-/
import Derived.Test.YtbifikeecmaakaaG6
import Derived.Laws.BytesArg
import Derived.Laws.IdiomStrings
/-
  What layer 1's laws ask of Same and Xor, together. No condition; no statement of the seat is proved here.
-/
namespace Go.Proofs.Ytbifikeecmaakaa

end Go.Proofs.Ytbifikeecmaakaa

/-
  'string(b)' of bytes of the call's own. No condition; no statement of the seat is proved here.
-/
namespace Go.Proofs.Ytbifikeecmaakaa
open Go.RowKit

theorem Own.shape {w : World} {base : Nat} {v : Value} {l : List UInt8} (h : Own w base v l) : ∃ a m c, v = .slice a m c ∧ (a = none ∨ ∃ g, a = some ⟨g, 0, none⟩) := by
  obtain ⟨_, h2⟩ := h
  rcases h2 with ⟨rfl, _⟩ | ⟨g, cap, cur, rfl, _⟩
  · exact ⟨none, 0, 0, rfl, Or.inl rfl⟩
  · exact ⟨_, _, cap, rfl, Or.inr ⟨g, rfl⟩⟩

/-- 'string(b)' of bytes of the call's own. -/
theorem Own.str {w : World} {base : Nat} {a : Option Addr} {m c : Nat} {l : List UInt8} (h : Own w base (.slice a m c) l) : Sem.run Try.prog (convert 22 9 (.slice a m c)) w = .ok (.string ⟨l.toArray⟩) w := by
  have hb := h.toBs
  obtain ⟨a', m', c', e, hs⟩ := h.shape
  simp only [Value.slice.injEq] at e
  obtain ⟨rfl, rfl, rfl⟩ := e
  rcases hs with rfl | ⟨g, rfl⟩
  · have hc := hb.2.2.2.1 rfl
    have hcap := hb.cap
    have e : l = [] := List.length_eq_zero_iff.1 (by rw [hb.len]; omega)
    subst e
    rw [run_convert_bytes_nil w 22 5 Try.underlying22 Try.underlying5 m c 9 Try.underlying9]
    rfl
  · rw [run_convert_bytes_arg w 22 5 Try.underlying22 Try.underlying5 g 0 m c (l.map fun x => (x.toNat : Int)) (by simp [hb.len]) ?_ 9 Try.underlying9]
    · have e : strOfNums (l.map fun x => (x.toNat : Int)) = ⟨l.toArray⟩ := by
        unfold strOfNums
        simp [Function.comp_def]
      rw [e]
    · intro i hi
      obtain ⟨b, o, ha, hc⟩ := hb.2.2.2.2 i hi
      simp at ha
      obtain ⟨rfl, rfl⟩ := ha
      rw [hc]
      have hi' : i < l.length := by rw [hb.len]; exact hi
      rw [bt_of_lt hi']
      simp [List.getD_eq_getElem?_getD, hi']
theorem ret_str {A B : List UInt8} (h : A = B) : Ending.returned (.string ⟨A.toArray⟩) = .returned (.string ⟨B.toArray⟩) := by rw [h]

end Go.Proofs.Ytbifikeecmaakaa

/-
  The contract of the program's Hex: two digits of sixteen of each byte. Condition: a row of at most 1000000 bytes.
-/
namespace Go.Proofs.Ytbifikeecmaakaa
open Go.RowKit

def digs : List UInt8 := [48, 49, 50, 51, 52, 53, 54, 55, 56, 57, 97, 98, 99, 100, 101, 102]
def hex2 (x : UInt8) : List UInt8 := [digs.getD (x.toNat / 16) 0, digs.getD (x.toNat % 16) 0]
def hexL (l : List UInt8) : List UInt8 := l.flatMap hex2

theorem dig_at (i : Nat) (h : i < 16) : (⟨#[48, 49, 50, 51, 52, 53, 54, 55, 56, 57, 97, 98, 99, 100, 101, 102]⟩ : ByteArray)[i]'h = digs.getD i 0 := by
  have : ∀ j : Fin 16, (⟨#[48, 49, 50, 51, 52, 53, 54, 55, 56, 57, 97, 98, 99, 100, 101, 102]⟩ : ByteArray)[j.val]'j.isLt = digs.getD j.val 0 := by decide
  exact this ⟨i, h⟩

theorem hex_step {l : List UInt8} {k : Nat} (h : k < l.length) : hexL (l.take k) ++ hex2 l[k] = hexL (l.take (k + 1)) := by
  rw [take_snoc h]
  unfold hexL
  rw [List.flatMap_append]
  simp only [List.flatMap_cons, List.flatMap_nil, List.append_nil]
theorem hexL_length (l : List UInt8) : (hexL l).length = 2 * l.length := by
  induction l with
  | nil => rfl
  | cons x r ih => simp [hexL, hex2] at *; omega

abbrev dg (i : Nat) (h : i < 16) : UInt8 := (⟨#[48, 49, 50, 51, 52, 53, 54, 55, 56, 57, 97, 98, 99, 100, 101, 102]⟩ : ByteArray)[i]'h
theorem and15 {a : Int} (h0 : 0 ≤ a) (h1 : a ≤ 255) : bits .and .u8 a 15 = a % 16 := by
  rw [u8_and a 15 h0 (by omega) (by omega) (by omega), show (15 : Int).toNat = 2 ^ 4 - 1 from rfl, Nat.and_two_pow_sub_one_eq_mod]
  omega
theorem hex_own {w : World} {base : Nat} {v : Value} {l : List UInt8} {k : Nat} (h : k < l.length) (p1 : (bt l k / 16).toNat < 16) (p2 : (bt l k % 16).toNat < 16) (ho : Own w base v (hexL (l.take k) ++ [dg (bt l k / 16).toNat p1, dg (bt l k % 16).toNat p2])) : Own w base v (hexL (l.take (k + 1))) := by
  rw [← hex_step h]
  have e1 : (bt l k / 16).toNat = l[k].toNat / 16 := by rw [bt_of_lt h]; omega
  have e2 : (bt l k % 16).toNat = l[k].toNat % 16 := by rw [bt_of_lt h]; omega
  have d1 : dg (bt l k / 16).toNat p1 = digs.getD (l[k].toNat / 16) 0 := by rw [← e1]; exact dig_at _ p1
  have d2 : dg (bt l k % 16).toNat p2 = digs.getD (l[k].toNat % 16) 0 := by rw [← e2]; exact dig_at _ p2
  unfold hex2
  rw [← d1, ← d2]
  exact ho
theorem hex_room {l : List UInt8} {n k : Nat} (H : Hid (l.length = n)) (h : n ≤ 1000000) (x y : UInt8) : (hexL (l.take k)).length + [x, y].length ≤ 1000000000 := by
  have : (l.take k).length ≤ l.length := List.length_take_le' _ _
  rw [hexL_length]
  rw [H.out] at this
  simp only [List.length_cons, List.length_nil]
  omega
theorem hex_end {l : List UInt8} {n k : Nat} (H : Hid (l.length = n)) (h : ¬ k < n) : hexL (l.take k) = hexL l := by
  rw [List.take_of_length_le (by rw [H.out]; omega)]

end Go.Proofs.Ytbifikeecmaakaa
