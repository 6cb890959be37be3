/-
  Plain mathematics of blocks: rows that are written over one by one; shifted, mixed. No condition; nothing of the program.
-/
import Derived.Test.YtofhnigdfmekdaaAesL
import Derived.Test.YtofhnigdfmekdaaAesFill
namespace Go.Proofs.Ytofhnigdfmekdaa
open Go.RowKit

/-- The first k bytes of L, those of a behind. -/
def over (L a : List UInt8) (k : Nat) : List UInt8 := L.take k ++ a.drop k
theorem over_length {L a : List UInt8} (h : L.length = a.length) (k : Nat) : (over L a k).length = a.length := by simp [over]; omega
theorem over_at {L a : List UInt8} (h : L.length = a.length) {k j : Nat} (hk : k ≤ a.length) (hj : k ≤ j) : (over L a k).getD j 0 = a.getD j 0 := by
  have hl : (L.take k).length = k := by simp; omega
  unfold over
  rw [List.getD_eq_getElem?_getD, List.getElem?_append_right (by omega), hl, List.getElem?_drop, List.getD_eq_getElem?_getD, show k + (j - k) = j from by omega]
theorem over_set {L a : List UInt8} (h : L.length = a.length) {k : Nat} (hk : k < a.length) : (over L a k).set k (L.getD k 0) = over L a (k + 1) := by
  have hl : (L.take k).length = k := by simp; omega
  unfold over
  rw [List.set_append_right _ _ (by omega), hl, Nat.sub_self, take_snoc (by omega), List.append_assoc, List.drop_eq_getElem_cons hk, List.set_cons_zero, List.getD_eq_getElem?_getD, List.getElem?_eq_getElem (by omega)]
  rfl
theorem over_end {L a : List UInt8} (h : L.length = a.length) : over L a a.length = L := by
  simp [over, ← h]
theorem over_zero (L a : List UInt8) : over L a 0 = a := by simp [over]

theorem xorL_length {a b : List UInt8} (h : a.length = b.length) : (xorL a b).length = a.length := by simp [xorL]; omega
theorem xorL_at {a b : List UInt8} {k : Nat} (ha : k < a.length) (hb : k < b.length) : (xorL a b).getD k 0 = a.getD k 0 ^^^ b.getD k 0 := by
  unfold xorL
  rw [List.getD_eq_getElem?_getD, List.getElem?_zipWith, List.getElem?_eq_getElem ha, List.getElem?_eq_getElem hb, List.getD_eq_getElem?_getD, List.getD_eq_getElem?_getD, List.getElem?_eq_getElem ha, List.getElem?_eq_getElem hb]
  rfl

theorem map16_at (f : Nat → UInt8) {k : Nat} (hk : k < 16) : ((List.range 16).map f).getD k 0 = f k := by
  simp [List.getD_eq_getElem?_getD, hk]
theorem map16_length (f : Nat → UInt8) : ((List.range 16).map f).length = 16 := by simp

/-- A block's bytes through the box, each one from as many columns on as it is down its own. -/
def shf (b : List UInt8) : List UInt8 := (List.range 16).map fun i => box (b.getD ((i + i % 4 * 4) % 16) 0)
/-- A byte of a mixed column. -/
def mixAt (b : List UInt8) (i : Nat) : UInt8 :=
  dbl (b.getD (i / 4 * 4 + i % 4) 0 ^^^ b.getD (i / 4 * 4 + (i + 1) % 4) 0) ^^^ b.getD (i / 4 * 4 + (i + 1) % 4) 0 ^^^ b.getD (i / 4 * 4 + (i + 2) % 4) 0 ^^^ b.getD (i / 4 * 4 + (i + 3) % 4) 0
def mixL (b : List UInt8) : List UInt8 := (List.range 16).map (mixAt b)
theorem shf_length (b : List UInt8) : (shf b).length = 16 := map16_length _
theorem mixL_length (b : List UInt8) : (mixL b).length = 16 := map16_length _
theorem shf_at (b : List UInt8) {k : Nat} (hk : k < 16) : (shf b).getD k 0 = box (b.getD ((k + k % 4 * 4) % 16) 0) := map16_at _ hk
theorem mixL_at (b : List UInt8) {k : Nat} (hk : k < 16) : (mixL b).getD k 0 = mixAt b k := map16_at _ hk

theorem mix0 (b : List UInt8) (c : Nat) : mixAt b (4 * c) = dbl (b.getD (4 * c) 0 ^^^ b.getD (4 * c + 1) 0) ^^^ b.getD (4 * c + 1) 0 ^^^ b.getD (4 * c + 2) 0 ^^^ b.getD (4 * c + 3) 0 := by
  unfold mixAt
  rw [show 4 * c / 4 * 4 = 4 * c from by omega, show 4 * c % 4 = 0 from by omega, show (4 * c + 1) % 4 = 1 from by omega, show (4 * c + 2) % 4 = 2 from by omega, show (4 * c + 3) % 4 = 3 from by omega]
  rfl
theorem mix1 (b : List UInt8) (c : Nat) : mixAt b (4 * c + 1) = dbl (b.getD (4 * c + 1) 0 ^^^ b.getD (4 * c + 2) 0) ^^^ b.getD (4 * c + 2) 0 ^^^ b.getD (4 * c + 3) 0 ^^^ b.getD (4 * c) 0 := by
  unfold mixAt
  rw [show (4 * c + 1) / 4 * 4 = 4 * c from by omega, show (4 * c + 1) % 4 = 1 from by omega, show (4 * c + 1 + 1) % 4 = 2 from by omega, show (4 * c + 1 + 2) % 4 = 3 from by omega, show (4 * c + 1 + 3) % 4 = 0 from by omega]
  rfl
theorem mix2 (b : List UInt8) (c : Nat) : mixAt b (4 * c + 2) = dbl (b.getD (4 * c + 2) 0 ^^^ b.getD (4 * c + 3) 0) ^^^ b.getD (4 * c + 3) 0 ^^^ b.getD (4 * c) 0 ^^^ b.getD (4 * c + 1) 0 := by
  unfold mixAt
  rw [show (4 * c + 2) / 4 * 4 = 4 * c from by omega, show (4 * c + 2) % 4 = 2 from by omega, show (4 * c + 2 + 1) % 4 = 3 from by omega, show (4 * c + 2 + 2) % 4 = 0 from by omega, show (4 * c + 2 + 3) % 4 = 1 from by omega]
  rfl
theorem mix3 (b : List UInt8) (c : Nat) : mixAt b (4 * c + 3) = dbl (b.getD (4 * c + 3) 0 ^^^ b.getD (4 * c) 0) ^^^ b.getD (4 * c) 0 ^^^ b.getD (4 * c + 1) 0 ^^^ b.getD (4 * c + 2) 0 := by
  unfold mixAt
  rw [show (4 * c + 3) / 4 * 4 = 4 * c from by omega, show (4 * c + 3) % 4 = 3 from by omega, show (4 * c + 3 + 1) % 4 = 0 from by omega, show (4 * c + 3 + 2) % 4 = 1 from by omega, show (4 * c + 3 + 3) % 4 = 2 from by omega]
  rfl

end Go.Proofs.Ytofhnigdfmekdaa
