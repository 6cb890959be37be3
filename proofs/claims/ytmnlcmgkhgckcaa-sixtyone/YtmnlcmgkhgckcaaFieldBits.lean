/-
  Elements as rows of 128 bools, and as bytes: plain mathematics ahead of layer 5's code. No condition; nothing of the program.
-/
import Derived.Test.YtmnlcmgkhgckcaaFieldL
import Derived.Test.YtmnlcmgkhgckcaaUByte
namespace Go.Proofs.Ytmnlcmgkhgckcaa
open Go.RowKit

/-- The bits of an element. -/
def fb (a : Fe) : List Bool := (List.range 128).map fun i => a.getLsbD i
theorem fb_length (a : Fe) : (fb a).length = 128 := by simp [fb]
theorem fb_at (a : Fe) {k : Nat} (h : k < 128) : (fb a).getD k false = a.getLsbD k := by simp [fb, List.getD_eq_getElem?_getD, h]
/-- The first k bools of L, those of a behind. -/
def overB (L a : List Bool) (k : Nat) : List Bool := L.take k ++ a.drop k
theorem overB_length {L a : List Bool} (h : L.length = a.length) (k : Nat) : (overB L a k).length = a.length := by simp [overB]; omega
theorem overB_at {L a : List Bool} (h : L.length = a.length) {k j : Nat} (hk : k ≤ a.length) (hj : k ≤ j) : (overB L a k).getD j false = a.getD j false := by
  have hl : (L.take k).length = k := by simp; omega
  unfold overB
  rw [List.getD_eq_getElem?_getD, List.getElem?_append_right (by omega), hl, List.getElem?_drop, List.getD_eq_getElem?_getD, show k + (j - k) = j from by omega]
theorem overB_set {L a : List Bool} (h : L.length = a.length) {k : Nat} (hk : k < a.length) : (overB L a k).set k (L.getD k false) = overB L a (k + 1) := by
  have hl : (L.take k).length = k := by simp; omega
  have hL : k < L.length := by omega
  unfold overB
  rw [List.set_append_right _ _ (by omega), hl, Nat.sub_self, List.take_succ_eq_append_getElem hL, List.append_assoc, List.drop_eq_getElem_cons hk, List.set_cons_zero, List.getD_eq_getElem?_getD, List.getElem?_eq_getElem hL]
  rfl
theorem overB_end {L a : List Bool} (h : L.length = a.length) : overB L a a.length = L := by simp [overB, ← h]
theorem overB_zero (L a : List Bool) : overB L a 0 = a := by simp [overB]

/-- The element of bits. -/
def pk (f : Nat → Bool) : Nat → Fe
  | 0 => 0
  | i + 1 => pk f i ^^^ (if f i then (1 : Fe) <<< i else 0)
theorem one_bit {n j : Nat} (hn : n < 128) (b : Bool) : (if b then (1 : Fe) <<< n else 0).getLsbD j = (decide (j = n) && b) := by
  cases b
  · simp
  · simp only [if_true, Bool.and_true]
    rw [BitVec.getLsbD_shiftLeft]
    by_cases e : j = n
    · subst e; simp; omega
    · by_cases hl : j < n
      · simp [hl, e]
      · have : j - n ≠ 0 := by omega
        simp [e, BitVec.getLsbD_one, this]
theorem pk_bits (f : Nat → Bool) (n : Nat) (hn : n ≤ 128) (j : Nat) : (pk f n).getLsbD j = (decide (j < n) && f j) := by
  induction n with
  | zero => simp [pk]
  | succ n ih =>
    rw [pk, BitVec.getLsbD_xor, ih (by omega), one_bit (by omega)]
    by_cases e : j = n
    · subst e; simp
    · by_cases hl : j < n
      · have : j < n + 1 := by omega
        simp [hl, e, this]
      · have : ¬ j < n + 1 := by omega
        simp [hl, e, this]
theorem fb_pk (f : Nat → Bool) : fb (pk f 128) = (List.range 128).map f := by
  unfold fb
  apply List.map_congr_left
  intro i hi
  rw [pk_bits f 128 (Nat.le_refl _)]
  have : i < 128 := by simpa using hi
  simp [this]
/-- Bit i of bytes, the first one the highest of the first byte. -/
def bitB (l : List UInt8) (i : Nat) : Bool := decide (i / 8 < l.length) && decide ((l.getD (i / 8) 0 >>> UInt8.ofNat (7 - i % 8)) &&& 1 = 1)
/-- The element of bytes. -/
def feB (l : List UInt8) : Fe := pk (bitB l) 128
theorem fb_feB (l : List UInt8) : fb (feB l) = (List.range 128).map (bitB l) := fb_pk _

theorem fb_xor_at (s x : Fe) {k : Nat} (h : k < 128) : (fb (s ^^^ x)).getD k false = (s.getLsbD k != x.getLsbD k) := by
  rw [fb_at _ h, BitVec.getLsbD_xor]
/-- Moved up by one place. -/
theorem fb_up_at (x : Fe) {k : Nat} (h : k < 128) : (fb (x <<< 1)).getD k false = (decide (0 < k) && x.getLsbD (k - 1)) := by
  rw [fb_at _ h, BitVec.getLsbD_shiftLeft]
  by_cases e : k = 0
  · subst e; simp
  · have : ¬ k < 1 := by omega
    have h0 : 0 < k := by omega
    simp [h, this, h0]

end Go.Proofs.Ytmnlcmgkhgckcaa
