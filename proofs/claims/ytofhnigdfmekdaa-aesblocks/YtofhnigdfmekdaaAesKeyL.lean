/-
  Plain mathematics of the keys of all rounds: words of four bytes, one behind the other. No condition; nothing of the program.
-/
import Derived.Test.YtofhnigdfmekdaaAesBlkL
namespace Go.Proofs.Ytofhnigdfmekdaa
open Go.RowKit

/-- Two to the power of n. -/
def dpow : Nat → UInt8
  | 0 => 1
  | n + 1 => dbl (dpow n)
/-- A word of four bytes. -/
def wd (F : List UInt8) (j : Nat) : List UInt8 := (F.drop (4 * j)).take 4
/-- What a word becomes ahead of the i-th one. -/
def tmpW (x : List UInt8) (i : Nat) : List UInt8 :=
  if i % 8 = 0 then [box (x.getD 1 0) ^^^ dpow ((i - 1) / 8), box (x.getD 2 0), box (x.getD 3 0), box (x.getD 0 0)]
  else if i % 8 = 4 then x.map box else x
/-- So many words, one behind the other. -/
def fl (key : List UInt8) : Nat → List UInt8
  | 0 => []
  | i + 1 => fl key i ++ (if i < 8 then wd key i else xorL (wd (fl key i) (i - 8)) (tmpW (wd (fl key i) (i - 1)) i))

theorem wd_length {F : List UInt8} {j : Nat} (h : 4 * j + 4 ≤ F.length) : (wd F j).length = 4 := by simp [wd]; omega
theorem tmpW_length {x : List UInt8} (h : x.length = 4) (i : Nat) : (tmpW x i).length = 4 := by
  unfold tmpW
  split
  · rfl
  · split
    · rw [List.length_map, h]
    · exact h
theorem fl_length {key : List UInt8} (hk : key.length = 32) (i : Nat) : (fl key i).length = 4 * i := by
  induction i with
  | zero => rfl
  | succ i ih =>
    rw [fl, List.length_append, ih]
    split
    · rw [wd_length (by omega)]; omega
    · have h1 : (wd (fl key i) (i - 8)).length = 4 := wd_length (by omega)
      have h2 : (tmpW (wd (fl key i) (i - 1)) i).length = 4 := tmpW_length (wd_length (by omega)) i
      rw [xorL_length (by omega), h1]
      omega
theorem fl_take {key : List UInt8} (hk : key.length = 32) (i n : Nat) : (fl key (i + n)).take (4 * i) = fl key i := by
  induction n with
  | zero => rw [Nat.add_zero, List.take_of_length_le (by rw [fl_length hk]; omega)]
  | succ n ih =>
    rw [← Nat.add_assoc, fl, List.take_append_of_le_length (by rw [fl_length hk]; omega), ih]
theorem wd_take (F : List UInt8) {j i : Nat} (h : j < i) : wd (F.take (4 * i)) j = wd F j := by
  unfold wd
  rw [List.drop_take, List.take_take]
  congr 1
  omega
theorem wd_fl {key : List UInt8} (hk : key.length = 32) {j i n : Nat} (h : j < i) : wd (fl key (i + n)) j = wd (fl key i) j := by
  rw [← wd_take (fl key (i + n)) h, fl_take hk]

/-- All rounds' keys. -/
def keyF (key : List UInt8) : List UInt8 := fl key 60
theorem keyF_length {key : List UInt8} (hk : key.length = 32) : (keyF key).length = 240 := fl_length hk 60
theorem wd_last {key : List UInt8} (hk : key.length = 32) {i : Nat} (hi : i < 60) : wd (keyF key) i = (if i < 8 then wd key i else xorL (wd (fl key i) (i - 8)) (tmpW (wd (fl key i) (i - 1)) i)) := by
  obtain ⟨n, hn⟩ : ∃ n, 60 = (i + 1) + n := ⟨59 - i, by omega⟩
  have h1 : wd (keyF key) i = wd (fl key (i + 1)) i := by
    unfold keyF
    rw [hn, wd_fl hk (Nat.lt_succ_self i)]
  have h2 := fl_length hk i
  have h3 := fl_length hk (i + 1)
  rw [fl, List.length_append, h2] at h3
  rw [h1]
  conv => lhs; rw [fl]
  unfold wd at *
  rw [List.drop_append, List.drop_eq_nil_of_le (by omega), h2, Nat.sub_self, List.drop_zero, List.nil_append, List.take_of_length_le (by omega)]
theorem wd_low {key : List UInt8} (hk : key.length = 32) {i : Nat} (hi : i < 8) : wd (keyF key) i = wd key i := by
  rw [wd_last hk (by omega), if_pos hi]
theorem wd_high {key : List UInt8} (hk : key.length = 32) {i : Nat} (hi : i < 60) (h8 : 8 ≤ i) : wd (keyF key) i = xorL (wd (keyF key) (i - 8)) (tmpW (wd (keyF key) (i - 1)) i) := by
  obtain ⟨n, hn⟩ : ∃ n, 60 = i + n := ⟨60 - i, by omega⟩
  have e : ∀ j, j < i → wd (keyF key) j = wd (fl key i) j := fun j hj => by
    unfold keyF
    rw [hn, wd_fl hk hj]
  rw [wd_last hk hi, if_neg (by omega), e (i - 8) (by omega), e (i - 1) (by omega)]

/-- One more word. -/
theorem fill_word {F : List UInt8} (hF : F.length = 240) {i : Nat} (hi : i < 60) : (fill F 240 (4 * i)).take (4 * i) ++ wd F i ++ (fill F 240 (4 * i)).drop (4 * i + 4) = fill F 240 (4 * (i + 1)) := by
  have hl : (F.take (4 * i)).length = 4 * i := by simp; omega
  have e : (F.take (4 * i)).drop (4 * i + 4) = [] := List.drop_eq_nil_of_le (by omega)
  unfold fill wd
  rw [List.take_append_of_le_length (by omega), List.take_of_length_le (by omega), List.drop_append, e, List.nil_append, hl, List.drop_replicate, ← List.take_add]
  congr 2
  omega
theorem fill_wd {F : List UInt8} (hF : F.length = 240) {i j : Nat} (hi : i ≤ 60) (hj : j < i) : wd (fill F 240 (4 * i)) j = wd F j := by
  rw [← wd_take F hj]
  unfold fill wd
  rw [List.drop_append_of_le_length (by simp; omega), List.take_append_of_le_length (by simp; omega)]

end Go.Proofs.Ytofhnigdfmekdaa
