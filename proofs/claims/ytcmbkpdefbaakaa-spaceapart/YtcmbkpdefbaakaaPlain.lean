/-
  Plain mathematics on lists of bytes and numbers: the number of bytes, the bytes of a number, there and back. No condition; nothing of the program.
-/
import Derived.Test.YtcmbkpdefbaakaaBs
import Derived.Laws.BitsAllLaws
namespace Go.Proofs.Ytcmbkpdefbaakaa
open Go.RowKit

/-- The number of bytes, the highest first, in 64 bits. -/
def getN (l : List UInt8) : Nat := l.foldl (fun a x => (a * 256 + x.toNat) % 18446744073709551616) 0

theorem getN_snoc (l : List UInt8) (x : UInt8) : getN (l ++ [x]) = (getN l * 256 + x.toNat) % 18446744073709551616 := by
  unfold getN
  rw [List.foldl_append]
  rfl

theorem getN_lt (l : List UInt8) : getN l < 18446744073709551616 := by
  unfold getN
  suffices h : ∀ (m : List UInt8) (a : Nat), a < 18446744073709551616 → m.foldl (fun a x => (a * 256 + x.toNat) % 18446744073709551616) a < 18446744073709551616 from h l 0 (by omega)
  intro m
  induction m with
  | nil => intro a h; exact h
  | cons x m ih => intro a _; exact ih _ (Nat.mod_lt _ (by omega))

/-- The lowest so many bytes of a number, the highest first. -/
def putL (n : Nat) : Nat → List UInt8
  | 0 => []
  | s + 1 => putL (n / 256) s ++ [UInt8.ofNat n]

theorem putL_length (s : Nat) : ∀ n, (putL n s).length = s := by
  induction s with
  | zero => intro n; rfl
  | succ s ih => intro n; simp [putL, ih]

theorem putL_cons (t : Nat) : ∀ n, putL n (t + 1) = UInt8.ofNat (n / 256 ^ t) :: putL n t := by
  induction t with
  | zero => intro n; simp [putL]
  | succ t ih =>
    intro n
    rw [putL, ih (n / 256)]
    conv => rhs; rw [putL]
    rw [Nat.div_div_eq_div_mul, Nat.pow_succ, Nat.mul_comm 256]
    simp

theorem putL_zero (s : Nat) : putL 0 s = List.replicate s 0 := by
  induction s with
  | zero => rfl
  | succ s ih => rw [putL, Nat.zero_div, ih]; exact (List.replicate_succ' ..).symm

/-- Behind so many bytes nothing but noughts is left. -/
theorem putL_rest (t : Nat) (d : Nat) : ∀ n, n / 256 ^ t = 0 → List.replicate d 0 ++ putL n t = putL n (d + t) := by
  induction d with
  | zero => intro n _; simp
  | succ d ih =>
    intro n h
    rw [show d + 1 + t = (d + t) + 1 from by omega, putL_cons, ← ih n h, List.replicate_succ]
    have : n / 256 ^ (d + t) = 0 := by
      rw [Nat.pow_add, Nat.mul_comm, ← Nat.div_div_eq_div_mul, h, Nat.zero_div]
    rw [this]
    rfl

theorem getN_putL (s : Nat) : ∀ n, getN (putL n s) = n % 256 ^ s % 18446744073709551616 := by
  induction s with
  | zero => intro n; simp [putL, getN, Nat.mod_one]
  | succ s ih =>
    intro n
    rw [putL, getN_snoc, ih]
    have e : n % 256 ^ (s + 1) = (n / 256) % 256 ^ s * 256 + n % 256 := by
      rw [Nat.pow_succ, Nat.mul_comm, Nat.mod_mul]
      omega
    have e2 : (UInt8.ofNat n).toNat = n % 256 := by simp
    rw [e, e2]
    omega

theorem getN_put8 (n : Nat) (h : n < 18446744073709551616) : getN (putL n 8) = n := by
  rw [getN_putL]
  have : (256 : Nat) ^ 8 = 18446744073709551616 := by decide
  rw [this]
  omega

theorem bt_of_lt {l : List UInt8} {k : Nat} (h : k < l.length) : bt l k = (l[k].toNat : Int) := by
  unfold bt
  simp [List.getD_eq_getElem?_getD, h]

theorem take_snoc {l : List UInt8} {k : Nat} (h : k < l.length) : l.take (k + 1) = l.take k ++ [l[k]] := by
  rw [List.take_succ_eq_append_getElem h]

theorem get_step {l : List UInt8} {k : Nat} (h : k < l.length) : IntKind.u64.wrap (IntKind.u64.wrap ((getN (l.take k) : Int) * 256) + bt l k) = (getN (l.take (k + 1)) : Int) := by
  rw [take_snoc h, getN_snoc, bt_of_lt h, IntKind.wrap_u64, IntKind.wrap_u64]
  omega

theorem get_step_or {l : List UInt8} {k : Nat} (h : k < l.length) : bits .or .u64 (IntKind.u64.wrap ((getN (l.take k) : Int) * 256)) (bt l k) = (getN (l.take (k + 1)) : Int) := by
  have hx := UInt8.toNat_lt l[k]
  rw [take_snoc h, getN_snoc, bt_of_lt h, IntKind.wrap_u64]
  have e : ((getN (l.take k) : Int) * 256) % 18446744073709551616 = ((getN (l.take k) * 256 % 18446744073709551616 : Nat) : Int) := by omega
  rw [e, u64_or_nat _ _ (Nat.mod_lt _ (by omega)) (by omega)]
  rw [nat_join 8 _ _ (by omega) (by omega)]
  omega

theorem get_end {l : List UInt8} {n k : Nat} (H : Hid (l.length = n)) (h : ¬ k < n) : ((getN (l.take k) : Nat) : Int) = (getN l : Nat) := by
  rw [List.take_of_length_le (by rw [H.out]; omega)]

end Go.Proofs.Ytcmbkpdefbaakaa
