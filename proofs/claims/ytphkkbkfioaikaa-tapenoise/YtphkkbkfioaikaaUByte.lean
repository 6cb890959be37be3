/-
  Bytes as numbers: what the model's operations on eight bits are. No condition; nothing of the program.
-/
import Derived.Test.YtphkkbkfioaikaaOwn
namespace Go.Proofs.Ytphkkbkfioaikaa
open Go.RowKit

theorem xor_u8 (x y : UInt8) : bits .xor .u8 (x.toNat : Int) (y.toNat : Int) = ((x ^^^ y).toNat : Int) := by
  rw [u8_xor_nat _ _ (UInt8.toNat_lt _) (UInt8.toNat_lt _), UInt8.toNat_xor]

theorem one_u8 (x : UInt8) : UInt8.ofNat ((x.toNat : Int)).toNat = x := by simp
theorem u8_hi (x : UInt8) : (x.toNat : Int) ≤ 255 := by have := UInt8.toNat_lt x; omega

theorem Own.bs3 {w : World} {base : Nat} {v : Value} {l : List UInt8} (h : Own w base v l) : ∃ a m c, v = .slice a m c ∧ Bs w a m c l := by
  obtain ⟨a, c, rfl, hb⟩ := h.bs
  exact ⟨a, _, c, rfl, hb⟩
theorem b_lt (x : UInt8) : x.toNat < 256 := UInt8.toNat_lt x
theorem b_or (x y : UInt8) : bits .or .u8 (x.toNat : Int) (y.toNat : Int) = ((x ||| y).toNat : Int) := by
  rw [u8_or_nat _ _ (b_lt x) (b_lt y), UInt8.toNat_or]
theorem b_and (x y : UInt8) : bits .and .u8 (x.toNat : Int) (y.toNat : Int) = ((x &&& y).toNat : Int) := by
  rw [u8_and_nat _ _ (b_lt x) (b_lt y), UInt8.toNat_and]
theorem bsh_amount (n : Nat) (h : n < 8) : (UInt8.ofNat n).toNat % 8 = n := by rw [UInt8.toNat_ofNat']; omega
theorem b_shr (x : UInt8) (n : Nat) (h : n < 8) : ((x.toNat : Int) / 2 ^ n) = ((x >>> UInt8.ofNat n).toNat : Int) := by
  rw [UInt8.toNat_shiftRight, Nat.shiftRight_eq_div_pow, bsh_amount n h, Int.natCast_ediv, Int.natCast_pow]
  rfl
theorem b_shl (x : UInt8) (n : Nat) (h : n < 8) : ((x.toNat : Int) * 2 ^ n) % 256 = ((x <<< UInt8.ofNat n).toNat : Int) := by
  rw [UInt8.toNat_shiftLeft, Nat.shiftLeft_eq, bsh_amount n h, Int.natCast_emod, Int.natCast_mul, Int.natCast_pow]
  rfl
theorem bit_and (y : UInt8) : bits .and .u8 (y.toNat : Int) 1 = ((y &&& 1).toNat : Int) := b_and y 1
theorem one_not {z : UInt8} (h : ¬ z = 1) : ((z.toNat : Int) == 1) = false := by
  simp
  intro e
  exact h (UInt8.toNat_inj.1 (by have : (1 : UInt8).toNat = 1 := rfl; omega))
theorem nat_byte {k : Nat} (h : k < 256) : ((UInt8.ofNat k).toNat : Int) = (k : Int) := by rw [UInt8.toNat_ofNat', Nat.mod_eq_of_lt h]

end Go.Proofs.Ytphkkbkfioaikaa
