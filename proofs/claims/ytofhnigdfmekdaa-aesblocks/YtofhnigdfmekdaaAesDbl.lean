/-
  The contracts of 'doubled', 'RotateLeft8' and 'bent'. No condition but that bytes are turned by 1 to 7.
-/
import Derived.Test.YtofhnigdfmekdaaAesL
namespace Go.Proofs.Ytofhnigdfmekdaa
open Go.RowKit

theorem b_lt (x : UInt8) : x.toNat < 256 := UInt8.toNat_lt x
theorem b_or (x y : UInt8) : bits .or .u8 (x.toNat : Int) (y.toNat : Int) = ((x ||| y).toNat : Int) := by
  rw [u8_or_nat _ _ (b_lt x) (b_lt y), UInt8.toNat_or]
theorem b_and (x y : UInt8) : bits .and .u8 (x.toNat : Int) (y.toNat : Int) = ((x &&& y).toNat : Int) := by
  rw [u8_and_nat _ _ (b_lt x) (b_lt y), UInt8.toNat_and]
theorem bsh_amount (n : Nat) (h : n < 8) : (UInt8.ofNat n).toNat % 8 = n := by rw [UInt8.toNat_ofNat']; omega
theorem b_shr (x : UInt8) (n : Nat) (h : n < 8) : ((x.toNat : Int) / 2 ^ n) = ((x >>> UInt8.ofNat n).toNat : Int) := by
  rw [UInt8.toNat_shiftRight, Nat.shiftRight_eq_div_pow, bsh_amount n h, Int.natCast_ediv, Int.natCast_pow]
  rfl
theorem b_shl (x : UInt8) (n : Nat) (h : n < 8) : ((x.toNat : Int) * 2 ^ n) % 256 = ((x <<< UInt8.ofNat n).toNat : Int) := by
  rw [UInt8.toNat_shiftLeft, Nat.shiftLeft_eq, bsh_amount n h, Int.natCast_emod, Int.natCast_mul, Int.natCast_pow]
  rfl

theorem b_top (c : UInt8) : (c.toNat : Int) / (128 : Int) = ((c >>> 7).toNat : Int) := b_shr c 7 (by omega)
theorem b_two (c : UInt8) : (c.toNat : Int) * (2 : Int) % (256 : Int) = ((c <<< 1).toNat : Int) := b_shl c 1 (by omega)
theorem dbl_hi {c : UInt8} (h : (c.toNat : Int) / 128 = 1) : bits .xor .u8 ((c.toNat : Int) * 2 % 256) 27 = ((dbl c).toNat : Int) := by
  rw [b_top] at h
  have h1 : c >>> 7 = 1 := UInt8.toNat_inj.1 (by have : (1 : UInt8).toNat = 1 := rfl; omega)
  unfold dbl
  rw [if_pos h1, b_two]
  exact xor_u8 _ 27
theorem dbl_lo {c : UInt8} (h : ¬ (c.toNat : Int) / 128 = 1) : (c.toNat : Int) * 2 % 256 = ((dbl c).toNat : Int) := by
  rw [b_top] at h
  have h1 : ¬ c >>> 7 = 1 := by intro e; rw [e] at h; exact h rfl
  unfold dbl
  rw [if_neg h1, b_two]

theorem oDoubled (w : World) (c : UInt8) :
    Calls Try.prog 20 #[.int .u8 (c.toNat : Int)] w fun e w' => e = .returned (.int .u8 ((dbl c).toNat : Int)) ∧ w = w' := by
  by_cases h : (c.toNat : Int) / 128 = 1
  · have H : Hid (bits .xor .u8 ((c.toNat : Int) * 2 % 256) 27 = ((dbl c).toNat : Int)) := dbl_hi h
    go_enter Try.func20, Try.ntmps20
    go_wp2
    go_ret
    exact ⟨ret_int H.out, rfl⟩
  · have H : Hid ((c.toNat : Int) * 2 % 256 = ((dbl c).toNat : Int)) := dbl_lo h
    have h' : ((c.toNat : Int) / 128 == 1) = false := by simpa using h
    go_enter Try.func20, Try.ntmps20
    go_wp2
    go_ret
    exact ⟨ret_int H.out, rfl⟩

theorem and7 (n : Nat) (h2 : n ≤ 7) : bits .and .u64 (n : Int) 7 = (n : Int) := by
  have : ∀ n : Fin 8, bits .and .u64 (n.val : Int) 7 = (n.val : Int) := by decide +kernel
  exact this ⟨n, by omega⟩
theorem rot_b (x : UInt8) (n : Nat) (h1 : 1 ≤ n) (h2 : n ≤ 7) : bits .or .u8 ((x.toNat : Int) * 2 ^ n % 256) ((x.toNat : Int) / 2 ^ (8 - n)) = ((rotl x n).toNat : Int) := by
  rw [b_shl x n (by omega), b_shr x (8 - n) (by omega), b_or]
  rfl

theorem oRotl8 (w : World) (x : UInt8) (n : Nat) (h1 : 1 ≤ n) (h2 : n ≤ 7) :
    Calls Try.prog 34 #[.int .u8 (x.toNat : Int), .int .i64 (n : Int)] w fun e w' => e = .returned (.int .u8 ((rotl x n).toNat : Int)) ∧ w = w' := by
  have h3 : 1 ≤ (n : Int) := by omega
  have h4 : (n : Int) ≤ 7 := by omega
  have h5 : (0 : Int) ≤ 8 - n := by omega
  have h6 := and7 n h2
  have H := rot_b x n h1 h2
  have HH : Hid _ := H
  clear H
  go_enter Try.func34, Try.ntmps34
  go_wp2
  go_ret
  exact ⟨ret_int HH.out, rfl⟩

theorem bent_step (x : UInt8) (k : Nat) : bits .xor .u8 ((bentS x k).toNat : Int) ((rotl x (k + 1)).toNat : Int) = ((bentS x (k + 1)).toNat : Int) := by
  rw [xor_u8]
  rfl

theorem oBent (w : World) (x : UInt8) :
    Calls Try.prog 19 #[.int .u8 (x.toNat : Int)] w fun e w' => e = .returned (.int .u8 ((bent x).toNat : Int)) ∧ w = w' := by
  have H0 : Hid (bits .xor .u8 (x.toNat : Int) 99 = ((bentS x 0).toNat : Int)) := xor_u8 x 99
  go_enter Try.func19, Try.ntmps19
  go_wp2_with fail
  go_loop [3, 4] (fun o i => ∃ k : Nat, k ≤ 4 ∧ i = .int .i64 ((k : Int) + 1) ∧ o = .int .u8 ((bentS x k).toNat : Int)) (fun _ i => 5 - (intOf i).toNat)
  case atStart => exact ⟨0, by omega, rfl, by rw [H0.out]⟩
  case round =>
    obtain ⟨k, hk, rfl, rfl⟩ := hrel
    by_cases hlt : k < 4
    · have CR : Hid (Calls Try.prog 34 #[.int .u8 (x.toNat : Int), .int .i64 ((k : Int) + 1)] w fun e w' => e = .returned (.int .u8 ((rotl x (k + 1)).toNat : Int)) ∧ w = w') := by
        have := oRotl8 w x (k + 1) (by omega) (by omega)
        rw [show ((k + 1 : Nat) : Int) = (k : Int) + 1 from by omega] at this
        exact this
      have HS : Hid (_ = _) := bent_step x k
      have h1 : (k : Int) + 1 ≤ 4 := by omega
      clear H0
      go_wp2_with (go_at_call 34; refine CR.out.mono ?_; rintro e w1 ⟨rfl, rfl⟩)
      go_round
      case rel => exact ⟨k + 1, by omega, by go_num, by rw [HS.out]⟩
      case measure => simp [intOf]; omega
    · obtain rfl : k = 4 := by omega
      go_wp2
      go_ret
      exact ⟨rfl, rfl⟩

end Go.Proofs.Ytofhnigdfmekdaa
