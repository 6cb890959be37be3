/-
  The contracts of what turns words of 32 bits, in the program and in the reference. Condition: turned by 1 to 31.
-/
import Derived.Test.YtpmdjailpdajkaaDoorSums
namespace Go.Proofs.YtpmdjailpdajkaaDoor
open Go.RowKit

theorem w_lt (x : UInt32) : x.toNat < 4294967296 := UInt32.toNat_lt x
theorem w_add (x y : UInt32) : IntKind.u32.wrap ((x.toNat : Int) + (y.toNat : Int)) = ((x + y).toNat : Int) := by
  rw [IntKind.wrap_u32', UInt32.toNat_add]; omega
theorem w_and (x y : UInt32) : bits .and .u32 (x.toNat : Int) (y.toNat : Int) = ((x &&& y).toNat : Int) := by
  rw [u32_and_nat _ _ (w_lt x) (w_lt y), UInt32.toNat_and]
theorem w_or (x y : UInt32) : bits .or .u32 (x.toNat : Int) (y.toNat : Int) = ((x ||| y).toNat : Int) := by
  rw [u32_or_nat _ _ (w_lt x) (w_lt y), UInt32.toNat_or]
theorem w_xor (x y : UInt32) : bits .xor .u32 (x.toNat : Int) (y.toNat : Int) = ((x ^^^ y).toNat : Int) := by
  rw [u32_xor_nat _ _ (w_lt x) (w_lt y), UInt32.toNat_xor]
theorem sh_amount (n : Nat) (h : n < 32) : (UInt32.ofNat n).toNat % 32 = n := by rw [UInt32.toNat_ofNat']; omega
theorem w_shr (x : UInt32) (n : Nat) (h : n < 32) : ((x.toNat : Int) / 2 ^ n) = ((x >>> UInt32.ofNat n).toNat : Int) := by
  rw [UInt32.toNat_shiftRight, Nat.shiftRight_eq_div_pow, sh_amount n h, Int.natCast_ediv, Int.natCast_pow]
  rfl
theorem w_shl (x : UInt32) (n : Nat) (h : n < 32) : ((x.toNat : Int) * 2 ^ n) % 4294967296 = ((x <<< UInt32.ofNat n).toNat : Int) := by
  rw [UInt32.toNat_shiftLeft, Nat.shiftLeft_eq, sh_amount n h, Int.natCast_emod, Int.natCast_mul, Int.natCast_pow]
  rfl
theorem sub32 (n : Nat) (h : n ≤ 31) : UInt32.ofNat (32 - n) = 32 - UInt32.ofNat n := by
  apply UInt32.toNat_inj.1
  rw [UInt32.toNat_sub, UInt32.toNat_ofNat', UInt32.toNat_ofNat']
  have : (32 : UInt32).toNat = 32 := rfl
  rw [this]
  omega

theorem rot_right (x : UInt32) (n : Nat) (h1 : n ≤ 31) (h2 : 1 ≤ n) : bits .or .u32 ((x.toNat : Int) / 2 ^ n) ((x.toNat : Int) * 2 ^ (32 - n) % 4294967296) = ((rot x (UInt32.ofNat n)).toNat : Int) := by
  rw [w_shr x n (by omega), w_shl x (32 - n) (by omega), w_or, rot, sub32 n h1]
theorem rot_left (x : UInt32) (n : Nat) (h1 : n ≤ 31) (h2 : 1 ≤ n) : bits .or .u32 ((x.toNat : Int) * 2 ^ (32 - n) % 4294967296) ((x.toNat : Int) / 2 ^ (32 - (32 - n))) = ((rot x (UInt32.ofNat n)).toNat : Int) := by
  rw [show 32 - (32 - n) = n from by omega, w_shr x n (by omega), w_shl x (32 - n) (by omega), w_or, rot, sub32 n h1, UInt32.or_comm]

theorem rTurn (w : World) (x : UInt32) (n : Nat) (h1 : n ≤ 31) (h2 : 1 ≤ n) :
    Calls Tryd.prog 38 #[.int .u32 (x.toNat : Int), .int .u64 (n : Int)] w fun e w' => e = .returned (.int .u32 ((rot x (UInt32.ofNat n)).toNat : Int)) ∧ w = w' := by
  have h3 : 1 ≤ (n : Int) := by omega
  have h4 : (n : Int) ≤ 31 := by omega
  have h5 : (0 : Int) ≤ 32 - n := by omega
  have H := rot_right x n h1 h2
  have HH : Hid _ := H
  clear H
  go_enter Tryd.func38, Tryd.ntmps38
  go_wp2
  go_ret
  exact ⟨ret_int HH.out, rfl⟩

theorem neg_and (n : Nat) (h1 : n ≤ 31) (h2 : 1 ≤ n) : bits .and .u64 (IntKind.u64.wrap (-(n : Int))) 31 = 32 - (n : Int) := by
  have : ∀ n : Fin 32, 1 ≤ n.val → bits .and .u64 (IntKind.u64.wrap (-(n.val : Int))) 31 = 32 - (n.val : Int) := by decide +kernel
  exact this ⟨n, by omega⟩ h2

theorem oRotl (w : World) (x : UInt32) (n : Nat) (h1 : n ≤ 31) (h2 : 1 ≤ n) :
    Calls Tryd.prog 47 #[.int .u32 (x.toNat : Int), .int .i64 (-(n : Int))] w fun e w' => e = .returned (.int .u32 ((rot x (UInt32.ofNat n)).toNat : Int)) ∧ w = w' := by
  have h3 : 1 ≤ (n : Int) := by omega
  have h4 : (n : Int) ≤ 31 := by omega
  have h5 : (0 : Int) ≤ 32 - n := by omega
  have h6 := neg_and n h1 h2
  have H := rot_left x n h1 h2
  have HH : Hid _ := H
  clear H
  go_enter Tryd.func47, Tryd.ntmps47
  go_wp2
  go_ret
  exact ⟨ret_int HH.out, rfl⟩

theorem oRight (w : World) (x : UInt32) (n : Nat) (h1 : n ≤ 31) (h2 : 1 ≤ n) :
    Calls Tryd.prog 46 #[.int .u32 (x.toNat : Int), .int .i64 (n : Int)] w fun e w' => e = .returned (.int .u32 ((rot x (UInt32.ofNat n)).toNat : Int)) ∧ w = w' := by
  go_enter Tryd.func46, Tryd.ntmps46
  go_wp2_with fail
  refine (oRotl w x n h1 h2).mono ?_
  rintro e w' ⟨rfl, rfl⟩
  go_wp2
  go_ret
  exact ⟨rfl, rfl⟩

theorem w_shr3 (x : UInt32) : (x.toNat : Int) / (8 : Int) = ((x >>> 3).toNat : Int) := w_shr x 3 (by omega)
theorem w_shr10 (x : UInt32) : (x.toNat : Int) / (1024 : Int) = ((x >>> 10).toNat : Int) := w_shr x 10 (by omega)

theorem oEarly (w : World) (x : UInt32) :
    Calls Tryd.prog 43 #[.int .u32 (x.toNat : Int)] w fun e w' => e = .returned (.int .u32 ((sgA x).toNat : Int)) ∧ w = w' := by
  have c1 := oRight w x 7 (by omega) (by omega)
  have c2 := oRight w x 18 (by omega) (by omega)
  go_enter Tryd.func43, Tryd.ntmps43
  go_wp2_with fail
  refine c1.mono ?_
  rintro e w' ⟨rfl, rfl⟩
  go_wp2_with fail
  refine c2.mono ?_
  rintro e w' ⟨rfl, rfl⟩
  go_wp2
  go_ret
  exact ⟨ret_int (by rw [w_xor, w_shr3, w_xor]; rfl), rfl⟩

theorem oLate (w : World) (x : UInt32) :
    Calls Tryd.prog 44 #[.int .u32 (x.toNat : Int)] w fun e w' => e = .returned (.int .u32 ((sgB x).toNat : Int)) ∧ w = w' := by
  have c1 := oRight w x 17 (by omega) (by omega)
  have c2 := oRight w x 19 (by omega) (by omega)
  go_enter Tryd.func44, Tryd.ntmps44
  go_wp2_with fail
  refine c1.mono ?_
  rintro e w' ⟨rfl, rfl⟩
  go_wp2_with fail
  refine c2.mono ?_
  rintro e w' ⟨rfl, rfl⟩
  go_wp2
  go_ret
  exact ⟨ret_int (by rw [w_xor, w_shr10, w_xor]; rfl), rfl⟩

theorem oTurns (w : World) (x : UInt32) (i j k : Nat) (hi : i ≤ 31) (hi1 : 1 ≤ i) (hj : j ≤ 31) (hj1 : 1 ≤ j) (hk : k ≤ 31) (hk1 : 1 ≤ k) :
    Calls Tryd.prog 45 #[.int .u32 (x.toNat : Int), .int .i64 (i : Int), .int .i64 (j : Int), .int .i64 (k : Int)] w fun e w' => e = .returned (.int .u32 ((rot x (UInt32.ofNat i) ^^^ rot x (UInt32.ofNat j) ^^^ rot x (UInt32.ofNat k)).toNat : Int)) ∧ w = w' := by
  have c1 := oRight w x i hi hi1
  have c2 := oRight w x j hj hj1
  have c3 := oRight w x k hk hk1
  go_enter Tryd.func45, Tryd.ntmps45
  go_wp2_with fail
  refine c1.mono ?_
  rintro e w' ⟨rfl, rfl⟩
  go_wp2_with fail
  refine c2.mono ?_
  rintro e w' ⟨rfl, rfl⟩
  go_wp2_with fail
  refine c3.mono ?_
  rintro e w' ⟨rfl, rfl⟩
  go_wp2
  go_ret
  exact ⟨ret_int (by rw [w_xor, w_xor]), rfl⟩

end Go.Proofs.YtpmdjailpdajkaaDoor
