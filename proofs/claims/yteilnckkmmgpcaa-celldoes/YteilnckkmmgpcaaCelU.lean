/-
  Small numbers of layer 10's statements. No condition.
-/
import Derived.Test.YteilnckkmmgpcaaCelV
namespace Go.Proofs.Yteilnckkmmgpcaa
open Go.RowKit

theorem u8_w10 (y : UInt8) : wrap64 (y.toNat : Int) = (y.toNat : Int) := by
  have : y.toNat < 256 := y.toNat_lt
  unfold wrap64
  omega
theorem u8_mod10 (y : UInt8) : 0 ≤ (y.toNat : Int).tmod 4 ∧ (y.toNat : Int).tmod 4 < 4 := by
  rw [Int.tmod_eq_emod_of_nonneg (by omega)]
  omega

end Go.Proofs.Yteilnckkmmgpcaa
