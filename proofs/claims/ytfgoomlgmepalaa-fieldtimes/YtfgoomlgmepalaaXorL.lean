/-
  Two rows of bytes, one by one exclusive-ored: plain. No condition; nothing of the program.
-/
import Derived.Test.YtfgoomlgmepalaaStepApp
namespace Go.Proofs.Ytfgoomlgmepalaa
open Go.RowKit

def xorL (l m : List UInt8) : List UInt8 := List.zipWith (· ^^^ ·) l m

theorem xor_bt {l m : List UInt8} {k : Nat} (h1 : k < l.length) (h2 : k < m.length) : bits .xor .u8 (bt l k) (bt m k) = ((l[k] ^^^ m[k]).toNat : Int) := by
  rw [bt_of_lt h1, bt_of_lt h2, u8_xor_nat _ _ (UInt8.toNat_lt _) (UInt8.toNat_lt _), UInt8.toNat_xor]
theorem xor_eq {l m : List UInt8} {k : Nat} (h1 : k < l.length) (h2 : k < m.length) : ∃ x : UInt8, bits .xor .u8 (bt l k) (bt m k) = (x.toNat : Int) ∧ xorL (l.take (k + 1)) (m.take (k + 1)) = xorL (l.take k) (m.take k) ++ [x] := by
  refine ⟨l[k] ^^^ m[k], xor_bt h1 h2, ?_⟩
  unfold xorL
  rw [take_snoc h1, take_snoc h2, List.zipWith_append (by simp; omega)]
  rfl

end Go.Proofs.Ytfgoomlgmepalaa
