/-
  The chapter's example, reckoned by the kernel. No condition; nothing of the program.
-/
import Derived.Test.YtofhnigdfmekdaaAesSeal
import Derived.Test.YtofhnigdfmekdaaAesKeyL
namespace Go.Proofs.Ytofhnigdfmekdaa
open Go.RowKit

def wKey : List UInt8 := (List.range 32).map UInt8.ofNat
def wBlk : List UInt8 := (List.range 16).map fun i => UInt8.ofNat (17 * i)
set_option maxRecDepth 100000 in
theorem wSeal : aesL (keyF wKey) wBlk = [0x8e, 0xa2, 0xb7, 0xca, 0x51, 0x67, 0x45, 0xbf, 0xea, 0xfc, 0x49, 0x90, 0x4b, 0x49, 0x60, 0x89] := by decide +kernel

end Go.Proofs.Ytofhnigdfmekdaa
