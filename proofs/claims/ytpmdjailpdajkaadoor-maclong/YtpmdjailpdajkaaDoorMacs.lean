/-
  Plain mathematics: sums under a key, and keys from keys, on lists of bytes. No condition; nothing of the program.
-/
import Derived.Test.YtpmdjailpdajkaaDoorSums
namespace Go.Proofs.YtpmdjailpdajkaaDoor
open Go.RowKit

def xorB (l : List UInt8) (x : UInt8) : List UInt8 := l.map (· ^^^ x)
theorem xorB_length (l : List UInt8) (x : UInt8) : (xorB l x).length = l.length := by simp [xorB]

/-- A key, or its sum where it is too long. -/
def keyL (key : List UInt8) : List UInt8 := if key.length ≤ 64 then key else sumL key
/-- A key's block. -/
def blkL (key : List UInt8) : List UInt8 := keyL key ++ List.replicate (64 - (keyL key).length) 0
def macL (key text : List UInt8) : List UInt8 := sumL (xorB (blkL key) 92 ++ sumL (xorB (blkL key) 54 ++ text))

/-- The i-th link of a key's chain; none ahead of the first. -/
def chn (key info : List UInt8) : Nat → List UInt8
  | 0 => []
  | i + 1 => macL key (chn key info i ++ info ++ [UInt8.ofNat (i + 1)])
/-- The first links, one behind the other. -/
def outC (key info : List UInt8) : Nat → List UInt8
  | 0 => []
  | i + 1 => outC key info i ++ chn key info (i + 1)
def expL (key info : List UInt8) (n : Nat) : List UInt8 := (outC key info ((n + 31) / 32)).take n

set_option maxRecDepth 100000 in
theorem mac_jefe : macL [74, 101, 102, 101] ([119, 104, 97, 116, 32, 100, 111, 32, 121, 97, 32, 119, 97, 110, 116, 32] ++ [102, 111, 114, 32, 110, 111, 116, 104, 105, 110, 103, 63]) = [91, 220, 193, 70, 191, 96, 117, 78, 106, 4, 36, 38, 8, 149, 117, 199, 90, 0, 63, 8, 157, 39, 57, 131, 157, 236, 88, 185, 100, 236, 56, 67] := by decide +kernel

end Go.Proofs.YtpmdjailpdajkaaDoor
