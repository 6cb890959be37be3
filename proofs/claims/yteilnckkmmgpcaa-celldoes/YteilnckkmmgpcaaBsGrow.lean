/-
  Slices of bytes in a world that has only grown. No condition; no statement of the seat is proved here.
-/
import Derived.Test.YteilnckkmmgpcaaGrow
import Derived.Test.YteilnckkmmgpcaaBlk
namespace Go.Proofs.Yteilnckkmmgpcaa
open Go.RowKit

theorem Bs.grows {w w' : World} {a : Option Addr} {n c : Nat} {l : List UInt8} (h : Bs w a n c l) (hg : Grows w w') : Bs w' a n c l := h.below hg (Nat.le_refl _)

end Go.Proofs.Yteilnckkmmgpcaa
