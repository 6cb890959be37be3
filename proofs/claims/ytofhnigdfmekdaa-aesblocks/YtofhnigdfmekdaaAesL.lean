/-
  Plain mathematics of layer 4: bytes that are doubled, multiplied, inverted, the box by the powers of three and by its definition. No condition; nothing of the program.
-/
import Derived.Test.YtofhnigdfmekdaaUByte
import Derived.Test.YtofhnigdfmekdaaXorO
namespace Go.Proofs.Ytofhnigdfmekdaa
open Go.RowKit

/-- A byte times two. -/
def dbl (c : UInt8) : UInt8 := if c >>> 7 = 1 then (c <<< 1) ^^^ 27 else c <<< 1

/-- Two bytes multiplied: what is gathered, and the first one doubled, behind so many bits. -/
def tmsA (a b : UInt8) : Nat → UInt8
  | 0 => 0
  | i + 1 => if (b >>> UInt8.ofNat i) &&& 1 = 1 then tmsA a b i ^^^ (dblN a i) else tmsA a b i
where dblN (a : UInt8) : Nat → UInt8
  | 0 => a
  | i + 1 => dbl (dblN a i)
def tms (a b : UInt8) : UInt8 := tmsA a b 8

/-- The first byte from i on, of so many, that times c is 1; else 0. -/
def srch (c : UInt8) : Nat → Nat → UInt8
  | 0, _ => 0
  | n + 1, i => if tms c (UInt8.ofNat i) = 1 then UInt8.ofNat i else srch c n (i + 1)
def inv (c : UInt8) : UInt8 := srch c 255 1

/-- A bit of the box. -/
def bxbit (x : UInt8) (i : Nat) : UInt8 := x >>> UInt8.ofNat i ^^^ x >>> UInt8.ofNat ((i + 4) % 8) ^^^ x >>> UInt8.ofNat ((i + 5) % 8) ^^^ x >>> UInt8.ofNat ((i + 6) % 8) ^^^ x >>> UInt8.ofNat ((i + 7) % 8) ^^^ 99 >>> UInt8.ofNat i
def bxs (x : UInt8) : Nat → UInt8
  | 0 => 0
  | i + 1 => bxs x i ||| ((bxbit x i &&& 1) <<< UInt8.ofNat i)
/-- The box, by its definition. -/
def box (c : UInt8) : UInt8 := bxs (inv c) 8

/-- The powers of three. -/
def p3 : Nat → UInt8
  | 0 => 1
  | i + 1 => p3 i ^^^ dbl (p3 i)
/-- The inverses, behind so many powers. -/
def p3s : List UInt8 := (List.range 255).map p3
def invS : Nat → List UInt8
  | 0 => List.replicate 256 0
  | i + 1 => (invS i).set (p3s.getD i 0).toNat (p3s.getD ((255 - i) % 255) 0)
def rotl (x : UInt8) (n : Nat) : UInt8 := x <<< UInt8.ofNat n ||| x >>> UInt8.ofNat (8 - n)
def bentS (x : UInt8) : Nat → UInt8
  | 0 => x ^^^ 99
  | i + 1 => bentS x i ^^^ rotl x (i + 1)
def bent (x : UInt8) : UInt8 := bentS x 4

/-- A byte of the tables. -/
def boxT : List UInt8 := (List.range 256).map fun c => box (UInt8.ofNat c)
def twT : List UInt8 := (List.range 256).map fun c => dbl (UInt8.ofNat c)
def tabT : List UInt8 := boxT ++ twT
theorem boxT_length : boxT.length = 256 := by simp [boxT]
theorem twT_length : twT.length = 256 := by simp [twT]
theorem tabT_length : tabT.length = 512 := by simp [tabT, boxT, twT]

theorem tab_box (x : UInt8) : bt tabT x.toNat = ((box x).toNat : Int) := by
  have h := UInt8.toNat_lt x
  unfold bt tabT boxT
  rw [List.getD_eq_getElem?_getD, List.getElem?_append_left (by simp; omega)]
  simp [h]
theorem tab_tw (x : UInt8) : bt tabT (256 + x.toNat) = ((dbl x).toNat : Int) := by
  have h := UInt8.toNat_lt x
  unfold bt tabT
  rw [List.getD_eq_getElem?_getD, List.getElem?_append_right (by rw [boxT_length]; omega), boxT_length, Nat.add_sub_cancel_left]
  unfold twT
  simp [h]
theorem box_at (x : UInt8) : bt boxT x.toNat = ((box x).toNat : Int) := by
  have h := UInt8.toNat_lt x
  unfold bt boxT
  simp [List.getD_eq_getElem?_getD, h]

end Go.Proofs.Ytofhnigdfmekdaa
