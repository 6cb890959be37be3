/-
  8 texts in one. No statement of the seat is proved here.
-/
import Derived.Test.YtlenmkhmkommcaaGreatJ12
import Derived.Deep.DeepCutAuto
import Derived.Deep.RegionHeld3
/-
  The contract of the cipher's Block. Conditions: the tables and the keys of all rounds lie where the pointer leads; a block of 16 bytes.
-/
namespace Go.Proofs.YtlenmkhmkommcaaGreat
open Go.RowKit

/-- The key of a round, out of all rounds' keys. -/
def rk (K : List UInt8) (r : Nat) : List UInt8 := (K.drop (16 * r)).take 16
theorem rk_length {K : List UInt8} (hK : K.length = 240) {r : Nat} (hr : r ≤ 14) : (rk K r).length = 16 := by simp [rk, hK]; omega
/-- A block, behind so many rounds. -/
def blkS (K b : List UInt8) : Nat → List UInt8
  | 0 => xorL b (rk K 0)
  | r + 1 => xorL (if r + 1 < 14 then mixL (shf (blkS K b r)) else shf (blkS K b r)) (rk K (r + 1))
def aesL (K b : List UInt8) : List UInt8 := blkS K b 14
theorem blkS_length {K b : List UInt8} (hK : K.length = 240) (hb : b.length = 16) : ∀ {r : Nat}, r ≤ 14 → (blkS K b r).length = 16
  | 0, hr => by rw [blkS, xorL_length (by rw [hb, rk_length hK hr]), hb]
  | r + 1, hr => by
    rw [blkS]
    split
    · rw [xorL_length (by rw [mixL_length, rk_length hK hr]), mixL_length]
    · rw [xorL_length (by rw [shf_length, rk_length hK hr]), shf_length]

/-- A cipher: the tables, and all rounds' keys behind them. -/
def Cip (w : World) (g : Nat) (K : List UInt8) : Prop := w.rangeAt g 0 (cs (tabT ++ K))
theorem Cip.tab {w : World} {g : Nat} {K : List UInt8} (h : Cip w g K) : Tab w g := fun j v hv => by
  refine h j v ?_
  rw [cs_append, List.getElem?_append_left (List.getElem?_eq_some_iff.1 hv).1]
  exact hv
theorem Cip.key {w : World} {g : Nat} {K : List UInt8} (h : Cip w g K) (r : Nat) : w.rangeAt g (512 + 16 * r) (cs (rk K r)) := fun j v hv => by
  have := h (512 + 16 * r + j) v (by
    rw [cs_append, List.getElem?_append_right (by rw [cs_length, tabT_length]; omega), cs_length, tabT_length, show 512 + 16 * r + j - 512 = 16 * r + j from by omega]
    exact cs_sub hv)
  rw [Nat.zero_add] at this
  exact this
theorem Cip.below {w w' : World} {g : Nat} {K : List UInt8} (h : Cip w g K) {B : Nat} (hb : Below B w w') (hB : g < B) : Cip w' g K := fun j v hv => by
  rw [hb.cell (p := ⟨g, 0 + j, none⟩) hB]
  exact h j v hv
attribute [local go_sem ↓] ld16_in st16_in
attribute [local go_sem] ld16_run row16_drew st16_run okS_drew
end Go.Proofs.YtlenmkhmkommcaaGreat

/-
  Plain mathematics of the keys of all rounds: words of four bytes, one behind the other. No condition; nothing of the program.
-/
namespace Go.Proofs.YtlenmkhmkommcaaGreat
open Go.RowKit

/-- Two to the power of n. -/
def dpow : Nat → UInt8
  | 0 => 1
  | n + 1 => dbl (dpow n)
/-- A word of four bytes. -/
def wd (F : List UInt8) (j : Nat) : List UInt8 := (F.drop (4 * j)).take 4
/-- What a word becomes ahead of the i-th one. -/
def tmpW (x : List UInt8) (i : Nat) : List UInt8 :=
  if i % 8 = 0 then [box (x.getD 1 0) ^^^ dpow ((i - 1) / 8), box (x.getD 2 0), box (x.getD 3 0), box (x.getD 0 0)]
  else if i % 8 = 4 then x.map box else x
/-- So many words, one behind the other. -/
def fl (key : List UInt8) : Nat → List UInt8
  | 0 => []
  | i + 1 => fl key i ++ (if i < 8 then wd key i else xorL (wd (fl key i) (i - 8)) (tmpW (wd (fl key i) (i - 1)) i))

theorem wd_length {F : List UInt8} {j : Nat} (h : 4 * j + 4 ≤ F.length) : (wd F j).length = 4 := by simp [wd]; omega
theorem tmpW_length {x : List UInt8} (h : x.length = 4) (i : Nat) : (tmpW x i).length = 4 := by
  unfold tmpW
  split
  · rfl
  · split
    · rw [List.length_map, h]
    · exact h
theorem fl_length {key : List UInt8} (hk : key.length = 32) (i : Nat) : (fl key i).length = 4 * i := by
  induction i with
  | zero => rfl
  | succ i ih =>
    rw [fl, List.length_append, ih]
    split
    · rw [wd_length (by omega)]; omega
    · have h1 : (wd (fl key i) (i - 8)).length = 4 := wd_length (by omega)
      have h2 : (tmpW (wd (fl key i) (i - 1)) i).length = 4 := tmpW_length (wd_length (by omega)) i
      rw [xorL_length (by omega), h1]
      omega
/-- All rounds' keys. -/
def keyF (key : List UInt8) : List UInt8 := fl key 60
theorem keyF_length {key : List UInt8} (hk : key.length = 32) : (keyF key).length = 240 := fl_length hk 60
end Go.Proofs.YtlenmkhmkommcaaGreat

/-
  Plain mathematics of layer 5, ahead of its code: polynomials over two elements of fewer than 128 places, modulo x^128 + x^7 + x^2 + x + 1: products go either way round, in any brackets, part by part; one; no nought comes of others. No condition; nothing of the program.
-/
namespace Go.Proofs.YtlenmkhmkommcaaGreat

/-- An element: bit i is that before x^i. -/
abbrev Fe : Type := BitVec 128
/-- Times x. -/
def tx (b : Fe) : Fe := (b <<< 1) ^^^ (if b.getLsbD 127 then 0x87 else 0)
def txN (b : Fe) : Nat → Fe
  | 0 => b
  | i + 1 => tx (txN b i)
/-- The sum of f i over the bits i of a below n. -/
def lin (a : Fe) (f : Nat → Fe) : Nat → Fe
  | 0 => 0
  | i + 1 => lin a f i ^^^ (if a.getLsbD i then f i else 0)
/-- The product. -/
def fmul (a b : Fe) : Fe := lin a (txN b) 128

theorem fx_self (a : Fe) : a ^^^ a = 0 := BitVec.xor_self
/-- A map that goes part by part. -/
def Adds (g : Fe → Fe) : Prop := ∀ a b, g (a ^^^ b) = g a ^^^ g b
theorem Adds.zero {g : Fe → Fe} (h : Adds g) : g 0 = 0 := by
  have := h 0 0
  rw [fx_self] at this
  rw [fx_self] at this
  exact this
theorem Adds.ite {g : Fe → Fe} (h : Adds g) (c : Bool) (a : Fe) : g (if c then a else 0) = if c then g a else 0 := by
  cases c
  · simpa using h.zero
  · simp
theorem Adds.lin {g : Fe → Fe} (h : Adds g) (a : Fe) (f : Nat → Fe) (n : Nat) : g (lin a f n) = Go.Proofs.YtlenmkhmkommcaaGreat.lin a (fun i => g (f i)) n := by
  induction n with
  | zero => exact h.zero
  | succ n ih => rw [Go.Proofs.YtlenmkhmkommcaaGreat.lin, h, ih, h.ite]; rfl
end Go.Proofs.YtlenmkhmkommcaaGreat

/-
  Elements as rows of 128 bools, and as bytes: plain mathematics ahead of layer 5's code. No condition; nothing of the program.
-/
namespace Go.Proofs.YtlenmkhmkommcaaGreat
open Go.RowKit

/-- The bits of an element. -/
def fb (a : Fe) : List Bool := (List.range 128).map fun i => a.getLsbD i
/-- The first k bools of L, those of a behind. -/
def overB (L a : List Bool) (k : Nat) : List Bool := L.take k ++ a.drop k
/-- The element of bits. -/
def pk (f : Nat → Bool) : Nat → Fe
  | 0 => 0
  | i + 1 => pk f i ^^^ (if f i then (1 : Fe) <<< i else 0)
/-- Bit i of bytes, the first one the highest of the first byte. -/
def bitB (l : List UInt8) (i : Nat) : Bool := decide (i / 8 < l.length) && decide ((l.getD (i / 8) 0 >>> UInt8.ofNat (7 - i % 8)) &&& 1 = 1)
/-- The element of bytes. -/
def feB (l : List UInt8) : Fe := pk (bitB l) 128
end Go.Proofs.YtlenmkhmkommcaaGreat

/-
  The contract of layer 5's reference's Bits. Condition: at most 16 bytes.
-/
namespace Go.Proofs.YtlenmkhmkommcaaGreat
open Go.RowKit

end Go.Proofs.YtlenmkhmkommcaaGreat

/-
  The contract of layer 5's reference's Times. No condition but that both are rows of 128 bits.
-/
namespace Go.Proofs.YtlenmkhmkommcaaGreat
open Go.RowKit

end Go.Proofs.YtlenmkhmkommcaaGreat

/-
  The contracts of layer 5's reference's Bytes and Hash. Condition: rows of 128 bits; at most 1000 bytes.
-/
namespace Go.Proofs.YtlenmkhmkommcaaGreat
open Go.RowKit

/-- The bytes of an element, behind so many bits. -/
def byS (a : Fe) : Nat → List UInt8
  | 0 => List.replicate 16 0
  | i + 1 => if a.getLsbD i then (byS a i).set (i / 8) ((byS a i).getD (i / 8) 0 ||| (1 <<< UInt8.ofNat (7 - i % 8))) else byS a i
def byF (a : Fe) : List UInt8 := byS a 128
theorem byS_length (a : Fe) (i : Nat) : (byS a i).length = 16 := by
  induction i with
  | zero => rfl
  | succ i ih =>
    rw [byS]
    split
    · rw [List.length_set, ih]
    · exact ih
end Go.Proofs.YtlenmkhmkommcaaGreat

/-
  The contract of layer 5's reference's Hash. Condition: rows of 128 bits; at most 1000 bytes.
-/
namespace Go.Proofs.YtlenmkhmkommcaaGreat
open Go.RowKit

/-- Behind so many blocks of sixteen bytes. -/
def hsh (h f : Fe) (l : List UInt8) : Nat → Fe
  | 0 => f
  | k + 1 => fmul (hsh h f l k ^^^ feB ((l.drop (16 * k)).take 16)) h
/-- All blocks. -/
def hashF (h f : Fe) (l : List UInt8) : Fe := hsh h f l ((l.length + 15) / 16)
/-- What a call that hands back bools leaves. -/
def HasB (w : World) (l : List Bool) (e : Ending) (w' : World) : Prop := ∃ a c, e = .returned (.slice a l.length c) ∧ Bo w' a l.length c l ∧ Below w.heap.size w w'
end Go.Proofs.YtlenmkhmkommcaaGreat
