/-
  Plain mathematics: sums of 256 bits on lists of bytes and words of 32 bits, and the sum of abc. No condition; nothing of the program.
-/
import Derived.Test.YtpmdjailpdajkaaDoorWords
namespace Go.Proofs.YtpmdjailpdajkaaDoor
open Go.RowKit

def sKs : List UInt32 := [1116352408, 1899447441, 3049323471, 3921009573, 961987163, 1508970993, 2453635748, 2870763221, 3624381080, 310598401, 607225278, 1426881987, 1925078388, 2162078206, 2614888103, 3248222580, 3835390401, 4022224774, 264347078, 604807628, 770255983, 1249150122, 1555081692, 1996064986, 2554220882, 2821834349, 2952996808, 3210313671, 3336571891, 3584528711, 113926993, 338241895, 666307205, 773529912, 1294757372, 1396182291, 1695183700, 1986661051, 2177026350, 2456956037, 2730485921, 2820302411, 3259730800, 3345764771, 3516065817, 3600352804, 4094571909, 275423344, 430227734, 506948616, 659060556, 883997877, 958139571, 1322822218, 1537002063, 1747873779, 1955562222, 2024104815, 2227730452, 2361852424, 2428436474, 2756734187, 3204031479, 3329325298]
def sHs : List UInt32 := [1779033703, 3144134277, 1013904242, 2773480762, 1359893119, 2600822924, 528734635, 1541459225]

def rot (x n : UInt32) : UInt32 := x >>> n ||| x <<< (32 - n)
def sgA (x : UInt32) : UInt32 := rot x 7 ^^^ rot x 18 ^^^ x >>> 3
def sgB (x : UInt32) : UInt32 := rot x 17 ^^^ rot x 19 ^^^ x >>> 10
def bgA (x : UInt32) : UInt32 := rot x 2 ^^^ rot x 13 ^^^ rot x 22
def bgE (x : UInt32) : UInt32 := rot x 6 ^^^ rot x 11 ^^^ rot x 25
def pck (e f g : UInt32) : UInt32 := (e &&& f) ^^^ ((4294967295 ^^^ e) &&& g)
def mst (a b c : UInt32) : UInt32 := (a &&& b) ^^^ (a &&& c) ^^^ (b &&& c)
def tOne (e f g h k : UInt32) : UInt32 := h + bgE e + pck e f g + k

/-- The eight words behind a round; k is its constant and its word together. -/
def rnd (v : List UInt32) (k : UInt32) : List UInt32 :=
  match v with
  | [a, b, c, d, e, f, g, h] => [tOne e f g h k + (bgA a + mst a b c), a, b, c, d + tOne e f g h k, e, f, g]
  | _ => v

def rnds (h w : List UInt32) : Nat → List UInt32
  | 0 => h
  | n + 1 => rnd (rnds h w n) (sKs.getD n 0 + w.getD n 0)

def wordAt (b : List UInt8) (i : Nat) : UInt32 := UInt32.ofNat (getN ((b.drop (4 * i)).take 4))
def wnext (w : List UInt32) (i : Nat) : UInt32 := w.getD (i - 16) 0 + w.getD (i - 7) 0 + sgA (w.getD (i - 15) 0) + sgB (w.getD (i - 2) 0)

/-- The first words of a block's rounds. -/
def schd (b : List UInt8) : Nat → List UInt32
  | 0 => []
  | n + 1 => if n < 16 then schd b n ++ [wordAt b n] else schd b n ++ [wnext (schd b n) n]

def add8 (h v : List UInt32) : List UInt32 := List.zipWith (· + ·) h v

/-- A sum so far with one more block taken. -/
def tk (h : List UInt32) (b : List UInt8) : List UInt32 := add8 h (rnds h (schd b 64) 64)

def blk (l : List UInt8) (n : Nat) : List UInt8 := (l.drop (64 * n)).take 64
def tks (l : List UInt8) : Nat → List UInt32
  | 0 => sHs
  | n + 1 => tk (tks l n) (blk l n)

def padL (l : List UInt8) : List UInt8 := l ++ [128] ++ List.replicate ((119 - l.length % 64) % 64) 0 ++ putL (8 * l.length) 8
def outL (h : List UInt32) : List UInt8 := h.flatMap fun x => putL x.toNat 4
def sumL (l : List UInt8) : List UInt8 := outL (tks (padL l) ((padL l).length / 64))

set_option maxRecDepth 100000 in
theorem sum_abc : sumL [97, 98, 99] = [186, 120, 22, 191, 143, 1, 207, 234, 65, 65, 64, 222, 93, 174, 34, 35, 176, 3, 97, 163, 150, 23, 122, 156, 180, 16, 255, 97, 242, 0, 21, 173] := by decide +kernel

end Go.Proofs.YtpmdjailpdajkaaDoor
