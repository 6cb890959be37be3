/-
  8 texts in one. No statement of the seat is proved here.
-/
import Derived.Test.YtlenmkhmkommcaaGreatG9
import Derived.Deep.DeepCutAuto
import Derived.Deep.RegionHeld3
/-
  Plain mathematics of layer 5, ahead of its code: polynomials over two elements of fewer than 128 places, modulo x^128 + x^7 + x^2 + x + 1: products go either way round, in any brackets, part by part; one; no nought comes of others. No condition; nothing of the program.
-/
namespace Go.Proofs.YtlenmkhmkommcaaGreat

/-- An element: bit i is that before x^i. -/
abbrev Fe : Type := BitVec 128
/-- Times x. -/
def tx (b : Fe) : Fe := (b <<< 1) ^^^ (if b.getLsbD 127 then 0x87 else 0)
def txN (b : Fe) : Nat → Fe
  | 0 => b
  | i + 1 => tx (txN b i)
/-- The sum of f i over the bits i of a below n. -/
def lin (a : Fe) (f : Nat → Fe) : Nat → Fe
  | 0 => 0
  | i + 1 => lin a f i ^^^ (if a.getLsbD i then f i else 0)
/-- The product. -/
def fmul (a b : Fe) : Fe := lin a (txN b) 128

theorem fx_self (a : Fe) : a ^^^ a = 0 := BitVec.xor_self
theorem fx_zero (a : Fe) : a ^^^ 0 = a := BitVec.xor_zero
theorem fx_four (a b c d : Fe) : (a ^^^ b) ^^^ (c ^^^ d) = (a ^^^ c) ^^^ (b ^^^ d) := by
  rw [BitVec.xor_assoc, BitVec.xor_assoc, ← BitVec.xor_assoc b c d, BitVec.xor_comm b c, BitVec.xor_assoc c b d]
/-- A map that goes part by part. -/
def Adds (g : Fe → Fe) : Prop := ∀ a b, g (a ^^^ b) = g a ^^^ g b
theorem Adds.zero {g : Fe → Fe} (h : Adds g) : g 0 = 0 := by
  have := h 0 0
  rw [fx_self] at this
  rw [fx_self] at this
  exact this
theorem Adds.ite {g : Fe → Fe} (h : Adds g) (c : Bool) (a : Fe) : g (if c then a else 0) = if c then g a else 0 := by
  cases c
  · simpa using h.zero
  · simp
theorem Adds.lin {g : Fe → Fe} (h : Adds g) (a : Fe) (f : Nat → Fe) (n : Nat) : g (lin a f n) = Go.Proofs.YtlenmkhmkommcaaGreat.lin a (fun i => g (f i)) n := by
  induction n with
  | zero => exact h.zero
  | succ n ih => rw [Go.Proofs.YtlenmkhmkommcaaGreat.lin, h, ih, h.ite]; rfl
theorem lin_congr {a : Fe} {f g : Nat → Fe} {n : Nat} (h : ∀ i, i < n → f i = g i) : lin a f n = lin a g n := by
  induction n with
  | zero => rfl
  | succ n ih => rw [lin, lin, ih fun i hi => h i (by omega), h n (by omega)]
theorem lin_left (f : Nat → Fe) (n : Nat) : Adds fun a => lin a f n := fun a b => by
  induction n with
  | zero => exact (fx_zero 0).symm
  | succ n ih =>
    show lin (a ^^^ b) f n ^^^ _ = (lin a f n ^^^ _) ^^^ (lin b f n ^^^ _)
    have ih' : lin (a ^^^ b) f n = lin a f n ^^^ lin b f n := ih
    rw [ih', fx_four]
    congr 1
    rw [BitVec.getLsbD_xor]
    cases a.getLsbD n <;> cases b.getLsbD n <;> simp
theorem lin_add (a : Fe) (f g : Nat → Fe) (n : Nat) : lin a (fun i => f i ^^^ g i) n = lin a f n ^^^ lin a g n := by
  induction n with
  | zero => exact (fx_zero 0).symm
  | succ n ih =>
    rw [lin, ih, lin, lin, fx_four]
    congr 1
    cases a.getLsbD n <;> simp

theorem tx_adds : Adds tx := fun a b => by
  unfold tx
  rw [BitVec.shiftLeft_xor_distrib, BitVec.getLsbD_xor, fx_four]
  congr 1
  cases a.getLsbD 127 <;> cases b.getLsbD 127 <;> simp
theorem txN_adds (n : Nat) : Adds fun b => txN b n := fun a b => by
  induction n with
  | zero => rfl
  | succ n ih =>
    have ih' : txN (a ^^^ b) n = txN a n ^^^ txN b n := ih
    show tx (txN (a ^^^ b) n) = _
    rw [ih', tx_adds]
    rfl
theorem txN_in (b : Fe) (n : Nat) : txN (tx b) n = tx (txN b n) := by
  induction n with
  | zero => rfl
  | succ n ih => rw [txN, ih]; rfl
theorem fmul_left (b : Fe) : Adds fun a => fmul a b := lin_left _ _
theorem fmul_right (a : Fe) : Adds (fmul a) := fun b c => by
  unfold fmul
  rw [← lin_add]
  exact lin_congr fun i _ => txN_adds i b c

/-- The powers of x, up to the 127th. -/
theorem txN_one {i : Nat} (h : i < 128) : txN 1 i = 1 <<< i := by
  have : ∀ i : Fin 128, txN 1 i.val = 1 <<< i.val := by decide +kernel
  exact this ⟨i, h⟩
theorem lin_bits (a : Fe) (n : Nat) (hn : n ≤ 128) (j : Nat) : (lin a (fun i => (1 : Fe) <<< i) n).getLsbD j = (decide (j < n) && a.getLsbD j) := by
  induction n with
  | zero => simp [lin]
  | succ n ih =>
    rw [lin, BitVec.getLsbD_xor, ih (by omega)]
    have hb : (if a.getLsbD n then (1 : Fe) <<< n else 0).getLsbD j = (decide (j = n) && a.getLsbD n) := by
      cases a.getLsbD n
      · simp
      · simp only [if_true, Bool.and_true]
        rw [BitVec.getLsbD_shiftLeft]
        by_cases e : j = n
        · subst e; simp; omega
        · by_cases hl : j < n
          · simp [hl, e]
          · have : j - n ≠ 0 := by omega
            simp [e, BitVec.getLsbD_one, this]
    rw [hb]
    by_cases e : j = n
    · subst e; simp
    · by_cases hl : j < n
      · have : j < n + 1 := by omega
        simp [hl, e, this]
      · have : ¬ j < n + 1 := by omega
        simp [hl, e, this]
theorem lin_self (a : Fe) : lin a (fun i => (1 : Fe) <<< i) 128 = a := by
  apply BitVec.eq_of_getLsbD_eq
  intro j hj
  rw [lin_bits a 128 (Nat.le_refl _)]
  simp [hj]
/-- Every element is the sum of its powers of x. -/
theorem fe_sum (a : Fe) : lin a (txN 1) 128 = a := by
  rw [lin_congr (g := fun i => (1 : Fe) <<< i) fun i hi => txN_one hi]
  exact lin_self a

theorem fmul_one (a : Fe) : fmul a 1 = a := fe_sum a
theorem fmul_tx (a b : Fe) : fmul a (tx b) = tx (fmul a b) := by
  unfold fmul
  rw [tx_adds.lin]
  exact lin_congr fun i _ => txN_in b i
theorem fmul_txN (a b : Fe) (n : Nat) : fmul a (txN b n) = txN (fmul a b) n := by
  induction n with
  | zero => rfl
  | succ n ih => rw [txN, fmul_tx, ih]; rfl
/-- Either way round. -/
theorem fmul_comm (a b : Fe) : fmul a b = fmul b a := by
  have h1 : fmul a b = lin b (fun i => fmul a (txN 1 i)) 128 := by
    rw [← (fmul_right a).lin, fe_sum]
  rw [h1]
  unfold fmul
  refine lin_congr fun i _ => ?_
  have := fmul_txN a 1 i
  rw [fmul_one] at this
  exact this
theorem fmul_txN' (a b : Fe) (n : Nat) : fmul (txN a n) b = txN (fmul a b) n := by
  rw [fmul_comm, fmul_txN, fmul_comm]
theorem fmul_zero (a : Fe) : fmul a 0 = 0 := (fmul_right a).zero
theorem one_fmul (a : Fe) : fmul 1 a = a := by rw [fmul_comm, fmul_one]

end Go.Proofs.YtlenmkhmkommcaaGreat

/-
  Elements as rows of 128 bools, and as bytes: plain mathematics ahead of layer 5's code. No condition; nothing of the program.
-/
namespace Go.Proofs.YtlenmkhmkommcaaGreat
open Go.RowKit

/-- The bits of an element. -/
def fb (a : Fe) : List Bool := (List.range 128).map fun i => a.getLsbD i
/-- The first k bools of L, those of a behind. -/
def overB (L a : List Bool) (k : Nat) : List Bool := L.take k ++ a.drop k
/-- The element of bits. -/
def pk (f : Nat → Bool) : Nat → Fe
  | 0 => 0
  | i + 1 => pk f i ^^^ (if f i then (1 : Fe) <<< i else 0)
theorem one_bit {n j : Nat} (hn : n < 128) (b : Bool) : (if b then (1 : Fe) <<< n else 0).getLsbD j = (decide (j = n) && b) := by
  cases b
  · simp
  · simp only [if_true, Bool.and_true]
    rw [BitVec.getLsbD_shiftLeft]
    by_cases e : j = n
    · subst e; simp; omega
    · by_cases hl : j < n
      · simp [hl, e]
      · have : j - n ≠ 0 := by omega
        simp [e, BitVec.getLsbD_one, this]
theorem pk_bits (f : Nat → Bool) (n : Nat) (hn : n ≤ 128) (j : Nat) : (pk f n).getLsbD j = (decide (j < n) && f j) := by
  induction n with
  | zero => simp [pk]
  | succ n ih =>
    rw [pk, BitVec.getLsbD_xor, ih (by omega), one_bit (by omega)]
    by_cases e : j = n
    · subst e; simp
    · by_cases hl : j < n
      · have : j < n + 1 := by omega
        simp [hl, e, this]
      · have : ¬ j < n + 1 := by omega
        simp [hl, e, this]
/-- Bit i of bytes, the first one the highest of the first byte. -/
def bitB (l : List UInt8) (i : Nat) : Bool := decide (i / 8 < l.length) && decide ((l.getD (i / 8) 0 >>> UInt8.ofNat (7 - i % 8)) &&& 1 = 1)
/-- The element of bytes. -/
def feB (l : List UInt8) : Fe := pk (bitB l) 128
end Go.Proofs.YtlenmkhmkommcaaGreat

/-
  The contract of layer 5's reference's Bits. Condition: at most 16 bytes.
-/
namespace Go.Proofs.YtlenmkhmkommcaaGreat
open Go.RowKit

end Go.Proofs.YtlenmkhmkommcaaGreat

/-
  The contract of layer 5's reference's Times. No condition but that both are rows of 128 bits.
-/
namespace Go.Proofs.YtlenmkhmkommcaaGreat
open Go.RowKit

end Go.Proofs.YtlenmkhmkommcaaGreat

/-
  The contracts of layer 5's reference's Bytes and Hash. Condition: rows of 128 bits; at most 1000 bytes.
-/
namespace Go.Proofs.YtlenmkhmkommcaaGreat
open Go.RowKit

/-- The bytes of an element, behind so many bits. -/
def byS (a : Fe) : Nat → List UInt8
  | 0 => List.replicate 16 0
  | i + 1 => if a.getLsbD i then (byS a i).set (i / 8) ((byS a i).getD (i / 8) 0 ||| (1 <<< UInt8.ofNat (7 - i % 8))) else byS a i
def byF (a : Fe) : List UInt8 := byS a 128
theorem byS_length (a : Fe) (i : Nat) : (byS a i).length = 16 := by
  induction i with
  | zero => rfl
  | succ i ih =>
    rw [byS]
    split
    · rw [List.length_set, ih]
    · exact ih
end Go.Proofs.YtlenmkhmkommcaaGreat

/-
  The contract of layer 5's reference's Hash. Condition: rows of 128 bits; at most 1000 bytes.
-/
namespace Go.Proofs.YtlenmkhmkommcaaGreat
open Go.RowKit

/-- Behind so many blocks of sixteen bytes. -/
def hsh (h f : Fe) (l : List UInt8) : Nat → Fe
  | 0 => f
  | k + 1 => fmul (hsh h f l k ^^^ feB ((l.drop (16 * k)).take 16)) h
/-- All blocks. -/
def hashF (h f : Fe) (l : List UInt8) : Fe := hsh h f l ((l.length + 15) / 16)
/-- What a call that hands back bools leaves. -/
def HasB (w : World) (l : List Bool) (e : Ending) (w' : World) : Prop := ∃ a c, e = .returned (.slice a l.length c) ∧ Bo w' a l.length c l ∧ Below w.heap.size w w'
end Go.Proofs.YtlenmkhmkommcaaGreat

/-
  An element's bytes and back: plain mathematics ahead of layer 5's code. No condition but sixteen bytes; nothing of the program.
-/
namespace Go.Proofs.YtlenmkhmkommcaaGreat
open Go.RowKit

/-- Bit s of a byte, the highest first. -/
def bitH (b : UInt8) (s : Nat) : Bool := decide ((b >>> UInt8.ofNat (7 - s)) &&& 1 = 1)
theorem bitH_or (b : UInt8) {s t : Nat} (hs : s < 8) (ht : t < 8) : bitH (b ||| (1 <<< UInt8.ofNat (7 - s))) t = (bitH b t || decide (s = t)) := by
  have : ∀ i : Fin 256, ∀ s t : Fin 8, bitH (UInt8.ofNat i.val ||| (1 <<< UInt8.ofNat (7 - s.val))) t.val = (bitH (UInt8.ofNat i.val) t.val || decide (s.val = t.val)) := by decide +kernel
  have h := this ⟨b.toNat, b.toNat_lt⟩ ⟨s, hs⟩ ⟨t, ht⟩
  simpa using h
theorem bitH_zero {s : Nat} (hs : s < 8) : bitH 0 s = false := by
  have : ∀ s : Fin 8, bitH 0 s.val = false := by decide +kernel
  exact this ⟨s, hs⟩
def bitsH (f : Nat → Bool) : UInt8 := UInt8.ofNat ((List.range 8).foldl (fun n s => 2 * n + (f s).toNat) 0)
theorem bitH_all (b : UInt8) : bitsH (bitH b) = b := by
  have : ∀ i : Fin 256, bitsH (bitH (UInt8.ofNat i.val)) = UInt8.ofNat i.val := by decide +kernel
  have h := this ⟨b.toNat, b.toNat_lt⟩
  simpa using h
theorem bitH_ext {b c : UInt8} (h : ∀ s, s < 8 → bitH b s = bitH c s) : b = c := by
  rw [← bitH_all b, ← bitH_all c]
  unfold bitsH
  simp only [List.range, List.range.loop, List.foldl, h 0 (by omega), h 1 (by omega), h 2 (by omega), h 3 (by omega), h 4 (by omega), h 5 (by omega), h 6 (by omega), h 7 (by omega)]
theorem bitB_H {l : List UInt8} {i : Nat} (h : i / 8 < l.length) : bitB l i = bitH (l.getD (i / 8) 0) (i % 8) := by
  unfold bitB bitH
  simp only [h, decide_true, Bool.true_and]
theorem byS_bit (a : Fe) (n : Nat) (hn : n ≤ 128) {i : Nat} (hi : i < 128) : bitH ((byS a n).getD (i / 8) 0) (i % 8) = (decide (i < n) && a.getLsbD i) := by
  induction n with
  | zero =>
    have : (byS a 0).getD (i / 8) 0 = 0 := by
      have : ∀ j : Fin 16, (List.replicate 16 (0 : UInt8)).getD j.val 0 = 0 := by decide +kernel
      exact this ⟨i / 8, by omega⟩
    rw [this, bitH_zero (by omega)]
    simp
  | succ n ih =>
    have ih := ih (by omega)
    rw [byS]
    have hlen := byS_length a n
    cases hb : a.getLsbD n with
    | false =>
      simp only [Bool.false_eq_true, if_false]
      rw [ih]
      by_cases e : i = n
      · subst e; rw [hb]; simp
      · by_cases hl : i < n
        · have : i < n + 1 := by omega
          simp [hl, this]
        · have : ¬ i < n + 1 := by omega
          simp [hl, this]
    | true =>
      simp only [if_true]
      by_cases q : i / 8 = n / 8
      · rw [q] at ih ⊢
        have hq : n / 8 < (byS a n).length := by omega
        rw [show ((byS a n).set (n / 8) ((byS a n).getD (n / 8) 0 ||| 1 <<< UInt8.ofNat (7 - n % 8))).getD (n / 8) 0 = (byS a n).getD (n / 8) 0 ||| 1 <<< UInt8.ofNat (7 - n % 8) from by
          rw [List.getD_eq_getElem?_getD, List.getElem?_set_self hq]; rfl]
        rw [bitH_or _ (by omega) (by omega), ih]
        by_cases e : i = n
        · subst e; rw [hb]; simp
        · have m : ¬ n % 8 = i % 8 := by omega
          by_cases hl : i < n
          · have : i < n + 1 := by omega
            simp [hl, this, m]
          · have : ¬ i < n + 1 := by omega
            simp [hl, this, m]
      · rw [show ((byS a n).set (n / 8) ((byS a n).getD (n / 8) 0 ||| 1 <<< UInt8.ofNat (7 - n % 8))).getD (i / 8) 0 = (byS a n).getD (i / 8) 0 from by
          rw [List.getD_eq_getElem?_getD, List.getElem?_set_ne (by omega), List.getD_eq_getElem?_getD]]
        rw [ih]
        have e : ¬ i = n := by intro e; exact q (by rw [e])
        by_cases hl : i < n
        · have : i < n + 1 := by omega
          simp [hl, this]
        · have : ¬ i < n + 1 := by omega
          simp [hl, this]
theorem byF_length (a : Fe) : (byF a).length = 16 := byS_length a 128
theorem byF_bit (a : Fe) {i : Nat} (hi : i < 128) : bitB (byF a) i = a.getLsbD i := by
  rw [bitB_H (by rw [byF_length]; omega)]
  unfold byF
  rw [byS_bit a 128 (Nat.le_refl _) hi]
  simp [hi]
theorem feB_bit (l : List UInt8) {i : Nat} (hi : i < 128) : (feB l).getLsbD i = bitB l i := by
  unfold feB
  rw [pk_bits _ 128 (Nat.le_refl _)]
  simp [hi]
/-- Sixteen bytes out of their own element. -/
theorem byF_feB {l : List UInt8} (hl : l.length = 16) : byF (feB l) = l := by
  apply List.ext_getElem (by rw [byF_length, hl])
  intro j h1 h2
  apply bitH_ext
  intro s hs
  have hj : j < 16 := by omega
  have e1 := byF_bit (feB l) (i := 8 * j + s) (by omega)
  rw [feB_bit _ (by omega), bitB_H (by rw [byF_length]; omega), bitB_H (by omega), show (8 * j + s) / 8 = j from by omega, show (8 * j + s) % 8 = s from by omega] at e1
  simpa [List.getD_eq_getElem?_getD, List.getElem?_eq_getElem h1, List.getElem?_eq_getElem h2] using e1
end Go.Proofs.YtlenmkhmkommcaaGreat

/-
  Plain mathematics of layer 6: blocks of a nonce and a number, a text under them, the tag; there and back. Conditions: a key's 240 bytes, a nonce of 12; nothing of the program.
-/
namespace Go.Proofs.YtlenmkhmkommcaaGreat

/-- The sealed block of a nonce and a number. -/
def ctrK (K nonce : List UInt8) (n : Nat) : List UInt8 := aesL K (nonce ++ putL n 4)
theorem ctrK_length {K nonce : List UInt8} (hK : K.length = 240) (hn : nonce.length = 12) (n : Nat) : (ctrK K nonce n).length = 16 :=
  blkS_length hK (by rw [List.length_append, hn, putL_length]) (Nat.le_refl _)
/-- The element of a key. -/
def hKey (K : List UInt8) : Fe := feB (aesL K (List.replicate 16 0))
/-- A text under blocks, behind k of them. -/
def strm (K nonce l : List UInt8) : Nat → List UInt8
  | 0 => []
  | k + 1 => strm K nonce l k ++ xorL ((l.drop (16 * k)).take 16) (ctrK K nonce (2 + k))
def strL (K nonce l : List UInt8) : List UInt8 := strm K nonce l ((l.length + 15) / 16)
/-- Its i-th byte. -/
def strB (K nonce l : List UInt8) (i : Nat) : UInt8 := l.getD i 0 ^^^ (ctrK K nonce (2 + i / 16)).getD (i % 16) 0
theorem xorG {l m : List UInt8} {i : Nat} (h1 : i < l.length) (h2 : i < m.length) : (xorL l m)[i]? = some (l.getD i 0 ^^^ m.getD i 0) := by
  unfold xorL
  rw [List.getElem?_zipWith, List.getElem?_eq_getElem h1, List.getElem?_eq_getElem h2, List.getD_eq_getElem?_getD, List.getElem?_eq_getElem h1, List.getD_eq_getElem?_getD, List.getElem?_eq_getElem h2]
  rfl
theorem strm_is {K nonce l : List UInt8} (hK : K.length = 240) (hn : nonce.length = 12) (k : Nat) : strm K nonce l k = (List.range (min (16 * k) l.length)).map (strB K nonce l) := by
  induction k with
  | zero => simp [strm]
  | succ k ih =>
    have hc := ctrK_length hK hn (2 + k)
    have hx : (xorL ((l.drop (16 * k)).take 16) (ctrK K nonce (2 + k))).length = min 16 (l.length - 16 * k) := by
      unfold xorL
      rw [List.length_zipWith, hc, List.length_take, List.length_drop]
      omega
    rw [strm, ih]
    apply List.ext_getElem?
    intro i
    by_cases h1 : i < min (16 * k) l.length
    · rw [List.getElem?_append_left (by simp; omega)]
      rw [List.getElem?_map, List.getElem?_map, List.getElem?_range h1, List.getElem?_range (by omega)]
    · rw [List.getElem?_append_right (by simp; omega)]
      rw [List.length_map, List.length_range]
      by_cases h2 : i < min (16 * (k + 1)) l.length
      · have hq : min (16 * k) l.length = 16 * k := by omega
        rw [hq, List.getElem?_map, List.getElem?_range h2]
        have h3 : i - 16 * k < ((l.drop (16 * k)).take 16).length := by rw [List.length_take, List.length_drop]; omega
        rw [xorG h3 (by rw [hc]; omega), Option.map_some]
        unfold strB
        rw [show 2 + i / 16 = 2 + k from by omega, show i % 16 = i - 16 * k from by omega]
        rw [show ((l.drop (16 * k)).take 16).getD (i - 16 * k) 0 = l.getD i 0 from by
          rw [List.getD_eq_getElem?_getD, List.getElem?_take_of_lt (by omega), List.getElem?_drop, List.getD_eq_getElem?_getD, show 16 * k + (i - 16 * k) = i from by omega]]
      · rw [List.getElem?_eq_none (by rw [hx]; omega), List.getElem?_eq_none (by simp; omega)]
theorem strL_is {K nonce l : List UInt8} (hK : K.length = 240) (hn : nonce.length = 12) : strL K nonce l = (List.range l.length).map (strB K nonce l) := by
  unfold strL
  rw [strm_is hK hn, show min (16 * ((l.length + 15) / 16)) l.length = l.length from by omega]
theorem strL_length {K nonce l : List UInt8} (hK : K.length = 240) (hn : nonce.length = 12) : (strL K nonce l).length = l.length := by
  rw [strL_is hK hn]
  simp
/-- There and back. -/
theorem strL_back {K nonce l : List UInt8} (hK : K.length = 240) (hn : nonce.length = 12) : strL K nonce (strL K nonce l) = l := by
  rw [strL_is hK hn (l := strL K nonce l), strL_length hK hn]
  apply List.ext_getElem (by simp)
  intro i h1 h2
  rw [List.getElem_map, List.getElem_range]
  unfold strB
  rw [show (strL K nonce l).getD i 0 = strB K nonce l i from by
    rw [strL_is hK hn, List.getD_eq_getElem?_getD, List.getElem?_map, List.getElem?_range h2]
    rfl]
  unfold strB
  rw [UInt8.xor_assoc, UInt8.xor_self, UInt8.xor_zero, List.getD_eq_getElem?_getD, List.getElem?_eq_getElem h2]
  rfl
/-- Eight times the lengths of two rows. -/
def lens (a b : List UInt8) : List UInt8 := putL (8 * a.length) 8 ++ putL (8 * b.length) 8
theorem lens_length (a b : List UInt8) : (lens a b).length = 16 := by
  unfold lens
  rw [List.length_append, putL_length, putL_length]
/-- The tag of what is sealed. -/
def tagL (K nonce beside s : List UInt8) : List UInt8 := xorL (byF (hashF (hKey K) (hashF (hKey K) (hashF (hKey K) 0 beside) s) (lens beside s))) (ctrK K nonce 1)
theorem tagL_length {K nonce : List UInt8} (hK : K.length = 240) (hn : nonce.length = 12) (beside s : List UInt8) : (tagL K nonce beside s).length = 16 := by
  unfold tagL xorL
  rw [List.length_zipWith, byF_length, ctrK_length hK hn]
  rfl
def sealL (K nonce beside text : List UInt8) : List UInt8 := strL K nonce text ++ tagL K nonce beside (strL K nonce text)
theorem sealL_length {K nonce : List UInt8} (hK : K.length = 240) (hn : nonce.length = 12) (beside text : List UInt8) : (sealL K nonce beside text).length = text.length + 16 := by
  unfold sealL
  rw [List.length_append, strL_length hK hn, tagL_length hK hn]

end Go.Proofs.YtlenmkhmkommcaaGreat
