/-
  Plain mathematics of layer 5, ahead of its code: polynomials over two elements of fewer than 128 places, modulo x^128 + x^7 + x^2 + x + 1: products go either way round, in any brackets, part by part; one; no nought comes of others. No condition; nothing of the program.
-/
import Derived.Test.YtmnlcmgkhgckcaaBs
namespace Go.Proofs.Ytmnlcmgkhgckcaa

/-- An element: bit i is that before x^i. -/
abbrev Fe : Type := BitVec 128
/-- Times x. -/
def tx (b : Fe) : Fe := (b <<< 1) ^^^ (if b.getLsbD 127 then 0x87 else 0)
def txN (b : Fe) : Nat → Fe
  | 0 => b
  | i + 1 => tx (txN b i)
/-- The sum of f i over the bits i of a below n. -/
def lin (a : Fe) (f : Nat → Fe) : Nat → Fe
  | 0 => 0
  | i + 1 => lin a f i ^^^ (if a.getLsbD i then f i else 0)
/-- The product. -/
def fmul (a b : Fe) : Fe := lin a (txN b) 128

theorem fx_self (a : Fe) : a ^^^ a = 0 := BitVec.xor_self
theorem fx_zero (a : Fe) : a ^^^ 0 = a := BitVec.xor_zero
theorem fx_four (a b c d : Fe) : (a ^^^ b) ^^^ (c ^^^ d) = (a ^^^ c) ^^^ (b ^^^ d) := by
  rw [BitVec.xor_assoc, BitVec.xor_assoc, ← BitVec.xor_assoc b c d, BitVec.xor_comm b c, BitVec.xor_assoc c b d]
theorem fx_back {a b : Fe} (h : a ^^^ b = 0) : a = b := by
  have := congrArg (· ^^^ b) h
  simpa [BitVec.xor_assoc] using this

/-- A map that goes part by part. -/
def Adds (g : Fe → Fe) : Prop := ∀ a b, g (a ^^^ b) = g a ^^^ g b
theorem Adds.zero {g : Fe → Fe} (h : Adds g) : g 0 = 0 := by
  have := h 0 0
  rw [fx_self] at this
  rw [fx_self] at this
  exact this
theorem Adds.ite {g : Fe → Fe} (h : Adds g) (c : Bool) (a : Fe) : g (if c then a else 0) = if c then g a else 0 := by
  cases c
  · simpa using h.zero
  · simp
theorem Adds.lin {g : Fe → Fe} (h : Adds g) (a : Fe) (f : Nat → Fe) (n : Nat) : g (lin a f n) = Go.Proofs.Ytmnlcmgkhgckcaa.lin a (fun i => g (f i)) n := by
  induction n with
  | zero => exact h.zero
  | succ n ih => rw [Go.Proofs.Ytmnlcmgkhgckcaa.lin, h, ih, h.ite]; rfl
theorem lin_congr {a : Fe} {f g : Nat → Fe} {n : Nat} (h : ∀ i, i < n → f i = g i) : lin a f n = lin a g n := by
  induction n with
  | zero => rfl
  | succ n ih => rw [lin, lin, ih fun i hi => h i (by omega), h n (by omega)]
theorem lin_left (f : Nat → Fe) (n : Nat) : Adds fun a => lin a f n := fun a b => by
  induction n with
  | zero => exact (fx_zero 0).symm
  | succ n ih =>
    show lin (a ^^^ b) f n ^^^ _ = (lin a f n ^^^ _) ^^^ (lin b f n ^^^ _)
    have ih' : lin (a ^^^ b) f n = lin a f n ^^^ lin b f n := ih
    rw [ih', fx_four]
    congr 1
    rw [BitVec.getLsbD_xor]
    cases a.getLsbD n <;> cases b.getLsbD n <;> simp
theorem lin_add (a : Fe) (f g : Nat → Fe) (n : Nat) : lin a (fun i => f i ^^^ g i) n = lin a f n ^^^ lin a g n := by
  induction n with
  | zero => exact (fx_zero 0).symm
  | succ n ih =>
    rw [lin, ih, lin, lin, fx_four]
    congr 1
    cases a.getLsbD n <;> simp

theorem tx_adds : Adds tx := fun a b => by
  unfold tx
  rw [BitVec.shiftLeft_xor_distrib, BitVec.getLsbD_xor, fx_four]
  congr 1
  cases a.getLsbD 127 <;> cases b.getLsbD 127 <;> simp
theorem txN_adds (n : Nat) : Adds fun b => txN b n := fun a b => by
  induction n with
  | zero => rfl
  | succ n ih =>
    have ih' : txN (a ^^^ b) n = txN a n ^^^ txN b n := ih
    show tx (txN (a ^^^ b) n) = _
    rw [ih', tx_adds]
    rfl
theorem txN_in (b : Fe) (n : Nat) : txN (tx b) n = tx (txN b n) := by
  induction n with
  | zero => rfl
  | succ n ih => rw [txN, ih]; rfl
theorem txN_add (b : Fe) (m n : Nat) : txN (txN b m) n = txN b (m + n) := by
  induction n with
  | zero => rfl
  | succ n ih => rw [txN, ih]; rfl

theorem fmul_left (b : Fe) : Adds fun a => fmul a b := lin_left _ _
theorem fmul_right (a : Fe) : Adds (fmul a) := fun b c => by
  unfold fmul
  rw [← lin_add]
  exact lin_congr fun i _ => txN_adds i b c

/-- The powers of x, up to the 127th. -/
theorem txN_one {i : Nat} (h : i < 128) : txN 1 i = 1 <<< i := by
  have : ∀ i : Fin 128, txN 1 i.val = 1 <<< i.val := by decide +kernel
  exact this ⟨i, h⟩
theorem lin_bits (a : Fe) (n : Nat) (hn : n ≤ 128) (j : Nat) : (lin a (fun i => (1 : Fe) <<< i) n).getLsbD j = (decide (j < n) && a.getLsbD j) := by
  induction n with
  | zero => simp [lin]
  | succ n ih =>
    rw [lin, BitVec.getLsbD_xor, ih (by omega)]
    have hb : (if a.getLsbD n then (1 : Fe) <<< n else 0).getLsbD j = (decide (j = n) && a.getLsbD n) := by
      cases a.getLsbD n
      · simp
      · simp only [if_true, Bool.and_true]
        rw [BitVec.getLsbD_shiftLeft]
        by_cases e : j = n
        · subst e; simp; omega
        · by_cases hl : j < n
          · simp [hl, e]
          · have : j - n ≠ 0 := by omega
            simp [e, BitVec.getLsbD_one, this]
    rw [hb]
    by_cases e : j = n
    · subst e; simp
    · by_cases hl : j < n
      · have : j < n + 1 := by omega
        simp [hl, e, this]
      · have : ¬ j < n + 1 := by omega
        simp [hl, e, this]
theorem lin_self (a : Fe) : lin a (fun i => (1 : Fe) <<< i) 128 = a := by
  apply BitVec.eq_of_getLsbD_eq
  intro j hj
  rw [lin_bits a 128 (Nat.le_refl _)]
  simp [hj]
/-- Every element is the sum of its powers of x. -/
theorem fe_sum (a : Fe) : lin a (txN 1) 128 = a := by
  rw [lin_congr (g := fun i => (1 : Fe) <<< i) fun i hi => txN_one hi]
  exact lin_self a

theorem fmul_one (a : Fe) : fmul a 1 = a := fe_sum a
theorem fmul_tx (a b : Fe) : fmul a (tx b) = tx (fmul a b) := by
  unfold fmul
  rw [tx_adds.lin]
  exact lin_congr fun i _ => txN_in b i
theorem fmul_txN (a b : Fe) (n : Nat) : fmul a (txN b n) = txN (fmul a b) n := by
  induction n with
  | zero => rfl
  | succ n ih => rw [txN, fmul_tx, ih]; rfl
/-- Either way round. -/
theorem fmul_comm (a b : Fe) : fmul a b = fmul b a := by
  have h1 : fmul a b = lin b (fun i => fmul a (txN 1 i)) 128 := by
    rw [← (fmul_right a).lin, fe_sum]
  rw [h1]
  unfold fmul
  refine lin_congr fun i _ => ?_
  have := fmul_txN a 1 i
  rw [fmul_one] at this
  exact this
theorem fmul_tx' (a b : Fe) : fmul (tx a) b = tx (fmul a b) := by
  rw [fmul_comm, fmul_tx, fmul_comm]
theorem fmul_txN' (a b : Fe) (n : Nat) : fmul (txN a n) b = txN (fmul a b) n := by
  rw [fmul_comm, fmul_txN, fmul_comm]
/-- In any brackets. -/
theorem fmul_assoc (a b c : Fe) : fmul (fmul a b) c = fmul a (fmul b c) := by
  have h1 : fmul (fmul a b) c = lin a (fun i => fmul (txN b i) c) 128 := (fmul_left c).lin a (txN b) 128
  rw [h1]
  exact lin_congr fun i _ => fmul_txN' b c i
theorem fmul_zero (a : Fe) : fmul a 0 = 0 := (fmul_right a).zero
theorem one_fmul (a : Fe) : fmul 1 a = a := by rw [fmul_comm, fmul_one]

end Go.Proofs.Ytmnlcmgkhgckcaa
