/-
  Plain mathematics of layer 5, ahead of its code: no nought comes of others, by Berlekamp's test: squared 128 times an element is itself; one that is its own square is 0 or 1. No condition; nothing of the program.
-/
import Derived.Test.YtfgoomlgmepalaaFieldL
namespace Go.Proofs.Ytfgoomlgmepalaa

/-- Squared. -/
def sq (a : Fe) : Fe := fmul a a
def sqN (a : Fe) : Nat → Fe
  | 0 => a
  | n + 1 => sq (sqN a n)
theorem sq_adds : Adds sq := fun a b => by
  unfold sq
  have l : ∀ x, fmul (a ^^^ b) x = fmul a x ^^^ fmul b x := fun x => fmul_left x a b
  rw [fmul_right, l, l, fmul_comm b a, BitVec.xor_assoc, ← BitVec.xor_assoc (fmul a b), fx_self, BitVec.xor_comm 0, fx_zero]
theorem sq_mul (a b : Fe) : sq (fmul a b) = fmul (sq a) (sq b) := by
  unfold sq
  rw [fmul_assoc, fmul_assoc, ← fmul_assoc b a b, fmul_comm b a, fmul_assoc a b b]
theorem sqN_adds (n : Nat) : Adds fun a => sqN a n := fun a b => by
  induction n with
  | zero => rfl
  | succ n ih =>
    have ih' : sqN (a ^^^ b) n = sqN a n ^^^ sqN b n := ih
    show sq (sqN (a ^^^ b) n) = _
    rw [ih', sq_adds]
    rfl
theorem sqN_mul (a b : Fe) (n : Nat) : sqN (fmul a b) n = fmul (sqN a n) (sqN b n) := by
  induction n with
  | zero => rfl
  | succ n ih => rw [sqN, ih, sq_mul]; rfl

/-- The square of the i-th power of x is the 2i-th. -/
theorem sq_pow (i : Nat) : sq (txN 1 i) = txN 1 (2 * i) := by
  unfold sq
  rw [fmul_txN, fmul_one, txN_add]
  congr 1
  omega
/-- The square, as a sum of even powers of x. -/
def sqL (a : Fe) : Fe := lin a (fun i => txN 1 (2 * i)) 128
theorem sq_eq (a : Fe) : sq a = sqL a := by
  have h : sq (lin a (txN 1) 128) = sqL a := by
    rw [sq_adds.lin]
    exact lin_congr fun i _ => sq_pow i
  rw [fe_sum] at h
  exact h

/-- The even powers of x, one by one. -/
def evens (b : Fe) : Nat → List Fe
  | 0 => []
  | n + 1 => b :: evens (tx (tx b)) n
theorem evens_at (n : Nat) : ∀ (b : Fe) (i : Nat), i < n → (evens b n).getD i 0 = txN b (2 * i) := by
  induction n with
  | zero => intro b i h; omega
  | succ n ih =>
    intro b i h
    cases i with
    | zero => rfl
    | succ i =>
      rw [evens, List.getD_cons_succ, ih _ i (by omega), txN_in, txN_in]
      rfl
/-- The sum over a list. -/
def linL : List Fe → Nat → Nat → Fe → Fe
  | [], _, _, s => s
  | x :: r, a, i, s => linL r a (i + 1) (if a.testBit i then s ^^^ x else s)
theorem linL_eq (a : Fe) : ∀ (l : List Fe) (i : Nat) (s : Fe) (f : Nat → Fe), (∀ j, j < l.length → l.getD j 0 = f (i + j)) → s = lin a f i → linL l a.toNat i s = lin a f (i + l.length)
  | [], i, s, f, _, hs => hs
  | x :: r, i, s, f, h, hs => by
    have h0 := h 0 (by simp)
    rw [linL, linL_eq a r (i + 1) _ f (fun j hj => by have := h (j + 1) (by simpa using hj); rw [List.getD_cons_succ] at this; rw [this]; congr 1; omega) ?_]
    · rw [List.length_cons]; congr 1; omega
    · rw [lin, ← hs]
      have hx : x = f i := h0
      rw [← hx]
      show (if a.toNat.testBit i then _ else _) = _
      cases hb : a.getLsbD i <;> simp [BitVec.getLsbD] at hb <;> simp [hb]

theorem evens_length (b : Fe) (n : Nat) : (evens b n).length = n := by
  induction n generalizing b with
  | zero => rfl
  | succ n ih => rw [evens, List.length_cons, ih]
def sqE (E : List Fe) (a : Fe) : Fe := linL E a.toNat 0 0
theorem sqE_eq (a : Fe) : sqE (evens 1 128) a = sq a := by
  rw [sq_eq]
  unfold sqE sqL
  rw [linL_eq a (evens 1 128) 0 0 (fun i => txN 1 (2 * i)) (fun j hj => by rw [evens_length] at hj; rw [evens_at 128 1 j hj, Nat.zero_add]) rfl, evens_length]

/-- Squared so many times, by the sums. -/
def sqEN (E : List Fe) (a : Fe) : Nat → Fe
  | 0 => a
  | n + 1 => sqE E (sqEN E a n)
theorem sqEN_eq (a : Fe) (n : Nat) : sqEN (evens 1 128) a n = sqN a n := by
  induction n with
  | zero => rfl
  | succ n ih => rw [sqEN, ih, sqE_eq]; rfl

end Go.Proofs.Ytfgoomlgmepalaa
