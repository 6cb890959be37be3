/-
  Elements as two words of 64 bits, the first bit the highest: what a shift down is, what a table of sixteen products gives, four bits at a time. Plain mathematics; no condition; nothing of the program.
-/
import Derived.Test.YtfgoomlgmepalaaFieldBack
namespace Go.Proofs.Ytfgoomlgmepalaa

theorem txN_xor (n : Nat) (a b : Fe) : txN (a ^^^ b) n = txN a n ^^^ txN b n := txN_adds n a b
/-- Two maps that go part by part are the same if they are on each power of x. -/
theorem basis {n : Nat} (g k : Fe → BitVec n) (hg : ∀ a b, g (a ^^^ b) = g a ^^^ g b) (hk : ∀ a b, k (a ^^^ b) = k a ^^^ k b) (hb : ∀ i : Fin 128, g ((1 : Fe) <<< i.val) = k ((1 : Fe) <<< i.val)) (a : Fe) : g a = k a := by
  have g0 : g 0 = 0 := by
    have := hg 0 0
    rw [fx_self] at this
    rw [this]
    exact BitVec.xor_self
  have k0 : k 0 = 0 := by
    have := hk 0 0
    rw [fx_self] at this
    rw [this]
    exact BitVec.xor_self
  have : ∀ m, m ≤ 128 → g (lin a (fun i => (1 : Fe) <<< i) m) = k (lin a (fun i => (1 : Fe) <<< i) m) := by
    intro m
    induction m with
    | zero => intro _; show g 0 = k 0; rw [g0, k0]
    | succ m ih =>
      intro hm
      rw [lin, hg, hk, ih (by omega)]
      cases a.getLsbD m
      · simp only [Bool.false_eq_true, if_false]
        rw [g0, k0]
      · simp only [if_true]
        exact congrArg _ (hb ⟨m, by omega⟩)
  have := this 128 (Nat.le_refl _)
  rw [lin_self] at this
  exact this

/-- An element read from its other end: the first bit the highest. -/
def rv (a : Fe) : Fe := lin a (fun i => (1 : Fe) <<< (127 - i)) 128
theorem rv_adds (a b : Fe) : rv (a ^^^ b) = rv a ^^^ rv b := lin_left _ _ a b
theorem rv_bits (a : Fe) (n : Nat) (hn : n ≤ 128) {j : Nat} (hj : j < 128) : (lin a (fun i => (1 : Fe) <<< (127 - i)) n).getLsbD j = (decide (127 - j < n) && a.getLsbD (127 - j)) := by
  induction n with
  | zero => simp [lin]
  | succ n ih =>
    rw [lin, BitVec.getLsbD_xor, ih (by omega), one_bit (by omega)]
    by_cases e : 127 - j = n
    · have e2 : j = 127 - n := by omega
      subst e2
      rw [show 127 - (127 - n) = n from by omega]
      simp
    · have e2 : ¬ j = 127 - n := by omega
      by_cases hl : 127 - j < n
      · have : 127 - j < n + 1 := by omega
        simp [hl, e2, this]
      · have : ¬ 127 - j < n + 1 := by omega
        simp [hl, e2, this]
theorem rv_bit (a : Fe) {j : Nat} (hj : j < 128) : (rv a).getLsbD j = a.getLsbD (127 - j) := by
  unfold rv
  rw [rv_bits a 128 (Nat.le_refl _) hj]
  have : 127 - j < 128 := by omega
  simp [this]

/-- Its two words. -/
def hB (a : Fe) : BitVec 64 := (rv a).extractLsb' 64 64
def lB (a : Fe) : BitVec 64 := (rv a).extractLsb' 0 64
theorem hB_bit (a : Fe) {i : Nat} (hi : i < 64) : (hB a).getLsbD i = a.getLsbD (63 - i) := by
  unfold hB
  rw [BitVec.getLsbD_extractLsb', rv_bit a (by omega), show 127 - (64 + i) = 63 - i from by omega]
  simp [hi]
theorem lB_bit (a : Fe) {i : Nat} (hi : i < 64) : (lB a).getLsbD i = a.getLsbD (127 - i) := by
  unfold lB
  rw [BitVec.getLsbD_extractLsb', rv_bit a (by omega), show 127 - (0 + i) = 127 - i from by omega]
  simp [hi]
theorem hB_xor (a b : Fe) : hB (a ^^^ b) = hB a ^^^ hB b := by
  apply BitVec.eq_of_getLsbD_eq
  intro i hi
  rw [hB_bit _ hi, BitVec.getLsbD_xor, BitVec.getLsbD_xor, hB_bit _ hi, hB_bit _ hi]
theorem lB_xor (a b : Fe) : lB (a ^^^ b) = lB a ^^^ lB b := by
  apply BitVec.eq_of_getLsbD_eq
  intro i hi
  rw [lB_bit _ hi, BitVec.getLsbD_xor, BitVec.getLsbD_xor, lB_bit _ hi, lB_bit _ hi]
theorem words_ext {a b : Fe} (h : hB a = hB b) (l : lB a = lB b) : a = b := by
  apply BitVec.eq_of_getLsbD_eq
  intro i hi
  by_cases hl : i < 64
  · have e := hB_bit a (i := 63 - i) (by omega)
    have f := hB_bit b (i := 63 - i) (by omega)
    rw [show 63 - (63 - i) = i from by omega] at e f
    rw [← e, ← f, h]
  · have e := lB_bit a (i := 127 - i) (by omega)
    have f := lB_bit b (i := 127 - i) (by omega)
    rw [show 127 - (127 - i) = i from by omega] at e f
    rw [← e, ← f, l]
theorem hB_zero : hB 0 = 0 := by decide +kernel
theorem lB_zero : lB 0 = 0 := by decide +kernel

/-- Times x^k, word by word. -/
def rsO (k : Nat) (l : BitVec 64) : BitVec 64 := l <<< (64 - k)
def rsH (k : Nat) (h l : BitVec 64) : BitVec 64 := (h >>> k) ^^^ rsO k l ^^^ (rsO k l >>> 1) ^^^ (rsO k l >>> 2) ^^^ (rsO k l >>> 7)
def rsL (k : Nat) (h l : BitVec 64) : BitVec 64 := (l >>> k) ^^^ (h <<< (64 - k))
theorem w_four (a b c d : BitVec 64) : (a ^^^ b) ^^^ (c ^^^ d) = (a ^^^ c) ^^^ (b ^^^ d) := by
  rw [BitVec.xor_assoc, BitVec.xor_assoc, ← BitVec.xor_assoc b c d, BitVec.xor_comm b c, BitVec.xor_assoc c b d]
theorem rsO_xor (k : Nat) (l m : BitVec 64) : rsO k (l ^^^ m) = rsO k l ^^^ rsO k m := BitVec.shiftLeft_xor_distrib _ _ _
theorem rsH_xor (k : Nat) (h i l m : BitVec 64) : rsH k (h ^^^ i) (l ^^^ m) = rsH k h l ^^^ rsH k i m := by
  unfold rsH
  rw [rsO_xor, BitVec.ushiftRight_xor_distrib, BitVec.ushiftRight_xor_distrib, BitVec.ushiftRight_xor_distrib, BitVec.ushiftRight_xor_distrib, w_four (h >>> k), w_four (h >>> k ^^^ rsO k l), w_four (h >>> k ^^^ rsO k l ^^^ rsO k l >>> 1), w_four (h >>> k ^^^ rsO k l ^^^ rsO k l >>> 1 ^^^ rsO k l >>> 2)]
theorem rsL_xor (k : Nat) (h i l m : BitVec 64) : rsL k (h ^^^ i) (l ^^^ m) = rsL k h l ^^^ rsL k i m := by
  unfold rsL
  rw [BitVec.ushiftRight_xor_distrib, BitVec.shiftLeft_xor_distrib, w_four]
theorem rsH_1 (a : Fe) : hB (txN a 1) = rsH 1 (hB a) (lB a) :=
  basis (fun a => hB (txN a 1)) (fun a => rsH 1 (hB a) (lB a)) (fun a b => by show hB (txN (a ^^^ b) 1) = _; rw [txN_xor, hB_xor]) (fun a b => by show rsH 1 (hB (a ^^^ b)) (lB (a ^^^ b)) = _; rw [hB_xor, lB_xor, rsH_xor]) (by decide +kernel) a
theorem rsL_1 (a : Fe) : lB (txN a 1) = rsL 1 (hB a) (lB a) :=
  basis (fun a => lB (txN a 1)) (fun a => rsL 1 (hB a) (lB a)) (fun a b => by show lB (txN (a ^^^ b) 1) = _; rw [txN_xor, lB_xor]) (fun a b => by show rsL 1 (hB (a ^^^ b)) (lB (a ^^^ b)) = _; rw [hB_xor, lB_xor, rsL_xor]) (by decide +kernel) a
theorem rsH_4 (a : Fe) : hB (txN a 4) = rsH 4 (hB a) (lB a) :=
  basis (fun a => hB (txN a 4)) (fun a => rsH 4 (hB a) (lB a)) (fun a b => by show hB (txN (a ^^^ b) 4) = _; rw [txN_xor, hB_xor]) (fun a b => by show rsH 4 (hB (a ^^^ b)) (lB (a ^^^ b)) = _; rw [hB_xor, lB_xor, rsH_xor]) (by decide +kernel) a
theorem rsL_4 (a : Fe) : lB (txN a 4) = rsL 4 (hB a) (lB a) :=
  basis (fun a => lB (txN a 4)) (fun a => rsL 4 (hB a) (lB a)) (fun a b => by show lB (txN (a ^^^ b) 4) = _; rw [txN_xor, lB_xor]) (fun a b => by show rsL 4 (hB (a ^^^ b)) (lB (a ^^^ b)) = _; rw [hB_xor, lB_xor, rsL_xor]) (by decide +kernel) a

/-- An element times the polynomial of the four bits of n, the first one the highest. -/
def pr (h : Fe) (n : Nat) : Fe := ((if n.testBit 3 then h else 0) ^^^ (if n.testBit 2 then txN h 1 else 0)) ^^^ ((if n.testBit 1 then txN h 2 else 0) ^^^ (if n.testBit 0 then txN h 3 else 0))
/-- A product so far, with k times four bits of a word taken. -/
def tk (h p : Fe) (w : Nat) : Nat → Fe
  | 0 => p
  | k + 1 => txN (tk h p w k) 4 ^^^ pr h (w / 16 ^ k % 16)
theorem fmul_ite (c : Bool) (a h : Fe) : fmul (if c then a else 0) h = if c then fmul a h else 0 := (fmul_left h).ite c a
theorem fmul_pr (h : Fe) (n : Nat) : fmul (pr 1 n) h = pr h n := by
  have l := fmul_left h
  have hx : ∀ a b, fmul (a ^^^ b) h = fmul a h ^^^ fmul b h := l
  unfold pr
  rw [hx, hx, hx, fmul_ite, fmul_ite, fmul_ite, fmul_ite, fmul_txN', fmul_txN', fmul_txN', one_fmul]
theorem fmul_tk (h p : Fe) (w k : Nat) : fmul (tk 1 p w k) h = tk h (fmul p h) w k := by
  induction k with
  | zero => rfl
  | succ k ih =>
    have hx : ∀ a b, fmul (a ^^^ b) h = fmul a h ^^^ fmul b h := fmul_left h
    rw [tk, hx, fmul_txN', ih, fmul_pr]
    rfl
theorem nib_bit (w k : Nat) {j : Nat} (hj : j < 4) : (w / 16 ^ k % 16).testBit j = w.testBit (4 * k + j) := by
  rw [show (16 : Nat) ^ k = 2 ^ (4 * k) from by rw [Nat.pow_mul]]
  rw [show w / 2 ^ (4 * k) % 16 = w / 2 ^ (4 * k) % 2 ^ 4 from rfl, Nat.testBit_mod_two_pow, Nat.testBit_div_two_pow, Nat.add_comm]
  simp [hj]
theorem ite_xor (c d : Bool) (a : Fe) : (if (c ^^ d) then a else 0) = (if c then a else 0) ^^^ (if d then a else 0) := by
  cases c <;> cases d <;> simp
theorem pr_xor (h : Fe) (w v k : Nat) : pr h ((w ^^^ v) / 16 ^ k % 16) = pr h (w / 16 ^ k % 16) ^^^ pr h (v / 16 ^ k % 16) := by
  unfold pr
  rw [nib_bit _ k (j := 3) (by omega), nib_bit _ k (j := 2) (by omega), nib_bit _ k (j := 1) (by omega), nib_bit _ k (j := 0) (by omega)]
  rw [nib_bit w k (j := 3) (by omega), nib_bit w k (j := 2) (by omega), nib_bit w k (j := 1) (by omega), nib_bit w k (j := 0) (by omega)]
  rw [nib_bit v k (j := 3) (by omega), nib_bit v k (j := 2) (by omega), nib_bit v k (j := 1) (by omega), nib_bit v k (j := 0) (by omega)]
  simp only [Nat.testBit_xor, ite_xor]
  generalize (if w.testBit (4 * k + 3) then h else 0) = a3
  generalize (if w.testBit (4 * k + 2) then txN h 1 else 0) = a2
  generalize (if w.testBit (4 * k + 1) then txN h 2 else 0) = a1
  generalize (if w.testBit (4 * k + 0) then txN h 3 else 0) = a0
  generalize (if v.testBit (4 * k + 3) then h else 0) = b3
  generalize (if v.testBit (4 * k + 2) then txN h 1 else 0) = b2
  generalize (if v.testBit (4 * k + 1) then txN h 2 else 0) = b1
  generalize (if v.testBit (4 * k + 0) then txN h 3 else 0) = b0
  rw [fx_four a3 b3 a2 b2, fx_four a1 b1 a0 b0, fx_four]
theorem tk_xor (h p q : Fe) (w v k : Nat) : tk h (p ^^^ q) (w ^^^ v) k = tk h p w k ^^^ tk h q v k := by
  induction k with
  | zero => rfl
  | succ k ih =>
    rw [tk, ih, pr_xor, txN_xor, fx_four]
    rfl
/-- Both words taken: the product. -/
theorem tk_one (e : Fe) : tk 1 (tk 1 0 (lB e).toNat 16) (hB e).toNat 16 = e :=
  basis (fun e => tk 1 (tk 1 0 (lB e).toNat 16) (hB e).toNat 16) (fun e => e) (fun a b => by
    show tk 1 (tk 1 0 (lB (a ^^^ b)).toNat 16) (hB (a ^^^ b)).toNat 16 = _
    rw [lB_xor, hB_xor, BitVec.toNat_xor, BitVec.toNat_xor]
    have := tk_xor 1 0 0 (lB a).toNat (lB b).toNat 16
    rw [fx_self] at this
    rw [this, tk_xor]) (fun _ _ => rfl) (by decide +kernel) e
theorem tk_mul (e h : Fe) : tk h (tk h 0 (lB e).toNat 16) (hB e).toNat 16 = fmul e h := by
  have := fmul_tk h (tk 1 0 (lB e).toNat 16) (hB e).toNat 16
  rw [tk_one, fmul_tk h 0, fmul_comm 0 h, fmul_zero] at this
  exact this.symm

/-- The bits of the number of at most eight bytes. -/
theorem getN_bit : ∀ (m : Nat) (l : List UInt8), l.length = m → m ≤ 8 → getN l < 2 ^ (8 * m) ∧ ∀ i, i < 8 * m → (getN l).testBit (8 * m - 1 - i) = bitB l i := by
  intro m
  induction m with
  | zero => intro l hl _; rw [List.length_eq_zero_iff.1 hl]; exact ⟨by decide, fun i hi => by omega⟩
  | succ m ih =>
    intro l hl hm
    have hne : l ≠ [] := by intro e; rw [e] at hl; simp at hl
    obtain ⟨r, x, rfl⟩ : ∃ r x, l = r ++ [x] := ⟨l.dropLast, l.getLast hne, (List.dropLast_concat_getLast hne).symm⟩
    have hr : r.length = m := by simp at hl; exact hl
    obtain ⟨hb, hi⟩ := ih r hr (by omega)
    have hx := UInt8.toNat_lt x
    have hp : (2 : Nat) ^ (8 * (m + 1)) = 2 ^ (8 * m) * 256 := by rw [show 8 * (m + 1) = 8 * m + 8 from by omega, Nat.pow_add]
    have hp2 : (2 : Nat) ^ (8 * (m + 1)) ≤ 2 ^ 64 := Nat.pow_le_pow_right (by omega) (by omega)
    have e : getN (r ++ [x]) = 2 ^ 8 * getN r + x.toNat := by
      rw [getN_snoc, Nat.mod_eq_of_lt]
      · omega
      · rw [show (18446744073709551616 : Nat) = 2 ^ 64 from rfl]
        omega
    refine ⟨by rw [e]; omega, fun i hlt => ?_⟩
    rw [e, Nat.testBit_two_pow_mul_add _ hx]
    by_cases h8 : 8 * (m + 1) - 1 - i < 8
    · rw [if_pos h8]
      have hq : i / 8 = m := by omega
      unfold bitB
      rw [hq, show (r ++ [x]).getD m 0 = x from by rw [List.getD_eq_getElem?_getD, ← hr]; simp]
      have hl2 : m < (r ++ [x]).length := by simp [hr]
      simp only [hl2, decide_true, Bool.true_and]
      have hs : 8 * (m + 1) - 1 - i = 7 - i % 8 := by omega
      rw [hs]
      have : ∀ b : Fin 256, ∀ s : Fin 8, (UInt8.ofNat b.val).toNat.testBit s.val = decide ((UInt8.ofNat b.val >>> UInt8.ofNat s.val) &&& 1 = 1) := by decide +kernel
      have h := this ⟨x.toNat, hx⟩ ⟨7 - i % 8, by omega⟩
      simpa using h
    · rw [if_neg h8]
      have := hi i (by omega)
      rw [show 8 * (m + 1) - 1 - i - 8 = 8 * m - 1 - i from by omega, this]
      unfold bitB
      have h1 : i / 8 < r.length := by omega
      have h2 : i / 8 < (r ++ [x]).length := by simp; omega
      simp only [h1, h2, decide_true, Bool.true_and]
      rw [show (r ++ [x]).getD (i / 8) 0 = r.getD (i / 8) 0 from by rw [List.getD_eq_getElem?_getD, List.getD_eq_getElem?_getD, List.getElem?_append_left h1]]
theorem hB_feB {l m : List UInt8} (hl : l.length = 8) : (hB (feB (l ++ m))).toNat = getN l := by
  obtain ⟨hb, hi⟩ := getN_bit 8 l hl (by omega)
  apply Nat.eq_of_testBit_eq
  intro i
  by_cases h : i < 64
  · have e1 : (hB (feB (l ++ m))).toNat.testBit i = (feB (l ++ m)).getLsbD (63 - i) := hB_bit _ h
    have := hi (63 - i) (by omega)
    rw [show 8 * 8 - 1 - (63 - i) = i from by omega] at this
    rw [e1, this, feB_bit _ (by omega)]
    unfold bitB
    have h1 : (63 - i) / 8 < l.length := by omega
    have h2 : (63 - i) / 8 < (l ++ m).length := by simp; omega
    simp only [h1, h2, decide_true, Bool.true_and]
    rw [show (l ++ m).getD ((63 - i) / 8) 0 = l.getD ((63 - i) / 8) 0 from by rw [List.getD_eq_getElem?_getD, List.getD_eq_getElem?_getD, List.getElem?_append_left h1]]
  · have hp : (2 : Nat) ^ 64 ≤ 2 ^ i := Nat.pow_le_pow_right (by omega) (by omega)
    rw [Nat.testBit_lt_two_pow (Nat.lt_of_lt_of_le (hB _).isLt hp), Nat.testBit_lt_two_pow (Nat.lt_of_lt_of_le hb hp)]
theorem lB_feB {l m : List UInt8} (hl : l.length = 8) (hm : m.length = 8) : (lB (feB (l ++ m))).toNat = getN m := by
  obtain ⟨hb, hi⟩ := getN_bit 8 m hm (by omega)
  apply Nat.eq_of_testBit_eq
  intro i
  by_cases h : i < 64
  · have e1 : (lB (feB (l ++ m))).toNat.testBit i = (feB (l ++ m)).getLsbD (127 - i) := lB_bit _ h
    have := hi (63 - i) (by omega)
    rw [show 8 * 8 - 1 - (63 - i) = i from by omega] at this
    rw [e1, this, feB_bit _ (by omega)]
    unfold bitB
    have h1 : (63 - i) / 8 < m.length := by omega
    have h2 : (127 - i) / 8 < (l ++ m).length := by simp; omega
    simp only [h1, h2, decide_true, Bool.true_and]
    rw [show (l ++ m).getD ((127 - i) / 8) 0 = m.getD ((63 - i) / 8) 0 from by rw [List.getD_eq_getElem?_getD, List.getD_eq_getElem?_getD, List.getElem?_append_right (by omega), show (127 - i) / 8 - l.length = (63 - i) / 8 from by omega]]
    rw [show (127 - i) % 8 = (63 - i) % 8 from by omega]
  · have hp : (2 : Nat) ^ 64 ≤ 2 ^ i := Nat.pow_le_pow_right (by omega) (by omega)
    rw [Nat.testBit_lt_two_pow (Nat.lt_of_lt_of_le (lB _).isLt hp), Nat.testBit_lt_two_pow (Nat.lt_of_lt_of_le hb hp)]
/-- An element's bytes are those of its two words. -/
theorem byF_words (a : Fe) : putL (hB a).toNat 8 ++ putL (lB a).toNat 8 = byF a := by
  have h8 := putL_length 8 (hB a).toNat
  have l8 := putL_length 8 (lB a).toNat
  rw [← byF_feB (l := putL (hB a).toNat 8 ++ putL (lB a).toNat 8) (by rw [List.length_append, h8, l8])]
  congr 1
  apply words_ext
  · apply BitVec.eq_of_toNat_eq
    rw [hB_feB h8, getN_put8 _ (hB a).isLt]
  · apply BitVec.eq_of_toNat_eq
    rw [lB_feB h8 l8, getN_put8 _ (lB a).isLt]
/-- Only the first sixteen bytes count, and noughts behind fewer. -/
theorem feB_pad (l : List UInt8) (n : Nat) : feB (l.take 16 ++ List.replicate n 0) = feB l := by
  apply BitVec.eq_of_getLsbD_eq
  intro i hi
  rw [feB_bit _ hi, feB_bit _ hi]
  unfold bitB
  by_cases h1 : i / 8 < l.length
  · have h2 : i / 8 < (l.take 16).length := by simp; omega
    have h3 : i / 8 < (l.take 16 ++ List.replicate n 0).length := by rw [List.length_append]; omega
    simp only [h1, h3, decide_true, Bool.true_and]
    rw [show (l.take 16 ++ List.replicate n (0 : UInt8)).getD (i / 8) 0 = l.getD (i / 8) 0 from by rw [List.getD_eq_getElem?_getD, List.getD_eq_getElem?_getD, List.getElem?_append_left h2, List.getElem?_take_of_lt (by omega)]]
  · have h2 : (l.take 16).length ≤ i / 8 := by simp; omega
    have : (l.take 16 ++ List.replicate n 0).getD (i / 8) 0 = 0 := by
      rw [List.getD_eq_getElem?_getD, List.getElem?_append_right h2, List.getElem?_replicate]
      split <;> rfl
    rw [this]
    have hz : ∀ s : Fin 8, decide (((0 : UInt8) >>> UInt8.ofNat (7 - s.val)) &&& 1 = 1) = false := by decide +kernel
    have := hz ⟨i % 8, by omega⟩
    simp only [] at this
    rw [this]
    simp [h1]

end Go.Proofs.Ytfgoomlgmepalaa
