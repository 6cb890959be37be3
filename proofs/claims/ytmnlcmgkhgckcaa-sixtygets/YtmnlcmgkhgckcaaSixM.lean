/-
  Plain mathematics of layer 7, for a program that holds so many bits as a number: numbers of bits put together and parted, the bits of a text's letters, and which texts are letters of bytes. No condition; nothing of the program.
-/
import Derived.Test.YtmnlcmgkhgckcaaSixL
namespace Go.Proofs.Ytmnlcmgkhgckcaa

theorem valN_add (l : List Bool) (i a : Nat) : ∀ b, valN l i (a + b) = valN l i a * 2 ^ b + valN l (i + a) b := by
  intro b
  induction b with
  | zero => simp [valN]
  | succ b ih =>
    rw [← Nat.add_assoc, valN, valN, ih, Nat.pow_succ, Nat.mul_add, Nat.add_assoc i a b]
    have : 2 * (valN l i a * 2 ^ b) = valN l i a * (2 ^ b * 2) := by rw [Nat.mul_comm (2 ^ b) 2, ← Nat.mul_assoc, ← Nat.mul_assoc, Nat.mul_comm 2]
    omega
theorem valN_div (l : List Bool) (i a b : Nat) : valN l i (a + b) / 2 ^ b = valN l i a := by
  rw [valN_add, Nat.mul_comm, Nat.mul_add_div (Nat.two_pow_pos b), Nat.div_eq_of_lt (valN_lt _ _ _), Nat.add_zero]
theorem valN_mod (l : List Bool) (i a b : Nat) : valN l i (a + b) % 2 ^ b = valN l (i + a) b := by
  rw [valN_add, Nat.mul_comm, Nat.mul_add_mod, Nat.mod_eq_of_lt (valN_lt _ _ _)]
theorem valN_congr {l m : List Bool} {i j k : Nat} (h : ∀ q, q < k → l.getD (i + q) false = m.getD (j + q) false) : valN l i k = valN m j k := by
  induction k with
  | zero => rfl
  | succ k ih =>
    rw [valN, valN, ih (fun q hq => h q (by omega)), h k (by omega)]
theorem valN_none {l : List Bool} {i k : Nat} (h : ∀ q, q < k → l.getD (i + q) false = false) : valN l i k = 0 := by
  induction k with
  | zero => rfl
  | succ k ih =>
    rw [valN, ih (fun q hq => h q (by omega)), h k (by omega)]
    rfl
theorem valN_all {l : List Bool} {i k : Nat} (h : valN l i k = 0) : ∀ q, q < k → l.getD (i + q) false = false := by
  induction k with
  | zero => intro q hq; omega
  | succ k ih =>
    rw [valN] at h
    intro q hq
    by_cases e : q = k
    · subst e
      cases hl : l.getD (i + q) false with
      | false => rfl
      | true => rw [hl] at h; simp at h
    · exact ih (by omega) q (by omega)
/-- A byte's bits. -/
theorem valN_bitsL (b : List UInt8) {k : Nat} (hk : k < b.length) : valN (bitsL b) (8 * k) 8 = (b.getD k 0).toNat := by
  apply valN_byte
  intro j hj
  rw [bitsL_at]
  unfold bitB
  rw [show (8 * k + j) / 8 = k from by omega, show (8 * k + j) % 8 = j from by omega, decide_eq_true hk, Bool.true_and]
/-- Bits behind the end. -/
theorem bitsL_end (b : List UInt8) {j : Nat} (h : 8 * b.length ≤ j) : (bitsL b).getD j false = false := by
  rw [List.getD_eq_getElem?_getD, List.getElem?_eq_none (by rw [bitsL_length]; exact h)]
  rfl
theorem bitsS_eq (s : List UInt8) : bitsS s = (List.range (6 * ends s)).map fun j => (num (s.getD (j / 6) 0)).testBit (5 - j % 6) := by
  unfold bitsS
  rw [← flat6 (fun j => (num (s.getD (j / 6) 0)).testBit (5 - j % 6)), List.flatMap_def]
  congr 1
  have : s.take (ends s) = (List.range (ends s)).map fun i => s.getD i 0 := by
    have hle := ends_le s
    apply List.ext_getElem (by simp; omega)
    intro i h1 h2
    rw [List.getElem_take, List.getElem_map, List.getElem_range, List.getD_eq_getElem?_getD, List.getElem?_eq_getElem]
    rfl
  rw [this, List.map_map]
  apply List.map_congr_left
  intro i _
  show six (s.getD i 0) = _
  unfold six
  apply List.map_congr_left
  intro k hk
  rw [List.mem_range] at hk
  show _ = (num (s.getD ((6 * i + k) / 6) 0)).testBit (5 - (6 * i + k) % 6)
  rw [show (6 * i + k) / 6 = i from by omega, show (6 * i + k) % 6 = k from by omega]
theorem bitsS_length (s : List UInt8) : (bitsS s).length = 6 * ends s := by rw [bitsS_eq]; simp
theorem bitsS_at (s : List UInt8) {i k : Nat} (hi : i < ends s) (hk : k < 6) : (bitsS s).getD (6 * i + k) false = (num (s.getD i 0)).testBit (5 - k) := by
  rw [bitsS_eq, List.getD_eq_getElem?_getD, List.getElem?_map, List.getElem?_range (by omega)]
  show (num (s.getD ((6 * i + k) / 6) 0)).testBit (5 - (6 * i + k) % 6) = _
  rw [show (6 * i + k) / 6 = i from by omega, show (6 * i + k) % 6 = k from by omega]
theorem bits6 : ∀ N : Fin 64, (2 * (2 * (2 * (2 * (2 * (2 * 0 + if N.val.testBit 5 then 1 else 0) + if N.val.testBit 4 then 1 else 0) + if N.val.testBit 3 then 1 else 0) + if N.val.testBit 2 then 1 else 0) + if N.val.testBit 1 then 1 else 0) + if N.val.testBit 0 then 1 else 0) = N.val := by decide +kernel
/-- A letter's bits. -/
theorem valN_bitsS (s : List UInt8) {t : Nat} (ht : t < ends s) (hn : num (s.getD t 0) < 64) : valN (bitsS s) (6 * t) 6 = num (s.getD t 0) := by
  have h0 := bitsS_at s ht (k := 0) (by omega)
  have h1 := bitsS_at s ht (k := 1) (by omega)
  have h2 := bitsS_at s ht (k := 2) (by omega)
  have h3 := bitsS_at s ht (k := 3) (by omega)
  have h4 := bitsS_at s ht (k := 4) (by omega)
  have h5 := bitsS_at s ht (k := 5) (by omega)
  simp only [valN, h0, h1, h2, h3, h4, h5]
  exact bits6 ⟨_, hn⟩
theorem dec_length (s : List UInt8) : (dec64 s).length = 6 * ends s / 8 := by
  unfold dec64 bytesB
  rw [List.length_map, List.length_range, bitsS_length]
theorem dec_at (s : List UInt8) {m : Nat} (h : m < 6 * ends s / 8) : (dec64 s).getD m 0 = UInt8.ofNat (valN (bitsS s) (8 * m) 8) := by
  unfold dec64 bytesB
  rw [bitsS_length, List.getD_eq_getElem?_getD, List.getElem?_map, List.getElem?_range h]
  rfl
/-- One more byte. -/
theorem dec_take (s : List UInt8) {m : Nat} (h : m < 6 * ends s / 8) : (dec64 s).take (m + 1) = (dec64 s).take m ++ [UInt8.ofNat (valN (bitsS s) (8 * m) 8)] := by
  have hl : m < (dec64 s).length := by rw [dec_length]; exact h
  rw [List.take_add_one, List.getElem?_eq_getElem hl]
  have := dec_at s h
  rw [List.getD_eq_getElem?_getD, List.getElem?_eq_getElem hl] at this
  simp only [Option.getD_some] at this
  rw [this]
  rfl
/-- The bits of the bytes are the letters' as far as they are whole bytes. -/
theorem dec_bits (s : List UInt8) {j : Nat} (h : j < 8 * (6 * ends s / 8)) : (bitsL (dec64 s)).getD j false = (bitsS s).getD j false := by
  have hm : j / 8 < 6 * ends s / 8 := by omega
  have e1 : valN (bitsL (dec64 s)) (8 * (j / 8)) 8 = valN (bitsS s) (8 * (j / 8)) 8 := by
    have hv := valN_lt (bitsS s) (8 * (j / 8)) 8
    rw [valN_bitsL _ (by rw [dec_length]; exact hm), dec_at s hm, UInt8.toNat_ofNat', Nat.mod_eq_of_lt hv]
  have a1 := valN_bit (bitsL (dec64 s)) (8 * (j / 8)) 8 (j % 8) (by omega)
  have a2 := valN_bit (bitsS s) (8 * (j / 8)) 8 (j % 8) (by omega)
  rw [show 8 * (j / 8) + j % 8 = j from by omega] at a1 a2
  rw [← a1, ← a2, e1]
/-- What is left when the signs are off. -/
theorem ends_cases (s : List UInt8) : (ends s = s.length) ∨ (ends s + 1 = s.length ∧ s.getD (ends s) 0 = 61) ∨ (ends s + 2 = s.length ∧ s.getD (ends s) 0 = 61 ∧ s.getD (ends s + 1) 0 = 61) := by
  unfold ends
  by_cases h0 : s.length = 0
  · rw [if_pos h0]; exact Or.inl h0.symm
  · rw [if_neg h0]
    by_cases h1 : s.getD (s.length - 1) 0 = 61
    · rw [if_pos h1]
      by_cases h2 : s.length - 1 = 0
      · rw [if_pos h2]
        exact Or.inr (Or.inl ⟨by omega, by rw [h2] at h1; exact h1⟩)
      · rw [if_neg h2]
        by_cases h3 : s.getD (s.length - 2) 0 = 61
        · rw [if_pos h3]
          exact Or.inr (Or.inr ⟨by omega, h3, by rw [show s.length - 2 + 1 = s.length - 1 from by omega]; exact h1⟩)
        · rw [if_neg h3]
          exact Or.inr (Or.inl ⟨by omega, h1⟩)
    · rw [if_neg h1]; exact Or.inl rfl
/-- Letters whose last bits are noughts are a text of bytes. -/
theorem put_dec {s : List UInt8} (h4 : s.length % 4 = 0) (hl : ∀ t, t < ends s → num (s.getD t 0) < 64) (hz : valN (bitsS s) (8 * (6 * ends s / 8)) (6 * ends s % 8) = 0) : put64 (dec64 s) = s := by
  have hE := ends_cases s
  have hn := dec_length s
  have h6 : sixN (dec64 s).length = ends s := by rw [hn]; unfold sixN; omega
  have hlen : (put64 (dec64 s)).length = s.length := by rw [put64_length, h6]; omega
  have hb : ∀ j, (bitsL (dec64 s)).getD j false = (bitsS s).getD j false := by
    intro j
    by_cases h : j < 8 * (6 * ends s / 8)
    · exact dec_bits s h
    · rw [bitsL_end _ (by rw [hn]; omega)]
      by_cases h2 : j < 6 * ends s
      · have := valN_all hz (j - 8 * (6 * ends s / 8)) (by omega)
        rw [show 8 * (6 * ends s / 8) + (j - 8 * (6 * ends s / 8)) = j from by omega] at this
        exact this.symm
      · rw [List.getD_eq_getElem?_getD, List.getElem?_eq_none (by rw [bitsS_length]; omega)]
        rfl
  have hg : ∀ i, i < s.length → (put64 (dec64 s)).getD i 0 = s.getD i 0 := by
    intro i hi
    by_cases h : i < ends s
    · rw [put64_lo _ (by rw [h6]; exact h)]
      unfold sext
      rw [valN_congr (m := bitsS s) (j := 6 * i) (fun q _ => hb _), valN_bitsS s h (hl i h), lt_num _ (hl i h)]
    · rw [put64_hi _ (by rw [h6]; omega) (by rw [hlen]; exact hi)]
      rcases hE with hE | ⟨hE, e0⟩ | ⟨hE, e0, e1⟩
      · omega
      · rw [show i = ends s from by omega, e0]
      · by_cases hi2 : i = ends s
        · rw [hi2, e0]
        · rw [show i = ends s + 1 from by omega, e1]
  apply List.ext_getElem hlen
  intro i h1 h2
  have := hg i h2
  rw [List.getD_eq_getElem?_getD, List.getD_eq_getElem?_getD, List.getElem?_eq_getElem h1, List.getElem?_eq_getElem h2] at this
  exact this
/-- And with other bits they are none. -/
theorem put_tail {s : List UInt8} (hz : valN (bitsS s) (8 * (6 * ends s / 8)) (6 * ends s % 8) ≠ 0) (b : List UInt8) : put64 b ≠ s := by
  intro e
  subst e
  apply hz
  apply valN_none
  intro q hq
  have hE := ends_put b
  rw [hE] at hq ⊢
  have h8 : 6 * sixN b.length / 8 = b.length := by unfold sixN; omega
  rw [h8]
  rw [bitsS_put, List.getD_eq_getElem?_getD, List.getElem?_map, List.getElem?_range (by omega)]
  show (bitsL b).getD (8 * b.length + q) false = false
  exact bitsL_end b (by omega)

end Go.Proofs.Ytmnlcmgkhgckcaa
