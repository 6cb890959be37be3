/-
  Plain mathematics of layer 7: bytes as letters, four for three, and back. No condition; nothing of the program.
-/
import Derived.Test.YtmnlcmgkhgckcaaFieldBits
namespace Go.Proofs.Ytmnlcmgkhgckcaa

/-- The letters. -/
def lts : List UInt8 := [65, 66, 67, 68, 69, 70, 71, 72, 73, 74, 75, 76, 77, 78, 79, 80, 81, 82, 83, 84, 85, 86, 87, 88, 89, 90, 97, 98, 99, 100, 101, 102, 103, 104, 105, 106, 107, 108, 109, 110, 111, 112, 113, 114, 115, 116, 117, 118, 119, 120, 121, 122, 48, 49, 50, 51, 52, 53, 54, 55, 56, 57, 43, 47]
def lt (n : Nat) : UInt8 := lts.getD n 0
/-- The number of a letter; 64: it is none. -/
def num (c : UInt8) : Nat := lts.idxOf c
theorem num_lt : ∀ n, n < 64 → num (lt n) = n := by decide
theorem lt_num : ∀ c : UInt8, num c < 64 → lt (num c) = c := by
  have : ∀ c : Fin 256, num (UInt8.ofNat c.val) < 64 → lt (num (UInt8.ofNat c.val)) = UInt8.ofNat c.val := by decide +kernel
  intro c h
  have := this ⟨c.toNat, c.toNat_lt⟩
  simp only [UInt8.ofNat_toNat] at this
  exact this h
theorem num_eq : num 61 = 64 := by decide
theorem lt_ne (n : Nat) (h : n < 64) : lt n ≠ 61 := by
  intro e
  have := num_lt n h
  rw [e, num_eq] at this
  omega

/-- The bits of bytes, the highest ones first. -/
def bitsL (l : List UInt8) : List Bool := (List.range (8 * l.length)).map (bitB l)
theorem bitsL_length (l : List UInt8) : (bitsL l).length = 8 * l.length := by simp [bitsL]
theorem bitsL_at (l : List UInt8) (j : Nat) : (bitsL l).getD j false = bitB l j := by
  unfold bitsL
  rw [List.getD_eq_getElem?_getD, List.getElem?_map]
  by_cases h : j < 8 * l.length
  · rw [List.getElem?_range h]; rfl
  · rw [List.getElem?_eq_none (by simp; omega)]
    unfold bitB
    rw [decide_eq_false (by omega)]
    rfl
/-- The number of so many bits from a place on. -/
def valN (l : List Bool) (i : Nat) : Nat → Nat
  | 0 => 0
  | k + 1 => 2 * valN l i k + (if l.getD (i + k) false then 1 else 0)
theorem valN_lt (l : List Bool) (i k : Nat) : valN l i k < 2 ^ k := by
  induction k with
  | zero => simp [valN]
  | succ k ih =>
    rw [valN, Nat.pow_succ]
    split <;> omega
/-- Its bits. -/
theorem valN_bit (l : List Bool) (i : Nat) : ∀ m k, k < m → (valN l i m).testBit (m - 1 - k) = l.getD (i + k) false := by
  intro m
  induction m with
  | zero => intro k h; omega
  | succ m ih =>
    intro k h
    rw [valN]
    by_cases e : k = m
    · subst e
      rw [show k + 1 - 1 - k = 0 from by omega, Nat.testBit_zero]
      cases l.getD (i + k) false <;> simp
    · rw [show m + 1 - 1 - k = (m - 1 - k) + 1 from by omega, Nat.testBit_succ, ← ih k (by omega)]
      congr 1
      split <;> omega
/-- Bits that are a byte's are its number. -/
theorem valN_byte {l : List Bool} {i : Nat} {x : UInt8} (h : ∀ k, k < 8 → l.getD (i + k) false = decide ((x >>> UInt8.ofNat (7 - k)) &&& 1 = 1)) : valN l i 8 = x.toNat := by
  have h0 := h 0 (by omega)
  have h1 := h 1 (by omega)
  have h2 := h 2 (by omega)
  have h3 := h 3 (by omega)
  have h4 := h 4 (by omega)
  have h5 := h 5 (by omega)
  have h6 := h 6 (by omega)
  have h7 := h 7 (by omega)
  simp only [valN, h0, h1, h2, h3, h4, h5, h6, h7]
  have : ∀ x : Fin 256, 2 * (2 * (2 * (2 * (2 * (2 * (2 * (2 * 0 + if decide ((UInt8.ofNat x.val >>> UInt8.ofNat (7 - 0)) &&& 1 = 1) then 1 else 0) + if decide ((UInt8.ofNat x.val >>> UInt8.ofNat (7 - 1)) &&& 1 = 1) then 1 else 0) + if decide ((UInt8.ofNat x.val >>> UInt8.ofNat (7 - 2)) &&& 1 = 1) then 1 else 0) + if decide ((UInt8.ofNat x.val >>> UInt8.ofNat (7 - 3)) &&& 1 = 1) then 1 else 0) + if decide ((UInt8.ofNat x.val >>> UInt8.ofNat (7 - 4)) &&& 1 = 1) then 1 else 0) + if decide ((UInt8.ofNat x.val >>> UInt8.ofNat (7 - 5)) &&& 1 = 1) then 1 else 0) + if decide ((UInt8.ofNat x.val >>> UInt8.ofNat (7 - 6)) &&& 1 = 1) then 1 else 0) + (if decide ((UInt8.ofNat x.val >>> UInt8.ofNat (7 - 7)) &&& 1 = 1) then 1 else 0) = (UInt8.ofNat x.val).toNat := by decide +kernel
  have hx := this ⟨x.toNat, x.toNat_lt⟩
  simp only [UInt8.ofNat_toNat] at hx
  exact hx

/-- How many letters so many bytes have; the letters ahead of the signs. -/
def sixN (n : Nat) : Nat := (8 * n + 5) / 6
def sext (l : List Bool) (i : Nat) : UInt8 := lt (valN l (6 * i) 6)
def body (b : List UInt8) : List UInt8 := (List.range (sixN b.length)).map (sext (bitsL b))
theorem body_length (b : List UInt8) : (body b).length = sixN b.length := by simp [body]
/-- Bytes as letters. -/
def put64 (b : List UInt8) : List UInt8 := body b ++ List.replicate ((4 - sixN b.length % 4) % 4) 61
theorem put64_length (b : List UInt8) : (put64 b).length = sixN b.length + (4 - sixN b.length % 4) % 4 := by simp [put64, body_length]
theorem put64_four (b : List UInt8) : (put64 b).length % 4 = 0 := by rw [put64_length]; omega
theorem pads_le (n : Nat) : (4 - sixN n % 4) % 4 ≤ 2 := by unfold sixN; omega
theorem body_at (b : List UInt8) {i : Nat} (h : i < sixN b.length) : (body b).getD i 0 = sext (bitsL b) i := by
  simp [body, List.getD_eq_getElem?_getD, h]
theorem sext_lt (l : List Bool) (i : Nat) : valN l (6 * i) 6 < 64 := valN_lt l _ 6

/-- Where the signs begin, two at most. -/
def ends (s : List UInt8) : Nat :=
  if s.length = 0 then 0 else if s.getD (s.length - 1) 0 = 61 then (if s.length - 1 = 0 then 0 else if s.getD (s.length - 2) 0 = 61 then s.length - 2 else s.length - 1) else s.length
theorem ends_le (s : List UInt8) : ends s ≤ s.length := by unfold ends; split; omega; split; split; omega; split <;> omega; omega
theorem put64_lo (b : List UInt8) {i : Nat} (h : i < sixN b.length) : (put64 b).getD i 0 = sext (bitsL b) i := by
  unfold put64
  rw [List.getD_eq_getElem?_getD, List.getElem?_append_left (by rw [body_length]; exact h), ← List.getD_eq_getElem?_getD, body_at b h]
theorem put64_hi (b : List UInt8) {i : Nat} (h : sixN b.length ≤ i) (h2 : i < (put64 b).length) : (put64 b).getD i 0 = 61 := by
  rw [put64_length] at h2
  unfold put64
  rw [List.getD_eq_getElem?_getD, List.getElem?_append_right (by rw [body_length]; exact h), List.getElem?_replicate_of_lt (by rw [body_length]; omega)]
  rfl
theorem put64_letter (b : List UInt8) {i : Nat} (h : i < sixN b.length) : (put64 b).getD i 0 ≠ 61 := by
  rw [put64_lo b h]
  exact lt_ne _ (sext_lt _ _)
theorem ends_put (b : List UInt8) : ends (put64 b) = sixN b.length := by
  have hl := put64_length b
  have hp := pads_le b.length
  have h4 : sixN b.length = 0 ∨ 2 ≤ sixN b.length := by unfold sixN; omega
  generalize hP : (4 - sixN b.length % 4) % 4 = P at *
  unfold ends
  by_cases h0 : (put64 b).length = 0
  · rw [if_pos h0]; omega
  · rw [if_neg h0]
    match P, hp, hP with
    | 0, _, _ =>
      rw [if_neg (put64_letter b (by omega))]
      omega
    | 1, _, _ =>
      rw [if_pos (put64_hi b (by omega) (by omega)), if_neg (by omega), if_neg (put64_letter b (by omega))]
      omega
    | 2, _, _ =>
      rw [if_pos (put64_hi b (by omega) (by omega)), if_neg (by omega), if_pos (put64_hi b (by omega) (by omega))]
      omega

/-- Six bits of a letter. -/
def six (c : UInt8) : List Bool := (List.range 6).map fun k => (num c).testBit (5 - k)
theorem six_length (c : UInt8) : (six c).length = 6 := by simp [six]
/-- The bits of letters. -/
def bitsS (s : List UInt8) : List Bool := (s.take (ends s)).flatMap six
/-- The bytes of bits, as far as they are whole. -/
def bytesB (l : List Bool) : List UInt8 := (List.range (l.length / 8)).map fun i => UInt8.ofNat (valN l (8 * i) 8)
def dec64 (s : List UInt8) : List UInt8 := bytesB (bitsS s)
theorem flat6 (f : Nat → Bool) (m : Nat) : ((List.range m).map fun i => (List.range 6).map fun k => f (6 * i + k)).flatten = (List.range (6 * m)).map f := by
  induction m with
  | zero => rfl
  | succ m ih =>
    rw [List.range_succ (n := m), List.map_append, List.flatten_append, ih]
    rw [show 6 * (m + 1) = 6 * m + 6 from by omega]
    apply List.ext_getElem?
    intro j
    by_cases h : j < 6 * m
    · rw [List.getElem?_append_left (by simp; exact h), List.getElem?_map, List.getElem?_map, List.getElem?_range h, List.getElem?_range (by omega)]
    · rw [List.getElem?_append_right (by simp; omega)]
      simp only [List.map_cons, List.map_nil, List.flatten_cons, List.flatten_nil, List.append_nil, List.length_map, List.length_range]
      rw [List.getElem?_map, List.getElem?_map]
      by_cases h2 : j < 6 * m + 6
      · rw [List.getElem?_range (by omega), List.getElem?_range h2]
        simp only [Option.map_some]
        rw [show 6 * m + (j - 6 * m) = j from by omega]
      · rw [List.getElem?_eq_none (by simp; omega), List.getElem?_eq_none (by simp; omega)]
        rfl
theorem bitsS_put (b : List UInt8) : bitsS (put64 b) = (List.range (6 * sixN b.length)).map fun j => (bitsL b).getD j false := by
  unfold bitsS
  rw [ends_put, ← flat6 (fun j => (bitsL b).getD j false)]
  have : (put64 b).take (sixN b.length) = body b := by
    unfold put64
    rw [List.take_append_of_le_length (by rw [body_length]; omega), List.take_of_length_le (by rw [body_length]; omega)]
  rw [this, List.flatMap_def]
  unfold body
  rw [List.map_map]
  congr 1
  apply List.map_congr_left
  intro i _
  show six (sext (bitsL b) i) = _
  unfold six sext
  rw [num_lt _ (sext_lt _ _)]
  apply List.map_congr_left
  intro k hk
  rw [List.mem_range] at hk
  have := valN_bit (bitsL b) (6 * i) 6 k hk
  rw [show 6 - 1 - k = 5 - k from by omega] at this
  exact this
/-- There and back. -/
theorem dec_put (b : List UInt8) : dec64 (put64 b) = b := by
  have hl : (bitsS (put64 b)).length = 6 * sixN b.length := by rw [bitsS_put]; simp
  unfold dec64 bytesB
  rw [hl, show 6 * sixN b.length / 8 = b.length from by unfold sixN; omega]
  apply List.ext_getElem (by simp)
  intro i h1 h2
  rw [List.getElem_map, List.getElem_range]
  have e : valN (bitsS (put64 b)) (8 * i) 8 = b[i].toNat := by
    apply valN_byte
    intro k hk
    have hj : 8 * i + k < 6 * sixN b.length := by unfold sixN; omega
    rw [bitsS_put, List.getD_eq_getElem?_getD, List.getElem?_map, List.getElem?_range hj]
    simp only [Option.map_some, Option.getD_some]
    rw [bitsL_at]
    unfold bitB
    rw [show (8 * i + k) / 8 = i from by omega, show (8 * i + k) % 8 = k from by omega, decide_eq_true h2, Bool.true_and, List.getD_eq_getElem?_getD, List.getElem?_eq_getElem h2]
    rfl
  rw [e]
  simp
theorem put64_inj {b c : List UInt8} (h : put64 b = put64 c) : b = c := by rw [← dec_put b, h, dec_put]
/-- The bytes of a text and the code. -/
def get64 (s : List UInt8) : List UInt8 × Nat := if s.length % 4 ≠ 0 then ([], 3) else if put64 (dec64 s) = s then (dec64 s, 0) else ([], 4)
theorem get_put (b : List UInt8) : get64 (put64 b) = (b, 0) := by
  unfold get64
  rw [if_neg (by have := put64_four b; omega), dec_put, if_pos rfl]
theorem get_ok {s : List UInt8} (h : (get64 s).2 = 0) : put64 (get64 s).1 = s := by
  unfold get64 at h ⊢
  split at h
  · simp at h
  · split at h
    · rename_i h1 h2
      rw [if_neg h1, if_pos h2]
      exact h2
    · simp at h
/-- Which it is. -/
theorem get_of {s b : List UInt8} (h : put64 b = s) : get64 s = (b, 0) := by rw [← h]; exact get_put b
theorem get_not {s : List UInt8} (h4 : s.length % 4 = 0) (h : ∀ b, put64 b ≠ s) : get64 s = ([], 4) := by
  unfold get64
  rw [if_neg (by omega), if_neg (h _)]
theorem get_short {s : List UInt8} (h4 : s.length % 4 ≠ 0) : get64 s = ([], 3) := by
  unfold get64
  rw [if_pos h4]
theorem get_cases (s : List UInt8) : (s.length % 4 ≠ 0 ∧ get64 s = ([], 3)) ∨ (s.length % 4 = 0 ∧ (∃ b, put64 b = s ∧ get64 s = (b, 0))) ∨ (s.length % 4 = 0 ∧ (∀ b, put64 b ≠ s) ∧ get64 s = ([], 4)) := by
  by_cases h4 : s.length % 4 ≠ 0
  · exact Or.inl ⟨h4, get_short h4⟩
  · by_cases h : ∃ b, put64 b = s
    · obtain ⟨b, hb⟩ := h
      exact Or.inr (Or.inl ⟨by omega, b, hb, get_of hb⟩)
    · have hn : ∀ b, put64 b ≠ s := fun b hb => h ⟨b, hb⟩
      exact Or.inr (Or.inr ⟨by omega, hn, get_not (by omega) hn⟩)
/-- A letter that is none, ahead of the signs: it is nobody's text. -/
theorem put_letters {s : List UInt8} {i : Nat} (hi : i < ends s) (h : num (s.getD i 0) = 64) (b : List UInt8) : put64 b ≠ s := by
  intro e
  subst e
  rw [ends_put] at hi
  rw [put64_lo b hi] at h
  unfold sext at h
  rw [num_lt _ (sext_lt _ _)] at h
  have := sext_lt (bitsL b) i
  omega

end Go.Proofs.Ytmnlcmgkhgckcaa
