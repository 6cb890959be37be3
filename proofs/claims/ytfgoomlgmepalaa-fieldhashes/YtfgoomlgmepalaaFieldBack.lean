/-
  An element's bytes and back: plain mathematics ahead of layer 5's code. No condition but sixteen bytes; nothing of the program.
-/
import Derived.Test.YtfgoomlgmepalaaRefFieldD
namespace Go.Proofs.Ytfgoomlgmepalaa
open Go.RowKit

/-- Bit s of a byte, the highest first. -/
def bitH (b : UInt8) (s : Nat) : Bool := decide ((b >>> UInt8.ofNat (7 - s)) &&& 1 = 1)
theorem bitH_or (b : UInt8) {s t : Nat} (hs : s < 8) (ht : t < 8) : bitH (b ||| (1 <<< UInt8.ofNat (7 - s))) t = (bitH b t || decide (s = t)) := by
  have : ∀ i : Fin 256, ∀ s t : Fin 8, bitH (UInt8.ofNat i.val ||| (1 <<< UInt8.ofNat (7 - s.val))) t.val = (bitH (UInt8.ofNat i.val) t.val || decide (s.val = t.val)) := by decide +kernel
  have h := this ⟨b.toNat, b.toNat_lt⟩ ⟨s, hs⟩ ⟨t, ht⟩
  simpa using h
theorem bitH_zero {s : Nat} (hs : s < 8) : bitH 0 s = false := by
  have : ∀ s : Fin 8, bitH 0 s.val = false := by decide +kernel
  exact this ⟨s, hs⟩
def bitsH (f : Nat → Bool) : UInt8 := UInt8.ofNat ((List.range 8).foldl (fun n s => 2 * n + (f s).toNat) 0)
theorem bitH_all (b : UInt8) : bitsH (bitH b) = b := by
  have : ∀ i : Fin 256, bitsH (bitH (UInt8.ofNat i.val)) = UInt8.ofNat i.val := by decide +kernel
  have h := this ⟨b.toNat, b.toNat_lt⟩
  simpa using h
theorem bitH_ext {b c : UInt8} (h : ∀ s, s < 8 → bitH b s = bitH c s) : b = c := by
  rw [← bitH_all b, ← bitH_all c]
  unfold bitsH
  simp only [List.range, List.range.loop, List.foldl, h 0 (by omega), h 1 (by omega), h 2 (by omega), h 3 (by omega), h 4 (by omega), h 5 (by omega), h 6 (by omega), h 7 (by omega)]
theorem bitB_H {l : List UInt8} {i : Nat} (h : i / 8 < l.length) : bitB l i = bitH (l.getD (i / 8) 0) (i % 8) := by
  unfold bitB bitH
  simp only [h, decide_true, Bool.true_and]
theorem byS_bit (a : Fe) (n : Nat) (hn : n ≤ 128) {i : Nat} (hi : i < 128) : bitH ((byS a n).getD (i / 8) 0) (i % 8) = (decide (i < n) && a.getLsbD i) := by
  induction n with
  | zero =>
    have : (byS a 0).getD (i / 8) 0 = 0 := by
      have : ∀ j : Fin 16, (List.replicate 16 (0 : UInt8)).getD j.val 0 = 0 := by decide +kernel
      exact this ⟨i / 8, by omega⟩
    rw [this, bitH_zero (by omega)]
    simp
  | succ n ih =>
    have ih := ih (by omega)
    rw [byS]
    have hlen := byS_length a n
    cases hb : a.getLsbD n with
    | false =>
      simp only [Bool.false_eq_true, if_false]
      rw [ih]
      by_cases e : i = n
      · subst e; rw [hb]; simp
      · by_cases hl : i < n
        · have : i < n + 1 := by omega
          simp [hl, this]
        · have : ¬ i < n + 1 := by omega
          simp [hl, this]
    | true =>
      simp only [if_true]
      by_cases q : i / 8 = n / 8
      · rw [q] at ih ⊢
        have hq : n / 8 < (byS a n).length := by omega
        rw [show ((byS a n).set (n / 8) ((byS a n).getD (n / 8) 0 ||| 1 <<< UInt8.ofNat (7 - n % 8))).getD (n / 8) 0 = (byS a n).getD (n / 8) 0 ||| 1 <<< UInt8.ofNat (7 - n % 8) from by
          rw [List.getD_eq_getElem?_getD, List.getElem?_set_self hq]; rfl]
        rw [bitH_or _ (by omega) (by omega), ih]
        by_cases e : i = n
        · subst e; rw [hb]; simp
        · have m : ¬ n % 8 = i % 8 := by omega
          by_cases hl : i < n
          · have : i < n + 1 := by omega
            simp [hl, this, m]
          · have : ¬ i < n + 1 := by omega
            simp [hl, this, m]
      · rw [show ((byS a n).set (n / 8) ((byS a n).getD (n / 8) 0 ||| 1 <<< UInt8.ofNat (7 - n % 8))).getD (i / 8) 0 = (byS a n).getD (i / 8) 0 from by
          rw [List.getD_eq_getElem?_getD, List.getElem?_set_ne (by omega), List.getD_eq_getElem?_getD]]
        rw [ih]
        have e : ¬ i = n := by intro e; exact q (by rw [e])
        by_cases hl : i < n
        · have : i < n + 1 := by omega
          simp [hl, this]
        · have : ¬ i < n + 1 := by omega
          simp [hl, this]
theorem byF_length (a : Fe) : (byF a).length = 16 := byS_length a 128
theorem byF_bit (a : Fe) {i : Nat} (hi : i < 128) : bitB (byF a) i = a.getLsbD i := by
  rw [bitB_H (by rw [byF_length]; omega)]
  unfold byF
  rw [byS_bit a 128 (Nat.le_refl _) hi]
  simp [hi]
theorem feB_bit (l : List UInt8) {i : Nat} (hi : i < 128) : (feB l).getLsbD i = bitB l i := by
  unfold feB
  rw [pk_bits _ 128 (Nat.le_refl _)]
  simp [hi]
/-- An element out of its own bytes. -/
theorem feB_byF (a : Fe) : feB (byF a) = a := by
  apply BitVec.eq_of_getLsbD_eq
  intro i hi
  rw [feB_bit _ hi, byF_bit _ hi]
/-- Sixteen bytes out of their own element. -/
theorem byF_feB {l : List UInt8} (hl : l.length = 16) : byF (feB l) = l := by
  apply List.ext_getElem (by rw [byF_length, hl])
  intro j h1 h2
  apply bitH_ext
  intro s hs
  have hj : j < 16 := by omega
  have e1 := byF_bit (feB l) (i := 8 * j + s) (by omega)
  rw [feB_bit _ (by omega), bitB_H (by rw [byF_length]; omega), bitB_H (by omega), show (8 * j + s) / 8 = j from by omega, show (8 * j + s) % 8 = s from by omega] at e1
  simpa [List.getD_eq_getElem?_getD, List.getElem?_eq_getElem h1, List.getElem?_eq_getElem h2] using e1
theorem feB_inj {l m : List UInt8} (hl : l.length = 16) (hm : m.length = 16) (h : feB l = feB m) : l = m := by rw [← byF_feB hl, ← byF_feB hm, h]
theorem byF_inj {a b : Fe} (h : byF a = byF b) : a = b := by rw [← feB_byF a, ← feB_byF b, h]

end Go.Proofs.Ytfgoomlgmepalaa
