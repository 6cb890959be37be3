/-
  Two elements added, as bytes: both exclusive-ored. Plain mathematics; condition: sixteen bytes each.
-/
import Derived.Test.YtfgoomlgmepalaaFieldBack
import Derived.Test.YtfgoomlgmepalaaXorL
namespace Go.Proofs.Ytfgoomlgmepalaa

theorem bitH_test (b : UInt8) {s : Nat} (hs : s < 8) : bitH b s = b.toNat.testBit (7 - s) := by
  have : ∀ b : Fin 256, ∀ s : Fin 8, bitH (UInt8.ofNat b.val) s.val = (UInt8.ofNat b.val).toNat.testBit (7 - s.val) := by decide +kernel
  have h := this ⟨b.toNat, b.toNat_lt⟩ ⟨s, hs⟩
  simpa using h
theorem xorL_len {l m : List UInt8} (hl : l.length = 16) (hm : m.length = 16) : (xorL l m).length = 16 := by
  unfold xorL
  rw [List.length_zipWith, hl, hm]
  rfl
theorem feB_xor {l m : List UInt8} (hl : l.length = 16) (hm : m.length = 16) : feB (xorL l m) = feB l ^^^ feB m := by
  have hx := xorL_len hl hm
  apply BitVec.eq_of_getLsbD_eq
  intro i hi
  have h8 : i / 8 < 16 := by omega
  rw [BitVec.getLsbD_xor, feB_bit _ hi, feB_bit _ hi, feB_bit _ hi, bitB_H (by omega), bitB_H (by omega), bitB_H (by omega), bitH_test _ (by omega), bitH_test _ (by omega), bitH_test _ (by omega)]
  have e : (xorL l m).getD (i / 8) 0 = l.getD (i / 8) 0 ^^^ m.getD (i / 8) 0 := by
    unfold xorL
    rw [List.getD_eq_getElem?_getD, List.getD_eq_getElem?_getD, List.getD_eq_getElem?_getD, List.getElem?_zipWith, List.getElem?_eq_getElem (by omega), List.getElem?_eq_getElem (by omega)]
    rfl
  rw [e, UInt8.toNat_xor, Nat.testBit_xor]
theorem byF_add {l m : List UInt8} (hl : l.length = 16) (hm : m.length = 16) : byF (feB l ^^^ feB m) = xorL l m := by
  rw [← feB_xor hl hm, byF_feB (xorL_len hl hm)]

end Go.Proofs.Ytfgoomlgmepalaa
