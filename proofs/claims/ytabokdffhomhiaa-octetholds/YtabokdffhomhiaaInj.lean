/-
  Plain mathematics: two lists of parts, each with its length ahead, are the same bytes just if they are the same. Condition: fewer than 1000000 bytes in all.
-/
import Derived.Test.YtabokdffhomhiaaXor
namespace Go.Proofs.Ytabokdffhomhiaa
open Go.RowKit

theorem put4_inj {n m : Nat} (hn : n ≤ 1000000) (hm : m ≤ 1000000) (h : putL n 4 = putL m 4) : n = m := by
  have e := congrArg getN h
  rw [getN_putL, getN_putL, show (256 : Nat) ^ 4 = 4294967296 from by decide] at e
  omega

theorem pack_inj (l : List (List UInt8)) : ∀ m, tot l ≤ 1000000 → tot m ≤ 1000000 → packL l = packL m → l = m := by
  induction l with
  | nil =>
    intro m _ _ h
    have e := congrArg List.length h
    rw [packL_length, packL_length] at e
    cases m with
    | nil => rfl
    | cons y q => simp [tot] at e
  | cons x r ih =>
    intro m hl hm h
    cases m with
    | nil =>
      have e := congrArg List.length h
      rw [packL_length, packL_length] at e
      simp [tot] at e
    | cons y q =>
      simp only [packL, List.append_assoc] at h
      obtain ⟨h1, h2⟩ := List.append_inj h (by rw [putL_length, putL_length])
      simp only [tot] at hl hm
      have hxy := put4_inj (by omega) (by omega) h1
      obtain ⟨h3, h4⟩ := List.append_inj h2 hxy
      rw [h3, ih q (by omega) (by omega) h4]

theorem pack_same (l m : List (List UInt8)) (hl : tot l ≤ 1000000) (hm : tot m ≤ 1000000) : decide (packL l = packL m) = decide (l = m) := by
  rw [Bool.eq_iff_iff, decide_eq_true_iff, decide_eq_true_iff]
  exact ⟨pack_inj l m hl hm, fun h => by rw [h]⟩
theorem xor_twice (l m : List UInt8) : xorL (xorL l m) m = l.take (xorL (xorL l m) m).length := by
  unfold xorL
  induction l generalizing m with
  | nil => simp
  | cons x r ih =>
    cases m with
    | nil => simp
    | cons y q =>
      simp only [List.zipWith_cons_cons, List.length_cons, List.take_succ_cons, List.cons.injEq]
      refine ⟨?_, ih q⟩
      rw [UInt8.xor_assoc, UInt8.xor_self, UInt8.xor_zero]
end Go.Proofs.Ytabokdffhomhiaa
