/-
  Plain mathematics of layer 8's second statement: power that goes at the n-th step, step by step. No condition.
-/
import Derived.Test.YtonakdbpalhimaaPowL
namespace Go.Proofs.Ytonakdbpalhimaa
open Go.RowKit

/-- Power behind i steps that goes at step n; how many of them were done. -/
def onceS (n : Nat) (d : Bool) (i : Nat) : PowS := if i ≤ n then ⟨i, ((n - i : Nat) : Int), d, false⟩ else ⟨n + 1, -1, d, true⟩
def onceN (n : Nat) (d : Bool) (i : Nat) : Nat := if i ≤ n then i else if d then n + 1 else n
theorem once_zero (n : Nat) (d : Bool) : PowS.new.set (n : Int) d = onceS n d 0 := by
  unfold PowS.set onceS PowS.new
  rw [if_neg (by omega), if_pos (Nat.zero_le _)]
  rfl
theorem once_fit (n : Nat) (d : Bool) (i : Nat) (hn : n ≤ 255) : (onceS n d i).fit 600 := by
  unfold onceS PowS.fit
  split
  · exact ⟨by dsimp only; omega, by dsimp only; omega, by dsimp only; omega⟩
  · exact ⟨by dsimp only; omega, by dsimp only; omega, by dsimp only; omega⟩
theorem once_next (n : Nat) (d : Bool) (i : Nat) : (onceS n d i).next = onceS n d (i + 1) := by
  unfold onceS PowS.next
  by_cases h : i ≤ n
  · rw [if_pos h]
    dsimp only
    rw [if_neg (by simp), if_neg (by omega)]
    by_cases h2 : i + 1 ≤ n
    · rw [if_pos h2, decide_eq_false (by omega)]
      congr 1
      omega
    · obtain rfl : i = n := by omega
      rw [if_neg h2, decide_eq_true (by omega)]
      congr 1
      omega
  · rw [if_neg h, if_neg (show ¬ i + 1 ≤ n by omega)]
    rfl
theorem once_ok (n : Nat) (d : Bool) (i : Nat) : (onceS n d i).ok = decide (i < n) := by
  unfold onceS PowS.ok
  by_cases h : i ≤ n
  · rw [if_pos h]
    dsimp only
    by_cases h2 : i < n
    · rw [decide_eq_true h2, decide_eq_false (by omega)]
      rfl
    · rw [decide_eq_false h2, decide_eq_true (by omega)]
      rfl
  · rw [if_neg h, decide_eq_false (show ¬ i < n by omega)]
    rfl
theorem once_down (n : Nat) (d : Bool) (i : Nat) : (onceS n d (i + 1)).down = decide (n ≤ i) := by
  unfold onceS
  by_cases h : i + 1 ≤ n
  · rw [if_pos h, decide_eq_false (by omega)]
  · rw [if_neg h, decide_eq_true (by omega)]
theorem once_does (n : Nat) (d : Bool) (i : Nat) : (if (onceS n d i).does then onceN n d i + 1 else onceN n d i) = onceN n d (i + 1) := by
  unfold onceS PowS.does onceN
  by_cases h : i ≤ n
  · rw [if_pos h]
    dsimp only
    by_cases h2 : i + 1 ≤ n
    · rw [decide_eq_false (by omega), if_pos h, if_pos h2]
      rfl
    · obtain rfl : i = n := by omega
      rw [decide_eq_true (by omega), if_pos h, if_neg h2]
      cases d <;> rfl
  · rw [if_neg h, if_neg h, if_neg (show ¬ i + 1 ≤ n by omega)]
    rfl
theorem once_le (n : Nat) (d : Bool) (i : Nat) : onceN n d i ≤ n + 1 := by
  unfold onceN
  split
  · omega
  · split <;> omega

end Go.Proofs.Ytonakdbpalhimaa
