/-
  Plain mathematics: lengths of sums under a key, and beginnings of keys. No condition; nothing of the program.
-/
import Derived.Test.YtpmdjailpdajkaaDoorMacs
import Derived.Test.YtpmdjailpdajkaaDoorSumPre
namespace Go.Proofs.YtpmdjailpdajkaaDoor
open Go.RowKit

theorem keyL_length (key : List UInt8) : (keyL key).length ≤ 64 := by
  unfold keyL
  split
  · assumption
  · rw [sumL_length]; omega
theorem blkL_length (key : List UInt8) : (blkL key).length = 64 := by
  have := keyL_length key
  unfold blkL
  rw [List.length_append, List.length_replicate]
  omega
theorem macL_length (key text : List UInt8) : (macL key text).length = 32 := sumL_length _
theorem chn_length (key info : List UInt8) (i : Nat) : (chn key info (i + 1)).length = 32 := macL_length _ _
theorem outC_length (key info : List UInt8) (i : Nat) : (outC key info i).length = 32 * i := by
  induction i with
  | zero => rfl
  | succ i ih => rw [outC, List.length_append, ih, chn_length]; omega
theorem outC_more (key info : List UInt8) {n c : Nat} (h : n ≤ 32 * c) (d : Nat) : (outC key info (c + d)).take n = (outC key info c).take n := by
  induction d with
  | zero => rfl
  | succ d ih =>
    rw [← Nat.add_assoc, outC, List.take_append_of_le_length (by rw [outC_length]; omega)]
    exact ih
theorem exp_eq (key info : List UInt8) {n k : Nat} (h : n ≤ 32 * k) : (outC key info k).take n = expL key info n := by
  unfold expL
  have hc : (n + 31) / 32 ≤ k := by omega
  obtain ⟨d, rfl⟩ := Nat.exists_eq_add_of_le hc
  exact outC_more key info (by omega) d
theorem expL_length (key info : List UInt8) (n : Nat) : (expL key info n).length = n := by
  unfold expL
  rw [List.length_take, outC_length]
  omega
theorem exp_begins (key info : List UInt8) (n m : Nat) : (expL key info (n + m)).take n = expL key info n := by
  unfold expL
  rw [List.take_take, Nat.min_eq_left (by omega)]
  exact exp_eq key info (by omega)
/-- One more link of the chain, no more than is asked for. -/
theorem out_step (key info : List UInt8) (n k : Nat) : (outC key info k).take n ++ (chn key info (k + 1)).take (min 32 (n - 32 * k)) = (outC key info (k + 1)).take n := by
  have hl := chn_length key info k
  rw [outC, List.take_append, outC_length]
  congr 1
  by_cases e : n - 32 * k ≤ 32
  · rw [Nat.min_eq_right e]
  · rw [Nat.min_eq_left (by omega), List.take_of_length_le (by omega), List.take_of_length_le (by omega)]

/-- A key that is too long is as good as its sum. -/
theorem blk_long {key : List UInt8} (h : 64 < key.length) : blkL (sumL key) = blkL key := by
  unfold blkL keyL
  rw [if_pos (by rw [sumL_length]; omega), if_neg (by omega)]
theorem mac_long {key : List UInt8} (h : 64 < key.length) (text : List UInt8) : macL (sumL key) text = macL key text := by
  unfold macL
  rw [blk_long h]
/-- Noughts behind a shorter key are of no matter. -/
theorem blk_zeros {key : List UInt8} {n : Nat} (h : key.length + n ≤ 64) : blkL (key ++ List.replicate n 0) = blkL key := by
  unfold blkL keyL
  rw [if_pos (by simp; omega), if_pos (by omega), List.append_assoc, List.replicate_append_replicate]
  congr 2
  simp
  omega
theorem mac_zeros {key : List UInt8} {n : Nat} (h : key.length + n ≤ 64) (text : List UInt8) : macL (key ++ List.replicate n 0) text = macL key text := by
  unfold macL
  rw [blk_zeros h]

end Go.Proofs.YtpmdjailpdajkaaDoor
