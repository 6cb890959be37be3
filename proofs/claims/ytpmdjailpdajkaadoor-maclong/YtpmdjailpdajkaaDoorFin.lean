/-
  Plain mathematics: the sum that the program makes out of its state is the sum of all the bytes that came. No condition; nothing of the program.
-/
import Derived.Test.YtpmdjailpdajkaaDoorState
namespace Go.Proofs.YtpmdjailpdajkaaDoor
open Go.RowKit

def lst (m : List UInt8) : List UInt8 := (rst m).set (m.length % 64) 128
def fine (L : List UInt8) (n : Nat) : List UInt8 := L.take 56 ++ putL (8 * n) 8
/-- The words of the sum of m, as the program makes them out of its state. -/
def fin (m : List UInt8) : List UInt32 :=
  if m.length % 64 < 56 then tk (tks m (m.length / 64)) (fine (lst m) m.length) else tk (tk (tks m (m.length / 64)) (lst m)) (fine z64 m.length)
theorem lst_length (m : List UInt8) : (lst m).length = 64 := by rw [lst, List.length_set, rst_length]
theorem fine_length {L : List UInt8} (h : L.length = 64) (n : Nat) : (fine L n).length = 64 := by simp [fine, h, putL_length]

theorem fine_cs {L : List UInt8} (h : L.length = 64) (n : Nat) : (cs L).take 56 ++ cs ((putL (8 * n) 8).take 8) ++ (cs L).drop (56 + 8) = cs (fine L n) := by
  have e1 : (putL (8 * n) 8).take 8 = putL (8 * n) 8 := List.take_of_length_le (by rw [putL_length]; omega)
  have e2 : (cs L).drop (56 + 8) = [] := List.drop_eq_nil_of_le (by rw [cs_length]; omega)
  rw [e1, e2, List.append_nil]
  unfold fine
  rw [cs_append]
  congr 1
  simp [cs, List.map_take]
theorem lst_cs (m : List UInt8) : (cs (rst m)).set (m.length % 64) (.int .u8 128) = cs (lst m) := by
  unfold lst cs
  rw [List.map_set]
  rfl


theorem blk_prefix {m r : List UInt8} {k : Nat} (h : 64 * (k + 1) ≤ m.length) : blk (m ++ r) k = blk m k := by
  unfold blk
  rw [List.drop_append_of_le_length (by omega), List.take_append_of_le_length (by simp; omega)]
theorem tks_prefix {m r : List UInt8} : ∀ k, 64 * k ≤ m.length → tks (m ++ r) k = tks m k := by
  intro k
  induction k with
  | zero => intro _; rfl
  | succ k ih => intro h; rw [tks, tks, ih (by omega), blk_prefix h]

theorem lst_eq (m : List UInt8) : lst m = m.drop (64 * (m.length / 64)) ++ (128 :: List.replicate (63 - m.length % 64) 0) := by
  unfold lst rst
  have hl : (m.drop (64 * (m.length / 64))).length = m.length % 64 := by simp; omega
  generalize hD : m.drop (64 * (m.length / 64)) = D at hl
  rw [List.set_append, if_neg (by omega), hl, Nat.sub_self]
  have : 64 - m.length % 64 = (63 - m.length % 64) + 1 := by omega
  rw [this, List.replicate_succ, List.set_cons_zero]

theorem sum_fin (m : List UInt8) : sumL m = outL (fin m) := by
  unfold sumL
  congr 1
  have hl : (m.drop (64 * (m.length / 64))).length = m.length % 64 := by simp; omega
  obtain ⟨R, hR⟩ : ∃ R, R = ([128] ++ List.replicate ((119 - m.length % 64) % 64) 0 ++ putL (8 * m.length) 8 : List UInt8) := ⟨_, rfl⟩
  have hpad : padL m = m ++ R := by rw [hR]; unfold padL; simp
  have hRl : R.length = 9 + (119 - m.length % 64) % 64 := by rw [hR]; simp [putL_length]; omega
  have hdrop : (m ++ R).drop (64 * (m.length / 64)) = m.drop (64 * (m.length / 64)) ++ R := List.drop_append_of_le_length (by omega)
  unfold fin
  rw [hpad, List.length_append, hRl]
  by_cases h : m.length % 64 < 56
  · rw [if_pos h]
    have e : (m.length + (9 + (119 - m.length % 64) % 64)) / 64 = m.length / 64 + 1 := by omega
    rw [e, tks, tks_prefix _ (by omega)]
    congr 1
    unfold blk fine
    rw [hdrop, lst_eq]
    rw [List.take_of_length_le (by rw [List.length_append, hl, hRl]; omega), hR]
    generalize m.drop (64 * (m.length / 64)) = D at hl
    have e2 : (119 - m.length % 64) % 64 = 55 - m.length % 64 := by omega
    rw [e2, List.take_append, List.take_of_length_le (by omega), hl]
    have e3 : 56 - m.length % 64 = (55 - m.length % 64) + 1 := by omega
    rw [e3, List.take_succ_cons, List.take_replicate]
    have e4 : min (55 - m.length % 64) (63 - m.length % 64) = 55 - m.length % 64 := by omega
    rw [e4]
    simp
  · rw [if_neg h]
    have e : (m.length + (9 + (119 - m.length % 64) % 64)) / 64 = m.length / 64 + 1 + 1 := by omega
    have e2 : (119 - m.length % 64) % 64 = 119 - m.length % 64 := by omega
    rw [e, tks, tks, tks_prefix _ (by omega)]
    have hb1 : blk (m ++ R) (m.length / 64) = lst m := by
      unfold blk
      rw [hdrop, lst_eq, hR, e2, List.take_append, List.take_of_length_le (by omega), hl]
      congr 1
      rw [List.append_assoc, List.singleton_append]
      have e3 : 64 - m.length % 64 = (63 - m.length % 64) + 1 := by omega
      rw [e3, List.take_succ_cons, List.take_append_of_le_length (by simp; omega), List.take_replicate]
      have e4 : min (63 - m.length % 64) (119 - m.length % 64) = 63 - m.length % 64 := by omega
      rw [e4]
    have hb2 : blk (m ++ R) (m.length / 64 + 1) = fine z64 m.length := by
      unfold blk fine z64
      have e5 : 64 * (m.length / 64 + 1) = 64 * (m.length / 64) + 64 := by omega
      rw [e5, ← List.drop_drop, hdrop, List.drop_append, List.drop_eq_nil_of_le (by omega), List.nil_append, hl, hR, e2, List.append_assoc, List.singleton_append]
      have e6 : 64 - m.length % 64 = (63 - m.length % 64) + 1 := by omega
      rw [e6, List.drop_succ_cons, List.drop_append_of_le_length (by simp; omega), List.drop_replicate]
      have e7 : 119 - m.length % 64 - (63 - m.length % 64) = 56 := by omega
      rw [e7, List.take_of_length_le (by simp [putL_length]), List.take_replicate]
      rfl
    rw [hb1, hb2]

end Go.Proofs.YtpmdjailpdajkaaDoor
