/-
  Plain mathematics on the cells of a state: what a copy, a count and a block that is taken make of them. No condition; nothing of the program but the cells.
-/
import Derived.Test.YtpmdjailpdajkaaDoorSum
namespace Go.Proofs.YtpmdjailpdajkaaDoor
open Go.RowKit

/-- The cells of a state: its words, what was not taken, the count. -/
def staw (S : List UInt32) (R : List UInt8) (c : Nat) : List Value := ws S ++ cs R ++ [.int .u64 (c : Int)]
theorem sta_eq (m : List UInt8) : sta m = staw (tks m (m.length / 64)) (rst m) m.length := rfl
theorem staw_length {S : List UInt32} {R : List UInt8} (hS : S.length = 8) (hR : R.length = 64) (c : Nat) : (staw S R c).length = 73 := by simp [staw, ws_length, cs_length, hS, hR]

theorem staw_copy {S : List UInt32} {R x : List UInt8} (hS : S.length = 8) (hR : R.length = 64) (c p : Nat) (h : p + x.length ≤ 64) :
    (staw S R c).take (8 + p) ++ cs x ++ (staw S R c).drop (8 + p + x.length) = staw S (R.take p ++ x ++ R.drop (p + x.length)) c := by
  have hw : (ws S).length = 8 := by rw [ws_length, hS]
  have hc : (cs R).length = 64 := by rw [cs_length, hR]
  unfold staw
  rw [List.append_assoc (ws S), List.take_append, List.drop_append, List.take_of_length_le (by omega), List.drop_eq_nil_of_le (by omega), hw]
  have e1 : 8 + p - 8 = p := by omega
  have e2 : 8 + p + x.length - 8 = p + x.length := by omega
  rw [e1, e2, List.take_append_of_le_length (by omega), List.drop_append_of_le_length (by omega), cs_append, cs_append]
  simp [cs, List.map_take, List.map_drop]
theorem staw_count {S : List UInt32} {R : List UInt8} (hS : S.length = 8) (hR : R.length = 64) (c d : Nat) : (staw S R c).set 72 (.int .u64 (d : Int)) = staw S R d := by
  have hl : (ws S ++ cs R).length = 72 := by simp [ws_length, cs_length, hS, hR]
  unfold staw
  rw [List.set_append, if_neg (by omega), hl]
  rfl
theorem staw_at {S : List UInt32} {R : List UInt8} (hS : S.length = 8) (hR : R.length = 64) (c : Nat) : (staw S R c)[72]? = some (.int .u64 (c : Int)) := by
  have hl : (ws S ++ cs R).length = 72 := by simp [ws_length, cs_length, hS, hR]
  unfold staw
  rw [List.getElem?_append_right (by omega), hl]
  rfl
theorem staw_sum {S T : List UInt32} {R : List UInt8} (hS : S.length = 8) (hT : T.length = 8) (c : Nat) : (staw S R c).take 0 ++ ws T ++ (staw S R c).drop (0 + (ws T).length) = staw T R c := by
  have hw : (ws S).length = 8 := by rw [ws_length, hS]
  have ht : (ws T).length = 8 := by rw [ws_length, hT]
  unfold staw
  rw [ht, List.append_assoc (ws S), List.drop_append, List.drop_eq_nil_of_le (by omega), hw]
  simp
theorem staw_rest {S : List UInt32} {R Q : List UInt8} (hS : S.length = 8) (hR : R.length = 64) (hQ : Q.length = 64) (c : Nat) : (staw S R c).take 8 ++ cs Q ++ (staw S R c).drop (8 + (cs Q).length) = staw S Q c := by
  have h := staw_copy (x := Q) hS hR c 0 (by omega)
  rw [Nat.add_zero] at h
  rw [cs_length, h]
  simp [List.drop_eq_nil_of_le (show R.length ≤ Q.length by omega)]
theorem staw_range {S : List UInt32} {R : List UInt8} (hS : S.length = 8) (c j : Nat) (v : Value) (h : (cs R)[j]? = some v) : (staw S R c)[8 + j]? = some v := by
  have hj := (List.getElem?_eq_some_iff.1 h).1
  have hl : (ws S).length = 8 := by rw [ws_length, hS]
  unfold staw
  rw [List.append_assoc, List.getElem?_append_right (by omega), hl, Nat.add_sub_cancel_left, List.getElem?_append_left hj]
  exact h

/-- What stands behind a copy. -/
def mixd (m x : List UInt8) : List UInt8 := (rst m).take (m.length % 64) ++ x ++ (rst m).drop (m.length % 64 + x.length)
theorem rst_take (m : List UInt8) : (rst m).take (m.length % 64) = m.drop (64 * (m.length / 64)) := by
  have hl : (m.drop (64 * (m.length / 64))).length = m.length % 64 := by simp; omega
  unfold rst
  rw [List.take_append_of_le_length (by omega), List.take_of_length_le (by omega)]
theorem mixd_length {m x : List UInt8} (h : m.length % 64 + x.length ≤ 64) : (mixd m x).length = 64 := by
  have := rst_length m
  simp [mixd, this]
  omega

/-- Not yet a block. -/
theorem step_part {m x : List UInt8} (h : m.length % 64 + x.length < 64) : staw (tks m (m.length / 64)) (mixd m x) (m.length + x.length) = sta (m ++ x) := by
  have hl : (m.drop (64 * (m.length / 64))).length = m.length % 64 := by simp; omega
  have e1 : (m ++ x).length / 64 = m.length / 64 := by rw [List.length_append]; omega
  have e2 : (m ++ x).length % 64 = m.length % 64 + x.length := by rw [List.length_append]; omega
  rw [sta_eq, e1, tks_prefix _ (by omega), List.length_append]
  congr 1
  have d1 : (m ++ x).drop (64 * (m.length / 64)) = m.drop (64 * (m.length / 64)) ++ x := List.drop_append_of_le_length (by omega)
  have d2 : (rst m).drop (m.length % 64 + x.length) = List.replicate (64 - (m.length % 64 + x.length)) 0 := by
    have hn : (m.drop (64 * (m.length / 64))).drop (m.length % 64 + x.length) = [] := List.drop_eq_nil_of_le (by omega)
    unfold rst
    rw [List.drop_append, hn, hl, List.drop_replicate, List.nil_append]
    congr 1
    omega
  unfold mixd
  rw [rst_take, d2]
  unfold rst
  rw [e1, e2, d1]

/-- A block is whole. -/
theorem step_full {m x : List UInt8} (h : m.length % 64 + x.length = 64) : staw (tk (tks m (m.length / 64)) (mixd m x)) z64 (m.length + x.length) = sta (m ++ x) := by
  have hl : (m.drop (64 * (m.length / 64))).length = m.length % 64 := by simp; omega
  have hr := rst_length m
  have e1 : (m ++ x).length / 64 = m.length / 64 + 1 := by rw [List.length_append]; omega
  have e2 : (m ++ x).length % 64 = 0 := by rw [List.length_append]; omega
  have e3 : mixd m x = blk (m ++ x) (m.length / 64) := by
    unfold mixd blk
    have d1 : (m ++ x).drop (64 * (m.length / 64)) = m.drop (64 * (m.length / 64)) ++ x := List.drop_append_of_le_length (by omega)
    have d2 : (rst m).drop (m.length % 64 + x.length) = [] := List.drop_eq_nil_of_le (by omega)
    rw [rst_take, d1, d2, List.append_nil, List.take_of_length_le (by rw [List.length_append, hl]; omega)]
  have e4 : rst (m ++ x) = z64 := by
    unfold rst
    rw [e2, List.drop_eq_nil_of_le (by omega), List.nil_append]
    rfl
  rw [sta_eq, e1, e4, tks, tks_prefix _ (by omega), ← e3, List.length_append]

theorem but_refl (w : World) (r : Nat) : w.grownBy w (some r) := ⟨rfl, rfl, rfl, Nat.le_refl _, fun _ _ _ => rfl⟩
theorem but_drew {a w : World} {r : Nat} (h : a.grownBy w (some r)) : a.grownBy w.drew (some r) := ⟨h.os, h.tape, h.output, h.size, h.block⟩
theorem but_sets {r : Nat} {a : World} (us : List Value) : ∀ {w : World} (_ : a.grownBy w (some r)) (o : Nat), a.grownBy (w.setCells r o us) (some r) := by
  induction us with
  | nil => intro w h o; exact h
  | cons u us ih => intro w h o; exact ih (but_trans h (but_set w r o u)) (o + 1)

end Go.Proofs.YtpmdjailpdajkaaDoor
