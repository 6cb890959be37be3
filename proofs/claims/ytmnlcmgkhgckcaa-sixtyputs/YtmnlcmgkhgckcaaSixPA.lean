/-
  The contracts of layer 7's letter, lowest and number. Conditions: a number below 64; a number below 2^20 and at most 20 bits; any rune.
-/
import Derived.Test.YtmnlcmgkhgckcaaSixM
import Derived.Test.YtmnlcmgkhgckcaaSixRD
import Derived.Laws.BitsLemmas
namespace Go.Proofs.Ytmnlcmgkhgckcaa
open Go.RowKit

theorem lt_small : ∀ n : Fin 64, ((lt n.val).toNat : Int) = if n.val < 26 then 65 + (n.val : Int) else if n.val < 52 then 97 + (n.val : Int) - 26 else if n.val < 62 then 48 + (n.val : Int) - 52 else if n.val = 62 then 43 else 47 := by decide +kernel
set_option maxRecDepth 100000 in
set_option maxHeartbeats 1000000 in
theorem oLetter (w : World) (N : Nat) (h : N < 64) : Calls Try.prog 12 #[.int .i32 (N : Int)] w fun e w' => e = .returned (.int .i32 ((lt N).toNat : Int)) ∧ w = w' := by
  have hl := lt_small ⟨N, h⟩
  simp only at hl
  rw [hl]
  clear hl
  by_cases h1 : N < 26
  · rw [if_pos h1]
    have i1 : (N : Int) < 26 := by omega
    go_enter Try.func12, Try.ntmps12
    go_wp2_with fail
    go_ret
    exact ⟨by first | rfl | (congr 2; go_num), rfl⟩
  · rw [if_neg h1]
    have i1 : ¬ (N : Int) < 26 := by omega
    by_cases h2 : N < 52
    · rw [if_pos h2]
      have i2 : (N : Int) < 52 := by omega
      go_enter Try.func12, Try.ntmps12
      go_wp2_with fail
      go_ret
      exact ⟨by first | rfl | (congr 2; go_num), rfl⟩
    · rw [if_neg h2]
      have i2 : ¬ (N : Int) < 52 := by omega
      by_cases h3 : N < 62
      · rw [if_pos h3]
        have i3 : (N : Int) < 62 := by omega
        go_enter Try.func12, Try.ntmps12
        go_wp2_with fail
        go_ret
        exact ⟨by first | rfl | (congr 2; go_num), rfl⟩
      · rw [if_neg h3]
        have i3 : ¬ (N : Int) < 62 := by omega
        by_cases h4 : N = 62
        · rw [if_pos h4]
          subst h4
          go_enter Try.func12, Try.ntmps12
          go_wp2_with fail
          go_ret
          exact ⟨rfl, rfl⟩
        · rw [if_neg h4]
          obtain rfl : N = 63 := by omega
          go_enter Try.func12, Try.ntmps12
          go_wp2_with fail
          go_ret
          exact ⟨rfl, rfl⟩

theorem and_low (n k : Nat) (hn : n < 1048576) (hk : k ≤ 20) : bits .and .i32 (n : Int) ((2 : Int) ^ k - 1) = ((n % 2 ^ k : Nat) : Int) := by
  rw [bits_mask .i32 31 (by decide) (fun n h0 h1 => wraps_i32 n h0 h1) k (by omega) (n : Int) (by omega) (by omega)]
  rw [Int.natCast_emod, Int.natCast_pow]
  rfl
theorem or_low (n k c : Nat) (hn : n < 1024) (hk : k ≤ 10) (hc : c < 2 ^ k) : bits .or .i32 ((n * 2 ^ k : Nat) : Int) (c : Int) = ((n * 2 ^ k + c : Nat) : Int) := by
  have hp : 2 ^ k ≤ 1024 := Nat.pow_le_pow_right (n := 2) (by decide) hk
  have hm : n * 2 ^ k ≤ 1024 * 1024 := Nat.mul_le_mul (by omega) hp
  rw [(bits_nat .i32 31 (by decide) (fun n h0 h1 => wraps_i32 n h0 h1) (n * 2 ^ k) c (by omega) (by omega)).2, Nat.mul_comm n, Nat.two_pow_add_eq_or_of_lt hc]

set_option maxRecDepth 100000 in
set_option maxHeartbeats 1000000 in
theorem oLowest (w : World) (n k : Nat) (hn : n < 1048576) (hk : k ≤ 20) : Calls Try.prog 13 #[.int .i32 (n : Int), .int .i64 (k : Int)] w fun e w' => e = .returned (.int .i32 ((n % 2 ^ k : Nat) : Int)) ∧ w = w' := by
  have HA : Hid (bits .and .i32 (n : Int) ((2 : Int) ^ k - 1) = ((n % 2 ^ k : Nat) : Int)) := and_low n k hn hk
  have hp : 2 ^ k ≤ 1048576 := Nat.pow_le_pow_right (n := 2) (by decide) hk
  have hp0 : 0 < 2 ^ k := Nat.two_pow_pos k
  obtain ⟨p, hpp⟩ : ∃ p, p = 2 ^ k := ⟨_, rfl⟩
  have e1 : (2 : Int) ^ k = (p : Int) := by rw [hpp, Int.natCast_pow]; rfl
  rw [← hpp] at hp hp0
  rw [e1, ← hpp] at HA
  rw [← hpp]
  clear hpp
  have k0 : (0 : Int) ≤ (k : Int) := by omega
  have w1 : IntKind.i32.wrap (p : Int) = (p : Int) := by rw [IntKind.wrap_i32]; omega
  have w2 : IntKind.i32.wrap ((p : Int) - 1) = (p : Int) - 1 := by rw [IntKind.wrap_i32]; omega
  have h32 : k < 32 := by omega
  go_enter Try.func13, Try.ntmps13
  go_wp2_with fail
  go_ret
  exact ⟨by rw [← HA.out]; first | rfl | (congr 2; go_num), rfl⟩

/-- The number of a rune; 64: it is no letter. -/
def numR (r : Nat) : Nat := if r < 128 then num (UInt8.ofNat r) else 64
theorem numR_small : ∀ r : Fin 128, numR r.val = if 65 ≤ r.val ∧ r.val ≤ 90 then r.val - 65 else if 97 ≤ r.val ∧ r.val ≤ 122 then r.val - 97 + 26 else if 48 ≤ r.val ∧ r.val ≤ 57 then r.val - 48 + 52 else if r.val = 43 then 62 else if r.val = 47 then 63 else 64 := by decide +kernel
theorem numR_eq (r : Nat) : numR r = if 65 ≤ r ∧ r ≤ 90 then r - 65 else if 97 ≤ r ∧ r ≤ 122 then r - 97 + 26 else if 48 ≤ r ∧ r ≤ 57 then r - 48 + 52 else if r = 43 then 62 else if r = 47 then 63 else 64 := by
  by_cases h : r < 128
  · exact numR_small ⟨r, h⟩
  · unfold numR
    rw [if_neg h, if_neg (by omega), if_neg (by omega), if_neg (by omega), if_neg (by omega), if_neg (by omega)]
/-- What number answers. -/
def numV (r : Nat) : Value := .tuple #[.int .i32 (if numR r < 64 then (numR r : Int) else 0), .bool (decide (numR r < 64))]
theorem numV_in {r N : Nat} (h : numR r = N) (hN : N < 64) : numV r = .tuple #[.int .i32 (N : Int), .bool true] := by
  unfold numV
  rw [h, if_pos hN, decide_eq_true hN]
theorem numV_out {r : Nat} (h : ¬ numR r < 64) : numV r = .tuple #[.int .i32 0, .bool false] := by
  unfold numV
  rw [if_neg h, decide_eq_false h]

set_option maxRecDepth 100000 in
set_option maxHeartbeats 2000000 in
theorem oNumber (w : World) (r : Nat) (hr : r ≤ 2147483647) : Calls Try.prog 15 #[.int .i32 (r : Int)] w fun e w' => e = .returned (numV r) ∧ w = w' := by
  have he := numR_eq r
  by_cases h1 : 65 ≤ r ∧ r ≤ 90
  · rw [if_pos h1] at he
    rw [numV_in he (by omega)]
    have a1 : (65 : Int) ≤ (r : Int) := by omega
    have a2 : (r : Int) ≤ 90 := by omega
    have a3 : ((r - 65 : Nat) : Int) = (r : Int) - 65 := by omega
    rw [a3]
    clear he a3
    go_enter Try.func15, Try.ntmps15
    go_wp2_with fail
    go_ret2
    exact ⟨by first | rfl | (congr 4; go_num), rfl⟩
  · rw [if_neg h1] at he
    by_cases h2 : 97 ≤ r ∧ r ≤ 122
    · rw [if_pos h2] at he
      rw [numV_in he (by omega)]
      have a1 : (65 : Int) ≤ (r : Int) := by omega
      have a2 : ¬ (r : Int) ≤ 90 := by omega
      have b1 : (97 : Int) ≤ (r : Int) := by omega
      have b2 : (r : Int) ≤ 122 := by omega
      have a3 : ((r - 97 + 26 : Nat) : Int) = (r : Int) - 97 + 26 := by omega
      rw [a3]
      clear he a3 h1
      go_enter Try.func15, Try.ntmps15
      go_wp2_with fail
      go_ret2
      exact ⟨by first | rfl | (congr 4; go_num), rfl⟩
    · rw [if_neg h2] at he
      by_cases h3 : 48 ≤ r ∧ r ≤ 57
      · rw [if_pos h3] at he
        rw [numV_in he (by omega)]
        have a1 : ¬ (65 : Int) ≤ (r : Int) := by omega
        have b1 : ¬ (97 : Int) ≤ (r : Int) := by omega
        have c1 : (48 : Int) ≤ (r : Int) := by omega
        have c2 : (r : Int) ≤ 57 := by omega
        have a3 : ((r - 48 + 52 : Nat) : Int) = (r : Int) - 48 + 52 := by omega
        rw [a3]
        clear he a3 h1 h2
        go_enter Try.func15, Try.ntmps15
        go_wp2_with fail
        go_ret2
        exact ⟨by first | rfl | (congr 4; go_num), rfl⟩
      · rw [if_neg h3] at he
        by_cases h4 : r = 43
        · rw [if_pos h4] at he
          rw [numV_in he (by omega)]
          subst h4
          clear he h1 h2 h3
          go_enter Try.func15, Try.ntmps15
          go_wp2_with fail
          go_ret2
          exact ⟨rfl, rfl⟩
        · rw [if_neg h4] at he
          by_cases h5 : r = 47
          · rw [if_pos h5] at he
            rw [numV_in he (by omega)]
            subst h5
            clear he h1 h2 h3 h4
            go_enter Try.func15, Try.ntmps15
            go_wp2_with fail
            go_ret2
            exact ⟨rfl, rfl⟩
          · rw [if_neg h5] at he
            rw [numV_out (by omega)]
            have d1 : ((r : Int) == 43) = false := by rw [beq_eq_false_iff_ne]; omega
            have d2 : ((r : Int) == 47) = false := by rw [beq_eq_false_iff_ne]; omega
            clear he h4 h5
            by_cases q1 : (65 : Int) ≤ (r : Int)
            · by_cases q2 : (97 : Int) ≤ (r : Int)
              · have a2 : ¬ (r : Int) ≤ 90 := by omega
                have b2 : ¬ (r : Int) ≤ 122 := by omega
                have c1 : (48 : Int) ≤ (r : Int) := by omega
                have c2 : ¬ (r : Int) ≤ 57 := by omega
                clear h1 h2 h3
                go_enter Try.func15, Try.ntmps15
                go_wp2_with fail
                go_ret2
                exact ⟨rfl, rfl⟩
              · have a2 : ¬ (r : Int) ≤ 90 := by omega
                have c1 : (48 : Int) ≤ (r : Int) := by omega
                have c2 : ¬ (r : Int) ≤ 57 := by omega
                clear h1 h2 h3
                go_enter Try.func15, Try.ntmps15
                go_wp2_with fail
                go_ret2
                exact ⟨rfl, rfl⟩
            · have b1 : ¬ (97 : Int) ≤ (r : Int) := by omega
              by_cases q3 : (48 : Int) ≤ (r : Int)
              · have c2 : ¬ (r : Int) ≤ 57 := by omega
                clear h1 h2 h3
                go_enter Try.func15, Try.ntmps15
                go_wp2_with fail
                go_ret2
                exact ⟨rfl, rfl⟩
              · clear h1 h2 h3
                go_enter Try.func15, Try.ntmps15
                go_wp2_with fail
                go_ret2
                exact ⟨rfl, rfl⟩

end Go.Proofs.Ytmnlcmgkhgckcaa
