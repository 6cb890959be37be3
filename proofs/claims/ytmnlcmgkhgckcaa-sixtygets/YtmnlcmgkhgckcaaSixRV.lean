/-
  The contract of layer 7's reference's value. Conditions: a number of at most 8 bits, from a place below 2^31 on.
-/
import Derived.Test.YtmnlcmgkhgckcaaSixRA
namespace Go.Proofs.Ytmnlcmgkhgckcaa
open Go.RowKit

set_option maxRecDepth 100000 in
set_option maxHeartbeats 1000000 in
theorem rValue7 (w : World) {a : Option Addr} {n c : Nat} {l : List Bool} (ha : Bo w a n c l) (i m : Nat) (hi : i ≤ 2000000000) (hm : m ≤ 8) :
    Calls Try.prog 17 #[.slice a n c, .int .i64 (i : Int), .int .i64 (m : Int)] w fun e w' => e = .returned (.int .i64 (valN l i m : Int)) ∧ w = w' := by
  have HL : Hid (l.length = n) := ha.len
  go_enter Try.func17, Try.ntmps17
  go_wp2_with fail
  go_loop [7, 8] (fun v x => ∃ k : Nat, k ≤ m ∧ x = .int .i64 k ∧ v = .int .i64 (valN l i k : Int)) (fun _ x => m - (intOf x).toNat)
  case atStart => exact ⟨0, by omega, rfl, rfl⟩
  case round =>
    obtain ⟨k, hk, rfl, rfl⟩ := hrel
    by_cases hlt : k < m
    · have h8 : (k : Int) < (m : Int) := by omega
      have hv := valN_lt l i k
      have hp : 2 ^ k ≤ 2 ^ 8 := Nat.pow_le_pow_right (by omega) (by omega)
      have HN : Hid (valN l i (k + 1) = 2 * valN l i k + (if l.getD (i + k) false then 1 else 0)) := rfl
      generalize valN l i k = V at *
      have hV : V < 256 := by omega
      clear hv hp
      have m1 : IntKind.i64.wrap (2 * (V : Int)) = 2 * (V : Int) := by rw [IntKind.wrap_i64]; omega
      obtain ⟨j, hj⟩ : ∃ j, j = i + k := ⟨_, rfl⟩
      rw [← hj] at HN
      have j1 : (i : Int) + (k : Int) = (j : Int) := by omega
      have m2 : IntKind.i64.wrap (j : Int) = (j : Int) := by rw [IntKind.wrap_i64]; omega
      have m3 : IntKind.i64.wrap ((i : Int) + (k : Int)) = (j : Int) := by rw [j1]; exact m2
      clear hj
      by_cases hc : j < n
      · have j2 : (j : Int) < (n : Int) := by omega
        have j0 : (0 : Int) ≤ (j : Int) := by omega
        obtain ⟨b, o, rfl, hbl, hcs⟩ := ha.at (by omega)
        have c1 := hcs j hc
        cases hb : l.getD j false with
        | true =>
          rw [hb] at c1
          rw [hb, if_pos rfl] at HN
          clear hcs hb
          go_wp2_with fail
          go_round
          case rel => exact ⟨k + 1, by omega, by go_num, by rw [HN.out]; go_num⟩
          case measure => simp [intOf]; omega
        | false =>
          rw [hb] at c1
          rw [hb, if_neg (by decide)] at HN
          clear hcs hb
          go_wp2_with fail
          go_round
          case rel => exact ⟨k + 1, by omega, by go_num, by rw [HN.out]; go_num⟩
          case measure => simp [intOf]; omega
      · have j2 : ¬ (j : Int) < (n : Int) := by omega
        have hb : l.getD j false = false := by rw [List.getD_eq_getElem?_getD, List.getElem?_eq_none (by rw [HL.out]; omega)]; rfl
        rw [hb, if_neg (by decide)] at HN
        clear hb
        go_wp2_with fail
        go_round
        case rel => exact ⟨k + 1, by omega, by go_num, by rw [HN.out]; go_num⟩
        case measure => simp [intOf]; omega
    · obtain rfl : k = m := by omega
      have h8 : ¬ (k : Int) < (k : Int) := by omega
      go_wp2
      go_ret
      exact ⟨rfl, rfl⟩

end Go.Proofs.Ytmnlcmgkhgckcaa
