/-
  The contract of Short. No condition but that lengths fit.
-/
import Derived.Test.YtphkkbkfioaikaaBss
namespace Go.Proofs.Ytphkkbkfioaikaa
open Go.RowKit

set_option maxHeartbeats 400000 in
theorem lShort (w : World) {a : Option Addr} {n c : Nat} {ls : List (List UInt8)} (ha : Bss w a n c ls) :
    Calls Try.prog 6 #[.slice a n c] w fun e w' => ∃ r : Int, e = .returned (.int .i64 r) ∧ w = w' ∧ (r = 1 ∨ r = 0 ∧ n ≤ 40 ∧ tot ls ≤ 6000) := by
  have h1 := ha.max
  by_cases h40 : n ≤ 40
  · by_cases h0 : n = 0
    · subst h0
      have e : ls = [] := List.length_eq_zero_iff.1 ha.len
      subst e
      clear ha
      go_enter Try.func6, Try.ntmps6
      go_wp2
      refine wp_loop_rounds 1 ?_; rw [rounds_succ]; go_wp2
      go_ret
      exact ⟨0, rfl, rfl, Or.inr ⟨rfl, by omega, by simp [tot]⟩⟩
    · obtain ⟨x, o, rfl, hx, hc⟩ := ha.at (by omega)
      have H : Hid (ls.length = n) := ha.len
      clear ha
      go_enter Try.func6, Try.ntmps6
      go_wp2
      go_loop [3, 4] (fun t i => ∃ k : Nat, k ≤ n ∧ i = .int .i64 k ∧ t = .int .i64 (tot (ls.take k) : Nat) ∧ tot (ls.take k) ≤ 6000) (fun _ i => n - (intOf i).toNat)
      case atStart => exact ⟨0, Nat.zero_le _, rfl, rfl, by simp [tot]⟩
      case round =>
        obtain ⟨k, hk, rfl, rfl, h6⟩ := hrel
        by_cases hlt : k < n
        · obtain ⟨p, m, q, c1, hb⟩ := hc k hlt
          have b1 := tot_step (by rw [H.out]; exact hlt) hb.len
          have B1 : Hid ((tot (ls.take k) : Int) + (m : Int) = (tot (ls.take (k + 1)) : Nat)) := b1
          clear hc b1 hb
          by_cases h3 : m ≤ 3000
          · by_cases h7 : (tot (ls.take k) : Int) + (m : Int) ≤ 6000
            · go_wp2
              go_round
              case rel => exact ⟨k + 1, by omega, by go_num, by rw [B1.out], by have := B1.out; omega⟩
              case measure => simp [intOf]; omega
            · go_wp2
              go_ret
              exact ⟨1, rfl, rfl, Or.inl rfl⟩
          · go_wp2
            go_ret
            exact ⟨1, rfl, rfl, Or.inl rfl⟩
        · go_wp2
          go_ret
          rw [List.take_of_length_le (by rw [H.out]; omega)] at h6
          exact ⟨0, rfl, rfl, by omega⟩
  · clear ha
    go_enter Try.func6, Try.ntmps6
    go_wp2
    go_ret
    exact ⟨1, rfl, rfl, Or.inl rfl⟩
end Go.Proofs.Ytphkkbkfioaikaa
