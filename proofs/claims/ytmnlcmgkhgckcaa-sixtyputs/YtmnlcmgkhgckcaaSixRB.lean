/-
  The contract of layer 7's reference's number: of a letter. No condition.
-/
import Derived.Test.YtmnlcmgkhgckcaaSixRV
namespace Go.Proofs.Ytmnlcmgkhgckcaa
open Go.RowKit

/-- The letters as a string's bytes. -/
theorem lts_at (k : Nat) (h : k < 64) : (⟨#[65, 66, 67, 68, 69, 70, 71, 72, 73, 74, 75, 76, 77, 78, 79, 80, 81, 82, 83, 84, 85, 86, 87, 88, 89, 90, 97, 98, 99, 100, 101, 102, 103, 104, 105, 106, 107, 108, 109, 110, 111, 112, 113, 114, 115, 116, 117, 118, 119, 120, 121, 122, 48, 49, 50, 51, 52, 53, 54, 55, 56, 57, 43, 47]⟩ : ByteArray)[k]'h = lt k := by
  have : ∀ j : Fin 64, (⟨#[65, 66, 67, 68, 69, 70, 71, 72, 73, 74, 75, 76, 77, 78, 79, 80, 81, 82, 83, 84, 85, 86, 87, 88, 89, 90, 97, 98, 99, 100, 101, 102, 103, 104, 105, 106, 107, 108, 109, 110, 111, 112, 113, 114, 115, 116, 117, 118, 119, 120, 121, 122, 48, 49, 50, 51, 52, 53, 54, 55, 56, 57, 43, 47]⟩ : ByteArray)[j.val]'j.isLt = lt j.val := by decide
  exact this ⟨k, h⟩

/-- The number of a letter; -1: it is none. -/
def numI (c : UInt8) : Int := if num c < 64 then (num c : Int) else -1
theorem numI_at {c : UInt8} {k : Nat} (h : k < 64) (e : lt k = c) : numI c = (k : Int) := by
  unfold numI
  rw [← e, num_lt k h, if_pos h]
theorem numI_not {c : UInt8} (h : ∀ j, j < 64 → lt j ≠ c) : numI c = -1 := by
  unfold numI
  rw [if_neg (fun hc => h _ hc (lt_num c hc))]

set_option maxRecDepth 100000 in
set_option maxHeartbeats 1000000 in
theorem rNumber7 (w : World) (c : UInt8) :
    Calls Try.prog 18 #[.int .u8 (c.toNat : Int)] w fun e w' => e = .returned (.int .i64 (numI c)) ∧ w = w' := by
  go_enter Try.func18, Try.ntmps18
  go_wp2_with fail
  go_loop [4] (fun x => ∃ k : Nat, k ≤ 64 ∧ x = .int .i64 k ∧ Hid (∀ j, j < k → lt j ≠ c)) (fun x => 64 - (intOf x).toNat)
  case atStart => exact ⟨0, by omega, rfl, fun j hj => by omega⟩
  case round =>
    obtain ⟨k, hk, rfl, hj⟩ := hrel
    by_cases hlt : k < 64
    · have h8 : (k : Int) < 64 := by omega
      have h0 : (0 : Int) ≤ (k : Int) := by omega
      have ha := lts_at k hlt
      by_cases he : lt k = c
      · have HE : Hid (numI c = (k : Int)) := numI_at hlt he
        clear hj
        subst he
        go_wp2
        go_ret
        exact ⟨by rw [HE.out]; rfl, rfl⟩
      · have e1 : (((lt k).toNat : Int) == (c.toNat : Int)) = false := by
          simp
          intro h
          exact he (UInt8.toNat_inj.1 (by omega))
        have HE : Hid (¬ lt k = c) := he
        clear he
        go_wp2
        go_round
        case rel => exact ⟨k + 1, by omega, by go_num, fun j hj' => by by_cases e : j = k; (subst e; exact HE.out); (exact hj.out j (by omega))⟩
        case measure => simp [intOf]; omega
    · obtain rfl : k = 64 := by omega
      have HE : Hid (numI c = -1) := numI_not hj.out
      go_wp2
      go_ret
      exact ⟨by rw [HE.out]; rfl, rfl⟩

end Go.Proofs.Ytmnlcmgkhgckcaa
