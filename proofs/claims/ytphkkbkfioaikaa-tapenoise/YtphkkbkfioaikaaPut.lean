/-
  The contract of the reference's Put: the lowest bytes of a number, the highest first, in memory of the call's own. Conditions: the number fits 64 bits; the size is at most 1000000.
-/
import Derived.Test.YtphkkbkfioaikaaPutO
namespace Go.Proofs.Ytphkkbkfioaikaa
open Go.RowKit

theorem put_rec {n s : Int} {w : World} {base : Nat} {v : Value} (h1 : 1 ≤ s) (h0 : 0 ≤ n) (h : Own w base v (putL (n / 256).toNat (s - 1).toNat ++ [UInt8.ofNat (n % 256).toNat])) : Own w base v (putL n.toNat s.toNat) := by
  have e : s.toNat = (s - 1).toNat + 1 := by omega
  rw [e, putL]
  have e2 : (n / 256).toNat = n.toNat / 256 := by omega
  have e3 : UInt8.ofNat n.toNat = UInt8.ofNat (n % 256).toNat := by
    apply UInt8.toNat_inj.1
    rw [UInt8.toNat_ofNat', UInt8.toNat_ofNat']
    omega
  rw [e3, ← e2]
  exact h

set_option maxHeartbeats 400000 in
theorem rPut (k : Nat) : ∀ (n s : Int) (w : World), s ≤ k → k ≤ 1000000 → 0 ≤ n → n ≤ 18446744073709551615 → -9223372036854775808 ≤ s →
    Calls Try.prog 24 #[.int .u64 n, .int .i64 s] w (Gives w (putL n.toNat s.toNat)) := by
  induction k with
  | zero =>
    intro n s w hs _ hn0 hn hlo
    have e : s.toNat = 0 := by omega
    rw [e]
    have h1 : s < 1 := by omega
    clear e
    go_enter Try.func24, Try.ntmps24
    go_wp2_with fail
    go_ret
    exact Gives.mk (Own.nil _ _) (Below.refl _ _)
  | succ k ih =>
    intro n s w hs hk hn0 hn hlo
    by_cases h1 : s < 1
    · have e : s.toNat = 0 := by omega
      rw [e]
      clear e ih
      go_enter Try.func24, Try.ntmps24
      go_wp2_with fail
      go_ret
      exact Gives.mk (Own.nil _ _) (Below.refl _ _)
    · have IH := ih (n / 256) (s - 1) w (by omega) (by omega) (by omega) (by omega) (by omega)
      clear ih
      go_enter Try.func24, Try.ntmps24
      go_wp2_with fail
      refine IH.mono ?_
      rintro e w1 ⟨a1, m1, c1, rfl, hown, hbel⟩
      have hz : (putL (n / 256).toNat (s - 1).toNat).length + [UInt8.ofNat (n % 256).toNat].length ≤ 1000000000 := by rw [putL_length]; simp; omega
      have hsz : w.heap.size ≤ w1.heap.size := hbel.size
      clear IH
      go_wp2_with (at_builtin; refine wpList_app _ rfl _ _ rfl w.heap.size _ _ rfl (hown.below (below_alloc _ _) (Nat.le_refl _)) _ 1 1 [UInt8.ofNat (n % 256).toNat] rfl (Bs.one _ _ (by omega) (by omega)) hz (by simp; omega) ?_; intro v2 w2 hown2 hbel2)
      go_ret
      exact Gives.mk (put_rec h1 hn0 hown2) ((hbel.alloc hsz _).trans hbel2)

end Go.Proofs.Ytphkkbkfioaikaa
