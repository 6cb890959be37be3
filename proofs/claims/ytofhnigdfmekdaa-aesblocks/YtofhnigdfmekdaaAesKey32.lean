/-
  The contract of key32: a key of 32 bytes out of any. Condition: at most 100 bytes.
-/
import Derived.Test.YtofhnigdfmekdaaAesDbl
import Derived.Test.YtofhnigdfmekdaaStepApp
namespace Go.Proofs.Ytofhnigdfmekdaa
open Go.RowKit

def k32 (l : List UInt8) : List UInt8 := (List.range 32).map fun i => if l.length = 0 then 0 else l.getD (i % l.length) 0
theorem k32_length (l : List UInt8) : (k32 l).length = 32 := by simp [k32]
theorem k32_step {l : List UInt8} {k : Nat} (h : k < 32) : (k32 l).take (k + 1) = (k32 l).take k ++ [if l.length = 0 then 0 else l.getD (k % l.length) 0] := by
  rw [take_snoc (by rw [k32_length]; exact h)]
  simp [k32]
theorem k32_room (l : List UInt8) (k : Nat) (x : UInt8) : ((k32 l).take k).length + [x].length ≤ 1000000000 := by
  have : ((k32 l).take k).length ≤ 32 := by rw [← k32_length l]; exact List.length_take_le' _ _
  simp only [List.length_singleton]
  omega

set_option maxHeartbeats 1000000 in
theorem lKey32 (w : World) {a : Option Addr} {n c : Nat} {l : List UInt8} (ha : Bs w a n c l) (hz : n ≤ 100) :
    Calls Try.prog 11 #[.slice a n c] w (Gives w (k32 l)) := by
  have HL : Hid (l.length = n) := ha.len
  by_cases h0 : n = 0
  · subst h0
    clear ha
    go_enter Try.func11, Try.ntmps11
    go_wp2_with fail
    go_loopw [3, 4] (fun v i wr => ∃ k : Nat, k ≤ 32 ∧ i = .int .i64 k ∧ Own wr w.heap.size v ((k32 l).take k) ∧ Below w.heap.size w wr) (fun _ i _ => 32 - (intOf i).toNat)
    case atStart => exact ⟨0, by omega, rfl, Own.nil _ _, Below.refl _ _⟩
    case round =>
      obtain ⟨k, hk, rfl, ho, hb⟩ := hrel
      by_cases hlt : k < 32
      · have HS := k32_step (l := l) hlt
        rw [if_pos HL.out] at HS
        have HS' : Hid (_ = _) := HS
        have hr : ((k32 l).take k).length + [UInt8.ofNat (0 : Int).toNat].length ≤ 1000000000 := k32_room l k _
        have hs := hb.size
        clear HS
        go_wp2_with (at_builtin; refine wpList_app _ rfl (.tmp 22) (.tmp 23) rfl w.heap.size _ _ rfl (ho.below (below_alloc _ _) (Nat.le_refl _)) _ 1 1 [UInt8.ofNat (0 : Int).toNat] rfl (Bs.one _ 0 (by omega) (by omega)) hr (by simp; omega) ?_; intro v2 w2 ho2 hb2)
        go_roundw
        case rel => exact ⟨k + 1, by omega, by go_num, by rw [HS'.out]; exact ho2, (hb.alloc hs _).trans hb2⟩
        case measure => simp [intOf]; omega
      · rw [List.take_of_length_le (by rw [k32_length]; omega)] at ho
        go_wp2
        go_ret
        exact Gives.mk ho hb
  · obtain ⟨x, o, rfl, hx, hc⟩ := ha.at (by omega)
    clear ha
    have hn1 : (0 : Int) < (n : Int) := by omega
    have hn2 : ¬ (n : Int) = 0 := by omega
    go_enter Try.func11, Try.ntmps11
    go_wp2_with fail
    go_loopw [3, 4] (fun v i wr => ∃ k : Nat, k ≤ 32 ∧ i = .int .i64 k ∧ Own wr w.heap.size v ((k32 l).take k) ∧ Below w.heap.size w wr) (fun _ i _ => 32 - (intOf i).toNat)
    case atStart => exact ⟨0, by omega, rfl, Own.nil _ _, Below.refl _ _⟩
    case round =>
      obtain ⟨k, hk, rfl, ho, hb⟩ := hrel
      by_cases hlt : k < 32
      · have HS := k32_step (l := l) hlt
        rw [if_neg (by rw [HL.out]; exact h0), HL.out] at HS
        obtain ⟨j, hj⟩ : ∃ j, j = k % n := ⟨_, rfl⟩
        rw [← hj] at HS
        have hjl : j < n := by rw [hj]; exact Nat.mod_lt _ (by omega)
        have hj0 : (k : Int) % (n : Int) = (j : Int) := by rw [hj]; omega
        have hj1 : (k : Int).tmod (n : Int) = (j : Int) := by rw [Int.tmod_eq_emod_of_nonneg (by omega)]; exact hj0
        have hj2 : (0 : Int) ≤ (j : Int) := by omega
        have hj3 : (j : Int) < (n : Int) := by omega
        have h0' : (0 : Int) ≤ (k : Int) := by omega
        have h8 : (k : Int) < 32 := by omega
        have c1 : wr.cell? ⟨x, o + j, none⟩ = some (.int .u8 (bt l j)) := by rw [hb.cell (p := ⟨x, o + j, none⟩) hx]; exact hc j hjl
        unfold bt at c1
        generalize l.getD j 0 = y at c1 HS
        have HS' : Hid (_ = _) := HS
        have q0 : (0 : Int) ≤ (y.toNat : Int) := by omega
        have q1 := u8_hi y
        have E1 : Hid (UInt8.ofNat (y.toNat : Int).toNat = y) := one_u8 y
        have hr := k32_room l k (UInt8.ofNat (y.toNat : Int).toNat)
        have hs := hb.size
        clear HS hj
        go_wp2_with (at_builtin; refine wpList_app _ rfl (.tmp 12) (.tmp 20) rfl w.heap.size _ _ rfl (ho.below (below_alloc _ _) (Nat.le_refl _)) _ 1 1 [UInt8.ofNat (y.toNat : Int).toNat] rfl (Bs.one _ _ q0 q1) hr (by simp; omega) ?_; intro v2 w2 ho2 hb2)
        go_roundw
        case rel => exact ⟨k + 1, by omega, by go_num, by rw [HS'.out, ← E1.out]; exact ho2, (hb.alloc hs _).trans hb2⟩
        case measure => simp [intOf]; omega
      · rw [List.take_of_length_le (by rw [k32_length]; omega)] at ho
        go_wp2
        go_ret
        exact Gives.mk ho hb

end Go.Proofs.Ytofhnigdfmekdaa
