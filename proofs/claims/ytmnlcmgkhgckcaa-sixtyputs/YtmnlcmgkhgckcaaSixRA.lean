/-
  The contract of layer 7's reference's Bits. Condition: at most 1000 bytes.
-/
import Derived.Test.YtmnlcmgkhgckcaaSixL
import Derived.Test.YtmnlcmgkhgckcaaBools
namespace Go.Proofs.Ytmnlcmgkhgckcaa
open Go.RowKit

set_option maxRecDepth 100000 in
set_option maxHeartbeats 1000000 in
theorem rBits7 (w : World) {a : Option Addr} {n c : Nat} {l : List UInt8} (ha : Bs w a n c l) (hn : n ≤ 1000) :
    Calls Try.prog 16 #[.slice a n c] w (GivesB w (bitsL l)) := by
  have HL : Hid (l.length = n) := ha.len
  have HBL : Hid (bitsL l = (List.range (8 * n)).map (bitB l)) := by show _ = _; unfold bitsL; rw [HL.out]
  have m0 : IntKind.i64.wrap (8 * (n : Int)) = 8 * (n : Int) := by rw [IntKind.wrap_i64]; omega
  go_enter Try.func16, Try.ntmps16
  go_wp2_with fail
  go_loopw [3, 4] (fun v i wr => ∃ k : Nat, k ≤ 8 * n ∧ i = .int .i64 k ∧ OwnB wr w.heap.size v (((List.range (8 * n)).map (bitB l)).take k) ∧ Below w.heap.size w wr) (fun _ i _ => 8 * n - (intOf i).toNat)
  case atStart => exact ⟨0, by omega, rfl, OwnB.nil _ _, Below.refl _ _⟩
  case round =>
    obtain ⟨k, hk, rfl, ho, hb⟩ := hrel
    by_cases hlt : k < 8 * n
    · have h0 : (0 : Int) ≤ (k : Int) := by omega
      have h8 : (k : Int) < 8 * (n : Int) := by omega
      have HS := map_stepN (bitB l) hlt
      have hr : (((List.range (8 * n)).map (bitB l)).take k).length + 1 ≤ 1000000000 := by
        have : (((List.range (8 * n)).map (bitB l)).take k).length ≤ ((List.range (8 * n)).map (bitB l)).length := List.length_take_le' _ _
        rw [List.length_map, List.length_range] at this
        omega
      have hs := hb.size
      have t1 := quo8 k
      have t2 : (k : Int) / 8 = ((k / 8 : Nat) : Int) := by omega
      have t3 := rem8 k
      have t4 : (k : Int) % 8 = ((k % 8 : Nat) : Int) := by omega
      have HBB : bitB l k = (decide (k / 8 < l.length) && decide ((l.getD (k / 8) 0 >>> UInt8.ofNat (7 - k % 8)) &&& 1 = 1)) := rfl
      have m8 : k % 8 < 8 := by omega
      have hq : k / 8 < n := by omega
      obtain ⟨b, o, rfl, hbl, hc⟩ := ha.at (by omega)
      rw [HL.out, decide_eq_true hq, Bool.true_and] at HBB
      generalize hq' : k / 8 = q at *
      generalize hm' : k % 8 = m at *
      have q0 : (0 : Int) ≤ (q : Int) := by omega
      have q1 : (q : Int) < (n : Int) := by omega
      have c1 : wr.cell? ⟨b, o + q, none⟩ = some (.int .u8 (bt l q)) := by rw [hb.cell (p := ⟨b, o + q, none⟩) hbl]; exact hc q hq
      unfold bt at c1
      generalize l.getD q 0 = y at c1 HBB
      obtain ⟨s, hs7⟩ : ∃ s, s = 7 - m := ⟨_, rfl⟩
      rw [← hs7] at HBB
      have s0 : (7 : Int) - (m : Int) = (s : Int) := by omega
      have s1 : (0 : Int) ≤ (s : Int) := by omega
      have e1 := b_shr y s (by omega)
      generalize y >>> UInt8.ofNat s = z at e1 HBB
      have e2 := bit_and z
      generalize z &&& 1 = x at e2 HBB
      have e3 : ((x.toNat : Int) == 1) = decide (x = 1) := by
        by_cases hx : x = 1
        · subst hx; rfl
        · rw [one_not hx]; simp [hx]
      rw [← HBB] at e3
      generalize hbit : bitB l k = bit at *
      have HS' : Hid (_ = _) := HS
      clear HS HBB hbit hs7 hc hq' hm'
      go_wp2_with (at_builtin; go_must (refine wpList_bapp (wr.alloc (.cells #[.bool bit] 4)) rfl (.tmp 12) (.tmp 24) rfl w.heap.size _ _ rfl (ho.below (below_alloc _ _) (Nat.le_refl _)) ⟨wr.heap.size, 0, none⟩ 1 1 [bit] rfl (bo_made wr bit) hr (by simp; omega) ?_); intro v2 w2 ho2 hb2)
      go_roundw
      case rel => exact ⟨k + 1, by omega, by go_num, by rw [HS'.out]; exact ho2, (hb.alloc hs _).trans hb2⟩
      case measure => simp [intOf]; omega
    · rw [List.take_of_length_le (by simp; omega), ← HBL.out] at ho
      have h8 : ¬ (k : Int) < 8 * (n : Int) := by omega
      go_wp2
      go_ret
      exact GivesB.mk ho hb

end Go.Proofs.Ytmnlcmgkhgckcaa
