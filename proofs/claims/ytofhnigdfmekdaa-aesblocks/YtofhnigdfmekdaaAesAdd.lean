/-
  The contracts of 'added' and 'shifted'. Conditions: blocks of 16 bytes; the tables lie where the pointer leads.
-/
import Derived.Test.YtofhnigdfmekdaaAesBlkL
import Derived.Test.YtofhnigdfmekdaaAesBuild
import Derived.Deep.RegionHeld3
import Derived.Deep.DrawnRows
namespace Go.Proofs.Ytofhnigdfmekdaa
open Go.RowKit
attribute [local go_sem ↓] Go.wp_at_zero Go.wp_at_succ

theorem sizeK : (Try.prog.info? 28).map (·.size) = some 16 := by kernel_rfl

set_option maxHeartbeats 1000000 in
theorem oAdd (w : World) (a b : List UInt8) (ha : a.length = 16) (hb : b.length = 16) :
    Calls Try.prog 25 #[bv a, bv b] w fun e w' => e = .returned (bv (xorL a b)) ∧ Below w.heap.size w w' := by
  unfold bv
  have hx : (xorL a b).length = a.length := xorL_length (by omega)
  go_enter Try.func25, Try.ntmps25
  go_wp2_with fail
  go_loopw [5, 6] (fun _ i wr => ∃ k : Nat, k ≤ 16 ∧ i = .int .i64 k ∧ Blk wr w.heap.size (cs (over (xorL a b) a k)) 28 ∧ Blk wr (w.heap.size + 1) (cs b) 28 ∧ (∃ z : List UInt8, z.length = 16 ∧ Blk wr (w.heap.size + 1 + 1) (cs z) 28) ∧ Below w.heap.size w wr) (fun _ i _ => 16 - (intOf i).toNat)
  case atStart =>
    exact ⟨0, by omega, rfl, by rw [over_zero]; exact ((Blk.new w _ _).old _).old _, (Blk.newAt (w.alloc _) _ _ _ (by simp) _ rfl).old _, ⟨List.replicate 16 0, rfl, Blk.newAt ((w.alloc _).alloc _) _ _ _ (by simp) _ rfl⟩, below3 w _ _ _⟩
  case round =>
    obtain ⟨k, hk, rfl, b0, b1, ⟨z, hz, b2⟩, hbl⟩ := hrel
    by_cases hlt : k < 16
    · have c0 := b0.at8 (k := k) (by rw [over_length hx]; omega)
      rw [over_at hx (by omega) (Nat.le_refl _)] at c0
      have c1 := b1.at8 (k := k) (by omega)
      have f0 := b0.free k
      have h0 : (0 : Int) ≤ (k : Int) := by omega
      have h8 : (k : Int) < 16 := by omega
      have b3 := b0.set8 k ((xorL a b).getD k 0)
      rw [over_set hx (by omega), xorL_at (by omega) (by omega)] at b3
      generalize hp : a.getD k 0 = p at c0 b3
      generalize hq : b.getD k 0 = q at c1 b3
      have B3 : Hid (Blk (wr.setCell ⟨w.heap.size, k, none⟩ (.int .u8 ((p ^^^ q).toNat : Int))) w.heap.size (cs (over (xorL a b) a (k + 1))) 28) := b3
      have HX : Hid (bits .xor .u8 (p.toNat : Int) (q.toNat : Int) = ((p ^^^ q).toNat : Int)) := xor_u8 p q
      clear hp hq b3
      go_wp2_with fail
      go_region
      go_wp2_with fail
      go_roundw
      case rel =>
        refine ⟨k + 1, by omega, by go_num, ?_, b1.setO (by simp) _, ⟨z, hz, b2.setO (by simp; omega) _⟩, (hbl.setCell (Nat.le_refl _) _).drew⟩
        rw [HX.out]
        exact B3.out
      case measure => simp [intOf]; omega
    · obtain rfl : k = 16 := by omega
      rw [show (16 : Nat) = a.length from ha.symm, over_end hx] at b0
      have HL : Hid ((cs (xorL a b)).length = 16) := by show _ = _; rw [cs_length, hx, ha]
      go_wp2_with (first
        | (with_reducible refine at_ld 28 ?_; refine ld 28 (.tmp 2) 16 sizeK _ Try.underlying28 rfl w.heap.size 0 _ HL.out b0.whole rfl ?_)
        | (with_reducible refine at_st 28 ?_; refine st 28 (.tmp 4) (.tmp 18) 16 sizeK (w.heap.size + 1 + 1) 0 _ HL.out cs_one (b2.there 0 16 (by rw [cs_length, hz]; omega)) rfl rfl ?_))
      have b3 := b2.setsW (cs (xorL a b)) (by rw [HL.out, cs_length, hz])
      exact bodyPost_ret (v := .agg (cs (xorL a b)).toArray) (res_blk Try.results25 _ _ (w.heap.size + 1 + 1) _ _ _ rfl b3 Try.underlying28 16 HL.out sizeK) rfl ⟨rfl, below_sets (by omega) _ hbl 0⟩

set_option maxHeartbeats 1000000 in
theorem oShifted (w : World) (g : Nat) (hT : Tab w g) (b : List UInt8) (hb : b.length = 16) :
    Calls Try.prog 26 #[.pointer (some ⟨g, 0, none⟩), bv b] w fun e w' => e = .returned (bv (shf b)) ∧ Below w.heap.size w w' := by
  unfold bv
  have hgl := hT.lt
  go_enter Try.func26, Try.ntmps26
  go_wp2_with fail
  go_loopw [6, 7, 8] (fun _ _ i wr => ∃ k : Nat, k ≤ 16 ∧ i = .int .i64 k ∧ Blk wr w.heap.size (cs b) 28 ∧ (∃ z : List UInt8, z.length = 16 ∧ Blk wr (w.heap.size + 1) (cs z) 28) ∧ Blk wr (w.heap.size + 1 + 1) (cs (fill (shf b) 16 k)) 28 ∧ Below w.heap.size w wr) (fun _ _ i _ => 16 - (intOf i).toNat)
  case atStart =>
    exact ⟨0, by omega, rfl, ((Blk.new w _ _).old _).old _, ⟨List.replicate 16 0, rfl, (Blk.newAt (w.alloc _) _ _ _ (by simp) _ rfl).old _⟩, Blk.newAt ((w.alloc _).alloc _) _ _ _ (by simp) _ rfl, below3 w _ _ _⟩
  case round =>
    obtain ⟨k, hk, rfl, b0, ⟨z, hz, b1⟩, b2, hbl⟩ := hrel
    by_cases hlt : k < 16
    · have h0 : (0 : Int) ≤ (k : Int) := by omega
      have h8 : (k : Int) < 16 := by omega
      obtain ⟨j, hj⟩ : ∃ j, j = (k + k % 4 * 4) % 16 := ⟨_, rfl⟩
      have hjl : j < 16 := by omega
      obtain ⟨m, hm⟩ : ∃ m, m = k % 4 := ⟨_, rfl⟩
      have hm0 : (k : Int) % 4 = (m : Int) := by omega
      have hm1 : (k : Int).tmod 4 = (m : Int) := by rw [Int.tmod_eq_emod_of_nonneg (by omega)]; omega
      have hm2 : (m : Int) ≤ 3 := by omega
      have hj0 : ((k : Int) + (m : Int) * 4) % 16 = (j : Int) := by omega
      have hj1 : ((k : Int) + (m : Int) * 4).tmod 16 = (j : Int) := by rw [Int.tmod_eq_emod_of_nonneg (by omega)]; omega
      have hj2 : (0 : Int) ≤ (j : Int) := by omega
      have hj3 : (j : Int) < 16 := by omega
      have c0 := b0.at8 (k := j) (by omega)
      have HS := shf_at b hlt
      rw [← hj] at HS
      generalize hp : b.getD j 0 = p at c0 HS
      have hpl := b_lt p
      have hp0 : (0 : Int) ≤ (p.toNat : Int) := by omega
      have hp1 : (p.toNat : Int) < 256 := by omega
      have c1 := (hT.below hbl hgl).box p
      have c2 := b2.at8 (k := k) (by rw [fill_length (shf_length b) hk]; exact hlt)
      have f2 := b2.free k
      have b3 := b2.set8 k ((shf b).getD k 0)
      rw [fill_set (shf_length b) hlt, HS] at b3
      have B3 : Hid (Blk (wr.setCell ⟨w.heap.size + 1 + 1, k, none⟩ (.int .u8 ((box p).toNat : Int))) (w.heap.size + 1 + 1) (cs (fill (shf b) 16 (k + 1))) 28) := b3
      clear hp b3 HS hj hm
      go_wp2_with fail
      go_region
      go_wp2_with fail
      go_roundw
      case rel => exact ⟨k + 1, by omega, by go_num, b0.setO (by simp; omega) _, ⟨z, hz, b1.setO (by simp) _⟩, B3.out, (hbl.setCell (by simp; omega) _).drew⟩
      case measure => simp [intOf]; omega
    · obtain rfl : k = 16 := by omega
      rw [fill_end (shf_length b)] at b2
      have HL : Hid ((cs (shf b)).length = 16) := by show _ = _; rw [cs_length, shf_length]
      obtain ⟨X, hX⟩ : ∃ X, X = shf b := ⟨_, rfl⟩
      rw [← hX] at b2 HL
      have HX : Hid (X = shf b) := hX
      clear hX
      go_wp2_with (first
        | (with_reducible refine at_ld 28 ?_; refine ld 28 (.tmp 5) 16 sizeK _ Try.underlying28 rfl (w.heap.size + 1 + 1) 0 _ HL.out b2.whole rfl ?_)
        | (with_reducible refine at_st 28 ?_; refine st 28 (.tmp 4) (.tmp 28) 16 sizeK (w.heap.size + 1) 0 _ HL.out cs_one (b1.there 0 16 (by rw [cs_length, hz]; omega)) rfl rfl ?_))
      have b3 := b1.setsW (cs X) (by rw [HL.out, cs_length, hz])
      exact bodyPost_ret (v := .agg (cs X).toArray) (res_blk Try.results26 _ _ (w.heap.size + 1) _ _ _ rfl b3 Try.underlying28 16 HL.out sizeK) rfl ⟨by rw [HX.out], below_sets (by omega) _ hbl 0⟩

end Go.Proofs.Ytofhnigdfmekdaa
