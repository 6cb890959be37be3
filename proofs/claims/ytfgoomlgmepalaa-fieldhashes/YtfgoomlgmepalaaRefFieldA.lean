/-
  The contract of layer 5's reference's Bits. Condition: at most 16 bytes.
-/
import Derived.Test.YtfgoomlgmepalaaFieldBits
import Derived.Test.YtfgoomlgmepalaaBools
namespace Go.Proofs.Ytfgoomlgmepalaa
open Go.RowKit

theorem GivesB.mk {w w' : World} {v : Value} {l : List Bool} (h : OwnB w' w.heap.size v l) (hb : Below w.heap.size w w') : GivesB w l (.returned v) w' := by
  obtain ⟨a, c, rfl, hB, hx⟩ := h.bo
  exact ⟨a, c, rfl, hB, hx, hb⟩
theorem mapB_step (f : Nat → Bool) {k : Nat} (h : k < 128) : ((List.range 128).map f).take (k + 1) = ((List.range 128).map f).take k ++ [f k] := by
  have hl : k < ((List.range 128).map f).length := by simp; exact h
  rw [List.take_succ_eq_append_getElem hl]
  simp
theorem bo_made (w : World) (x : Bool) : Bo (w.alloc (.cells #[.bool x] 4)) (some ⟨w.heap.size, 0, none⟩) 1 1 [x] :=
  ⟨rfl, Nat.le_refl _, by unfold maxLen; omega, by simp, fun i hi => ⟨w.heap.size, 0, rfl, by
    obtain rfl : i = 0 := by omega
    rw [Nat.zero_add, cell_new]
    rfl⟩⟩
theorem quo8 (k : Nat) : (k : Int).tdiv 8 = ((k / 8 : Nat) : Int) := by
  rw [Int.tdiv_eq_ediv_of_nonneg (by omega)]
  omega
theorem rem8 (k : Nat) : (k : Int).tmod 8 = ((k % 8 : Nat) : Int) := by
  rw [Int.tmod_eq_emod_of_nonneg (by omega)]
  omega

set_option maxRecDepth 100000 in
set_option maxHeartbeats 1000000 in
theorem rBits (w : World) {a : Option Addr} {n c : Nat} {l : List UInt8} (ha : Bs w a n c l) (hn : n ≤ 16) :
    Calls Try.prog 10 #[.slice a n c] w (GivesB w (fb (feB l))) := by
  rw [fb_feB]
  have HL : Hid (l.length = n) := ha.len
  go_enter Try.func10, Try.ntmps10
  go_wp2_with fail
  go_loopw [3, 4] (fun v i wr => ∃ k : Nat, k ≤ 128 ∧ i = .int .i64 k ∧ OwnB wr w.heap.size v (((List.range 128).map (bitB l)).take k) ∧ Below w.heap.size w wr) (fun _ i _ => 128 - (intOf i).toNat)
  case atStart => exact ⟨0, by omega, rfl, OwnB.nil _ _, Below.refl _ _⟩
  case round =>
    obtain ⟨k, hk, rfl, ho, hb⟩ := hrel
    by_cases hlt : k < 128
    · have h0 : (0 : Int) ≤ (k : Int) := by omega
      have h8 : (k : Int) < 128 := by omega
      have HS := mapB_step (bitB l) hlt
      have hr : (((List.range 128).map (bitB l)).take k).length + 1 ≤ 1000000000 := by
        have : (((List.range 128).map (bitB l)).take k).length ≤ ((List.range 128).map (bitB l)).length := List.length_take_le' _ _
        rw [List.length_map, List.length_range] at this
        omega
      have hs := hb.size
      have t1 := quo8 k
      have t2 : (k : Int) / 8 = ((k / 8 : Nat) : Int) := by omega
      have t3 := rem8 k
      have t4 : (k : Int) % 8 = ((k % 8 : Nat) : Int) := by omega
      have HBB : bitB l k = (decide (k / 8 < l.length) && decide ((l.getD (k / 8) 0 >>> UInt8.ofNat (7 - k % 8)) &&& 1 = 1)) := rfl
      have m8 : k % 8 < 8 := by omega
      by_cases hq : k / 8 < n
      · obtain ⟨b, o, rfl, hbl, hc⟩ := ha.at (by omega)
        rw [HL.out, decide_eq_true hq, Bool.true_and] at HBB
        generalize hq' : k / 8 = q at *
        generalize hm' : k % 8 = m at *
        have q0 : (0 : Int) ≤ (q : Int) := by omega
        have q1 : (q : Int) < (n : Int) := by omega
        have c1 : wr.cell? ⟨b, o + q, none⟩ = some (.int .u8 (bt l q)) := by rw [hb.cell (p := ⟨b, o + q, none⟩) hbl]; exact hc q hq
        unfold bt at c1
        generalize l.getD q 0 = y at c1 HBB
        obtain ⟨s, hs7⟩ : ∃ s, s = 7 - m := ⟨_, rfl⟩
        rw [← hs7] at HBB
        have s0 : (7 : Int) - (m : Int) = (s : Int) := by omega
        have s1 : (0 : Int) ≤ (s : Int) := by omega
        have e1 := b_shr y s (by omega)
        generalize y >>> UInt8.ofNat s = z at e1 HBB
        have e2 := bit_and z
        generalize z &&& 1 = x at e2 HBB
        have e3 : ((x.toNat : Int) == 1) = decide (x = 1) := by
          by_cases hx : x = 1
          · subst hx; rfl
          · rw [one_not hx]; simp [hx]
        rw [← HBB] at e3
        generalize hbit : bitB l k = bit at *
        have HS' : Hid (_ = _) := HS
        clear HS HBB hbit hs7 hc hq' hm'
        go_wp2_with (at_builtin; go_must (refine wpList_bapp (wr.alloc (.cells #[.bool bit] 4)) rfl (.tmp 9) (.tmp 28) rfl w.heap.size _ _ rfl (ho.below (below_alloc _ _) (Nat.le_refl _)) ⟨wr.heap.size, 0, none⟩ 1 1 [bit] rfl (bo_made wr bit) hr (by simp; omega) ?_); intro v2 w2 ho2 hb2)
        go_roundw
        case rel => exact ⟨k + 1, by omega, by go_num, by rw [HS'.out]; exact ho2, (hb.alloc hs _).trans hb2⟩
        case measure => simp [intOf]; omega
      · rw [HL.out, decide_eq_false hq, Bool.false_and] at HBB
        have hq2 : ¬ ((k / 8 : Nat) : Int) < (n : Int) := by omega
        have hq3 : decide (((k / 8 : Nat) : Int) < (n : Int)) = false := by simpa using hq2
        rw [HBB] at HS
        have HS' : Hid (_ = _) := HS
        generalize k / 8 = q at *
        clear HS HBB
        go_wp2_with (at_builtin; go_must (refine wpList_bapp (wr.alloc (.cells #[.bool false] 4)) rfl (.tmp 9) (.tmp 28) rfl w.heap.size _ _ rfl (ho.below (below_alloc _ _) (Nat.le_refl _)) ⟨wr.heap.size, 0, none⟩ 1 1 [false] rfl (bo_made wr false) hr (by simp; omega) ?_); intro v2 w2 ho2 hb2)
        go_roundw
        case rel => exact ⟨k + 1, by omega, by go_num, by rw [HS'.out]; exact ho2, (hb.alloc hs _).trans hb2⟩
        case measure => simp [intOf]; omega
    · rw [List.take_of_length_le (by simp; omega)] at ho
      go_wp2
      go_ret
      exact GivesB.mk ho hb

end Go.Proofs.Ytfgoomlgmepalaa
