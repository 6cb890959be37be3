/-
  The contract of the reference's Xor. Condition: rows of at most 1000000 bytes.
-/
import Derived.Test.YtfgoomlgmepalaaXorL
import Derived.Deep.RegionLaw
import Derived.BigRegion
namespace Go.Proofs.Ytfgoomlgmepalaa
open Go.RowKit

theorem xors_own {w : World} {base : Nat} {v : Value} {A B : List UInt8} (e : A = B) (h : Own w base v A) : Own w base v B := by
  rw [← e]
  exact h
theorem xor_take_end {l m : List UInt8} {n n' k : Nat} (H : Hid (l.length = n ∧ m.length = n')) (h : ¬ (k < n ∧ k < n')) : xorL (l.take k) (m.take k) = xorL l m := by
  unfold xorL
  rw [← List.take_zipWith, List.take_of_length_le]
  rw [List.length_zipWith, H.out.1, H.out.2]
  omega

set_option maxHeartbeats 400000 in
theorem rXor (w : World) {a b : Option Addr} {n c n' c' : Nat} {l m : List UInt8} (ha : Bs w a n c l) (hb : Bs w b n' c' m) (hz : n ≤ 1000000) (hz' : n' ≤ 1000000) :
    Calls Try.prog 17 #[.slice a n c, .slice b n' c'] w (Gives w (xorL l m)) := by
  by_cases h0 : n = 0 ∨ n' = 0
  · have H : Hid (l.length = n ∧ m.length = n') := ⟨ha.len, hb.len⟩
    clear ha hb
    have e := xor_take_end (k := 0) H (by omega)
    by_cases hn : (0 : Int) < n
    · have hn' : ¬ (0 : Int) < n' := by omega
      go_enter Try.func17, Try.ntmps17
      go_wp2_with fail
      refine wp_loop_rounds 1 ?_; rw [rounds_succ]; go_wp2
      go_ret
      exact Gives.mk (xors_own e (Own.nil _ _)) (Below.refl _ _)
    · go_enter Try.func17, Try.ntmps17
      go_wp2_with fail
      refine wp_loop_rounds 1 ?_; rw [rounds_succ]; go_wp2
      go_ret
      exact Gives.mk (xors_own e (Own.nil _ _)) (Below.refl _ _)
  · obtain ⟨x, o, rfl, hx, hc⟩ := ha.at (by omega)
    obtain ⟨y, q, rfl, hy, hd⟩ := hb.at (by omega)
    have H : Hid (l.length = n ∧ m.length = n') := ⟨ha.len, hb.len⟩
    clear ha hb
    go_enter Try.func17, Try.ntmps17
    go_wp2_with fail
    go_loopw [5, 6] (fun v i wr => ∃ k : Nat, k ≤ n ∧ k ≤ n' ∧ i = .int .i64 k ∧ Own wr w.heap.size v (xorL (l.take k) (m.take k)) ∧ Below w.heap.size w wr) (fun _ i _ => n - (intOf i).toNat)
    case atStart => exact ⟨0, Nat.zero_le _, Nat.zero_le _, rfl, Own.nil _ _, Below.refl _ _⟩
    case round =>
      obtain ⟨k, hk, hk', rfl, ho, hb⟩ := hrel
      by_cases hlt : k < n ∧ k < n'
      · obtain ⟨k1, k2⟩ := hlt
        have c1 : wr.cell? ⟨x, o + k, none⟩ = some (.int .u8 (bt l k)) := by rw [hb.cell (p := ⟨x, o + k, none⟩) hx]; exact hc k (by omega)
        have c2 : wr.cell? ⟨y, q + k, none⟩ = some (.int .u8 (bt m k)) := by rw [hb.cell (p := ⟨y, q + k, none⟩) hy]; exact hd k (by omega)
        obtain ⟨z, hz1, hz2⟩ := xor_eq (l := l) (m := m) (k := k) (by rw [H.out.1]; omega) (by rw [H.out.2]; omega)
        have hzlt := UInt8.toNat_lt z
        have b1 : 0 ≤ bits .xor .u8 (bt l k) (bt m k) := by rw [hz1]; omega
        have b2 : bits .xor .u8 (bt l k) (bt m k) ≤ 255 := by rw [hz1]; omega
        have hZ : Hid (UInt8.ofNat (bits .xor .u8 (bt l k) (bt m k)).toNat = z) := by
          show _ = _
          rw [hz1]
          simp
        have HZ : Hid (xorL (l.take (k + 1)) (m.take (k + 1)) = xorL (l.take k) (m.take k) ++ [z]) := hz2
        have hr : (xorL (l.take k) (m.take k)).length + [UInt8.ofNat (bits .xor .u8 (bt l k) (bt m k)).toNat].length ≤ 1000000000 := by
          unfold xorL
          simp
          omega
        have hs : w.heap.size ≤ wr.heap.size := hb.size
        clear hz1 hz2 hzlt
        go_wp2
        go_region_law (refine step_app rfl (.tmp 19) (.tmp 29) rfl w.heap.size _ _ rfl (ho.below (below_alloc _ _).drew (Nat.le_refl _)) _ 1 1 [UInt8.ofNat (bits .xor .u8 (bt l k) (bt m k)).toNat] rfl (Bs.one _ _ b1 b2).drew hr (by simp; omega) ?_; intro v2 w2 ho2 hb2)
        all_goals
          go_wp2
          go_roundw
          case rel => exact ⟨k + 1, by omega, by omega, by go_num, xors_own (by rw [hZ.out, HZ.out]) ho2, (hb.trans ((below_alloc _ _).drew.mono hs)).trans hb2⟩
          case measure => simp [intOf]; omega
      · have e := xor_take_end H hlt
        by_cases hn : (k : Int) < n
        · have hn' : ¬ (k : Int) < n' := by omega
          go_wp2
          go_ret
          exact Gives.mk (xors_own e ho) hb
        · go_wp2
          go_ret
          exact Gives.mk (xors_own e ho) hb

end Go.Proofs.Ytfgoomlgmepalaa
