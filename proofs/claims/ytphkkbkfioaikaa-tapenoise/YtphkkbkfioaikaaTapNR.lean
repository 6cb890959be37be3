/-
  The contract of layer 11's reference's Noise: bytes of a number, in memory of the call's own. Conditions: the number fits 64 bits; at most 3000 bytes.
-/
import Derived.Test.YtphkkbkfioaikaaTapN
import Derived.Test.YtphkkbkfioaikaaPut
import Derived.Test.YtphkkbkfioaikaaCut
import Derived.Test.YtphkkbkfioaikaaUByte
namespace Go.Proofs.Ytphkkbkfioaikaa
open Go.RowKit

/-- A slice that begins at the call's own row. -/
theorem Gives.cut {w w' : World} {a : Option Addr} {n c k : Nat} {l m : List UInt8} (h : Own w' w.heap.size (.slice a n c) l) (hb : Below w.heap.size w w') (hk : k ≤ n) (hm : l.take k = m) : Gives w m (.returned (.slice a k c)) w' := by
  have hk' := hk
  subst hm
  refine ⟨a, k, c, rfl, ?_, hb⟩
  obtain ⟨h1, h2⟩ := h
  rcases h2 with ⟨h2, h0⟩ | ⟨g, cap, cur, hv, hg, hh, hn, hmx, hc, ht⟩
  · simp only [Value.slice.injEq] at h2
    obtain ⟨rfl, rfl, rfl⟩ := h2
    obtain rfl : k = 0 := by omega
    rw [List.take_zero]
    exact Own.nil _ _
  · simp only [Value.slice.injEq] at hv
    obtain ⟨rfl, rfl, rfl⟩ := hv
    have hl : (l.take k).length = k := by rw [List.length_take]; omega
    refine ⟨by rw [cs_length, hl, Nat.mul_one], Or.inr ⟨g, c, cur, by rw [hl], hg, hh, by omega, hmx, hc, ?_⟩⟩
    rw [hl, Nat.mul_one]
    have e : cs (l.take k) = (cs l).take k := by simp [cs]
    rw [e, ← ht, List.take_take, Nat.min_eq_left (by omega)]

theorem high_byte {y : Nat} (h : y < 18446744073709551616) : 0 ≤ (y : Int) / 72057594037927936 ∧ (y : Int) / 72057594037927936 ≤ 255 := by omega
theorem noise_room (n : Nat) {t : Nat} (h : t ≤ 3000) (b : UInt8) : (putL n 8 ++ lcgL n t).length + [b].length ≤ 1000000000 := by
  rw [List.length_append, putL_length, lcgL_length, List.length_singleton]
  omega
theorem noise_end (n : Nat) {t m : Nat} (ht : t = 0 ∨ 8 + t ≤ m) (hlt : ¬ 8 + t < m) : (putL n 8 ++ lcgL n t).take m = noiseL n m := by
  unfold noiseL
  rcases ht with rfl | ht
  · rw [show m - 8 = 0 from by omega]
  · rw [show m - 8 = t from by omega]

theorem lcgI_succ (n t : Nat) : lcgI n (t + 1) = lcg (lcgI n t) := rfl
theorem lcg_more {n t x : Nat} (hx : x = lcgI n t) : lcg x = lcgI n (t + 1) := by rw [hx, lcgI_succ]
theorem noise_more {n t x : Nat} (hx : x = lcgI n t) : putL n 8 ++ lcgL n t ++ [UInt8.ofNat ((lcg x : Int) / 72057594037927936).toNat] = putL n 8 ++ lcgL n (t + 1) := by
  have h1 := lcg_byte (lcg_lt x)
  have e : lcgB n t = UInt8.ofNat (lcg x / 72057594037927936) := by unfold lcgB; rw [lcgI_succ, hx]
  rw [lcgL_succ, List.append_assoc, e, ← h1, Int.toNat_natCast, UInt8.ofNat_toNat]

set_option maxHeartbeats 1000000 in
theorem rNoise (n s : Int) (w : World) (hs : s ≤ 3000) (hn0 : 0 ≤ n) (hn : n ≤ 18446744073709551615) (hlo : -9223372036854775808 ≤ s) :
    Calls Try.prog 18 #[.int .u64 n, .int .i64 s] w (Gives w (noiseL n.toNat s.toNat)) := by
  obtain ⟨n, rfl⟩ : ∃ q : Nat, n = q := ⟨n.toNat, by omega⟩
  rw [Int.toNat_natCast]
  go_enter Try.func18, Try.ntmps18
  go_wp2_with fail
  refine (rPut 8 (n : Int) 8 w (by omega) (by omega) (by omega) (by omega) (by omega)).mono ?_
  rintro e w1 ⟨a1, m1, c1, rfl, o1, hb1⟩
  rw [Int.toNat_natCast, show Int.toNat 8 = 8 from rfl] at o1
  have HO : Hid (Own w1 w.heap.size (.slice a1 m1 c1) (putL n 8 ++ lcgL n 0)) := by have := o1; rwa [show lcgL n 0 = [] from rfl, List.append_nil]
  clear o1
  go_wp2_with fail
  go_loopw [5, 6, 7] (fun v x i wr => ∃ (t : Nat), (t = 0 ∨ (8 + t : Int) ≤ s) ∧ i = .int .i64 ((8 + t : Nat) : Int) ∧ x = .int .u64 ((lcgI n t : Nat) : Int) ∧ Own wr w.heap.size v (putL n 8 ++ lcgL n t) ∧ Below w.heap.size w wr) (fun _ _ i _ => (s - intOf i).toNat)
  case atStart => exact ⟨0, Or.inl rfl, rfl, rfl, HO.out, hb1⟩
  case round =>
    obtain ⟨t, ht, rfl, rfl, ho, hb⟩ := hrel
    clear HO hb1
    have ht3 : t ≤ 3000 := by omega
    by_cases hlt : ((8 + t : Nat) : Int) < s
    · obtain ⟨x, hx⟩ : ∃ x, x = lcgI n t := ⟨_, rfl⟩
      have HY : Hid (lcg x = lcgI n (t + 1)) := lcg_more hx
      have HL : Hid (putL n 8 ++ lcgL n t ++ [UInt8.ofNat ((lcg x : Int) / 72057594037927936).toNat] = putL n 8 ++ lcgL n (t + 1)) := noise_more hx
      rw [← hx]
      have hw := lcg_int x
      have hxl : x < 18446744073709551616 := by rw [hx]; exact lcgI_lt (by omega) _
      have hyl : lcg x < 18446744073709551616 := lcg_lt x
      clear hx
      generalize lcg x = y at *
      obtain ⟨i, hi⟩ : ∃ i : Nat, i = 8 + t := ⟨_, rfl⟩
      rw [← hi] at hlt ⊢
      have Hi : Hid (i = 8 + t) := hi
      have hi3 : i ≤ 3100 := by omega
      clear hi ht
      have hz := noise_room n ht3 (UInt8.ofNat ((y : Int) / 72057594037927936).toNat)
      have hhb := high_byte hyl
      have hsz : w.heap.size ≤ wr.heap.size := hb.size
      go_wp2_with (at_builtin; refine wpList_app _ rfl _ _ rfl w.heap.size _ _ rfl (ho.below (below_alloc _ _) (Nat.le_refl _)) _ 1 1 [UInt8.ofNat ((y : Int) / 72057594037927936).toNat] rfl (Bs.one _ _ hhb.1 hhb.2) hz (by rw [World.size_alloc]; exact Nat.le_succ_of_le hsz) ?_; intro v2 w2 hown2 hbel2)
      go_roundw
      case rel => exact ⟨t + 1, Or.inr (by have := Hi.out; omega), by rw [show ((i : Int) + 1) = ((8 + (t + 1) : Nat) : Int) from by have := Hi.out; omega], by rw [HY.out], by rw [← HL.out]; exact hown2, (hb.alloc hsz _).trans hbel2⟩
      case measure => simp [intOf]; omega
    · by_cases h0 : s < 0
      · have e : s.toNat = 0 := by omega
        have HE : Hid (noiseL n s.toNat = []) := by show _ = _; rw [e]; rfl
        clear e ht
        go_wp2_with fail
        go_ret
        exact Gives.mk (by rw [HE.out]; exact Own.nil _ _) hb
      · obtain ⟨m, rfl⟩ : ∃ m : Nat, s = m := ⟨s.toNat, by omega⟩
        obtain ⟨a5, m5, c5, rfl, hb5⟩ := Own.bs3 ho
        have hl5 : m5 = 8 + t := by have := hb5.len; rw [List.length_append, putL_length, lcgL_length] at this; omega
        have hm5 : m ≤ m5 := by omega
        have HE : Hid ((putL n 8 ++ lcgL n t).take m = noiseL n (m : Int).toNat) := by
          show _ = _
          rw [Int.toNat_natCast]
          exact noise_end n (ht.imp id fun h => by omega) (by omega)
        have HO5 : Hid (Own wr w.heap.size (.slice a5 m5 c5) (putL n 8 ++ lcgL n t)) := ho
        obtain ⟨hcut, hbc⟩ := Bs.cutHigh hb5 m hm5
        have hH : Hid (m ≤ m5) := hm5
        clear ht hl5 ho hbc hm5 hb5
        go_wp2_with fail
        go_ret
        exact Gives.cut HO5.out hb hH.out HE.out

end Go.Proofs.Ytphkkbkfioaikaa
