/-
  The contract of the program's Put: the lowest bytes of a number, the highest first, in memory of the call's own. Conditions: the number fits 64 bits; the size is at most 1000000.
-/
import Derived.Test.YtphkkbkfioaikaaOwn
namespace Go.Proofs.Ytphkkbkfioaikaa
open Go.RowKit

theorem put_start {n m : Nat} {w : World} {base : Nat} {L : List UInt8} (e : L = putL n m) {v : Value} (h : Own w base v L) : Own w base v (putL n m) := by rw [← e]; exact h

/-- One byte more, from behind. -/
theorem put_more {n m t q : Nat} (ht : t < m) (hq : q = n / 256 ^ t) : (List.replicate (m - t) 0 ++ putL n t).set (m - 1 - t) (UInt8.ofNat q) = List.replicate (m - (t + 1)) 0 ++ putL n (t + 1) := by
  rw [putL_cons, hq]
  obtain ⟨d, rfl⟩ : ∃ d, m = d + 1 + t := ⟨m - 1 - t, by omega⟩
  rw [show d + 1 + t - t = d + 1 from by omega, show d + 1 + t - 1 - t = d from by omega, show d + 1 + t - (t + 1) = d from by omega, List.replicate_succ', List.append_assoc]
  rw [List.set_append_right _ _ (by simp)]
  simp

theorem put_div {n t q : Nat} (H : Hid (q = n / 256 ^ t)) : (q : Int) / 256 = ((n / 256 ^ (t + 1) : Nat) : Int) := by
  rw [H.out, Nat.pow_succ, ← Nat.div_div_eq_div_mul]
  omega
theorem put_done {n m t : Nat} (ht : t ≤ m) (H : Hid (0 = n / 256 ^ t)) : List.replicate (m - t) 0 ++ putL n t = putL n m := by
  rw [putL_rest t (m - t) n H.out.symm, show m - t + t = m from by omega]
theorem put_full {n m t : Nat} (ht : t ≤ m) (h : ¬ t < m) : List.replicate (m - t) 0 ++ putL n t = putL n m := by
  have : t = m := by omega
  subst this
  simp

set_option maxHeartbeats 400000 in
theorem oPut (n s : Int) (w : World) (hs : s ≤ 1000000) (hn0 : 0 ≤ n) (hn : n ≤ 18446744073709551615) (hlo : -9223372036854775808 ≤ s) :
    Calls Try.prog 23 #[.int .u64 n, .int .i64 s] w (Gives w (putL n.toNat s.toNat)) := by
  by_cases h1 : s < 1
  · have e : s.toNat = 0 := by omega
    rw [e]
    clear e
    go_enter Try.func23, Try.ntmps23
    go_wp2
    go_ret
    exact Gives.mk (Own.nil _ _) (Below.refl _ _)
  · obtain ⟨m, rfl⟩ : ∃ m : Nat, s = m := ⟨s.toNat, by omega⟩
    obtain ⟨n, rfl⟩ : ∃ q : Nat, n = q := ⟨n.toNat, by omega⟩
    rw [Int.toNat_natCast, Int.toNat_natCast]
    have h2 : ¬ (2147483647 : Int) < m := by omega
    go_enter Try.func23, Try.ntmps23
    go_wp2_with (at_make; refine wpList_mkn _ rfl _ _ rfl w.heap.size m _ rfl rfl rfl (by omega) (Nat.le_refl _) ?_; intro g w1 hg hgl hown hbel)
    go_loopw [0, 6] (fun q i wr => ∃ t : Nat, t ≤ m ∧ i = .int .i64 ((m : Int) - 1 - t) ∧ q = .int .u64 ((n / 256 ^ t : Nat) : Int) ∧ Own wr w.heap.size (.slice (some ⟨g, 0, none⟩) m m) (List.replicate (m - t) 0 ++ putL n t) ∧ Below w.heap.size w wr) (fun _ i _ => (intOf i + 1).toNat)
    case atStart => exact ⟨0, Nat.zero_le _, by simp, by simp, by simpa [putL] using hown, hbel⟩
    case round =>
      obtain ⟨t, ht, rfl, rfl, ho, hb⟩ := hrel
      clear hown hbel
      have ex : ∃ q, q = n / 256 ^ t := ⟨_, rfl⟩
      obtain ⟨q, hq⟩ := ex
      rw [← hq]
      have Hq : Hid (q = n / 256 ^ t) := hq
      have hqm : q ≤ 18446744073709551615 := by rw [hq]; exact Nat.le_trans (Nat.div_le_self _ _) (by omega)
      clear hq
      by_cases hc : t < m ∧ 0 < q
      · obtain ⟨h3, h4⟩ := hc
        have i1 : (m : Int) - 1 - t = ((m - 1 - t : Nat) : Int) := by omega
        rw [i1]
        have hlen : (List.replicate (m - t) (0 : UInt8) ++ putL n t).length = m := by rw [List.length_append, putL_length, List.length_replicate]; omega
        obtain ⟨v0, hcell⟩ := ho.cell hlen (m - 1 - t) (by omega)
        have hfr := ho.free hlen (m - 1 - t)
        have ho2 := ho.set hlen (m - 1 - t) (UInt8.ofNat q)
        have hb2 := hb.setCell (p := ⟨g, m - 1 - t, none⟩) hg (.int .u8 ((UInt8.ofNat q).toNat : Int))
        rw [put_more h3 Hq.out] at ho2
        have hu : (((UInt8.ofNat q).toNat : Nat) : Int) = (q : Int) % 256 := by rw [UInt8.toNat_ofNat']; omega
        rw [hu] at ho2 hb2
        have HO : Hid (Own (wr.setCell ⟨g, m - 1 - t, none⟩ (.int .u8 ((q : Int) % 256))) w.heap.size (.slice (some ⟨g, 0, none⟩) m m) (List.replicate (m - (t + 1)) 0 ++ putL n (t + 1))) := ho2
        have HB : Hid (Below w.heap.size w (wr.setCell ⟨g, m - 1 - t, none⟩ (.int .u8 ((q : Int) % 256)))) := hb2
        have h5 : (0 : Int) < q := by omega
        have h6 : (0 : Int) ≤ ((m - 1 - t : Nat) : Int) := by omega
        have h7 : ((m - 1 - t : Nat) : Int) < m := by omega
        clear ho2 hb2 hu hlen ho hb
        go_wp2
        go_roundw
        case rel => exact ⟨t + 1, by omega, by rw [show ((m - 1 - t : Nat) : Int) - 1 = (m : Int) - 1 - ((t + 1 : Nat) : Int) from by omega], by rw [put_div Hq], HO.out, HB.out⟩
        case measure => simp [intOf]
      · by_cases h3 : t < m
        · have h4 : q = 0 := by omega
          subst h4
          have h6 : (0 : Int) ≤ (m : Int) - 1 - t := by omega
          go_wp2
          go_ret
          exact Gives.mk (put_start (put_done ht Hq) ho) hb
        · go_wp2
          go_ret
          exact Gives.mk (put_start (put_full ht h3) ho) hb
end Go.Proofs.Ytphkkbkfioaikaa
