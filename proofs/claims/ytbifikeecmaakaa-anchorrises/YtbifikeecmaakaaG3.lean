/-
  3 texts in one. No statement of the seat is proved here.
-/
import Derived.Test.YtbifikeecmaakaaG2

/-
  The contracts of the program's total and Join: parts, one behind the other. Condition: the parts have at most 100000 bytes in all.
-/
namespace Go.Proofs.Ytbifikeecmaakaa
open Go.RowKit

set_option maxHeartbeats 400000 in
theorem oTotal (w : World) {a : Option Addr} {n c : Nat} {ls : List (List UInt8)} (ha : Bss w a n c ls) (hz : tot ls ≤ 100000) :
    Calls Try.prog 61 #[.slice a n c] w fun e w' => e = .returned (.int .i64 (tot ls : Nat)) ∧ w = w' := by
  have h1 := ha.max
  by_cases h0 : n = 0
  · subst h0
    have e : ls = [] := List.length_eq_zero_iff.1 ha.len
    subst e
    clear ha
    go_enter Try.func61, Try.ntmps61
    go_wp2
    refine wp_loop_rounds 1 ?_; rw [rounds_succ]; go_wp2
    go_ret
    exact ⟨rfl, rfl⟩
  · obtain ⟨x, o, rfl, hx, hc⟩ := ha.at (by omega)
    have H : Hid (ls.length = n) := ha.len
    clear ha
    go_enter Try.func61, Try.ntmps61
    go_wp2
    go_loop [3, 8] (fun t i => ∃ k : Nat, k ≤ n ∧ i = .int .i64 k ∧ t = .int .i64 (tot (ls.take k) : Nat)) (fun _ i => n - (intOf i).toNat)
    case atStart => exact ⟨0, Nat.zero_le _, rfl, rfl⟩
    case round =>
      obtain ⟨k, hk, rfl, rfl⟩ := hrel
      by_cases hlt : k < n
      · obtain ⟨p, m, q, c1, hb⟩ := hc k hlt
        have b0 := tot_take_le ls (k + 1)
        have b1 := tot_step (by rw [H.out]; exact hlt) hb.len
        have B1 : Hid ((tot (ls.take k) : Int) + (m : Int) = (tot (ls.take (k + 1)) : Nat)) := b1
        have b2 : (tot (ls.take k) : Int) + (m : Int) ≤ 100000 := by omega
        clear hc b0 b1 hb
        go_wp2
        go_round
        case rel => exact ⟨k + 1, by omega, by go_num, by rw [B1.out]⟩
        case measure => simp [intOf]; omega
      · go_wp2
        go_ret
        exact ⟨ret_int (by rw [List.take_of_length_le (by rw [H.out]; omega)]), rfl⟩

set_option maxHeartbeats 400000 in
theorem oJoin (w : World) {a : Option Addr} {n c : Nat} {ls : List (List UInt8)} (ha : Bss w a n c ls) (hz : tot ls ≤ 100000) :
    Calls Try.prog 40 #[.slice a n c] w (Gives w ls.flatten) := by
  have h1 := ha.max
  have hT := oTotal w ha hz
  by_cases h0 : n = 0
  · subst h0
    have e : ls = [] := List.length_eq_zero_iff.1 ha.len
    subst e
    clear ha
    go_enter Try.func40, Try.ntmps40
    go_wp2_with (first | (go_at_call 61; refine hT.mono ?_; rintro e w' ⟨rfl, rfl⟩) | (at_make; refine wpList_mk0 _ rfl _ _ rfl _ _ rfl rfl (by omega) (by omega) (Nat.le_refl _) ?_; intro v1 w1 hown hbel))
    refine wp_loop_rounds 1 ?_; rw [rounds_succ]; go_wp2
    go_ret
    exact Gives.mk hown hbel
  · obtain ⟨x, o, rfl, hx, hc⟩ := ha.at (by omega)
    have H : Hid (ls.length = n) := ha.len
    clear ha
    go_enter Try.func40, Try.ntmps40
    go_wp2_with (first | (go_at_call 61; refine hT.mono ?_; rintro e w' ⟨rfl, rfl⟩) | (at_make; refine wpList_mk0 _ rfl _ _ rfl _ _ rfl rfl (by omega) (by omega) (Nat.le_refl _) ?_; intro v1 w1 hown hbel))
    clear hT
    go_loopw [3, 11] (fun v i wr => ∃ k : Nat, k ≤ n ∧ i = .int .i64 k ∧ Own wr w.heap.size v (ls.take k).flatten ∧ Below w.heap.size w wr) (fun _ i _ => n - (intOf i).toNat)
    case atStart => exact ⟨0, Nat.zero_le _, rfl, hown, hbel⟩
    case round =>
      obtain ⟨k, hk, rfl, ho, hb⟩ := hrel
      clear hown hbel
      by_cases hlt : k < n
      · obtain ⟨p, m, q, c1, hp⟩ := Bss.part hc hb k hlt
        have hr := flat_room (by rw [H.out]; exact hlt) hz
        have hs := hb.size
        have HS : Hid ((ls.take k).flatten ++ ls.getD k [] = (ls.take (k + 1)).flatten) := flat_step (by rw [H.out]; exact hlt)
        go_wp2_with (at_builtin; refine wpList_app _ rfl _ _ rfl w.heap.size _ _ rfl ho _ _ _ _ rfl (hp.below hb (Nat.le_refl _)) hr hs ?_; intro v2 w2 ho2 hb2)
        go_roundw
        case rel => exact ⟨k + 1, by omega, by go_num, by rw [← HS.out]; exact ho2, hb.trans hb2⟩
        case measure => simp [intOf]; omega
      · go_wp2
        go_ret
        exact Gives.mk (flat_end H hlt ho) hb

end Go.Proofs.Ytbifikeecmaakaa

/-
  The contract of the program's Put: the lowest bytes of a number, the highest first, in memory of the call's own. Conditions: the number fits 64 bits; the size is at most 1000000.
-/
namespace Go.Proofs.Ytbifikeecmaakaa
open Go.RowKit

theorem put_start {n m : Nat} {w : World} {base : Nat} {L : List UInt8} (e : L = putL n m) {v : Value} (h : Own w base v L) : Own w base v (putL n m) := by rw [← e]; exact h

/-- One byte more, from behind. -/
theorem put_more {n m t q : Nat} (ht : t < m) (hq : q = n / 256 ^ t) : (List.replicate (m - t) 0 ++ putL n t).set (m - 1 - t) (UInt8.ofNat q) = List.replicate (m - (t + 1)) 0 ++ putL n (t + 1) := by
  rw [putL_cons, hq]
  obtain ⟨d, rfl⟩ : ∃ d, m = d + 1 + t := ⟨m - 1 - t, by omega⟩
  rw [show d + 1 + t - t = d + 1 from by omega, show d + 1 + t - 1 - t = d from by omega, show d + 1 + t - (t + 1) = d from by omega, List.replicate_succ', List.append_assoc]
  rw [List.set_append_right _ _ (by simp)]
  simp

theorem put_div {n t q : Nat} (H : Hid (q = n / 256 ^ t)) : (q : Int) / 256 = ((n / 256 ^ (t + 1) : Nat) : Int) := by
  rw [H.out, Nat.pow_succ, ← Nat.div_div_eq_div_mul]
  omega
theorem put_done {n m t : Nat} (ht : t ≤ m) (H : Hid (0 = n / 256 ^ t)) : List.replicate (m - t) 0 ++ putL n t = putL n m := by
  rw [putL_rest t (m - t) n H.out.symm, show m - t + t = m from by omega]
theorem put_full {n m t : Nat} (ht : t ≤ m) (h : ¬ t < m) : List.replicate (m - t) 0 ++ putL n t = putL n m := by
  have : t = m := by omega
  subst this
  simp

set_option maxHeartbeats 400000 in
theorem oPut (n s : Int) (w : World) (hs : s ≤ 1000000) (hn0 : 0 ≤ n) (hn : n ≤ 18446744073709551615) (hlo : -9223372036854775808 ≤ s) :
    Calls Try.prog 39 #[.int .u64 n, .int .i64 s] w (Gives w (putL n.toNat s.toNat)) := by
  by_cases h1 : s < 1
  · have e : s.toNat = 0 := by omega
    rw [e]
    clear e
    go_enter Try.func39, Try.ntmps39
    go_wp2
    go_ret
    exact Gives.mk (Own.nil _ _) (Below.refl _ _)
  · obtain ⟨m, rfl⟩ : ∃ m : Nat, s = m := ⟨s.toNat, by omega⟩
    obtain ⟨n, rfl⟩ : ∃ q : Nat, n = q := ⟨n.toNat, by omega⟩
    rw [Int.toNat_natCast, Int.toNat_natCast]
    have h2 : ¬ (2147483647 : Int) < m := by omega
    go_enter Try.func39, Try.ntmps39
    go_wp2_with (at_make; refine wpList_mkn _ rfl _ _ rfl w.heap.size m _ rfl rfl rfl (by omega) (Nat.le_refl _) ?_; intro g w1 hg hgl hown hbel)
    go_loopw [0, 6] (fun q i wr => ∃ t : Nat, t ≤ m ∧ i = .int .i64 ((m : Int) - 1 - t) ∧ q = .int .u64 ((n / 256 ^ t : Nat) : Int) ∧ Own wr w.heap.size (.slice (some ⟨g, 0, none⟩) m m) (List.replicate (m - t) 0 ++ putL n t) ∧ Below w.heap.size w wr) (fun _ i _ => (intOf i + 1).toNat)
    case atStart => exact ⟨0, Nat.zero_le _, by simp, by simp, by simpa [putL] using hown, hbel⟩
    case round =>
      obtain ⟨t, ht, rfl, rfl, ho, hb⟩ := hrel
      clear hown hbel
      have ex : ∃ q, q = n / 256 ^ t := ⟨_, rfl⟩
      obtain ⟨q, hq⟩ := ex
      rw [← hq]
      have Hq : Hid (q = n / 256 ^ t) := hq
      have hqm : q ≤ 18446744073709551615 := by rw [hq]; exact Nat.le_trans (Nat.div_le_self _ _) (by omega)
      clear hq
      by_cases hc : t < m ∧ 0 < q
      · obtain ⟨h3, h4⟩ := hc
        have i1 : (m : Int) - 1 - t = ((m - 1 - t : Nat) : Int) := by omega
        rw [i1]
        have hlen : (List.replicate (m - t) (0 : UInt8) ++ putL n t).length = m := by rw [List.length_append, putL_length, List.length_replicate]; omega
        obtain ⟨v0, hcell⟩ := ho.cell hlen (m - 1 - t) (by omega)
        have hfr := ho.free hlen (m - 1 - t)
        have ho2 := ho.set hlen (m - 1 - t) (UInt8.ofNat q)
        have hb2 := hb.setCell (p := ⟨g, m - 1 - t, none⟩) hg (.int .u8 ((UInt8.ofNat q).toNat : Int))
        rw [put_more h3 Hq.out] at ho2
        have hu : (((UInt8.ofNat q).toNat : Nat) : Int) = (q : Int) % 256 := by rw [UInt8.toNat_ofNat']; omega
        rw [hu] at ho2 hb2
        have HO : Hid (Own (wr.setCell ⟨g, m - 1 - t, none⟩ (.int .u8 ((q : Int) % 256))) w.heap.size (.slice (some ⟨g, 0, none⟩) m m) (List.replicate (m - (t + 1)) 0 ++ putL n (t + 1))) := ho2
        have HB : Hid (Below w.heap.size w (wr.setCell ⟨g, m - 1 - t, none⟩ (.int .u8 ((q : Int) % 256)))) := hb2
        have h5 : (0 : Int) < q := by omega
        have h6 : (0 : Int) ≤ ((m - 1 - t : Nat) : Int) := by omega
        have h7 : ((m - 1 - t : Nat) : Int) < m := by omega
        clear ho2 hb2 hu hlen ho hb
        go_wp2
        go_roundw
        case rel => exact ⟨t + 1, by omega, by rw [show ((m - 1 - t : Nat) : Int) - 1 = (m : Int) - 1 - ((t + 1 : Nat) : Int) from by omega], by rw [put_div Hq], HO.out, HB.out⟩
        case measure => simp [intOf]
      · by_cases h3 : t < m
        · have h4 : q = 0 := by omega
          subst h4
          have h6 : (0 : Int) ≤ (m : Int) - 1 - t := by omega
          go_wp2
          go_ret
          exact Gives.mk (put_start (put_done ht Hq) ho) hb
        · go_wp2
          go_ret
          exact Gives.mk (put_start (put_full ht h3) ho) hb
end Go.Proofs.Ytbifikeecmaakaa

/-
  The contract of the reference's Put: the lowest bytes of a number, the highest first, in memory of the call's own. Conditions: the number fits 64 bits; the size is at most 1000000.
-/
namespace Go.Proofs.Ytbifikeecmaakaa
open Go.RowKit

theorem put_rec {n s : Int} {w : World} {base : Nat} {v : Value} (h1 : 1 ≤ s) (h0 : 0 ≤ n) (h : Own w base v (putL (n / 256).toNat (s - 1).toNat ++ [UInt8.ofNat (n % 256).toNat])) : Own w base v (putL n.toNat s.toNat) := by
  have e : s.toNat = (s - 1).toNat + 1 := by omega
  rw [e, putL]
  have e2 : (n / 256).toNat = n.toNat / 256 := by omega
  have e3 : UInt8.ofNat n.toNat = UInt8.ofNat (n % 256).toNat := by
    apply UInt8.toNat_inj.1
    rw [UInt8.toNat_ofNat', UInt8.toNat_ofNat']
    omega
  rw [e3, ← e2]
  exact h

set_option maxHeartbeats 400000 in
theorem rPut (k : Nat) : ∀ (n s : Int) (w : World), s ≤ k → k ≤ 1000000 → 0 ≤ n → n ≤ 18446744073709551615 → -9223372036854775808 ≤ s →
    Calls Try.prog 41 #[.int .u64 n, .int .i64 s] w (Gives w (putL n.toNat s.toNat)) := by
  induction k with
  | zero =>
    intro n s w hs _ hn0 hn hlo
    have e : s.toNat = 0 := by omega
    rw [e]
    have h1 : s < 1 := by omega
    clear e
    go_enter Try.func41, Try.ntmps41
    go_wp2_with fail
    go_ret
    exact Gives.mk (Own.nil _ _) (Below.refl _ _)
  | succ k ih =>
    intro n s w hs hk hn0 hn hlo
    by_cases h1 : s < 1
    · have e : s.toNat = 0 := by omega
      rw [e]
      clear e ih
      go_enter Try.func41, Try.ntmps41
      go_wp2_with fail
      go_ret
      exact Gives.mk (Own.nil _ _) (Below.refl _ _)
    · have IH := ih (n / 256) (s - 1) w (by omega) (by omega) (by omega) (by omega) (by omega)
      clear ih
      go_enter Try.func41, Try.ntmps41
      go_wp2_with fail
      refine IH.mono ?_
      rintro e w1 ⟨a1, m1, c1, rfl, hown, hbel⟩
      have hz : (putL (n / 256).toNat (s - 1).toNat).length + [UInt8.ofNat (n % 256).toNat].length ≤ 1000000000 := by rw [putL_length]; simp; omega
      have hsz : w.heap.size ≤ w1.heap.size := hbel.size
      clear IH
      go_wp2_with (at_builtin; refine wpList_app _ rfl _ _ rfl w.heap.size _ _ rfl (hown.below (below_alloc _ _) (Nat.le_refl _)) _ 1 1 [UInt8.ofNat (n % 256).toNat] rfl (Bs.one _ _ (by omega) (by omega)) hz (by simp; omega) ?_; intro v2 w2 hown2 hbel2)
      go_ret
      exact Gives.mk (put_rec h1 hn0 hown2) ((hbel.alloc hsz _).trans hbel2)

end Go.Proofs.Ytbifikeecmaakaa
