/-
  The contract of the program's Xor: two rows of bytes, one by one exclusive-ored. Condition: rows of at most 1000000 bytes.
-/
import Derived.Test.YtofhnigdfmekdaaStepApp
namespace Go.Proofs.Ytofhnigdfmekdaa
open Go.RowKit

def xorL (l m : List UInt8) : List UInt8 := List.zipWith (· ^^^ ·) l m

theorem xor_bt {l m : List UInt8} {k : Nat} (h1 : k < l.length) (h2 : k < m.length) : bits .xor .u8 (bt l k) (bt m k) = ((l[k] ^^^ m[k]).toNat : Int) := by
  rw [bt_of_lt h1, bt_of_lt h2, u8_xor_nat _ _ (UInt8.toNat_lt _) (UInt8.toNat_lt _), UInt8.toNat_xor]
theorem xor_eq {l m : List UInt8} {k : Nat} (h1 : k < l.length) (h2 : k < m.length) : ∃ x : UInt8, bits .xor .u8 (bt l k) (bt m k) = (x.toNat : Int) ∧ xorL (l.take (k + 1)) (m.take (k + 1)) = xorL (l.take k) (m.take k) ++ [x] := by
  refine ⟨l[k] ^^^ m[k], xor_bt h1 h2, ?_⟩
  unfold xorL
  rw [take_snoc h1, take_snoc h2, List.zipWith_append (by simp; omega)]
  rfl

theorem xor_room {l m : List UInt8} {k q : Nat} (h1 : q ≤ l.length) (h2 : q ≤ m.length) (hk : k ≤ q) : (xorL (l.take k) (m.take k) ++ List.replicate (q - k) 0).length = q := by
  unfold xorL
  simp
  omega
theorem xor_step {l m : List UInt8} {k q : Nat} (h1 : q ≤ l.length) (h2 : q ≤ m.length) (hk : k < q) {x : UInt8} (e : xorL (l.take (k + 1)) (m.take (k + 1)) = xorL (l.take k) (m.take k) ++ [x]) :
    (xorL (l.take k) (m.take k) ++ List.replicate (q - k) 0).set k x = xorL (l.take (k + 1)) (m.take (k + 1)) ++ List.replicate (q - (k + 1)) 0 := by
  have hl : (xorL (l.take k) (m.take k)).length = k := by unfold xorL; simp; omega
  rw [e, List.set_append_right _ _ (by omega), hl]
  obtain ⟨d, rfl⟩ : ∃ d, q = k + 1 + d := ⟨q - (k + 1), by omega⟩
  rw [show k + 1 + d - k = d + 1 from by omega, show k + 1 + d - (k + 1) = d from by omega, List.replicate_succ]
  simp
theorem xor_end {l m : List UInt8} {n n' k : Nat} (h1 : l.length = n) (h2 : m.length = n') (hk : k = min n n') : xorL (l.take k) (m.take k) ++ List.replicate (min n n' - k) 0 = xorL l m := by
  subst hk
  subst h1
  subst h2
  unfold xorL
  rw [Nat.sub_self]
  simp only [List.replicate_zero, List.append_nil]
  rw [← List.take_zipWith, List.take_of_length_le (by simp)]

theorem xor_own {w : World} {base r k q : Nat} {v : Value} {A C : List UInt8} (e : A ++ List.replicate (q - k) 0 = C) (hq : q = r) (h : Own w base v (A ++ List.replicate (r - k) 0)) : Own w base v C := by
  subst hq
  rw [← e]
  exact h
theorem xor_nil {w : World} {base n n' r : Nat} {v : Value} {l m : List UInt8} (H : Hid (l.length = n ∧ m.length = n')) (h : min n n' = 0) (hr : r = 0) (ho : Own w base v (List.replicate r 0)) : Own w base v (xorL l m) := by
  have e : xorL l m = [] := by
    unfold xorL
    apply List.length_eq_zero_iff.1
    rw [List.length_zipWith, H.out.1, H.out.2]
    exact h
  subst hr
  rw [e]
  exact ho

set_option maxHeartbeats 400000 in
theorem oXor (w : World) {a b : Option Addr} {n c n' c' : Nat} {l m : List UInt8} (ha : Bs w a n c l) (hb : Bs w b n' c' m) (hz : n ≤ 1000000) (hz' : n' ≤ 1000000) :
    Calls Try.prog 37 #[.slice a n c, .slice b n' c'] w (Gives w (xorL l m)) := by
  by_cases h0 : n = 0 ∨ n' = 0
  · have H : Hid (l.length = n ∧ m.length = n') := ⟨ha.len, hb.len⟩
    clear ha hb
    by_cases hm : n' < n
    · have hmk : min n n' = 0 := by omega
      go_enter Try.func37, Try.ntmps37
      go_wp2_with (at_make; refine wpList_mkn _ rfl _ _ rfl w.heap.size n' _ rfl rfl rfl (by omega) (Nat.le_refl _) ?_; intro g w1 hg hgl hown hbel)
      refine wp_loop_rounds 1 ?_; rw [rounds_succ]; go_wp2
      go_ret
      have e0 : n' = 0 := by omega
      exact Gives.mk (xor_nil H hmk e0 hown) hbel
    · have hmk : min n n' = 0 := by omega
      go_enter Try.func37, Try.ntmps37
      go_wp2_with (at_make; refine wpList_mkn _ rfl _ _ rfl w.heap.size n _ rfl rfl rfl (by omega) (Nat.le_refl _) ?_; intro g w1 hg hgl hown hbel)
      refine wp_loop_rounds 1 ?_; rw [rounds_succ]; go_wp2
      go_ret
      have e0 : n = 0 := by omega
      exact Gives.mk (xor_nil H hmk e0 hown) hbel
  · obtain ⟨x, o, rfl, hx, hc⟩ := ha.at (by omega)
    obtain ⟨y, q, rfl, hy, hd⟩ := hb.at (by omega)
    have H : Hid (l.length = n ∧ m.length = n') := ⟨ha.len, hb.len⟩
    clear ha hb
    by_cases hm : n' < n
    · have hmk : min n n' = n' := by omega
      go_enter Try.func37, Try.ntmps37
      go_wp2_with (at_make; refine wpList_mkn _ rfl _ _ rfl w.heap.size n' _ rfl rfl rfl (by omega) (Nat.le_refl _) ?_; intro g w1 hg hgl hown hbel)
      go_loopw [15] (fun i wr => ∃ k : Nat, k ≤ n' ∧ i = .int .i64 k ∧ Own wr w.heap.size (.slice (some ⟨g, 0, none⟩) n' n') (xorL (l.take k) (m.take k) ++ List.replicate (n' - k) 0) ∧ Below w.heap.size w wr) (fun i _ => n' - (intOf i).toNat)
      case atStart => exact ⟨0, Nat.zero_le _, rfl, by simpa [xorL] using hown, hbel⟩
      case round =>
        obtain ⟨k, hk, rfl, ho, hb⟩ := hrel
        clear hown hbel
        by_cases hlt : k < n'
        · have c1 : wr.cell? ⟨x, o + k, none⟩ = some (.int .u8 (bt l k)) := by rw [hb.cell (p := ⟨x, o + k, none⟩) hx]; exact hc k (by omega)
          have c2 : wr.cell? ⟨y, q + k, none⟩ = some (.int .u8 (bt m k)) := by rw [hb.cell (p := ⟨y, q + k, none⟩) hy]; exact hd k (by omega)
          have hlen := xor_room (l := l) (m := m) (k := k) (q := n') (by rw [H.out.1]; omega) (by rw [H.out.2]; omega) (by omega)
          obtain ⟨v0, c3⟩ := ho.cell hlen k (by omega)
          have hfr := ho.free hlen k
          obtain ⟨z, hz1, hz2⟩ := xor_eq (l := l) (m := m) (k := k) (by rw [H.out.1]; omega) (by rw [H.out.2]; omega)
          have ho2 := ho.set hlen k z
          have hb2 := hb.setCell (p := ⟨g, k, none⟩) hg (.int .u8 (z.toNat : Int))
          rw [xor_step (by rw [H.out.1]; omega) (by rw [H.out.2]; omega) hlt hz2, ← hz1] at ho2
          rw [← hz1] at hb2
          have HO : Hid (Own (wr.setCell ⟨g, k, none⟩ (.int .u8 (bits .xor .u8 (bt l k) (bt m k)))) w.heap.size (.slice (some ⟨g, 0, none⟩) n' n') (xorL (l.take (k + 1)) (m.take (k + 1)) ++ List.replicate (n' - (k + 1)) 0)) := ho2
          have HB : Hid (Below w.heap.size w (wr.setCell ⟨g, k, none⟩ (.int .u8 (bits .xor .u8 (bt l k) (bt m k))))) := hb2
          have k1 : (k : Int) < n := by omega
          have k2 : (k : Int) < n' := by omega
          clear ho2 hb2 hlen ho hb hc hd hz1 hz2
          go_wp2
          go_region
          all_goals go_wp2
          all_goals go_roundw
          case rel => exact ⟨k + 1, by omega, by go_num, HO.out, HB.out.drew⟩
          case measure => simp [intOf]; omega
        · go_wp2
          go_ret
          exact Gives.mk (xor_own (xor_end H.out.1 H.out.2 (by omega)) hmk ho) hb
    · have hmk : min n n' = n := by omega
      go_enter Try.func37, Try.ntmps37
      go_wp2_with (at_make; refine wpList_mkn _ rfl _ _ rfl w.heap.size n _ rfl rfl rfl (by omega) (Nat.le_refl _) ?_; intro g w1 hg hgl hown hbel)
      go_loopw [15] (fun i wr => ∃ k : Nat, k ≤ n ∧ i = .int .i64 k ∧ Own wr w.heap.size (.slice (some ⟨g, 0, none⟩) n n) (xorL (l.take k) (m.take k) ++ List.replicate (n - k) 0) ∧ Below w.heap.size w wr) (fun i _ => n - (intOf i).toNat)
      case atStart => exact ⟨0, Nat.zero_le _, rfl, by simpa [xorL] using hown, hbel⟩
      case round =>
        obtain ⟨k, hk, rfl, ho, hb⟩ := hrel
        clear hown hbel
        by_cases hlt : k < n
        · have c1 : wr.cell? ⟨x, o + k, none⟩ = some (.int .u8 (bt l k)) := by rw [hb.cell (p := ⟨x, o + k, none⟩) hx]; exact hc k (by omega)
          have c2 : wr.cell? ⟨y, q + k, none⟩ = some (.int .u8 (bt m k)) := by rw [hb.cell (p := ⟨y, q + k, none⟩) hy]; exact hd k (by omega)
          have hlen := xor_room (l := l) (m := m) (k := k) (q := n) (by rw [H.out.1]; omega) (by rw [H.out.2]; omega) (by omega)
          obtain ⟨v0, c3⟩ := ho.cell hlen k (by omega)
          have hfr := ho.free hlen k
          obtain ⟨z, hz1, hz2⟩ := xor_eq (l := l) (m := m) (k := k) (by rw [H.out.1]; omega) (by rw [H.out.2]; omega)
          have ho2 := ho.set hlen k z
          have hb2 := hb.setCell (p := ⟨g, k, none⟩) hg (.int .u8 (z.toNat : Int))
          rw [xor_step (by rw [H.out.1]; omega) (by rw [H.out.2]; omega) hlt hz2, ← hz1] at ho2
          rw [← hz1] at hb2
          have HO : Hid (Own (wr.setCell ⟨g, k, none⟩ (.int .u8 (bits .xor .u8 (bt l k) (bt m k)))) w.heap.size (.slice (some ⟨g, 0, none⟩) n n) (xorL (l.take (k + 1)) (m.take (k + 1)) ++ List.replicate (n - (k + 1)) 0)) := ho2
          have HB : Hid (Below w.heap.size w (wr.setCell ⟨g, k, none⟩ (.int .u8 (bits .xor .u8 (bt l k) (bt m k))))) := hb2
          have k1 : (k : Int) < n := by omega
          have k2 : (k : Int) < n' := by omega
          clear ho2 hb2 hlen ho hb hc hd hz1 hz2
          go_wp2
          go_region
          all_goals go_wp2
          all_goals go_roundw
          case rel => exact ⟨k + 1, by omega, by go_num, HO.out, HB.out.drew⟩
          case measure => simp [intOf]; omega
        · go_wp2
          go_ret
          exact Gives.mk (xor_own (xor_end H.out.1 H.out.2 (by omega)) hmk ho) hb


end Go.Proofs.Ytofhnigdfmekdaa
