/-
  The contracts of the reference's Boxes, both and roundKey. Conditions: rows of like lengths; words of four bytes.
-/
import Derived.Test.YtofhnigdfmekdaaAesRefBox
import Derived.Test.YtofhnigdfmekdaaAesSeal
import Derived.Test.YtofhnigdfmekdaaAesKeyL
import Derived.Test.YtofhnigdfmekdaaAesKey32
namespace Go.Proofs.Ytofhnigdfmekdaa
open Go.RowKit

theorem Own.drN {w : World} {base : Nat} {v : Value} {l : List UInt8} (h : Own w base v l) (d : Nat) : Own (w.drewN d) base v l := h
theorem boxT_step {k : Nat} (h : k < 256) : boxT.take (k + 1) = boxT.take k ++ [box (UInt8.ofNat k)] := by
  rw [take_snoc (by rw [boxT_length]; exact h)]
  simp [boxT]
theorem take_room {L : List UInt8} {n : Nat} (hL : L.length ≤ n) (hn : n ≤ 1000000) (k : Nat) (x : UInt8) : (L.take k).length + [x].length ≤ 1000000000 := by
  have : (L.take k).length ≤ L.length := List.length_take_le' _ _
  simp only [List.length_singleton]
  omega

set_option maxRecDepth 100000 in
set_option maxHeartbeats 1000000 in
theorem rBoxes (w : World) : Calls Try.prog 14 #[] w (Gives w boxT) := by
  go_enter Try.func14, Try.ntmps14
  go_wp2_with fail
  go_loopw [1, 2] (fun v i wr => ∃ k : Nat, k ≤ 256 ∧ i = .int .i64 k ∧ Own wr w.heap.size v (boxT.take k) ∧ Below w.heap.size w wr) (fun _ i _ => 256 - (intOf i).toNat)
  case atStart => exact ⟨0, by omega, rfl, Own.nil _ _, Below.refl _ _⟩
  case round =>
    obtain ⟨k, hk, rfl, ho, hb⟩ := hrel
    by_cases hlt : k < 256
    · have h0 : (0 : Int) ≤ (k : Int) := by omega
      have h8 : (k : Int) < 256 := by omega
      have h9 : (k : Int) % 256 = (k : Int) := by omega
      have hw8 : IntKind.u8.wrap (k : Int) = (k : Int) := by rw [IntKind.wrap_u8]; omega
      have HS := boxT_step hlt
      have hr := take_room (L := boxT) (n := 256) (by rw [boxT_length]; omega) (by omega) k (UInt8.ofNat ((box (UInt8.ofNat k)).toNat : Int).toNat)
      have CB : Hid (Calls Try.prog 9 #[.int .u8 (k : Int)] wr fun e w' => e = .returned (.int .u8 ((box (UInt8.ofNat k)).toNat : Int)) ∧ ∃ d, w' = wr.drewN d) := by
        have := rBox wr (UInt8.ofNat k)
        rw [nat_byte hlt] at this
        exact this
      generalize box (UInt8.ofNat k) = y at *
      have HS' : Hid (_ = _) := HS
      have q0 : (0 : Int) ≤ (y.toNat : Int) := by omega
      have q1 := u8_hi y
      have E1 : Hid (UInt8.ofNat (y.toNat : Int).toNat = y) := one_u8 y
      have hs := hb.size
      clear HS
      go_wp2_with fail
      refine CB.out.mono ?_
      rintro e w1 ⟨rfl, d, hw1⟩
      have hb1 : Below w.heap.size w w1 := by rw [hw1]; exact below_drN hb d
      have ho1 := ho.drN d
      rw [← hw1] at ho1
      have hs1 := hb1.size
      clear hw1 hb ho hs
      go_wp2_with (at_builtin; refine wpList_app _ rfl (.tmp 7) (.tmp 11) rfl w.heap.size _ _ rfl (ho1.below (below_alloc _ _) (Nat.le_refl _)) _ 1 1 [UInt8.ofNat (y.toNat : Int).toNat] rfl (Bs.one _ _ q0 q1) hr (by simp; omega) ?_; intro v2 w2 ho2 hb2)
      go_roundw
      case rel => exact ⟨k + 1, by omega, by go_num, by rw [HS'.out, ← E1.out]; exact ho2, (hb1.alloc hs1 _).trans hb2⟩
      case measure => simp [intOf]; omega
    · rw [List.take_of_length_le (by rw [boxT_length]; omega)] at ho
      go_wp2
      go_ret
      exact Gives.mk ho hb

set_option maxHeartbeats 1000000 in
theorem rBoth (w : World) {a b : Option Addr} {n c c' : Nat} {l m : List UInt8} (ha : Bs w a n c l) (hb : Bs w b n c' m) (hn : 0 < n) (hz : n ≤ 1000) :
    Calls Try.prog 28 #[.slice a n c, .slice b n c'] w (Gives w (xorL l m)) := by
  obtain ⟨x, o, rfl, hx, hc⟩ := ha.at hn
  obtain ⟨y, q, rfl, hy, hd⟩ := hb.at hn
  have H : Hid (l.length = n ∧ m.length = n) := ⟨ha.len, hb.len⟩
  clear ha hb
  go_enter Try.func28, Try.ntmps28
  go_wp2_with fail
  go_loopw [5, 6] (fun v i wr => ∃ k : Nat, k ≤ n ∧ i = .int .i64 k ∧ Own wr w.heap.size v (xorL (l.take k) (m.take k)) ∧ Below w.heap.size w wr) (fun _ i _ => n - (intOf i).toNat)
  case atStart => exact ⟨0, Nat.zero_le _, rfl, Own.nil _ _, Below.refl _ _⟩
  case round =>
    obtain ⟨k, hk, rfl, ho, hb⟩ := hrel
    by_cases hlt : k < n
    · have c1 : wr.cell? ⟨x, o + k, none⟩ = some (.int .u8 (bt l k)) := by rw [hb.cell (p := ⟨x, o + k, none⟩) hx]; exact hc k hlt
      have c2 : wr.cell? ⟨y, q + k, none⟩ = some (.int .u8 (bt m k)) := by rw [hb.cell (p := ⟨y, q + k, none⟩) hy]; exact hd k hlt
      obtain ⟨z, hz1, hz2⟩ := xor_eq (l := l) (m := m) (k := k) (by rw [H.out.1]; omega) (by rw [H.out.2]; omega)
      have hzlt := UInt8.toNat_lt z
      have b1 : 0 ≤ bits .xor .u8 (bt l k) (bt m k) := by rw [hz1]; omega
      have b2 : bits .xor .u8 (bt l k) (bt m k) ≤ 255 := by rw [hz1]; omega
      have hZ : Hid (UInt8.ofNat (bits .xor .u8 (bt l k) (bt m k)).toNat = z) := by
        show _ = _
        rw [hz1]
        simp
      have HZ : Hid (xorL (l.take (k + 1)) (m.take (k + 1)) = xorL (l.take k) (m.take k) ++ [z]) := hz2
      have hr : (xorL (l.take k) (m.take k)).length + [UInt8.ofNat (bits .xor .u8 (bt l k) (bt m k)).toNat].length ≤ 1000000000 := by
        unfold xorL
        simp
        omega
      have hs : w.heap.size ≤ wr.heap.size := hb.size
      have k0 : (0 : Int) ≤ (k : Int) := by omega
      have k1 : (k : Int) < n := by omega
      clear hz1 hz2 hzlt
      go_wp2_with fail
      go_region_held3 (fun w' => w'.cell? ⟨x, o + k, none⟩ = some (.int .u8 (bt l k)) ∧ w'.cell? ⟨y, q + k, none⟩ = some (.int .u8 (bt m k))) (first | assumption | (constructor <;> assumption) | go_keep) ((refine step_app (by rfl) (.tmp 13) (.tmp 23) (by rfl) w.heap.size _ _ (by rfl) (ho.below (below_alloc _ _).drew (Nat.le_refl _)) _ 1 1 [UInt8.ofNat (bits .xor .u8 (bt l k) (bt m k)).toNat] (by rfl) (Bs.one _ _ b1 b2).drew hr (by simp; omega) ?_; intro v2 w2 ho2 hb2; have q2 := (hb.trans ((below_alloc _ _).drew.mono hs)).trans hb2; have c1' : w2.cell? ⟨x, o + k, none⟩ = some (.int .u8 (bt l k)) := (q2.cell (p := ⟨x, o + k, none⟩) hx).trans (hc k hlt); have c2' : w2.cell? ⟨y, q + k, none⟩ = some (.int .u8 (bt m k)) := (q2.cell (p := ⟨y, q + k, none⟩) hy).trans (hd k hlt)))
      go_wp2
      go_roundw
      case rel => exact ⟨k + 1, by omega, by go_num, by rw [HZ.out, ← hZ.out]; exact ho2, q2⟩
      case measure => simp [intOf]; omega
    · have e : xorL (l.take k) (m.take k) = xorL l m := by rw [List.take_of_length_le (by rw [H.out.1]; omega), List.take_of_length_le (by rw [H.out.2]; omega)]
      rw [e] at ho
      go_wp2
      go_ret
      exact Gives.mk ho hb

end Go.Proofs.Ytofhnigdfmekdaa
