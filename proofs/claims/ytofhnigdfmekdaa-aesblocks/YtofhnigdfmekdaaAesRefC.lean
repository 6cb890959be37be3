/-
  The contract of the reference's mixed. Condition: a block of 16 bytes.
-/
import Derived.Test.YtofhnigdfmekdaaAesRefB
namespace Go.Proofs.Ytofhnigdfmekdaa
open Go.RowKit

/-- Multiplied, by a number as the program has it. -/
def tmsI (x : UInt8) (z : Int) : UInt8 := tms x (UInt8.ofNat z.toNat)
theorem rTimesI (w : World) (x : UInt8) (z : Int) (h : 0 ≤ z ∧ z ≤ 255) :
    Calls Try.prog 32 #[.int .u8 (x.toNat : Int), .int .u8 z] w fun e w' => e = .returned (.int .u8 ((tmsI x z).toNat : Int)) ∧ w' = w := by
  have := rTimes w x (UInt8.ofNat z.toNat)
  rw [ofNat_toNat_int z h.1 h.2] at this
  exact this.mono fun _ _ ⟨h1, h2⟩ => ⟨h1, h2.symm⟩
theorem times2 (x : UInt8) : tmsI x 2 = dbl x := by
  have h : ∀ n : Fin 256, tmsI (UInt8.ofNat n.val) 2 = dbl (UInt8.ofNat n.val) := by decide +kernel
  have := h ⟨x.toNat, UInt8.toNat_lt x⟩
  simpa using this
theorem times3 (x : UInt8) : tmsI x 3 = x ^^^ dbl x := by
  have h : ∀ n : Fin 256, tmsI (UInt8.ofNat n.val) 3 = UInt8.ofNat n.val ^^^ dbl (UInt8.ofNat n.val) := by decide +kernel
  have := h ⟨x.toNat, UInt8.toNat_lt x⟩
  simpa using this
theorem mix_ref (p q r s : UInt8) : tmsI p 2 ^^^ tmsI q 3 ^^^ r ^^^ s = dbl (p ^^^ q) ^^^ q ^^^ r ^^^ s := by
  rw [times2, times3, dbl_add, UInt8.xor_assoc (dbl p) (dbl q) q, UInt8.xor_comm (dbl q) q]

theorem mod4 (j d : Nat) : ((j : Int) + (d : Int)).tmod 4 = (((j + d) % 4 : Nat) : Int) := by
  rw [Int.tmod_eq_emod_of_nonneg (by omega)]
  omega
theorem mix_idx (b : List UInt8) {k j : Nat} (hk : k < 4) (hj : j < 4) : ∃ t m1 m2 m3 n0 n1 n2 n3 : Nat, 4 * (k : Int) = (t : Int) ∧
    ((j : Int) + 1).tmod 4 = (m1 : Int) ∧ ((j : Int) + 2).tmod 4 = (m2 : Int) ∧ ((j : Int) + 3).tmod 4 = (m3 : Int) ∧ ((j : Int) + 1) % 4 = (m1 : Int) ∧ ((j : Int) + 2) % 4 = (m2 : Int) ∧ ((j : Int) + 3) % 4 = (m3 : Int) ∧
    IntKind.i64.wrap ((t : Int) + (j : Int)) = (n0 : Int) ∧ IntKind.i64.wrap ((t : Int) + (m1 : Int)) = (n1 : Int) ∧ IntKind.i64.wrap ((t : Int) + (m2 : Int)) = (n2 : Int) ∧ IntKind.i64.wrap ((t : Int) + (m3 : Int)) = (n3 : Int) ∧
    IntKind.i64.wrap ((j : Int) + 1) = (j : Int) + 1 ∧ IntKind.i64.wrap ((j : Int) + 2) = (j : Int) + 2 ∧ IntKind.i64.wrap ((j : Int) + 3) = (j : Int) + 3 ∧
    (0 : Int) ≤ (n0 : Int) ∧ (0 : Int) ≤ (n1 : Int) ∧ (0 : Int) ≤ (n2 : Int) ∧ (0 : Int) ≤ (n3 : Int) ∧ (n0 : Int) < 16 ∧ (n1 : Int) < 16 ∧ (n2 : Int) < 16 ∧ (n3 : Int) < 16 ∧
    mixAt b (4 * k + j) = tmsI (b.getD n0 0) 2 ^^^ tmsI (b.getD n1 0) 3 ^^^ b.getD n2 0 ^^^ b.getD n3 0 := by
  refine ⟨4 * k, (j + 1) % 4, (j + 2) % 4, (j + 3) % 4, 4 * k + j, 4 * k + (j + 1) % 4, 4 * k + (j + 2) % 4, 4 * k + (j + 3) % 4, by omega, mod4 j 1, mod4 j 2, mod4 j 3, by omega, by omega, by omega, ?_, ?_, ?_, ?_, ?_, ?_, ?_, by omega, by omega, by omega, by omega, by omega, by omega, by omega, by omega, ?_⟩
  · rw [IntKind.wrap_i64]; omega
  · rw [IntKind.wrap_i64]; omega
  · rw [IntKind.wrap_i64]; omega
  · rw [IntKind.wrap_i64]; omega
  · rw [IntKind.wrap_i64]; omega
  · rw [IntKind.wrap_i64]; omega
  · rw [IntKind.wrap_i64]; omega
  · rw [mix_ref]
    unfold mixAt
    rw [show (4 * k + j) / 4 * 4 + (4 * k + j) % 4 = 4 * k + j from by omega, show (4 * k + j) / 4 * 4 + (4 * k + j + 1) % 4 = 4 * k + (j + 1) % 4 from by omega, show (4 * k + j) / 4 * 4 + (4 * k + j + 2) % 4 = 4 * k + (j + 2) % 4 from by omega, show (4 * k + j) / 4 * 4 + (4 * k + j + 3) % 4 = 4 * k + (j + 3) % 4 from by omega]

set_option maxRecDepth 100000 in
set_option maxHeartbeats 2000000 in
theorem rMixed (w : World) {a' : Option Addr} {c' : Nat} {b : List UInt8} (hb : Bs w a' 16 c' b) :
    Calls Try.prog 30 #[.slice a' 16 c'] w (Gives w (mixL b)) := by
  obtain ⟨y, q, rfl, hy, hd⟩ := hb.at (by omega)
  clear hb
  go_enter Try.func30, Try.ntmps30
  go_wp2_with fail
  go_loopw [3, 4, 5, 6, 7] (fun v i _ _ _ wr => ∃ k : Nat, k ≤ 4 ∧ i = .int .i64 k ∧ Own wr w.heap.size v ((mixL b).take (4 * k)) ∧ Below w.heap.size w wr) (fun _ i _ _ _ _ => 4 - (intOf i).toNat)
  case atStart => exact ⟨0, by omega, rfl, Own.nil _ _, Below.refl _ _⟩
  case round =>
    obtain ⟨k, hk, rfl, ho, hbl⟩ := hrel
    rename World => wo
    by_cases hlt : k < 4
    · have k0 : (0 : Int) ≤ (k : Int) := by omega
      have k4 : (k : Int) < 4 := by omega
      go_wp2_with fail
      go_loopw [3, 5, 6, 7] (fun v i _ _ wr => ∃ j : Nat, j ≤ 4 ∧ i = .int .i64 j ∧ Own wr w.heap.size v ((mixL b).take (4 * k + j)) ∧ Below w.heap.size w wr) (fun _ i _ _ _ => 4 - (intOf i).toNat)
      case atStart => exact ⟨0, by omega, rfl, ho, hbl⟩
      case round =>
        clear ho hbl
        obtain ⟨j, hj, rfl, ho, hbl⟩ := hrel
        by_cases hjl : j < 4
        · have j0 : (0 : Int) ≤ (j : Int) := by omega
          have j4 : (j : Int) < 4 := by omega
          obtain ⟨t, m1, m2, m3, n0, n1, n2, n3, t0, r1, r2, r3, e1, e2, e3, u0, u1, u2, u3, v1, v2, v3, x0, x1, x2, x3, y0, y1, y2, y3, HM⟩ := mix_idx b hlt hjl
          have HS := map16_step (mixAt b) (k := 4 * k + j) (by omega)
          rw [HM] at HS
          clear HM
          have cell : ∀ n, n < 16 → wr.cell? ⟨y, q + n, none⟩ = some (.int .u8 ((b.getD n 0).toNat : Int)) := fun n hn => by rw [hbl.cell (p := ⟨y, q + n, none⟩) hy]; exact hd n hn
          have c0 := cell n0 (Int.ofNat_lt.1 y0)
          have c1 := cell n1 (Int.ofNat_lt.1 y1)
          have c2 := cell n2 (Int.ofNat_lt.1 y2)
          have c3 := cell n3 (Int.ofNat_lt.1 y3)
          clear cell
          generalize b.getD n0 0 = p0 at c0 HS
          generalize b.getD n1 0 = p1 at c1 HS
          generalize b.getD n2 0 = p2 at c2 HS
          generalize b.getD n3 0 = p3 at c3 HS
          have z1 := xor_u8 (tmsI p0 2) (tmsI p1 3)
          generalize tmsI p0 2 ^^^ tmsI p1 3 = g1 at z1 HS
          have z2 := xor_u8 g1 p2
          generalize g1 ^^^ p2 = g2 at z2 HS
          have z3 := xor_u8 g2 p3
          generalize g2 ^^^ p3 = g3 at z3 HS
          have HS' : Hid (_ = _) := HS
          have q0 : (0 : Int) ≤ (g3.toNat : Int) := by omega
          have q1 := u8_hi g3
          have E1 : Hid (UInt8.ofNat (g3.toNat : Int).toNat = g3) := one_u8 g3
          have hrm : ((mixL b).take (4 * k + j)).length + [UInt8.ofNat (g3.toNat : Int).toNat].length ≤ 1000000000 := map16_room _ _ _
          clear HS
          go_wp2_with fail
          go_quiet ((go_at_call 32; exact Calls.quiet_of_same (rTimesI _ _ _ (by decide))))
          generalize hw1 : wr.drewN _ = w1
          have hb1 : Below w.heap.size w w1 := by rw [← hw1]; exact below_drN hbl _
          have ho1 := ho.drN nq
          rw [hw1] at ho1
          have hs1 := hb1.size
          clear hw1 ho hbl c0 c1 c2 c3
          go_wp2_with (at_builtin; refine wpList_app _ rfl (.tmp 53) (.tmp 55) rfl w.heap.size _ _ rfl (ho1.below (below_alloc _ _) (Nat.le_refl _)) _ 1 1 [UInt8.ofNat (g3.toNat : Int).toNat] rfl (Bs.one _ _ q0 q1) hrm (by simp; omega) ?_; intro v2' w2 ho2 hb2)
          go_roundw
          case rel => exact ⟨j + 1, by omega, by go_num, by rw [← Nat.add_assoc, mixL, HS'.out, ← E1.out]; exact ho2, (hb1.alloc hs1 _).trans hb2⟩
          case measure => simp [intOf]; omega
        · obtain rfl : j = 4 := by omega
          go_wp2_with fail
          go_roundw
          case rel => exact ⟨k + 1, by omega, by go_num, by rw [show 4 * (k + 1) = 4 * k + 4 from by omega]; exact ho, hbl⟩
          case measure => simp [intOf]; omega
    · obtain rfl : k = 4 := by omega
      rw [List.take_of_length_le (by rw [mixL_length]; omega)] at ho
      go_wp2
      go_ret
      exact Gives.mk ho hbl

end Go.Proofs.Ytofhnigdfmekdaa
