/-
  The contracts of the reference's Times, inverse and Box. No condition.
-/
import Derived.Test.YtofhnigdfmekdaaAesDbl
namespace Go.Proofs.Ytofhnigdfmekdaa
open Go.RowKit

theorem dbl_hi' {c : UInt8} (h : (128 : Int) ≤ (c.toNat : Int)) : bits .xor .u8 ((c.toNat : Int) * 2 % 256) 27 = ((dbl c).toNat : Int) := dbl_hi (by have := b_lt c; omega)
theorem dbl_lo' {c : UInt8} (h : ¬ (128 : Int) ≤ (c.toNat : Int)) : (c.toNat : Int) * 2 = ((dbl c).toNat : Int) := by
  rw [← dbl_lo (by have := b_lt c; omega)]
  omega
theorem bit_and (y : UInt8) : bits .and .u8 (y.toNat : Int) 1 = ((y &&& 1).toNat : Int) := b_and y 1
theorem one_not {z : UInt8} (h : ¬ z = 1) : ((z.toNat : Int) == 1) = false := by
  simp
  intro e
  exact h (UInt8.toNat_inj.1 (by have : (1 : UInt8).toNat = 1 := rfl; omega))

set_option maxHeartbeats 1000000 in
theorem rTimes (w : World) (a b : UInt8) :
    Calls Try.prog 32 #[.int .u8 (a.toNat : Int), .int .u8 (b.toNat : Int)] w fun e w' => e = .returned (.int .u8 ((tms a b).toNat : Int)) ∧ w = w' := by
  go_enter Try.func32, Try.ntmps32
  go_wp2_with fail
  go_loop [5, 6, 7, 8] (fun o x i _ => ∃ k : Nat, k ≤ 8 ∧ i = .int .i64 k ∧ o = .int .u8 ((tmsA a b k).toNat : Int) ∧ x = .int .u8 ((tmsA.dblN a k).toNat : Int)) (fun _ _ i _ => 8 - (intOf i).toNat)
  case atStart => exact ⟨0, by omega, rfl, rfl, rfl⟩
  case round =>
    obtain ⟨k, hk, rfl, rfl, rfl⟩ := hrel
    by_cases hlt : k < 8
    · have h0 : (0 : Int) ≤ (k : Int) := by omega
      have h8 : (k : Int) < 8 := by omega
      have hs := b_shr b k (by omega)
      have HT : Hid (tmsA a b (k + 1) = if (b >>> UInt8.ofNat k) &&& 1 = 1 then tmsA a b k ^^^ (tmsA.dblN a k) else tmsA a b k) := rfl
      have HD : Hid (tmsA.dblN a (k + 1) = dbl (tmsA.dblN a k)) := rfl
      have ha := bit_and (b >>> UInt8.ofNat k)
      generalize hy : b >>> UInt8.ofNat k = y at *
      generalize hz : y &&& 1 = z at *
      generalize ho : tmsA a b k = o at *
      generalize hx : tmsA.dblN a k = x at *
      clear hy hz ho hx
      by_cases hz : z = 1
      · subst hz
        rw [if_pos rfl] at HT
        have ha' : bits .and .u8 (y.toNat : Int) 1 = 1 := ha
        clear ha
        have HX : Hid (bits .xor .u8 (o.toNat : Int) (x.toNat : Int) = ((o ^^^ x).toNat : Int)) := xor_u8 o x
        by_cases ht : (128 : Int) ≤ (x.toNat : Int)
        · have HH : Hid (_ = _) := dbl_hi' ht
          go_wp2
          go_round
          case rel => exact ⟨k + 1, by omega, by go_num, by rw [HT.out, HX.out], by rw [HD.out, HH.out]⟩
          case measure => simp [intOf]; omega
        · have HH : Hid (_ = _) := dbl_lo' ht
          go_wp2
          go_round
          case rel => exact ⟨k + 1, by omega, by go_num, by rw [HT.out, HX.out], by rw [HD.out, HH.out]⟩
          case measure => simp [intOf]; omega
      · rw [if_neg hz] at HT
        have hz' := one_not hz
        clear hz
        by_cases ht : (128 : Int) ≤ (x.toNat : Int)
        · have HH : Hid (_ = _) := dbl_hi' ht
          go_wp2
          go_round
          case rel => exact ⟨k + 1, by omega, by go_num, by rw [HT.out], by rw [HD.out, HH.out]⟩
          case measure => simp [intOf]; omega
        · have HH : Hid (_ = _) := dbl_lo' ht
          go_wp2
          go_round
          case rel => exact ⟨k + 1, by omega, by go_num, by rw [HT.out], by rw [HD.out, HH.out]⟩
          case measure => simp [intOf]; omega
    · obtain rfl : k = 8 := by omega
      go_wp2
      go_ret
      exact ⟨rfl, rfl⟩

theorem srch_step (c : UInt8) {k : Nat} (h : k < 256) : srch c (256 - k) k = if tms c (UInt8.ofNat k) = 1 then UInt8.ofNat k else srch c (256 - (k + 1)) (k + 1) := by
  rw [show 256 - k = (256 - (k + 1)) + 1 from by omega]
  rfl
theorem nat_byte {k : Nat} (h : k < 256) : ((UInt8.ofNat k).toNat : Int) = (k : Int) := by rw [UInt8.toNat_ofNat', Nat.mod_eq_of_lt h]

set_option maxHeartbeats 1000000 in
theorem rInverse (w : World) (c : UInt8) :
    Calls Try.prog 21 #[.int .u8 (c.toNat : Int)] w fun e w' => e = .returned (.int .u8 ((inv c).toNat : Int)) ∧ w = w' := by
  go_enter Try.func21, Try.ntmps21
  go_wp2_with fail
  go_loop [3] (fun i => ∃ k : Nat, 1 ≤ k ∧ k ≤ 256 ∧ i = .int .i64 k ∧ Hid (srch c (256 - k) k = inv c)) (fun i => 256 - (intOf i).toNat)
  case atStart => exact ⟨1, by omega, by omega, rfl, rfl⟩
  case round =>
    obtain ⟨k, h1, hk, rfl, HS⟩ := hrel
    by_cases hlt : k < 256
    · have h0 : (0 : Int) ≤ (k : Int) := by omega
      have h8 : (k : Int) < 256 := by omega
      have h9 : (k : Int) % 256 = (k : Int) := by omega
      have hw8 : IntKind.u8.wrap (k : Int) = (k : Int) := by rw [IntKind.wrap_u8]; omega
      have HN := srch_step c hlt
      have HB : Hid (((UInt8.ofNat k).toNat : Int) = (k : Int)) := nat_byte hlt
      have CT : Hid (Calls Try.prog 32 #[.int .u8 (c.toNat : Int), .int .u8 (k : Int)] w fun e w' => e = .returned (.int .u8 ((tms c (UInt8.ofNat k)).toNat : Int)) ∧ w = w') := by
        have := rTimes w c (UInt8.ofNat k)
        rw [HB.out] at this
        exact this
      generalize tms c (UInt8.ofNat k) = t at HN CT
      by_cases ht : t = 1
      · subst ht
        rw [if_pos rfl] at HN
        have HI : Hid ((k : Int) = ((inv c).toNat : Int)) := by show _ = _; rw [← HS.out, HN, HB.out]
        clear HN
        go_wp2_with (go_at_call 32; refine CT.out.mono ?_; rintro e w1 ⟨rfl, rfl⟩)
        go_ret
        exact ⟨ret_int HI.out, rfl⟩
      · rw [if_neg ht] at HN
        have hz' := one_not ht
        have HI : Hid (srch c (256 - (k + 1)) (k + 1) = inv c) := by show _ = _; rw [← HN]; exact HS.out
        clear HN ht
        go_wp2_with (go_at_call 32; refine CT.out.mono ?_; rintro e w1 ⟨rfl, rfl⟩)
        go_round
        case rel => exact ⟨k + 1, by omega, by omega, by go_num, HI⟩
        case measure => simp [intOf]; omega
    · obtain rfl : k = 256 := by omega
      have HI : Hid ((0 : Int) = ((inv c).toNat : Int)) := by show _ = _; rw [← HS.out]; rfl
      go_wp2
      go_ret
      exact ⟨ret_int HI.out, rfl⟩

theorem turn8 (k d : Nat) : ((k : Int) + (d : Int)).tmod 8 = (((k + d) % 8 : Nat) : Int) := by
  rw [Int.tmod_eq_emod_of_nonneg (by omega)]
  omega

set_option maxHeartbeats 2000000 in
theorem rBox (w : World) (c : UInt8) :
    Calls Try.prog 9 #[.int .u8 (c.toNat : Int)] w fun e w' => e = .returned (.int .u8 ((box c).toNat : Int)) ∧ ∃ d, w' = w.drewN d := by
  have HX : Hid (box c = bxs (inv c) 8) := rfl
  have CI : Hid (Calls Try.prog 21 #[.int .u8 (c.toNat : Int)] w fun e w' => e = .returned (.int .u8 ((inv c).toNat : Int)) ∧ w = w') := rInverse w c
  generalize inv c = x at *
  go_enter Try.func9, Try.ntmps9
  go_wp2_with (go_at_call 21; refine CI.out.mono ?_; rintro e w1 ⟨rfl, rfl⟩)
  go_loopw [4, 5, 6] (fun o i _ wr => ∃ k : Nat, k ≤ 8 ∧ i = .int .i64 k ∧ o = .int .u8 ((bxs x k).toNat : Int) ∧ ∃ d, wr = w.drewN d) (fun _ i _ _ => 8 - (intOf i).toNat)
  case atStart => exact ⟨0, by omega, rfl, rfl, 0, rfl⟩
  case round =>
    obtain ⟨k, hk, rfl, rfl, d, rfl⟩ := hrel
    by_cases hlt : k < 8
    · have h0 : (0 : Int) ≤ (k : Int) := by omega
      have h8 : (k : Int) < 8 := by omega
      have HB : Hid (bxs x (k + 1) = bxs x k ||| ((bxbit x k &&& 1) <<< UInt8.ofNat k)) := rfl
      have HBB : Hid (bxbit x k = x >>> UInt8.ofNat k ^^^ x >>> UInt8.ofNat ((k + 4) % 8) ^^^ x >>> UInt8.ofNat ((k + 5) % 8) ^^^ x >>> UInt8.ofNat ((k + 6) % 8) ^^^ x >>> UInt8.ofNat ((k + 7) % 8) ^^^ 99 >>> UInt8.ofNat k) := rfl
      have t4 : ((k : Int) + 4).tmod 8 = (((k + 4) % 8 : Nat) : Int) := turn8 k 4
      have t5 : ((k : Int) + 5).tmod 8 = (((k + 5) % 8 : Nat) : Int) := turn8 k 5
      have t6 : ((k : Int) + 6).tmod 8 = (((k + 6) % 8 : Nat) : Int) := turn8 k 6
      have t7 : ((k : Int) + 7).tmod 8 = (((k + 7) % 8 : Nat) : Int) := turn8 k 7
      have e4 : ((k : Int) + 4) % 8 = (((k + 4) % 8 : Nat) : Int) := by omega
      have e5 : ((k : Int) + 5) % 8 = (((k + 5) % 8 : Nat) : Int) := by omega
      have e6 : ((k : Int) + 6) % 8 = (((k + 6) % 8 : Nat) : Int) := by omega
      have e7 : ((k : Int) + 7) % 8 = (((k + 7) % 8 : Nat) : Int) := by omega
      have j4l : (k + 4) % 8 < 8 := by omega
      have j5l : (k + 5) % 8 < 8 := by omega
      have j6l : (k + 6) % 8 < 8 := by omega
      have j7l : (k + 7) % 8 < 8 := by omega
      generalize (k + 4) % 8 = j4 at *
      generalize (k + 5) % 8 = j5 at *
      generalize (k + 6) % 8 = j6 at *
      generalize (k + 7) % 8 = j7 at *
      have s0 := b_shr x k hlt
      have s4 := b_shr x j4 j4l
      have s5 := b_shr x j5 j5l
      have s6 := b_shr x j6 j6l
      have s7 := b_shr x j7 j7l
      have s9 : (99 : Int) / (2 : Int) ^ k = ((99 >>> UInt8.ofNat k : UInt8).toNat : Int) := b_shr 99 k hlt
      have n4 : (0 : Int) ≤ (j4 : Int) := by omega
      have n5 : (0 : Int) ≤ (j5 : Int) := by omega
      have n6 : (0 : Int) ≤ (j6 : Int) := by omega
      have n7 : (0 : Int) ≤ (j7 : Int) := by omega
      have m4 : IntKind.i64.wrap ((k : Int) + 4) = (k : Int) + 4 := by rw [IntKind.wrap_i64]; omega
      have m5 : IntKind.i64.wrap ((k : Int) + 5) = (k : Int) + 5 := by rw [IntKind.wrap_i64]; omega
      have m6 : IntKind.i64.wrap ((k : Int) + 6) = (k : Int) + 6 := by rw [IntKind.wrap_i64]; omega
      have m7 : IntKind.i64.wrap ((k : Int) + 7) = (k : Int) + 7 := by rw [IntKind.wrap_i64]; omega
      generalize x >>> UInt8.ofNat k = y0 at *
      generalize x >>> UInt8.ofNat j4 = y4 at *
      generalize x >>> UInt8.ofNat j5 = y5 at *
      generalize x >>> UInt8.ofNat j6 = y6 at *
      generalize x >>> UInt8.ofNat j7 = y7 at *
      generalize (99 >>> UInt8.ofNat k : UInt8) = y9 at *
      have x1 := xor_u8 y0 y4
      generalize y0 ^^^ y4 = z1 at *
      have x2 := xor_u8 z1 y5
      generalize z1 ^^^ y5 = z2 at *
      have x3 := xor_u8 z2 y6
      generalize z2 ^^^ y6 = z3 at *
      have x4 := xor_u8 z3 y7
      generalize z3 ^^^ y7 = z4 at *
      have x5 := xor_u8 z4 y9
      generalize z4 ^^^ y9 = z5 at *
      rw [HBB.out] at HB
      have a1 := bit_and z5
      generalize z5 &&& 1 = v at *
      have l1 := b_shl v k hlt
      generalize v <<< UInt8.ofNat k = v2 at *
      generalize bxs x k = o at *
      have o1 := b_or o v2
      generalize o ||| v2 = o2 at *
      clear HBB
      go_wp2_with fail
      go_quiet (fail)
      go_wp2_with fail
      go_roundw
      case rel => exact ⟨k + 1, by omega, by go_num, by rw [HB.out], _, rfl⟩
      case measure => simp [intOf]; omega
    · obtain rfl : k = 8 := by omega
      go_wp2
      go_ret
      exact ⟨by rw [HX.out]; rfl, d, rfl⟩

end Go.Proofs.Ytofhnigdfmekdaa
