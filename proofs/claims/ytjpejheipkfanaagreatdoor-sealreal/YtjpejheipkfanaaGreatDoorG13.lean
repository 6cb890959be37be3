/-
  6 texts in one. No statement of the seat is proved here.
-/
import Derived.Test.YtjpejheipkfanaaGreatDoorG12

/-
  The contracts of the reference's Times, inverse and Box. No condition.
-/
namespace Go.Proofs.YtjpejheipkfanaaGreatDoor
open Go.RowKit

theorem dbl_hi' {c : UInt8} (h : (128 : Int) ≤ (c.toNat : Int)) : bits .xor .u8 ((c.toNat : Int) * 2 % 256) 27 = ((dbl c).toNat : Int) := dbl_hi (by have := b_lt c; omega)
theorem dbl_lo' {c : UInt8} (h : ¬ (128 : Int) ≤ (c.toNat : Int)) : (c.toNat : Int) * 2 = ((dbl c).toNat : Int) := by
  rw [← dbl_lo (by have := b_lt c; omega)]
  omega
set_option maxHeartbeats 1000000 in
theorem rTimes (w : World) (a b : UInt8) :
    Calls Tryz.prog 79 #[.int .u8 (a.toNat : Int), .int .u8 (b.toNat : Int)] w fun e w' => e = .returned (.int .u8 ((tms a b).toNat : Int)) ∧ w = w' := by
  go_enter Tryz.func79, Tryz.ntmps79
  go_wp2_with fail
  go_loop [5, 6, 7, 8] (fun o x i _ => ∃ k : Nat, k ≤ 8 ∧ i = .int .i64 k ∧ o = .int .u8 ((tmsA a b k).toNat : Int) ∧ x = .int .u8 ((tmsA.dblN a k).toNat : Int)) (fun _ _ i _ => 8 - (intOf i).toNat)
  case atStart => exact ⟨0, by omega, rfl, rfl, rfl⟩
  case round =>
    obtain ⟨k, hk, rfl, rfl, rfl⟩ := hrel
    by_cases hlt : k < 8
    · have h0 : (0 : Int) ≤ (k : Int) := by omega
      have h8 : (k : Int) < 8 := by omega
      have hs := b_shr b k (by omega)
      have HT : Hid (tmsA a b (k + 1) = if (b >>> UInt8.ofNat k) &&& 1 = 1 then tmsA a b k ^^^ (tmsA.dblN a k) else tmsA a b k) := rfl
      have HD : Hid (tmsA.dblN a (k + 1) = dbl (tmsA.dblN a k)) := rfl
      have ha := bit_and (b >>> UInt8.ofNat k)
      generalize hy : b >>> UInt8.ofNat k = y at *
      generalize hz : y &&& 1 = z at *
      generalize ho : tmsA a b k = o at *
      generalize hx : tmsA.dblN a k = x at *
      clear hy hz ho hx
      by_cases hz : z = 1
      · subst hz
        rw [if_pos rfl] at HT
        have ha' : bits .and .u8 (y.toNat : Int) 1 = 1 := ha
        clear ha
        have HX : Hid (bits .xor .u8 (o.toNat : Int) (x.toNat : Int) = ((o ^^^ x).toNat : Int)) := xor_u8 o x
        by_cases ht : (128 : Int) ≤ (x.toNat : Int)
        · have HH : Hid (_ = _) := dbl_hi' ht
          go_wp2
          go_round
          case rel => exact ⟨k + 1, by omega, by go_num, by rw [HT.out, HX.out], by rw [HD.out, HH.out]⟩
          case measure => simp [intOf]; omega
        · have HH : Hid (_ = _) := dbl_lo' ht
          go_wp2
          go_round
          case rel => exact ⟨k + 1, by omega, by go_num, by rw [HT.out, HX.out], by rw [HD.out, HH.out]⟩
          case measure => simp [intOf]; omega
      · rw [if_neg hz] at HT
        have hz' := one_not hz
        clear hz
        by_cases ht : (128 : Int) ≤ (x.toNat : Int)
        · have HH : Hid (_ = _) := dbl_hi' ht
          go_wp2
          go_round
          case rel => exact ⟨k + 1, by omega, by go_num, by rw [HT.out], by rw [HD.out, HH.out]⟩
          case measure => simp [intOf]; omega
        · have HH : Hid (_ = _) := dbl_lo' ht
          go_wp2
          go_round
          case rel => exact ⟨k + 1, by omega, by go_num, by rw [HT.out], by rw [HD.out, HH.out]⟩
          case measure => simp [intOf]; omega
    · obtain rfl : k = 8 := by omega
      go_wp2
      go_ret
      exact ⟨rfl, rfl⟩

theorem srch_step (c : UInt8) {k : Nat} (h : k < 256) : srch c (256 - k) k = if tms c (UInt8.ofNat k) = 1 then UInt8.ofNat k else srch c (256 - (k + 1)) (k + 1) := by
  rw [show 256 - k = (256 - (k + 1)) + 1 from by omega]
  rfl

set_option maxHeartbeats 1000000 in
theorem rInverse (w : World) (c : UInt8) :
    Calls Tryz.prog 107 #[.int .u8 (c.toNat : Int)] w fun e w' => e = .returned (.int .u8 ((inv c).toNat : Int)) ∧ w = w' := by
  go_enter Tryz.func107, Tryz.ntmps107
  go_wp2_with fail
  go_loop [3] (fun i => ∃ k : Nat, 1 ≤ k ∧ k ≤ 256 ∧ i = .int .i64 k ∧ Hid (srch c (256 - k) k = inv c)) (fun i => 256 - (intOf i).toNat)
  case atStart => exact ⟨1, by omega, by omega, rfl, rfl⟩
  case round =>
    obtain ⟨k, h1, hk, rfl, HS⟩ := hrel
    by_cases hlt : k < 256
    · have h0 : (0 : Int) ≤ (k : Int) := by omega
      have h8 : (k : Int) < 256 := by omega
      have h9 : (k : Int) % 256 = (k : Int) := by omega
      have hw8 : IntKind.u8.wrap (k : Int) = (k : Int) := by rw [IntKind.wrap_u8]; omega
      have HN := srch_step c hlt
      have HB : Hid (((UInt8.ofNat k).toNat : Int) = (k : Int)) := nat_byte hlt
      have CT : Hid (Calls Tryz.prog 79 #[.int .u8 (c.toNat : Int), .int .u8 (k : Int)] w fun e w' => e = .returned (.int .u8 ((tms c (UInt8.ofNat k)).toNat : Int)) ∧ w = w') := by
        have := rTimes w c (UInt8.ofNat k)
        rw [HB.out] at this
        exact this
      generalize tms c (UInt8.ofNat k) = t at HN CT
      by_cases ht : t = 1
      · subst ht
        rw [if_pos rfl] at HN
        have HI : Hid ((k : Int) = ((inv c).toNat : Int)) := by show _ = _; rw [← HS.out, HN, HB.out]
        clear HN
        go_wp2_with (go_at_call 79; refine CT.out.mono ?_; rintro e w1 ⟨rfl, rfl⟩)
        go_ret
        exact ⟨ret_int HI.out, rfl⟩
      · rw [if_neg ht] at HN
        have hz' := one_not ht
        have HI : Hid (srch c (256 - (k + 1)) (k + 1) = inv c) := by show _ = _; rw [← HN]; exact HS.out
        clear HN ht
        go_wp2_with (go_at_call 79; refine CT.out.mono ?_; rintro e w1 ⟨rfl, rfl⟩)
        go_round
        case rel => exact ⟨k + 1, by omega, by omega, by go_num, HI⟩
        case measure => simp [intOf]; omega
    · obtain rfl : k = 256 := by omega
      have HI : Hid ((0 : Int) = ((inv c).toNat : Int)) := by show _ = _; rw [← HS.out]; rfl
      go_wp2
      go_ret
      exact ⟨ret_int HI.out, rfl⟩

theorem turn8 (k d : Nat) : ((k : Int) + (d : Int)).tmod 8 = (((k + d) % 8 : Nat) : Int) := by
  rw [Int.tmod_eq_emod_of_nonneg (by omega)]
  omega

set_option maxHeartbeats 2000000 in
theorem rBox (w : World) (c : UInt8) :
    Calls Tryz.prog 78 #[.int .u8 (c.toNat : Int)] w fun e w' => e = .returned (.int .u8 ((box c).toNat : Int)) ∧ ∃ d, w' = w.drewN d := by
  have HX : Hid (box c = bxs (inv c) 8) := rfl
  have CI : Hid (Calls Tryz.prog 107 #[.int .u8 (c.toNat : Int)] w fun e w' => e = .returned (.int .u8 ((inv c).toNat : Int)) ∧ w = w') := rInverse w c
  generalize inv c = x at *
  go_enter Tryz.func78, Tryz.ntmps78
  go_wp2_with (go_at_call 107; refine CI.out.mono ?_; rintro e w1 ⟨rfl, rfl⟩)
  go_loopw [4, 5, 6] (fun o i _ wr => ∃ k : Nat, k ≤ 8 ∧ i = .int .i64 k ∧ o = .int .u8 ((bxs x k).toNat : Int) ∧ ∃ d, wr = w.drewN d) (fun _ i _ _ => 8 - (intOf i).toNat)
  case atStart => exact ⟨0, by omega, rfl, rfl, 0, rfl⟩
  case round =>
    obtain ⟨k, hk, rfl, rfl, d, rfl⟩ := hrel
    by_cases hlt : k < 8
    · have h0 : (0 : Int) ≤ (k : Int) := by omega
      have h8 : (k : Int) < 8 := by omega
      have HB : Hid (bxs x (k + 1) = bxs x k ||| ((bxbit x k &&& 1) <<< UInt8.ofNat k)) := rfl
      have HBB : Hid (bxbit x k = x >>> UInt8.ofNat k ^^^ x >>> UInt8.ofNat ((k + 4) % 8) ^^^ x >>> UInt8.ofNat ((k + 5) % 8) ^^^ x >>> UInt8.ofNat ((k + 6) % 8) ^^^ x >>> UInt8.ofNat ((k + 7) % 8) ^^^ 99 >>> UInt8.ofNat k) := rfl
      have t4 : ((k : Int) + 4).tmod 8 = (((k + 4) % 8 : Nat) : Int) := turn8 k 4
      have t5 : ((k : Int) + 5).tmod 8 = (((k + 5) % 8 : Nat) : Int) := turn8 k 5
      have t6 : ((k : Int) + 6).tmod 8 = (((k + 6) % 8 : Nat) : Int) := turn8 k 6
      have t7 : ((k : Int) + 7).tmod 8 = (((k + 7) % 8 : Nat) : Int) := turn8 k 7
      have e4 : ((k : Int) + 4) % 8 = (((k + 4) % 8 : Nat) : Int) := by omega
      have e5 : ((k : Int) + 5) % 8 = (((k + 5) % 8 : Nat) : Int) := by omega
      have e6 : ((k : Int) + 6) % 8 = (((k + 6) % 8 : Nat) : Int) := by omega
      have e7 : ((k : Int) + 7) % 8 = (((k + 7) % 8 : Nat) : Int) := by omega
      have j4l : (k + 4) % 8 < 8 := by omega
      have j5l : (k + 5) % 8 < 8 := by omega
      have j6l : (k + 6) % 8 < 8 := by omega
      have j7l : (k + 7) % 8 < 8 := by omega
      generalize (k + 4) % 8 = j4 at *
      generalize (k + 5) % 8 = j5 at *
      generalize (k + 6) % 8 = j6 at *
      generalize (k + 7) % 8 = j7 at *
      have s0 := b_shr x k hlt
      have s4 := b_shr x j4 j4l
      have s5 := b_shr x j5 j5l
      have s6 := b_shr x j6 j6l
      have s7 := b_shr x j7 j7l
      have s9 : (99 : Int) / (2 : Int) ^ k = ((99 >>> UInt8.ofNat k : UInt8).toNat : Int) := b_shr 99 k hlt
      have n4 : (0 : Int) ≤ (j4 : Int) := by omega
      have n5 : (0 : Int) ≤ (j5 : Int) := by omega
      have n6 : (0 : Int) ≤ (j6 : Int) := by omega
      have n7 : (0 : Int) ≤ (j7 : Int) := by omega
      have m4 : IntKind.i64.wrap ((k : Int) + 4) = (k : Int) + 4 := by rw [IntKind.wrap_i64]; omega
      have m5 : IntKind.i64.wrap ((k : Int) + 5) = (k : Int) + 5 := by rw [IntKind.wrap_i64]; omega
      have m6 : IntKind.i64.wrap ((k : Int) + 6) = (k : Int) + 6 := by rw [IntKind.wrap_i64]; omega
      have m7 : IntKind.i64.wrap ((k : Int) + 7) = (k : Int) + 7 := by rw [IntKind.wrap_i64]; omega
      generalize x >>> UInt8.ofNat k = y0 at *
      generalize x >>> UInt8.ofNat j4 = y4 at *
      generalize x >>> UInt8.ofNat j5 = y5 at *
      generalize x >>> UInt8.ofNat j6 = y6 at *
      generalize x >>> UInt8.ofNat j7 = y7 at *
      generalize (99 >>> UInt8.ofNat k : UInt8) = y9 at *
      have x1 := xor_u8 y0 y4
      generalize y0 ^^^ y4 = z1 at *
      have x2 := xor_u8 z1 y5
      generalize z1 ^^^ y5 = z2 at *
      have x3 := xor_u8 z2 y6
      generalize z2 ^^^ y6 = z3 at *
      have x4 := xor_u8 z3 y7
      generalize z3 ^^^ y7 = z4 at *
      have x5 := xor_u8 z4 y9
      generalize z4 ^^^ y9 = z5 at *
      rw [HBB.out] at HB
      have a1 := bit_and z5
      generalize z5 &&& 1 = v at *
      have l1 := b_shl v k hlt
      generalize v <<< UInt8.ofNat k = v2 at *
      generalize bxs x k = o at *
      have o1 := b_or o v2
      generalize o ||| v2 = o2 at *
      clear HBB
      go_wp2_with fail
      go_quiet (fail)
      go_wp2_with fail
      go_roundw
      case rel => exact ⟨k + 1, by omega, by go_num, by rw [HB.out], _, rfl⟩
      case measure => simp [intOf]; omega
    · obtain rfl : k = 8 := by omega
      go_wp2
      go_ret
      exact ⟨by rw [HX.out]; rfl, d, rfl⟩

end Go.Proofs.YtjpejheipkfanaaGreatDoor

/-
  The contract of key32: a key of 32 bytes out of any. Condition: at most 100 bytes.
-/
namespace Go.Proofs.YtjpejheipkfanaaGreatDoor
open Go.RowKit

def k32 (l : List UInt8) : List UInt8 := (List.range 32).map fun i => if l.length = 0 then 0 else l.getD (i % l.length) 0
theorem k32_length (l : List UInt8) : (k32 l).length = 32 := by simp [k32]
theorem k32_step {l : List UInt8} {k : Nat} (h : k < 32) : (k32 l).take (k + 1) = (k32 l).take k ++ [if l.length = 0 then 0 else l.getD (k % l.length) 0] := by
  rw [take_snoc (by rw [k32_length]; exact h)]
  simp [k32]
theorem k32_room (l : List UInt8) (k : Nat) (x : UInt8) : ((k32 l).take k).length + [x].length ≤ 1000000000 := by
  have : ((k32 l).take k).length ≤ 32 := by rw [← k32_length l]; exact List.length_take_le' _ _
  simp only [List.length_singleton]
  omega

end Go.Proofs.YtjpejheipkfanaaGreatDoor

/-
  The contracts of the reference's Boxes, both and roundKey. Conditions: rows of like lengths; words of four bytes.
-/
namespace Go.Proofs.YtjpejheipkfanaaGreatDoor
open Go.RowKit

theorem Own.drN {w : World} {base : Nat} {v : Value} {l : List UInt8} (h : Own w base v l) (d : Nat) : Own (w.drewN d) base v l := h
theorem boxT_step {k : Nat} (h : k < 256) : boxT.take (k + 1) = boxT.take k ++ [box (UInt8.ofNat k)] := by
  rw [take_snoc (by rw [boxT_length]; exact h)]
  simp [boxT]
theorem take_room {L : List UInt8} {n : Nat} (hL : L.length ≤ n) (hn : n ≤ 1000000) (k : Nat) (x : UInt8) : (L.take k).length + [x].length ≤ 1000000000 := by
  have : (L.take k).length ≤ L.length := List.length_take_le' _ _
  simp only [List.length_singleton]
  omega

set_option maxRecDepth 100000 in
set_option maxHeartbeats 1000000 in
theorem rBoxes (w : World) : Calls Tryz.prog 59 #[] w (Gives w boxT) := by
  go_enter Tryz.func59, Tryz.ntmps59
  go_wp2_with fail
  go_loopw [1, 2] (fun v i wr => ∃ k : Nat, k ≤ 256 ∧ i = .int .i64 k ∧ Own wr w.heap.size v (boxT.take k) ∧ Below w.heap.size w wr) (fun _ i _ => 256 - (intOf i).toNat)
  case atStart => exact ⟨0, by omega, rfl, Own.nil _ _, Below.refl _ _⟩
  case round =>
    obtain ⟨k, hk, rfl, ho, hb⟩ := hrel
    by_cases hlt : k < 256
    · have h0 : (0 : Int) ≤ (k : Int) := by omega
      have h8 : (k : Int) < 256 := by omega
      have h9 : (k : Int) % 256 = (k : Int) := by omega
      have hw8 : IntKind.u8.wrap (k : Int) = (k : Int) := by rw [IntKind.wrap_u8]; omega
      have HS := boxT_step hlt
      have hr := take_room (L := boxT) (n := 256) (by rw [boxT_length]; omega) (by omega) k (UInt8.ofNat ((box (UInt8.ofNat k)).toNat : Int).toNat)
      have CB : Hid (Calls Tryz.prog 78 #[.int .u8 (k : Int)] wr fun e w' => e = .returned (.int .u8 ((box (UInt8.ofNat k)).toNat : Int)) ∧ ∃ d, w' = wr.drewN d) := by
        have := rBox wr (UInt8.ofNat k)
        rw [nat_byte hlt] at this
        exact this
      generalize box (UInt8.ofNat k) = y at *
      have HS' : Hid (_ = _) := HS
      have q0 : (0 : Int) ≤ (y.toNat : Int) := by omega
      have q1 := u8_hi y
      have E1 : Hid (UInt8.ofNat (y.toNat : Int).toNat = y) := one_u8 y
      have hs := hb.size
      clear HS
      go_wp2_with fail
      refine CB.out.mono ?_
      rintro e w1 ⟨rfl, d, hw1⟩
      have hb1 : Below w.heap.size w w1 := by rw [hw1]; exact below_drN hb d
      have ho1 := ho.drN d
      rw [← hw1] at ho1
      have hs1 := hb1.size
      clear hw1 hb ho hs
      go_wp2_with (at_builtin; refine wpList_app _ rfl (.tmp 7) (.tmp 11) rfl w.heap.size _ _ rfl (ho1.below (below_alloc _ _) (Nat.le_refl _)) _ 1 1 [UInt8.ofNat (y.toNat : Int).toNat] rfl (Bs.one _ _ q0 q1) hr (by simp; omega) ?_; intro v2 w2 ho2 hb2)
      go_roundw
      case rel => exact ⟨k + 1, by omega, by go_num, by rw [HS'.out, ← E1.out]; exact ho2, (hb1.alloc hs1 _).trans hb2⟩
      case measure => simp [intOf]; omega
    · rw [List.take_of_length_le (by rw [boxT_length]; omega)] at ho
      go_wp2
      go_ret
      exact Gives.mk ho hb

set_option maxHeartbeats 1000000 in
theorem rBoth (w : World) {a b : Option Addr} {n c c' : Nat} {l m : List UInt8} (ha : Bs w a n c l) (hb : Bs w b n c' m) (hn : 0 < n) (hz : n ≤ 1000) :
    Calls Tryz.prog 80 #[.slice a n c, .slice b n c'] w (Gives w (xorL l m)) := by
  obtain ⟨x, o, rfl, hx, hc⟩ := ha.at hn
  obtain ⟨y, q, rfl, hy, hd⟩ := hb.at hn
  have H : Hid (l.length = n ∧ m.length = n) := ⟨ha.len, hb.len⟩
  clear ha hb
  go_enter Tryz.func80, Tryz.ntmps80
  go_wp2_with fail
  go_loopw [5, 6] (fun v i wr => ∃ k : Nat, k ≤ n ∧ i = .int .i64 k ∧ Own wr w.heap.size v (xorL (l.take k) (m.take k)) ∧ Below w.heap.size w wr) (fun _ i _ => n - (intOf i).toNat)
  case atStart => exact ⟨0, Nat.zero_le _, rfl, Own.nil _ _, Below.refl _ _⟩
  case round =>
    obtain ⟨k, hk, rfl, ho, hb⟩ := hrel
    by_cases hlt : k < n
    · have c1 : wr.cell? ⟨x, o + k, none⟩ = some (.int .u8 (bt l k)) := by rw [hb.cell (p := ⟨x, o + k, none⟩) hx]; exact hc k hlt
      have c2 : wr.cell? ⟨y, q + k, none⟩ = some (.int .u8 (bt m k)) := by rw [hb.cell (p := ⟨y, q + k, none⟩) hy]; exact hd k hlt
      obtain ⟨z, hz1, hz2⟩ := xor_eq (l := l) (m := m) (k := k) (by rw [H.out.1]; omega) (by rw [H.out.2]; omega)
      have hzlt := UInt8.toNat_lt z
      have b1 : 0 ≤ bits .xor .u8 (bt l k) (bt m k) := by rw [hz1]; omega
      have b2 : bits .xor .u8 (bt l k) (bt m k) ≤ 255 := by rw [hz1]; omega
      have hZ : Hid (UInt8.ofNat (bits .xor .u8 (bt l k) (bt m k)).toNat = z) := by
        show _ = _
        rw [hz1]
        simp
      have HZ : Hid (xorL (l.take (k + 1)) (m.take (k + 1)) = xorL (l.take k) (m.take k) ++ [z]) := hz2
      have hr : (xorL (l.take k) (m.take k)).length + [UInt8.ofNat (bits .xor .u8 (bt l k) (bt m k)).toNat].length ≤ 1000000000 := by
        unfold xorL
        simp
        omega
      have hs : w.heap.size ≤ wr.heap.size := hb.size
      have k0 : (0 : Int) ≤ (k : Int) := by omega
      have k1 : (k : Int) < n := by omega
      clear hz1 hz2 hzlt
      go_wp2_with fail
      go_region_held3 (fun w' => w'.cell? ⟨x, o + k, none⟩ = some (.int .u8 (bt l k)) ∧ w'.cell? ⟨y, q + k, none⟩ = some (.int .u8 (bt m k))) (first | assumption | (constructor <;> assumption) | go_keep) ((refine step_app (by rfl) (.tmp 13) (.tmp 23) (by rfl) w.heap.size _ _ (by rfl) (ho.below (below_alloc _ _).drew (Nat.le_refl _)) _ 1 1 [UInt8.ofNat (bits .xor .u8 (bt l k) (bt m k)).toNat] (by rfl) (Bs.one _ _ b1 b2).drew hr (by simp; omega) ?_; intro v2 w2 ho2 hb2; have q2 := (hb.trans ((below_alloc _ _).drew.mono hs)).trans hb2; have c1' : w2.cell? ⟨x, o + k, none⟩ = some (.int .u8 (bt l k)) := (q2.cell (p := ⟨x, o + k, none⟩) hx).trans (hc k hlt); have c2' : w2.cell? ⟨y, q + k, none⟩ = some (.int .u8 (bt m k)) := (q2.cell (p := ⟨y, q + k, none⟩) hy).trans (hd k hlt)))
      go_wp2
      go_roundw
      case rel => exact ⟨k + 1, by omega, by go_num, by rw [HZ.out, ← hZ.out]; exact ho2, q2⟩
      case measure => simp [intOf]; omega
    · have e : xorL (l.take k) (m.take k) = xorL l m := by rw [List.take_of_length_le (by rw [H.out.1]; omega), List.take_of_length_le (by rw [H.out.2]; omega)]
      rw [e] at ho
      go_wp2
      go_ret
      exact Gives.mk ho hb

end Go.Proofs.YtjpejheipkfanaaGreatDoor

/-
  Unlike blocks stay unlike, in plain lists: each step of a block is one-to-one. No condition but the lengths; nothing of the program.
-/
namespace Go.Proofs.YtjpejheipkfanaaGreatDoor
open Go.RowKit

/-- The box of all bytes, and what undoes it. -/
def boxLit : List UInt8 := [99, 124, 119, 123, 242, 107, 111, 197, 48, 1, 103, 43, 254, 215, 171, 118, 202, 130, 201, 125, 250, 89, 71, 240, 173, 212, 162, 175, 156, 164, 114, 192,
  183, 253, 147, 38, 54, 63, 247, 204, 52, 165, 229, 241, 113, 216, 49, 21, 4, 199, 35, 195, 24, 150, 5, 154, 7, 18, 128, 226, 235, 39, 178, 117,
  9, 131, 44, 26, 27, 110, 90, 160, 82, 59, 214, 179, 41, 227, 47, 132, 83, 209, 0, 237, 32, 252, 177, 91, 106, 203, 190, 57, 74, 76, 88, 207,
  208, 239, 170, 251, 67, 77, 51, 133, 69, 249, 2, 127, 80, 60, 159, 168, 81, 163, 64, 143, 146, 157, 56, 245, 188, 182, 218, 33, 16, 255, 243, 210,
  205, 12, 19, 236, 95, 151, 68, 23, 196, 167, 126, 61, 100, 93, 25, 115, 96, 129, 79, 220, 34, 42, 144, 136, 70, 238, 184, 20, 222, 94, 11, 219,
  224, 50, 58, 10, 73, 6, 36, 92, 194, 211, 172, 98, 145, 149, 228, 121, 231, 200, 55, 109, 141, 213, 78, 169, 108, 86, 244, 234, 101, 122, 174, 8,
  186, 120, 37, 46, 28, 166, 180, 198, 232, 221, 116, 31, 75, 189, 139, 138, 112, 62, 181, 102, 72, 3, 246, 14, 97, 53, 87, 185, 134, 193, 29, 158,
  225, 248, 152, 17, 105, 217, 142, 148, 155, 30, 135, 233, 206, 85, 40, 223, 140, 161, 137, 13, 191, 230, 66, 104, 65, 153, 45, 15, 176, 84, 187, 22]
def unLit : List UInt8 := [82, 9, 106, 213, 48, 54, 165, 56, 191, 64, 163, 158, 129, 243, 215, 251, 124, 227, 57, 130, 155, 47, 255, 135, 52, 142, 67, 68, 196, 222, 233, 203,
  84, 123, 148, 50, 166, 194, 35, 61, 238, 76, 149, 11, 66, 250, 195, 78, 8, 46, 161, 102, 40, 217, 36, 178, 118, 91, 162, 73, 109, 139, 209, 37,
  114, 248, 246, 100, 134, 104, 152, 22, 212, 164, 92, 204, 93, 101, 182, 146, 108, 112, 72, 80, 253, 237, 185, 218, 94, 21, 70, 87, 167, 141, 157, 132,
  144, 216, 171, 0, 140, 188, 211, 10, 247, 228, 88, 5, 184, 179, 69, 6, 208, 44, 30, 143, 202, 63, 15, 2, 193, 175, 189, 3, 1, 19, 138, 107,
  58, 145, 17, 65, 79, 103, 220, 234, 151, 242, 207, 206, 240, 180, 230, 115, 150, 172, 116, 34, 231, 173, 53, 133, 226, 249, 55, 232, 28, 117, 223, 110,
  71, 241, 26, 113, 29, 41, 197, 137, 111, 183, 98, 14, 170, 24, 190, 27, 252, 86, 62, 75, 198, 210, 121, 32, 154, 219, 192, 254, 120, 205, 90, 244,
  31, 221, 168, 51, 136, 7, 199, 49, 177, 18, 16, 89, 39, 128, 236, 95, 96, 81, 127, 169, 25, 181, 74, 13, 45, 229, 122, 159, 147, 201, 156, 239,
  160, 224, 59, 77, 174, 42, 245, 176, 200, 235, 187, 60, 131, 83, 153, 97, 23, 43, 4, 126, 186, 119, 214, 38, 225, 105, 20, 99, 85, 33, 12, 125]
set_option maxRecDepth 100000 in
theorem box_lit : (invS 255).map bent = boxLit := by decide +kernel
set_option maxRecDepth 100000 in
theorem un_lit : ∀ n : Fin 256, unLit.getD (boxLit.getD n.val 0).toNat 0 = UInt8.ofNat n.val := by decide +kernel
theorem box_of (x : UInt8) : box x = boxLit.getD x.toNat 0 := by
  have h := UInt8.toNat_lt x
  rw [← box_lit, box_tab]
  unfold boxT
  simp [List.getD_eq_getElem?_getD, h]
theorem box_inj {x y : UInt8} (h : box x = box y) : x = y := by
  have e : ∀ z : UInt8, unLit.getD (box z).toNat 0 = z := fun z => by
    rw [box_of]
    have := un_lit ⟨z.toNat, UInt8.toNat_lt z⟩
    simpa using this
  rw [← e x, ← e y, h]

theorem top_bit (x : UInt8) : x >>> 7 = 0 ∨ x >>> 7 = 1 := by
  have h : ∀ n : Fin 256, (UInt8.ofNat n.val) >>> 7 = 0 ∨ (UInt8.ofNat n.val) >>> 7 = 1 := by decide +kernel
  have := h ⟨x.toNat, UInt8.toNat_lt x⟩
  simpa using this
theorem xor_back (x y : UInt8) : x ^^^ (x ^^^ y) = y := by rw [← UInt8.xor_assoc, UInt8.xor_self, UInt8.zero_xor]
theorem xor_move (x y z : UInt8) : x ^^^ (y ^^^ z) = y ^^^ (x ^^^ z) := by rw [← UInt8.xor_assoc, UInt8.xor_comm x y, UInt8.xor_assoc]
theorem dbl_add (x y : UInt8) : dbl (x ^^^ y) = dbl x ^^^ dbl y := by
  unfold dbl
  rw [UInt8.shiftLeft_xor, UInt8.shiftRight_xor]
  rcases top_bit x with hx | hx <;> rcases top_bit y with hy | hy <;> rw [hx, hy] <;> simp [UInt8.xor_assoc, UInt8.xor_comm, xor_move]

/-- A byte of a mixed column. -/
def mx (p q r s : UInt8) : UInt8 := dbl (p ^^^ q) ^^^ q ^^^ r ^^^ s
/-- Mixed twice, each byte knows only itself and the one opposite. -/
theorem mx_twice (p q r s : UInt8) : mx (mx p q r s) (mx q r s p) (mx r s p q) (mx s p q r) = dbl (dbl (p ^^^ r)) ^^^ p := by
  unfold mx
  simp [dbl_add, UInt8.xor_assoc, UInt8.xor_comm, xor_move, xor_back]
/-- What undoes a mixed column. -/
def unmx (P Q R S : UInt8) : UInt8 := dbl (dbl (mx P Q R S ^^^ mx R S P Q)) ^^^ mx P Q R S
theorem unmx_mx (p q r s : UInt8) : unmx (mx p q r s) (mx q r s p) (mx r s p q) (mx s p q r) = p := by
  unfold unmx
  rw [mx_twice p q r s, mx_twice r s p q]
  simp [dbl_add, UInt8.xor_comm, xor_move]

theorem list16 {a b : List UInt8} (ha : a.length = 16) (hb : b.length = 16) (h : ∀ i, i < 16 → a.getD i 0 = b.getD i 0) : a = b := by
  apply List.ext_getElem (by omega)
  intro i h1 h2
  have := h i (by omega)
  simpa [List.getD_eq_getElem?_getD, h1, h2] using this
theorem xorL_inj {a b k : List UInt8} (ha : a.length = 16) (hb : b.length = 16) (hk : k.length = 16) (h : xorL a k = xorL b k) : a = b := by
  refine list16 ha hb fun i hi => ?_
  have : (xorL a k).getD i 0 = (xorL b k).getD i 0 := by rw [h]
  rw [xorL_at (by omega) (by omega), xorL_at (by omega) (by omega)] at this
  have e := congrArg (k.getD i 0 ^^^ ·) this
  simp only [UInt8.xor_comm _ (k.getD i 0), xor_back] at e
  exact e
theorem shf_all : ∀ j : Fin 16, ∃ i : Fin 16, (i.val + i.val % 4 * 4) % 16 = j.val := by decide
theorem shf_inj {a b : List UInt8} (ha : a.length = 16) (hb : b.length = 16) (h : shf a = shf b) : a = b := by
  refine list16 ha hb fun j hj => ?_
  obtain ⟨i, hi⟩ := shf_all ⟨j, hj⟩
  have : (shf a).getD i.val 0 = (shf b).getD i.val 0 := by rw [h]
  rw [shf_at a i.isLt, shf_at b i.isLt, hi] at this
  exact box_inj this
theorem mix_col (b : List UInt8) (c : Nat) : mixAt b (4 * c) = mx (b.getD (4 * c) 0) (b.getD (4 * c + 1) 0) (b.getD (4 * c + 2) 0) (b.getD (4 * c + 3) 0) ∧ mixAt b (4 * c + 1) = mx (b.getD (4 * c + 1) 0) (b.getD (4 * c + 2) 0) (b.getD (4 * c + 3) 0) (b.getD (4 * c) 0) ∧
    mixAt b (4 * c + 2) = mx (b.getD (4 * c + 2) 0) (b.getD (4 * c + 3) 0) (b.getD (4 * c) 0) (b.getD (4 * c + 1) 0) ∧ mixAt b (4 * c + 3) = mx (b.getD (4 * c + 3) 0) (b.getD (4 * c) 0) (b.getD (4 * c + 1) 0) (b.getD (4 * c + 2) 0) :=
  ⟨mix0 b c, mix1 b c, mix2 b c, mix3 b c⟩
theorem mixL_inj {a b : List UInt8} (ha : a.length = 16) (hb : b.length = 16) (h : mixL a = mixL b) : a = b := by
  have hc : ∀ i, i < 16 → mixAt a i = mixAt b i := fun i hi => by
    have : (mixL a).getD i 0 = (mixL b).getD i 0 := by rw [h]
    rw [mixL_at a hi, mixL_at b hi] at this
    exact this
  have col : ∀ c, c < 4 → a.getD (4 * c) 0 = b.getD (4 * c) 0 ∧ a.getD (4 * c + 1) 0 = b.getD (4 * c + 1) 0 ∧ a.getD (4 * c + 2) 0 = b.getD (4 * c + 2) 0 ∧ a.getD (4 * c + 3) 0 = b.getD (4 * c + 3) 0 := fun c hlt => by
    obtain ⟨a0, a1, a2, a3⟩ := mix_col a c
    obtain ⟨b0, b1, b2, b3⟩ := mix_col b c
    have e0 := hc (4 * c) (by omega)
    have e1 := hc (4 * c + 1) (by omega)
    have e2 := hc (4 * c + 2) (by omega)
    have e3 := hc (4 * c + 3) (by omega)
    rw [a0, b0] at e0
    rw [a1, b1] at e1
    rw [a2, b2] at e2
    rw [a3, b3] at e3
    refine ⟨?_, ?_, ?_, ?_⟩
    · rw [← unmx_mx (a.getD (4 * c) 0) (a.getD (4 * c + 1) 0) (a.getD (4 * c + 2) 0) (a.getD (4 * c + 3) 0), e0, e1, e2, e3, unmx_mx]
    · rw [← unmx_mx (a.getD (4 * c + 1) 0) (a.getD (4 * c + 2) 0) (a.getD (4 * c + 3) 0) (a.getD (4 * c) 0), e0, e1, e2, e3, unmx_mx]
    · rw [← unmx_mx (a.getD (4 * c + 2) 0) (a.getD (4 * c + 3) 0) (a.getD (4 * c) 0) (a.getD (4 * c + 1) 0), e0, e1, e2, e3, unmx_mx]
    · rw [← unmx_mx (a.getD (4 * c + 3) 0) (a.getD (4 * c) 0) (a.getD (4 * c + 1) 0) (a.getD (4 * c + 2) 0), e0, e1, e2, e3, unmx_mx]
  refine list16 ha hb fun i hi => ?_
  obtain ⟨h0, h1, h2, h3⟩ := col (i / 4) (by omega)
  have hi4 : i % 4 = 0 ∨ i % 4 = 1 ∨ i % 4 = 2 ∨ i % 4 = 3 := by omega
  rcases hi4 with e | e | e | e
  · rw [show i = 4 * (i / 4) from by omega]; exact h0
  · rw [show i = 4 * (i / 4) + 1 from by omega]; exact h1
  · rw [show i = 4 * (i / 4) + 2 from by omega]; exact h2
  · rw [show i = 4 * (i / 4) + 3 from by omega]; exact h3

theorem blkS_inj {K a b : List UInt8} (hK : K.length = 240) (ha : a.length = 16) (hb : b.length = 16) : ∀ r, r ≤ 14 → blkS K a r = blkS K b r → a = b
  | 0, hr, h => xorL_inj ha hb (rk_length hK hr) h
  | r + 1, hr, h => by
    have la := blkS_length hK ha (r := r) (by omega)
    have lb := blkS_length hK hb (r := r) (by omega)
    rw [blkS, blkS] at h
    refine blkS_inj hK ha hb r (by omega) ?_
    by_cases h14 : r + 1 < 14
    · rw [if_pos h14, if_pos h14] at h
      exact shf_inj la lb (mixL_inj (shf_length _) (shf_length _) (xorL_inj (mixL_length _) (mixL_length _) (rk_length hK hr) h))
    · rw [if_neg h14, if_neg h14] at h
      exact shf_inj la lb (xorL_inj (shf_length _) (shf_length _) (rk_length hK hr) h)
theorem aes_apart {K a b : List UInt8} (hK : K.length = 240) (ha : a.length = 16) (hb : b.length = 16) : decide (aesL K a = aesL K b) = decide (a = b) := by
  rw [decide_eq_decide]
  constructor
  · exact blkS_inj hK ha hb 14 (Nat.le_refl _)
  · rintro rfl
    rfl

end Go.Proofs.YtjpejheipkfanaaGreatDoor

/-
  The contracts of the reference's roundKey, shifted and mixed. Conditions: blocks of 16 bytes; the box of all bytes, and the words of all rounds' keys, lie where the slices lead.
-/
namespace Go.Proofs.YtjpejheipkfanaaGreatDoor
open Go.RowKit

/-- The words of all rounds' keys. -/
def wdsL (F : List UInt8) : List (List UInt8) := (List.range 60).map (wd F)
theorem wdsL_at (F : List UInt8) {j : Nat} (h : j < 60) : (wdsL F).getD j [] = wd F j := by simp [wdsL, List.getD_eq_getElem?_getD, h]
theorem rk_step {F : List UInt8} {r k : Nat} : ((F.drop (16 * r)).take (4 * k)) ++ wd F (4 * r + k) = (F.drop (16 * r)).take (4 * (k + 1)) := by
  unfold wd
  rw [show 4 * (k + 1) = 4 * k + 4 from by omega, List.take_add, List.drop_drop, show 16 * r + 4 * k = 4 * (4 * r + k) from by omega]

set_option maxHeartbeats 1000000 in
theorem rRoundKey (w : World) {a : Option Addr} {c : Nat} {F : List UInt8} (hF : F.length = 240) (ha : Bss w a 60 c (wdsL F)) (r : Nat) (hr : r ≤ 14) :
    Calls Tryz.prog 81 #[.slice a 60 c, .int .i64 (r : Int)] w (Gives w (rk F r)) := by
  obtain ⟨x, o, rfl, hx, hc⟩ := ha.at (by omega)
  have HF : Hid (F.length = 240) := hF
  clear ha hF
  go_enter Tryz.func81, Tryz.ntmps81
  go_wp2_with fail
  go_loopw [5, 6] (fun v i wr => ∃ k : Nat, k ≤ 4 ∧ i = .int .i64 k ∧ Own wr w.heap.size v ((F.drop (16 * r)).take (4 * k)) ∧ Below w.heap.size w wr) (fun _ i _ => 4 - (intOf i).toNat)
  case atStart => exact ⟨0, by omega, rfl, Own.nil _ _, Below.refl _ _⟩
  case round =>
    obtain ⟨k, hk, rfl, ho, hb⟩ := hrel
    by_cases hlt : k < 4
    · obtain ⟨p, m, q, c1, hB⟩ := Bss.part hc hb (4 * r + k) (by omega)
      have hB' := hB.below hb (Nat.le_refl _)
      rw [wdsL_at F (by omega)] at hB'
      have HS : Hid (_ = _) := rk_step (F := F) (r := r) (k := k)
      have HWL : Hid ((wd F (4 * r + k)).length = 4) := wd_length (by have := HF.out; omega)
      obtain ⟨j, hj⟩ : ∃ j, j = 4 * r + k := ⟨_, rfl⟩
      rw [← hj] at c1 hB' HS HWL
      have hj0 : 4 * (r : Int) + (k : Int) = (j : Int) := by omega
      have hj1 : (0 : Int) ≤ (j : Int) := by omega
      have hj2 : (j : Int) < 60 := by omega
      have hrm : ((F.drop (16 * r)).take (4 * k)).length + (wd F j).length ≤ 1000000000 := by rw [HWL.out, List.length_take]; omega
      clear hj hB
      go_wp2_with (at_builtin; refine wpList_app _ rfl (.tmp 11) (.tmp 18) rfl w.heap.size _ _ rfl ho p m q (wd F j) rfl hB' hrm hb.size ?_; intro v2 w2 ho2 hb2)
      go_roundw
      case rel => exact ⟨k + 1, by omega, by go_num, by rw [← HS.out]; exact ho2, hb.trans hb2⟩
      case measure => simp [intOf]; omega
    · obtain rfl : k = 4 := by omega
      go_wp2
      go_ret
      exact Gives.mk ho hb

theorem map16_step (f : Nat → UInt8) {k : Nat} (h : k < 16) : ((List.range 16).map f).take (k + 1) = ((List.range 16).map f).take k ++ [f k] := by
  rw [take_snoc (by simp; exact h)]
  simp
theorem map16_room (f : Nat → UInt8) (k : Nat) (x : UInt8) : (((List.range 16).map f).take k).length + [x].length ≤ 1000000000 := take_room (n := 16) (by simp) (by omega) k x

set_option maxHeartbeats 2000000 in
theorem rShifted (w : World) {a a' : Option Addr} {c c' : Nat} {b : List UInt8} (hX : Bs w a 256 c boxT) (hb : Bs w a' 16 c' b) :
    Calls Tryz.prog 83 #[.slice a 256 c, .slice a' 16 c'] w (Gives w (shf b)) := by
  obtain ⟨x, o, rfl, hx, hc⟩ := hX.at (by omega)
  obtain ⟨y, q, rfl, hy, hd⟩ := hb.at (by omega)
  have HB : Hid (b.length = 16) := hb.len
  clear hX hb
  go_enter Tryz.func83, Tryz.ntmps83
  go_wp2_with fail
  go_loopw [5, 6, 7] (fun v i _ wr => ∃ k : Nat, k ≤ 4 ∧ i = .int .i64 k ∧ Own wr w.heap.size v ((shf b).take (4 * k)) ∧ Below w.heap.size w wr) (fun _ i _ _ => 4 - (intOf i).toNat)
  case atStart => exact ⟨0, by omega, rfl, Own.nil _ _, Below.refl _ _⟩
  case round =>
    obtain ⟨k, hk, rfl, ho, hbl⟩ := hrel
    rename World => wo
    by_cases hlt : k < 4
    · have k0 : (0 : Int) ≤ (k : Int) := by omega
      have k4 : (k : Int) < 4 := by omega
      go_wp2_with fail
      go_loopw [5, 7] (fun v i wr => ∃ j : Nat, j ≤ 4 ∧ i = .int .i64 j ∧ Own wr w.heap.size v ((shf b).take (4 * k + j)) ∧ Below w.heap.size w wr) (fun _ i _ => 4 - (intOf i).toNat)
      case atStart => exact ⟨0, by omega, rfl, ho, hbl⟩
      case round =>
        clear ho hbl
        obtain ⟨j, hj, rfl, ho, hbl⟩ := hrel
        by_cases hjl : j < 4
        · have j0 : (0 : Int) ≤ (j : Int) := by omega
          have j4 : (j : Int) < 4 := by omega
          obtain ⟨m, hm⟩ : ∃ m, m = (k + j) % 4 := ⟨_, rfl⟩
          have m0 : ((k : Int) + (j : Int)) % 4 = (m : Int) := by omega
          have m1 : ((k : Int) + (j : Int)).tmod 4 = (m : Int) := by rw [Int.tmod_eq_emod_of_nonneg (by omega)]; omega
          obtain ⟨n, hn⟩ : ∃ n, n = 4 * m + j := ⟨_, rfl⟩
          have n0 : 4 * (m : Int) + (j : Int) = (n : Int) := by omega
          have n1 : (0 : Int) ≤ (n : Int) := by omega
          have n2 : (n : Int) < 16 := by omega
          have HS := map16_step (fun i => box (b.getD ((i + i % 4 * 4) % 16) 0)) (k := 4 * k + j) (by omega)
          rw [show (4 * k + j + (4 * k + j) % 4 * 4) % 16 = n from by omega] at HS
          have c1 : wr.cell? ⟨y, q + n, none⟩ = some (.int .u8 (bt b n)) := by rw [hbl.cell (p := ⟨y, q + n, none⟩) hy]; exact hd n (by omega)
          unfold bt at c1
          generalize b.getD n 0 = p at c1 HS
          have hpl := b_lt p
          have hp0 : (0 : Int) ≤ (p.toNat : Int) := by omega
          have hp1 : (p.toNat : Int) < 256 := by omega
          have c2 : wr.cell? ⟨x, o + p.toNat, none⟩ = some (.int .u8 ((box p).toNat : Int)) := by rw [hbl.cell (p := ⟨x, o + p.toNat, none⟩) hx, hc p.toNat hpl, box_at]
          generalize box p = z at c2 HS
          have HS' : Hid (_ = _) := HS
          have q0 : (0 : Int) ≤ (z.toNat : Int) := by omega
          have q1 := u8_hi z
          have E1 : Hid (UInt8.ofNat (z.toNat : Int).toNat = z) := one_u8 z
          have hrm : ((shf b).take (4 * k + j)).length + [UInt8.ofNat (z.toNat : Int).toNat].length ≤ 1000000000 := map16_room _ _ _
          have hs := hbl.size
          clear HS hm hn
          go_wp2_with (at_builtin; refine wpList_app _ rfl (.tmp 16) (.tmp 30) rfl w.heap.size _ _ rfl (ho.below (below_alloc _ _) (Nat.le_refl _)) _ 1 1 [UInt8.ofNat (z.toNat : Int).toNat] rfl (Bs.one _ _ q0 q1) hrm (by simp; omega) ?_; intro v2 w2 ho2 hb2)
          go_roundw
          case rel => exact ⟨j + 1, by omega, by go_num, by rw [← Nat.add_assoc, shf, HS'.out, ← E1.out]; exact ho2, (hbl.alloc hs _).trans hb2⟩
          case measure => simp [intOf]; omega
        · obtain rfl : j = 4 := by omega
          go_wp2_with fail
          go_roundw
          case rel => exact ⟨k + 1, by omega, by go_num, by rw [show 4 * (k + 1) = 4 * k + 4 from by omega]; exact ho, hbl⟩
          case measure => simp [intOf]; omega
    · obtain rfl : k = 4 := by omega
      rw [List.take_of_length_le (by rw [shf_length]; omega)] at ho
      go_wp2
      go_ret
      exact Gives.mk ho hbl

end Go.Proofs.YtjpejheipkfanaaGreatDoor

/-
  The contract of the reference's mixed. Condition: a block of 16 bytes.
-/
namespace Go.Proofs.YtjpejheipkfanaaGreatDoor
open Go.RowKit

/-- Multiplied, by a number as the program has it. -/
def tmsI (x : UInt8) (z : Int) : UInt8 := tms x (UInt8.ofNat z.toNat)
theorem rTimesI (w : World) (x : UInt8) (z : Int) (h : 0 ≤ z ∧ z ≤ 255) :
    Calls Tryz.prog 79 #[.int .u8 (x.toNat : Int), .int .u8 z] w fun e w' => e = .returned (.int .u8 ((tmsI x z).toNat : Int)) ∧ w' = w := by
  have := rTimes w x (UInt8.ofNat z.toNat)
  rw [ofNat_toNat_int z h.1 h.2] at this
  exact this.mono fun _ _ ⟨h1, h2⟩ => ⟨h1, h2.symm⟩
theorem times2 (x : UInt8) : tmsI x 2 = dbl x := by
  have h : ∀ n : Fin 256, tmsI (UInt8.ofNat n.val) 2 = dbl (UInt8.ofNat n.val) := by decide +kernel
  have := h ⟨x.toNat, UInt8.toNat_lt x⟩
  simpa using this
theorem times3 (x : UInt8) : tmsI x 3 = x ^^^ dbl x := by
  have h : ∀ n : Fin 256, tmsI (UInt8.ofNat n.val) 3 = UInt8.ofNat n.val ^^^ dbl (UInt8.ofNat n.val) := by decide +kernel
  have := h ⟨x.toNat, UInt8.toNat_lt x⟩
  simpa using this
theorem mix_ref (p q r s : UInt8) : tmsI p 2 ^^^ tmsI q 3 ^^^ r ^^^ s = dbl (p ^^^ q) ^^^ q ^^^ r ^^^ s := by
  rw [times2, times3, dbl_add, UInt8.xor_assoc (dbl p) (dbl q) q, UInt8.xor_comm (dbl q) q]

theorem mod4 (j d : Nat) : ((j : Int) + (d : Int)).tmod 4 = (((j + d) % 4 : Nat) : Int) := by
  rw [Int.tmod_eq_emod_of_nonneg (by omega)]
  omega
theorem mix_idx (b : List UInt8) {k j : Nat} (hk : k < 4) (hj : j < 4) : ∃ t m1 m2 m3 n0 n1 n2 n3 : Nat, 4 * (k : Int) = (t : Int) ∧
    ((j : Int) + 1).tmod 4 = (m1 : Int) ∧ ((j : Int) + 2).tmod 4 = (m2 : Int) ∧ ((j : Int) + 3).tmod 4 = (m3 : Int) ∧ ((j : Int) + 1) % 4 = (m1 : Int) ∧ ((j : Int) + 2) % 4 = (m2 : Int) ∧ ((j : Int) + 3) % 4 = (m3 : Int) ∧
    IntKind.i64.wrap ((t : Int) + (j : Int)) = (n0 : Int) ∧ IntKind.i64.wrap ((t : Int) + (m1 : Int)) = (n1 : Int) ∧ IntKind.i64.wrap ((t : Int) + (m2 : Int)) = (n2 : Int) ∧ IntKind.i64.wrap ((t : Int) + (m3 : Int)) = (n3 : Int) ∧
    IntKind.i64.wrap ((j : Int) + 1) = (j : Int) + 1 ∧ IntKind.i64.wrap ((j : Int) + 2) = (j : Int) + 2 ∧ IntKind.i64.wrap ((j : Int) + 3) = (j : Int) + 3 ∧
    (0 : Int) ≤ (n0 : Int) ∧ (0 : Int) ≤ (n1 : Int) ∧ (0 : Int) ≤ (n2 : Int) ∧ (0 : Int) ≤ (n3 : Int) ∧ (n0 : Int) < 16 ∧ (n1 : Int) < 16 ∧ (n2 : Int) < 16 ∧ (n3 : Int) < 16 ∧
    mixAt b (4 * k + j) = tmsI (b.getD n0 0) 2 ^^^ tmsI (b.getD n1 0) 3 ^^^ b.getD n2 0 ^^^ b.getD n3 0 := by
  refine ⟨4 * k, (j + 1) % 4, (j + 2) % 4, (j + 3) % 4, 4 * k + j, 4 * k + (j + 1) % 4, 4 * k + (j + 2) % 4, 4 * k + (j + 3) % 4, by omega, mod4 j 1, mod4 j 2, mod4 j 3, by omega, by omega, by omega, ?_, ?_, ?_, ?_, ?_, ?_, ?_, by omega, by omega, by omega, by omega, by omega, by omega, by omega, by omega, ?_⟩
  · rw [IntKind.wrap_i64]; omega
  · rw [IntKind.wrap_i64]; omega
  · rw [IntKind.wrap_i64]; omega
  · rw [IntKind.wrap_i64]; omega
  · rw [IntKind.wrap_i64]; omega
  · rw [IntKind.wrap_i64]; omega
  · rw [IntKind.wrap_i64]; omega
  · rw [mix_ref]
    unfold mixAt
    rw [show (4 * k + j) / 4 * 4 + (4 * k + j) % 4 = 4 * k + j from by omega, show (4 * k + j) / 4 * 4 + (4 * k + j + 1) % 4 = 4 * k + (j + 1) % 4 from by omega, show (4 * k + j) / 4 * 4 + (4 * k + j + 2) % 4 = 4 * k + (j + 2) % 4 from by omega, show (4 * k + j) / 4 * 4 + (4 * k + j + 3) % 4 = 4 * k + (j + 3) % 4 from by omega]

set_option maxRecDepth 100000 in
set_option maxHeartbeats 2000000 in
theorem rMixed (w : World) {a' : Option Addr} {c' : Nat} {b : List UInt8} (hb : Bs w a' 16 c' b) :
    Calls Tryz.prog 82 #[.slice a' 16 c'] w (Gives w (mixL b)) := by
  obtain ⟨y, q, rfl, hy, hd⟩ := hb.at (by omega)
  clear hb
  go_enter Tryz.func82, Tryz.ntmps82
  go_wp2_with fail
  go_loopw [3, 4, 5, 6, 7] (fun v i _ _ _ wr => ∃ k : Nat, k ≤ 4 ∧ i = .int .i64 k ∧ Own wr w.heap.size v ((mixL b).take (4 * k)) ∧ Below w.heap.size w wr) (fun _ i _ _ _ _ => 4 - (intOf i).toNat)
  case atStart => exact ⟨0, by omega, rfl, Own.nil _ _, Below.refl _ _⟩
  case round =>
    obtain ⟨k, hk, rfl, ho, hbl⟩ := hrel
    rename World => wo
    by_cases hlt : k < 4
    · have k0 : (0 : Int) ≤ (k : Int) := by omega
      have k4 : (k : Int) < 4 := by omega
      go_wp2_with fail
      go_loopw [3, 5, 6, 7] (fun v i _ _ wr => ∃ j : Nat, j ≤ 4 ∧ i = .int .i64 j ∧ Own wr w.heap.size v ((mixL b).take (4 * k + j)) ∧ Below w.heap.size w wr) (fun _ i _ _ _ => 4 - (intOf i).toNat)
      case atStart => exact ⟨0, by omega, rfl, ho, hbl⟩
      case round =>
        clear ho hbl
        obtain ⟨j, hj, rfl, ho, hbl⟩ := hrel
        by_cases hjl : j < 4
        · have j0 : (0 : Int) ≤ (j : Int) := by omega
          have j4 : (j : Int) < 4 := by omega
          obtain ⟨t, m1, m2, m3, n0, n1, n2, n3, t0, r1, r2, r3, e1, e2, e3, u0, u1, u2, u3, v1, v2, v3, x0, x1, x2, x3, y0, y1, y2, y3, HM⟩ := mix_idx b hlt hjl
          have HS := map16_step (mixAt b) (k := 4 * k + j) (by omega)
          rw [HM] at HS
          clear HM
          have cell : ∀ n, n < 16 → wr.cell? ⟨y, q + n, none⟩ = some (.int .u8 ((b.getD n 0).toNat : Int)) := fun n hn => by rw [hbl.cell (p := ⟨y, q + n, none⟩) hy]; exact hd n hn
          have c0 := cell n0 (Int.ofNat_lt.1 y0)
          have c1 := cell n1 (Int.ofNat_lt.1 y1)
          have c2 := cell n2 (Int.ofNat_lt.1 y2)
          have c3 := cell n3 (Int.ofNat_lt.1 y3)
          clear cell
          generalize b.getD n0 0 = p0 at c0 HS
          generalize b.getD n1 0 = p1 at c1 HS
          generalize b.getD n2 0 = p2 at c2 HS
          generalize b.getD n3 0 = p3 at c3 HS
          have z1 := xor_u8 (tmsI p0 2) (tmsI p1 3)
          generalize tmsI p0 2 ^^^ tmsI p1 3 = g1 at z1 HS
          have z2 := xor_u8 g1 p2
          generalize g1 ^^^ p2 = g2 at z2 HS
          have z3 := xor_u8 g2 p3
          generalize g2 ^^^ p3 = g3 at z3 HS
          have HS' : Hid (_ = _) := HS
          have q0 : (0 : Int) ≤ (g3.toNat : Int) := by omega
          have q1 := u8_hi g3
          have E1 : Hid (UInt8.ofNat (g3.toNat : Int).toNat = g3) := one_u8 g3
          have hrm : ((mixL b).take (4 * k + j)).length + [UInt8.ofNat (g3.toNat : Int).toNat].length ≤ 1000000000 := map16_room _ _ _
          clear HS
          go_wp2_with fail
          go_quiet ((go_at_call 79; exact Calls.quiet_of_same (rTimesI _ _ _ (by decide))))
          generalize hw1 : wr.drewN _ = w1
          have hb1 : Below w.heap.size w w1 := by rw [← hw1]; exact below_drN hbl _
          have ho1 := ho.drN nq
          rw [hw1] at ho1
          have hs1 := hb1.size
          clear hw1 ho hbl c0 c1 c2 c3
          go_wp2_with (at_builtin; refine wpList_app _ rfl (.tmp 53) (.tmp 55) rfl w.heap.size _ _ rfl (ho1.below (below_alloc _ _) (Nat.le_refl _)) _ 1 1 [UInt8.ofNat (g3.toNat : Int).toNat] rfl (Bs.one _ _ q0 q1) hrm (by simp; omega) ?_; intro v2' w2 ho2 hb2)
          go_roundw
          case rel => exact ⟨j + 1, by omega, by go_num, by rw [← Nat.add_assoc, mixL, HS'.out, ← E1.out]; exact ho2, (hb1.alloc hs1 _).trans hb2⟩
          case measure => simp [intOf]; omega
        · obtain rfl : j = 4 := by omega
          go_wp2_with fail
          go_roundw
          case rel => exact ⟨k + 1, by omega, by go_num, by rw [show 4 * (k + 1) = 4 * k + 4 from by omega]; exact ho, hbl⟩
          case measure => simp [intOf]; omega
    · obtain rfl : k = 4 := by omega
      rw [List.take_of_length_le (by rw [mixL_length]; omega)] at ho
      go_wp2
      go_ret
      exact Gives.mk ho hbl

end Go.Proofs.YtjpejheipkfanaaGreatDoor
