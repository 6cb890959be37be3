/-
  The contracts of the reference's roundKey, shifted and mixed. Conditions: blocks of 16 bytes; the box of all bytes, and the words of all rounds' keys, lie where the slices lead.
-/
import Derived.Test.YtofhnigdfmekdaaAesRefA
import Derived.Test.YtofhnigdfmekdaaAesInj
namespace Go.Proofs.Ytofhnigdfmekdaa
open Go.RowKit

/-- The words of all rounds' keys. -/
def wdsL (F : List UInt8) : List (List UInt8) := (List.range 60).map (wd F)
theorem wdsL_at (F : List UInt8) {j : Nat} (h : j < 60) : (wdsL F).getD j [] = wd F j := by simp [wdsL, List.getD_eq_getElem?_getD, h]
theorem rk_step {F : List UInt8} {r k : Nat} : ((F.drop (16 * r)).take (4 * k)) ++ wd F (4 * r + k) = (F.drop (16 * r)).take (4 * (k + 1)) := by
  unfold wd
  rw [show 4 * (k + 1) = 4 * k + 4 from by omega, List.take_add, List.drop_drop, show 16 * r + 4 * k = 4 * (4 * r + k) from by omega]

set_option maxHeartbeats 1000000 in
theorem rRoundKey (w : World) {a : Option Addr} {c : Nat} {F : List UInt8} (hF : F.length = 240) (ha : Bss w a 60 c (wdsL F)) (r : Nat) (hr : r ≤ 14) :
    Calls Try.prog 29 #[.slice a 60 c, .int .i64 (r : Int)] w (Gives w (rk F r)) := by
  obtain ⟨x, o, rfl, hx, hc⟩ := ha.at (by omega)
  have HF : Hid (F.length = 240) := hF
  clear ha hF
  go_enter Try.func29, Try.ntmps29
  go_wp2_with fail
  go_loopw [5, 6] (fun v i wr => ∃ k : Nat, k ≤ 4 ∧ i = .int .i64 k ∧ Own wr w.heap.size v ((F.drop (16 * r)).take (4 * k)) ∧ Below w.heap.size w wr) (fun _ i _ => 4 - (intOf i).toNat)
  case atStart => exact ⟨0, by omega, rfl, Own.nil _ _, Below.refl _ _⟩
  case round =>
    obtain ⟨k, hk, rfl, ho, hb⟩ := hrel
    by_cases hlt : k < 4
    · obtain ⟨p, m, q, c1, hB⟩ := Bss.part hc hb (4 * r + k) (by omega)
      have hB' := hB.below hb (Nat.le_refl _)
      rw [wdsL_at F (by omega)] at hB'
      have HS : Hid (_ = _) := rk_step (F := F) (r := r) (k := k)
      have HWL : Hid ((wd F (4 * r + k)).length = 4) := wd_length (by have := HF.out; omega)
      obtain ⟨j, hj⟩ : ∃ j, j = 4 * r + k := ⟨_, rfl⟩
      rw [← hj] at c1 hB' HS HWL
      have hj0 : 4 * (r : Int) + (k : Int) = (j : Int) := by omega
      have hj1 : (0 : Int) ≤ (j : Int) := by omega
      have hj2 : (j : Int) < 60 := by omega
      have hrm : ((F.drop (16 * r)).take (4 * k)).length + (wd F j).length ≤ 1000000000 := by rw [HWL.out, List.length_take]; omega
      clear hj hB
      go_wp2_with (at_builtin; refine wpList_app _ rfl (.tmp 11) (.tmp 18) rfl w.heap.size _ _ rfl ho p m q (wd F j) rfl hB' hrm hb.size ?_; intro v2 w2 ho2 hb2)
      go_roundw
      case rel => exact ⟨k + 1, by omega, by go_num, by rw [← HS.out]; exact ho2, hb.trans hb2⟩
      case measure => simp [intOf]; omega
    · obtain rfl : k = 4 := by omega
      go_wp2
      go_ret
      exact Gives.mk ho hb

theorem map16_step (f : Nat → UInt8) {k : Nat} (h : k < 16) : ((List.range 16).map f).take (k + 1) = ((List.range 16).map f).take k ++ [f k] := by
  rw [take_snoc (by simp; exact h)]
  simp
theorem map16_room (f : Nat → UInt8) (k : Nat) (x : UInt8) : (((List.range 16).map f).take k).length + [x].length ≤ 1000000000 := take_room (n := 16) (by simp) (by omega) k x

set_option maxHeartbeats 2000000 in
theorem rShifted (w : World) {a a' : Option Addr} {c c' : Nat} {b : List UInt8} (hX : Bs w a 256 c boxT) (hb : Bs w a' 16 c' b) :
    Calls Try.prog 31 #[.slice a 256 c, .slice a' 16 c'] w (Gives w (shf b)) := by
  obtain ⟨x, o, rfl, hx, hc⟩ := hX.at (by omega)
  obtain ⟨y, q, rfl, hy, hd⟩ := hb.at (by omega)
  have HB : Hid (b.length = 16) := hb.len
  clear hX hb
  go_enter Try.func31, Try.ntmps31
  go_wp2_with fail
  go_loopw [5, 6, 7] (fun v i _ wr => ∃ k : Nat, k ≤ 4 ∧ i = .int .i64 k ∧ Own wr w.heap.size v ((shf b).take (4 * k)) ∧ Below w.heap.size w wr) (fun _ i _ _ => 4 - (intOf i).toNat)
  case atStart => exact ⟨0, by omega, rfl, Own.nil _ _, Below.refl _ _⟩
  case round =>
    obtain ⟨k, hk, rfl, ho, hbl⟩ := hrel
    rename World => wo
    by_cases hlt : k < 4
    · have k0 : (0 : Int) ≤ (k : Int) := by omega
      have k4 : (k : Int) < 4 := by omega
      go_wp2_with fail
      go_loopw [5, 7] (fun v i wr => ∃ j : Nat, j ≤ 4 ∧ i = .int .i64 j ∧ Own wr w.heap.size v ((shf b).take (4 * k + j)) ∧ Below w.heap.size w wr) (fun _ i _ => 4 - (intOf i).toNat)
      case atStart => exact ⟨0, by omega, rfl, ho, hbl⟩
      case round =>
        clear ho hbl
        obtain ⟨j, hj, rfl, ho, hbl⟩ := hrel
        by_cases hjl : j < 4
        · have j0 : (0 : Int) ≤ (j : Int) := by omega
          have j4 : (j : Int) < 4 := by omega
          obtain ⟨m, hm⟩ : ∃ m, m = (k + j) % 4 := ⟨_, rfl⟩
          have m0 : ((k : Int) + (j : Int)) % 4 = (m : Int) := by omega
          have m1 : ((k : Int) + (j : Int)).tmod 4 = (m : Int) := by rw [Int.tmod_eq_emod_of_nonneg (by omega)]; omega
          obtain ⟨n, hn⟩ : ∃ n, n = 4 * m + j := ⟨_, rfl⟩
          have n0 : 4 * (m : Int) + (j : Int) = (n : Int) := by omega
          have n1 : (0 : Int) ≤ (n : Int) := by omega
          have n2 : (n : Int) < 16 := by omega
          have HS := map16_step (fun i => box (b.getD ((i + i % 4 * 4) % 16) 0)) (k := 4 * k + j) (by omega)
          rw [show (4 * k + j + (4 * k + j) % 4 * 4) % 16 = n from by omega] at HS
          have c1 : wr.cell? ⟨y, q + n, none⟩ = some (.int .u8 (bt b n)) := by rw [hbl.cell (p := ⟨y, q + n, none⟩) hy]; exact hd n (by omega)
          unfold bt at c1
          generalize b.getD n 0 = p at c1 HS
          have hpl := b_lt p
          have hp0 : (0 : Int) ≤ (p.toNat : Int) := by omega
          have hp1 : (p.toNat : Int) < 256 := by omega
          have c2 : wr.cell? ⟨x, o + p.toNat, none⟩ = some (.int .u8 ((box p).toNat : Int)) := by rw [hbl.cell (p := ⟨x, o + p.toNat, none⟩) hx, hc p.toNat hpl, box_at]
          generalize box p = z at c2 HS
          have HS' : Hid (_ = _) := HS
          have q0 : (0 : Int) ≤ (z.toNat : Int) := by omega
          have q1 := u8_hi z
          have E1 : Hid (UInt8.ofNat (z.toNat : Int).toNat = z) := one_u8 z
          have hrm : ((shf b).take (4 * k + j)).length + [UInt8.ofNat (z.toNat : Int).toNat].length ≤ 1000000000 := map16_room _ _ _
          have hs := hbl.size
          clear HS hm hn
          go_wp2_with (at_builtin; refine wpList_app _ rfl (.tmp 16) (.tmp 30) rfl w.heap.size _ _ rfl (ho.below (below_alloc _ _) (Nat.le_refl _)) _ 1 1 [UInt8.ofNat (z.toNat : Int).toNat] rfl (Bs.one _ _ q0 q1) hrm (by simp; omega) ?_; intro v2 w2 ho2 hb2)
          go_roundw
          case rel => exact ⟨j + 1, by omega, by go_num, by rw [← Nat.add_assoc, shf, HS'.out, ← E1.out]; exact ho2, (hbl.alloc hs _).trans hb2⟩
          case measure => simp [intOf]; omega
        · obtain rfl : j = 4 := by omega
          go_wp2_with fail
          go_roundw
          case rel => exact ⟨k + 1, by omega, by go_num, by rw [show 4 * (k + 1) = 4 * k + 4 from by omega]; exact ho, hbl⟩
          case measure => simp [intOf]; omega
    · obtain rfl : k = 4 := by omega
      rw [List.take_of_length_le (by rw [shf_length]; omega)] at ho
      go_wp2
      go_ret
      exact Gives.mk ho hbl

end Go.Proofs.Ytofhnigdfmekdaa
