/-
  The contract of the reference's turned: a key's block, each byte exclusive-ored. Condition: rows of at most 90000 bytes.
-/
import Derived.Test.YtpmdjailpdajkaaDoorMacsL
import Derived.Test.YtpmdjailpdajkaaDoorMasked
import Derived.Deep.DeepCutAuto
namespace Go.Proofs.YtpmdjailpdajkaaDoor
open Go.RowKit

theorem blk_in {key : List UInt8} {k : Nat} (h : k < (keyL key).length) : (blkL key).getD k 0 = (keyL key).getD k 0 := by
  unfold blkL
  rw [List.getD_eq_getElem?_getD, List.getElem?_append_left h, ← List.getD_eq_getElem?_getD]
theorem blk_out {key : List UInt8} {k : Nat} (h : ¬ k < (keyL key).length) : (blkL key).getD k 0 = 0 := by
  unfold blkL
  rw [List.getD_eq_getElem?_getD, List.getElem?_append_right (by omega), List.getElem?_replicate]
  split <;> rfl
theorem xor_snoc {b : List UInt8} {k : Nat} (h : k < b.length) (x : UInt8) : xorB (b.take k) x ++ [b.getD k 0 ^^^ x] = xorB (b.take (k + 1)) x := by
  rw [take_snoc h, List.getD_eq_getElem?_getD, List.getElem?_eq_getElem h]
  unfold xorB
  rw [List.map_append]
  rfl
theorem one_u8 (x : UInt8) : UInt8.ofNat ((x.toNat : Int)).toNat = x := by simp
theorem u8_hi (x : UInt8) : (x.toNat : Int) ≤ 255 := by have := UInt8.toNat_lt x; omega

set_option maxHeartbeats 1000000 in
theorem rTurned (w : World) {a : Option Addr} {n c : Nat} {l : List UInt8} (ha : Bs w a n c l) (hz : n ≤ 90000) (x : UInt8) :
    Calls Tryd.prog 26 #[.slice a n c, .int .u8 (x.toNat : Int)] w (Gives w (xorB (blkL l) x)) := by
  have CS : Hid (Calls Tryd.prog 18 #[.slice a n c] w (Gives w (sumL l))) := rSum w ha (by omega)
  have hlen := ha.len
  go_enter Tryd.func26, Tryd.ntmps26
  go_upto_if 11 with fail
  go_cut [5] (fun v wx => ∃ a' c', v = .slice a' (keyL l).length c' ∧ Bs wx a' (keyL l).length c' (keyL l) ∧ Below w.heap.size w wx)
  case first =>
    by_cases h64 : n ≤ 64
    · have e : keyL l = l := by unfold keyL; rw [if_pos (by omega)]
      have E : Hid (keyL l = l) := e
      clear e
      go_wp2_with fail
      go_meet
      case rel => rw [E.out, hlen]; exact ⟨a, c, rfl, ha, Below.refl _ _⟩
    · have e : keyL l = sumL l := by unfold keyL; rw [if_neg (by omega)]
      have E : Hid (keyL l = sumL l) := e
      clear e
      go_wp2_with (first | (go_at_call 18; refine CS.out.mono ?_; rintro e w1 ⟨a1, m1, c1, rfl, ho1, hb1⟩))
      go_meet
      case rel =>
        have hB := ho1.toBs
        rw [E.out, hB.len]
        exact ⟨a1, c1, rfl, hB, hb1⟩
  case rest =>
    obtain ⟨a', c', rfl, hB, hb0⟩ := hcut
    have hk64 := keyL_length l
    have HBL : Hid ((blkL l).length = 64) := blkL_length l
    obtain ⟨m, hm⟩ : ∃ m, (keyL l).length = m := ⟨_, rfl⟩
    have HM : Hid ((keyL l).length = m) := hm
    rw [hm] at hB hk64 ⊢
    clear hm CS hlen ha hz
    go_wp2_with fail
    go_loopw [6, 7] (fun v i wr => ∃ k : Nat, k ≤ 64 ∧ i = .int .i64 k ∧ Own wr wc.heap.size v (xorB ((blkL l).take k) x) ∧ Below wc.heap.size wc wr) (fun _ i _ => 64 - (intOf i).toNat)
    case atStart => exact ⟨0, by omega, rfl, Own.nil _ _, Below.refl _ _⟩
    case round =>
      obtain ⟨k, hk, rfl, ho, hb⟩ := hrel
      by_cases hlt : k < 64
      · have hs := hb.size
        have HS := xor_snoc (b := blkL l) (k := k) (by rw [HBL.out]; exact hlt) x
        have hrm : (xorB ((blkL l).take k) x).length ≤ 64 := by rw [xorB_length, List.length_take]; omega
        by_cases hin : k < m
        · obtain ⟨b, o, rfl, hbl, hc⟩ := hB.at (by omega)
          have c1 : wr.cell? ⟨b, o + k, none⟩ = some (.int .u8 (bt (keyL l) k)) := by rw [hb.cell (p := ⟨b, o + k, none⟩) hbl]; exact hc k hin
          unfold bt at c1
          rw [blk_in (by rw [HM.out]; exact hin)] at HS
          clear hc
          generalize hp : (keyL l).getD k 0 = p at c1 HS
          clear hp
          have hx0 : bits .xor .u8 (p.toNat : Int) (x.toNat : Int) = ((p ^^^ x).toNat : Int) := xor_u8 p x
          have q0 : (0 : Int) ≤ ((p ^^^ x).toNat : Int) := by omega
          have q1 := u8_hi (p ^^^ x)
          have e1 := one_u8 (p ^^^ x)
          generalize hy : p ^^^ x = y at *
          have HS' : Hid (_ = _) := HS
          have E1 : Hid (UInt8.ofNat (y.toNat : Int).toNat = y) := e1
          clear HS hy e1
          go_wp2_with (first
            | (at_builtin; refine wpList_app _ rfl (.tmp 22) (.tmp 29) rfl wc.heap.size _ _ rfl (ho.below (below_alloc _ _) (Nat.le_refl _)) _ 1 1 [UInt8.ofNat (y.toNat : Int).toNat] rfl (Bs.one _ _ q0 q1) (by simp only [List.length_singleton]; omega) (by simp; omega) ?_; intro v2 w2 ho2 hb2))
          go_roundw
          case rel => exact ⟨k + 1, by omega, by go_num, by rw [← HS'.out, ← E1.out]; exact ho2, (hb.alloc hs _).trans hb2⟩
          case measure => simp [intOf]; omega
        · have e0 : (blkL l).getD k 0 = 0 := blk_out (by rw [HM.out]; exact hin)
          rw [e0, UInt8.zero_xor] at HS
          have q0 : (0 : Int) ≤ (x.toNat : Int) := by omega
          have q1 := u8_hi x
          have E1 : Hid (UInt8.ofNat (x.toNat : Int).toNat = x) := one_u8 x
          have HS' : Hid (_ = _) := HS
          clear HS e0
          go_wp2_with (first
            | (at_builtin; refine wpList_app _ rfl (.tmp 31) (.tmp 33) rfl wc.heap.size _ _ rfl (ho.below (below_alloc _ _) (Nat.le_refl _)) _ 1 1 [UInt8.ofNat (x.toNat : Int).toNat] rfl (Bs.one _ _ q0 q1) (by simp only [List.length_singleton]; omega) (by simp; omega) ?_; intro v2 w2 ho2 hb2))
          go_roundw
          case rel => exact ⟨k + 1, by omega, by go_num, by rw [← HS'.out]; rw [E1.out] at ho2; exact ho2, (hb.alloc hs _).trans hb2⟩
          case measure => simp [intOf]; omega
      · go_wp2
        go_ret
        rw [List.take_of_length_le (by rw [HBL.out]; omega)] at ho
        exact Gives.mk (ho.mono hb0.size) (hb0.trans (hb.mono hb0.size))

theorem rTurnedI (w : World) {a : Option Addr} {n c : Nat} {l : List UInt8} (ha : Bs w a n c l) (hz : n ≤ 90000) :
    Calls Tryd.prog 26 #[.slice a n c, .int .u8 54] w (Gives w (xorB (blkL l) 54)) := by
  have := rTurned w ha hz 54
  rw [show (((54 : UInt8).toNat : Nat) : Int) = 54 from rfl] at this
  exact this
theorem rTurnedO (w : World) {a : Option Addr} {n c : Nat} {l : List UInt8} (ha : Bs w a n c l) (hz : n ≤ 90000) :
    Calls Tryd.prog 26 #[.slice a n c, .int .u8 92] w (Gives w (xorB (blkL l) 92)) := by
  have := rTurned w ha hz 92
  rw [show (((92 : UInt8).toNat : Nat) : Int) = 92 from rfl] at this
  exact this

end Go.Proofs.YtpmdjailpdajkaaDoor
