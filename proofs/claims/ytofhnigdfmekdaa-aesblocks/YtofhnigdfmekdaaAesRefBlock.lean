/-
  The contract of the reference's Block. Conditions: a block of 16 bytes; the box of all bytes, and the words of all rounds' keys, lie where the slices lead.
-/
import Derived.Test.YtofhnigdfmekdaaAesRefW
namespace Go.Proofs.Ytofhnigdfmekdaa
open Go.RowKit

/-- Sixteen bytes that a call handed back. -/
theorem Own.bs16 {w : World} {b : Nat} {p : Option Addr} {m q : Nat} {l : List UInt8} (h : Own w b (.slice p m q) l) (hl : l.length = 16) : m = 16 := by
  rw [← h.toBs.len]; exact hl

set_option maxRecDepth 100000 in
set_option maxHeartbeats 2000000 in
theorem rBlock (w : World) {a wa ab : Option Addr} {c wc' cb : Nat} {F b : List UInt8} (hX : Bs w a 256 c boxT) (hF : F.length = 240) (hW : Bss w wa 60 wc' (wdsL F)) (hb : Bs w ab 16 cb b) :
    Calls Try.prog 16 #[.slice a 256 c, .slice wa 60 wc', .slice ab 16 cb] w (Gives w (aesL F b)) := by
  have HB : Hid (b.length = 16) := hb.len
  have HR : Hid (∀ r, r ≤ 14 → (rk F r).length = 16) := fun r hr => rk_length hF hr
  have HS : Hid (∀ r, r ≤ 14 → (blkS F b r).length = 16) := fun r hr => blkS_length hF HB.out hr
  have CK : Hid (∀ (w : World) (r : Nat), Bss w wa 60 wc' (wdsL F) → r ≤ 14 → Calls Try.prog 29 #[.slice wa 60 wc', .int .i64 (r : Int)] w (Gives w (rk F r))) := fun w r h hr => rRoundKey w hF h r hr
  have C0 : Hid (Calls Try.prog 29 #[.slice wa 60 wc', .int .i64 0] w (Gives w (rk F 0))) := CK.out w 0 hW (by omega)
  clear hF
  go_enter Try.func16, Try.ntmps16
  go_wp2_with fail
  refine C0.out.mono ?_
  rintro e w1 ⟨a1, m1, c1, rfl, ho1, hb1⟩
  obtain rfl := ho1.bs16 (HR.out 0 (by omega))
  go_wp2_with fail
  refine (rBoth w1 (hb.below hb1 (Nat.le_refl _)) ho1.toBs (by omega) (by omega)).mono ?_
  rintro e w2 ⟨a2, m2, c2, rfl, ho2, hb2⟩
  have q2 := hb1.trans (hb2.mono hb1.size)
  obtain rfl := ho2.bs16 (HS.out 0 (by omega))
  have hB2 : Bs w2 a2 16 c2 (blkS F b 0) := ho2.toBs
  clear ho1 ho2 hb1 hb2 C0
  go_wp2_with fail
  go_loopw [7, 8] (fun v i wr => ∃ (r : Nat) (ax : Option Addr) (cx : Nat), r < 14 ∧ i = .int .i64 ((r : Int) + 1) ∧ v = .slice ax 16 cx ∧ Bs wr ax 16 cx (blkS F b r) ∧ Below w.heap.size w wr) (fun _ i _ => 14 - (intOf i).toNat)
  case atStart => exact ⟨0, a2, c2, by omega, rfl, rfl, hB2, q2⟩
  case round =>
    clear hB2 q2
    obtain ⟨r, ax, cx, hr, rfl, rfl, hB, hbl⟩ := hrel
    by_cases hlt : r < 13
    · have h1 : (r : Int) + 1 < 14 := by omega
      have HN : Hid (blkS F b (r + 1) = xorL (mixL (shf (blkS F b r))) (rk F (r + 1))) := by show _ = _; rw [blkS, if_pos (by omega)]
      go_wp2_with fail
      refine (rShifted wr (hX.below hbl (Nat.le_refl _)) hB).mono ?_
      rintro e w3 ⟨a3, m3, c3, rfl, ho3, hb3⟩
      have q3 := hbl.trans (hb3.mono hbl.size)
      obtain rfl := ho3.bs16 (shf_length _)
      go_wp2_with fail
      refine (rMixed w3 ho3.toBs).mono ?_
      rintro e w4 ⟨a4, m4, c4, rfl, ho4, hb4⟩
      have q4 := q3.trans (hb4.mono q3.size)
      obtain rfl := ho4.bs16 (mixL_length _)
      have CR : Hid (Calls Try.prog 29 #[.slice wa 60 wc', .int .i64 ((r : Int) + 1)] w4 (Gives w4 (rk F (r + 1)))) := by
        have := CK.out w4 (r + 1) (hW.below q4 (Nat.le_refl _)) (by omega)
        rw [show ((r + 1 : Nat) : Int) = (r : Int) + 1 from by omega] at this
        exact this
      go_wp2_with fail
      refine CR.out.mono ?_
      rintro e w5 ⟨a5, m5, c5, rfl, ho5, hb5⟩
      have q5 := q4.trans (hb5.mono q4.size)
      obtain rfl := ho5.bs16 (HR.out (r + 1) (by omega))
      go_wp2_with fail
      refine (rBoth w5 (ho4.toBs.below hb5 (Nat.le_refl _)) ho5.toBs (by omega) (by omega)).mono ?_
      rintro e w6 ⟨a6, m6, c6, rfl, ho6, hb6⟩
      have q6 := q5.trans (hb6.mono q5.size)
      rw [← HN.out] at ho6
      obtain rfl := ho6.bs16 (HS.out (r + 1) (by omega))
      have hB6 := ho6.toBs
      clear ho3 ho4 ho5 ho6 hb3 hb4 hb5 hb6 q3 q4 q5 hB hbl CR
      go_wp2_with fail
      go_roundw
      case rel => exact ⟨r + 1, a6, c6, by omega, by go_num, rfl, hB6, q6⟩
      case measure => simp [intOf]; omega
    · obtain rfl : r = 13 := by omega
      have HN : Hid (aesL F b = xorL (shf (blkS F b 13)) (rk F 14)) := rfl
      go_wp2_with fail
      refine (rShifted wr (hX.below hbl (Nat.le_refl _)) hB).mono ?_
      rintro e w3 ⟨a3, m3, c3, rfl, ho3, hb3⟩
      have q3 := hbl.trans (hb3.mono hbl.size)
      obtain rfl := ho3.bs16 (shf_length _)
      have CR : Hid (Calls Try.prog 29 #[.slice wa 60 wc', .int .i64 14] w3 (Gives w3 (rk F 14))) := CK.out w3 14 (hW.below q3 (Nat.le_refl _)) (by omega)
      go_wp2_with fail
      refine CR.out.mono ?_
      rintro e w5 ⟨a5, m5, c5, rfl, ho5, hb5⟩
      have q5 := q3.trans (hb5.mono q3.size)
      obtain rfl := ho5.bs16 (HR.out 14 (by omega))
      go_wp2_with fail
      refine (rBoth w5 (ho3.toBs.below hb5 (Nat.le_refl _)) ho5.toBs (by omega) (by omega)).mono ?_
      rintro e w6 ⟨a6, m6, c6, rfl, ho6, hb6⟩
      have q6 := q5.trans (hb6.mono q5.size)
      rw [← HN.out] at ho6
      go_wp2_with fail
      go_ret
      exact Gives.mk (ho6.mono q5.size) q6

end Go.Proofs.Ytofhnigdfmekdaa
