/-
  The contract of the reference's Of: the sum under a key. Condition: rows of at most 90000 bytes.
-/
import Derived.Test.YtpmdjailpdajkaaDoorRefTurned
namespace Go.Proofs.YtpmdjailpdajkaaDoor
open Go.RowKit

set_option maxHeartbeats 1000000 in
theorem rOf (w : World) {a b : Option Addr} {n c m q : Nat} {l t : List UInt8} (ha : Bs w a n c l) (hz : n ≤ 90000) (hb : Bs w b m q t) (hm : m ≤ 90000) :
    Calls Tryd.prog 11 #[.slice a n c, .slice b m q] w (Gives w (macL l t)) := by
  have HT : Hid (t.length = m) := hb.len
  obtain ⟨X, hX⟩ : ∃ X, X = xorB (blkL l) 54 := ⟨_, rfl⟩
  obtain ⟨Y, hY⟩ : ∃ Y, Y = xorB (blkL l) 92 := ⟨_, rfl⟩
  have HL1 : Hid (X.length = 64) := by show _ = _; rw [hX, xorB_length, blkL_length]
  have HL2 : Hid (Y.length = 64) := by show _ = _; rw [hY, xorB_length, blkL_length]
  have C1 : Hid (∀ w, Bs w a n c l → Calls Tryd.prog 26 #[.slice a n c, .int .u8 54] w (Gives w X)) := fun w h => by rw [hX]; exact rTurnedI w h hz
  have C2 : Hid (∀ w, Bs w a n c l → Calls Tryd.prog 26 #[.slice a n c, .int .u8 92] w (Gives w Y)) := fun w h => by rw [hY]; exact rTurnedO w h hz
  have E : Hid (macL l t = sumL (Y ++ sumL (X ++ t))) := by show _ = _; rw [hX, hY]; rfl
  rw [E.out]
  obtain ⟨Z, hZ⟩ : ∃ Z, Z = sumL (X ++ t) := ⟨_, rfl⟩
  have HL3 : Hid (Z.length = 32) := by show _ = _; rw [hZ, sumL_length]
  have C3 : Hid (∀ w a n c, Bs w a n c (X ++ t) → Calls Tryd.prog 18 #[.slice a n c] w (Gives w Z)) := fun w a n c h => by
    rw [hZ]
    exact rSum w h (by have := h.len; have := HL1.out; have := HT.out; rw [List.length_append] at *; omega)
  rw [← hZ]
  obtain ⟨V, hV⟩ : ∃ V, V = sumL (Y ++ Z) := ⟨_, rfl⟩
  have C4 : Hid (∀ w a n c, Bs w a n c (Y ++ Z) → Calls Tryd.prog 18 #[.slice a n c] w (Gives w V)) := fun w a n c h => by
    rw [hV]
    exact rSum w h (by have := h.len; have := HL2.out; have := HL3.out; rw [List.length_append] at *; omega)
  rw [← hV]
  clear hX hY hZ hV E
  go_enter Tryd.func11, Tryd.ntmps11
  go_wp2_with fail
  refine (C1.out w ha).mono ?_
  rintro e w1 ⟨a1, m1, c1, rfl, ho1, hb1⟩
  go_wp2_with (at_builtin; refine wpList_app _ rfl (.tmp 7) (.tmp 8) rfl w.heap.size _ _ rfl ho1 _ _ _ _ rfl (hb.below hb1 (Nat.le_refl _)) (by have := HL1.out; have := HT.out; omega) hb1.size ?_; intro v2 w2 ho2 hb2; obtain ⟨a2, m2, c2, rfl, hB2⟩ := ho2.bs3; have q2 := hb1.trans hb2)
  refine (C3.out w2 _ _ _ hB2).mono ?_
  rintro e w3 ⟨a3, m3, c3, rfl, ho3, hb3⟩
  have q3 := q2.trans (hb3.mono q2.size)
  go_wp2_with fail
  refine (C2.out w3 (ha.below q3 (Nat.le_refl _))).mono ?_
  rintro e w4 ⟨a4, m4, c4, rfl, ho4, hb4⟩
  have q4 := q3.trans (hb4.mono q3.size)
  go_wp2_with (at_builtin; refine wpList_app _ rfl (.tmp 12) (.tmp 13) rfl w3.heap.size _ _ rfl ho4 _ _ _ _ rfl (ho3.toBs.below hb4 (Nat.le_refl _)) (by have := HL2.out; have := HL3.out; omega) hb4.size ?_; intro v5 w5 ho5 hb5; obtain ⟨a5, m5, c5, rfl, hB5⟩ := ho5.bs3; have q5 := q4.trans (hb5.mono q3.size))
  refine (C4.out w5 _ _ _ hB5).mono ?_
  rintro e w6 ⟨a6, m6, c6, rfl, ho6, hb6⟩
  go_wp2
  go_ret
  exact ⟨a6, m6, c6, rfl, ho6.mono q5.size, q5.trans (hb6.mono q5.size)⟩

end Go.Proofs.YtpmdjailpdajkaaDoor
