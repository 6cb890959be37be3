/-
  The contract of the smoke of layer 11's statements: it answers true. No condition.
-/
import Derived.Test.YtphkkbkfioaikaaTapPB
import Derived.Test.YtphkkbkfioaikaaTapPC
namespace Go.Proofs.Ytphkkbkfioaikaa
open Go.RowKit

def s11l : List (List UInt8) := [key32 [1], key32 [2]]
theorem s11a : TapS.new [[1], [2]] = ⟨s11l, 0⟩ := rfl
theorem s11b : (⟨s11l, 0⟩ : TapS).draw = (⟨s11l, 1⟩, key32 [1], 0) := rfl
theorem s11c : (⟨s11l, 1⟩ : TapS).draw = (⟨s11l, 2⟩, key32 [2], 0) := rfl
theorem s11d : (⟨s11l, 2⟩ : TapS).draw = (⟨s11l, 2⟩, [], 8) := rfl
theorem s11e : (⟨s11l, 2⟩ : TapS).apart = true := by decide +kernel
theorem s11f : bt (key32 [1]) 0 = 1 := by decide +kernel
theorem s11n : s11l.length = 2 := rfl

set_option maxRecDepth 100000 in
set_option maxHeartbeats 2000000 in
theorem lWorks11 (w : World) : Calls Try.prog 7 #[] w fun e w' => e = .returned (.bool true) ∧ Below w.heap.size w w' := by
  have hA : Bs (w.alloc (.cells #[.int .u8 1] 5)) (some ⟨w.heap.size, 0, none⟩) 1 1 [1] := Bs.one w 1 (by omega) (by omega)
  have hA2 := hA.below (below_alloc _ (.cells #[.int .u8 2] 5)) (Nat.le_refl _)
  have hB : Bs ((w.alloc (.cells #[.int .u8 1] 5)).alloc (.cells #[.int .u8 2] 5)) (some ⟨w.heap.size + 1, 0, none⟩) 1 1 [2] := by
    have := Bs.one (w.alloc (.cells #[.int .u8 1] 5)) 2 (by omega) (by omega)
    rw [World.size_alloc] at this
    exact this
  have hC : Bss (((w.alloc (.cells #[.int .u8 1] 5)).alloc (.cells #[.int .u8 2] 5)).alloc (.cells #[.slice (some ⟨w.heap.size, 0, none⟩) 1 1, .slice (some ⟨w.heap.size + 1, 0, none⟩) 1 1] 31)) (some ⟨w.heap.size + 1 + 1, 0, none⟩) 2 2 [[1], [2]] := by
    have := Bss.two hA2 hB
    rw [World.size_alloc, World.size_alloc] at this
    exact this
  have CN := oTNew _ hC (by omega)
  have k0 : Below w.heap.size w (((w.alloc (.cells #[.int .u8 1] 5)).alloc (.cells #[.int .u8 2] 5)).alloc (.cells #[.slice (some ⟨w.heap.size, 0, none⟩) 1 1, .slice (some ⟨w.heap.size + 1, 0, none⟩) 1 1] 31)) := below3 _ _ _ _
  rw [s11a] at CN
  clear hA hA2 hB hC
  go_enter Try.func7, Try.ntmps7
  go_wp2_with fail
  refine CN.mono ?_
  rintro e w1 ⟨t, kb, rfl, hT1, ht, hkb, hb1⟩
  have k1 : Below w.heap.size w w1 := k0.trans (hb1.mono k0.size)
  have ht1 : w.heap.size ≤ t := Nat.le_trans k0.size ht
  clear CN k0 ht hkb hb1
  go_wp2_with fail
  refine (oTDraw w1 hT1).mono ?_
  rw [s11b]
  rintro e w2 ⟨p2, m2, q2, rfl, hO2, hT2, hK2⟩
  have htl : t < w1.heap.size := hT1.b.lt
  have k2 : Below w.heap.size w w2 := k1.trans (hK2.below k1.size fun j hj e => by omega)
  clear hK2 hT1
  dsimp only at hT2 hO2 ⊢
  go_wp2_with fail
  refine (oTDraw w2 hT2).mono ?_
  rw [s11c]
  rintro e w3 ⟨p3, m3, q3, rfl, _, hT3, hK3⟩
  have hO3 := hO2.but hK3.grown htl
  have k3 : Below w.heap.size w w3 := k2.trans (hK3.below k2.size fun j hj e => by omega)
  clear hK3 hT2 hO2 k2
  dsimp only at hT3 ⊢
  go_wp2_with fail
  refine (oTDraw w3 hT3).mono ?_
  rw [s11d]
  rintro e w4 ⟨p4, m4, q4, rfl, _, hT4, hK4⟩
  have hO4 := (hO3.but hK4.grown htl).toBs
  have k4 : Below w.heap.size w w4 := k3.trans (hK4.below k3.size fun j hj e => by omega)
  clear hK4 hT3 hO3 k3
  dsimp only at hT4 ⊢
  have hm : m2 = 32 := by have := hO4.len; rw [key32_length] at this; exact this.symm
  subst hm
  obtain ⟨xb, xo, rfl, hxb, hxc⟩ := hO4.at (by omega)
  have cA := hxc 0 (by omega)
  rw [s11f, Nat.add_zero] at cA
  clear hO4 hxc
  go_wp2_with fail
  refine (oTApart w4 hT4).mono ?_
  rw [s11e]
  rintro e w5 ⟨rfl, hb5⟩
  have hT5 := hT4.grow hb5
  have k5 : Below w.heap.size w w5 := k4.trans (hb5.mono k4.size)
  clear hT4 k4 hb5
  go_wp2_with fail
  refine (oTDrawn w5 hT5).mono ?_
  rintro e w6 ⟨rfl, hb6⟩
  have hT6 := hT5.grow hb6
  have k6 : Below w.heap.size w w6 := k5.trans (hb6.mono k5.size)
  clear hT5 k5 hb6
  dsimp only
  go_wp2_with fail
  refine (oTLeft w6 hT6).mono ?_
  rintro e w7 ⟨rfl, hb7⟩
  have k7 : Below w.heap.size w w7 := k6.trans (hb7.mono k6.size)
  clear hT6 k6 hb7
  dsimp only
  rw [s11n]
  go_wp2_with fail
  refine (oNoise 5 20 w7 (by omega) (by omega) (by omega) (by omega)).mono ?_
  rintro e w8 ⟨a8, m8, c8, rfl, o8, hb8⟩
  have hm8 : m8 = 20 := by have := o8.toBs.len; rw [noiseL_length] at this; exact this.symm
  subst hm8
  have k8 : Below w.heap.size w w8 := k7.trans (hb8.mono k7.size)
  clear o8 k7 hb8
  go_wp2_with fail
  go_ret
  exact ⟨rfl, k8⟩

end Go.Proofs.Ytphkkbkfioaikaa
