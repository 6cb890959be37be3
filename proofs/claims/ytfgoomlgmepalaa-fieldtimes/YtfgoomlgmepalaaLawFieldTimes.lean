/-
  Proved: for any two rows of sixteen bytes the statement FieldTimes of layer 5 answers true and leaves its arguments as they were. Conditions beside the statement's own: none.
-/
import Derived.Test.YtfgoomlgmepalaaRows
import Derived.Test.YtfgoomlgmepalaaOpenArr
import Derived.Test.YtfgoomlgmepalaaFieldS
import Derived.Test.YtfgoomlgmepalaaFieldE
import Derived.Test.YtfgoomlgmepalaaFieldX
import Derived.Test.YtfgoomlgmepalaaRefFieldD
import Derived.Test.YtfgoomlgmepalaaRXor
import Derived.Test.YtfgoomlgmepalaaSameT
import Derived.Below
import Derived.ChangeOld
namespace Go.Proofs.Ytfgoomlgmepalaa
namespace FieldTimesLaw
open Go.ChangeShapes Go.WideShapes Go.ChangeAt Go.RowKit
open Go.ChangeMaps (open_string shut_string)
set_option linter.unusedVariables false

theorem own : ownKnob Try.prog.godebug = none := by kernel_rfl
theorem laidOut : laidOutB Try.prog = true := by kernel_rfl

set_option maxRecDepth 100000 in
set_option maxHeartbeats 4000000 in
theorem walk (l0 : List UInt8) (l1 : List UInt8) (w : World) (w0 : l0.length = 16) (w1 : l1.length = 16) :
    Calls Try.prog 3 #[.agg (cs l0).toArray, .agg (cs l1).toArray] w fun e w' => e = .returned (.bool true) ∧ Below w.heap.size w w' := by
  have hall := allK
  have HL0 : Hid (l0.length = 16) := w0
  have HL1 : Hid (l1.length = 16) := w1
  obtain ⟨X, hX⟩ : ∃ X, X = feB l0 := ⟨_, rfl⟩
  have C0 : Hid (∀ w p c, Bs w p 16 c l0 → Calls Try.prog 7 #[.slice p 16 c] w fun e w' => e = .returned (ev X) ∧ Below w.heap.size w w') := fun w p c h => by rw [hX]; exact oFrom w h
  obtain ⟨Y, hY⟩ : ∃ X, X = feB l1 := ⟨_, rfl⟩
  have C1 : Hid (∀ w p c, Bs w p 16 c l1 → Calls Try.prog 7 #[.slice p 16 c] w fun e w' => e = .returned (ev Y) ∧ Below w.heap.size w w') := fun w p c h => by rw [hY]; exact oFrom w h
  have HX : Hid (byF X = l0) := by show _ = _; rw [hX]; exact byF_feB w0
  have HU : Hid (byF (X ^^^ Y) = xorL l0 l1) := by show _ = _; rw [hX, hY]; exact byF_add w0 w1
  obtain ⟨Z, hZ⟩ : ∃ Z, Z = fmul X Y := ⟨_, rfl⟩
  obtain ⟨U, hU⟩ : ∃ U, U = X ^^^ Y := ⟨_, rfl⟩
  rw [← hU] at HU
  have CT : Hid (∀ w, Calls Try.prog 13 #[ev X, ev Y] w fun e w' => e = .returned (ev Z) ∧ Below w.heap.size w w') := fun w => by
    rw [hZ]
    exact oTimesE w X Y
  have CA : Hid (∀ w, Calls Try.prog 16 #[ev X, ev Y] w fun e w' => e = .returned (ev U) ∧ Below w.heap.size w w') := fun w => by
    rw [hU]
    exact oAddE w X Y
  have CM : Hid (∀ w g, Tb w g (pr Y) → Calls Try.prog 15 #[.pointer (some ⟨g, 0, none⟩), ev X] w fun e w' => e = .returned (ev Z) ∧ Below w.heap.size w w') := fun w g h => by rw [hZ]; exact oTimesT w g Y X h
  have CB : Hid (∀ w, Calls Try.prog 11 #[.agg #[.int .u64 (hN Y : Int), .int .u64 (lN Y : Int)]] w fun e w' => ∃ g, e = .returned (.pointer (some ⟨g, 0, none⟩)) ∧ w.heap.size ≤ g ∧ Tb w' g (pr Y) ∧ Below w.heap.size w w') := fun w => oBuildF w Y
  have R0 : Hid (∀ w p c, Bs w p 16 c l0 → Calls Try.prog 10 #[.slice p 16 c] w (GivesB w (fb X))) := fun w p c h => by rw [hX]; exact rBits w h (by omega)
  have R1 : Hid (∀ w p c, Bs w p 16 c l1 → Calls Try.prog 10 #[.slice p 16 c] w (GivesB w (fb Y))) := fun w p c h => by rw [hY]; exact rBits w h (by omega)
  have R2 : Hid (∀ w p c q d, Bo w p 128 c (fb X) → Bo w q 128 d (fb Y) → Calls Try.prog 9 #[.slice p 128 c, .slice q 128 d] w (GivesB w (fb Z))) := fun w p c q d h h2 => by rw [hZ]; exact rTimesF w h h2
  clear hX hY hZ hU
  go_enter Try.func3, Try.ntmps3
  go_upto_region 1 with fail
  obtain ⟨W, hW⟩ : ∃ W, W = ((w.alloc (.cells (cs l0).toArray 22)).alloc (.cells (cs l1).toArray 22)) := ⟨_, rfl⟩
  rw [← hW]
  have d0 : Blk W (w.heap.size) (cs l0) 22 := by rw [hW]; exact (Blk.new w _ _).old _
  have d1 : Blk W (w.heap.size + 1) (cs l1) 22 := by rw [hW]; exact Blk.newAt (w.alloc _) _ _ _ (by simp) _ rfl
  have qW : Below w.heap.size w W := by rw [hW]; exact below2 w _ _
  clear hW
  have hA0 : Bs W (some ⟨w.heap.size, 0, none⟩) 16 16 l0 := by
    have := Bs.of_range d0.whole (c := 16) (by rw [HL0.out]; omega) (by omega)
    rw [HL0.out] at this
    exact this
  have hA1 : Bs W (some ⟨w.heap.size + 1, 0, none⟩) 16 16 l1 := by
    have := Bs.of_range d1.whole (c := 16) (by rw [HL1.out]; omega) (by omega)
    rw [HL1.out] at this
    exact this
  go_cut [5, 6] (fun p0 p1 wx => ∃ g0 g1, p0 = .pointer (some ⟨g0, 0, none⟩) ∧ p1 = .pointer (some ⟨g1, 0, none⟩) ∧ Blk wx g0 (ec X) 25 ∧ Blk wx g1 (ec Y) 25 ∧ Below w.heap.size w wx ∧ Grows W wx)
  case first =>
    refine regionG (S := Grows W) (by kernel_rfl) (Below.refl _ W).drew ?_
    refine takeG 0 (some 9) (.slice (some ⟨w.heap.size, 0, none⟩) 16 16) rfl rfl (by kernel_rfl) (by kernel_rfl) (by kernel_rfl) (fun _ _ _ h => h) (ans_all (.tmp 2) rfl (by rfl) (w.heap.size) rfl) ?_
    simp only [Act.put, List.setIfInBounds_toArray, List.set_cons_zero, List.set_cons_succ]
    refine takeG 2 (some 11) (.slice (some ⟨w.heap.size + 1, 0, none⟩) 16 16) rfl rfl (by kernel_rfl) (by kernel_rfl) (by kernel_rfl) (fun _ _ _ h => h) (ans_all (.tmp 3) rfl (by rfl) (w.heap.size + 1) rfl) ?_
    simp only [Act.put, List.setIfInBounds_toArray, List.set_cons_zero, List.set_cons_succ]
    refine takeG 1 (some 10) (ev X) rfl rfl (by kernel_rfl) (by kernel_rfl) (by kernel_rfl) (fun _ _ _ h => h) (ans_fn 7 #[.tmp 9] #[27] #[.slice (some ⟨w.heap.size, 0, none⟩) 16 16] rfl (by rfl) (by rfl) Try.call7 (fun w h => C0.out w _ _ (hA0.grows h))) ?_
    simp only [Act.put, List.setIfInBounds_toArray, List.set_cons_zero, List.set_cons_succ]
    refine takeG 3 (some 12) (ev Y) rfl rfl (by kernel_rfl) (by kernel_rfl) (by kernel_rfl) (fun _ _ _ h => h) (ans_fn 7 #[.tmp 11] #[27] #[.slice (some ⟨w.heap.size + 1, 0, none⟩) 16 16] rfl (by rfl) (by rfl) Try.call7 (fun w h => C1.out w _ _ (hA1.grows h))) ?_
    simp only [Act.put, List.setIfInBounds_toArray, List.set_cons_zero, List.set_cons_succ]
    refine alloc2 (fun _ _ h k => Grows.trans h k) 4 5 5 6 (by decide) (by decide) (makesE rfl) (makesE rfl) (by kernel_rfl) (by kernel_rfl) (by kernel_rfl) fun g0 g1 w2 hg2 hs2 b0 b1 hk0 hk1 hne01 => ?_
    simp only [Act.put, List.setIfInBounds_toArray, List.set_cons_zero, List.set_cons_succ]
    refine oneG 6 (by kernel_rfl) fun u0 hg hs => ?_
    replace b0 := b0.grows hg
    replace b1 := b1.grows hg
    refine storeE 6 (.tmp 5) (.tmp 10) rfl rfl rfl rfl g0 X _ rfl b0 rfl rfl fun v0 bn ho hB => ⟨hB _ _ hk0 hs, ?_⟩
    replace b1 := ho _ _ _ (Ne.symm hne01) b1
    replace b0 := bn
    clear bn ho hB hg hs
    refine oneG 7 (by kernel_rfl) fun u1 hg hs => ?_
    replace b0 := b0.grows hg
    replace b1 := b1.grows hg
    refine storeE 7 (.tmp 6) (.tmp 12) rfl rfl rfl rfl g1 Y _ rfl b1 rfl rfl fun v1 bn ho hB => ⟨hB _ _ hk1 hs, ?_⟩
    replace b0 := ho _ _ _ (hne01) b0
    replace b1 := bn
    clear bn ho hB hg hs
    refine doneG (by kernel_rfl) fun w7 hg7 hs7 => ?_
    replace b0 := b0.grows hg7
    replace b1 := b1.grows hg7
    have q7 := qW.trans (Below.mono hs7 qW.size)
    go_wp2_with fail
    go_meet
    exact ⟨g0, g1, rfl, rfl, b0, b1, q7, hs7⟩
  case rest =>
    obtain ⟨g0, g1, rfl, rfl, b0, b1, q0, hWc⟩ := hcut
    replace hA0 := hA0.grows hWc
    replace hA1 := hA1.grows hWc
    go_wp2_with fail
    refine regionG (S := Grows wc) (by kernel_rfl) (Below.refl _ wc).drew ?_
    refine takeG 0 (some 13) (.slice (some ⟨w.heap.size, 0, none⟩) 16 16) rfl rfl (by kernel_rfl) (by kernel_rfl) (by kernel_rfl) (fun _ _ _ h => h) (ans_all (.tmp 2) rfl (by rfl) (w.heap.size) rfl) ?_
    simp only [Act.put, List.setIfInBounds_toArray, List.set_cons_zero, List.set_cons_succ]
    refine takeG 2 (some 15) (.slice (some ⟨w.heap.size + 1, 0, none⟩) 16 16) rfl rfl (by kernel_rfl) (by kernel_rfl) (by kernel_rfl) (fun _ _ _ h => h) (ans_all (.tmp 3) rfl (by rfl) (w.heap.size + 1) rfl) ?_
    simp only [Act.put, List.setIfInBounds_toArray, List.set_cons_zero, List.set_cons_succ]
    refine callG 1 (some 14) 10 #[.tmp 13] #[27] #[.slice (some ⟨w.heap.size, 0, none⟩) 16 16] rfl rfl rfl (by rfl) (by rfl) (by kernel_rfl) Try.call10 fun u1 hgu1 hsu1 => ?_
    refine (R0.out u1 _ _ (hA0.grows hsu1)).mono ?_
    rintro e v1 ⟨a1, c1, rfl, hB1, _, k1⟩
    rw [fb_length] at hB1 ⊢
    refine ⟨_, rfl, Grows.trans hsu1 k1, ?_⟩
    simp only [Act.put, List.setIfInBounds_toArray, List.set_cons_zero, List.set_cons_succ]
    refine callG 3 (some 16) 10 #[.tmp 15] #[27] #[.slice (some ⟨w.heap.size + 1, 0, none⟩) 16 16] rfl rfl rfl (by rfl) (by rfl) (by kernel_rfl) Try.call10 fun u2 hgu2 hsu2 => ?_
    refine (R1.out u2 _ _ (hA1.grows hsu2)).mono ?_
    rintro e v2 ⟨a2, c2, rfl, hB2, _, k2⟩
    rw [fb_length] at hB2 ⊢
    refine ⟨_, rfl, Grows.trans hsu2 k2, ?_⟩
    simp only [Act.put, List.setIfInBounds_toArray, List.set_cons_zero, List.set_cons_succ]
    refine callG 4 (some 17) 9 #[.tmp 14, .tmp 16] #[29, 29] #[.slice a1 128 c1, .slice a2 128 c2] rfl rfl rfl (by rfl) (by rfl) (by kernel_rfl) Try.call9 fun u3 hgu3 hsu3 => ?_
    refine (R2.out u3 _ _ _ _ (((hB1.below hgu2 (Nat.le_refl _)).below k2 (Nat.le_refl _)).below hgu3 (Nat.le_refl _)) (hB2.below hgu3 (Nat.le_refl _))).mono ?_
    rintro e v3 ⟨a3, c3, rfl, hB3, _, k3⟩
    rw [fb_length] at hB3 ⊢
    refine ⟨_, rfl, Grows.trans hsu3 k3, ?_⟩
    simp only [Act.put, List.setIfInBounds_toArray, List.set_cons_zero, List.set_cons_succ]
    refine callG 5 (some 18) 8 #[.tmp 17] #[29] #[.slice a3 128 c3] rfl rfl rfl (by rfl) (by rfl) (by kernel_rfl) Try.call8 fun u4 hgu4 hsu4 => ?_
    refine (rBytesF u4 (hB3.below hgu4 (Nat.le_refl _))).mono ?_
    rintro e v4 ⟨a4, m4, c4, rfl, ho4, k4⟩
    refine ⟨_, rfl, Grows.trans hsu4 k4, ?_⟩
    simp only [Act.put, List.setIfInBounds_toArray, List.set_cons_zero, List.set_cons_succ]
    refine takeG 6 (some 7) (.slice a4 m4 c4) rfl rfl (by kernel_rfl) (by kernel_rfl) (by kernel_rfl) (fun _ _ _ h => h) (ans_plain (by rfl) (fun w _ => rfl)) ?_
    simp only [Act.put, List.setIfInBounds_toArray, List.set_cons_zero, List.set_cons_succ]
    refine doneG (by kernel_rfl) fun wd hgd hsd => ?_
    have hBw := ho4.toBs.grows hgd
    replace b0 := b0.grows hsd
    replace b1 := b1.grows hsd
    replace hA0 := hA0.grows hsd
    replace hA1 := hA1.grows hsd
    replace q0 := q0.trans (Below.mono hsd q0.size)
    have c0 := b1.cell 0
    have c1 := b1.cell 1
    simp only [ec, List.getElem?_cons_zero, List.getElem?_cons_succ] at c0 c1
    clear R0 R1 R2 hgd ho4
    go_wp2_with fail
    refine (CB.out wd).mono ?_
    rintro e we ⟨gt, rfl, hgt, hT, hbe⟩
    have hGe : Grows wd we := hbe
    replace b0 := b0.grows hGe
    replace b1 := b1.grows hGe
    replace hA0 := hA0.grows hGe
    replace hA1 := hA1.grows hGe
    replace hBw := hBw.grows hGe
    replace q0 := q0.trans (Below.mono hGe q0.size)
    have hgl := hT.lt
    clear c0 c1
    go_wp2_with fail
    refine regionG (S := Grows we) (by kernel_rfl) (Below.refl _ we).drew ?_
    refine takeG 0 (some 23) (ev X) rfl rfl (by kernel_rfl) (by kernel_rfl) (by kernel_rfl) (fun _ _ _ h => h) (ans_ld (.tmp 5) rfl (by rfl) g0 X rfl (fun w h => b0.grows h)) ?_
    simp only [Act.put, List.setIfInBounds_toArray, List.set_cons_zero, List.set_cons_succ]
    refine takeG 1 (some 24) (ev Y) rfl rfl (by kernel_rfl) (by kernel_rfl) (by kernel_rfl) (fun _ _ _ h => h) (ans_ld (.tmp 6) rfl (by rfl) g1 Y rfl (fun w h => b1.grows h)) ?_
    simp only [Act.put, List.setIfInBounds_toArray, List.set_cons_zero, List.set_cons_succ]
    refine takeG 2 (some 25) (ev Z) rfl rfl (by kernel_rfl) (by kernel_rfl) (by kernel_rfl) (fun _ _ _ h => h) (ans_fn 13 #[.tmp 23, .tmp 24] #[25, 25] #[ev X, ev Y] rfl (by rfl) (by rfl) Try.call13 (fun w h => CT.out w)) ?_
    simp only [Act.put, List.setIfInBounds_toArray, List.set_cons_zero, List.set_cons_succ]
    refine takeG 4 (some 27) (.slice a4 m4 c4) rfl rfl (by kernel_rfl) (by kernel_rfl) (by kernel_rfl) (fun _ _ _ h => h) (ans_plain (by rfl) (fun w _ => rfl)) ?_
    simp only [Act.put, List.setIfInBounds_toArray, List.set_cons_zero, List.set_cons_succ]
    refine callG 3 (some 26) 14 #[.tmp 25] #[25] #[ev Z] rfl rfl rfl (by rfl) (by rfl) (by kernel_rfl) Try.call14 fun t1 hgt1 hst1 => ?_
    refine (oBytesE t1 Z).mono ?_
    rintro e xt1 ⟨e10, n10, c10, rfl, o10, k10⟩
    refine ⟨_, rfl, Grows.trans hst1 k10, ?_⟩
    simp only [Act.put, List.setIfInBounds_toArray, List.set_cons_zero, List.set_cons_succ]
    refine callG 5 (some 28) 12 #[.tmp 26, .tmp 27] #[27, 27] #[.slice e10 n10 c10, .slice a4 m4 c4] rfl rfl rfl (by rfl) (by rfl) (by kernel_rfl) Try.call12 fun t2 hgt2 hst2 => ?_
    refine (sameT t2 (o10.toBs.grows hgt2) (hBw.grows hst2)).mono ?_
    rintro e xt2 ⟨rfl, kt2⟩
    refine ⟨_, rfl, Grows.trans hst2 kt2, ?_⟩
    simp only [Act.put, List.setIfInBounds_toArray, List.set_cons_zero, List.set_cons_succ]
    refine takeG 6 (some 29) (.bool true) rfl rfl (by kernel_rfl) (by kernel_rfl) (by kernel_rfl) (fun _ _ _ h => h) (ans_plain (by rfl) (fun w _ => rfl)) ?_
    simp only [Act.put, List.setIfInBounds_toArray, List.set_cons_zero, List.set_cons_succ]
    refine takeG 7 (some 30) (.pointer (some ⟨gt, 0, none⟩)) rfl rfl (by kernel_rfl) (by kernel_rfl) (by kernel_rfl) (fun _ _ _ h => h) (ans_plain (by rfl) (fun w _ => rfl)) ?_
    simp only [Act.put, List.setIfInBounds_toArray, List.set_cons_zero, List.set_cons_succ]
    refine takeG 8 (some 31) (ev X) rfl rfl (by kernel_rfl) (by kernel_rfl) (by kernel_rfl) (fun _ _ _ h => h) (ans_ld (.tmp 5) rfl (by rfl) g0 X rfl (fun w h => b0.grows h)) ?_
    simp only [Act.put, List.setIfInBounds_toArray, List.set_cons_zero, List.set_cons_succ]
    refine takeG 9 (some 32) (ev Z) rfl rfl (by kernel_rfl) (by kernel_rfl) (by kernel_rfl) (fun _ _ _ h => h) (ans_fn 15 #[.tmp 30, .tmp 31] #[32, 25] #[.pointer (some ⟨gt, 0, none⟩), ev X] rfl (by rfl) (by rfl) Try.call15 (fun w h => CM.out w gt (hT.below h hgl))) ?_
    simp only [Act.put, List.setIfInBounds_toArray, List.set_cons_zero, List.set_cons_succ]
    refine takeG 11 (some 34) (.slice a4 m4 c4) rfl rfl (by kernel_rfl) (by kernel_rfl) (by kernel_rfl) (fun _ _ _ h => h) (ans_plain (by rfl) (fun w _ => rfl)) ?_
    simp only [Act.put, List.setIfInBounds_toArray, List.set_cons_zero, List.set_cons_succ]
    refine callG 10 (some 33) 14 #[.tmp 32] #[25] #[ev Z] rfl rfl rfl (by rfl) (by rfl) (by kernel_rfl) Try.call14 fun t3 hgt3 hst3 => ?_
    refine (oBytesE t3 Z).mono ?_
    rintro e xt3 ⟨e11, n11, c11, rfl, o11, k11⟩
    refine ⟨_, rfl, Grows.trans hst3 k11, ?_⟩
    simp only [Act.put, List.setIfInBounds_toArray, List.set_cons_zero, List.set_cons_succ]
    refine callG 12 (some 35) 12 #[.tmp 33, .tmp 34] #[27, 27] #[.slice e11 n11 c11, .slice a4 m4 c4] rfl rfl rfl (by rfl) (by rfl) (by kernel_rfl) Try.call12 fun t4 hgt4 hst4 => ?_
    refine (sameT t4 (o11.toBs.grows hgt4) (hBw.grows hst4)).mono ?_
    rintro e xt4 ⟨rfl, kt4⟩
    refine ⟨_, rfl, Grows.trans hst4 kt4, ?_⟩
    simp only [Act.put, List.setIfInBounds_toArray, List.set_cons_zero, List.set_cons_succ]
    refine takeG 13 (some 36) (.bool true) rfl rfl (by kernel_rfl) (by kernel_rfl) (by kernel_rfl) (fun _ _ _ h => h) (ans_plain (by rfl) (fun w _ => rfl)) ?_
    simp only [Act.put, List.setIfInBounds_toArray, List.set_cons_zero, List.set_cons_succ]
    refine takeG 14 (some 37) (.bool true) rfl rfl (by kernel_rfl) (by kernel_rfl) (by kernel_rfl) (fun _ _ _ h => h) (ans_plain (by rfl) (fun w _ => rfl)) ?_
    simp only [Act.put, List.setIfInBounds_toArray, List.set_cons_zero, List.set_cons_succ]
    refine takeG 15 (some 38) (ev X) rfl rfl (by kernel_rfl) (by kernel_rfl) (by kernel_rfl) (fun _ _ _ h => h) (ans_ld (.tmp 5) rfl (by rfl) g0 X rfl (fun w h => b0.grows h)) ?_
    simp only [Act.put, List.setIfInBounds_toArray, List.set_cons_zero, List.set_cons_succ]
    refine takeG 17 (some 40) (.slice (some ⟨w.heap.size, 0, none⟩) 16 16) rfl rfl (by kernel_rfl) (by kernel_rfl) (by kernel_rfl) (fun _ _ _ h => h) (ans_all (.tmp 2) rfl (by rfl) (w.heap.size) rfl) ?_
    simp only [Act.put, List.setIfInBounds_toArray, List.set_cons_zero, List.set_cons_succ]
    refine callG 16 (some 39) 14 #[.tmp 38] #[25] #[ev X] rfl rfl rfl (by rfl) (by rfl) (by kernel_rfl) Try.call14 fun t5 hgt5 hst5 => ?_
    refine (oBytesE t5 X).mono ?_
    rintro e xt5 ⟨e12, n12, c12, rfl, o12, k12⟩
    refine ⟨_, rfl, Grows.trans hst5 k12, ?_⟩
    simp only [Act.put, List.setIfInBounds_toArray, List.set_cons_zero, List.set_cons_succ]
    rw [HX.out] at o12
    refine callG 18 (some 41) 12 #[.tmp 39, .tmp 40] #[27, 27] #[.slice e12 n12 c12, .slice (some ⟨w.heap.size, 0, none⟩) 16 16] rfl rfl rfl (by rfl) (by rfl) (by kernel_rfl) Try.call12 fun t6 hgt6 hst6 => ?_
    refine (sameT t6 (o12.toBs.grows hgt6) (hA0.grows hst6)).mono ?_
    rintro e xt6 ⟨rfl, kt6⟩
    refine ⟨_, rfl, Grows.trans hst6 kt6, ?_⟩
    simp only [Act.put, List.setIfInBounds_toArray, List.set_cons_zero, List.set_cons_succ]
    refine takeG 19 (some 42) (.bool true) rfl rfl (by kernel_rfl) (by kernel_rfl) (by kernel_rfl) (fun _ _ _ h => h) (ans_plain (by rfl) (fun w _ => rfl)) ?_
    simp only [Act.put, List.setIfInBounds_toArray, List.set_cons_zero, List.set_cons_succ]
    refine takeG 20 (some 43) (.bool true) rfl rfl (by kernel_rfl) (by kernel_rfl) (by kernel_rfl) (fun _ _ _ h => h) (ans_plain (by rfl) (fun w _ => rfl)) ?_
    simp only [Act.put, List.setIfInBounds_toArray, List.set_cons_zero, List.set_cons_succ]
    refine takeG 21 (some 44) (ev X) rfl rfl (by kernel_rfl) (by kernel_rfl) (by kernel_rfl) (fun _ _ _ h => h) (ans_ld (.tmp 5) rfl (by rfl) g0 X rfl (fun w h => b0.grows h)) ?_
    simp only [Act.put, List.setIfInBounds_toArray, List.set_cons_zero, List.set_cons_succ]
    refine takeG 22 (some 45) (ev Y) rfl rfl (by kernel_rfl) (by kernel_rfl) (by kernel_rfl) (fun _ _ _ h => h) (ans_ld (.tmp 6) rfl (by rfl) g1 Y rfl (fun w h => b1.grows h)) ?_
    simp only [Act.put, List.setIfInBounds_toArray, List.set_cons_zero, List.set_cons_succ]
    refine takeG 23 (some 46) (ev U) rfl rfl (by kernel_rfl) (by kernel_rfl) (by kernel_rfl) (fun _ _ _ h => h) (ans_fn 16 #[.tmp 44, .tmp 45] #[25, 25] #[ev X, ev Y] rfl (by rfl) (by rfl) Try.call16 (fun w h => CA.out w)) ?_
    simp only [Act.put, List.setIfInBounds_toArray, List.set_cons_zero, List.set_cons_succ]
    refine takeG 25 (some 48) (.slice (some ⟨w.heap.size, 0, none⟩) 16 16) rfl rfl (by kernel_rfl) (by kernel_rfl) (by kernel_rfl) (fun _ _ _ h => h) (ans_all (.tmp 2) rfl (by rfl) (w.heap.size) rfl) ?_
    simp only [Act.put, List.setIfInBounds_toArray, List.set_cons_zero, List.set_cons_succ]
    refine takeG 26 (some 49) (.slice (some ⟨w.heap.size + 1, 0, none⟩) 16 16) rfl rfl (by kernel_rfl) (by kernel_rfl) (by kernel_rfl) (fun _ _ _ h => h) (ans_all (.tmp 3) rfl (by rfl) (w.heap.size + 1) rfl) ?_
    simp only [Act.put, List.setIfInBounds_toArray, List.set_cons_zero, List.set_cons_succ]
    refine callG 24 (some 47) 14 #[.tmp 46] #[25] #[ev U] rfl rfl rfl (by rfl) (by rfl) (by kernel_rfl) Try.call14 fun t7 hgt7 hst7 => ?_
    refine (oBytesE t7 U).mono ?_
    rintro e xt7 ⟨e13, n13, c13, rfl, o13, k13⟩
    refine ⟨_, rfl, Grows.trans hst7 k13, ?_⟩
    simp only [Act.put, List.setIfInBounds_toArray, List.set_cons_zero, List.set_cons_succ]
    rw [HU.out] at o13
    refine callG 27 (some 50) 17 #[.tmp 48, .tmp 49] #[27, 27] #[.slice (some ⟨w.heap.size, 0, none⟩) 16 16, .slice (some ⟨w.heap.size + 1, 0, none⟩) 16 16] rfl rfl rfl (by rfl) (by rfl) (by kernel_rfl) Try.call17 fun t8 hgt8 hst8 => ?_
    refine (rXor t8 (hA0.grows hst8) (hA1.grows hst8) (by omega) (by omega)).mono ?_
    rintro e xt8 ⟨e14, n14, c14, rfl, o14, k14⟩
    refine ⟨_, rfl, Grows.trans hst8 k14, ?_⟩
    simp only [Act.put, List.setIfInBounds_toArray, List.set_cons_zero, List.set_cons_succ]
    refine callG 28 (some 51) 12 #[.tmp 47, .tmp 50] #[27, 27] #[.slice e13 n13 c13, .slice e14 n14 c14] rfl rfl rfl (by rfl) (by rfl) (by kernel_rfl) Try.call12 fun t9 hgt9 hst9 => ?_
    refine (sameT t9 (((o13.toBs.grows hgt8).grows k14).grows hgt9) (o14.toBs.grows hgt9)).mono ?_
    rintro e xt9 ⟨rfl, kt9⟩
    refine ⟨_, rfl, Grows.trans hst9 kt9, ?_⟩
    simp only [Act.put, List.setIfInBounds_toArray, List.set_cons_zero, List.set_cons_succ]
    refine takeG 29 (some 52) (.bool true) rfl rfl (by kernel_rfl) (by kernel_rfl) (by kernel_rfl) (fun _ _ _ h => h) (ans_plain (by rfl) (fun w _ => rfl)) ?_
    simp only [Act.put, List.setIfInBounds_toArray, List.set_cons_zero, List.set_cons_succ]
    refine takeG 30 (some 53) (.bool true) rfl rfl (by kernel_rfl) (by kernel_rfl) (by kernel_rfl) (fun _ _ _ h => h) (ans_plain (by rfl) (fun w _ => rfl)) ?_
    simp only [Act.put, List.setIfInBounds_toArray, List.set_cons_zero, List.set_cons_succ]
    refine takeG 31 (some 54) (.bool true) rfl rfl (by kernel_rfl) (by kernel_rfl) (by kernel_rfl) (fun _ _ _ h => h) (ans_fn 18 #[] #[] #[] rfl (by rfl) (by rfl) Try.call18 (fun w h => lWorksF w)) ?_
    simp only [Act.put, List.setIfInBounds_toArray, List.set_cons_zero, List.set_cons_succ]
    refine takeG 32 (some 55) (.bool true) rfl rfl (by kernel_rfl) (by kernel_rfl) (by kernel_rfl) (fun _ _ _ h => h) (ans_plain (by rfl) (fun w _ => rfl)) ?_
    simp only [Act.put, List.setIfInBounds_toArray, List.set_cons_zero, List.set_cons_succ]
    refine takeG 33 (some 4) (.bool true) rfl rfl (by kernel_rfl) (by kernel_rfl) (by kernel_rfl) (fun _ _ _ h => h) (ans_plain (by rfl) (fun w _ => rfl)) ?_
    simp only [Act.put, List.setIfInBounds_toArray, List.set_cons_zero, List.set_cons_succ]
    refine doneG (by kernel_rfl) fun w9 hg9 hs9 => ?_
    go_wp2
    go_ret
    exact ⟨rfl, q0.trans (Below.mono hs9 q0.size)⟩

set_option maxRecDepth 100000 in
theorem lifted (os : Os) (started : os.Started) (H : Type) (enc : TypeId × Value → H) :
    ReturnsInHanded {} Try.checked os 3 .any (Rows.fieldTimesSpec.pre6 enc Try.prog Try.f3 Rows.fieldTimesRow.domain false) (Rows.fieldTimesSpec.post enc Try.prog Try.f3 false true false false) := by
  refine returnsInHanded_of_change (C := Try.checked) own started (by kernel_rfl) Try.func3
    (ChangeSpec.witness6 (enc := enc) (C := Try.checked) false ⟨#[], #[.agg #[.int .u8 0, .int .u8 0, .int .u8 0, .int .u8 0, .int .u8 0, .int .u8 0, .int .u8 0, .int .u8 0, .int .u8 0, .int .u8 0, .int .u8 0, .int .u8 0, .int .u8 0, .int .u8 0, .int .u8 0, .int .u8 0], .agg #[.int .u8 0, .int .u8 0, .int .u8 0, .int .u8 0, .int .u8 0, .int .u8 0, .int .u8 0, .int .u8 0, .int .u8 0, .int .u8 0, .int .u8 0, .int .u8 0, .int .u8 0, .int .u8 0, .int .u8 0, .int .u8 0]], []⟩ 8 (by kernel_rfl) (by kernel_rfl) (by kernel_rfl) (by kernel_rfl)) ?_
  intro W base args ds gs before hval0 hW hcnd _
  have hval : ∀ (j : Nat) t v, Try.f3.params[j]? = some t → args[j]? = some v → Value.okWide Try.prog W .any base t v := hval0
  have hW' := hW
  obtain ⟨p, q, hA0, hV, rfl, hfz, hnd⟩ := hW
  have hA : DataW.TrodAll enc Try.prog W 0 (fun _ => true) true Try.f3.params.toList args.toList ds p := hA0
  rw [Try.params3] at hA hval
  obtain ⟨v0, vs0, d0, ds0, p0, q0, hargs, rfl, rfl, h0, r0⟩ := trodAll_cons hA
  obtain ⟨v1, vs1, d1, ds1, p1, q1, rfl, rfl, rfl, h1, r1⟩ := trodAll_cons r0
  obtain ⟨rfl, rfl, rfl⟩ := trodAll_nil r1
  obtain rfl : args = #[v0, v1] := by cases args; simp_all
  obtain ⟨rfl, rfl⟩ := trodVars_none hV
  obtain ⟨x0, rfl, z0⟩ := okWide_arr16 (hval 0 22 v0 rfl rfl)
  have k0 := h0
  have lt0 : ∀ x ∈ p0, x.block < W.heap.size := by obtain ⟨m, hm⟩ := k0; exact DataW.trod_lt m _ _ _ hm
  obtain ⟨l0, rfl, w0⟩ : ∃ l : List UInt8, x0 = (cs l).toArray ∧ l.length = 16 := by
    obtain ⟨fuel, hf⟩ := h0
    exact arr16_of_trod z0 hf
  obtain ⟨x1, rfl, z1⟩ := okWide_arr16 (hval 1 22 v1 rfl rfl)
  have k1 := h1
  have lt1 : ∀ x ∈ p1, x.block < W.heap.size := by obtain ⟨m, hm⟩ := k1; exact DataW.trod_lt m _ _ _ hm
  obtain ⟨l1, rfl, w1⟩ : ∃ l : List UInt8, x1 = (cs l).toArray ∧ l.length = 16 := by
    obtain ⟨fuel, hf⟩ := h1
    exact arr16_of_trod z1 hf
  clear hA0 hval0
  refine (walk l0 l1 W w0 w1).mono fun e W' ⟨he, bel⟩ => ?_
  subst he
  exact ⟨_, rfl, _, _, _, [], _, [], hW', trodAll_mk1 (shut_bool Try.underlying4 _), (trodAll_cons_mk (Below.trod laidOut (by kernel_rfl) (of_decide_eq_true (by kernel_rfl)) k0 bel lt0) (trodAll_cons_mk (Below.trod laidOut (by kernel_rfl) (of_decide_eq_true (by kernel_rfl)) k1 bel lt1) trodAll_mk0)), rfl, bel.frame _, fun h => by cases h⟩

theorem over : Rows.fieldTimesRow.holds Try.pinned (OpenSpec.ofChange Rows.fieldTimesSpec) :=
  OpenClaim.holds_of_wide 3 Try.f3 rfl rfl rfl rfl rfl rfl rfl ⟨rfl, rfl, rfl, rfl, rfl⟩ rfl rfl rfl rfl rfl (by kernel_rfl) Try.func3 (by kernel_rfl)
    (of_decide_eq_true (by kernel_rfl)) (by unfold Func.isWrapper; first | (rw [if_pos (by decide +kernel)]; kernel_rfl) | (rw [if_neg (by decide +kernel)]; exact ⟨rfl, rfl⟩))
    (fun os started H enc _ => lifted os started H enc)
end FieldTimesLaw

/-- The statement. -/
theorem fieldTimes_holds : Rows.FieldTimesSaid := FieldTimesLaw.over
#print axioms fieldTimes_holds
end Go.Proofs.Ytfgoomlgmepalaa
