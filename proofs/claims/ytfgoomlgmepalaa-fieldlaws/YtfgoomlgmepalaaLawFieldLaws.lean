/-
  Proved: for any three rows of sixteen bytes the statement FieldLaws of layer 5 answers true and leaves its arguments as they were. Conditions beside the statement's own: none.
-/
import Derived.Test.YtfgoomlgmepalaaRows
import Derived.Test.YtfgoomlgmepalaaOpenArr
import Derived.Test.YtfgoomlgmepalaaFieldS
import Derived.Test.YtfgoomlgmepalaaFieldE
import Derived.Below
import Derived.ChangeOld
namespace Go.Proofs.Ytfgoomlgmepalaa
namespace FieldLawsLaw
open Go.ChangeShapes Go.WideShapes Go.ChangeAt Go.RowKit
open Go.ChangeMaps (open_string shut_string)
set_option linter.unusedVariables false

theorem own : ownKnob Try.prog.godebug = none := by kernel_rfl
theorem laidOut : laidOutB Try.prog = true := by kernel_rfl

set_option maxRecDepth 100000 in
set_option maxHeartbeats 4000000 in
theorem walk (l0 : List UInt8) (l1 : List UInt8) (l2 : List UInt8) (w : World) (w0 : l0.length = 16) (w1 : l1.length = 16) (w2 : l2.length = 16) :
    Calls Try.prog 5 #[.agg (cs l0).toArray, .agg (cs l1).toArray, .agg (cs l2).toArray] w fun e w' => e = .returned (.bool true) ∧ Below w.heap.size w w' := by
  have hall := allK
  have HL0 : Hid (l0.length = 16) := w0
  have HL1 : Hid (l1.length = 16) := w1
  have HL2 : Hid (l2.length = 16) := w2
  obtain ⟨X, hX⟩ : ∃ X, X = feB l0 := ⟨_, rfl⟩
  have C0 : Hid (∀ w p c, Bs w p 16 c l0 → Calls Try.prog 7 #[.slice p 16 c] w fun e w' => e = .returned (ev X) ∧ Below w.heap.size w w') := fun w p c h => by rw [hX]; exact oFrom w h
  obtain ⟨Y, hY⟩ : ∃ X, X = feB l1 := ⟨_, rfl⟩
  have C1 : Hid (∀ w p c, Bs w p 16 c l1 → Calls Try.prog 7 #[.slice p 16 c] w fun e w' => e = .returned (ev Y) ∧ Below w.heap.size w w') := fun w p c h => by rw [hY]; exact oFrom w h
  obtain ⟨Z, hZ⟩ : ∃ X, X = feB l2 := ⟨_, rfl⟩
  have C2 : Hid (∀ w p c, Bs w p 16 c l2 → Calls Try.prog 7 #[.slice p 16 c] w fun e w' => e = .returned (ev Z) ∧ Below w.heap.size w w') := fun w p c h => by rw [hZ]; exact oFrom w h
  obtain ⟨u, hu⟩ : ∃ u, u = (1 : Fe) := ⟨_, rfl⟩
  have CO : Hid (∀ w, Calls Try.prog 7 #[.slice (some ⟨w.heap.size, 0, none⟩) 1 1] (w.alloc (.cells #[.int .u8 128] 5)) fun e w' => e = .returned (.agg #[.int .u64 (hN u : Int), .int .u64 (lN u : Int)]) ∧ Below w.heap.size w w') := fun w => by
    have := oFrom _ (Bs.made w [128] #[.int .u8 128] rfl (by decide))
    rw [one_feB, ← hu] at this
    refine this.mono ?_
    rintro e w' ⟨rfl, hb⟩
    exact ⟨rfl, (below_alloc _ _).trans (hb.mono (by simp))⟩
  obtain ⟨P, hP⟩ : ∃ P, P = fmul X Y := ⟨_, rfl⟩
  obtain ⟨R, hR⟩ : ∃ R, R = fmul Y Z := ⟨_, rfl⟩
  obtain ⟨Q, hQ⟩ : ∃ Q, Q = fmul P Z := ⟨_, rfl⟩
  obtain ⟨U, hU⟩ : ∃ U, U = X ^^^ Y := ⟨_, rfl⟩
  obtain ⟨V, hV⟩ : ∃ V, V = fmul U Z := ⟨_, rfl⟩
  obtain ⟨M, hM⟩ : ∃ M, M = fmul X Z := ⟨_, rfl⟩
  have T1 : Hid (∀ w, Calls Try.prog 13 #[ev (X), ev (Y)] w fun e w' => e = .returned (ev (P)) ∧ Below w.heap.size w w') := fun w => by
    rw [hP]
    exact oTimesE w X Y
  have T2 : Hid (∀ w, Calls Try.prog 13 #[ev (Y), ev (X)] w fun e w' => e = .returned (ev (P)) ∧ Below w.heap.size w w') := fun w => by
    rw [hP, fmul_comm]
    exact oTimesE w Y X
  have T3 : Hid (∀ w, Calls Try.prog 13 #[ev (P), ev (Z)] w fun e w' => e = .returned (ev (Q)) ∧ Below w.heap.size w w') := fun w => by
    rw [hQ]
    exact oTimesE w P Z
  have T4 : Hid (∀ w, Calls Try.prog 13 #[ev (Y), ev (Z)] w fun e w' => e = .returned (ev (R)) ∧ Below w.heap.size w w') := fun w => by
    rw [hR]
    exact oTimesE w Y Z
  have T5 : Hid (∀ w, Calls Try.prog 13 #[ev (X), ev (R)] w fun e w' => e = .returned (ev (Q)) ∧ Below w.heap.size w w') := fun w => by
    rw [hQ, hP, fmul_assoc, ← hR]
    exact oTimesE w X R
  have A1 : Hid (∀ w, Calls Try.prog 16 #[ev X, ev Y] w fun e w' => e = .returned (ev U) ∧ Below w.heap.size w w') := fun w => by
    rw [hU]
    exact oAddE w X Y
  have T6 : Hid (∀ w, Calls Try.prog 13 #[ev (U), ev (Z)] w fun e w' => e = .returned (ev (V)) ∧ Below w.heap.size w w') := fun w => by
    rw [hV]
    exact oTimesE w U Z
  have T7 : Hid (∀ w, Calls Try.prog 13 #[ev (X), ev (Z)] w fun e w' => e = .returned (ev (M)) ∧ Below w.heap.size w w') := fun w => by
    rw [hM]
    exact oTimesE w X Z
  have A2 : Hid (∀ w, Calls Try.prog 16 #[ev M, ev R] w fun e w' => e = .returned (ev V) ∧ Below w.heap.size w w') := fun w => by
    rw [hV, hU, show fmul (X ^^^ Y) Z = fmul X Z ^^^ fmul Y Z from fmul_left Z X Y, ← hM, ← hR]
    exact oAddE w M R
  have T9 : Hid (∀ w, Calls Try.prog 13 #[ev (X), ev (u)] w fun e w' => e = .returned (ev (X)) ∧ Below w.heap.size w w') := fun w => by
    have := oTimesE w X u
    rw [show fmul X u = X from by rw [hu, fmul_one]] at this
    exact this
  clear hX hY hZ hP hR hQ hU hV hM hu
  go_enter Try.func5, Try.ntmps5
  go_upto_region 1 with fail
  obtain ⟨W, hW⟩ : ∃ W, W = (((w.alloc (.cells (cs l0).toArray 22)).alloc (.cells (cs l1).toArray 22)).alloc (.cells (cs l2).toArray 22)) := ⟨_, rfl⟩
  rw [← hW]
  have d0 : Blk W (w.heap.size) (cs l0) 22 := by rw [hW]; exact ((Blk.new w _ _).old _).old _
  have d1 : Blk W (w.heap.size + 1) (cs l1) 22 := by rw [hW]; exact (Blk.newAt (w.alloc _) _ _ _ (by simp) _ rfl).old _
  have d2 : Blk W (w.heap.size + 1 + 1) (cs l2) 22 := by rw [hW]; exact Blk.newAt ((w.alloc _).alloc _) _ _ _ (by simp) _ rfl
  have qW : Below w.heap.size w W := by rw [hW]; exact below3 w _ _ _
  clear hW
  have hA0 : Bs W (some ⟨w.heap.size, 0, none⟩) 16 16 l0 := by
    have := Bs.of_range d0.whole (c := 16) (by rw [HL0.out]; omega) (by omega)
    rw [HL0.out] at this
    exact this
  have hA1 : Bs W (some ⟨w.heap.size + 1, 0, none⟩) 16 16 l1 := by
    have := Bs.of_range d1.whole (c := 16) (by rw [HL1.out]; omega) (by omega)
    rw [HL1.out] at this
    exact this
  have hA2 : Bs W (some ⟨w.heap.size + 1 + 1, 0, none⟩) 16 16 l2 := by
    have := Bs.of_range d2.whole (c := 16) (by rw [HL2.out]; omega) (by omega)
    rw [HL2.out] at this
    exact this
  go_cut [7, 8, 9] (fun p0 p1 p2 wx => ∃ g0 g1 g2, p0 = .pointer (some ⟨g0, 0, none⟩) ∧ p1 = .pointer (some ⟨g1, 0, none⟩) ∧ p2 = .pointer (some ⟨g2, 0, none⟩) ∧ Blk wx g0 (ec X) 25 ∧ Blk wx g1 (ec Y) 25 ∧ Blk wx g2 (ec Z) 25 ∧ Below w.heap.size w wx ∧ Grows W wx)
  case first =>
    refine regionG (S := Grows W) (by kernel_rfl) (Below.refl _ W).drew ?_
    refine takeG 0 (some 11) (.slice (some ⟨w.heap.size, 0, none⟩) 16 16) rfl rfl (by kernel_rfl) (by kernel_rfl) (by kernel_rfl) (fun _ _ _ h => h) (ans_all (.tmp 3) rfl (by rfl) (w.heap.size) rfl) ?_
    simp only [Act.put, List.setIfInBounds_toArray, List.set_cons_zero, List.set_cons_succ]
    refine takeG 2 (some 13) (.slice (some ⟨w.heap.size + 1, 0, none⟩) 16 16) rfl rfl (by kernel_rfl) (by kernel_rfl) (by kernel_rfl) (fun _ _ _ h => h) (ans_all (.tmp 4) rfl (by rfl) (w.heap.size + 1) rfl) ?_
    simp only [Act.put, List.setIfInBounds_toArray, List.set_cons_zero, List.set_cons_succ]
    refine takeG 4 (some 15) (.slice (some ⟨w.heap.size + 1 + 1, 0, none⟩) 16 16) rfl rfl (by kernel_rfl) (by kernel_rfl) (by kernel_rfl) (fun _ _ _ h => h) (ans_all (.tmp 5) rfl (by rfl) (w.heap.size + 1 + 1) rfl) ?_
    simp only [Act.put, List.setIfInBounds_toArray, List.set_cons_zero, List.set_cons_succ]
    refine takeG 1 (some 12) (ev X) rfl rfl (by kernel_rfl) (by kernel_rfl) (by kernel_rfl) (fun _ _ _ h => h) (ans_fn 7 #[.tmp 11] #[27] #[.slice (some ⟨w.heap.size, 0, none⟩) 16 16] rfl (by rfl) (by rfl) Try.call7 (fun w h => C0.out w _ _ (hA0.grows h))) ?_
    simp only [Act.put, List.setIfInBounds_toArray, List.set_cons_zero, List.set_cons_succ]
    refine takeG 3 (some 14) (ev Y) rfl rfl (by kernel_rfl) (by kernel_rfl) (by kernel_rfl) (fun _ _ _ h => h) (ans_fn 7 #[.tmp 13] #[27] #[.slice (some ⟨w.heap.size + 1, 0, none⟩) 16 16] rfl (by rfl) (by rfl) Try.call7 (fun w h => C1.out w _ _ (hA1.grows h))) ?_
    simp only [Act.put, List.setIfInBounds_toArray, List.set_cons_zero, List.set_cons_succ]
    refine takeG 5 (some 16) (ev Z) rfl rfl (by kernel_rfl) (by kernel_rfl) (by kernel_rfl) (fun _ _ _ h => h) (ans_fn 7 #[.tmp 15] #[27] #[.slice (some ⟨w.heap.size + 1 + 1, 0, none⟩) 16 16] rfl (by rfl) (by rfl) Try.call7 (fun w h => C2.out w _ _ (hA2.grows h))) ?_
    simp only [Act.put, List.setIfInBounds_toArray, List.set_cons_zero, List.set_cons_succ]
    refine alloc3 (fun _ _ h k => Grows.trans h k) 6 7 8 7 8 9 (by decide) (by decide) (by decide) (by decide) (by decide) (by decide) (makesE rfl) (makesE rfl) (makesE rfl) (by kernel_rfl) (by kernel_rfl) (by kernel_rfl) (by kernel_rfl) (by kernel_rfl) (by kernel_rfl) (by kernel_rfl) fun g0 g1 g2 w2 hg2 hs2 b0 b1 b2 hk0 hk1 hk2 hne01 hne02 hne12 => ?_
    simp only [Act.put, List.setIfInBounds_toArray, List.set_cons_zero, List.set_cons_succ]
    refine oneG 9 (by kernel_rfl) fun u0 hg hs => ?_
    replace b0 := b0.grows hg
    replace b1 := b1.grows hg
    replace b2 := b2.grows hg
    refine storeE 9 (.tmp 7) (.tmp 12) rfl rfl rfl rfl g0 X _ rfl b0 rfl rfl fun v0 bn ho hB => ⟨hB _ _ hk0 hs, ?_⟩
    replace b1 := ho _ _ _ (Ne.symm hne01) b1
    replace b2 := ho _ _ _ (Ne.symm hne02) b2
    replace b0 := bn
    clear bn ho hB hg hs
    refine oneG 10 (by kernel_rfl) fun u1 hg hs => ?_
    replace b0 := b0.grows hg
    replace b1 := b1.grows hg
    replace b2 := b2.grows hg
    refine storeE 10 (.tmp 8) (.tmp 14) rfl rfl rfl rfl g1 Y _ rfl b1 rfl rfl fun v1 bn ho hB => ⟨hB _ _ hk1 hs, ?_⟩
    replace b0 := ho _ _ _ (hne01) b0
    replace b2 := ho _ _ _ (Ne.symm hne12) b2
    replace b1 := bn
    clear bn ho hB hg hs
    refine oneG 11 (by kernel_rfl) fun u2 hg hs => ?_
    replace b0 := b0.grows hg
    replace b1 := b1.grows hg
    replace b2 := b2.grows hg
    refine storeE 11 (.tmp 9) (.tmp 16) rfl rfl rfl rfl g2 Z _ rfl b2 rfl rfl fun v2 bn ho hB => ⟨hB _ _ hk2 hs, ?_⟩
    replace b0 := ho _ _ _ (hne02) b0
    replace b1 := ho _ _ _ (hne12) b1
    replace b2 := bn
    clear bn ho hB hg hs
    refine doneG (by kernel_rfl) fun w7 hg7 hs7 => ?_
    replace b0 := b0.grows hg7
    replace b1 := b1.grows hg7
    replace b2 := b2.grows hg7
    have q7 := qW.trans (Below.mono hs7 qW.size)
    go_wp2_with fail
    go_meet
    exact ⟨g0, g1, g2, rfl, rfl, rfl, b0, b1, b2, q7, hs7⟩
  case rest =>
    obtain ⟨g0, g1, g2, rfl, rfl, rfl, b0, b1, b2, q0, hWc⟩ := hcut
    go_wp2_with fail
    refine (CO.out wc).mono ?_
    rintro e w2 ⟨rfl, hb2⟩
    go_upto_region 3 with fail
    obtain ⟨W3, hW3⟩ : ∃ W, W = w2.alloc (.cells #[.int .u64 (hN u : Int), .int .u64 (lN u : Int)] 25) := ⟨_, rfl⟩
    rw [← hW3]
    have b3 : Blk W3 w2.heap.size (ec u) 25 := by rw [hW3]; exact Blk.new w2 _ _
    have g3 : Grows wc W3 := by rw [hW3]; exact Grows.trans hb2 (Grows.alloc _ _)
    replace b0 := b0.grows g3
    replace b1 := b1.grows g3
    replace b2 := b2.grows g3
    replace q0 := q0.trans (Below.mono g3 q0.size)
    clear hW3
    refine regionG (S := Grows W3) (by kernel_rfl) (Below.refl _ W3).drew ?_
    refine takeG 0 (some 19) (ev X) rfl rfl (by kernel_rfl) (by kernel_rfl) (by kernel_rfl) (fun _ _ _ h => h) (ans_ld (.tmp 7) rfl (by rfl) g0 X rfl (fun w h => b0.grows h)) ?_
    simp only [Act.put, List.setIfInBounds_toArray, List.set_cons_zero, List.set_cons_succ]
    refine takeG 1 (some 20) (ev Y) rfl rfl (by kernel_rfl) (by kernel_rfl) (by kernel_rfl) (fun _ _ _ h => h) (ans_ld (.tmp 8) rfl (by rfl) g1 Y rfl (fun w h => b1.grows h)) ?_
    simp only [Act.put, List.setIfInBounds_toArray, List.set_cons_zero, List.set_cons_succ]
    refine takeG 2 (some 21) (ev P) rfl rfl (by kernel_rfl) (by kernel_rfl) (by kernel_rfl) (fun _ _ _ h => h) (ans_fn 13 #[.tmp 19, .tmp 20] #[25, 25] #[ev X, ev Y] rfl (by rfl) (by rfl) Try.call13 (fun w h => T1.out w)) ?_
    simp only [Act.put, List.setIfInBounds_toArray, List.set_cons_zero, List.set_cons_succ]
    refine takeG 3 (some 22) (ev Y) rfl rfl (by kernel_rfl) (by kernel_rfl) (by kernel_rfl) (fun _ _ _ h => h) (ans_ld (.tmp 8) rfl (by rfl) g1 Y rfl (fun w h => b1.grows h)) ?_
    simp only [Act.put, List.setIfInBounds_toArray, List.set_cons_zero, List.set_cons_succ]
    refine takeG 4 (some 23) (ev X) rfl rfl (by kernel_rfl) (by kernel_rfl) (by kernel_rfl) (fun _ _ _ h => h) (ans_ld (.tmp 7) rfl (by rfl) g0 X rfl (fun w h => b0.grows h)) ?_
    simp only [Act.put, List.setIfInBounds_toArray, List.set_cons_zero, List.set_cons_succ]
    refine takeG 5 (some 24) (ev P) rfl rfl (by kernel_rfl) (by kernel_rfl) (by kernel_rfl) (fun _ _ _ h => h) (ans_fn 13 #[.tmp 22, .tmp 23] #[25, 25] #[ev Y, ev X] rfl (by rfl) (by rfl) Try.call13 (fun w h => T2.out w)) ?_
    simp only [Act.put, List.setIfInBounds_toArray, List.set_cons_zero, List.set_cons_succ]
    refine takeG 6 (some 25) (.bool true) rfl rfl (by kernel_rfl) (by kernel_rfl) (by kernel_rfl) (fun _ _ _ h => h) (ans_eqE (.tmp 21) (.tmp 24) rfl (by rfl) P rfl rfl) ?_
    simp only [Act.put, List.setIfInBounds_toArray, List.set_cons_zero, List.set_cons_succ]
    refine takeG 7 (some 26) (.bool true) rfl rfl (by kernel_rfl) (by kernel_rfl) (by kernel_rfl) (fun _ _ _ h => h) (ans_plain (by rfl) (fun w _ => rfl)) ?_
    simp only [Act.put, List.setIfInBounds_toArray, List.set_cons_zero, List.set_cons_succ]
    refine takeG 8 (some 27) (ev X) rfl rfl (by kernel_rfl) (by kernel_rfl) (by kernel_rfl) (fun _ _ _ h => h) (ans_ld (.tmp 7) rfl (by rfl) g0 X rfl (fun w h => b0.grows h)) ?_
    simp only [Act.put, List.setIfInBounds_toArray, List.set_cons_zero, List.set_cons_succ]
    refine takeG 9 (some 28) (ev Y) rfl rfl (by kernel_rfl) (by kernel_rfl) (by kernel_rfl) (fun _ _ _ h => h) (ans_ld (.tmp 8) rfl (by rfl) g1 Y rfl (fun w h => b1.grows h)) ?_
    simp only [Act.put, List.setIfInBounds_toArray, List.set_cons_zero, List.set_cons_succ]
    refine takeG 10 (some 29) (ev P) rfl rfl (by kernel_rfl) (by kernel_rfl) (by kernel_rfl) (fun _ _ _ h => h) (ans_fn 13 #[.tmp 27, .tmp 28] #[25, 25] #[ev X, ev Y] rfl (by rfl) (by rfl) Try.call13 (fun w h => T1.out w)) ?_
    simp only [Act.put, List.setIfInBounds_toArray, List.set_cons_zero, List.set_cons_succ]
    refine takeG 11 (some 30) (ev Z) rfl rfl (by kernel_rfl) (by kernel_rfl) (by kernel_rfl) (fun _ _ _ h => h) (ans_ld (.tmp 9) rfl (by rfl) g2 Z rfl (fun w h => b2.grows h)) ?_
    simp only [Act.put, List.setIfInBounds_toArray, List.set_cons_zero, List.set_cons_succ]
    refine takeG 12 (some 31) (ev Q) rfl rfl (by kernel_rfl) (by kernel_rfl) (by kernel_rfl) (fun _ _ _ h => h) (ans_fn 13 #[.tmp 29, .tmp 30] #[25, 25] #[ev P, ev Z] rfl (by rfl) (by rfl) Try.call13 (fun w h => T3.out w)) ?_
    simp only [Act.put, List.setIfInBounds_toArray, List.set_cons_zero, List.set_cons_succ]
    refine takeG 13 (some 32) (ev X) rfl rfl (by kernel_rfl) (by kernel_rfl) (by kernel_rfl) (fun _ _ _ h => h) (ans_ld (.tmp 7) rfl (by rfl) g0 X rfl (fun w h => b0.grows h)) ?_
    simp only [Act.put, List.setIfInBounds_toArray, List.set_cons_zero, List.set_cons_succ]
    refine takeG 14 (some 33) (ev Y) rfl rfl (by kernel_rfl) (by kernel_rfl) (by kernel_rfl) (fun _ _ _ h => h) (ans_ld (.tmp 8) rfl (by rfl) g1 Y rfl (fun w h => b1.grows h)) ?_
    simp only [Act.put, List.setIfInBounds_toArray, List.set_cons_zero, List.set_cons_succ]
    refine takeG 15 (some 34) (ev Z) rfl rfl (by kernel_rfl) (by kernel_rfl) (by kernel_rfl) (fun _ _ _ h => h) (ans_ld (.tmp 9) rfl (by rfl) g2 Z rfl (fun w h => b2.grows h)) ?_
    simp only [Act.put, List.setIfInBounds_toArray, List.set_cons_zero, List.set_cons_succ]
    refine takeG 16 (some 35) (ev R) rfl rfl (by kernel_rfl) (by kernel_rfl) (by kernel_rfl) (fun _ _ _ h => h) (ans_fn 13 #[.tmp 33, .tmp 34] #[25, 25] #[ev Y, ev Z] rfl (by rfl) (by rfl) Try.call13 (fun w h => T4.out w)) ?_
    simp only [Act.put, List.setIfInBounds_toArray, List.set_cons_zero, List.set_cons_succ]
    refine takeG 17 (some 36) (ev Q) rfl rfl (by kernel_rfl) (by kernel_rfl) (by kernel_rfl) (fun _ _ _ h => h) (ans_fn 13 #[.tmp 32, .tmp 35] #[25, 25] #[ev X, ev R] rfl (by rfl) (by rfl) Try.call13 (fun w h => T5.out w)) ?_
    simp only [Act.put, List.setIfInBounds_toArray, List.set_cons_zero, List.set_cons_succ]
    refine takeG 18 (some 37) (.bool true) rfl rfl (by kernel_rfl) (by kernel_rfl) (by kernel_rfl) (fun _ _ _ h => h) (ans_eqE (.tmp 31) (.tmp 36) rfl (by rfl) Q rfl rfl) ?_
    simp only [Act.put, List.setIfInBounds_toArray, List.set_cons_zero, List.set_cons_succ]
    refine takeG 19 (some 38) (.bool true) rfl rfl (by kernel_rfl) (by kernel_rfl) (by kernel_rfl) (fun _ _ _ h => h) (ans_plain (by rfl) (fun w _ => rfl)) ?_
    simp only [Act.put, List.setIfInBounds_toArray, List.set_cons_zero, List.set_cons_succ]
    refine takeG 20 (some 39) (.bool true) rfl rfl (by kernel_rfl) (by kernel_rfl) (by kernel_rfl) (fun _ _ _ h => h) (ans_plain (by rfl) (fun w _ => rfl)) ?_
    simp only [Act.put, List.setIfInBounds_toArray, List.set_cons_zero, List.set_cons_succ]
    refine takeG 21 (some 40) (ev X) rfl rfl (by kernel_rfl) (by kernel_rfl) (by kernel_rfl) (fun _ _ _ h => h) (ans_ld (.tmp 7) rfl (by rfl) g0 X rfl (fun w h => b0.grows h)) ?_
    simp only [Act.put, List.setIfInBounds_toArray, List.set_cons_zero, List.set_cons_succ]
    refine takeG 22 (some 41) (ev Y) rfl rfl (by kernel_rfl) (by kernel_rfl) (by kernel_rfl) (fun _ _ _ h => h) (ans_ld (.tmp 8) rfl (by rfl) g1 Y rfl (fun w h => b1.grows h)) ?_
    simp only [Act.put, List.setIfInBounds_toArray, List.set_cons_zero, List.set_cons_succ]
    refine takeG 23 (some 42) (ev U) rfl rfl (by kernel_rfl) (by kernel_rfl) (by kernel_rfl) (fun _ _ _ h => h) (ans_fn 16 #[.tmp 40, .tmp 41] #[25, 25] #[ev X, ev Y] rfl (by rfl) (by rfl) Try.call16 (fun w h => A1.out w)) ?_
    simp only [Act.put, List.setIfInBounds_toArray, List.set_cons_zero, List.set_cons_succ]
    refine takeG 24 (some 43) (ev Z) rfl rfl (by kernel_rfl) (by kernel_rfl) (by kernel_rfl) (fun _ _ _ h => h) (ans_ld (.tmp 9) rfl (by rfl) g2 Z rfl (fun w h => b2.grows h)) ?_
    simp only [Act.put, List.setIfInBounds_toArray, List.set_cons_zero, List.set_cons_succ]
    refine takeG 25 (some 44) (ev V) rfl rfl (by kernel_rfl) (by kernel_rfl) (by kernel_rfl) (fun _ _ _ h => h) (ans_fn 13 #[.tmp 42, .tmp 43] #[25, 25] #[ev U, ev Z] rfl (by rfl) (by rfl) Try.call13 (fun w h => T6.out w)) ?_
    simp only [Act.put, List.setIfInBounds_toArray, List.set_cons_zero, List.set_cons_succ]
    refine takeG 26 (some 45) (ev X) rfl rfl (by kernel_rfl) (by kernel_rfl) (by kernel_rfl) (fun _ _ _ h => h) (ans_ld (.tmp 7) rfl (by rfl) g0 X rfl (fun w h => b0.grows h)) ?_
    simp only [Act.put, List.setIfInBounds_toArray, List.set_cons_zero, List.set_cons_succ]
    refine takeG 27 (some 46) (ev Z) rfl rfl (by kernel_rfl) (by kernel_rfl) (by kernel_rfl) (fun _ _ _ h => h) (ans_ld (.tmp 9) rfl (by rfl) g2 Z rfl (fun w h => b2.grows h)) ?_
    simp only [Act.put, List.setIfInBounds_toArray, List.set_cons_zero, List.set_cons_succ]
    refine takeG 28 (some 47) (ev M) rfl rfl (by kernel_rfl) (by kernel_rfl) (by kernel_rfl) (fun _ _ _ h => h) (ans_fn 13 #[.tmp 45, .tmp 46] #[25, 25] #[ev X, ev Z] rfl (by rfl) (by rfl) Try.call13 (fun w h => T7.out w)) ?_
    simp only [Act.put, List.setIfInBounds_toArray, List.set_cons_zero, List.set_cons_succ]
    refine takeG 29 (some 48) (ev Y) rfl rfl (by kernel_rfl) (by kernel_rfl) (by kernel_rfl) (fun _ _ _ h => h) (ans_ld (.tmp 8) rfl (by rfl) g1 Y rfl (fun w h => b1.grows h)) ?_
    simp only [Act.put, List.setIfInBounds_toArray, List.set_cons_zero, List.set_cons_succ]
    refine takeG 30 (some 49) (ev Z) rfl rfl (by kernel_rfl) (by kernel_rfl) (by kernel_rfl) (fun _ _ _ h => h) (ans_ld (.tmp 9) rfl (by rfl) g2 Z rfl (fun w h => b2.grows h)) ?_
    simp only [Act.put, List.setIfInBounds_toArray, List.set_cons_zero, List.set_cons_succ]
    refine takeG 31 (some 50) (ev R) rfl rfl (by kernel_rfl) (by kernel_rfl) (by kernel_rfl) (fun _ _ _ h => h) (ans_fn 13 #[.tmp 48, .tmp 49] #[25, 25] #[ev Y, ev Z] rfl (by rfl) (by rfl) Try.call13 (fun w h => T4.out w)) ?_
    simp only [Act.put, List.setIfInBounds_toArray, List.set_cons_zero, List.set_cons_succ]
    refine takeG 32 (some 51) (ev V) rfl rfl (by kernel_rfl) (by kernel_rfl) (by kernel_rfl) (fun _ _ _ h => h) (ans_fn 16 #[.tmp 47, .tmp 50] #[25, 25] #[ev M, ev R] rfl (by rfl) (by rfl) Try.call16 (fun w h => A2.out w)) ?_
    simp only [Act.put, List.setIfInBounds_toArray, List.set_cons_zero, List.set_cons_succ]
    refine takeG 33 (some 52) (.bool true) rfl rfl (by kernel_rfl) (by kernel_rfl) (by kernel_rfl) (fun _ _ _ h => h) (ans_eqE (.tmp 44) (.tmp 51) rfl (by rfl) V rfl rfl) ?_
    simp only [Act.put, List.setIfInBounds_toArray, List.set_cons_zero, List.set_cons_succ]
    refine takeG 34 (some 53) (.bool true) rfl rfl (by kernel_rfl) (by kernel_rfl) (by kernel_rfl) (fun _ _ _ h => h) (ans_plain (by rfl) (fun w _ => rfl)) ?_
    simp only [Act.put, List.setIfInBounds_toArray, List.set_cons_zero, List.set_cons_succ]
    refine takeG 35 (some 54) (.bool true) rfl rfl (by kernel_rfl) (by kernel_rfl) (by kernel_rfl) (fun _ _ _ h => h) (ans_plain (by rfl) (fun w _ => rfl)) ?_
    simp only [Act.put, List.setIfInBounds_toArray, List.set_cons_zero, List.set_cons_succ]
    refine takeG 36 (some 55) (ev X) rfl rfl (by kernel_rfl) (by kernel_rfl) (by kernel_rfl) (fun _ _ _ h => h) (ans_ld (.tmp 7) rfl (by rfl) g0 X rfl (fun w h => b0.grows h)) ?_
    simp only [Act.put, List.setIfInBounds_toArray, List.set_cons_zero, List.set_cons_succ]
    refine takeG 37 (some 56) (ev u) rfl rfl (by kernel_rfl) (by kernel_rfl) (by kernel_rfl) (fun _ _ _ h => h) (ans_ld (.tmp 10) rfl (by rfl) w2.heap.size u rfl (fun w h => b3.grows h)) ?_
    simp only [Act.put, List.setIfInBounds_toArray, List.set_cons_zero, List.set_cons_succ]
    refine takeG 38 (some 57) (ev X) rfl rfl (by kernel_rfl) (by kernel_rfl) (by kernel_rfl) (fun _ _ _ h => h) (ans_fn 13 #[.tmp 55, .tmp 56] #[25, 25] #[ev X, ev u] rfl (by rfl) (by rfl) Try.call13 (fun w h => T9.out w)) ?_
    simp only [Act.put, List.setIfInBounds_toArray, List.set_cons_zero, List.set_cons_succ]
    refine takeG 39 (some 58) (ev X) rfl rfl (by kernel_rfl) (by kernel_rfl) (by kernel_rfl) (fun _ _ _ h => h) (ans_ld (.tmp 7) rfl (by rfl) g0 X rfl (fun w h => b0.grows h)) ?_
    simp only [Act.put, List.setIfInBounds_toArray, List.set_cons_zero, List.set_cons_succ]
    refine takeG 40 (some 59) (.bool true) rfl rfl (by kernel_rfl) (by kernel_rfl) (by kernel_rfl) (fun _ _ _ h => h) (ans_eqE (.tmp 57) (.tmp 58) rfl (by rfl) X rfl rfl) ?_
    simp only [Act.put, List.setIfInBounds_toArray, List.set_cons_zero, List.set_cons_succ]
    refine takeG 41 (some 60) (.bool true) rfl rfl (by kernel_rfl) (by kernel_rfl) (by kernel_rfl) (fun _ _ _ h => h) (ans_plain (by rfl) (fun w _ => rfl)) ?_
    simp only [Act.put, List.setIfInBounds_toArray, List.set_cons_zero, List.set_cons_succ]
    refine takeG 42 (some 61) (.bool true) rfl rfl (by kernel_rfl) (by kernel_rfl) (by kernel_rfl) (fun _ _ _ h => h) (ans_plain (by rfl) (fun w _ => rfl)) ?_
    simp only [Act.put, List.setIfInBounds_toArray, List.set_cons_zero, List.set_cons_succ]
    refine takeG 43 (some 62) (.bool true) rfl rfl (by kernel_rfl) (by kernel_rfl) (by kernel_rfl) (fun _ _ _ h => h) (ans_fn 18 #[] #[] #[] rfl (by rfl) (by rfl) Try.call18 (fun w h => lWorksF w)) ?_
    simp only [Act.put, List.setIfInBounds_toArray, List.set_cons_zero, List.set_cons_succ]
    refine takeG 44 (some 63) (.bool true) rfl rfl (by kernel_rfl) (by kernel_rfl) (by kernel_rfl) (fun _ _ _ h => h) (ans_plain (by rfl) (fun w _ => rfl)) ?_
    simp only [Act.put, List.setIfInBounds_toArray, List.set_cons_zero, List.set_cons_succ]
    refine takeG 45 (some 6) (.bool true) rfl rfl (by kernel_rfl) (by kernel_rfl) (by kernel_rfl) (fun _ _ _ h => h) (ans_plain (by rfl) (fun w _ => rfl)) ?_
    simp only [Act.put, List.setIfInBounds_toArray, List.set_cons_zero, List.set_cons_succ]
    refine doneG (by kernel_rfl) fun w9 hg9 hs9 => ?_
    go_wp2
    go_ret
    exact ⟨rfl, q0.trans (Below.mono hs9 q0.size)⟩

set_option maxRecDepth 100000 in
theorem lifted (os : Os) (started : os.Started) (H : Type) (enc : TypeId × Value → H) :
    ReturnsInHanded {} Try.checked os 5 .any (Rows.fieldLawsSpec.pre6 enc Try.prog Try.f5 Rows.fieldLawsRow.domain false) (Rows.fieldLawsSpec.post enc Try.prog Try.f5 false true false false) := by
  refine returnsInHanded_of_change (C := Try.checked) own started (by kernel_rfl) Try.func5
    (ChangeSpec.witness6 (enc := enc) (C := Try.checked) false ⟨#[], #[.agg #[.int .u8 0, .int .u8 0, .int .u8 0, .int .u8 0, .int .u8 0, .int .u8 0, .int .u8 0, .int .u8 0, .int .u8 0, .int .u8 0, .int .u8 0, .int .u8 0, .int .u8 0, .int .u8 0, .int .u8 0, .int .u8 0], .agg #[.int .u8 0, .int .u8 0, .int .u8 0, .int .u8 0, .int .u8 0, .int .u8 0, .int .u8 0, .int .u8 0, .int .u8 0, .int .u8 0, .int .u8 0, .int .u8 0, .int .u8 0, .int .u8 0, .int .u8 0, .int .u8 0], .agg #[.int .u8 0, .int .u8 0, .int .u8 0, .int .u8 0, .int .u8 0, .int .u8 0, .int .u8 0, .int .u8 0, .int .u8 0, .int .u8 0, .int .u8 0, .int .u8 0, .int .u8 0, .int .u8 0, .int .u8 0, .int .u8 0]], []⟩ 8 (by kernel_rfl) (by kernel_rfl) (by kernel_rfl) (by kernel_rfl)) ?_
  intro W base args ds gs before hval0 hW hcnd _
  have hval : ∀ (j : Nat) t v, Try.f5.params[j]? = some t → args[j]? = some v → Value.okWide Try.prog W .any base t v := hval0
  have hW' := hW
  obtain ⟨p, q, hA0, hV, rfl, hfz, hnd⟩ := hW
  have hA : DataW.TrodAll enc Try.prog W 0 (fun _ => true) true Try.f5.params.toList args.toList ds p := hA0
  rw [Try.params5] at hA hval
  obtain ⟨v0, vs0, d0, ds0, p0, q0, hargs, rfl, rfl, h0, r0⟩ := trodAll_cons hA
  obtain ⟨v1, vs1, d1, ds1, p1, q1, rfl, rfl, rfl, h1, r1⟩ := trodAll_cons r0
  obtain ⟨v2, vs2, d2, ds2, p2, q2, rfl, rfl, rfl, h2, r2⟩ := trodAll_cons r1
  obtain ⟨rfl, rfl, rfl⟩ := trodAll_nil r2
  obtain rfl : args = #[v0, v1, v2] := by cases args; simp_all
  obtain ⟨rfl, rfl⟩ := trodVars_none hV
  obtain ⟨x0, rfl, z0⟩ := okWide_arr16 (hval 0 22 v0 rfl rfl)
  have k0 := h0
  have lt0 : ∀ x ∈ p0, x.block < W.heap.size := by obtain ⟨m, hm⟩ := k0; exact DataW.trod_lt m _ _ _ hm
  obtain ⟨l0, rfl, w0⟩ : ∃ l : List UInt8, x0 = (cs l).toArray ∧ l.length = 16 := by
    obtain ⟨fuel, hf⟩ := h0
    exact arr16_of_trod z0 hf
  obtain ⟨x1, rfl, z1⟩ := okWide_arr16 (hval 1 22 v1 rfl rfl)
  have k1 := h1
  have lt1 : ∀ x ∈ p1, x.block < W.heap.size := by obtain ⟨m, hm⟩ := k1; exact DataW.trod_lt m _ _ _ hm
  obtain ⟨l1, rfl, w1⟩ : ∃ l : List UInt8, x1 = (cs l).toArray ∧ l.length = 16 := by
    obtain ⟨fuel, hf⟩ := h1
    exact arr16_of_trod z1 hf
  obtain ⟨x2, rfl, z2⟩ := okWide_arr16 (hval 2 22 v2 rfl rfl)
  have k2 := h2
  have lt2 : ∀ x ∈ p2, x.block < W.heap.size := by obtain ⟨m, hm⟩ := k2; exact DataW.trod_lt m _ _ _ hm
  obtain ⟨l2, rfl, w2⟩ : ∃ l : List UInt8, x2 = (cs l).toArray ∧ l.length = 16 := by
    obtain ⟨fuel, hf⟩ := h2
    exact arr16_of_trod z2 hf
  clear hA0 hval0
  refine (walk l0 l1 l2 W w0 w1 w2).mono fun e W' ⟨he, bel⟩ => ?_
  subst he
  exact ⟨_, rfl, _, _, _, [], _, [], hW', trodAll_mk1 (shut_bool Try.underlying4 _), (trodAll_cons_mk (Below.trod laidOut (by kernel_rfl) (of_decide_eq_true (by kernel_rfl)) k0 bel lt0) (trodAll_cons_mk (Below.trod laidOut (by kernel_rfl) (of_decide_eq_true (by kernel_rfl)) k1 bel lt1) (trodAll_cons_mk (Below.trod laidOut (by kernel_rfl) (of_decide_eq_true (by kernel_rfl)) k2 bel lt2) trodAll_mk0))), rfl, bel.frame _, fun h => by cases h⟩

theorem over : Rows.fieldLawsRow.holds Try.pinned (OpenSpec.ofChange Rows.fieldLawsSpec) :=
  OpenClaim.holds_of_wide 5 Try.f5 rfl rfl rfl rfl rfl rfl rfl ⟨rfl, rfl, rfl, rfl, rfl⟩ rfl rfl rfl rfl rfl (by kernel_rfl) Try.func5 (by kernel_rfl)
    (of_decide_eq_true (by kernel_rfl)) (by unfold Func.isWrapper; first | (rw [if_pos (by decide +kernel)]; kernel_rfl) | (rw [if_neg (by decide +kernel)]; exact ⟨rfl, rfl⟩))
    (fun os started H enc _ => lifted os started H enc)
end FieldLawsLaw

/-- The statement. -/
theorem fieldLaws_holds : Rows.FieldLawsSaid := FieldLawsLaw.over
#print axioms fieldLaws_holds
end Go.Proofs.Ytfgoomlgmepalaa
