/-
  Proved: for any two rows of sixteen bytes the statement FieldNone of layer 5 answers true and leaves its arguments as they were. Conditions beside the statement's own: none.
-/
import Derived.Test.YtfgoomlgmepalaaRows
import Derived.Test.YtfgoomlgmepalaaOpenArr
import Derived.Test.YtfgoomlgmepalaaFieldS
import Derived.Test.YtfgoomlgmepalaaFieldNo
import Derived.Test.YtfgoomlgmepalaaFieldE
import Derived.Below
import Derived.ChangeOld
namespace Go.Proofs.Ytfgoomlgmepalaa
namespace FieldNoneLaw
open Go.ChangeShapes Go.WideShapes Go.ChangeAt Go.RowKit
open Go.ChangeMaps (open_string shut_string)
set_option linter.unusedVariables false

theorem own : ownKnob Try.prog.godebug = none := by kernel_rfl
theorem laidOut : laidOutB Try.prog = true := by kernel_rfl

set_option maxRecDepth 100000 in
set_option maxHeartbeats 4000000 in
theorem walk (l0 : List UInt8) (l1 : List UInt8) (w : World) (w0 : l0.length = 16) (w1 : l1.length = 16) :
    Calls Try.prog 6 #[.agg (cs l0).toArray, .agg (cs l1).toArray] w fun e w' => e = .returned (.bool true) ∧ Below w.heap.size w w' := by
  have hall := allK
  have HL0 : Hid (l0.length = 16) := w0
  have HL1 : Hid (l1.length = 16) := w1
  obtain ⟨X, hX⟩ : ∃ X, X = feB l0 := ⟨_, rfl⟩
  have C0 : Hid (∀ w p c, Bs w p 16 c l0 → Calls Try.prog 7 #[.slice p 16 c] w fun e w' => e = .returned (ev X) ∧ Below w.heap.size w w') := fun w p c h => by rw [hX]; exact oFrom w h
  obtain ⟨Y, hY⟩ : ∃ X, X = feB l1 := ⟨_, rfl⟩
  have C1 : Hid (∀ w p c, Bs w p 16 c l1 → Calls Try.prog 7 #[.slice p 16 c] w fun e w' => e = .returned (ev Y) ∧ Below w.heap.size w w') := fun w p c h => by rw [hY]; exact oFrom w h
  have CT : Hid (∀ w, Calls Try.prog 13 #[ev X, ev Y] w fun e w' => e = .returned (ev (fmul X Y)) ∧ Below w.heap.size w w') := fun w => by
    exact oTimesE w X Y
  have CZ : Hid (∀ w a, Calls Try.prog 21 #[ev a] w fun e w' => e = .returned (.bool (decide (a = 0))) ∧ Below w.heap.size w w') := fun w a => oZeroE w a
  have HZ : decide (fmul X Y = 0) = (decide (X = 0) || decide (Y = 0)) := by
    rw [Bool.eq_iff_iff, Bool.or_eq_true, decide_eq_true_iff, decide_eq_true_iff, decide_eq_true_iff]
    exact fmul_zero_iff X Y
  clear hX hY
  generalize fmul X Y = Z at *
  go_enter Try.func6, Try.ntmps6
  go_upto_region 1 with fail
  obtain ⟨W, hW⟩ : ∃ W, W = ((w.alloc (.cells (cs l0).toArray 22)).alloc (.cells (cs l1).toArray 22)) := ⟨_, rfl⟩
  rw [← hW]
  have d0 : Blk W (w.heap.size) (cs l0) 22 := by rw [hW]; exact (Blk.new w _ _).old _
  have d1 : Blk W (w.heap.size + 1) (cs l1) 22 := by rw [hW]; exact Blk.newAt (w.alloc _) _ _ _ (by simp) _ rfl
  have qW : Below w.heap.size w W := by rw [hW]; exact below2 w _ _
  clear hW
  have hA0 : Bs W (some ⟨w.heap.size, 0, none⟩) 16 16 l0 := by
    have := Bs.of_range d0.whole (c := 16) (by rw [HL0.out]; omega) (by omega)
    rw [HL0.out] at this
    exact this
  have hA1 : Bs W (some ⟨w.heap.size + 1, 0, none⟩) 16 16 l1 := by
    have := Bs.of_range d1.whole (c := 16) (by rw [HL1.out]; omega) (by omega)
    rw [HL1.out] at this
    exact this
  go_cut [5, 6] (fun p0 p1 wx => ∃ g0 g1, p0 = .pointer (some ⟨g0, 0, none⟩) ∧ p1 = .pointer (some ⟨g1, 0, none⟩) ∧ Blk wx g0 (ec X) 25 ∧ Blk wx g1 (ec Y) 25 ∧ Below w.heap.size w wx ∧ Grows W wx)
  case first =>
    refine regionG (S := Grows W) (by kernel_rfl) (Below.refl _ W).drew ?_
    refine takeG 0 (some 7) (.slice (some ⟨w.heap.size, 0, none⟩) 16 16) rfl rfl (by kernel_rfl) (by kernel_rfl) (by kernel_rfl) (fun _ _ _ h => h) (ans_all (.tmp 2) rfl (by rfl) (w.heap.size) rfl) ?_
    simp only [Act.put, List.setIfInBounds_toArray, List.set_cons_zero, List.set_cons_succ]
    refine takeG 2 (some 9) (.slice (some ⟨w.heap.size + 1, 0, none⟩) 16 16) rfl rfl (by kernel_rfl) (by kernel_rfl) (by kernel_rfl) (fun _ _ _ h => h) (ans_all (.tmp 3) rfl (by rfl) (w.heap.size + 1) rfl) ?_
    simp only [Act.put, List.setIfInBounds_toArray, List.set_cons_zero, List.set_cons_succ]
    refine takeG 1 (some 8) (ev X) rfl rfl (by kernel_rfl) (by kernel_rfl) (by kernel_rfl) (fun _ _ _ h => h) (ans_fn 7 #[.tmp 7] #[27] #[.slice (some ⟨w.heap.size, 0, none⟩) 16 16] rfl (by rfl) (by rfl) Try.call7 (fun w h => C0.out w _ _ (hA0.grows h))) ?_
    simp only [Act.put, List.setIfInBounds_toArray, List.set_cons_zero, List.set_cons_succ]
    refine takeG 3 (some 10) (ev Y) rfl rfl (by kernel_rfl) (by kernel_rfl) (by kernel_rfl) (fun _ _ _ h => h) (ans_fn 7 #[.tmp 9] #[27] #[.slice (some ⟨w.heap.size + 1, 0, none⟩) 16 16] rfl (by rfl) (by rfl) Try.call7 (fun w h => C1.out w _ _ (hA1.grows h))) ?_
    simp only [Act.put, List.setIfInBounds_toArray, List.set_cons_zero, List.set_cons_succ]
    refine alloc2 (fun _ _ h k => Grows.trans h k) 4 5 5 6 (by decide) (by decide) (makesE rfl) (makesE rfl) (by kernel_rfl) (by kernel_rfl) (by kernel_rfl) fun g0 g1 w2 hg2 hs2 b0 b1 hk0 hk1 hne01 => ?_
    simp only [Act.put, List.setIfInBounds_toArray, List.set_cons_zero, List.set_cons_succ]
    refine oneG 6 (by kernel_rfl) fun u0 hg hs => ?_
    replace b0 := b0.grows hg
    replace b1 := b1.grows hg
    refine storeE 6 (.tmp 5) (.tmp 8) rfl rfl rfl rfl g0 X _ rfl b0 rfl rfl fun v0 bn ho hB => ⟨hB _ _ hk0 hs, ?_⟩
    replace b1 := ho _ _ _ (Ne.symm hne01) b1
    replace b0 := bn
    clear bn ho hB hg hs
    refine oneG 7 (by kernel_rfl) fun u1 hg hs => ?_
    replace b0 := b0.grows hg
    replace b1 := b1.grows hg
    refine storeE 7 (.tmp 6) (.tmp 10) rfl rfl rfl rfl g1 Y _ rfl b1 rfl rfl fun v1 bn ho hB => ⟨hB _ _ hk1 hs, ?_⟩
    replace b0 := ho _ _ _ (hne01) b0
    replace b1 := bn
    clear bn ho hB hg hs
    refine doneG (by kernel_rfl) fun w7 hg7 hs7 => ?_
    replace b0 := b0.grows hg7
    replace b1 := b1.grows hg7
    have q7 := qW.trans (Below.mono hs7 qW.size)
    go_wp2_with fail
    go_meet
    exact ⟨g0, g1, rfl, rfl, b0, b1, q7, hs7⟩
  case rest =>
    obtain ⟨g0, g1, rfl, rfl, b0, b1, q0, hWc⟩ := hcut
    by_cases hX0 : X = 0
    · rw [decide_eq_true hX0, Bool.true_or] at HZ
      have CZ1 : Hid (∀ w, Calls Try.prog 21 #[ev Z] w fun e w' => e = .returned (.bool true) ∧ Below w.heap.size w w') := fun w => by
        have := CZ.out w Z
        rw [HZ] at this
        exact this
      have CZ2 : Hid (∀ w, Calls Try.prog 21 #[ev X] w fun e w' => e = .returned (.bool true) ∧ Below w.heap.size w w') := fun w => by
        have := CZ.out w X
        rw [decide_eq_true hX0] at this
        exact this
      go_wp2_with fail
      refine regionG (S := Grows wc) (by kernel_rfl) (Below.refl _ wc).drew ?_
      refine takeG 0 (some 11) (ev X) rfl rfl (by kernel_rfl) (by kernel_rfl) (by kernel_rfl) (fun _ _ _ h => h) (ans_ld (.tmp 5) rfl (by rfl) g0 X rfl (fun w h => b0.grows h)) ?_
      simp only [Act.put, List.setIfInBounds_toArray, List.set_cons_zero, List.set_cons_succ]
      refine takeG 1 (some 12) (ev Y) rfl rfl (by kernel_rfl) (by kernel_rfl) (by kernel_rfl) (fun _ _ _ h => h) (ans_ld (.tmp 6) rfl (by rfl) g1 Y rfl (fun w h => b1.grows h)) ?_
      simp only [Act.put, List.setIfInBounds_toArray, List.set_cons_zero, List.set_cons_succ]
      refine takeG 2 (some 13) (ev Z) rfl rfl (by kernel_rfl) (by kernel_rfl) (by kernel_rfl) (fun _ _ _ h => h) (ans_fn 13 #[.tmp 11, .tmp 12] #[25, 25] #[ev X, ev Y] rfl (by rfl) (by rfl) Try.call13 (fun w h => CT.out w)) ?_
      simp only [Act.put, List.setIfInBounds_toArray, List.set_cons_zero, List.set_cons_succ]
      refine takeG 3 (some 14) (.bool true) rfl rfl (by kernel_rfl) (by kernel_rfl) (by kernel_rfl) (fun _ _ _ h => h) (ans_fn 21 #[.tmp 13] #[25] #[ev Z] rfl (by rfl) (by rfl) Try.call21 (fun w h => CZ1.out w)) ?_
      simp only [Act.put, List.setIfInBounds_toArray, List.set_cons_zero, List.set_cons_succ]
      refine takeG 4 (some 15) (ev X) rfl rfl (by kernel_rfl) (by kernel_rfl) (by kernel_rfl) (fun _ _ _ h => h) (ans_ld (.tmp 5) rfl (by rfl) g0 X rfl (fun w h => b0.grows h)) ?_
      simp only [Act.put, List.setIfInBounds_toArray, List.set_cons_zero, List.set_cons_succ]
      refine takeG 5 (some 16) (.bool true) rfl rfl (by kernel_rfl) (by kernel_rfl) (by kernel_rfl) (fun _ _ _ h => h) (ans_fn 21 #[.tmp 15] #[25] #[ev X] rfl (by rfl) (by rfl) Try.call21 (fun w h => CZ2.out w)) ?_
      simp only [Act.put, List.setIfInBounds_toArray, List.set_cons_zero, List.set_cons_succ]
      refine takeG 6 (some 17) (.bool true) rfl rfl (by kernel_rfl) (by kernel_rfl) (by kernel_rfl) (fun _ _ _ h => h) (ans_plain (by rfl) (fun w _ => rfl)) ?_
      simp only [Act.put, List.setIfInBounds_toArray, List.set_cons_zero, List.set_cons_succ]
      refine takeG 7 (some 18) (undef) rfl rfl (by kernel_rfl) (by kernel_rfl) (by kernel_rfl) (fun _ _ _ h => h) (Or.inr ⟨by rfl, rfl⟩) ?_
      simp only [Act.put, List.setIfInBounds_toArray, List.set_cons_zero, List.set_cons_succ]
      refine takeG 8 (some 19) (undef) rfl rfl (by kernel_rfl) (by kernel_rfl) (by kernel_rfl) (fun _ _ _ h => h) (Or.inr ⟨by rfl, rfl⟩) ?_
      simp only [Act.put, List.setIfInBounds_toArray, List.set_cons_zero, List.set_cons_succ]
      refine takeG 9 (some 20) (.bool true) rfl rfl (by kernel_rfl) (by kernel_rfl) (by kernel_rfl) (fun _ _ _ h => h) (ans_plain (by rfl) (fun w _ => rfl)) ?_
      simp only [Act.put, List.setIfInBounds_toArray, List.set_cons_zero, List.set_cons_succ]
      refine takeG 10 (some 21) (.bool true) rfl rfl (by kernel_rfl) (by kernel_rfl) (by kernel_rfl) (fun _ _ _ h => h) (ans_eqB (.tmp 14) (.tmp 20) rfl (by rfl) true rfl rfl) ?_
      simp only [Act.put, List.setIfInBounds_toArray, List.set_cons_zero, List.set_cons_succ]
      refine takeG 11 (some 22) (.bool true) rfl rfl (by kernel_rfl) (by kernel_rfl) (by kernel_rfl) (fun _ _ _ h => h) (ans_plain (by rfl) (fun w _ => rfl)) ?_
      simp only [Act.put, List.setIfInBounds_toArray, List.set_cons_zero, List.set_cons_succ]
      refine takeG 12 (some 23) (.bool true) rfl rfl (by kernel_rfl) (by kernel_rfl) (by kernel_rfl) (fun _ _ _ h => h) (ans_fn 18 #[] #[] #[] rfl (by rfl) (by rfl) Try.call18 (fun w h => lWorksF w)) ?_
      simp only [Act.put, List.setIfInBounds_toArray, List.set_cons_zero, List.set_cons_succ]
      refine takeG 13 (some 24) (.bool true) rfl rfl (by kernel_rfl) (by kernel_rfl) (by kernel_rfl) (fun _ _ _ h => h) (ans_plain (by rfl) (fun w _ => rfl)) ?_
      simp only [Act.put, List.setIfInBounds_toArray, List.set_cons_zero, List.set_cons_succ]
      refine takeG 14 (some 4) (.bool true) rfl rfl (by kernel_rfl) (by kernel_rfl) (by kernel_rfl) (fun _ _ _ h => h) (ans_plain (by rfl) (fun w _ => rfl)) ?_
      simp only [Act.put, List.setIfInBounds_toArray, List.set_cons_zero, List.set_cons_succ]
      refine doneG (by kernel_rfl) fun w9 hg9 hs9 => ?_
      go_wp2
      go_ret
      exact ⟨rfl, q0.trans (Below.mono hs9 q0.size)⟩
    · rw [decide_eq_false hX0, Bool.false_or] at HZ
      obtain ⟨p, hp⟩ : ∃ p, p = decide (Y = 0) := ⟨_, rfl⟩
      rw [← hp] at HZ
      have CZ1 : Hid (∀ w, Calls Try.prog 21 #[ev Z] w fun e w' => e = .returned (.bool p) ∧ Below w.heap.size w w') := fun w => by
        have := CZ.out w Z
        rw [HZ] at this
        exact this
      have CZ2 : Hid (∀ w, Calls Try.prog 21 #[ev X] w fun e w' => e = .returned (.bool false) ∧ Below w.heap.size w w') := fun w => by
        have := CZ.out w X
        rw [decide_eq_false hX0] at this
        exact this
      have CZ3 : Hid (∀ w, Calls Try.prog 21 #[ev Y] w fun e w' => e = .returned (.bool p) ∧ Below w.heap.size w w') := fun w => by
        have := CZ.out w Y
        rw [← hp] at this
        exact this
      go_wp2_with fail
      refine regionG (S := Grows wc) (by kernel_rfl) (Below.refl _ wc).drew ?_
      refine takeG 0 (some 11) (ev X) rfl rfl (by kernel_rfl) (by kernel_rfl) (by kernel_rfl) (fun _ _ _ h => h) (ans_ld (.tmp 5) rfl (by rfl) g0 X rfl (fun w h => b0.grows h)) ?_
      simp only [Act.put, List.setIfInBounds_toArray, List.set_cons_zero, List.set_cons_succ]
      refine takeG 1 (some 12) (ev Y) rfl rfl (by kernel_rfl) (by kernel_rfl) (by kernel_rfl) (fun _ _ _ h => h) (ans_ld (.tmp 6) rfl (by rfl) g1 Y rfl (fun w h => b1.grows h)) ?_
      simp only [Act.put, List.setIfInBounds_toArray, List.set_cons_zero, List.set_cons_succ]
      refine takeG 2 (some 13) (ev Z) rfl rfl (by kernel_rfl) (by kernel_rfl) (by kernel_rfl) (fun _ _ _ h => h) (ans_fn 13 #[.tmp 11, .tmp 12] #[25, 25] #[ev X, ev Y] rfl (by rfl) (by rfl) Try.call13 (fun w h => CT.out w)) ?_
      simp only [Act.put, List.setIfInBounds_toArray, List.set_cons_zero, List.set_cons_succ]
      refine takeG 3 (some 14) (.bool p) rfl rfl (by kernel_rfl) (by kernel_rfl) (by kernel_rfl) (fun _ _ _ h => h) (ans_fn 21 #[.tmp 13] #[25] #[ev Z] rfl (by rfl) (by rfl) Try.call21 (fun w h => CZ1.out w)) ?_
      simp only [Act.put, List.setIfInBounds_toArray, List.set_cons_zero, List.set_cons_succ]
      refine takeG 4 (some 15) (ev X) rfl rfl (by kernel_rfl) (by kernel_rfl) (by kernel_rfl) (fun _ _ _ h => h) (ans_ld (.tmp 5) rfl (by rfl) g0 X rfl (fun w h => b0.grows h)) ?_
      simp only [Act.put, List.setIfInBounds_toArray, List.set_cons_zero, List.set_cons_succ]
      refine takeG 5 (some 16) (.bool false) rfl rfl (by kernel_rfl) (by kernel_rfl) (by kernel_rfl) (fun _ _ _ h => h) (ans_fn 21 #[.tmp 15] #[25] #[ev X] rfl (by rfl) (by rfl) Try.call21 (fun w h => CZ2.out w)) ?_
      simp only [Act.put, List.setIfInBounds_toArray, List.set_cons_zero, List.set_cons_succ]
      refine takeG 6 (some 17) (.bool false) rfl rfl (by kernel_rfl) (by kernel_rfl) (by kernel_rfl) (fun _ _ _ h => h) (ans_plain (by rfl) (fun w _ => rfl)) ?_
      simp only [Act.put, List.setIfInBounds_toArray, List.set_cons_zero, List.set_cons_succ]
      refine takeG 7 (some 18) (ev Y) rfl rfl (by kernel_rfl) (by kernel_rfl) (by kernel_rfl) (fun _ _ _ h => h) (ans_ld (.tmp 6) rfl (by rfl) g1 Y rfl (fun w h => b1.grows h)) ?_
      simp only [Act.put, List.setIfInBounds_toArray, List.set_cons_zero, List.set_cons_succ]
      refine takeG 8 (some 19) (.bool p) rfl rfl (by kernel_rfl) (by kernel_rfl) (by kernel_rfl) (fun _ _ _ h => h) (ans_fn 21 #[.tmp 18] #[25] #[ev Y] rfl (by rfl) (by rfl) Try.call21 (fun w h => CZ3.out w)) ?_
      simp only [Act.put, List.setIfInBounds_toArray, List.set_cons_zero, List.set_cons_succ]
      refine takeG 9 (some 20) (.bool p) rfl rfl (by kernel_rfl) (by kernel_rfl) (by kernel_rfl) (fun _ _ _ h => h) (ans_plain (by rfl) (fun w _ => rfl)) ?_
      simp only [Act.put, List.setIfInBounds_toArray, List.set_cons_zero, List.set_cons_succ]
      refine takeG 10 (some 21) (.bool true) rfl rfl (by kernel_rfl) (by kernel_rfl) (by kernel_rfl) (fun _ _ _ h => h) (ans_eqB (.tmp 14) (.tmp 20) rfl (by rfl) p rfl rfl) ?_
      simp only [Act.put, List.setIfInBounds_toArray, List.set_cons_zero, List.set_cons_succ]
      refine takeG 11 (some 22) (.bool true) rfl rfl (by kernel_rfl) (by kernel_rfl) (by kernel_rfl) (fun _ _ _ h => h) (ans_plain (by rfl) (fun w _ => rfl)) ?_
      simp only [Act.put, List.setIfInBounds_toArray, List.set_cons_zero, List.set_cons_succ]
      refine takeG 12 (some 23) (.bool true) rfl rfl (by kernel_rfl) (by kernel_rfl) (by kernel_rfl) (fun _ _ _ h => h) (ans_fn 18 #[] #[] #[] rfl (by rfl) (by rfl) Try.call18 (fun w h => lWorksF w)) ?_
      simp only [Act.put, List.setIfInBounds_toArray, List.set_cons_zero, List.set_cons_succ]
      refine takeG 13 (some 24) (.bool true) rfl rfl (by kernel_rfl) (by kernel_rfl) (by kernel_rfl) (fun _ _ _ h => h) (ans_plain (by rfl) (fun w _ => rfl)) ?_
      simp only [Act.put, List.setIfInBounds_toArray, List.set_cons_zero, List.set_cons_succ]
      refine takeG 14 (some 4) (.bool true) rfl rfl (by kernel_rfl) (by kernel_rfl) (by kernel_rfl) (fun _ _ _ h => h) (ans_plain (by rfl) (fun w _ => rfl)) ?_
      simp only [Act.put, List.setIfInBounds_toArray, List.set_cons_zero, List.set_cons_succ]
      refine doneG (by kernel_rfl) fun w9 hg9 hs9 => ?_
      go_wp2
      go_ret
      exact ⟨rfl, q0.trans (Below.mono hs9 q0.size)⟩

set_option maxRecDepth 100000 in
theorem lifted (os : Os) (started : os.Started) (H : Type) (enc : TypeId × Value → H) :
    ReturnsInHanded {} Try.checked os 6 .any (Rows.fieldNoneSpec.pre6 enc Try.prog Try.f6 Rows.fieldNoneRow.domain false) (Rows.fieldNoneSpec.post enc Try.prog Try.f6 false true false false) := by
  refine returnsInHanded_of_change (C := Try.checked) own started (by kernel_rfl) Try.func6
    (ChangeSpec.witness6 (enc := enc) (C := Try.checked) false ⟨#[], #[.agg #[.int .u8 0, .int .u8 0, .int .u8 0, .int .u8 0, .int .u8 0, .int .u8 0, .int .u8 0, .int .u8 0, .int .u8 0, .int .u8 0, .int .u8 0, .int .u8 0, .int .u8 0, .int .u8 0, .int .u8 0, .int .u8 0], .agg #[.int .u8 0, .int .u8 0, .int .u8 0, .int .u8 0, .int .u8 0, .int .u8 0, .int .u8 0, .int .u8 0, .int .u8 0, .int .u8 0, .int .u8 0, .int .u8 0, .int .u8 0, .int .u8 0, .int .u8 0, .int .u8 0]], []⟩ 8 (by kernel_rfl) (by kernel_rfl) (by kernel_rfl) (by kernel_rfl)) ?_
  intro W base args ds gs before hval0 hW hcnd _
  have hval : ∀ (j : Nat) t v, Try.f6.params[j]? = some t → args[j]? = some v → Value.okWide Try.prog W .any base t v := hval0
  have hW' := hW
  obtain ⟨p, q, hA0, hV, rfl, hfz, hnd⟩ := hW
  have hA : DataW.TrodAll enc Try.prog W 0 (fun _ => true) true Try.f6.params.toList args.toList ds p := hA0
  rw [Try.params6] at hA hval
  obtain ⟨v0, vs0, d0, ds0, p0, q0, hargs, rfl, rfl, h0, r0⟩ := trodAll_cons hA
  obtain ⟨v1, vs1, d1, ds1, p1, q1, rfl, rfl, rfl, h1, r1⟩ := trodAll_cons r0
  obtain ⟨rfl, rfl, rfl⟩ := trodAll_nil r1
  obtain rfl : args = #[v0, v1] := by cases args; simp_all
  obtain ⟨rfl, rfl⟩ := trodVars_none hV
  obtain ⟨x0, rfl, z0⟩ := okWide_arr16 (hval 0 22 v0 rfl rfl)
  have k0 := h0
  have lt0 : ∀ x ∈ p0, x.block < W.heap.size := by obtain ⟨m, hm⟩ := k0; exact DataW.trod_lt m _ _ _ hm
  obtain ⟨l0, rfl, w0⟩ : ∃ l : List UInt8, x0 = (cs l).toArray ∧ l.length = 16 := by
    obtain ⟨fuel, hf⟩ := h0
    exact arr16_of_trod z0 hf
  obtain ⟨x1, rfl, z1⟩ := okWide_arr16 (hval 1 22 v1 rfl rfl)
  have k1 := h1
  have lt1 : ∀ x ∈ p1, x.block < W.heap.size := by obtain ⟨m, hm⟩ := k1; exact DataW.trod_lt m _ _ _ hm
  obtain ⟨l1, rfl, w1⟩ : ∃ l : List UInt8, x1 = (cs l).toArray ∧ l.length = 16 := by
    obtain ⟨fuel, hf⟩ := h1
    exact arr16_of_trod z1 hf
  clear hA0 hval0
  refine (walk l0 l1 W w0 w1).mono fun e W' ⟨he, bel⟩ => ?_
  subst he
  exact ⟨_, rfl, _, _, _, [], _, [], hW', trodAll_mk1 (shut_bool Try.underlying4 _), (trodAll_cons_mk (Below.trod laidOut (by kernel_rfl) (of_decide_eq_true (by kernel_rfl)) k0 bel lt0) (trodAll_cons_mk (Below.trod laidOut (by kernel_rfl) (of_decide_eq_true (by kernel_rfl)) k1 bel lt1) trodAll_mk0)), rfl, bel.frame _, fun h => by cases h⟩

theorem over : Rows.fieldNoneRow.holds Try.pinned (OpenSpec.ofChange Rows.fieldNoneSpec) :=
  OpenClaim.holds_of_wide 6 Try.f6 rfl rfl rfl rfl rfl rfl rfl ⟨rfl, rfl, rfl, rfl, rfl⟩ rfl rfl rfl rfl rfl (by kernel_rfl) Try.func6 (by kernel_rfl)
    (of_decide_eq_true (by kernel_rfl)) (by unfold Func.isWrapper; first | (rw [if_pos (by decide +kernel)]; kernel_rfl) | (rw [if_neg (by decide +kernel)]; exact ⟨rfl, rfl⟩))
    (fun os started H enc _ => lifted os started H enc)
end FieldNoneLaw

/-- The statement. -/
theorem fieldNone_holds : Rows.FieldNoneSaid := FieldNoneLaw.over
#print axioms fieldNone_holds
end Go.Proofs.Ytfgoomlgmepalaa
