/-
  Proved: for any two rows of sixteen bytes and any row of bytes the statement FieldHashes of layer 5 answers true and leaves its arguments as they were. Conditions beside the statement's own: none.
-/
import Derived.Test.YtfgoomlgmepalaaRows
import Derived.Test.YtfgoomlgmepalaaOpenArr
import Derived.Test.YtfgoomlgmepalaaFieldS
import Derived.Test.YtfgoomlgmepalaaFieldE
import Derived.Test.YtfgoomlgmepalaaRefFieldD
import Derived.Test.YtfgoomlgmepalaaSameT
import Derived.Below
import Derived.ChangeOld
namespace Go.Proofs.Ytfgoomlgmepalaa
namespace FieldHashesLaw
open Go.ChangeShapes Go.WideShapes Go.ChangeAt Go.RowKit
open Go.ChangeMaps (open_string shut_string)
set_option linter.unusedVariables false

theorem own : ownKnob Try.prog.godebug = none := by kernel_rfl
theorem laidOut : laidOutB Try.prog = true := by kernel_rfl

set_option maxRecDepth 100000 in
set_option maxHeartbeats 4000000 in
theorem walk (l0 : List UInt8) (l1 : List UInt8) (a2 : Option Addr) (len2 cap2 : Nat) (l2 : List UInt8) (w : World) (w0 : l0.length = 16) (w1 : l1.length = 16) (w2 : Bs w a2 len2 cap2 l2) :
    Calls Try.prog 4 #[.agg (cs l0).toArray, .agg (cs l1).toArray, .slice a2 len2 cap2] w fun e w' => e = .returned (.bool true) ∧ Below w.heap.size w w' := by
  have hm := w2.max
  by_cases h1 : len2 ≤ 300
  · have hb1 : (len2 : Int) ≤ 300 := by omega
    have hall := allK
    have HL0 : Hid (l0.length = 16) := w0
    have HL1 : Hid (l1.length = 16) := w1
    obtain ⟨X, hX⟩ : ∃ X, X = feB l0 := ⟨_, rfl⟩
    have C0 : Hid (∀ w p c, Bs w p 16 c l0 → Calls Try.prog 7 #[.slice p 16 c] w fun e w' => e = .returned (.agg #[.int .u64 (hN X : Int), .int .u64 (lN X : Int)]) ∧ Below w.heap.size w w') := fun w p c h => by rw [hX]; exact oFrom w h
    have R0 : Hid (∀ w p c, Bs w p 16 c l0 → Calls Try.prog 10 #[.slice p 16 c] w (GivesB w (fb X))) := fun w p c h => by rw [hX]; exact rBits w h (by omega)
    obtain ⟨Y, hY⟩ : ∃ X, X = feB l1 := ⟨_, rfl⟩
    have C1 : Hid (∀ w p c, Bs w p 16 c l1 → Calls Try.prog 7 #[.slice p 16 c] w fun e w' => e = .returned (.agg #[.int .u64 (hN Y : Int), .int .u64 (lN Y : Int)]) ∧ Below w.heap.size w w') := fun w p c h => by rw [hY]; exact oFrom w h
    have R1 : Hid (∀ w p c, Bs w p 16 c l1 → Calls Try.prog 10 #[.slice p 16 c] w (GivesB w (fb Y))) := fun w p c h => by rw [hY]; exact rBits w h (by omega)
    clear hX hY w0 w1
    obtain ⟨D, hD⟩ : ∃ D, D = hashF X Y l2 := ⟨_, rfl⟩
    have CB : Hid (∀ w, Calls Try.prog 11 #[.agg #[.int .u64 (hN X : Int), .int .u64 (lN X : Int)]] w fun e w' => ∃ g, e = .returned (.pointer (some ⟨g, 0, none⟩)) ∧ w.heap.size ≤ g ∧ Tb w' g (pr X) ∧ Below w.heap.size w w') := fun w => oBuildF w X
    have CH : Hid (∀ w g, Tb w g (pr X) → Bs w a2 len2 cap2 l2 → Calls Try.prog 19 #[.pointer (some ⟨g, 0, none⟩), .agg #[.int .u64 (hN Y : Int), .int .u64 (lN Y : Int)], .slice a2 len2 cap2] w fun e w' => e = .returned (.agg #[.int .u64 (hN D : Int), .int .u64 (lN D : Int)]) ∧ Below w.heap.size w w') := fun w g hT hB => by rw [hD]; exact oHashF w g X Y hT hB (by omega)
    have R2 : Hid (∀ w p c q d, Bo w p 128 c (fb X) → Bo w q 128 d (fb Y) → Bs w a2 len2 cap2 l2 → Calls Try.prog 20 #[.slice p 128 c, .slice q 128 d, .slice a2 len2 cap2] w (HasB w (fb D))) := fun w p c q d h h2 h3 => by rw [hD]; exact rHash w h h2 h3 (by omega)
    have CY : Hid (∀ w, Calls Try.prog 14 #[.agg #[.int .u64 (hN D : Int), .int .u64 (lN D : Int)]] w (Gives w (byF D))) := fun w => oBytesE w D
    clear hD
    go_enter Try.func4, Try.ntmps4
    go_wp2_with fail
    obtain ⟨W, hW⟩ : ∃ W, W = ((w.alloc (.cells (cs l0).toArray 22)).alloc (.cells (cs l1).toArray 22)) := ⟨_, rfl⟩
    rw [← hW]
    have d0 : Blk W (w.heap.size) (cs l0) 22 := by rw [hW]; exact (Blk.new w _ _).old _
    have d1 : Blk W (w.heap.size + 1) (cs l1) 22 := by rw [hW]; exact Blk.newAt (w.alloc _) _ _ _ (by simp) _ rfl
    have qW : Below w.heap.size w W := by rw [hW]; exact below2 w _ _
    clear hW
    have hA0 : Bs W (some ⟨w.heap.size, 0, none⟩) 16 16 l0 := by
      have := Bs.of_range d0.whole (c := 16) (by rw [HL0.out]; omega) (by omega)
      rw [HL0.out] at this
      exact this
    have hA1 : Bs W (some ⟨w.heap.size + 1, 0, none⟩) 16 16 l1 := by
      have := Bs.of_range d1.whole (c := 16) (by rw [HL1.out]; omega) (by omega)
      rw [HL1.out] at this
      exact this
    have hB := w2.below qW (Nat.le_refl _)
    refine (C0.out W _ _ hA0).mono ?_
    rintro e u1 ⟨rfl, k1⟩
    go_wp2_with fail
    refine (CB.out u1).mono ?_
    rintro e u2 ⟨gt, rfl, hgt, hT, k2⟩
    have G2 : Grows W u2 := Grows.trans k1 k2
    go_wp2_with fail
    refine (C1.out u2 _ _ (hA1.grows G2)).mono ?_
    rintro e u3 ⟨rfl, k3⟩
    have G3 : Grows W u3 := Grows.trans G2 k3
    have hT3 := hT.below k3 hT.lt
    go_wp2_with fail
    refine (CH.out u3 gt hT3 (hB.grows G3)).mono ?_
    rintro e u4 ⟨rfl, k4⟩
    have G4 : Grows W u4 := Grows.trans G3 k4
    go_upto_region 7 with fail
    obtain ⟨W8, hW8⟩ : ∃ W, W = u4.alloc (.cells #[.int .u64 (hN D : Int), .int .u64 (lN D : Int)] 25) := ⟨_, rfl⟩
    rw [← hW8]
    have b8 : Blk W8 u4.heap.size (ec D) 25 := by rw [hW8]; exact Blk.new u4 _ _
    have G8 : Grows W W8 := by rw [hW8]; exact Grows.trans G4 (Grows.alloc _ _)
    clear hW8
    replace hA0 := hA0.grows G8
    replace hA1 := hA1.grows G8
    replace hB := hB.grows G8
    have q0 := qW.trans (Below.mono G8 qW.size)
    refine regionG (S := Grows W8) (by kernel_rfl) (Below.refl _ W8).drew ?_
    refine takeG 0 (some 24) (.slice (some ⟨w.heap.size, 0, none⟩) 16 16) rfl rfl (by kernel_rfl) (by kernel_rfl) (by kernel_rfl) (fun _ _ _ h => h) (ans_all (.tmp 3) rfl (by rfl) (w.heap.size) rfl) ?_
    simp only [Act.put, List.setIfInBounds_toArray, List.set_cons_zero, List.set_cons_succ]
    refine takeG 2 (some 26) (.slice (some ⟨w.heap.size + 1, 0, none⟩) 16 16) rfl rfl (by kernel_rfl) (by kernel_rfl) (by kernel_rfl) (fun _ _ _ h => h) (ans_all (.tmp 4) rfl (by rfl) (w.heap.size + 1) rfl) ?_
    simp only [Act.put, List.setIfInBounds_toArray, List.set_cons_zero, List.set_cons_succ]
    refine takeG 4 (some 28) (.slice a2 len2 cap2) rfl rfl (by kernel_rfl) (by kernel_rfl) (by kernel_rfl) (fun _ _ _ h => h) (ans_plain (by rfl) (fun w _ => rfl)) ?_
    simp only [Act.put, List.setIfInBounds_toArray, List.set_cons_zero, List.set_cons_succ]
    refine callG 1 (some 25) 10 #[.tmp 24] #[27] #[.slice (some ⟨w.heap.size, 0, none⟩) 16 16] rfl rfl rfl (by rfl) (by rfl) (by kernel_rfl) Try.call10 fun t1 hgt1 hst1 => ?_
    refine (R0.out t1 _ _ (hA0.grows hst1)).mono ?_
    rintro e v1 ⟨a1, c1, rfl, hB1, _, j1⟩
    rw [fb_length] at hB1 ⊢
    refine ⟨_, rfl, Grows.trans hst1 j1, ?_⟩
    simp only [Act.put, List.setIfInBounds_toArray, List.set_cons_zero, List.set_cons_succ]
    refine callG 3 (some 27) 10 #[.tmp 26] #[27] #[.slice (some ⟨w.heap.size + 1, 0, none⟩) 16 16] rfl rfl rfl (by rfl) (by rfl) (by kernel_rfl) Try.call10 fun t2 hgt2 hst2 => ?_
    refine (R1.out t2 _ _ (hA1.grows hst2)).mono ?_
    rintro e v2 ⟨a3, c3, rfl, hB2, _, j2⟩
    rw [fb_length] at hB2 ⊢
    refine ⟨_, rfl, Grows.trans hst2 j2, ?_⟩
    simp only [Act.put, List.setIfInBounds_toArray, List.set_cons_zero, List.set_cons_succ]
    refine callG 5 (some 29) 20 #[.tmp 25, .tmp 27, .tmp 28] #[29, 29, 27] #[.slice a1 128 c1, .slice a3 128 c3, .slice a2 len2 cap2] rfl rfl rfl (by rfl) (by rfl) (by kernel_rfl) Try.call20 fun t3 hgt3 hst3 => ?_
    refine (R2.out t3 _ _ _ _ (((hB1.below hgt2 (Nat.le_refl _)).below j2 (Nat.le_refl _)).below hgt3 (Nat.le_refl _)) (hB2.below hgt3 (Nat.le_refl _)) (hB.grows hst3)).mono ?_
    rintro e v3 ⟨a4, c4, rfl, hB3, j3⟩
    rw [fb_length] at hB3 ⊢
    refine ⟨_, rfl, Grows.trans hst3 j3, ?_⟩
    simp only [Act.put, List.setIfInBounds_toArray, List.set_cons_zero, List.set_cons_succ]
    refine takeG 6 (some 9) (.slice a4 128 c4) rfl rfl (by kernel_rfl) (by kernel_rfl) (by kernel_rfl) (fun _ _ _ h => h) (ans_plain (by rfl) (fun w _ => rfl)) ?_
    simp only [Act.put, List.setIfInBounds_toArray, List.set_cons_zero, List.set_cons_succ]
    refine doneG (by kernel_rfl) fun wd hgd hsd => ?_
    have hBd := hB3.below hgd (Nat.le_refl _)
    replace b8 := b8.grows hsd
    replace q0 := q0.trans (Below.mono hsd q0.size)
    have c0 := b8.cell 0
    have c1 := b8.cell 1
    simp only [ec, List.getElem?_cons_zero, List.getElem?_cons_succ] at c0 c1
    clear hsd hgd hB3 hB2 hB1 R0 R1 R2 C0 C1 CH CB
    go_wp2_with fail
    refine (CY.out wd).mono ?_
    rintro e y1 ⟨e1, n1, f1, rfl, o1, z1⟩
    go_wp2_with fail
    refine (rBytesF y1 (hBd.below z1 (Nat.le_refl _))).mono ?_
    rintro e y2 ⟨e2, n2, f2, rfl, o2, z2⟩
    go_wp2_with fail
    refine (sameT y2 (o1.toBs.below z2 (Nat.le_refl _)) o2.toBs).mono ?_
    rintro e y3 ⟨rfl, z3⟩
    go_wp2_with fail
    refine (lWorksF y3).mono ?_
    rintro e y4 ⟨rfl, z4⟩
    go_wp2
    go_ret
    have G := Grows.trans (Grows.trans (Grows.trans z1 z2) z3) z4
    exact ⟨rfl, q0.trans (Below.mono G q0.size)⟩
  · have hb1 : (300 : Int) < (len2 : Int) := by omega
    go_enter Try.func4, Try.ntmps4
    go_wp2_with fail
    have q0 := below2 w (.cells (cs l0).toArray 22) (.cells (cs l1).toArray 22)
    refine (lWorksF _).mono ?_
    rintro e wa ⟨rfl, hb⟩
    go_wp2
    go_ret
    exact ⟨rfl, q0.trans (hb.mono q0.size)⟩

set_option maxRecDepth 100000 in
theorem lifted (os : Os) (started : os.Started) (H : Type) (enc : TypeId × Value → H) :
    ReturnsInHanded {} Try.checked os 4 .any (Rows.fieldHashesSpec.pre6 enc Try.prog Try.f4 Rows.fieldHashesRow.domain false) (Rows.fieldHashesSpec.post enc Try.prog Try.f4 false true false false) := by
  refine returnsInHanded_of_change (C := Try.checked) own started (by kernel_rfl) Try.func4
    (ChangeSpec.witness6 (enc := enc) (C := Try.checked) false ⟨#[], #[.agg #[.int .u8 0, .int .u8 0, .int .u8 0, .int .u8 0, .int .u8 0, .int .u8 0, .int .u8 0, .int .u8 0, .int .u8 0, .int .u8 0, .int .u8 0, .int .u8 0, .int .u8 0, .int .u8 0, .int .u8 0, .int .u8 0], .agg #[.int .u8 0, .int .u8 0, .int .u8 0, .int .u8 0, .int .u8 0, .int .u8 0, .int .u8 0, .int .u8 0, .int .u8 0, .int .u8 0, .int .u8 0, .int .u8 0, .int .u8 0, .int .u8 0, .int .u8 0, .int .u8 0], .slice none 0 0], []⟩ 8 (by kernel_rfl) (by kernel_rfl) (by kernel_rfl) (by kernel_rfl)) ?_
  intro W base args ds gs before hval0 hW hcnd _
  have hval : ∀ (j : Nat) t v, Try.f4.params[j]? = some t → args[j]? = some v → Value.okWide Try.prog W .any base t v := hval0
  have hW' := hW
  obtain ⟨p, q, hA0, hV, rfl, hfz, hnd⟩ := hW
  have hA : DataW.TrodAll enc Try.prog W 0 (fun _ => true) true Try.f4.params.toList args.toList ds p := hA0
  rw [Try.params4] at hA hval
  obtain ⟨v0, vs0, d0, ds0, p0, q0, hargs, rfl, rfl, h0, r0⟩ := trodAll_cons hA
  obtain ⟨v1, vs1, d1, ds1, p1, q1, rfl, rfl, rfl, h1, r1⟩ := trodAll_cons r0
  obtain ⟨v2, vs2, d2, ds2, p2, q2, rfl, rfl, rfl, h2, r2⟩ := trodAll_cons r1
  obtain ⟨rfl, rfl, rfl⟩ := trodAll_nil r2
  obtain rfl : args = #[v0, v1, v2] := by cases args; simp_all
  obtain ⟨rfl, rfl⟩ := trodVars_none hV
  obtain ⟨x0, rfl, z0⟩ := okWide_arr16 (hval 0 22 v0 rfl rfl)
  have k0 := h0
  have lt0 : ∀ x ∈ p0, x.block < W.heap.size := by obtain ⟨m, hm⟩ := k0; exact DataW.trod_lt m _ _ _ hm
  obtain ⟨l0, rfl, w0⟩ : ∃ l : List UInt8, x0 = (cs l).toArray ∧ l.length = 16 := by
    obtain ⟨fuel, hf⟩ := h0
    exact arr16_of_trod z0 hf
  obtain ⟨x1, rfl, z1⟩ := okWide_arr16 (hval 1 22 v1 rfl rfl)
  have k1 := h1
  have lt1 : ∀ x ∈ p1, x.block < W.heap.size := by obtain ⟨m, hm⟩ := k1; exact DataW.trod_lt m _ _ _ hm
  obtain ⟨l1, rfl, w1⟩ : ∃ l : List UInt8, x1 = (cs l).toArray ∧ l.length = 16 := by
    obtain ⟨fuel, hf⟩ := h1
    exact arr16_of_trod z1 hf
  obtain ⟨a2, len2, cap2, rfl⟩ := okWide_slice Try.underlying27 (hval 2 27 v2 rfl rfl)
  have k2 := h2
  have lt2 : ∀ x ∈ p2, x.block < W.heap.size := by obtain ⟨m, hm⟩ := k2; exact DataW.trod_lt m _ _ _ hm
  obtain ⟨l2, w2⟩ : ∃ l, Bs W a2 len2 cap2 l := by
    obtain ⟨fuel, hf⟩ := h2
    exact Bs.of_trod hf
  clear hA0 hval0
  refine (walk l0 l1 a2 len2 cap2 l2 W w0 w1 w2).mono fun e W' ⟨he, bel⟩ => ?_
  subst he
  exact ⟨_, rfl, _, _, _, [], _, [], hW', trodAll_mk1 (shut_bool Try.underlying4 _), (trodAll_cons_mk (Below.trod laidOut (by kernel_rfl) (of_decide_eq_true (by kernel_rfl)) k0 bel lt0) (trodAll_cons_mk (Below.trod laidOut (by kernel_rfl) (of_decide_eq_true (by kernel_rfl)) k1 bel lt1) (trodAll_cons_mk (Below.trod laidOut (by kernel_rfl) (of_decide_eq_true (by kernel_rfl)) k2 bel lt2) trodAll_mk0))), rfl, bel.frame _, fun h => by cases h⟩

theorem over : Rows.fieldHashesRow.holds Try.pinned (OpenSpec.ofChange Rows.fieldHashesSpec) :=
  OpenClaim.holds_of_wide 4 Try.f4 rfl rfl rfl rfl rfl rfl rfl ⟨rfl, rfl, rfl, rfl, rfl⟩ rfl rfl rfl rfl rfl (by kernel_rfl) Try.func4 (by kernel_rfl)
    (of_decide_eq_true (by kernel_rfl)) (by unfold Func.isWrapper; first | (rw [if_pos (by decide +kernel)]; kernel_rfl) | (rw [if_neg (by decide +kernel)]; exact ⟨rfl, rfl⟩))
    (fun os started H enc _ => lifted os started H enc)
end FieldHashesLaw

/-- The statement. -/
theorem fieldHashes_holds : Rows.FieldHashesSaid := FieldHashesLaw.over
#print axioms fieldHashes_holds
end Go.Proofs.Ytfgoomlgmepalaa
