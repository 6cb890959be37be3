/-
  Proved: for every row of bytes and any two blocks the statement AesApart of layer 4 answers true and leaves its arguments as they were. Conditions beside the statement's own: none.
-/
import Derived.Test.YtofhnigdfmekdaaRows
import Derived.Test.YtofhnigdfmekdaaOpenArr
import Derived.Test.YtofhnigdfmekdaaAesSmoke
import Derived.Test.YtofhnigdfmekdaaAesKey32
import Derived.Test.YtofhnigdfmekdaaAesInj
import Derived.Test.YtofhnigdfmekdaaAesEq
import Derived.Below
import Derived.ChangeOld
namespace Go.Proofs.Ytofhnigdfmekdaa
namespace AesApartLaw
open Go.ChangeShapes Go.WideShapes Go.ChangeAt Go.RowKit
open Go.ChangeMaps (open_string shut_string)
set_option linter.unusedVariables false

theorem own : ownKnob Try.prog.godebug = none := by kernel_rfl
theorem laidOut : laidOutB Try.prog = true := by kernel_rfl

set_option maxRecDepth 100000 in
set_option maxHeartbeats 4000000 in
theorem walk (a0 : Option Addr) (len0 cap0 : Nat) (l0 : List UInt8) (l1 : List UInt8) (l2 : List UInt8) (w : World) (w0 : Bs w a0 len0 cap0 l0) (w1 : l1.length = 16) (w2 : l2.length = 16) :
    Calls Try.prog 6 #[.slice a0 len0 cap0, .agg (cs l1).toArray, .agg (cs l2).toArray] w fun e w' => e = .returned (.bool true) ∧ Below w.heap.size w w' := by
  have hm := w0.max
  by_cases h1 : len0 ≤ 100
  · have hb1 : (len0 : Int) ≤ 100 := by omega
    have HL1 : Hid (l1.length = 16) := w1
    have HL2 : Hid (l2.length = 16) := w2
    have HC1 : Hid ((cs l1).length = 16) := by show _ = _; rw [cs_length, w1]
    have HC2 : Hid ((cs l2).length = 16) := by show _ = _; rw [cs_length, w2]
    have hKL := keyF_length (k32_length l0)
    obtain ⟨K, hK⟩ : ∃ K, K = keyF (k32 l0) := ⟨_, rfl⟩
    rw [← hK] at hKL
    obtain ⟨p, hp⟩ : ∃ p, p = decide (l1 = l2) := ⟨_, rfl⟩
    have hap := aes_apart hKL w1 w2
    rw [← hp] at hap
    have hq2 := eqK w1 w2
    rw [← hp] at hq2
    obtain ⟨X, hX⟩ : ∃ X, X = aesL K l1 := ⟨_, rfl⟩
    obtain ⟨Y, hY⟩ : ∃ Y, Y = aesL K l2 := ⟨_, rfl⟩
    have hXl : X.length = 16 := by rw [hX]; exact blkS_length hKL w1 (Nat.le_refl _)
    have hYl : Y.length = 16 := by rw [hY]; exact blkS_length hKL w2 (Nat.le_refl _)
    have hq1 := eqK hXl hYl
    rw [← hX, ← hY] at hap
    rw [hap] at hq1
    have CX : Hid (∀ w g, Cip w g K → Calls Try.prog 13 #[.pointer (some ⟨g, 0, none⟩), .agg (cs l1).toArray] w fun e w' => e = .returned (.agg (cs X).toArray) ∧ Below w.heap.size w w') := fun w g h => by rw [hX]; exact oBlock w g K h hKL l1 w1
    have CY : Hid (∀ w g, Cip w g K → Calls Try.prog 13 #[.pointer (some ⟨g, 0, none⟩), .agg (cs l2).toArray] w fun e w' => e = .returned (.agg (cs Y).toArray) ∧ Below w.heap.size w w') := fun w g h => by rw [hY]; exact oBlock w g K h hKL l2 w2
    have CN : Hid (∀ w g a c, Tab w g → Bs w a 32 c (k32 l0) → Calls Try.prog 12 #[.pointer (some ⟨g, 0, none⟩), .slice a 32 c] w (HasC w K)) := fun w g a c h h' => by rw [hK]; exact oNewC w g h h'
    clear hK hX hY hp hap hKL hXl hYl w1 w2
    go_enter Try.func6, Try.ntmps6
    go_wp2_with fail
    obtain ⟨W, hW⟩ : ∃ W, W = (w.alloc (.cells (cs l1).toArray 28)).alloc (.cells (cs l2).toArray 28) := ⟨_, rfl⟩
    rw [← hW]
    have d1 : Blk W w.heap.size (cs l1) 28 := by rw [hW]; exact (Blk.new w _ _).old _
    have d2 : Blk W (w.heap.size + 1) (cs l2) 28 := by rw [hW]; exact Blk.newAt (w.alloc _) _ _ _ (by simp) _ rfl
    have qW : Below w.heap.size w W := by rw [hW]; exact below2 w _ _
    clear hW
    refine (oBuild W).mono ?_
    rintro e wa ⟨r, rfl, hr, bT, hba⟩
    have qa := qW.trans (hba.mono qW.size)
    go_wp2_with fail
    refine (lKey32 wa (w0.below qa (Nat.le_refl _)) h1).mono ?_
    rintro e wb ⟨ab, mb, cb, rfl, hob, hbb⟩
    have qb := qa.trans (hbb.mono qa.size)
    have hBb := hob.toBs
    have hmb : mb = 32 := by rw [← hBb.len]; exact k32_length l0
    subst hmb
    go_wp2_with fail
    refine (CN.out wb r ab cb (bT.tab.below hbb bT.lt) hBb).mono ?_
    rintro e wc ⟨r2, rfl, hr2, hC, hbc⟩
    have qc := qb.trans (hbc.mono qb.size)
    have e1 : Blk wc w.heap.size (cs l1) 28 := ((d1.below hba d1.lt).below hbb (Nat.lt_of_lt_of_le d1.lt hba.size)).below hbc (Nat.lt_of_lt_of_le (Nat.lt_of_lt_of_le d1.lt hba.size) hbb.size)
    have e2 : Blk wc (w.heap.size + 1) (cs l2) 28 := ((d2.below hba d2.lt).below hbb (Nat.lt_of_lt_of_le d2.lt hba.size)).below hbc (Nat.lt_of_lt_of_le (Nat.lt_of_lt_of_le d2.lt hba.size) hbb.size)
    have R1 := row16_of e1.whole HC1.out
    have R2 := row16_of e2.whole HC2.out
    clear d1 d2 hba hbb hbc
    go_wp2_with fail
    refine wp_region_held_drew (S := fun w' => w'.rangeAt w.heap.size 0 (cs l1) ∧ w'.rangeAt (w.heap.size + 1) 0 (cs l2)) (by kernel_rfl) ⟨e1.dr.whole, e2.dr.whole⟩ (fun hHeld => ?_)
    refine takeD 0 (some 26) (.pointer (some ⟨r2, 0, none⟩)) rfl rfl (by kernel_rfl) (by kernel_rfl) (by kernel_rfl) (fun _ _ _ h => h) (Or.inl ⟨by rfl, fun w _ => rfl⟩) hHeld ?_
    simp only [Act.put, List.setIfInBounds_toArray, List.set_cons_zero, List.set_cons_succ]
    refine takeD 1 (some 27) (.agg (cs l1).toArray) rfl rfl (by kernel_rfl) (by kernel_rfl) (by kernel_rfl) (fun _ _ _ h => h) (yieldsIf_load_mid (by rfl) 28 (.tmp 4) rfl w.heap.size 0 rfl (cs l1) (.array 16 5) (fun _ h => h.1) Try.underlying28 rfl (by rw [HC1.out]; exact sizeK)) hHeld ?_
    simp only [Act.put, List.setIfInBounds_toArray, List.set_cons_zero, List.set_cons_succ]
    refine takeD 3 (some 29) (.pointer (some ⟨r2, 0, none⟩)) rfl rfl (by kernel_rfl) (by kernel_rfl) (by kernel_rfl) (fun _ _ _ h => h) (Or.inl ⟨by rfl, fun w _ => rfl⟩) hHeld ?_
    simp only [Act.put, List.setIfInBounds_toArray, List.set_cons_zero, List.set_cons_succ]
    refine takeD 4 (some 30) (.agg (cs l2).toArray) rfl rfl (by kernel_rfl) (by kernel_rfl) (by kernel_rfl) (fun _ _ _ h => h) (yieldsIf_load_mid (by rfl) 28 (.tmp 5) rfl (w.heap.size + 1) 0 rfl (cs l2) (.array 16 5) (fun _ h => h.2) Try.underlying28 rfl (by rw [HC2.out]; exact sizeK)) hHeld ?_
    simp only [Act.put, List.setIfInBounds_toArray, List.set_cons_zero, List.set_cons_succ]
    refine takeD 7 (some 33) (.agg (cs l1).toArray) rfl rfl (by kernel_rfl) (by kernel_rfl) (by kernel_rfl) (fun _ _ _ h => h) (yieldsIf_load_mid (by rfl) 28 (.tmp 4) rfl w.heap.size 0 rfl (cs l1) (.array 16 5) (fun _ h => h.1) Try.underlying28 rfl (by rw [HC1.out]; exact sizeK)) hHeld ?_
    simp only [Act.put, List.setIfInBounds_toArray, List.set_cons_zero, List.set_cons_succ]
    refine takeD 8 (some 34) (.agg (cs l2).toArray) rfl rfl (by kernel_rfl) (by kernel_rfl) (by kernel_rfl) (fun _ _ _ h => h) (yieldsIf_load_mid (by rfl) 28 (.tmp 5) rfl (w.heap.size + 1) 0 rfl (cs l2) (.array 16 5) (fun _ h => h.2) Try.underlying28 rfl (by rw [HC2.out]; exact sizeK)) hHeld ?_
    simp only [Act.put, List.setIfInBounds_toArray, List.set_cons_zero, List.set_cons_succ]
    refine takeD 9 (some 35) (.bool p) rfl rfl (by kernel_rfl) (by kernel_rfl) (by kernel_rfl) (fun _ _ _ h => h) (yields_eqK (by rfl) (.tmp 33) (.tmp 34) rfl l1 l2 rfl rfl p hq2) hHeld ?_
    simp only [Act.put, List.setIfInBounds_toArray, List.set_cons_zero, List.set_cons_succ]
    refine callD 2 (some 28) 13 #[.tmp 26, .tmp 27] #[30, 28] #[.pointer (some ⟨r2, 0, none⟩), .agg (cs l1).toArray] rfl rfl rfl (by rfl) (by rfl) (by kernel_rfl) Try.call13 ?_
    refine (CX.out wc.drew r2 hC).mono ?_
    rintro e wd ⟨rfl, hbd⟩
    have f1 := e1.dr.below hbd e1.lt
    have f2 := e2.dr.below hbd e2.lt
    have hCd := hC.dr.below hbd hC.tab.lt
    have qd := qc.drew.trans (hbd.mono qc.size)
    refine ⟨_, rfl, ⟨f1.whole, f2.whole⟩, fun hHeld => ?_⟩
    simp only [Act.put, List.setIfInBounds_toArray, List.set_cons_zero, List.set_cons_succ]
    refine callD 5 (some 31) 13 #[.tmp 29, .tmp 30] #[30, 28] #[.pointer (some ⟨r2, 0, none⟩), .agg (cs l2).toArray] rfl rfl rfl (by rfl) (by rfl) (by kernel_rfl) Try.call13 ?_
    refine (CY.out wd r2 hCd).mono ?_
    rintro e we ⟨rfl, hbe⟩
    have g1 := f1.below hbe f1.lt
    have g2 := f2.below hbe f2.lt
    have qe := qd.trans (hbe.mono qd.size)
    refine ⟨_, rfl, ⟨g1.whole, g2.whole⟩, fun hHeld => ?_⟩
    simp only [Act.put, List.setIfInBounds_toArray, List.set_cons_zero, List.set_cons_succ]
    refine takeD 6 (some 32) (.bool p) rfl rfl (by kernel_rfl) (by kernel_rfl) (by kernel_rfl) (fun _ _ _ h => h) (yields_eqK (by rfl) (.tmp 28) (.tmp 31) rfl X Y rfl rfl p hq1) hHeld ?_
    simp only [Act.put, List.setIfInBounds_toArray, List.set_cons_zero, List.set_cons_succ]
    refine takeD 10 (some 36) (.bool true) rfl rfl (by kernel_rfl) (by kernel_rfl) (by kernel_rfl) (fun _ _ _ h => h) (yields_eqB (by rfl) (.tmp 32) (.tmp 35) rfl p rfl rfl) hHeld ?_
    simp only [Act.put, List.setIfInBounds_toArray, List.set_cons_zero, List.set_cons_succ]
    refine takeD 11 (some 37) (.bool true) rfl rfl (by kernel_rfl) (by kernel_rfl) (by kernel_rfl) (fun _ _ _ h => h) (Or.inl ⟨by rfl, fun w _ => rfl⟩) hHeld ?_
    simp only [Act.put, List.setIfInBounds_toArray, List.set_cons_zero, List.set_cons_succ]
    refine callD 12 (some 38) 10 #[] #[] #[] rfl rfl rfl (by rfl) (by rfl) (by kernel_rfl) Try.call10 ?_
    refine (lWorksA we).mono ?_
    rintro e wf ⟨rfl, hbf⟩
    refine ⟨_, rfl, ⟨(g1.below hbf g1.lt).whole, (g2.below hbf g2.lt).whole⟩, fun hHeld => ?_⟩
    simp only [Act.put, List.setIfInBounds_toArray, List.set_cons_zero, List.set_cons_succ]
    refine takeD 13 (some 39) (.bool true) rfl rfl (by kernel_rfl) (by kernel_rfl) (by kernel_rfl) (fun _ _ _ h => h) (Or.inl ⟨by rfl, fun w _ => rfl⟩) hHeld ?_
    simp only [Act.put, List.setIfInBounds_toArray, List.set_cons_zero, List.set_cons_succ]
    refine takeD 14 (some 6) (.bool true) rfl rfl (by kernel_rfl) (by kernel_rfl) (by kernel_rfl) (fun _ _ _ h => h) (Or.inl ⟨by rfl, fun w _ => rfl⟩) hHeld ?_
    simp only [Act.put, List.setIfInBounds_toArray, List.set_cons_zero, List.set_cons_succ]
    refine wpAnyH_done (by kernel_rfl) ?_ _
    go_wp2
    go_ret
    exact ⟨rfl, qe.trans (hbf.mono qe.size)⟩
  · have hb1 : (100 : Int) < (len0 : Int) := by omega
    go_enter Try.func6, Try.ntmps6
    go_wp2_with fail
    have q0 := below2 w (.cells (cs l1).toArray 28) (.cells (cs l2).toArray 28)
    refine (lWorksA _).mono ?_
    rintro e wa ⟨rfl, hb⟩
    go_wp2
    go_ret
    exact ⟨rfl, q0.trans (hb.mono q0.size)⟩

set_option maxRecDepth 100000 in
theorem lifted (os : Os) (started : os.Started) (H : Type) (enc : TypeId × Value → H) :
    ReturnsInHanded {} Try.checked os 6 .any (Rows.aesApartSpec.pre6 enc Try.prog Try.f6 Rows.aesApartRow.domain false) (Rows.aesApartSpec.post enc Try.prog Try.f6 false true false false) := by
  refine returnsInHanded_of_change (C := Try.checked) own started (by kernel_rfl) Try.func6
    (ChangeSpec.witness6 (enc := enc) (C := Try.checked) false ⟨#[], #[.slice none 0 0, .agg #[.int .u8 0, .int .u8 0, .int .u8 0, .int .u8 0, .int .u8 0, .int .u8 0, .int .u8 0, .int .u8 0, .int .u8 0, .int .u8 0, .int .u8 0, .int .u8 0, .int .u8 0, .int .u8 0, .int .u8 0, .int .u8 0], .agg #[.int .u8 0, .int .u8 0, .int .u8 0, .int .u8 0, .int .u8 0, .int .u8 0, .int .u8 0, .int .u8 0, .int .u8 0, .int .u8 0, .int .u8 0, .int .u8 0, .int .u8 0, .int .u8 0, .int .u8 0, .int .u8 0]], []⟩ 8 (by kernel_rfl) (by kernel_rfl) (by kernel_rfl) (by kernel_rfl)) ?_
  intro W base args ds gs before hval0 hW hcnd _
  have hval : ∀ (j : Nat) t v, Try.f6.params[j]? = some t → args[j]? = some v → Value.okWide Try.prog W .any base t v := hval0
  have hW' := hW
  obtain ⟨p, q, hA0, hV, rfl, hfz, hnd⟩ := hW
  have hA : DataW.TrodAll enc Try.prog W 0 (fun _ => true) true Try.f6.params.toList args.toList ds p := hA0
  rw [Try.params6] at hA hval
  obtain ⟨v0, vs0, d0, ds0, p0, q0, hargs, rfl, rfl, h0, r0⟩ := trodAll_cons hA
  obtain ⟨v1, vs1, d1, ds1, p1, q1, rfl, rfl, rfl, h1, r1⟩ := trodAll_cons r0
  obtain ⟨v2, vs2, d2, ds2, p2, q2, rfl, rfl, rfl, h2, r2⟩ := trodAll_cons r1
  obtain ⟨rfl, rfl, rfl⟩ := trodAll_nil r2
  obtain rfl : args = #[v0, v1, v2] := by cases args; simp_all
  obtain ⟨rfl, rfl⟩ := trodVars_none hV
  obtain ⟨a0, len0, cap0, rfl⟩ := okWide_slice Try.underlying27 (hval 0 27 v0 rfl rfl)
  have k0 := h0
  have lt0 : ∀ x ∈ p0, x.block < W.heap.size := by obtain ⟨m, hm⟩ := k0; exact DataW.trod_lt m _ _ _ hm
  obtain ⟨l0, w0⟩ : ∃ l, Bs W a0 len0 cap0 l := by
    obtain ⟨fuel, hf⟩ := h0
    exact Bs.of_trod hf
  obtain ⟨x1, rfl, z1⟩ := okWide_arr16 (hval 1 28 v1 rfl rfl)
  have k1 := h1
  have lt1 : ∀ x ∈ p1, x.block < W.heap.size := by obtain ⟨m, hm⟩ := k1; exact DataW.trod_lt m _ _ _ hm
  obtain ⟨l1, rfl, w1⟩ : ∃ l : List UInt8, x1 = (cs l).toArray ∧ l.length = 16 := by
    obtain ⟨fuel, hf⟩ := h1
    exact arr16_of_trod z1 hf
  obtain ⟨x2, rfl, z2⟩ := okWide_arr16 (hval 2 28 v2 rfl rfl)
  have k2 := h2
  have lt2 : ∀ x ∈ p2, x.block < W.heap.size := by obtain ⟨m, hm⟩ := k2; exact DataW.trod_lt m _ _ _ hm
  obtain ⟨l2, rfl, w2⟩ : ∃ l : List UInt8, x2 = (cs l).toArray ∧ l.length = 16 := by
    obtain ⟨fuel, hf⟩ := h2
    exact arr16_of_trod z2 hf
  clear hA0 hval0
  refine (walk a0 len0 cap0 l0 l1 l2 W w0 w1 w2).mono fun e W' ⟨he, bel⟩ => ?_
  subst he
  exact ⟨_, rfl, _, _, _, [], _, [], hW', trodAll_mk1 (shut_bool Try.underlying4 _), (trodAll_cons_mk (Below.trod laidOut (by kernel_rfl) (of_decide_eq_true (by kernel_rfl)) k0 bel lt0) (trodAll_cons_mk (Below.trod laidOut (by kernel_rfl) (of_decide_eq_true (by kernel_rfl)) k1 bel lt1) (trodAll_cons_mk (Below.trod laidOut (by kernel_rfl) (of_decide_eq_true (by kernel_rfl)) k2 bel lt2) trodAll_mk0))), rfl, bel.frame _, fun h => by cases h⟩

theorem over : Rows.aesApartRow.holds Try.pinned (OpenSpec.ofChange Rows.aesApartSpec) :=
  OpenClaim.holds_of_wide 6 Try.f6 rfl rfl rfl rfl rfl rfl rfl ⟨rfl, rfl, rfl, rfl, rfl⟩ rfl rfl rfl rfl rfl (by kernel_rfl) Try.func6 (by kernel_rfl)
    (of_decide_eq_true (by kernel_rfl)) (by unfold Func.isWrapper; first | (rw [if_pos (by decide +kernel)]; kernel_rfl) | (rw [if_neg (by decide +kernel)]; exact ⟨rfl, rfl⟩))
    (fun os started H enc _ => lifted os started H enc)
end AesApartLaw

/-- The statement. -/
theorem aesApart_holds : Rows.AesApartSaid := AesApartLaw.over
#print axioms aesApart_holds
end Go.Proofs.Ytofhnigdfmekdaa
