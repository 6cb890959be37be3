/-
  Proved: for every row of bytes and any block the statement AesBlocks of layer 4 answers true and leaves its arguments as they were. Conditions beside the statement's own: none.
-/
import Derived.Test.YtofhnigdfmekdaaRows
import Derived.Test.YtofhnigdfmekdaaOpenArr
import Derived.Test.YtofhnigdfmekdaaAesSmoke
import Derived.Test.YtofhnigdfmekdaaAesKey32
import Derived.Test.YtofhnigdfmekdaaAesRefBlock
import Derived.Test.YtofhnigdfmekdaaSameT
import Derived.Below
import Derived.ChangeOld
namespace Go.Proofs.Ytofhnigdfmekdaa
namespace AesBlocksLaw
open Go.ChangeShapes Go.WideShapes Go.ChangeAt Go.RowKit
open Go.ChangeMaps (open_string shut_string)
set_option linter.unusedVariables false

theorem own : ownKnob Try.prog.godebug = none := by kernel_rfl
theorem laidOut : laidOutB Try.prog = true := by kernel_rfl

set_option maxRecDepth 100000 in
set_option maxHeartbeats 4000000 in
theorem walk (a0 : Option Addr) (len0 cap0 : Nat) (l0 : List UInt8) (l1 : List UInt8) (w : World) (w0 : Bs w a0 len0 cap0 l0) (w1 : l1.length = 16) :
    Calls Try.prog 4 #[.slice a0 len0 cap0, .agg (cs l1).toArray] w fun e w' => e = .returned (.bool true) ∧ Below w.heap.size w w' := by
  have hm := w0.max
  by_cases h1 : len0 ≤ 100
  · have hb1 : (len0 : Int) ≤ 100 := by omega
    have HL1 : Hid (l1.length = 16) := w1
    have HC1 : Hid ((cs l1).length = 16) := by show _ = _; rw [cs_length, w1]
    have hKL := keyF_length (k32_length l0)
    obtain ⟨K, hK⟩ : ∃ K, K = keyF (k32 l0) := ⟨_, rfl⟩
    rw [← hK] at hKL
    obtain ⟨X, hX⟩ : ∃ X, X = aesL K l1 := ⟨_, rfl⟩
    have HXL : Hid (X.length = 16) := by show _ = _; rw [hX]; exact blkS_length hKL w1 (Nat.le_refl _)
    have HCX : Hid ((cs X).length = 16) := by show _ = _; rw [cs_length, HXL.out]
    have CX : Hid (∀ w g, Cip w g K → Calls Try.prog 13 #[.pointer (some ⟨g, 0, none⟩), .agg (cs l1).toArray] w fun e w' => e = .returned (.agg (cs X).toArray) ∧ Below w.heap.size w w') := fun w g h => by rw [hX]; exact oBlock w g K h hKL l1 w1
    have CN : Hid (∀ w g a c, Tab w g → Bs w a 32 c (k32 l0) → Calls Try.prog 12 #[.pointer (some ⟨g, 0, none⟩), .slice a 32 c] w (HasC w K)) := fun w g a c h h' => by rw [hK]; exact oNewC w g h h'
    have CW : Hid (∀ w a c a' c', Bs w a 256 c boxT → Bs w a' 32 c' (k32 l0) → Calls Try.prog 17 #[.slice a 256 c, .slice a' 32 c'] w fun e w' => ∃ p q, e = .returned (.slice p 60 q) ∧ Bss w' p 60 q (wdsL K) ∧ Below w.heap.size w w') := fun w a c a' c' h h' => by rw [hK]; exact rWords w h h'
    have CB : Hid (∀ w a c wa wc' ab cb, Bs w a 256 c boxT → Bss w wa 60 wc' (wdsL K) → Bs w ab 16 cb l1 → Calls Try.prog 16 #[.slice a 256 c, .slice wa 60 wc', .slice ab 16 cb] w (Gives w X)) := fun w a c wa wc' ab cb h h' h2 => by rw [hX]; exact rBlock w h hKL h' h2
    clear hK hX hKL w1
    have hall := allK
    go_enter Try.func4, Try.ntmps4
    go_wp2_with fail
    obtain ⟨W, hW⟩ : ∃ W, W = w.alloc (.cells (cs l1).toArray 28) := ⟨_, rfl⟩
    rw [← hW]
    have d1 : Blk W w.heap.size (cs l1) 28 := by rw [hW]; exact Blk.new w _ _
    have qW : Below w.heap.size w W := by rw [hW]; exact below_alloc w _
    clear hW
    refine (lKey32 W (w0.below qW (Nat.le_refl _)) h1).mono ?_
    rintro e wb ⟨ab, mb, cb, rfl, hob, hbb⟩
    have qb := qW.trans (hbb.mono qW.size)
    have hBb := hob.toBs
    have hmb : mb = 32 := by rw [← hBb.len]; exact k32_length l0
    subst hmb
    go_wp2_with fail
    refine (oBuild wb).mono ?_
    rintro e wa ⟨r, rfl, hr, bT, hba⟩
    have qa := qb.trans (hba.mono qb.size)
    have hBa := hBb.below hba (Nat.le_refl _)
    go_wp2_with fail
    refine (CN.out wa r ab cb bT.tab hBa).mono ?_
    rintro e wc ⟨r2, rfl, hr2, hC, hbc⟩
    have qc := qa.trans (hbc.mono qa.size)
    have hBc := hBa.below hbc (Nat.le_refl _)
    have e1 : Blk wc w.heap.size (cs l1) 28 := ((d1.below hbb d1.lt).below hba (Nat.lt_of_lt_of_le d1.lt hbb.size)).below hbc (Nat.lt_of_lt_of_le (Nat.lt_of_lt_of_le d1.lt hbb.size) hba.size)
    clear d1 hba hbb hbc hBa hBb hob
    go_wp2_with (first
      | (with_reducible refine at_ld 28 ?_; refine ld 28 (.tmp 3) 16 sizeK _ Try.underlying28 rfl w.heap.size 0 _ HC1.out e1.whole rfl ?_)
      | (go_at_call 13; refine (CX.out wc r2 hC).mono ?_; rintro e wd ⟨rfl, hbd⟩)
      | (with_reducible refine at_st 28 ?_; refine st' 28 (.tmp 8) (.tmp 30) 16 sizeK wd.heap.size 0 _ HCX.out cs_one ((Blk.new wd z16 28).there 0 16 (by decide)) rfl rfl ?_; intro we hwe
         have f8 : Blk we wd.heap.size (cs X) 28 := by rw [hwe]; exact (Blk.new wd z16 28).setsW _ (by rw [HCX.out]; rfl)
         have hce : Below wc.heap.size wc we := by rw [hwe]; exact below_sets hbd.size _ (hbd.alloc hbd.size _) 0
         clear hwe)
      | (go_at_call 14; refine (rBoxes we).mono ?_; rintro e wf ⟨af, mf, cf, rfl, hof, hbf⟩))
    have hBf := hof.toBs
    have hmf : mf = 256 := by rw [← hBf.len]; exact boxT_length
    subst hmf
    have hcf := hce.trans (hbf.mono hce.size)
    have qf := qc.trans (hcf.mono qc.size)
    have hBk := hBc.below hcf (Nat.le_refl _)
    have g1 := e1.below hcf e1.lt
    have g8 := f8.below hbf f8.lt
    have hA1 : Bs wf (some ⟨w.heap.size, 0, none⟩) 16 16 l1 := by
      have := Bs.of_range g1.whole (c := 16) (by rw [HL1.out]; omega) (by omega)
      rw [HL1.out] at this
      exact this
    have hA8 : Bs wf (some ⟨wd.heap.size, 0, none⟩) 16 16 X := by
      have := Bs.of_range g8.whole (c := 16) (by rw [HXL.out]; omega) (by omega)
      rw [HXL.out] at this
      exact this
    clear e1 f8 hce hbf hcf g1 g8 hof hBc hbd
    go_region_held3 (fun _ => True) (trivial) (first
      | (go_at_call 17; go_must (refine (CW.out wf.drew af cf ab cb hBf.drew hBk.drew).mono ?_); rintro e wg ⟨pg, qg, rfl, hBg, hbg⟩; have q6 : Below w.heap.size w wg := qf.drew.trans (hbg.mono qf.size))
      | (go_at_call 16; go_must (refine (CB.out wg af cf pg qg (some ⟨w.heap.size, 0, none⟩) 16 (hBf.drew.below hbg (Nat.le_refl _)) hBg (hA1.drew.below hbg (Nat.le_refl _))).mono ?_); rintro e wh ⟨ah, mh, ch, rfl, hoh, hbh⟩; have q7 := q6.trans (hbh.mono q6.size); have hA9 := (hA8.drew.below hbg (Nat.le_refl _)).below hbh (Nat.le_refl _))
      | (go_at_call 15; go_must (refine (sameT wh hA9 hoh.toBs).mono ?_); rintro e wi ⟨rfl, hbi⟩; have q8 := q7.trans (hbi.mono q7.size))
      | (go_at_call 10; go_must (refine (lWorksA wi).mono ?_); rintro e wj ⟨rfl, hbj⟩))
    go_wp2
    go_ret
    exact ⟨rfl, q8.trans (hbj.mono q8.size)⟩
  · have hb1 : (100 : Int) < (len0 : Int) := by omega
    go_enter Try.func4, Try.ntmps4
    go_wp2_with fail
    have q0 := below_alloc w (.cells (cs l1).toArray 28)
    refine (lWorksA _).mono ?_
    rintro e wa ⟨rfl, hb⟩
    go_wp2
    go_ret
    exact ⟨rfl, q0.trans (hb.mono q0.size)⟩

set_option maxRecDepth 100000 in
theorem lifted (os : Os) (started : os.Started) (H : Type) (enc : TypeId × Value → H) :
    ReturnsInHanded {} Try.checked os 4 .any (Rows.aesBlocksSpec.pre6 enc Try.prog Try.f4 Rows.aesBlocksRow.domain false) (Rows.aesBlocksSpec.post enc Try.prog Try.f4 false true false false) := by
  refine returnsInHanded_of_change (C := Try.checked) own started (by kernel_rfl) Try.func4
    (ChangeSpec.witness6 (enc := enc) (C := Try.checked) false ⟨#[], #[.slice none 0 0, .agg #[.int .u8 0, .int .u8 0, .int .u8 0, .int .u8 0, .int .u8 0, .int .u8 0, .int .u8 0, .int .u8 0, .int .u8 0, .int .u8 0, .int .u8 0, .int .u8 0, .int .u8 0, .int .u8 0, .int .u8 0, .int .u8 0]], []⟩ 8 (by kernel_rfl) (by kernel_rfl) (by kernel_rfl) (by kernel_rfl)) ?_
  intro W base args ds gs before hval0 hW hcnd _
  have hval : ∀ (j : Nat) t v, Try.f4.params[j]? = some t → args[j]? = some v → Value.okWide Try.prog W .any base t v := hval0
  have hW' := hW
  obtain ⟨p, q, hA0, hV, rfl, hfz, hnd⟩ := hW
  have hA : DataW.TrodAll enc Try.prog W 0 (fun _ => true) true Try.f4.params.toList args.toList ds p := hA0
  rw [Try.params4] at hA hval
  obtain ⟨v0, vs0, d0, ds0, p0, q0, hargs, rfl, rfl, h0, r0⟩ := trodAll_cons hA
  obtain ⟨v1, vs1, d1, ds1, p1, q1, rfl, rfl, rfl, h1, r1⟩ := trodAll_cons r0
  obtain ⟨rfl, rfl, rfl⟩ := trodAll_nil r1
  obtain rfl : args = #[v0, v1] := by cases args; simp_all
  obtain ⟨rfl, rfl⟩ := trodVars_none hV
  obtain ⟨a0, len0, cap0, rfl⟩ := okWide_slice Try.underlying27 (hval 0 27 v0 rfl rfl)
  have k0 := h0
  have lt0 : ∀ x ∈ p0, x.block < W.heap.size := by obtain ⟨m, hm⟩ := k0; exact DataW.trod_lt m _ _ _ hm
  obtain ⟨l0, w0⟩ : ∃ l, Bs W a0 len0 cap0 l := by
    obtain ⟨fuel, hf⟩ := h0
    exact Bs.of_trod hf
  obtain ⟨x1, rfl, z1⟩ := okWide_arr16 (hval 1 28 v1 rfl rfl)
  have k1 := h1
  have lt1 : ∀ x ∈ p1, x.block < W.heap.size := by obtain ⟨m, hm⟩ := k1; exact DataW.trod_lt m _ _ _ hm
  obtain ⟨l1, rfl, w1⟩ : ∃ l : List UInt8, x1 = (cs l).toArray ∧ l.length = 16 := by
    obtain ⟨fuel, hf⟩ := h1
    exact arr16_of_trod z1 hf
  clear hA0 hval0
  refine (walk a0 len0 cap0 l0 l1 W w0 w1).mono fun e W' ⟨he, bel⟩ => ?_
  subst he
  exact ⟨_, rfl, _, _, _, [], _, [], hW', trodAll_mk1 (shut_bool Try.underlying4 _), (trodAll_cons_mk (Below.trod laidOut (by kernel_rfl) (of_decide_eq_true (by kernel_rfl)) k0 bel lt0) (trodAll_cons_mk (Below.trod laidOut (by kernel_rfl) (of_decide_eq_true (by kernel_rfl)) k1 bel lt1) trodAll_mk0)), rfl, bel.frame _, fun h => by cases h⟩

theorem over : Rows.aesBlocksRow.holds Try.pinned (OpenSpec.ofChange Rows.aesBlocksSpec) :=
  OpenClaim.holds_of_wide 4 Try.f4 rfl rfl rfl rfl rfl rfl rfl ⟨rfl, rfl, rfl, rfl, rfl⟩ rfl rfl rfl rfl rfl (by kernel_rfl) Try.func4 (by kernel_rfl)
    (of_decide_eq_true (by kernel_rfl)) (by unfold Func.isWrapper; first | (rw [if_pos (by decide +kernel)]; kernel_rfl) | (rw [if_neg (by decide +kernel)]; exact ⟨rfl, rfl⟩))
    (fun os started H enc _ => lifted os started H enc)
end AesBlocksLaw

/-- The statement. -/
theorem aesBlocks_holds : Rows.AesBlocksSaid := AesBlocksLaw.over
#print axioms aesBlocks_holds
end Go.Proofs.Ytofhnigdfmekdaa
