/-
  Proved: for every list of rows of bytes the statement OctetParts of layer 1 answers true and leaves its arguments as they were. No condition beside the statement's own.
-/
import Derived.Test.YtabokdffhomhiaaRows
import Derived.Test.YtabokdffhomhiaaOpen
import Derived.Below
import Derived.ChangeOld
namespace Go.Proofs.Ytabokdffhomhiaa
namespace OctetPartsLaw
open Go.ChangeShapes Go.WideShapes Go.ChangeAt Go.RowKit
open Go.ChangeMaps (open_string shut_string)
set_option linter.unusedVariables false

theorem own : ownKnob Try.prog.godebug = none := by kernel_rfl
theorem laidOut : laidOutB Try.prog = true := by kernel_rfl

set_option maxHeartbeats 4000000 in
theorem walk (a0 : Option Addr) (len0 cap0 : Nat) (l0 : List (List UInt8)) (w : World) (w0 : Bss w a0 len0 cap0 l0) :
    Calls Try.prog 4 #[.slice a0 len0 cap0] w fun e w' => e = .returned (.bool true) ∧ Below w.heap.size w w' := by
  have hS : Hid (Calls Try.prog 14 #[.slice a0 len0 cap0] w fun e w' => ∃ r : Int, e = .returned (.int .i64 r) ∧ w = w' ∧ (r = 1 ∨ r = 0 ∧ len0 ≤ 40 ∧ tot l0 ≤ 6000)) := lShort w w0
  go_enter Try.func4, Try.ntmps4
  go_wp2_with fail
  refine hS.out.mono ?_
  rintro e w1 ⟨r, rfl, rfl, hr⟩
  rcases hr with rfl | ⟨rfl, hn, ht⟩
  · go_wp2_with fail
    refine (lWorks w).mono ?_
    rintro e w1 ⟨rfl, hb1⟩
    go_wp2_with fail
    go_ret
    exact ⟨rfl, hb1⟩
  · go_wp2_with fail
    refine (oJoin w w0 (by omega)).mono ?_
    rintro e w1 ⟨a1, m1, c1, rfl, ho1, hb1⟩
    go_wp2_with fail
    refine (oPack w1 (w0.below hb1 (Nat.le_refl _)) (by omega) (by omega)).mono ?_
    rintro e w2 ⟨a2, m2, c2, rfl, ho2, hb2⟩
    have b2 := hb1.trans (hb2.mono hb1.size)
    have o1 := ho1.below hb2 (Nat.le_refl _)
    clear hb1 ho1 hb2
    go_wp2_with fail
    refine (rJoin w2 (w0.below b2 (Nat.le_refl _)) (by omega)).mono ?_
    rintro e w3 ⟨a3, m3, c3, rfl, ho3, hb3⟩
    have b3 := b2.trans (hb3.mono b2.size)
    have o2 := ho2.below hb3 (Nat.le_refl _)
    have o1' := o1.below hb3 (Nat.le_refl _)
    clear hb3 o1 ho2 b2
    go_wp2_with fail
    refine (rSame w3 o1'.toBs ho3.toBs).mono ?_
    rintro e w4 ⟨rfl, k4, rfl⟩
    rw [decide_eq_true rfl]
    have b4 := b3.trans ((below_drewN' w3 k4).mono b3.size)
    have o4 := o2.below (below_drewN' w3 k4) (Nat.le_refl _)
    clear o1' ho3 b3 o2
    generalize w3.drewN k4 = w4 at *
    go_wp2_with fail
    refine (rPack w4 (w0.below b4 (Nat.le_refl _)) (by omega) (by omega)).mono ?_
    rintro e w5 ⟨a5, m5, c5, rfl, ho5, hb5⟩
    have b5 := b4.trans (hb5.mono b4.size)
    have o5 := o4.below hb5 (Nat.le_refl _)
    clear b4 o4 hb5
    go_wp2_with fail
    refine (rSame w5 o5.toBs ho5.toBs).mono ?_
    rintro e w6 ⟨rfl, k6, rfl⟩
    rw [decide_eq_true rfl]
    have b6 := b5.trans ((below_drewN' w5 k6).mono b5.size)
    clear o5 ho5 b5
    generalize w5.drewN k6 = w6 at *
    go_wp2_with fail
    refine (lWorks w6).mono ?_
    rintro e w7 ⟨rfl, hb7⟩
    go_wp2_with fail
    go_ret
    exact ⟨rfl, b6.trans (hb7.mono b6.size)⟩

set_option maxRecDepth 100000 in
theorem lifted (os : Os) (started : os.Started) (H : Type) (enc : TypeId × Value → H) :
    ReturnsInHanded {} Try.checked os 4 .any (Rows.octetPartsSpec.pre6 enc Try.prog Try.f4 Rows.octetPartsRow.domain false) (Rows.octetPartsSpec.post enc Try.prog Try.f4 false true false false) := by
  refine returnsInHanded_of_change (C := Try.checked) own started (by kernel_rfl) Try.func4
    (ChangeSpec.witness6 (enc := enc) (C := Try.checked) false ⟨#[], #[.slice none 0 0], []⟩ 8 (by kernel_rfl) (by kernel_rfl) (by kernel_rfl) (by kernel_rfl)) ?_
  intro W base args ds gs before hval0 hW hcnd _
  have hval : ∀ (j : Nat) t v, Try.f4.params[j]? = some t → args[j]? = some v → Value.okWide Try.prog W .any base t v := hval0
  have hW' := hW
  obtain ⟨p, q, hA0, hV, rfl, hfz, hnd⟩ := hW
  have hA : DataW.TrodAll enc Try.prog W 0 (fun _ => true) true Try.f4.params.toList args.toList ds p := hA0
  rw [Try.params4] at hA hval
  obtain ⟨v0, vs0, d0, ds0, p0, q0, hargs, rfl, rfl, h0, r0⟩ := trodAll_cons hA
  obtain ⟨rfl, rfl, rfl⟩ := trodAll_nil r0
  obtain rfl : args = #[v0] := by cases args; simp_all
  obtain ⟨rfl, rfl⟩ := trodVars_none hV
  obtain ⟨a0, len0, cap0, rfl⟩ := okWide_slice Try.underlying29 (hval 0 29 v0 rfl rfl)
  have k0 := h0
  have lt0 : ∀ x ∈ p0, x.block < W.heap.size := by obtain ⟨m, hm⟩ := k0; exact DataW.trod_lt m _ _ _ hm
  obtain ⟨l0, w0⟩ : ∃ l, Bss W a0 len0 cap0 l := by
    obtain ⟨fuel, hf⟩ := h0
    exact Bss.of_trod hf
  clear hA0 hval0
  refine (walk a0 len0 cap0 l0 W w0).mono fun e W' ⟨he, bel⟩ => ?_
  subst he
  exact ⟨_, rfl, _, _, _, [], _, [], hW', trodAll_mk1 (shut_bool Try.underlying4 _), (trodAll_cons_mk (Below.trod laidOut (by kernel_rfl) (of_decide_eq_true (by kernel_rfl)) k0 bel lt0) trodAll_mk0), rfl, bel.frame _, fun h => by cases h⟩

theorem over : Rows.octetPartsRow.holds Try.pinned (OpenSpec.ofChange Rows.octetPartsSpec) :=
  OpenClaim.holds_of_wide 4 Try.f4 rfl rfl rfl rfl rfl rfl rfl ⟨rfl, rfl, rfl, rfl, rfl⟩ rfl rfl rfl rfl rfl (by kernel_rfl) Try.func4 (by kernel_rfl)
    (of_decide_eq_true (by kernel_rfl)) (by unfold Func.isWrapper; first | (rw [if_pos (by decide +kernel)]; kernel_rfl) | (rw [if_neg (by decide +kernel)]; exact ⟨rfl, rfl⟩))
    (fun os started H enc _ => lifted os started H enc)
end OctetPartsLaw

/-- The statement. -/
theorem octetParts_holds : Rows.OctetPartsSaid := OctetPartsLaw.over
#print axioms octetParts_holds
end Go.Proofs.Ytabokdffhomhiaa
