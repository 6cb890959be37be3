/-
  Proved: for every two lists of rows of bytes the statement OctetApart of layer 1 answers true and leaves its arguments as they were. No condition beside the statement's own.
-/
import Derived.Test.YtabokdffhomhiaaRows
import Derived.Test.YtabokdffhomhiaaOpen
import Derived.Test.YtabokdffhomhiaaInj
import Derived.Below
import Derived.ChangeOld
namespace Go.Proofs.Ytabokdffhomhiaa
namespace OctetApartLaw
open Go.ChangeShapes Go.WideShapes Go.ChangeAt Go.RowKit
open Go.ChangeMaps (open_string shut_string)
set_option linter.unusedVariables false

theorem own : ownKnob Try.prog.godebug = none := by kernel_rfl
theorem laidOut : laidOutB Try.prog = true := by kernel_rfl

set_option maxHeartbeats 4000000 in
theorem walk (a0 : Option Addr) (len0 cap0 : Nat) (l0 : List (List UInt8)) (a1 : Option Addr) (len1 cap1 : Nat) (l1 : List (List UInt8)) (w : World) (w0 : Bss w a0 len0 cap0 l0) (w1 : Bss w a1 len1 cap1 l1) :
    Calls Try.prog 5 #[.slice a0 len0 cap0, .slice a1 len1 cap1] w fun e w' => e = .returned (.bool true) ∧ Below w.heap.size w w' := by
  have hS : Hid (Calls Try.prog 14 #[.slice a0 len0 cap0] w fun e w' => ∃ r : Int, e = .returned (.int .i64 r) ∧ w = w' ∧ (r = 1 ∨ r = 0 ∧ len0 ≤ 40 ∧ tot l0 ≤ 6000)) := lShort w w0
  have hS' : Hid (Calls Try.prog 14 #[.slice a1 len1 cap1] w fun e w' => ∃ r : Int, e = .returned (.int .i64 r) ∧ w = w' ∧ (r = 1 ∨ r = 0 ∧ len1 ≤ 40 ∧ tot l1 ≤ 6000)) := lShort w w1
  go_enter Try.func5, Try.ntmps5
  go_wp2_with fail
  refine hS.out.mono ?_
  rintro e w2 ⟨r, rfl, rfl, hr⟩
  rcases hr with rfl | ⟨rfl, hn, ht⟩
  · go_wp2_with fail
    refine (lWorks w).mono ?_
    rintro e w2 ⟨rfl, hb1⟩
    go_wp2_with fail
    go_ret
    exact ⟨rfl, hb1⟩
  · go_wp2_with fail
    refine hS'.out.mono ?_
    rintro e w2 ⟨r, rfl, rfl, hr⟩
    rcases hr with rfl | ⟨rfl, hn', ht'⟩
    · go_wp2_with fail
      refine (lWorks w).mono ?_
      rintro e w2 ⟨rfl, hb1⟩
      go_wp2_with fail
      go_ret
      exact ⟨rfl, hb1⟩
    · go_wp2_with fail
      refine (oPack w w0 (by omega) (by omega)).mono ?_
      rintro e w2 ⟨a2, m2, c2, rfl, ho2, hb2⟩
      go_wp2_with fail
      refine (oPack w2 (w1.below hb2 (Nat.le_refl _)) (by omega) (by omega)).mono ?_
      rintro e w3 ⟨a3, m3, c3, rfl, ho3, hb3⟩
      have b3 := hb2.trans (hb3.mono hb2.size)
      have o2 := ho2.below hb3 (Nat.le_refl _)
      clear hb2 hb3 ho2
      go_wp2_with fail
      have hO := oSame w3 o2.toBs ho3.toBs
      rw [pack_same l0 l1 (by omega) (by omega)] at hO
      refine hO.mono ?_
      rintro e w4 ⟨rfl, rfl⟩
      clear hO o2 ho3
      go_wp2_with fail
      refine (rSameAll w3 (w0.below b3 (Nat.le_refl _)) (w1.below b3 (Nat.le_refl _))).mono ?_
      rintro e w5 ⟨rfl, k5, rfl⟩
      have b5 := b3.trans ((below_drewN' w3 k5).mono b3.size)
      clear b3
      generalize w3.drewN k5 = w5 at *
      generalize decide (l0 = l1) = dd at *
      have hdd : (dd == dd) = true := by cases dd <;> rfl
      go_wp2_with fail
      refine (lWorks w5).mono ?_
      rintro e w6 ⟨rfl, hb6⟩
      go_wp2_with fail
      go_ret
      exact ⟨rfl, b5.trans (hb6.mono b5.size)⟩

set_option maxRecDepth 100000 in
theorem lifted (os : Os) (started : os.Started) (H : Type) (enc : TypeId × Value → H) :
    ReturnsInHanded {} Try.checked os 5 .any (Rows.octetApartSpec.pre6 enc Try.prog Try.f5 Rows.octetApartRow.domain false) (Rows.octetApartSpec.post enc Try.prog Try.f5 false true false false) := by
  refine returnsInHanded_of_change (C := Try.checked) own started (by kernel_rfl) Try.func5
    (ChangeSpec.witness6 (enc := enc) (C := Try.checked) false ⟨#[], #[.slice none 0 0, .slice none 0 0], []⟩ 8 (by kernel_rfl) (by kernel_rfl) (by kernel_rfl) (by kernel_rfl)) ?_
  intro W base args ds gs before hval0 hW hcnd _
  have hval : ∀ (j : Nat) t v, Try.f5.params[j]? = some t → args[j]? = some v → Value.okWide Try.prog W .any base t v := hval0
  have hW' := hW
  obtain ⟨p, q, hA0, hV, rfl, hfz, hnd⟩ := hW
  have hA : DataW.TrodAll enc Try.prog W 0 (fun _ => true) true Try.f5.params.toList args.toList ds p := hA0
  rw [Try.params5] at hA hval
  obtain ⟨v0, vs0, d0, ds0, p0, q0, hargs, rfl, rfl, h0, r0⟩ := trodAll_cons hA
  obtain ⟨v1, vs1, d1, ds1, p1, q1, rfl, rfl, rfl, h1, r1⟩ := trodAll_cons r0
  obtain ⟨rfl, rfl, rfl⟩ := trodAll_nil r1
  obtain rfl : args = #[v0, v1] := by cases args; simp_all
  obtain ⟨rfl, rfl⟩ := trodVars_none hV
  obtain ⟨a0, len0, cap0, rfl⟩ := okWide_slice Try.underlying29 (hval 0 29 v0 rfl rfl)
  have k0 := h0
  have lt0 : ∀ x ∈ p0, x.block < W.heap.size := by obtain ⟨m, hm⟩ := k0; exact DataW.trod_lt m _ _ _ hm
  obtain ⟨l0, w0⟩ : ∃ l, Bss W a0 len0 cap0 l := by
    obtain ⟨fuel, hf⟩ := h0
    exact Bss.of_trod hf
  obtain ⟨a1, len1, cap1, rfl⟩ := okWide_slice Try.underlying29 (hval 1 29 v1 rfl rfl)
  have k1 := h1
  have lt1 : ∀ x ∈ p1, x.block < W.heap.size := by obtain ⟨m, hm⟩ := k1; exact DataW.trod_lt m _ _ _ hm
  obtain ⟨l1, w1⟩ : ∃ l, Bss W a1 len1 cap1 l := by
    obtain ⟨fuel, hf⟩ := h1
    exact Bss.of_trod hf
  clear hA0 hval0
  refine (walk a0 len0 cap0 l0 a1 len1 cap1 l1 W w0 w1).mono fun e W' ⟨he, bel⟩ => ?_
  subst he
  exact ⟨_, rfl, _, _, _, [], _, [], hW', trodAll_mk1 (shut_bool Try.underlying4 _), (trodAll_cons_mk (Below.trod laidOut (by kernel_rfl) (of_decide_eq_true (by kernel_rfl)) k0 bel lt0) (trodAll_cons_mk (Below.trod laidOut (by kernel_rfl) (of_decide_eq_true (by kernel_rfl)) k1 bel lt1) trodAll_mk0)), rfl, bel.frame _, fun h => by cases h⟩

theorem over : Rows.octetApartRow.holds Try.pinned (OpenSpec.ofChange Rows.octetApartSpec) :=
  OpenClaim.holds_of_wide 5 Try.f5 rfl rfl rfl rfl rfl rfl rfl ⟨rfl, rfl, rfl, rfl, rfl⟩ rfl rfl rfl rfl rfl (by kernel_rfl) Try.func5 (by kernel_rfl)
    (of_decide_eq_true (by kernel_rfl)) (by unfold Func.isWrapper; first | (rw [if_pos (by decide +kernel)]; kernel_rfl) | (rw [if_neg (by decide +kernel)]; exact ⟨rfl, rfl⟩))
    (fun os started H enc _ => lifted os started H enc)
end OctetApartLaw

/-- The statement. -/
theorem octetApart_holds : Rows.OctetApartSaid := OctetApartLaw.over
#print axioms octetApart_holds
end Go.Proofs.Ytabokdffhomhiaa
