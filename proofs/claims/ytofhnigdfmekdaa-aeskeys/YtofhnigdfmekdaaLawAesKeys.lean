/-
  Proved: for every row of bytes the statement AesKeys of layer 4 answers true and leaves its arguments as they were. Conditions beside the statement's own: none.
-/
import Derived.Test.YtofhnigdfmekdaaRows
import Derived.Test.YtofhnigdfmekdaaOpen
import Derived.Test.YtofhnigdfmekdaaAesSmoke
import Derived.Below
import Derived.ChangeOld
namespace Go.Proofs.Ytofhnigdfmekdaa
namespace AesKeysLaw
open Go.ChangeShapes Go.WideShapes Go.ChangeAt Go.RowKit
open Go.ChangeMaps (open_string shut_string)
set_option linter.unusedVariables false

theorem own : ownKnob Try.prog.godebug = none := by kernel_rfl
theorem laidOut : laidOutB Try.prog = true := by kernel_rfl


set_option maxHeartbeats 4000000 in
theorem walk (a0 : Option Addr) (len0 cap0 : Nat) (l0 : List UInt8) (w : World) (w0 : Bs w a0 len0 cap0 l0) :
    Calls Try.prog 5 #[.slice a0 len0 cap0] w fun e w' => e = .returned (.bool true) ∧ Below w.heap.size w w' := by
  have hm := w0.max
  by_cases h1 : len0 ≤ 100
  · have hb1 : (len0 : Int) ≤ 100 := by omega
    by_cases h32 : len0 = 32
    · subst h32
      go_enter Try.func5, Try.ntmps5
      go_wp2_with fail
      refine (oBuild w).mono ?_
      rintro e wa ⟨r, rfl, hr, bT, hba⟩
      go_wp2_with fail
      refine (oNewC wa r bT.tab (w0.below hba (Nat.le_refl _))).mono ?_
      rintro e wb ⟨r2, rfl, hr2, hC, hbb⟩
      have qb := hba.trans (hbb.mono hba.size)
      go_wp2_with (go_at_call 10; refine (lWorksA wb).mono ?_; rintro e wc ⟨rfl, hbc⟩)
      go_ret
      exact ⟨rfl, qb.trans (hbc.mono qb.size)⟩
    · have hne : ((len0 : Int) == 32) = false := by simp; omega
      go_enter Try.func5, Try.ntmps5
      go_wp2_with fail
      refine (oBuild w).mono ?_
      rintro e wa ⟨r, rfl, hr, bT, hba⟩
      go_wp2_with fail
      refine (oNewNot wa r (a := a0) (c := cap0) h32).mono ?_
      rintro e wb ⟨rfl, rfl⟩
      go_wp2_with (go_at_call 10; refine (lWorksA wa).mono ?_; rintro e wc ⟨rfl, hbc⟩)
      go_ret
      exact ⟨rfl, hba.trans (hbc.mono hba.size)⟩
  · have hb1 : (100 : Int) < (len0 : Int) := by omega
    go_enter Try.func5, Try.ntmps5
    go_wp2_with fail
    refine (lWorksA w).mono ?_
    rintro e wa ⟨rfl, hb⟩
    go_wp2
    go_ret
    exact ⟨rfl, hb⟩

set_option maxRecDepth 100000 in
theorem lifted (os : Os) (started : os.Started) (H : Type) (enc : TypeId × Value → H) :
    ReturnsInHanded {} Try.checked os 5 .any (Rows.aesKeysSpec.pre6 enc Try.prog Try.f5 Rows.aesKeysRow.domain false) (Rows.aesKeysSpec.post enc Try.prog Try.f5 false true false false) := by
  refine returnsInHanded_of_change (C := Try.checked) own started (by kernel_rfl) Try.func5
    (ChangeSpec.witness6 (enc := enc) (C := Try.checked) false ⟨#[], #[.slice none 0 0], []⟩ 8 (by kernel_rfl) (by kernel_rfl) (by kernel_rfl) (by kernel_rfl)) ?_
  intro W base args ds gs before hval0 hW hcnd _
  have hval : ∀ (j : Nat) t v, Try.f5.params[j]? = some t → args[j]? = some v → Value.okWide Try.prog W .any base t v := hval0
  have hW' := hW
  obtain ⟨p, q, hA0, hV, rfl, hfz, hnd⟩ := hW
  have hA : DataW.TrodAll enc Try.prog W 0 (fun _ => true) true Try.f5.params.toList args.toList ds p := hA0
  rw [Try.params5] at hA hval
  obtain ⟨v0, vs0, d0, ds0, p0, q0, hargs, rfl, rfl, h0, r0⟩ := trodAll_cons hA
  obtain ⟨rfl, rfl, rfl⟩ := trodAll_nil r0
  obtain rfl : args = #[v0] := by cases args; simp_all
  obtain ⟨rfl, rfl⟩ := trodVars_none hV
  obtain ⟨a0, len0, cap0, rfl⟩ := okWide_slice Try.underlying27 (hval 0 27 v0 rfl rfl)
  have k0 := h0
  have lt0 : ∀ x ∈ p0, x.block < W.heap.size := by obtain ⟨m, hm⟩ := k0; exact DataW.trod_lt m _ _ _ hm
  obtain ⟨l0, w0⟩ : ∃ l, Bs W a0 len0 cap0 l := by
    obtain ⟨fuel, hf⟩ := h0
    exact Bs.of_trod hf
  clear hA0 hval0
  refine (walk a0 len0 cap0 l0 W w0).mono fun e W' ⟨he, bel⟩ => ?_
  subst he
  exact ⟨_, rfl, _, _, _, [], _, [], hW', trodAll_mk1 (shut_bool Try.underlying4 _), (trodAll_cons_mk (Below.trod laidOut (by kernel_rfl) (of_decide_eq_true (by kernel_rfl)) k0 bel lt0) trodAll_mk0), rfl, bel.frame _, fun h => by cases h⟩

theorem over : Rows.aesKeysRow.holds Try.pinned (OpenSpec.ofChange Rows.aesKeysSpec) :=
  OpenClaim.holds_of_wide 5 Try.f5 rfl rfl rfl rfl rfl rfl rfl ⟨rfl, rfl, rfl, rfl, rfl⟩ rfl rfl rfl rfl rfl (by kernel_rfl) Try.func5 (by kernel_rfl)
    (of_decide_eq_true (by kernel_rfl)) (by unfold Func.isWrapper; first | (rw [if_pos (by decide +kernel)]; kernel_rfl) | (rw [if_neg (by decide +kernel)]; exact ⟨rfl, rfl⟩))
    (fun os started H enc _ => lifted os started H enc)
end AesKeysLaw

/-- The statement. -/
theorem aesKeys_holds : Rows.AesKeysSaid := AesKeysLaw.over
#print axioms aesKeys_holds
end Go.Proofs.Ytofhnigdfmekdaa
