/-
  Proved: for any row of bytes the statement SixtyPuts of layer 7 answers true and leaves its arguments as they were. Conditions beside the statement's own: none.
-/
import Derived.Test.YtmnlcmgkhgckcaaRows
import Derived.Test.YtmnlcmgkhgckcaaOpenB
import Derived.Test.YtmnlcmgkhgckcaaSixS
import Derived.Test.YtmnlcmgkhgckcaaSameT
import Derived.Below
import Derived.ChangeOld
namespace Go.Proofs.Ytmnlcmgkhgckcaa
namespace SixtyPutsLaw
open Go.ChangeShapes Go.WideShapes Go.ChangeAt Go.RowKit
open Go.ChangeMaps (open_string shut_string)
set_option linter.unusedVariables false

theorem own : ownKnob Try.prog.godebug = none := by kernel_rfl
theorem laidOut : laidOutB Try.prog = true := by kernel_rfl

set_option maxRecDepth 100000 in
set_option maxHeartbeats 4000000 in
theorem walk (a0 : Option Addr) (len0 cap0 : Nat) (l0 : List UInt8) (w : World) (w0 : Bs w a0 len0 cap0 l0) :
    Calls Try.prog 3 #[.slice a0 len0 cap0] w fun e w' => e = .returned (.bool true) ∧ Below w.heap.size w w' := by
  have hm := w0.max
  by_cases h1 : len0 ≤ 1000
  · have hb1 : ¬ (1000 : Int) < (len0 : Int) := by omega
    have hlen : (put64 l0).length ≤ 2000 := by rw [put64_length, w0.len]; have := pads_le len0; unfold sixN at *; omega
    have CG : Hid (∀ w, Calls Try.prog 8 #[.string ⟨(put64 l0).toArray⟩] w (GivesG w (l0, 0))) := fun w => by
      have := oGet7 w (put64 l0) hlen
      rw [get_put] at this
      exact this
    have CO : Hid (∀ w, Bs w a0 len0 cap0 l0 → Calls Try.prog 7 #[.slice a0 len0 cap0] w fun e w' => e = .returned (.string ⟨(put64 l0).toArray⟩) ∧ Below w.heap.size w w') := fun w h => oPut7 w h h1
    have CR : Hid (∀ w, Bs w a0 len0 cap0 l0 → Calls Try.prog 9 #[.slice a0 len0 cap0] w fun e w' => e = .returned (.string ⟨(put64 l0).toArray⟩) ∧ Below w.heap.size w w') := fun w h => rPut7 w h h1
    clear hlen
    generalize put64 l0 = S at *
    go_enter Try.func3, Try.ntmps3
    go_wp2_with fail
    refine (CO.out w w0).mono ?_
    rintro e w1 ⟨rfl, q1⟩
    go_wp2_with fail
    refine (CG.out w1).mono ?_
    rintro e w2 ⟨a2, m2, c2, rfl, ho2, hb2⟩
    have q2 := q1.trans (hb2.mono q1.size)
    go_wp2_with fail
    refine (CR.out w2 (w0.below q2 (Nat.le_refl _))).mono ?_
    rintro e w3 ⟨rfl, hb3⟩
    have q3 := q2.trans (hb3.mono q2.size)
    go_wp2_with fail
    refine (sameT w3 (w0.below q3 (Nat.le_refl _)) (ho2.below hb3 (Nat.le_refl _)).toBs).mono ?_
    rintro e w4 ⟨rfl, hb4⟩
    have q4 := q3.trans (hb4.mono q3.size)
    go_wp2_with (go_at_call 6; refine (lWorks7 w4).mono ?_; rintro e w5 ⟨rfl, hb5⟩)
    go_ret
    exact ⟨rfl, q4.trans (hb5.mono q4.size)⟩
  · have hb1 : (1000 : Int) < (len0 : Int) := by omega
    go_enter Try.func3, Try.ntmps3
    go_wp2_with (go_at_call 6; refine (lWorks7 w).mono ?_; rintro e w5 ⟨rfl, hb5⟩)
    go_ret
    exact ⟨rfl, hb5⟩

set_option maxRecDepth 100000 in
theorem lifted (os : Os) (started : os.Started) (H : Type) (enc : TypeId × Value → H) :
    ReturnsInHanded {} Try.checked os 3 .any (Rows.sixtyPutsSpec.pre6 enc Try.prog Try.f3 Rows.sixtyPutsRow.domain false) (Rows.sixtyPutsSpec.post enc Try.prog Try.f3 false true false false) := by
  refine returnsInHanded_of_change (C := Try.checked) own started (by kernel_rfl) Try.func3
    (ChangeSpec.witness6 (enc := enc) (C := Try.checked) false ⟨#[], #[.slice none 0 0], []⟩ 8 (by kernel_rfl) (by kernel_rfl) (by kernel_rfl) (by kernel_rfl)) ?_
  intro W base args ds gs before hval0 hW hcnd _
  have hval : ∀ (j : Nat) t v, Try.f3.params[j]? = some t → args[j]? = some v → Value.okWide Try.prog W .any base t v := hval0
  have hW' := hW
  obtain ⟨p, q, hA0, hV, rfl, hfz, hnd⟩ := hW
  have hA : DataW.TrodAll enc Try.prog W 0 (fun _ => true) true Try.f3.params.toList args.toList ds p := hA0
  rw [Try.params3] at hA hval
  obtain ⟨v0, vs0, d0, ds0, p0, q0, hargs, rfl, rfl, h0, r0⟩ := trodAll_cons hA
  obtain ⟨rfl, rfl, rfl⟩ := trodAll_nil r0
  obtain rfl : args = #[v0] := by cases args; simp_all
  obtain ⟨rfl, rfl⟩ := trodVars_none hV
  obtain ⟨a0, len0, cap0, rfl⟩ := okWide_slice Try.underlying22 (hval 0 22 v0 rfl rfl)
  have k0 := h0
  have lt0 : ∀ x ∈ p0, x.block < W.heap.size := by obtain ⟨m, hm⟩ := k0; exact DataW.trod_lt m _ _ _ hm
  obtain ⟨l0, w0⟩ : ∃ l, Bs W a0 len0 cap0 l := by
    obtain ⟨fuel, hf⟩ := h0
    exact Bs.of_trod hf
  clear hA0 hval0
  refine (walk a0 len0 cap0 l0 W w0).mono fun e W' ⟨he, bel⟩ => ?_
  subst he
  exact ⟨_, rfl, _, _, _, [], _, [], hW', trodAll_mk1 (shut_bool Try.underlying4 _), (trodAll_cons_mk (Below.trod laidOut (by kernel_rfl) (of_decide_eq_true (by kernel_rfl)) k0 bel lt0) trodAll_mk0), rfl, bel.frame _, fun h => by cases h⟩

theorem over : Rows.sixtyPutsRow.holds Try.pinned (OpenSpec.ofChange Rows.sixtyPutsSpec) :=
  OpenClaim.holds_of_wide 3 Try.f3 rfl rfl rfl rfl rfl rfl rfl ⟨rfl, rfl, rfl, rfl, rfl⟩ rfl rfl rfl rfl rfl (by kernel_rfl) Try.func3 (by kernel_rfl)
    (of_decide_eq_true (by kernel_rfl)) (by unfold Func.isWrapper; first | (rw [if_pos (by decide +kernel)]; kernel_rfl) | (rw [if_neg (by decide +kernel)]; exact ⟨rfl, rfl⟩))
    (fun os started H enc _ => lifted os started H enc)
end SixtyPutsLaw

/-- The statement. -/
theorem sixtyPuts_holds : Rows.SixtyPutsSaid := SixtyPutsLaw.over
#print axioms sixtyPuts_holds
end Go.Proofs.Ytmnlcmgkhgckcaa
