/-
  Proved: for any text the statement SixtyGets of layer 7 answers true and leaves its arguments as they were. Conditions beside the statement's own: none.
-/
import Derived.Test.YtmnlcmgkhgckcaaRows
import Derived.Test.YtmnlcmgkhgckcaaOpenB
import Derived.Test.YtmnlcmgkhgckcaaSixS
import Derived.Test.YtmnlcmgkhgckcaaSameT
import Derived.Below
import Derived.ChangeOld
namespace Go.Proofs.Ytmnlcmgkhgckcaa
namespace SixtyGetsLaw
open Go.ChangeShapes Go.WideShapes Go.ChangeAt Go.RowKit
open Go.ChangeMaps (open_string shut_string)
set_option linter.unusedVariables false

theorem own : ownKnob Try.prog.godebug = none := by kernel_rfl
theorem laidOut : laidOutB Try.prog = true := by kernel_rfl

set_option maxRecDepth 100000 in
set_option maxHeartbeats 4000000 in
theorem walk (a0 : ByteArray) (w : World) (w0 : a0.size ≤ maxLen) :
    Calls Try.prog 4 #[.string a0] w fun e w' => e = .returned (.bool true) ∧ Below w.heap.size w w' := by
  obtain ⟨s, rfl⟩ : ∃ s : List UInt8, a0 = ⟨s.toArray⟩ := ⟨a0.data.toList, by cases a0; simp⟩
  obtain ⟨x, hx⟩ : ∃ x, x = s.length := ⟨_, rfl⟩
  have hs : (ByteArray.mk s.toArray).size = x := by rw [str_size, hx]
  rw [hs] at w0
  unfold maxLen at w0
  by_cases h1 : x ≤ 1000
  · have hb1 : ¬ (1000 : Int) < (x : Int) := by omega
    have CO : Hid (∀ w, Calls Try.prog 8 #[.string ⟨s.toArray⟩] w (GivesG w (get64 s))) := fun w => oGet7 w s (by omega)
    have CR : Hid (∀ w, Calls Try.prog 11 #[.string ⟨s.toArray⟩] w (GivesG w (get64 s))) := fun w => rGet7 w s (by omega)
    clear hx
    generalize get64 s = g at *
    obtain ⟨b, k⟩ := g
    go_enter Try.func4, Try.ntmps4
    go_wp2_with fail
    refine (CO.out w).mono ?_
    rintro e w1 ⟨a1, m1, c1, rfl, ho1, q1⟩
    go_wp2_with fail
    refine (CR.out w1).mono ?_
    rintro e w2 ⟨a2, m2, c2, rfl, ho2, hb2⟩
    have q2 := q1.trans (hb2.mono q1.size)
    go_wp2_with fail
    refine (sameT w2 (ho1.below hb2 (Nat.le_refl _)).toBs ho2.toBs).mono ?_
    rintro e w4 ⟨rfl, hb4⟩
    have q4 := q2.trans (hb4.mono q2.size)
    go_wp2_with (go_at_call 6; refine (lWorks7 w4).mono ?_; rintro e w5 ⟨rfl, hb5⟩)
    go_ret
    exact ⟨rfl, q4.trans (hb5.mono q4.size)⟩
  · have hb1 : (1000 : Int) < (x : Int) := by omega
    clear hx
    go_enter Try.func4, Try.ntmps4
    go_wp2_with (go_at_call 6; refine (lWorks7 w).mono ?_; rintro e w5 ⟨rfl, hb5⟩)
    go_ret
    exact ⟨rfl, hb5⟩

set_option maxRecDepth 100000 in
theorem lifted (os : Os) (started : os.Started) (H : Type) (enc : TypeId × Value → H) :
    ReturnsInHanded {} Try.checked os 4 .any (Rows.sixtyGetsSpec.pre6 enc Try.prog Try.f4 Rows.sixtyGetsRow.domain false) (Rows.sixtyGetsSpec.post enc Try.prog Try.f4 false true false false) := by
  refine returnsInHanded_of_change (C := Try.checked) own started (by kernel_rfl) Try.func4
    (ChangeSpec.witness6 (enc := enc) (C := Try.checked) false ⟨#[], #[.string ByteArray.empty], []⟩ 8 (by kernel_rfl) (by kernel_rfl) (by kernel_rfl) (by kernel_rfl)) ?_
  intro W base args ds gs before hval0 hW hcnd _
  have hval : ∀ (j : Nat) t v, Try.f4.params[j]? = some t → args[j]? = some v → Value.okWide Try.prog W .any base t v := hval0
  have hW' := hW
  obtain ⟨p, q, hA0, hV, rfl, hfz, hnd⟩ := hW
  have hA : DataW.TrodAll enc Try.prog W 0 (fun _ => true) true Try.f4.params.toList args.toList ds p := hA0
  rw [Try.params4] at hA hval
  obtain ⟨v0, vs0, d0, ds0, p0, q0, hargs, rfl, rfl, h0, r0⟩ := trodAll_cons hA
  obtain ⟨rfl, rfl, rfl⟩ := trodAll_nil r0
  obtain rfl : args = #[v0] := by cases args; simp_all
  obtain ⟨rfl, rfl⟩ := trodVars_none hV
  obtain ⟨a0, rfl, rfl, rfl, w0⟩ := open_string Try.underlying9 (hval 0 9 v0 rfl rfl) h0
  clear hA0 hval0
  refine (walk a0 W w0).mono fun e W' ⟨he, bel⟩ => ?_
  subst he
  exact ⟨_, rfl, _, _, _, [], _, [], hW', trodAll_mk1 (shut_bool Try.underlying4 _), (trodAll_cons_mk (shut_string Try.underlying9 w0) trodAll_mk0), rfl, bel.frame _, fun h => by cases h⟩

theorem over : Rows.sixtyGetsRow.holds Try.pinned (OpenSpec.ofChange Rows.sixtyGetsSpec) :=
  OpenClaim.holds_of_wide 4 Try.f4 rfl rfl rfl rfl rfl rfl rfl ⟨rfl, rfl, rfl, rfl, rfl⟩ rfl rfl rfl rfl rfl (by kernel_rfl) Try.func4 (by kernel_rfl)
    (of_decide_eq_true (by kernel_rfl)) (by unfold Func.isWrapper; first | (rw [if_pos (by decide +kernel)]; kernel_rfl) | (rw [if_neg (by decide +kernel)]; exact ⟨rfl, rfl⟩))
    (fun os started H enc _ => lifted os started H enc)
end SixtyGetsLaw

/-- The statement. -/
theorem sixtyGets_holds : Rows.SixtyGetsSaid := SixtyGetsLaw.over
#print axioms sixtyGets_holds
end Go.Proofs.Ytmnlcmgkhgckcaa
