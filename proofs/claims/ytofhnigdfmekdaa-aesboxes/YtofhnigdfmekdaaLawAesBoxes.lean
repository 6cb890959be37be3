/-
  Proved: for every byte the statement AesBoxes of layer 4 answers true and leaves its arguments as they were. Conditions beside the statement's own: none.
-/
import Derived.Test.YtofhnigdfmekdaaRows
import Derived.Test.YtofhnigdfmekdaaOpen
import Derived.Test.YtofhnigdfmekdaaAesSmoke
import Derived.Test.YtofhnigdfmekdaaAesRefBox
import Derived.Below
import Derived.ChangeOld
namespace Go.Proofs.Ytofhnigdfmekdaa
namespace AesBoxesLaw
open Go.ChangeShapes Go.WideShapes Go.ChangeAt Go.RowKit
open Go.ChangeMaps (open_string shut_string)
set_option linter.unusedVariables false

theorem own : ownKnob Try.prog.godebug = none := by kernel_rfl
theorem laidOut : laidOutB Try.prog = true := by kernel_rfl


set_option maxHeartbeats 4000000 in
theorem walk (a0 : Int) (w : World) (w0 : (Lit.int .u8 a0).wf = true) :
    Calls Try.prog 3 #[.int .u8 a0] w fun e w' => e = .returned (.bool true) ∧ Below w.heap.size w w' := by
  have hb0 := bounds_u8 w0
  obtain ⟨c, hc⟩ : ∃ c : UInt8, (c.toNat : Int) = a0 := ⟨UInt8.ofNat a0.toNat, ofNat_toNat_int a0 (by omega) (by omega)⟩
  subst hc
  go_enter Try.func3, Try.ntmps3
  go_wp2_with fail
  refine (oBuild w).mono ?_
  rintro e wa ⟨r, rfl, hr, bT, hba⟩
  have hT := bT.tab
  generalize hbx : box c = bx
  have C1 : Hid (Calls Try.prog 8 #[.pointer (some ⟨r, 0, none⟩), .int .u8 (c.toNat : Int)] wa fun e w' => e = .returned (.int .u8 (bx.toNat : Int)) ∧ wa = w') := by rw [← hbx]; exact oBox wa r hT c
  have C2 : Hid (Calls Try.prog 9 #[.int .u8 (c.toNat : Int)] wa fun e w' => e = .returned (.int .u8 (bx.toNat : Int)) ∧ ∃ d, w' = wa.drewN d) := by rw [← hbx]; exact rBox wa c
  clear hbx
  go_wp2_with (first
    | (go_at_call 8; refine C1.out.mono ?_; rintro e wb ⟨rfl, rfl⟩)
    | (go_at_call 9; refine C2.out.mono ?_; rintro e wb ⟨rfl, d, rfl⟩)
    | (go_at_call 10; refine (lWorksA _).mono ?_; rintro e wc ⟨rfl, hbc⟩))
  go_ret
  have qb := below_drN hba d
  exact ⟨rfl, qb.trans (hbc.mono qb.size)⟩

set_option maxRecDepth 100000 in
theorem lifted (os : Os) (started : os.Started) (H : Type) (enc : TypeId × Value → H) :
    ReturnsInHanded {} Try.checked os 3 .any (Rows.aesBoxesSpec.pre6 enc Try.prog Try.f3 Rows.aesBoxesRow.domain false) (Rows.aesBoxesSpec.post enc Try.prog Try.f3 false true false false) := by
  refine returnsInHanded_of_change (C := Try.checked) own started (by kernel_rfl) Try.func3
    (ChangeSpec.witness6 (enc := enc) (C := Try.checked) false ⟨#[], #[.int .u8 0], []⟩ 8 (by kernel_rfl) (by kernel_rfl) (by kernel_rfl) (by kernel_rfl)) ?_
  intro W base args ds gs before hval0 hW hcnd _
  have hval : ∀ (j : Nat) t v, Try.f3.params[j]? = some t → args[j]? = some v → Value.okWide Try.prog W .any base t v := hval0
  have hW' := hW
  obtain ⟨p, q, hA0, hV, rfl, hfz, hnd⟩ := hW
  have hA : DataW.TrodAll enc Try.prog W 0 (fun _ => true) true Try.f3.params.toList args.toList ds p := hA0
  rw [Try.params3] at hA hval
  obtain ⟨v0, vs0, d0, ds0, p0, q0, hargs, rfl, rfl, h0, r0⟩ := trodAll_cons hA
  obtain ⟨rfl, rfl, rfl⟩ := trodAll_nil r0
  obtain rfl : args = #[v0] := by cases args; simp_all
  obtain ⟨rfl, rfl⟩ := trodVars_none hV
  obtain ⟨a0, rfl, rfl, rfl, w0⟩ := open_int Try.underlying5 (hval 0 5 v0 rfl rfl) h0
  clear hA0 hval0
  refine (walk a0 W w0).mono fun e W' ⟨he, bel⟩ => ?_
  subst he
  exact ⟨_, rfl, _, _, _, [], _, [], hW', trodAll_mk1 (shut_bool Try.underlying4 _), (trodAll_cons_mk (shut_int Try.underlying5 w0) trodAll_mk0), rfl, bel.frame _, fun h => by cases h⟩

theorem over : Rows.aesBoxesRow.holds Try.pinned (OpenSpec.ofChange Rows.aesBoxesSpec) :=
  OpenClaim.holds_of_wide 3 Try.f3 rfl rfl rfl rfl rfl rfl rfl ⟨rfl, rfl, rfl, rfl, rfl⟩ rfl rfl rfl rfl rfl (by kernel_rfl) Try.func3 (by kernel_rfl)
    (of_decide_eq_true (by kernel_rfl)) (by unfold Func.isWrapper; first | (rw [if_pos (by decide +kernel)]; kernel_rfl) | (rw [if_neg (by decide +kernel)]; exact ⟨rfl, rfl⟩))
    (fun os started H enc _ => lifted os started H enc)
end AesBoxesLaw

/-- The statement. -/
theorem aesBoxes_holds : Rows.AesBoxesSaid := AesBoxesLaw.over
#print axioms aesBoxes_holds
end Go.Proofs.Ytofhnigdfmekdaa
