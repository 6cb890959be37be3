/-
  Proved: for every number, size and row of bytes the statement OctetNumbers of layer 1 answers true and leaves its arguments as they were. No condition beside the statement's own.
-/
import Derived.Test.YtabokdffhomhiaaRows
import Derived.Test.YtabokdffhomhiaaOpen
import Derived.Below
import Derived.ChangeOld
namespace Go.Proofs.Ytabokdffhomhiaa
namespace OctetNumbersLaw
open Go.ChangeShapes Go.WideShapes Go.ChangeAt Go.RowKit
open Go.ChangeMaps (open_string shut_string)
set_option linter.unusedVariables false

theorem own : ownKnob Try.prog.godebug = none := by kernel_rfl
theorem laidOut : laidOutB Try.prog = true := by kernel_rfl

set_option maxHeartbeats 4000000 in
theorem walk (a0 : Int) (a1 : Int) (a2 : Option Addr) (len2 cap2 : Nat) (l2 : List UInt8) (w : World) (w0 : (Lit.int .u64 a0).wf = true) (w1 : (Lit.int .i64 a1).wf = true) (w2 : Bs w a2 len2 cap2 l2) :
    Calls Try.prog 3 #[.int .u64 a0, .int .i64 a1, .slice a2 len2 cap2] w fun e w' => e = .returned (.bool true) ∧ Below w.heap.size w w' := by
  obtain ⟨n0, n1⟩ := bounds_u64 w0
  obtain ⟨s0, s1⟩ := bounds_i64 w1
  have hb := w2
  have hl := hb.len
  have hmax := hb.max
  by_cases h1 : (100 : Int) < a1
  · go_enter Try.func3, Try.ntmps3
    go_wp2_with (go_at_call 8; refine (lWorks _).mono ?_; rintro e w1 ⟨rfl, hb1⟩)
    go_ret
    exact ⟨rfl, hb1⟩
  · by_cases h2 : (3000 : Int) < len2
    · go_enter Try.func3, Try.ntmps3
      go_wp2_with (go_at_call 8; refine (lWorks _).mono ?_; rintro e w1 ⟨rfl, hb1⟩)
      go_ret
      exact ⟨rfl, hb1⟩
    · go_enter Try.func3, Try.ntmps3
      go_wp2_with fail
      refine (oPut a0 a1 w (by omega) n0 n1 s0).mono ?_
      rintro e w3 ⟨a3, m3, c3, rfl, ho3, hb3⟩
      go_wp2_with fail
      refine (rPut 100 a0 a1 w3 (by omega) (by omega) n0 n1 s0).mono ?_
      rintro e w4 ⟨a4, m4, c4, rfl, ho4, hb4⟩
      have b4 := hb3.trans (hb4.mono hb3.size)
      go_wp2_with fail
      refine (rSame w4 (ho3.toBs.below hb4 (Nat.le_refl _)) ho4.toBs).mono ?_
      rintro e w5 ⟨rfl, k5, rfl⟩
      have b5 := b4.trans ((below_drewN' w4 k5).mono b4.size)
      rw [decide_eq_true rfl]
      clear ho3 ho4 hb3 hb4 b4
      generalize w4.drewN k5 = w6 at *
      go_wp2_with fail
      refine (oGet w6 (hb.below b5 (Nat.le_refl _))).mono ?_
      rintro e w7 ⟨rfl, rfl⟩
      go_wp2_with fail
      refine (rGet w6 (hb.below b5 (Nat.le_refl _))).mono ?_
      rintro e w7 ⟨rfl, rfl⟩
      go_wp2_with fail
      refine (oPut a0 8 w6 (by omega) n0 n1 (by omega)).mono ?_
      rintro e w8 ⟨a8, m8, c8, rfl, ho8, hb8⟩
      have b8 := b5.trans (hb8.mono b5.size)
      go_wp2_with fail
      have hg := oGet w8 ho8.toBs
      rw [show (8 : Int).toNat = 8 from rfl, getN_put8 _ (by omega), Int.toNat_of_nonneg n0] at hg
      refine hg.mono ?_
      rintro e w9 ⟨rfl, rfl⟩
      clear hg ho8 hb8 b5 hb
      go_wp2_with fail
      refine (lWorks w8).mono ?_
      rintro e w9 ⟨rfl, hb9⟩
      go_wp2_with fail
      go_ret
      exact ⟨rfl, b8.trans (hb9.mono b8.size)⟩

set_option maxRecDepth 100000 in
theorem lifted (os : Os) (started : os.Started) (H : Type) (enc : TypeId × Value → H) :
    ReturnsInHanded {} Try.checked os 3 .any (Rows.octetNumbersSpec.pre6 enc Try.prog Try.f3 Rows.octetNumbersRow.domain false) (Rows.octetNumbersSpec.post enc Try.prog Try.f3 false true false false) := by
  refine returnsInHanded_of_change (C := Try.checked) own started (by kernel_rfl) Try.func3
    (ChangeSpec.witness6 (enc := enc) (C := Try.checked) false ⟨#[], #[.int .u64 0, .int .i64 0, .slice none 0 0], []⟩ 8 (by kernel_rfl) (by kernel_rfl) (by kernel_rfl) (by kernel_rfl)) ?_
  intro W base args ds gs before hval0 hW hcnd _
  have hval : ∀ (j : Nat) t v, Try.f3.params[j]? = some t → args[j]? = some v → Value.okWide Try.prog W .any base t v := hval0
  have hW' := hW
  obtain ⟨p, q, hA0, hV, rfl, hfz, hnd⟩ := hW
  have hA : DataW.TrodAll enc Try.prog W 0 (fun _ => true) true Try.f3.params.toList args.toList ds p := hA0
  rw [Try.params3] at hA hval
  obtain ⟨v0, vs0, d0, ds0, p0, q0, hargs, rfl, rfl, h0, r0⟩ := trodAll_cons hA
  obtain ⟨v1, vs1, d1, ds1, p1, q1, rfl, rfl, rfl, h1, r1⟩ := trodAll_cons r0
  obtain ⟨v2, vs2, d2, ds2, p2, q2, rfl, rfl, rfl, h2, r2⟩ := trodAll_cons r1
  obtain ⟨rfl, rfl, rfl⟩ := trodAll_nil r2
  obtain rfl : args = #[v0, v1, v2] := by cases args; simp_all
  obtain ⟨rfl, rfl⟩ := trodVars_none hV
  obtain ⟨a0, rfl, rfl, rfl, w0⟩ := open_int Try.underlying22 (hval 0 22 v0 rfl rfl) h0
  obtain ⟨a1, rfl, rfl, rfl, w1⟩ := open_int Try.underlying3 (hval 1 3 v1 rfl rfl) h1
  obtain ⟨a2, len2, cap2, rfl⟩ := okWide_slice Try.underlying23 (hval 2 23 v2 rfl rfl)
  have k2 := h2
  have lt2 : ∀ x ∈ p2, x.block < W.heap.size := by obtain ⟨m, hm⟩ := k2; exact DataW.trod_lt m _ _ _ hm
  obtain ⟨l2, w2⟩ : ∃ l, Bs W a2 len2 cap2 l := by
    obtain ⟨fuel, hf⟩ := h2
    exact Bs.of_trod hf
  clear hA0 hval0
  refine (walk a0 a1 a2 len2 cap2 l2 W w0 w1 w2).mono fun e W' ⟨he, bel⟩ => ?_
  subst he
  exact ⟨_, rfl, _, _, _, [], _, [], hW', trodAll_mk1 (shut_bool Try.underlying4 _), (trodAll_cons_mk (shut_int Try.underlying22 w0) (trodAll_cons_mk (shut_int Try.underlying3 w1) (trodAll_cons_mk (Below.trod laidOut (by kernel_rfl) (of_decide_eq_true (by kernel_rfl)) k2 bel lt2) trodAll_mk0))), rfl, bel.frame _, fun h => by cases h⟩

theorem over : Rows.octetNumbersRow.holds Try.pinned (OpenSpec.ofChange Rows.octetNumbersSpec) :=
  OpenClaim.holds_of_wide 3 Try.f3 rfl rfl rfl rfl rfl rfl rfl ⟨rfl, rfl, rfl, rfl, rfl⟩ rfl rfl rfl rfl rfl (by kernel_rfl) Try.func3 (by kernel_rfl)
    (of_decide_eq_true (by kernel_rfl)) (by unfold Func.isWrapper; first | (rw [if_pos (by decide +kernel)]; kernel_rfl) | (rw [if_neg (by decide +kernel)]; exact ⟨rfl, rfl⟩))
    (fun os started H enc _ => lifted os started H enc)
end OctetNumbersLaw

/-- The statement. -/
theorem octetNumbers_holds : Rows.OctetNumbersSaid := OctetNumbersLaw.over
#print axioms octetNumbers_holds
end Go.Proofs.Ytabokdffhomhiaa
