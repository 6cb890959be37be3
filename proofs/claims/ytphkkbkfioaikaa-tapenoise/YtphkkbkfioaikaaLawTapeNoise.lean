/-
  Proved: for any number, any size and any small number the statement TapeNoise of layer 11 answers true and leaves its arguments as they were. Conditions beside the statement's own: none.
-/
import Derived.Test.YtphkkbkfioaikaaRows
import Derived.Test.YtphkkbkfioaikaaTapW
import Derived.Test.YtphkkbkfioaikaaTapNR
import Derived.Test.YtphkkbkfioaikaaSame
import Derived.Below
import Derived.ChangeOld
namespace Go.Proofs.Ytphkkbkfioaikaa
namespace TapeNoiseLaw
open Go.ChangeShapes Go.WideShapes Go.ChangeAt Go.RowKit
open Go.ChangeMaps (open_string shut_string)
set_option linter.unusedVariables false

theorem own : ownKnob Try.prog.godebug = none := by kernel_rfl
theorem laidOut : laidOutB Try.prog = true := by kernel_rfl

set_option maxRecDepth 100000 in
set_option maxHeartbeats 4000000 in
theorem walk (a0 : Int) (a1 : Int) (a2 : Int) (w : World) (w0 : (Lit.int .u64 a0).wf = true) (w1 : (Lit.int .i64 a1).wf = true) (w2 : (Lit.int .u8 a2).wf = true) :
    Calls Try.prog 4 #[.int .u64 a0, .int .i64 a1, .int .u8 a2] w fun e w' => e = .returned (.bool true) ∧ Below w.heap.size w w' := by
  obtain ⟨n0, n1⟩ := bounds_u64 w0
  obtain ⟨s0, s1⟩ := bounds_i64 w1
  obtain ⟨m0, m1⟩ := bounds_u8 w2
  by_cases h1 : (2000 : Int) < a1
  · go_enter Try.func4, Try.ntmps4
    go_wp2_with fail
    refine (lWorks11 w).mono ?_
    rintro e w7 ⟨rfl, hb7⟩
    go_wp2_with fail
    go_ret
    exact ⟨rfl, hb7⟩
  · go_enter Try.func4, Try.ntmps4
    go_wp2_with fail
    refine (oNoise a0 a1 w (by omega) n0 n1 s0).mono ?_
    rintro e w3 ⟨a3, m3, c3, rfl, ho3, hb3⟩
    go_wp2_with fail
    refine (rNoise a0 a1 w3 (by omega) n0 n1 s0).mono ?_
    rintro e w4 ⟨a4, m4, c4, rfl, ho4, hb4⟩
    have b4 := hb3.trans (hb4.mono hb3.size)
    have bs4 := ho3.toBs.below hb4 (Nat.le_refl _)
    go_wp2_with fail
    refine (rSame w4 bs4 ho4.toBs).mono ?_
    rintro e w5 ⟨rfl, k5, rfl⟩
    have b5 := b4.trans ((below_drewN' w4 k5).mono b4.size)
    have bs5 := bs4.drewN k5
    rw [decide_eq_true rfl]
    clear ho3 ho4 hb3 hb4 b4 bs4
    generalize w4.drewN k5 = w6 at *
    by_cases h2 : a1 < 0
    · clear bs5
      go_wp2_with fail
      refine (lWorks11 w6).mono ?_
      rintro e w7 ⟨rfl, hb7⟩
      go_wp2_with fail
      go_ret
      exact ⟨rfl, b5.trans (hb7.mono b5.size)⟩
    · obtain ⟨s, rfl⟩ : ∃ s : Nat, a1 = (s : Int) := ⟨a1.toNat, by omega⟩
      obtain ⟨r, rfl⟩ : ∃ r : Nat, a2 = (r : Int) := ⟨a2.toNat, by omega⟩
      rw [Int.toNat_natCast] at bs5
      go_wp2_with fail
      refine (oNoise a0 ((s : Int) + (r : Int)) w6 (by omega) n0 n1 (by omega)).mono ?_
      rintro e w7 ⟨a7, m7, c7, rfl, ho7, hb7⟩
      have bs7 := ho7.toBs
      rw [show ((s : Int) + (r : Int)).toNat = s + r from by omega] at bs7
      have hm7 : m7 = s + r := by have := bs7.len; rw [noiseL_length] at this; exact this.symm
      have hE7 : (m7 : Int) = (s : Int) + (r : Int) := by omega
      obtain ⟨hcut, hbc⟩ := Bs.cutHigh bs7 s (by omega)
      have HC : Hid (∀ w, Bs w a7 m7 c7 (noiseL a0.toNat (s + r)) → Bs w a7 s c7 ((noiseL a0.toNat (s + r)).take s)) := hbc
      have H7 : Hid (Bs w7 a7 m7 c7 (noiseL a0.toNat (s + r))) := bs7
      have H5 : Hid (Bs w7 a3 m3 c3 (noiseL a0.toNat s)) := bs5.below hb7 (Nat.le_refl _)
      have b7 := b5.trans (hb7.mono b5.size)
      have hq7 : ((m7 : Int) == (s : Int) + (r : Int)) = true := by simp [hE7]
      clear bs7 bs5 hbc ho7 hb7 b5 hm7 hE7
      go_wp2_with fail
      refine (rSame w7 (HC.out _ H7.out) H5.out).mono ?_
      rintro e w8 ⟨rfl, k8, rfl⟩
      rw [noise_take, decide_eq_true rfl]
      have b8 := b7.trans ((below_drewN' w7 k8).mono b7.size)
      clear H7 H5 HC b7
      generalize w7.drewN k8 = w9 at *
      go_wp2_with fail
      refine (lWorks11 w9).mono ?_
      rintro e w10 ⟨rfl, hb10⟩
      go_wp2_with fail
      go_ret
      exact ⟨rfl, b8.trans (hb10.mono b8.size)⟩

set_option maxRecDepth 100000 in
theorem lifted (os : Os) (started : os.Started) (H : Type) (enc : TypeId × Value → H) :
    ReturnsInHanded {} Try.checked os 4 .any (Rows.tapeNoiseSpec.pre6 enc Try.prog Try.f4 Rows.tapeNoiseRow.domain false) (Rows.tapeNoiseSpec.post enc Try.prog Try.f4 false true false false) := by
  refine returnsInHanded_of_change (C := Try.checked) own started (by kernel_rfl) Try.func4
    (ChangeSpec.witness6 (enc := enc) (C := Try.checked) false ⟨#[], #[.int .u64 0, .int .i64 0, .int .u8 0], []⟩ 8 (by kernel_rfl) (by kernel_rfl) (by kernel_rfl) (by kernel_rfl)) ?_
  intro W base args ds gs before hval0 hW hcnd _
  have hval : ∀ (j : Nat) t v, Try.f4.params[j]? = some t → args[j]? = some v → Value.okWide Try.prog W .any base t v := hval0
  have hW' := hW
  obtain ⟨p, q, hA0, hV, rfl, hfz, hnd⟩ := hW
  have hA : DataW.TrodAll enc Try.prog W 0 (fun _ => true) true Try.f4.params.toList args.toList ds p := hA0
  rw [Try.params4] at hA hval
  obtain ⟨v0, vs0, d0, ds0, p0, q0, hargs, rfl, rfl, h0, r0⟩ := trodAll_cons hA
  obtain ⟨v1, vs1, d1, ds1, p1, q1, rfl, rfl, rfl, h1, r1⟩ := trodAll_cons r0
  obtain ⟨v2, vs2, d2, ds2, p2, q2, rfl, rfl, rfl, h2, r2⟩ := trodAll_cons r1
  obtain ⟨rfl, rfl, rfl⟩ := trodAll_nil r2
  obtain rfl : args = #[v0, v1, v2] := by cases args; simp_all
  obtain ⟨rfl, rfl⟩ := trodVars_none hV
  obtain ⟨a0, rfl, rfl, rfl, w0⟩ := open_int Try.underlying40 (hval 0 40 v0 rfl rfl) h0
  obtain ⟨a1, rfl, rfl, rfl, w1⟩ := open_int Try.underlying3 (hval 1 3 v1 rfl rfl) h1
  obtain ⟨a2, rfl, rfl, rfl, w2⟩ := open_int Try.underlying5 (hval 2 5 v2 rfl rfl) h2
  clear hA0 hval0
  refine (walk a0 a1 a2 W w0 w1 w2).mono fun e W' ⟨he, bel⟩ => ?_
  subst he
  exact ⟨_, rfl, _, _, _, [], _, [], hW', trodAll_mk1 (shut_bool Try.underlying4 _), (trodAll_cons_mk (shut_int Try.underlying40 w0) (trodAll_cons_mk (shut_int Try.underlying3 w1) (trodAll_cons_mk (shut_int Try.underlying5 w2) trodAll_mk0))), rfl, bel.frame _, fun h => by cases h⟩

theorem over : Rows.tapeNoiseRow.holds Try.pinned (OpenSpec.ofChange Rows.tapeNoiseSpec) :=
  OpenClaim.holds_of_wide 4 Try.f4 rfl rfl rfl rfl rfl rfl rfl ⟨rfl, rfl, rfl, rfl, rfl⟩ rfl rfl rfl rfl rfl (by kernel_rfl) Try.func4 (by kernel_rfl)
    (of_decide_eq_true (by kernel_rfl)) (by unfold Func.isWrapper; first | (rw [if_pos (by decide +kernel)]; kernel_rfl) | (rw [if_neg (by decide +kernel)]; exact ⟨rfl, rfl⟩))
    (fun os started H enc _ => lifted os started H enc)
end TapeNoiseLaw

/-- The statement. -/
theorem tapeNoise_holds : Rows.TapeNoiseSaid := TapeNoiseLaw.over
#print axioms tapeNoise_holds
end Go.Proofs.Ytphkkbkfioaikaa
