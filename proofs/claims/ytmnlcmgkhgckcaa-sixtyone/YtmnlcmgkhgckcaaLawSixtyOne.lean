/-
  Proved: for any two texts the statement SixtyOne of layer 7 answers true and leaves its arguments as they were. Conditions beside the statement's own: none.
-/
import Derived.Test.YtmnlcmgkhgckcaaRows
import Derived.Test.YtmnlcmgkhgckcaaOpenB
import Derived.Test.YtmnlcmgkhgckcaaSixS
import Derived.Test.YtmnlcmgkhgckcaaSameT
import Derived.Below
import Derived.ChangeOld
namespace Go.Proofs.Ytmnlcmgkhgckcaa
namespace SixtyOneLaw
open Go.ChangeShapes Go.WideShapes Go.ChangeAt Go.RowKit
open Go.ChangeMaps (open_string shut_string)
set_option linter.unusedVariables false

theorem own : ownKnob Try.prog.godebug = none := by kernel_rfl
theorem laidOut : laidOutB Try.prog = true := by kernel_rfl

set_option maxRecDepth 100000 in
set_option maxHeartbeats 4000000 in
theorem walk (a0 : ByteArray) (a1 : ByteArray) (w : World) (w0 : a0.size ≤ maxLen) (w1 : a1.size ≤ maxLen) :
    Calls Try.prog 5 #[.string a0, .string a1] w fun e w' => e = .returned (.bool true) ∧ Below w.heap.size w w' := by
  obtain ⟨s, rfl⟩ : ∃ s : List UInt8, a0 = ⟨s.toArray⟩ := ⟨a0.data.toList, by cases a0; simp⟩
  obtain ⟨t, rfl⟩ : ∃ t : List UInt8, a1 = ⟨t.toArray⟩ := ⟨a1.data.toList, by cases a1; simp⟩
  obtain ⟨x, hx⟩ : ∃ x, x = s.length := ⟨_, rfl⟩
  obtain ⟨y, hy⟩ : ∃ y, y = t.length := ⟨_, rfl⟩
  have hs : (ByteArray.mk s.toArray).size = x := by rw [str_size, hx]
  have ht : (ByteArray.mk t.toArray).size = y := by rw [str_size, hy]
  rw [hs] at w0
  rw [ht] at w1
  unfold maxLen at w0 w1
  by_cases h1 : x ≤ 1000
  · have hb1 : ¬ (1000 : Int) < (x : Int) := by omega
    by_cases h2 : y ≤ 1000
    · have hb2 : ¬ (1000 : Int) < (y : Int) := by omega
      have CS : Hid (∀ w, Calls Try.prog 8 #[.string ⟨s.toArray⟩] w (GivesG w (get64 s))) := fun w => oGet7 w s (by omega)
      have CT : Hid (∀ w, Calls Try.prog 8 #[.string ⟨t.toArray⟩] w (GivesG w (get64 t))) := fun w => oGet7 w t (by omega)
      have HPS : Hid ((get64 s).2 = 0 → put64 (get64 s).1 = s) := get_ok
      have HPT : Hid ((get64 t).2 = 0 → put64 (get64 t).1 = t) := get_ok
      have HST : Hid (s = t → (get64 s).1 = (get64 t).1) := fun h => by rw [h]
      have HBL : Hid ((get64 s).2 = 0 → (get64 s).1.length ≤ 1000) := fun h => by
        have e := congrArg List.length (get_ok h)
        rw [put64_length] at e
        unfold sixN at e
        omega
      clear hx hy
      generalize get64 s = g at *
      generalize get64 t = h at *
      obtain ⟨b, k⟩ := g
      obtain ⟨c, m⟩ := h
      by_cases hk : k = 0
      · subst hk
        have HB : Hid (put64 b = s) := HPS.out rfl
        have hbl : b.length ≤ 1000 := HBL.out rfl
        have CP : Hid (∀ w a n c', Bs w a n c' b → Calls Try.prog 7 #[.slice a n c'] w fun e w' => e = .returned (.string ⟨s.toArray⟩) ∧ Below w.heap.size w w') := fun w a n c' hB => by
          have := oPut7 w hB (by rw [← hB.len]; exact hbl)
          rw [HB.out] at this
          exact this
        clear HBL HPS hbl
        by_cases hm : m = 0
        · subst hm
          have HC : Hid (put64 c = t) := HPT.out rfl
          have hE : (decide (b = c) == (s == t)) = true := by
            rw [beq_iff_eq, Bool.eq_iff_iff, decide_eq_true_iff, beq_iff_eq]
            exact ⟨fun e => by rw [← HB.out, ← HC.out, e], fun e => HST.out e⟩
          clear HPT HST HB HC
          go_enter Try.func5, Try.ntmps5
          go_wp2_with fail
          refine (CS.out w).mono ?_
          rintro e w3 ⟨a3, m3, c3, rfl, ho3, q3⟩
          go_wp2_with fail
          refine (CT.out w3).mono ?_
          rintro e w4 ⟨a4, m4, c4, rfl, ho4, hb4⟩
          have q4 := q3.trans (hb4.mono q3.size)
          have o4 := ho3.below hb4 (Nat.le_refl _)
          go_wp2_with fail
          refine (CP.out w4 _ _ _ o4.toBs).mono ?_
          rintro e w5 ⟨rfl, hb5⟩
          have q5 := q4.trans (hb5.mono q4.size)
          have o5 := o4.below hb5 (Nat.le_refl _)
          have p5 := ho4.below hb5 (Nat.le_refl _)
          go_wp2_with fail
          refine (rSame w5 o5.toBs p5.toBs).mono ?_
          rintro e w6 ⟨rfl, k6, rfl⟩
          have q6 := q5.trans ((below_drewN' w5 k6).mono q5.size)
          clear o5 p5 q5
          generalize w5.drewN k6 = w6 at *
          generalize decide (b = c) = d1 at *
          go_wp2_with (go_at_call 6; refine (lWorks7 w6).mono ?_; rintro e w7 ⟨rfl, hb7⟩)
          go_ret
          exact ⟨rfl, q6.trans (hb7.mono q6.size)⟩
        · have hm0 : ((m : Int) == 0) = false := by rw [beq_eq_false_iff_ne]; omega
          clear HPT HST HB
          go_enter Try.func5, Try.ntmps5
          go_wp2_with fail
          refine (CS.out w).mono ?_
          rintro e w3 ⟨a3, m3, c3, rfl, ho3, q3⟩
          go_wp2_with fail
          refine (CT.out w3).mono ?_
          rintro e w4 ⟨a4, m4, c4, rfl, ho4, hb4⟩
          have q4 := q3.trans (hb4.mono q3.size)
          have o4 := ho3.below hb4 (Nat.le_refl _)
          go_wp2_with fail
          refine (CP.out w4 _ _ _ o4.toBs).mono ?_
          rintro e w5 ⟨rfl, hb5⟩
          have q5 := q4.trans (hb5.mono q4.size)
          go_wp2_with (go_at_call 6; refine (lWorks7 w5).mono ?_; rintro e w7 ⟨rfl, hb7⟩)
          go_ret
          exact ⟨rfl, q5.trans (hb7.mono q5.size)⟩
      · have hk0 : ((k : Int) == 0) = false := by rw [beq_eq_false_iff_ne]; omega
        clear HPS HPT HST HBL
        go_enter Try.func5, Try.ntmps5
        go_wp2_with fail
        refine (CS.out w).mono ?_
        rintro e w3 ⟨a3, m3, c3, rfl, ho3, q3⟩
        go_wp2_with fail
        refine (CT.out w3).mono ?_
        rintro e w4 ⟨a4, m4, c4, rfl, ho4, hb4⟩
        have q4 := q3.trans (hb4.mono q3.size)
        go_wp2_with (go_at_call 6; refine (lWorks7 w4).mono ?_; rintro e w7 ⟨rfl, hb7⟩)
        go_ret
        exact ⟨rfl, q4.trans (hb7.mono q4.size)⟩
    · have hb2 : (1000 : Int) < (y : Int) := by omega
      clear hx hy
      go_enter Try.func5, Try.ntmps5
      go_wp2_with (go_at_call 6; refine (lWorks7 w).mono ?_; rintro e w5 ⟨rfl, hb5⟩)
      go_ret
      exact ⟨rfl, hb5⟩
  · have hb1 : (1000 : Int) < (x : Int) := by omega
    clear hx hy
    go_enter Try.func5, Try.ntmps5
    go_wp2_with (go_at_call 6; refine (lWorks7 w).mono ?_; rintro e w5 ⟨rfl, hb5⟩)
    go_ret
    exact ⟨rfl, hb5⟩

set_option maxRecDepth 100000 in
theorem lifted (os : Os) (started : os.Started) (H : Type) (enc : TypeId × Value → H) :
    ReturnsInHanded {} Try.checked os 5 .any (Rows.sixtyOneSpec.pre6 enc Try.prog Try.f5 Rows.sixtyOneRow.domain false) (Rows.sixtyOneSpec.post enc Try.prog Try.f5 false true false false) := by
  refine returnsInHanded_of_change (C := Try.checked) own started (by kernel_rfl) Try.func5
    (ChangeSpec.witness6 (enc := enc) (C := Try.checked) false ⟨#[], #[.string ByteArray.empty, .string ByteArray.empty], []⟩ 8 (by kernel_rfl) (by kernel_rfl) (by kernel_rfl) (by kernel_rfl)) ?_
  intro W base args ds gs before hval0 hW hcnd _
  have hval : ∀ (j : Nat) t v, Try.f5.params[j]? = some t → args[j]? = some v → Value.okWide Try.prog W .any base t v := hval0
  have hW' := hW
  obtain ⟨p, q, hA0, hV, rfl, hfz, hnd⟩ := hW
  have hA : DataW.TrodAll enc Try.prog W 0 (fun _ => true) true Try.f5.params.toList args.toList ds p := hA0
  rw [Try.params5] at hA hval
  obtain ⟨v0, vs0, d0, ds0, p0, q0, hargs, rfl, rfl, h0, r0⟩ := trodAll_cons hA
  obtain ⟨v1, vs1, d1, ds1, p1, q1, rfl, rfl, rfl, h1, r1⟩ := trodAll_cons r0
  obtain ⟨rfl, rfl, rfl⟩ := trodAll_nil r1
  obtain rfl : args = #[v0, v1] := by cases args; simp_all
  obtain ⟨rfl, rfl⟩ := trodVars_none hV
  obtain ⟨a0, rfl, rfl, rfl, w0⟩ := open_string Try.underlying9 (hval 0 9 v0 rfl rfl) h0
  obtain ⟨a1, rfl, rfl, rfl, w1⟩ := open_string Try.underlying9 (hval 1 9 v1 rfl rfl) h1
  clear hA0 hval0
  refine (walk a0 a1 W w0 w1).mono fun e W' ⟨he, bel⟩ => ?_
  subst he
  exact ⟨_, rfl, _, _, _, [], _, [], hW', trodAll_mk1 (shut_bool Try.underlying4 _), (trodAll_cons_mk (shut_string Try.underlying9 w0) (trodAll_cons_mk (shut_string Try.underlying9 w1) trodAll_mk0)), rfl, bel.frame _, fun h => by cases h⟩

theorem over : Rows.sixtyOneRow.holds Try.pinned (OpenSpec.ofChange Rows.sixtyOneSpec) :=
  OpenClaim.holds_of_wide 5 Try.f5 rfl rfl rfl rfl rfl rfl rfl ⟨rfl, rfl, rfl, rfl, rfl⟩ rfl rfl rfl rfl rfl (by kernel_rfl) Try.func5 (by kernel_rfl)
    (of_decide_eq_true (by kernel_rfl)) (by unfold Func.isWrapper; first | (rw [if_pos (by decide +kernel)]; kernel_rfl) | (rw [if_neg (by decide +kernel)]; exact ⟨rfl, rfl⟩))
    (fun os started H enc _ => lifted os started H enc)
end SixtyOneLaw

/-- The statement. -/
theorem sixtyOne_holds : Rows.SixtyOneSaid := SixtyOneLaw.over
#print axioms sixtyOne_holds
end Go.Proofs.Ytmnlcmgkhgckcaa
