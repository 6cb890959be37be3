/-
  Proved: for any two small numbers and any bool the statement PowerOnce of layer 8 answers true and leaves its arguments as they were. Conditions beside the statement's own: none.
-/
import Derived.Test.YtonakdbpalhimaaRows
import Derived.Test.YtonakdbpalhimaaPowS
import Derived.Test.YtonakdbpalhimaaPowN
import Derived.Below
import Derived.ChangeOld
namespace Go.Proofs.Ytonakdbpalhimaa
namespace PowerOnceLaw
open Go.ChangeShapes Go.WideShapes Go.ChangeAt Go.RowKit
open Go.ChangeMaps (open_string shut_string)
set_option linter.unusedVariables false

theorem own : ownKnob Try.prog.godebug = none := by kernel_rfl
theorem laidOut : laidOutB Try.prog = true := by kernel_rfl

set_option maxRecDepth 100000 in
set_option maxHeartbeats 4000000 in
theorem walk (a0 : Int) (a1 : Bool) (a2 : Int) (w : World) (w0 : (Lit.int .u8 a0).wf = true) (w2 : (Lit.int .u8 a2).wf = true) :
    Calls Try.prog 4 #[.int .u8 a0, .bool a1, .int .u8 a2] w fun e w' => e = .returned (.bool true) ∧ Below w.heap.size w w' := by
  obtain ⟨n, rfl⟩ : ∃ n : Nat, a0 = (n : Int) := ⟨a0.toNat, by have := (bounds_u8 w0).1; omega⟩
  obtain ⟨m, rfl⟩ : ∃ m : Nat, a2 = (m : Int) := ⟨a2.toNat, by have := (bounds_u8 w2).1; omega⟩
  have hn : n ≤ 255 := by have := (bounds_u8 w0).2; omega
  have hm : m ≤ 255 := by have := (bounds_u8 w2).2; omega
  clear w0 w2
  go_enter Try.func4, Try.ntmps4
  go_wp2_with fail
  refine (oPNew w).mono ?_
  rintro e w1 ⟨r, rfl, hr, hp, hb1⟩
  go_wp2_with fail
  refine (oPFuse w1 hp n a1 ⟨by omega, by omega⟩).mono ?_
  rintro e w2 ⟨rfl, hp2, q2⟩
  rw [once_zero] at hp2
  have k2 := below_kp hb1 q2 hb1.size (fun j hj e => by omega)
  clear hp hb1 q2
  have hlt2 := hp2.lt
  obtain ⟨g, hg⟩ : ∃ g, g = w2.heap.size := ⟨_, rfl⟩
  have hwg : w.heap.size ≤ g := by rw [hg]; exact k2.size
  have bg : Blk (w2.alloc (.cells #[.int .i64 0] 3)) g [.int .i64 ((onceN n a1 0 : Nat) : Int)] 3 := Blk.newAt w2 _ 3 g hg.symm _ rfl
  have hp3 := hp2.below (below_alloc w2 (.cells #[.int .i64 0] 3)) hlt2
  have hne : g ≠ r := by omega
  have k3 : Below w.heap.size w (w2.alloc (.cells #[.int .i64 0] 3)) := k2.alloc k2.size _
  go_wp2_with fail
  rw [← hg]
  generalize w2.alloc (.cells #[.int .i64 0] 3) = W1 at *
  clear hp2 k2 hg hlt2
  go_loopw [9, 10] (fun i _ wr => ∃ k : Nat, k ≤ n + m ∧ i = .int .i64 (k : Int) ∧ Pw wr r (onceS n a1 k) ∧ Blk wr g [.int .i64 ((onceN n a1 k : Nat) : Int)] 3 ∧ Below w.heap.size w wr) (fun i _ _ => n + m - (intOf i).toNat)
  case atStart => exact ⟨0, Nat.zero_le _, rfl, hp3, bg, k3⟩
  case round =>
    clear hp3 bg k3
    obtain ⟨k, hk, rfl, hp, hb, hbl⟩ := hrel
    have hle := once_le n a1 k
    by_cases hlt : k < n + m
    · have i0 : (k : Int) < (n : Int) + (m : Int) := by omega
      have CS : Hid (Calls Try.prog 9 #[.pointer (some ⟨r, 0, none⟩), .func (.func 17) #[] #[.pointer (some ⟨g, 0, none⟩)]] wr fun e w' => e = .returned (.bool (decide (k < n))) ∧ Pw w' r (onceS n a1 (k + 1)) ∧ Blk w' g [.int .i64 ((onceN n a1 (k + 1) : Nat) : Int)] 3 ∧ Kp (fun j => j = r ∨ j = g) wr w') := by
        have := oStepC wr hp (once_fit n a1 k hn) (by omega) hb hne (by omega) 17 entersOnce tickOnce
        rw [once_ok, once_next, once_does] at this
        exact this
      have hlr := hp.lt
      have hlg := hb.lt
      clear hp hb
      go_wp2_with fail
      refine CS.out.mono ?_
      rintro e w4 ⟨rfl, hp4, hb4, q4⟩
      have k4 := below_kp hbl q4 hbl.size (fun j hj e => by omega)
      have CD : Hid (Calls Try.prog 15 #[.pointer (some ⟨r, 0, none⟩)] w4 fun e w' => e = .returned (.bool (decide (n ≤ k))) ∧ w' = w4) := by
        have := oPDown w4 hp4
        rw [once_down] at this
        exact this
      clear hbl q4 CS
      by_cases hkn : k < n
      · have j0 : (k : Int) < (n : Int) := by omega
        have j1 : ¬ (n : Int) ≤ (k : Int) := by omega
        rw [decide_eq_false (show ¬ n ≤ k by omega)] at CD
        rw [decide_eq_true hkn]
        go_wp2_with (go_at_call 15; go_must (refine CD.out.mono ?_); rintro e w5 ⟨rfl, rfl⟩)
        go_roundw
        case rel => exact ⟨k + 1, by omega, by go_num, hp4, hb4, k4⟩
        case measure => simp [intOf]; omega
      · have j0 : ¬ (k : Int) < (n : Int) := by omega
        have j1 : (n : Int) ≤ (k : Int) := by omega
        rw [decide_eq_true (show n ≤ k by omega)] at CD
        rw [decide_eq_false hkn]
        go_wp2_with (go_at_call 15; go_must (refine CD.out.mono ?_); rintro e w5 ⟨rfl, rfl⟩)
        go_roundw
        case rel => exact ⟨k + 1, by omega, by go_num, hp4, hb4, k4⟩
        case measure => simp [intOf]; omega
    · obtain rfl : k = n + m := by omega
      have i0 : ¬ ((n + m : Nat) : Int) < (n : Int) + (m : Int) := by omega
      have CW : Hid (∀ W, Below w.heap.size w W → Calls Try.prog 5 #[] W fun e w' => e = .returned (.bool true) ∧ Below w.heap.size w w') := fun W hW => (lWorks8 W).mono fun e w' ⟨he, hb'⟩ => ⟨he, hW.trans (hb'.mono hW.size)⟩
      have hlg := hb.lt
      have c0 := hb.cell 0
      simp only [List.getElem?_cons_zero] at c0
      clear hb hp hlt hle hk
      by_cases hm0 : m = 0
      · subst hm0
        have e0 : onceN n a1 (n + 0) = n := by unfold onceN; rw [if_pos (by omega)]; omega
        rw [e0] at c0
        have d0 : ¬ (0 : Int) < ((0 : Nat) : Int) := by omega
        clear e0
        cases a1 with
        | true =>
          go_wp2_with (go_at_call 5; go_must (refine (CW.out _ hbl).mono ?_); rintro e w5 ⟨rfl, hb5⟩)
          go_ret
          exact ⟨rfl, hb5⟩
        | false =>
          go_wp2_with (go_at_call 5; go_must (refine (CW.out _ hbl).mono ?_); rintro e w5 ⟨rfl, hb5⟩)
          go_ret
          exact ⟨rfl, hb5⟩
      · have d0 : (0 : Int) < (m : Int) := by omega
        cases a1 with
        | true =>
          have e0 : onceN n true (n + m) = n + 1 := by unfold onceN; rw [if_neg (by omega)]; rfl
          rw [e0] at c0
          have c1 : wr.cell? ⟨g, 0, none⟩ = some (.int .i64 ((n : Int) + 1)) := c0
          clear e0 c0
          go_wp2_with (go_at_call 5; go_must (refine (CW.out _ hbl).mono ?_); rintro e w5 ⟨rfl, hb5⟩)
          go_ret
          exact ⟨rfl, hb5⟩
        | false =>
          have e0 : onceN n false (n + m) = n := by unfold onceN; rw [if_neg (by omega)]; rfl
          rw [e0] at c0
          clear e0
          go_wp2_with (go_at_call 5; go_must (refine (CW.out _ hbl).mono ?_); rintro e w5 ⟨rfl, hb5⟩)
          go_ret
          exact ⟨rfl, hb5⟩

set_option maxRecDepth 100000 in
theorem lifted (os : Os) (started : os.Started) (H : Type) (enc : TypeId × Value → H) :
    ReturnsInHanded {} Try.checked os 4 .any (Rows.powerOnceSpec.pre6 enc Try.prog Try.f4 Rows.powerOnceRow.domain false) (Rows.powerOnceSpec.post enc Try.prog Try.f4 false true false false) := by
  refine returnsInHanded_of_change (C := Try.checked) own started (by kernel_rfl) Try.func4
    (ChangeSpec.witness6 (enc := enc) (C := Try.checked) false ⟨#[], #[.int .u8 0, .bool false, .int .u8 0], []⟩ 8 (by kernel_rfl) (by kernel_rfl) (by kernel_rfl) (by kernel_rfl)) ?_
  intro W base args ds gs before hval0 hW hcnd _
  have hval : ∀ (j : Nat) t v, Try.f4.params[j]? = some t → args[j]? = some v → Value.okWide Try.prog W .any base t v := hval0
  have hW' := hW
  obtain ⟨p, q, hA0, hV, rfl, hfz, hnd⟩ := hW
  have hA : DataW.TrodAll enc Try.prog W 0 (fun _ => true) true Try.f4.params.toList args.toList ds p := hA0
  rw [Try.params4] at hA hval
  obtain ⟨v0, vs0, d0, ds0, p0, q0, hargs, rfl, rfl, h0, r0⟩ := trodAll_cons hA
  obtain ⟨v1, vs1, d1, ds1, p1, q1, rfl, rfl, rfl, h1, r1⟩ := trodAll_cons r0
  obtain ⟨v2, vs2, d2, ds2, p2, q2, rfl, rfl, rfl, h2, r2⟩ := trodAll_cons r1
  obtain ⟨rfl, rfl, rfl⟩ := trodAll_nil r2
  obtain rfl : args = #[v0, v1, v2] := by cases args; simp_all
  obtain ⟨rfl, rfl⟩ := trodVars_none hV
  obtain ⟨a0, rfl, rfl, rfl, w0⟩ := open_int Try.underlying5 (hval 0 5 v0 rfl rfl) h0
  obtain ⟨a1, rfl, rfl, rfl⟩ := open_bool Try.underlying4 (hval 1 4 v1 rfl rfl) h1
  obtain ⟨a2, rfl, rfl, rfl, w2⟩ := open_int Try.underlying5 (hval 2 5 v2 rfl rfl) h2
  clear hA0 hval0
  refine (walk a0 a1 a2 W w0 w2).mono fun e W' ⟨he, bel⟩ => ?_
  subst he
  exact ⟨_, rfl, _, _, _, [], _, [], hW', trodAll_mk1 (shut_bool Try.underlying4 _), (trodAll_cons_mk (shut_int Try.underlying5 w0) (trodAll_cons_mk (shut_bool Try.underlying4 a1) (trodAll_cons_mk (shut_int Try.underlying5 w2) trodAll_mk0))), rfl, bel.frame _, fun h => by cases h⟩

theorem over : Rows.powerOnceRow.holds Try.pinned (OpenSpec.ofChange Rows.powerOnceSpec) :=
  OpenClaim.holds_of_wide 4 Try.f4 rfl rfl rfl rfl rfl rfl rfl ⟨rfl, rfl, rfl, rfl, rfl⟩ rfl rfl rfl rfl rfl (by kernel_rfl) Try.func4 (by kernel_rfl)
    (of_decide_eq_true (by kernel_rfl)) (by unfold Func.isWrapper; first | (rw [if_pos (by decide +kernel)]; kernel_rfl) | (rw [if_neg (by decide +kernel)]; exact ⟨rfl, rfl⟩))
    (fun os started H enc _ => lifted os started H enc)
end PowerOnceLaw

/-- The statement. -/
theorem powerOnce_holds : Rows.PowerOnceSaid := PowerOnceLaw.over
#print axioms powerOnce_holds
end Go.Proofs.Ytonakdbpalhimaa
