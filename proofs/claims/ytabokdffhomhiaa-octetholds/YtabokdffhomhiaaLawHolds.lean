/-
  Proved: for every two rows of bytes the statement OctetHolds of layer 1 answers true and leaves its arguments as they were. No condition beside the statement's own.
-/
import Derived.Test.YtabokdffhomhiaaRows
import Derived.Test.YtabokdffhomhiaaOpen
import Derived.Test.YtabokdffhomhiaaInj
import Derived.Below
import Derived.ChangeOld
namespace Go.Proofs.Ytabokdffhomhiaa
namespace OctetHoldsLaw
open Go.ChangeShapes Go.WideShapes Go.ChangeAt Go.RowKit
open Go.ChangeMaps (open_string shut_string)
set_option linter.unusedVariables false

theorem own : ownKnob Try.prog.godebug = none := by kernel_rfl
theorem laidOut : laidOutB Try.prog = true := by kernel_rfl

set_option maxHeartbeats 4000000 in
theorem walk (a0 : Option Addr) (len0 cap0 : Nat) (l0 : List UInt8) (a1 : Option Addr) (len1 cap1 : Nat) (l1 : List UInt8) (w : World) (w0 : Bs w a0 len0 cap0 l0) (w1 : Bs w a1 len1 cap1 l1) :
    Calls Try.prog 6 #[.slice a0 len0 cap0, .slice a1 len1 cap1] w fun e w' => e = .returned (.bool true) ∧ Below w.heap.size w w' := by
  have hb := w0
  have hd := w1
  generalize l0 = l at *
  generalize l1 = m at *
  have hl := hb.len
  have hm := hd.len
  have hmax := hb.max
  have hmax' := hd.max
  by_cases h1 : (3000 : Int) < len0
  · go_enter Try.func6, Try.ntmps6
    go_wp2_with (go_at_call 8; refine (lWorks _).mono ?_; rintro e w1 ⟨rfl, hb1⟩)
    go_ret
    exact ⟨rfl, hb1⟩
  · by_cases h2 : (3000 : Int) < len1
    · go_enter Try.func6, Try.ntmps6
      go_wp2_with (go_at_call 8; refine (lWorks _).mono ?_; rintro e w1 ⟨rfl, hb1⟩)
      go_ret
      exact ⟨rfl, hb1⟩
    · have hx2 : xorL (xorL l m) m = l.take (xorL (xorL l m) m).length := xor_twice l m
      have hxl : (xorL (xorL l m) m).length ≤ l.length := by unfold xorL; simp; omega
      have HX : Hid (xorL (xorL l m) m = l.take (xorL (xorL l m) m).length ∧ (xorL (xorL l m) m).length ≤ l.length) := ⟨hx2, hxl⟩
      clear hx2 hxl
      go_enter Try.func6, Try.ntmps6
      go_wp2_with fail
      refine (oXor w hb hd (by omega) (by omega)).mono ?_
      rintro e w3 ⟨a3, m3, c3, rfl, ho3, hb3⟩
      go_wp2_with fail
      refine (oSame w3 (hb.below hb3 (Nat.le_refl _)) (hd.below hb3 (Nat.le_refl _))).mono ?_
      rintro e w4 ⟨rfl, rfl⟩
      go_wp2_with fail
      refine (rSame w3 (hb.below hb3 (Nat.le_refl _)) (hd.below hb3 (Nat.le_refl _))).mono ?_
      rintro e w4 ⟨rfl, k4, rfl⟩
      have b4 := hb3.trans ((below_drewN' w3 k4).mono hb3.size)
      have o4 := ho3.below (below_drewN' w3 k4) (Nat.le_refl _)
      clear ho3 hb3
      generalize w3.drewN k4 = w4 at *
      generalize decide (l = m) = dd at *
      go_wp2_with fail
      refine (rXor w4 (hb.below b4 (Nat.le_refl _)) (hd.below b4 (Nat.le_refl _)) (by omega) (by omega)).mono ?_
      rintro e w5 ⟨a5, m5, c5, rfl, ho5, hb5⟩
      have b5 := b4.trans (hb5.mono b4.size)
      have o5 := o4.below hb5 (Nat.le_refl _)
      clear b4 o4 hb5
      go_wp2_with fail
      refine (rSame w5 o5.toBs ho5.toBs).mono ?_
      rintro e w6 ⟨rfl, k6, rfl⟩
      rw [decide_eq_true rfl]
      have b6 := b5.trans ((below_drewN' w5 k6).mono b5.size)
      have o6 := o5.below (below_drewN' w5 k6) (Nat.le_refl _)
      clear ho5 b5 o5
      generalize w5.drewN k6 = w6 at *
      go_wp2_with fail
      refine (oHex w6 (hb.below b6 (Nat.le_refl _)) (by omega)).mono ?_
      rintro e w7 ⟨rfl, hb7⟩
      have b7 := b6.trans (hb7.mono b6.size)
      have o7 := o6.below hb7 (Nat.le_refl _)
      clear b6 o6 hb7
      go_wp2_with fail
      refine (rHex w7 (hb.below b7 (Nat.le_refl _)) (by omega)).mono ?_
      rintro e w8 ⟨rfl, hb8⟩
      have b8 := b7.trans (hb8.mono b7.size)
      have o8 := o7.below hb8 (Nat.le_refl _)
      clear b7 o7 hb8
      have hm3 : m3 ≤ 3000 := by
        have := o8.toBs.len
        unfold xorL at this
        rw [List.length_zipWith] at this
        omega
      go_wp2_with fail
      refine (oXor w8 o8.toBs (hd.below b8 (Nat.le_refl _)) (by omega) (by omega)).mono ?_
      rintro e w9 ⟨a9, m9, c9, rfl, ho9, hb9⟩
      have b9 := b8.trans (hb9.mono b8.size)
      have hm9 := ho9.toBs.len
      have hle : m9 ≤ len0 := by rw [← hm9, ← hl]; exact HX.out.2
      obtain ⟨s1, s2⟩ := hb.cutHigh m9 hle
      have hc := s2 w9 (hb.below b9 (Nat.le_refl _))
      have HS : Hid (Bs w9 a0 m9 cap0 (l.take m9)) := hc
      have HE : Hid (xorL (xorL l m) m = l.take m9) := by
        show _ = _
        rw [← hm9]
        exact HX.out.1
      have hle' : ¬ (len0 : Int) < m9 := by omega
      have hle2 : (m9 : Int) ≤ len0 := by omega
      clear hc s2 b8 o8 hb9 hm9 HX
      go_wp2_with fail
      have hS := rSame w9 ho9.toBs HS.out
      rw [HE.out, decide_eq_true rfl] at hS
      refine hS.mono ?_
      rintro e w10 ⟨rfl, k10, rfl⟩
      have b10 := b9.trans ((below_drewN' w9 k10).mono b9.size)
      clear hS ho9 HS HE b9
      generalize w9.drewN k10 = w10 at *
      go_wp2_with fail
      refine (lWorks w10).mono ?_
      rintro e w11 ⟨rfl, hb11⟩
      go_wp2_with fail
      go_ret
      exact ⟨rfl, b10.trans (hb11.mono b10.size)⟩

set_option maxRecDepth 100000 in
theorem lifted (os : Os) (started : os.Started) (H : Type) (enc : TypeId × Value → H) :
    ReturnsInHanded {} Try.checked os 6 .any (Rows.octetHoldsSpec.pre6 enc Try.prog Try.f6 Rows.octetHoldsRow.domain false) (Rows.octetHoldsSpec.post enc Try.prog Try.f6 false true false false) := by
  refine returnsInHanded_of_change (C := Try.checked) own started (by kernel_rfl) Try.func6
    (ChangeSpec.witness6 (enc := enc) (C := Try.checked) false ⟨#[], #[.slice none 0 0, .slice none 0 0], []⟩ 8 (by kernel_rfl) (by kernel_rfl) (by kernel_rfl) (by kernel_rfl)) ?_
  intro W base args ds gs before hval0 hW hcnd _
  have hval : ∀ (j : Nat) t v, Try.f6.params[j]? = some t → args[j]? = some v → Value.okWide Try.prog W .any base t v := hval0
  have hW' := hW
  obtain ⟨p, q, hA0, hV, rfl, hfz, hnd⟩ := hW
  have hA : DataW.TrodAll enc Try.prog W 0 (fun _ => true) true Try.f6.params.toList args.toList ds p := hA0
  rw [Try.params6] at hA hval
  obtain ⟨v0, vs0, d0, ds0, p0, q0, hargs, rfl, rfl, h0, r0⟩ := trodAll_cons hA
  obtain ⟨v1, vs1, d1, ds1, p1, q1, rfl, rfl, rfl, h1, r1⟩ := trodAll_cons r0
  obtain ⟨rfl, rfl, rfl⟩ := trodAll_nil r1
  obtain rfl : args = #[v0, v1] := by cases args; simp_all
  obtain ⟨rfl, rfl⟩ := trodVars_none hV
  obtain ⟨a0, len0, cap0, rfl⟩ := okWide_slice Try.underlying23 (hval 0 23 v0 rfl rfl)
  have k0 := h0
  have lt0 : ∀ x ∈ p0, x.block < W.heap.size := by obtain ⟨m, hm⟩ := k0; exact DataW.trod_lt m _ _ _ hm
  obtain ⟨l0, w0⟩ : ∃ l, Bs W a0 len0 cap0 l := by
    obtain ⟨fuel, hf⟩ := h0
    exact Bs.of_trod hf
  obtain ⟨a1, len1, cap1, rfl⟩ := okWide_slice Try.underlying23 (hval 1 23 v1 rfl rfl)
  have k1 := h1
  have lt1 : ∀ x ∈ p1, x.block < W.heap.size := by obtain ⟨m, hm⟩ := k1; exact DataW.trod_lt m _ _ _ hm
  obtain ⟨l1, w1⟩ : ∃ l, Bs W a1 len1 cap1 l := by
    obtain ⟨fuel, hf⟩ := h1
    exact Bs.of_trod hf
  clear hA0 hval0
  refine (walk a0 len0 cap0 l0 a1 len1 cap1 l1 W w0 w1).mono fun e W' ⟨he, bel⟩ => ?_
  subst he
  exact ⟨_, rfl, _, _, _, [], _, [], hW', trodAll_mk1 (shut_bool Try.underlying4 _), (trodAll_cons_mk (Below.trod laidOut (by kernel_rfl) (of_decide_eq_true (by kernel_rfl)) k0 bel lt0) (trodAll_cons_mk (Below.trod laidOut (by kernel_rfl) (of_decide_eq_true (by kernel_rfl)) k1 bel lt1) trodAll_mk0)), rfl, bel.frame _, fun h => by cases h⟩

theorem over : Rows.octetHoldsRow.holds Try.pinned (OpenSpec.ofChange Rows.octetHoldsSpec) :=
  OpenClaim.holds_of_wide 6 Try.f6 rfl rfl rfl rfl rfl rfl rfl ⟨rfl, rfl, rfl, rfl, rfl⟩ rfl rfl rfl rfl rfl (by kernel_rfl) Try.func6 (by kernel_rfl)
    (of_decide_eq_true (by kernel_rfl)) (by unfold Func.isWrapper; first | (rw [if_pos (by decide +kernel)]; kernel_rfl) | (rw [if_neg (by decide +kernel)]; exact ⟨rfl, rfl⟩))
    (fun os started H enc _ => lifted os started H enc)
end OctetHoldsLaw

/-- The statement. -/
theorem octetHolds_holds : Rows.OctetHoldsSaid := OctetHoldsLaw.over
#print axioms octetHolds_holds
end Go.Proofs.Ytabokdffhomhiaa
