/-
  Proved: for any four rows of bytes the statement GcmOpens of layer 6 answers true and leaves its arguments as they were. Conditions beside the statement's own: none.
-/
import Derived.Test.YtbgdckhadfcnbaaRows
import Derived.Test.YtbgdckhadfcnbaaG13
import Derived.Below
import Derived.ChangeOld
namespace Go.Proofs.Ytbgdckhadfcnbaa
namespace GcmOpensLaw
open Go.ChangeShapes Go.WideShapes Go.ChangeAt Go.RowKit
open Go.ChangeMaps (open_string shut_string)
set_option linter.unusedVariables false

theorem own : ownKnob Try.prog.godebug = none := by kernel_rfl
theorem laidOut : laidOutB Try.prog = true := by kernel_rfl

set_option maxRecDepth 100000 in
set_option maxHeartbeats 4000000 in
theorem walk (a0 : Option Addr) (len0 cap0 : Nat) (l0 : List UInt8) (a1 : Option Addr) (len1 cap1 : Nat) (l1 : List UInt8) (a2 : Option Addr) (len2 cap2 : Nat) (l2 : List UInt8) (a3 : Option Addr) (len3 cap3 : Nat) (l3 : List UInt8) (w : World) (w0 : Bs w a0 len0 cap0 l0) (w1 : Bs w a1 len1 cap1 l1) (w2 : Bs w a2 len2 cap2 l2) (w3 : Bs w a3 len3 cap3 l3) :
    Calls Try.prog 4 #[.slice a0 len0 cap0, .slice a1 len1 cap1, .slice a2 len2 cap2, .slice a3 len3 cap3] w fun e w' => e = .returned (.bool true) ∧ Below w.heap.size w w' := by
  by_cases h0 : len0 ≤ 100
  · have hb0 : (len0 : Int) ≤ 100 := by omega
    by_cases h1 : len1 ≤ 40
    · have hb1 : (len1 : Int) ≤ 40 := by omega
      by_cases h2 : len2 ≤ 200
      · have hb2 : (len2 : Int) ≤ 200 := by omega
        by_cases h3 : len3 ≤ 200
        · have hb3 : (len3 : Int) ≤ 200 := by omega
          have HKL : Hid ((keyF (k32 l0)).length = 240) := keyF_length (k32_length l0)
          have CK : Hid (∀ (w : World), Bs w a0 len0 cap0 l0 → Calls Try.prog 10 #[.slice a0 len0 cap0] w (Gives w (k32 l0))) := fun w h => lKey32 w h h0
          have CN : Hid (∀ (w : World) (g : Nat) (a : Option Addr) (c : Nat), Tab w g → Bs w a 32 c (k32 l0) → Calls Try.prog 8 #[.pointer (some ⟨g, 0, none⟩), .slice a 32 c] w fun e w' => ∃ r, e = .returned (.tuple #[.pointer (some ⟨r, 0, none⟩), .int .i64 0]) ∧ Gc w' r (keyF (k32 l0)) ∧ Below w.heap.size w w') := fun w g a c h h2 => oGNew w g h h2
          have CR : Hid (∀ (w : World) (a : Option Addr) (c : Nat), Bs w a 32 c (k32 l0) → Calls Try.prog 13 #[.slice a 32 c] w (HasK w (keyF (k32 l0)))) := fun w a c h => rNewK w h
          have HK32 : Hid ((k32 l0).length = 32) := k32_length l0
          generalize keyF (k32 l0) = K at *
          generalize k32 l0 = KK at *
          have s0 := w0
          have s1 := w1
          have s2 := w2
          have s3 := w3
          by_cases h12 : len1 = 12
          · subst h12
            by_cases h16 : 16 ≤ len3
            · have CO : Hid (∀ (w : World) (r : Nat), Gc w r K → Bs w a1 12 cap1 l1 → Bs w a2 len2 cap2 l2 → Bs w a3 len3 cap3 l3 → Calls Try.prog 15 #[.pointer (some ⟨r, 0, none⟩), .slice a1 12 cap1, .slice a2 len2 cap2, .slice a3 len3 cap3] w (OpensC w (decide (tagL K l1 l2 (l3.take (len3 - 16)) = l3.drop (len3 - 16))) (strL K l1 (l3.take (len3 - 16))))) := fun w r hG x1 x2 x3 => oGOpen w hG HKL.out x1 x2 x3 (by omega) (by omega) h16
              have CQ : Hid (∀ (w : World) (a1' a2' a3' : Option Addr) (c1 c2 c3 : Nat), KeyR w K a1' a2' a3' c1 c2 c3 → Bs w a1 12 cap1 l1 → Bs w a2 len2 cap2 l2 → Bs w a3 len3 cap3 l3 → Calls Try.prog 16 #[kv a1' a2' a3' c1 c2 c3, .slice a1 12 cap1, .slice a2 len2 cap2, .slice a3 len3 cap3] w (OpensC w (decide (tagL K l1 l2 (l3.take (len3 - 16)) = l3.drop (len3 - 16))) (strL K l1 (l3.take (len3 - 16))))) := fun w _ _ _ _ _ _ hk x1 x2 x3 => rOpen w hk HKL.out x1 x2 x3 (by omega) (by omega) h16
              generalize strL K l1 (l3.take (len3 - 16)) = T at *
              generalize decide (tagL K l1 l2 (l3.take (len3 - 16)) = l3.drop (len3 - 16)) = b at *
              cases b with
              | true =>
                go_enter Try.func4, Try.ntmps4
                go_wp2_with fail
                refine (oBuild w).mono ?_
                rintro e u1 ⟨g, rfl, hg, bT, k1⟩
                have gw1 : Grows w u1 := k1
                go_wp2_with fail
                refine (CK.out u1 (s0.grows gw1)).mono ?_
                rintro e u2 ⟨p2, m2, x2, rfl, o2, k2⟩
                have hm2 : m2 = 32 := by rw [← o2.toBs.len]; exact HK32.out
                subst hm2
                go_wp2_with fail
                refine (CN.out u2 g _ _ (bT.tab.below k2 bT.lt) o2.toBs).mono ?_
                rintro e u3 ⟨r, rfl, hG, k3⟩
                have g3 : Grows w u3 := Grows.trans gw1 (Grows.trans k2 k3)
                clear gw1 k1 k2 k3 o2 bT hg
                go_wp2_with fail
                refine (CO.out u3 r hG (s1.grows g3) (s2.grows g3) (s3.grows g3)).mono ?_
                intro e u4 h
                unfold OpensC at h
                rw [if_pos rfl] at h
                obtain ⟨p4, m4, x4, rfl, o4, k4⟩ := h
                have g4 : Grows w u4 := Grows.trans g3 k4
                go_wp2_with fail
                refine (CK.out u4 (s0.grows g4)).mono ?_
                rintro e u5 ⟨p5, m5, x5, rfl, o5, k5⟩
                have hm5 : m5 = 32 := by rw [← o5.toBs.len]; exact HK32.out
                subst hm5
                go_wp2_with fail
                refine (CR.out u5 _ _ o5.toBs).mono ?_
                rintro e u6 ⟨b1, b2, b3, y1, y2, y3, rfl, hR, k6⟩
                have g56 : Grows u4 u6 := Grows.trans k5 k6
                have g6 := Grows.trans g4 g56
                go_wp2_with fail
                refine (CQ.out u6 _ _ _ _ _ _ hR (s1.grows g6) (s2.grows g6) (s3.grows g6)).mono ?_
                intro e u7 h
                unfold OpensC at h
                rw [if_pos rfl] at h
                obtain ⟨p7, m7, x7, rfl, o7, k7⟩ := h
                go_wp2_with fail
                refine (sameT u7 ((o4.toBs.grows g56).grows k7) o7.toBs).mono ?_
                rintro e u8 ⟨rfl, k8⟩
                go_wp2_with fail
                refine (lWorksG u8).mono ?_
                rintro e u9 ⟨rfl, k9⟩
                go_wp2
                go_ret
                exact ⟨rfl, Grows.trans g6 (Grows.trans k7 (Grows.trans k8 k9))⟩
              | false =>
                go_enter Try.func4, Try.ntmps4
                go_wp2_with fail
                refine (oBuild w).mono ?_
                rintro e u1 ⟨g, rfl, hg, bT, k1⟩
                have gw1 : Grows w u1 := k1
                go_wp2_with fail
                refine (CK.out u1 (s0.grows gw1)).mono ?_
                rintro e u2 ⟨p2, m2, x2, rfl, o2, k2⟩
                have hm2 : m2 = 32 := by rw [← o2.toBs.len]; exact HK32.out
                subst hm2
                go_wp2_with fail
                refine (CN.out u2 g _ _ (bT.tab.below k2 bT.lt) o2.toBs).mono ?_
                rintro e u3 ⟨r, rfl, hG, k3⟩
                have g3 : Grows w u3 := Grows.trans gw1 (Grows.trans k2 k3)
                clear gw1 k1 k2 k3 o2 bT hg
                go_wp2_with fail
                refine (CO.out u3 r hG (s1.grows g3) (s2.grows g3) (s3.grows g3)).mono ?_
                intro e u4 h
                unfold OpensC at h
                rw [if_neg (by decide)] at h
                obtain ⟨rfl, k4⟩ := h
                have g4 : Grows w u4 := Grows.trans g3 k4
                go_wp2_with fail
                refine (CK.out u4 (s0.grows g4)).mono ?_
                rintro e u5 ⟨p5, m5, x5, rfl, o5, k5⟩
                have hm5 : m5 = 32 := by rw [← o5.toBs.len]; exact HK32.out
                subst hm5
                go_wp2_with fail
                refine (CR.out u5 _ _ o5.toBs).mono ?_
                rintro e u6 ⟨b1, b2, b3, y1, y2, y3, rfl, hR, k6⟩
                have g56 : Grows u4 u6 := Grows.trans k5 k6
                have g6 := Grows.trans g4 g56
                go_wp2_with fail
                refine (CQ.out u6 _ _ _ _ _ _ hR (s1.grows g6) (s2.grows g6) (s3.grows g6)).mono ?_
                intro e u7 h
                unfold OpensC at h
                rw [if_neg (by decide)] at h
                obtain ⟨rfl, k7⟩ := h
                go_wp2_with fail
                refine (sameT u7 (Bs.nil u7) (Bs.nil u7)).mono ?_
                rintro e u8 ⟨rfl, k8⟩
                go_wp2_with fail
                refine (lWorksG u8).mono ?_
                rintro e u9 ⟨rfl, k9⟩
                go_wp2
                go_ret
                exact ⟨rfl, Grows.trans g6 (Grows.trans k7 (Grows.trans k8 k9))⟩
            · go_enter Try.func4, Try.ntmps4
              go_wp2_with fail
              refine (oBuild w).mono ?_
              rintro e u1 ⟨g, rfl, hg, bT, k1⟩
              have gw1 : Grows w u1 := k1
              go_wp2_with fail
              refine (CK.out u1 (s0.grows gw1)).mono ?_
              rintro e u2 ⟨p2, m2, x2, rfl, o2, k2⟩
              have hm2 : m2 = 32 := by rw [← o2.toBs.len]; exact HK32.out
              subst hm2
              go_wp2_with fail
              refine (CN.out u2 g _ _ (bT.tab.below k2 bT.lt) o2.toBs).mono ?_
              rintro e u3 ⟨r, rfl, hG, k3⟩
              have g3 : Grows w u3 := Grows.trans gw1 (Grows.trans k2 k3)
              clear gw1 k1 k2 k3 o2 bT hg
              go_wp2_with fail
              refine (oGOpenShort u3 hG (by omega)).mono ?_
              rintro e u4 ⟨rfl, k4⟩
              have g4 : Grows w u4 := Grows.trans g3 k4
              go_wp2_with fail
              refine (CK.out u4 (s0.grows g4)).mono ?_
              rintro e u5 ⟨p5, m5, x5, rfl, o5, k5⟩
              have hm5 : m5 = 32 := by rw [← o5.toBs.len]; exact HK32.out
              subst hm5
              go_wp2_with fail
              refine (CR.out u5 _ _ o5.toBs).mono ?_
              rintro e u6 ⟨b1, b2, b3, y1, y2, y3, rfl, hR, k6⟩
              have g56 : Grows u4 u6 := Grows.trans k5 k6
              have g6 := Grows.trans g4 g56
              go_wp2_with fail
              refine (rOpenShort u6 rfl (by omega)).mono ?_
              rintro e u7 ⟨rfl, k7⟩
              go_wp2_with fail
              refine (sameT u7 (Bs.nil u7) (Bs.nil u7)).mono ?_
              rintro e u8 ⟨rfl, k8⟩
              go_wp2_with fail
              refine (lWorksG u8).mono ?_
              rintro e u9 ⟨rfl, k9⟩
              go_wp2
              go_ret
              exact ⟨rfl, Grows.trans g6 (Grows.trans k7 (Grows.trans k8 k9))⟩
          · go_enter Try.func4, Try.ntmps4
            go_wp2_with fail
            refine (oBuild w).mono ?_
            rintro e u1 ⟨g, rfl, hg, bT, k1⟩
            have gw1 : Grows w u1 := k1
            go_wp2_with fail
            refine (CK.out u1 (s0.grows gw1)).mono ?_
            rintro e u2 ⟨p2, m2, x2, rfl, o2, k2⟩
            have hm2 : m2 = 32 := by rw [← o2.toBs.len]; exact HK32.out
            subst hm2
            go_wp2_with fail
            refine (CN.out u2 g _ _ (bT.tab.below k2 bT.lt) o2.toBs).mono ?_
            rintro e u3 ⟨r, rfl, hG, k3⟩
            have g3 : Grows w u3 := Grows.trans gw1 (Grows.trans k2 k3)
            clear gw1 k1 k2 k3 o2 bT hg
            go_wp2_with fail
            refine (oGOpenNot u3 hG h12).mono ?_
            rintro e u4 ⟨rfl, k4⟩
            have g4 : Grows w u4 := Grows.trans g3 k4
            go_wp2_with fail
            refine (CK.out u4 (s0.grows g4)).mono ?_
            rintro e u5 ⟨p5, m5, x5, rfl, o5, k5⟩
            have hm5 : m5 = 32 := by rw [← o5.toBs.len]; exact HK32.out
            subst hm5
            go_wp2_with fail
            refine (CR.out u5 _ _ o5.toBs).mono ?_
            rintro e u6 ⟨b1, b2, b3, y1, y2, y3, rfl, hR, k6⟩
            have g56 : Grows u4 u6 := Grows.trans k5 k6
            have g6 := Grows.trans g4 g56
            go_wp2_with fail
            refine (rOpenNot u6 rfl h12).mono ?_
            rintro e u7 ⟨rfl, k7⟩
            go_wp2_with fail
            refine (sameT u7 (Bs.nil u7) (Bs.nil u7)).mono ?_
            rintro e u8 ⟨rfl, k8⟩
            go_wp2_with fail
            refine (lWorksG u8).mono ?_
            rintro e u9 ⟨rfl, k9⟩
            go_wp2
            go_ret
            exact ⟨rfl, Grows.trans g6 (Grows.trans k7 (Grows.trans k8 k9))⟩
        · have hb3 : (200 : Int) < (len3 : Int) := by omega
          go_enter Try.func4, Try.ntmps4
          go_wp2_with fail
          have q0 : Below w.heap.size w _ := Below.refl _ w
          refine (lWorksG _).mono ?_
          rintro e wa ⟨rfl, hb⟩
          go_wp2
          go_ret
          exact ⟨rfl, q0.trans (hb.mono q0.size)⟩
      · have hb2 : (200 : Int) < (len2 : Int) := by omega
        go_enter Try.func4, Try.ntmps4
        go_wp2_with fail
        have q0 : Below w.heap.size w _ := Below.refl _ w
        refine (lWorksG _).mono ?_
        rintro e wa ⟨rfl, hb⟩
        go_wp2
        go_ret
        exact ⟨rfl, q0.trans (hb.mono q0.size)⟩
    · have hb1 : (40 : Int) < (len1 : Int) := by omega
      go_enter Try.func4, Try.ntmps4
      go_wp2_with fail
      have q0 : Below w.heap.size w _ := Below.refl _ w
      refine (lWorksG _).mono ?_
      rintro e wa ⟨rfl, hb⟩
      go_wp2
      go_ret
      exact ⟨rfl, q0.trans (hb.mono q0.size)⟩
  · have hb0 : (100 : Int) < (len0 : Int) := by omega
    go_enter Try.func4, Try.ntmps4
    go_wp2_with fail
    have q0 : Below w.heap.size w _ := Below.refl _ w
    refine (lWorksG _).mono ?_
    rintro e wa ⟨rfl, hb⟩
    go_wp2
    go_ret
    exact ⟨rfl, q0.trans (hb.mono q0.size)⟩

set_option maxRecDepth 100000 in
theorem lifted (os : Os) (started : os.Started) (H : Type) (enc : TypeId × Value → H) :
    ReturnsInHanded {} Try.checked os 4 .any (Rows.gcmOpensSpec.pre6 enc Try.prog Try.f4 Rows.gcmOpensRow.domain false) (Rows.gcmOpensSpec.post enc Try.prog Try.f4 false true false false) := by
  refine returnsInHanded_of_change (C := Try.checked) own started (by kernel_rfl) Try.func4
    (ChangeSpec.witness6 (enc := enc) (C := Try.checked) false ⟨#[], #[.slice none 0 0, .slice none 0 0, .slice none 0 0, .slice none 0 0], []⟩ 8 (by kernel_rfl) (by kernel_rfl) (by kernel_rfl) (by kernel_rfl)) ?_
  intro W base args ds gs before hval0 hW hcnd _
  have hval : ∀ (j : Nat) t v, Try.f4.params[j]? = some t → args[j]? = some v → Value.okWide Try.prog W .any base t v := hval0
  have hW' := hW
  obtain ⟨p, q, hA0, hV, rfl, hfz, hnd⟩ := hW
  have hA : DataW.TrodAll enc Try.prog W 0 (fun _ => true) true Try.f4.params.toList args.toList ds p := hA0
  rw [Try.params4] at hA hval
  obtain ⟨v0, vs0, d0, ds0, p0, q0, hargs, rfl, rfl, h0, r0⟩ := trodAll_cons hA
  obtain ⟨v1, vs1, d1, ds1, p1, q1, rfl, rfl, rfl, h1, r1⟩ := trodAll_cons r0
  obtain ⟨v2, vs2, d2, ds2, p2, q2, rfl, rfl, rfl, h2, r2⟩ := trodAll_cons r1
  obtain ⟨v3, vs3, d3, ds3, p3, q3, rfl, rfl, rfl, h3, r3⟩ := trodAll_cons r2
  obtain ⟨rfl, rfl, rfl⟩ := trodAll_nil r3
  obtain rfl : args = #[v0, v1, v2, v3] := by cases args; simp_all
  obtain ⟨rfl, rfl⟩ := trodVars_none hV
  obtain ⟨a0, len0, cap0, rfl⟩ := okWide_slice Try.underlying22 (hval 0 22 v0 rfl rfl)
  have k0 := h0
  have lt0 : ∀ x ∈ p0, x.block < W.heap.size := by obtain ⟨m, hm⟩ := k0; exact DataW.trod_lt m _ _ _ hm
  obtain ⟨l0, w0⟩ : ∃ l, Bs W a0 len0 cap0 l := by
    obtain ⟨fuel, hf⟩ := h0
    exact Bs.of_trod hf
  obtain ⟨a1, len1, cap1, rfl⟩ := okWide_slice Try.underlying22 (hval 1 22 v1 rfl rfl)
  have k1 := h1
  have lt1 : ∀ x ∈ p1, x.block < W.heap.size := by obtain ⟨m, hm⟩ := k1; exact DataW.trod_lt m _ _ _ hm
  obtain ⟨l1, w1⟩ : ∃ l, Bs W a1 len1 cap1 l := by
    obtain ⟨fuel, hf⟩ := h1
    exact Bs.of_trod hf
  obtain ⟨a2, len2, cap2, rfl⟩ := okWide_slice Try.underlying22 (hval 2 22 v2 rfl rfl)
  have k2 := h2
  have lt2 : ∀ x ∈ p2, x.block < W.heap.size := by obtain ⟨m, hm⟩ := k2; exact DataW.trod_lt m _ _ _ hm
  obtain ⟨l2, w2⟩ : ∃ l, Bs W a2 len2 cap2 l := by
    obtain ⟨fuel, hf⟩ := h2
    exact Bs.of_trod hf
  obtain ⟨a3, len3, cap3, rfl⟩ := okWide_slice Try.underlying22 (hval 3 22 v3 rfl rfl)
  have k3 := h3
  have lt3 : ∀ x ∈ p3, x.block < W.heap.size := by obtain ⟨m, hm⟩ := k3; exact DataW.trod_lt m _ _ _ hm
  obtain ⟨l3, w3⟩ : ∃ l, Bs W a3 len3 cap3 l := by
    obtain ⟨fuel, hf⟩ := h3
    exact Bs.of_trod hf
  clear hA0 hval0
  refine (walk a0 len0 cap0 l0 a1 len1 cap1 l1 a2 len2 cap2 l2 a3 len3 cap3 l3 W w0 w1 w2 w3).mono fun e W' ⟨he, bel⟩ => ?_
  subst he
  exact ⟨_, rfl, _, _, _, [], _, [], hW', trodAll_mk1 (shut_bool Try.underlying4 _), (trodAll_cons_mk (Below.trod laidOut (by kernel_rfl) (of_decide_eq_true (by kernel_rfl)) k0 bel lt0) (trodAll_cons_mk (Below.trod laidOut (by kernel_rfl) (of_decide_eq_true (by kernel_rfl)) k1 bel lt1) (trodAll_cons_mk (Below.trod laidOut (by kernel_rfl) (of_decide_eq_true (by kernel_rfl)) k2 bel lt2) (trodAll_cons_mk (Below.trod laidOut (by kernel_rfl) (of_decide_eq_true (by kernel_rfl)) k3 bel lt3) trodAll_mk0)))), rfl, bel.frame _, fun h => by cases h⟩

theorem over : Rows.gcmOpensRow.holds Try.pinned (OpenSpec.ofChange Rows.gcmOpensSpec) :=
  OpenClaim.holds_of_wide 4 Try.f4 rfl rfl rfl rfl rfl rfl rfl ⟨rfl, rfl, rfl, rfl, rfl⟩ rfl rfl rfl rfl rfl (by kernel_rfl) Try.func4 (by kernel_rfl)
    (of_decide_eq_true (by kernel_rfl)) (by unfold Func.isWrapper; first | (rw [if_pos (by decide +kernel)]; kernel_rfl) | (rw [if_neg (by decide +kernel)]; exact ⟨rfl, rfl⟩))
    (fun os started H enc _ => lifted os started H enc)
end GcmOpensLaw

/-- The statement. -/
theorem gcmOpens_holds : Rows.GcmOpensSaid := GcmOpensLaw.over
#print axioms gcmOpens_holds
end Go.Proofs.Ytbgdckhadfcnbaa
