/-
  Proved: for any rows of bytes and any twelve bytes the statement GcmBack of layer 6 answers true and leaves its arguments as they were. Conditions beside the statement's own: none.
-/
import Derived.Test.YtbgdckhadfcnbaaRows
import Derived.Test.YtbgdckhadfcnbaaG13
import Derived.Below
import Derived.ChangeOld
namespace Go.Proofs.Ytbgdckhadfcnbaa
namespace GcmBackLaw
open Go.ChangeShapes Go.WideShapes Go.ChangeAt Go.RowKit
open Go.ChangeMaps (open_string shut_string)
set_option linter.unusedVariables false

theorem own : ownKnob Try.prog.godebug = none := by kernel_rfl
theorem laidOut : laidOutB Try.prog = true := by kernel_rfl

set_option maxRecDepth 100000 in
set_option maxHeartbeats 4000000 in
theorem walk (a0 : Option Addr) (len0 cap0 : Nat) (l0 : List UInt8) (l1 : List UInt8) (a2 : Option Addr) (len2 cap2 : Nat) (l2 : List UInt8) (a3 : Option Addr) (len3 cap3 : Nat) (l3 : List UInt8) (a4 : Option Addr) (len4 cap4 : Nat) (l4 : List UInt8) (w : World) (w0 : Bs w a0 len0 cap0 l0) (w1 : l1.length = 12) (w2 : Bs w a2 len2 cap2 l2) (w3 : Bs w a3 len3 cap3 l3) (w4 : Bs w a4 len4 cap4 l4) :
    Calls Try.prog 5 #[.slice a0 len0 cap0, .agg (cs l1).toArray, .slice a2 len2 cap2, .slice a3 len3 cap3, .slice a4 len4 cap4] w fun e w' => e = .returned (.bool true) ∧ Below w.heap.size w w' := by
  by_cases h0 : len0 ≤ 100
  · have hb0 : (len0 : Int) ≤ 100 := by omega
    by_cases h2 : len2 ≤ 200
    · have hb2 : (len2 : Int) ≤ 200 := by omega
      by_cases h3 : len3 ≤ 200
      · have hb3 : (len3 : Int) ≤ 200 := by omega
        by_cases h4 : len4 ≤ 200
        · have hb4 : (len4 : Int) ≤ 200 := by omega
          have HKL : Hid ((keyF (k32 l0)).length = 240) := keyF_length (k32_length l0)
          have CK : Hid (∀ (w : World), Bs w a0 len0 cap0 l0 → Calls Try.prog 10 #[.slice a0 len0 cap0] w (Gives w (k32 l0))) := fun w h => lKey32 w h h0
          have CN : Hid (∀ (w : World) (g : Nat) (a : Option Addr) (c : Nat), Tab w g → Bs w a 32 c (k32 l0) → Calls Try.prog 8 #[.pointer (some ⟨g, 0, none⟩), .slice a 32 c] w fun e w' => ∃ r, e = .returned (.tuple #[.pointer (some ⟨r, 0, none⟩), .int .i64 0]) ∧ Gc w' r (keyF (k32 l0)) ∧ Below w.heap.size w w') := fun w g a c h h2 => oGNew w g h h2
          have CR : Hid (∀ (w : World) (a : Option Addr) (c : Nat), Bs w a 32 c (k32 l0) → Calls Try.prog 13 #[.slice a 32 c] w (HasK w (keyF (k32 l0)))) := fun w a c h => rNewK w h
          have HK32 : Hid ((k32 l0).length = 32) := k32_length l0
          generalize keyF (k32 l0) = K at *
          generalize k32 l0 = KK at *
          have hall := allL
          have HL1 : Hid (l1.length = 12) := w1
          clear w1
          have HZL : Hid ((sealL K l1 l2 l3).length = len3 + 16) := by show _ = _; rw [sealL_length HKL.out HL1.out, w3.len]
          have CS : Hid (∀ (w : World) (r : Nat) (p : Option Addr), Gc w r K → Bs w p 12 12 l1 → Bs w a2 len2 cap2 l2 → Bs w a3 len3 cap3 l3 → Calls Try.prog 11 #[.pointer (some ⟨r, 0, none⟩), .slice p 12 12, .slice a2 len2 cap2, .slice a3 len3 cap3] w (GivesC w (sealL K l1 l2 l3))) := fun w r p hG x1 x2 x3 => oGSeal w hG HKL.out x1 x2 x3 (by omega) (by omega)
          have CO : Hid (∀ (w : World) (r : Nat) (p q : Option Addr) (c : Nat), Gc w r K → Bs w p 12 12 l1 → Bs w a2 len2 cap2 l2 → Bs w q (len3 + 16) c (sealL K l1 l2 l3) → Calls Try.prog 15 #[.pointer (some ⟨r, 0, none⟩), .slice p 12 12, .slice a2 len2 cap2, .slice q (len3 + 16) c] w (GivesC w l3)) := fun w r p q c hG x1 x2 x3 => by
            have := oGOpen w hG HKL.out x1 x2 x3 (by omega) (by omega) (by omega)
            rw [Nat.add_sub_cancel, open_seal HKL.out HL1.out w3.len, open_text HKL.out HL1.out w3.len] at this
            refine this.mono fun e w' h => ?_
            unfold OpensC at h
            rw [if_pos rfl] at h
            exact h
          by_cases h16 : 16 ≤ len4
          · have CP : Hid (∀ (w : World) (r : Nat) (p : Option Addr), Gc w r K → Bs w p 12 12 l1 → Bs w a2 len2 cap2 l2 → Bs w a4 len4 cap4 l4 → Calls Try.prog 15 #[.pointer (some ⟨r, 0, none⟩), .slice p 12 12, .slice a2 len2 cap2, .slice a4 len4 cap4] w (OpensC w (decide (tagL K l1 l2 (l4.take (len4 - 16)) = l4.drop (len4 - 16))) (strL K l1 (l4.take (len4 - 16))))) := fun w r p hG x1 x2 x3 => oGOpen w hG HKL.out x1 x2 x3 (by omega) (by omega) h16
            by_cases hok : tagL K l1 l2 (l4.take (len4 - 16)) = l4.drop (len4 - 16)
            · have CQ : Hid (∀ (w : World) (r : Nat) (p q : Option Addr) (m c : Nat), Gc w r K → Bs w p 12 12 l1 → Bs w a2 len2 cap2 l2 → Bs w q m c (strL K l1 (l4.take (len4 - 16))) → Calls Try.prog 11 #[.pointer (some ⟨r, 0, none⟩), .slice p 12 12, .slice a2 len2 cap2, .slice q m c] w (GivesC w l4)) := fun w r p q m c hG x1 x2 x3 => by
                have hl := x3.len
                rw [strL_length HKL.out HL1.out, List.length_take, w4.len] at hl
                have := oGSeal w hG HKL.out x1 x2 x3 (by omega) (by omega)
                rw [seal_open HKL.out HL1.out hok] at this
                exact this
              rw [decide_eq_true hok] at CP
              generalize strL K l1 (l4.take (len4 - 16)) = T at *
              clear hok
              go_enter Try.func5, Try.ntmps5
              go_wp2_with fail
              obtain ⟨W, hW⟩ : ∃ W, W = w.alloc (.cells (cs l1).toArray 41) := ⟨_, rfl⟩
              rw [← hW]
              have d0 : Blk W w.heap.size (cs l1) 41 := by rw [hW]; exact Blk.new w _ _
              have qW : Below w.heap.size w W := by rw [hW]; exact below_alloc w _
              clear hW
              have s1 : Bs W (some ⟨w.heap.size, 0, none⟩) 12 12 l1 := by
                have := Bs.of_range d0.whole (c := 12) (by rw [HL1.out]; omega) (by omega)
                rw [HL1.out] at this
                exact this
              have s0 := w0.below qW (Nat.le_refl _)
              have s2 := w2.below qW (Nat.le_refl _)
              have s3 := w3.below qW (Nat.le_refl _)
              have s4 := w4.below qW (Nat.le_refl _)
              refine (oBuild W).mono ?_
              rintro e u1 ⟨g, rfl, hg, bT, k1⟩
              have gw1 : Grows W u1 := k1
              go_wp2_with fail
              refine (CK.out u1 (s0.grows gw1)).mono ?_
              rintro e u2 ⟨p2, m2, x2, rfl, o2, k2⟩
              have hm2 : m2 = 32 := by rw [← o2.toBs.len]; exact HK32.out
              subst hm2
              go_wp2_with fail
              refine (CN.out u2 g _ _ (bT.tab.below k2 bT.lt) o2.toBs).mono ?_
              rintro e u3 ⟨r, rfl, hG, k3⟩
              have g3 : Grows W u3 := Grows.trans gw1 (Grows.trans k2 k3)
              clear gw1 k1 k2 k3 o2 bT hg
              go_wp2_with fail
              refine (CS.out u3 r _ hG (s1.grows g3) (s2.grows g3) (s3.grows g3)).mono ?_
              rintro e u4 ⟨p4, m4, x4, rfl, o4, k4⟩
              have hm4 : m4 = len3 + 16 := by rw [← o4.toBs.len]; exact HZL.out
              subst hm4
              have g4 : Grows W u4 := Grows.trans g3 k4
              go_wp2_with fail
              refine (CO.out u4 r _ _ _ (hG.below k4) (s1.grows g4) (s2.grows g4) o4.toBs).mono ?_
              rintro e u5 ⟨p5, m5, x5, rfl, o5, k5⟩
              have g5 : Grows W u5 := Grows.trans g4 k5
              have G5 := hG.below (Grows.trans k4 k5)
              go_wp2_with fail
              refine (sameT u5 o5.toBs (s3.grows g5)).mono ?_
              rintro e u6 ⟨rfl, k6⟩
              have g6 : Grows W u6 := Grows.trans g5 k6
              have G6 := G5.below k6
              go_wp2_with fail
              refine (CP.out u6 r _ G6 (s1.grows g6) (s2.grows g6) (s4.grows g6)).mono ?_
              intro e u7 h
              unfold OpensC at h
              rw [if_pos rfl] at h
              obtain ⟨p7, m7, x7, rfl, o7, k7⟩ := h
              have g7 : Grows W u7 := Grows.trans g6 k7
              go_wp2_with fail
              refine (CQ.out u7 r _ _ _ _ (G6.below k7) (s1.grows g7) (s2.grows g7) o7.toBs).mono ?_
              rintro e u8 ⟨p8, m8, x8, rfl, o8, k8⟩
              have g8 : Grows W u8 := Grows.trans g7 k8
              go_wp2_with fail
              refine (sameT u8 o8.toBs (s4.grows g8)).mono ?_
              rintro e u9 ⟨rfl, k9⟩
              go_wp2_with fail
              refine (lWorksG u9).mono ?_
              rintro e ua ⟨rfl, ka⟩
              go_wp2
              go_ret
              have gl := Grows.trans g8 (Grows.trans k9 ka)
              exact ⟨rfl, qW.trans (Below.mono gl qW.size)⟩
            · rw [decide_eq_false hok] at CP
              clear hok
              go_enter Try.func5, Try.ntmps5
              go_wp2_with fail
              obtain ⟨W, hW⟩ : ∃ W, W = w.alloc (.cells (cs l1).toArray 41) := ⟨_, rfl⟩
              rw [← hW]
              have d0 : Blk W w.heap.size (cs l1) 41 := by rw [hW]; exact Blk.new w _ _
              have qW : Below w.heap.size w W := by rw [hW]; exact below_alloc w _
              clear hW
              have s1 : Bs W (some ⟨w.heap.size, 0, none⟩) 12 12 l1 := by
                have := Bs.of_range d0.whole (c := 12) (by rw [HL1.out]; omega) (by omega)
                rw [HL1.out] at this
                exact this
              have s0 := w0.below qW (Nat.le_refl _)
              have s2 := w2.below qW (Nat.le_refl _)
              have s3 := w3.below qW (Nat.le_refl _)
              have s4 := w4.below qW (Nat.le_refl _)
              refine (oBuild W).mono ?_
              rintro e u1 ⟨g, rfl, hg, bT, k1⟩
              have gw1 : Grows W u1 := k1
              go_wp2_with fail
              refine (CK.out u1 (s0.grows gw1)).mono ?_
              rintro e u2 ⟨p2, m2, x2, rfl, o2, k2⟩
              have hm2 : m2 = 32 := by rw [← o2.toBs.len]; exact HK32.out
              subst hm2
              go_wp2_with fail
              refine (CN.out u2 g _ _ (bT.tab.below k2 bT.lt) o2.toBs).mono ?_
              rintro e u3 ⟨r, rfl, hG, k3⟩
              have g3 : Grows W u3 := Grows.trans gw1 (Grows.trans k2 k3)
              clear gw1 k1 k2 k3 o2 bT hg
              go_wp2_with fail
              refine (CS.out u3 r _ hG (s1.grows g3) (s2.grows g3) (s3.grows g3)).mono ?_
              rintro e u4 ⟨p4, m4, x4, rfl, o4, k4⟩
              have hm4 : m4 = len3 + 16 := by rw [← o4.toBs.len]; exact HZL.out
              subst hm4
              have g4 : Grows W u4 := Grows.trans g3 k4
              go_wp2_with fail
              refine (CO.out u4 r _ _ _ (hG.below k4) (s1.grows g4) (s2.grows g4) o4.toBs).mono ?_
              rintro e u5 ⟨p5, m5, x5, rfl, o5, k5⟩
              have g5 : Grows W u5 := Grows.trans g4 k5
              have G5 := hG.below (Grows.trans k4 k5)
              go_wp2_with fail
              refine (sameT u5 o5.toBs (s3.grows g5)).mono ?_
              rintro e u6 ⟨rfl, k6⟩
              have g6 : Grows W u6 := Grows.trans g5 k6
              have G6 := G5.below k6
              go_wp2_with fail
              refine (CP.out u6 r _ G6 (s1.grows g6) (s2.grows g6) (s4.grows g6)).mono ?_
              intro e u7 h
              unfold OpensC at h
              rw [if_neg (by decide)] at h
              obtain ⟨rfl, k7⟩ := h
              go_wp2_with fail
              refine (lWorksG u7).mono ?_
              rintro e u8 ⟨rfl, k8⟩
              go_wp2
              go_ret
              have gl := Grows.trans g6 (Grows.trans k7 k8)
              exact ⟨rfl, qW.trans (Below.mono gl qW.size)⟩
          · go_enter Try.func5, Try.ntmps5
            go_wp2_with fail
            obtain ⟨W, hW⟩ : ∃ W, W = w.alloc (.cells (cs l1).toArray 41) := ⟨_, rfl⟩
            rw [← hW]
            have d0 : Blk W w.heap.size (cs l1) 41 := by rw [hW]; exact Blk.new w _ _
            have qW : Below w.heap.size w W := by rw [hW]; exact below_alloc w _
            clear hW
            have s1 : Bs W (some ⟨w.heap.size, 0, none⟩) 12 12 l1 := by
              have := Bs.of_range d0.whole (c := 12) (by rw [HL1.out]; omega) (by omega)
              rw [HL1.out] at this
              exact this
            have s0 := w0.below qW (Nat.le_refl _)
            have s2 := w2.below qW (Nat.le_refl _)
            have s3 := w3.below qW (Nat.le_refl _)
            have s4 := w4.below qW (Nat.le_refl _)
            refine (oBuild W).mono ?_
            rintro e u1 ⟨g, rfl, hg, bT, k1⟩
            have gw1 : Grows W u1 := k1
            go_wp2_with fail
            refine (CK.out u1 (s0.grows gw1)).mono ?_
            rintro e u2 ⟨p2, m2, x2, rfl, o2, k2⟩
            have hm2 : m2 = 32 := by rw [← o2.toBs.len]; exact HK32.out
            subst hm2
            go_wp2_with fail
            refine (CN.out u2 g _ _ (bT.tab.below k2 bT.lt) o2.toBs).mono ?_
            rintro e u3 ⟨r, rfl, hG, k3⟩
            have g3 : Grows W u3 := Grows.trans gw1 (Grows.trans k2 k3)
            clear gw1 k1 k2 k3 o2 bT hg
            go_wp2_with fail
            refine (CS.out u3 r _ hG (s1.grows g3) (s2.grows g3) (s3.grows g3)).mono ?_
            rintro e u4 ⟨p4, m4, x4, rfl, o4, k4⟩
            have hm4 : m4 = len3 + 16 := by rw [← o4.toBs.len]; exact HZL.out
            subst hm4
            have g4 : Grows W u4 := Grows.trans g3 k4
            go_wp2_with fail
            refine (CO.out u4 r _ _ _ (hG.below k4) (s1.grows g4) (s2.grows g4) o4.toBs).mono ?_
            rintro e u5 ⟨p5, m5, x5, rfl, o5, k5⟩
            have g5 : Grows W u5 := Grows.trans g4 k5
            have G5 := hG.below (Grows.trans k4 k5)
            go_wp2_with fail
            refine (sameT u5 o5.toBs (s3.grows g5)).mono ?_
            rintro e u6 ⟨rfl, k6⟩
            have g6 : Grows W u6 := Grows.trans g5 k6
            have G6 := G5.below k6
            go_wp2_with fail
            refine (oGOpenShort u6 G6 (by omega)).mono ?_
            rintro e u7 ⟨rfl, k7⟩
            go_wp2_with fail
            refine (lWorksG u7).mono ?_
            rintro e u8 ⟨rfl, k8⟩
            go_wp2
            go_ret
            have gl := Grows.trans g6 (Grows.trans k7 k8)
            exact ⟨rfl, qW.trans (Below.mono gl qW.size)⟩
        · have hb4 : (200 : Int) < (len4 : Int) := by omega
          go_enter Try.func5, Try.ntmps5
          go_wp2_with fail
          have q0 : Below w.heap.size w _ := below_alloc w (.cells (cs l1).toArray 41)
          refine (lWorksG _).mono ?_
          rintro e wa ⟨rfl, hb⟩
          go_wp2
          go_ret
          exact ⟨rfl, q0.trans (hb.mono q0.size)⟩
      · have hb3 : (200 : Int) < (len3 : Int) := by omega
        go_enter Try.func5, Try.ntmps5
        go_wp2_with fail
        have q0 : Below w.heap.size w _ := below_alloc w (.cells (cs l1).toArray 41)
        refine (lWorksG _).mono ?_
        rintro e wa ⟨rfl, hb⟩
        go_wp2
        go_ret
        exact ⟨rfl, q0.trans (hb.mono q0.size)⟩
    · have hb2 : (200 : Int) < (len2 : Int) := by omega
      go_enter Try.func5, Try.ntmps5
      go_wp2_with fail
      have q0 : Below w.heap.size w _ := below_alloc w (.cells (cs l1).toArray 41)
      refine (lWorksG _).mono ?_
      rintro e wa ⟨rfl, hb⟩
      go_wp2
      go_ret
      exact ⟨rfl, q0.trans (hb.mono q0.size)⟩
  · have hb0 : (100 : Int) < (len0 : Int) := by omega
    go_enter Try.func5, Try.ntmps5
    go_wp2_with fail
    have q0 : Below w.heap.size w _ := below_alloc w (.cells (cs l1).toArray 41)
    refine (lWorksG _).mono ?_
    rintro e wa ⟨rfl, hb⟩
    go_wp2
    go_ret
    exact ⟨rfl, q0.trans (hb.mono q0.size)⟩

set_option maxRecDepth 100000 in
theorem lifted (os : Os) (started : os.Started) (H : Type) (enc : TypeId × Value → H) :
    ReturnsInHanded {} Try.checked os 5 .any (Rows.gcmBackSpec.pre6 enc Try.prog Try.f5 Rows.gcmBackRow.domain false) (Rows.gcmBackSpec.post enc Try.prog Try.f5 false true false false) := by
  refine returnsInHanded_of_change (C := Try.checked) own started (by kernel_rfl) Try.func5
    (ChangeSpec.witness6 (enc := enc) (C := Try.checked) false ⟨#[], #[.slice none 0 0, .agg #[.int .u8 0, .int .u8 0, .int .u8 0, .int .u8 0, .int .u8 0, .int .u8 0, .int .u8 0, .int .u8 0, .int .u8 0, .int .u8 0, .int .u8 0, .int .u8 0], .slice none 0 0, .slice none 0 0, .slice none 0 0], []⟩ 8 (by kernel_rfl) (by kernel_rfl) (by kernel_rfl) (by kernel_rfl)) ?_
  intro W base args ds gs before hval0 hW hcnd _
  have hval : ∀ (j : Nat) t v, Try.f5.params[j]? = some t → args[j]? = some v → Value.okWide Try.prog W .any base t v := hval0
  have hW' := hW
  obtain ⟨p, q, hA0, hV, rfl, hfz, hnd⟩ := hW
  have hA : DataW.TrodAll enc Try.prog W 0 (fun _ => true) true Try.f5.params.toList args.toList ds p := hA0
  rw [Try.params5] at hA hval
  obtain ⟨v0, vs0, d0, ds0, p0, q0, hargs, rfl, rfl, h0, r0⟩ := trodAll_cons hA
  obtain ⟨v1, vs1, d1, ds1, p1, q1, rfl, rfl, rfl, h1, r1⟩ := trodAll_cons r0
  obtain ⟨v2, vs2, d2, ds2, p2, q2, rfl, rfl, rfl, h2, r2⟩ := trodAll_cons r1
  obtain ⟨v3, vs3, d3, ds3, p3, q3, rfl, rfl, rfl, h3, r3⟩ := trodAll_cons r2
  obtain ⟨v4, vs4, d4, ds4, p4, q4, rfl, rfl, rfl, h4, r4⟩ := trodAll_cons r3
  obtain ⟨rfl, rfl, rfl⟩ := trodAll_nil r4
  obtain rfl : args = #[v0, v1, v2, v3, v4] := by cases args; simp_all
  obtain ⟨rfl, rfl⟩ := trodVars_none hV
  obtain ⟨a0, len0, cap0, rfl⟩ := okWide_slice Try.underlying22 (hval 0 22 v0 rfl rfl)
  have k0 := h0
  have lt0 : ∀ x ∈ p0, x.block < W.heap.size := by obtain ⟨m, hm⟩ := k0; exact DataW.trod_lt m _ _ _ hm
  obtain ⟨l0, w0⟩ : ∃ l, Bs W a0 len0 cap0 l := by
    obtain ⟨fuel, hf⟩ := h0
    exact Bs.of_trod hf
  obtain ⟨x1, rfl, z1⟩ := okWide_arr12 (hval 1 41 v1 rfl rfl)
  have k1 := h1
  have lt1 : ∀ x ∈ p1, x.block < W.heap.size := by obtain ⟨m, hm⟩ := k1; exact DataW.trod_lt m _ _ _ hm
  obtain ⟨l1, rfl, w1⟩ : ∃ l : List UInt8, x1 = (cs l).toArray ∧ l.length = 12 := by
    obtain ⟨fuel, hf⟩ := h1
    exact arr12_of_trod z1 hf
  obtain ⟨a2, len2, cap2, rfl⟩ := okWide_slice Try.underlying22 (hval 2 22 v2 rfl rfl)
  have k2 := h2
  have lt2 : ∀ x ∈ p2, x.block < W.heap.size := by obtain ⟨m, hm⟩ := k2; exact DataW.trod_lt m _ _ _ hm
  obtain ⟨l2, w2⟩ : ∃ l, Bs W a2 len2 cap2 l := by
    obtain ⟨fuel, hf⟩ := h2
    exact Bs.of_trod hf
  obtain ⟨a3, len3, cap3, rfl⟩ := okWide_slice Try.underlying22 (hval 3 22 v3 rfl rfl)
  have k3 := h3
  have lt3 : ∀ x ∈ p3, x.block < W.heap.size := by obtain ⟨m, hm⟩ := k3; exact DataW.trod_lt m _ _ _ hm
  obtain ⟨l3, w3⟩ : ∃ l, Bs W a3 len3 cap3 l := by
    obtain ⟨fuel, hf⟩ := h3
    exact Bs.of_trod hf
  obtain ⟨a4, len4, cap4, rfl⟩ := okWide_slice Try.underlying22 (hval 4 22 v4 rfl rfl)
  have k4 := h4
  have lt4 : ∀ x ∈ p4, x.block < W.heap.size := by obtain ⟨m, hm⟩ := k4; exact DataW.trod_lt m _ _ _ hm
  obtain ⟨l4, w4⟩ : ∃ l, Bs W a4 len4 cap4 l := by
    obtain ⟨fuel, hf⟩ := h4
    exact Bs.of_trod hf
  clear hA0 hval0
  refine (walk a0 len0 cap0 l0 l1 a2 len2 cap2 l2 a3 len3 cap3 l3 a4 len4 cap4 l4 W w0 w1 w2 w3 w4).mono fun e W' ⟨he, bel⟩ => ?_
  subst he
  exact ⟨_, rfl, _, _, _, [], _, [], hW', trodAll_mk1 (shut_bool Try.underlying4 _), (trodAll_cons_mk (Below.trod laidOut (by kernel_rfl) (of_decide_eq_true (by kernel_rfl)) k0 bel lt0) (trodAll_cons_mk (Below.trod laidOut (by kernel_rfl) (of_decide_eq_true (by kernel_rfl)) k1 bel lt1) (trodAll_cons_mk (Below.trod laidOut (by kernel_rfl) (of_decide_eq_true (by kernel_rfl)) k2 bel lt2) (trodAll_cons_mk (Below.trod laidOut (by kernel_rfl) (of_decide_eq_true (by kernel_rfl)) k3 bel lt3) (trodAll_cons_mk (Below.trod laidOut (by kernel_rfl) (of_decide_eq_true (by kernel_rfl)) k4 bel lt4) trodAll_mk0))))), rfl, bel.frame _, fun h => by cases h⟩

theorem over : Rows.gcmBackRow.holds Try.pinned (OpenSpec.ofChange Rows.gcmBackSpec) :=
  OpenClaim.holds_of_wide 5 Try.f5 rfl rfl rfl rfl rfl rfl rfl ⟨rfl, rfl, rfl, rfl, rfl⟩ rfl rfl rfl rfl rfl (by kernel_rfl) Try.func5 (by kernel_rfl)
    (of_decide_eq_true (by kernel_rfl)) (by unfold Func.isWrapper; first | (rw [if_pos (by decide +kernel)]; kernel_rfl) | (rw [if_neg (by decide +kernel)]; exact ⟨rfl, rfl⟩))
    (fun os started H enc _ => lifted os started H enc)
end GcmBackLaw

/-- The statement. -/
theorem gcmBack_holds : Rows.GcmBackSaid := GcmBackLaw.over
#print axioms gcmBack_holds
end Go.Proofs.Ytbgdckhadfcnbaa
