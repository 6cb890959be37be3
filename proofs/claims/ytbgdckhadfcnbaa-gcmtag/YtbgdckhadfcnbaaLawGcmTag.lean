/-
  Proved: for any rows of bytes, any twelve bytes and any byte the statement GcmTag of layer 6 answers true and leaves its arguments as they were. Conditions beside the statement's own: none.
-/
import Derived.Test.YtbgdckhadfcnbaaRows
import Derived.Test.YtbgdckhadfcnbaaG13
import Derived.Below
import Derived.ChangeOld
namespace Go.Proofs.Ytbgdckhadfcnbaa
namespace GcmTagLaw
open Go.ChangeShapes Go.WideShapes Go.ChangeAt Go.RowKit
open Go.ChangeMaps (open_string shut_string)
set_option linter.unusedVariables false

theorem own : ownKnob Try.prog.godebug = none := by kernel_rfl
theorem laidOut : laidOutB Try.prog = true := by kernel_rfl

set_option maxRecDepth 100000 in
set_option maxHeartbeats 4000000 in
theorem walk (a0 : Option Addr) (len0 cap0 : Nat) (l0 : List UInt8) (l1 : List UInt8) (a2 : Option Addr) (len2 cap2 : Nat) (l2 : List UInt8) (a3 : Option Addr) (len3 cap3 : Nat) (l3 : List UInt8) (a4 : Int) (w : World) (w0 : Bs w a0 len0 cap0 l0) (w1 : l1.length = 12) (w2 : Bs w a2 len2 cap2 l2) (w3 : Bs w a3 len3 cap3 l3) (w4 : (Lit.int .u8 a4).wf = true) :
    Calls Try.prog 6 #[.slice a0 len0 cap0, .agg (cs l1).toArray, .slice a2 len2 cap2, .slice a3 len3 cap3, .int .u8 a4] w fun e w' => e = .returned (.bool true) ∧ Below w.heap.size w w' := by
  by_cases h0 : len0 ≤ 100
  · have hb0 : (len0 : Int) ≤ 100 := by omega
    by_cases h2 : len2 ≤ 200
    · have hb2 : (len2 : Int) ≤ 200 := by omega
      by_cases h3 : len3 ≤ 200
      · have hb3 : (len3 : Int) ≤ 200 := by omega
        have HKL : Hid ((keyF (k32 l0)).length = 240) := keyF_length (k32_length l0)
        have CK : Hid (∀ (w : World), Bs w a0 len0 cap0 l0 → Calls Try.prog 10 #[.slice a0 len0 cap0] w (Gives w (k32 l0))) := fun w h => lKey32 w h h0
        have CN : Hid (∀ (w : World) (g : Nat) (a : Option Addr) (c : Nat), Tab w g → Bs w a 32 c (k32 l0) → Calls Try.prog 8 #[.pointer (some ⟨g, 0, none⟩), .slice a 32 c] w fun e w' => ∃ r, e = .returned (.tuple #[.pointer (some ⟨r, 0, none⟩), .int .i64 0]) ∧ Gc w' r (keyF (k32 l0)) ∧ Below w.heap.size w w') := fun w g a c h h2 => oGNew w g h h2
        have CR : Hid (∀ (w : World) (a : Option Addr) (c : Nat), Bs w a 32 c (k32 l0) → Calls Try.prog 13 #[.slice a 32 c] w (HasK w (keyF (k32 l0)))) := fun w a c h => rNewK w h
        have HK32 : Hid ((k32 l0).length = 32) := k32_length l0
        generalize keyF (k32 l0) = K at *
        generalize k32 l0 = KK at *
        have hall := allL
        have HL1 : Hid (l1.length = 12) := w1
        clear w1
        have hbit := bounds_u8 w4
        obtain ⟨kk, hkk⟩ : ∃ kk : Nat, kk = a4.toNat % 128 := ⟨_, rfl⟩
        have n1 : a4.tmod 128 = (kk : Int) := by rw [Int.tmod_eq_emod_of_nonneg (by omega)]; omega
        have n2 : a4 % 128 = (kk : Int) := by omega
        have n3 : IntKind.i64.wrap a4 = a4 := by rw [IntKind.wrap_i64]; omega
        have n4 : IntKind.i64.wrap (kk : Int) = (kk : Int) := by rw [IntKind.wrap_i64]; omega
        obtain ⟨q, hq⟩ : ∃ q, q = kk / 8 := ⟨_, rfl⟩
        obtain ⟨s, hs⟩ : ∃ s, s = kk % 8 := ⟨_, rfl⟩
        have hq16 : q < 16 := by omega
        have hs8 : s < 8 := by omega
        have n5 : (kk : Int).tdiv 8 = (q : Int) := by rw [quo8, hq]
        have n6 : (kk : Int) / 8 = (q : Int) := by omega
        have n7 : (kk : Int).tmod 8 = (s : Int) := by rw [rem8, hs]
        have n8 : (kk : Int) % 8 = (s : Int) := by omega
        have n9 : IntKind.i64.wrap (s : Int) = (s : Int) := by rw [IntKind.wrap_i64]; omega
        have na : IntKind.i64.wrap (q : Int) = (q : Int) := by rw [IntKind.wrap_i64]; omega
        have nb : (0 : Int) ≤ (s : Int) := by omega
        obtain ⟨p, hp⟩ : ∃ p, p = len3 + q := ⟨_, rfl⟩
        have nc : (len3 : Int) + (q : Int) = (p : Int) := by omega
        have nd : (0 : Int) ≤ (p : Int) := by omega
        have ne : (p : Int) < (len3 : Int) + 16 := by omega
        have nf : ¬ (len3 : Int) + 16 < 16 := by omega
        have ng : (len3 : Int) + 16 - 16 = (len3 : Int) := by omega
        have nh : (len3 : Int) + 16 - 15 = (len3 : Int) + 1 := by omega
        have ni : IntKind.i64.wrap ((len3 : Int) + 1) = (len3 : Int) + 1 := by rw [IntKind.wrap_i64]; omega
        have HZL : Hid ((sealL K l1 l2 l3).length = len3 + 16) := by show _ = _; rw [sealL_length HKL.out HL1.out, w3.len]
        have CS : Hid (∀ (w : World) (r : Nat) (p : Option Addr), Gc w r K → Bs w p 12 12 l1 → Bs w a2 len2 cap2 l2 → Bs w a3 len3 cap3 l3 → Calls Try.prog 11 #[.pointer (some ⟨r, 0, none⟩), .slice p 12 12, .slice a2 len2 cap2, .slice a3 len3 cap3] w (GivesC w (sealL K l1 l2 l3))) := fun w r p hG x1 x2 x3 => oGSeal w hG HKL.out x1 x2 x3 (by omega) (by omega)
        have CO : Hid (∀ (w : World) (r : Nat) (p' q' : Option Addr) (c : Nat), Gc w r K → Bs w p' 12 12 l1 → Bs w a2 len2 cap2 l2 → Bs w q' (len3 + 16) c ((sealL K l1 l2 l3).set p ((sealL K l1 l2 l3).getD p 0 ^^^ (1 <<< UInt8.ofNat s))) → Calls Try.prog 15 #[.pointer (some ⟨r, 0, none⟩), .slice p' 12 12, .slice a2 len2 cap2, .slice q' (len3 + 16) c] w fun e w' => e = .returned (.tuple #[.slice none 0 0, .int .i64 6]) ∧ Below w.heap.size w w') := fun w r p' q' c hG x1 x2 x3 => by
          have := oGOpen w hG HKL.out x1 x2 x3 (by omega) (by omega) (by omega)
          rw [Nat.add_sub_cancel, hp, bit_told HKL.out HL1.out w3.len hq16 (one_shl hs8)] at this
          refine this.mono fun e w' h => ?_
          unfold OpensC at h
          rw [if_neg (by decide)] at h
          exact h
        have p1 := pow_byte (s := s) hs8
        have p2 := shl_one (s := s) hs8
        have p3 : (2 : Int) ^ s % 256 = ((1 <<< UInt8.ofNat s : UInt8).toNat : Int) := by rw [Int.one_mul] at p2; exact p2
        generalize (1 <<< UInt8.ofNat s : UInt8) = z at *
        generalize sealL K l1 l2 l3 = Z at *
        clear hkk hq hs hp
        go_enter Try.func6, Try.ntmps6
        go_wp2_with fail
        obtain ⟨W, hW⟩ : ∃ W, W = w.alloc (.cells (cs l1).toArray 41) := ⟨_, rfl⟩
        rw [← hW]
        have d0 : Blk W w.heap.size (cs l1) 41 := by rw [hW]; exact Blk.new w _ _
        have qW : Below w.heap.size w W := by rw [hW]; exact below_alloc w _
        clear hW
        have s1 : Bs W (some ⟨w.heap.size, 0, none⟩) 12 12 l1 := by
          have := Bs.of_range d0.whole (c := 12) (by rw [HL1.out]; omega) (by omega)
          rw [HL1.out] at this
          exact this
        have s0 := w0.below qW (Nat.le_refl _)
        have s2 := w2.below qW (Nat.le_refl _)
        have s3 := w3.below qW (Nat.le_refl _)
        refine (oBuild W).mono ?_
        rintro e u1 ⟨g, rfl, hg, bT, k1⟩
        have gw1 : Grows W u1 := k1
        go_wp2_with fail
        refine (CK.out u1 (s0.grows gw1)).mono ?_
        rintro e u2 ⟨p2, m2, x2, rfl, o2, k2⟩
        have hm2 : m2 = 32 := by rw [← o2.toBs.len]; exact HK32.out
        subst hm2
        go_wp2_with fail
        refine (CN.out u2 g _ _ (bT.tab.below k2 bT.lt) o2.toBs).mono ?_
        rintro e u3 ⟨r, rfl, hG, k3⟩
        have g3 : Grows W u3 := Grows.trans gw1 (Grows.trans k2 k3)
        clear gw1 k1 k2 k3 o2 bT hg
        go_wp2_with fail
        refine (CS.out u3 r _ hG (s1.grows g3) (s2.grows g3) (s3.grows g3)).mono ?_
        rintro e u4 ⟨p4, m4, x4, rfl, o4, k4⟩
        have hm4 : m4 = len3 + 16 := by rw [← o4.toBs.len]; exact HZL.out
        subst hm4
        obtain ⟨a', m', c', eq4, hsh⟩ := o4.shape
        simp only [Value.slice.injEq] at eq4
        obtain ⟨rfl, rfl, rfl⟩ := eq4
        obtain ⟨g4, rfl⟩ : ∃ g4, p4 = some ⟨g4, 0, none⟩ := by
          rcases hsh with e | h
          · subst e
            have := o4.toBs.2.2.2.1 rfl
            have := o4.toBs.cap
            omega
          · exact h
        have hg4 : u3.heap.size ≤ g4 := (World.ownsRow.lt o4 g4 rfl).1
        have g4w : Grows W u4 := Grows.trans g3 k4
        have c1 : u4.cell? ⟨g4, p, none⟩ = some (.int .u8 ((Z.getD p 0).toNat : Int)) := by
          obtain ⟨_, _, ex, hc⟩ := o4.toBs.2.2.2.2 p (by omega)
          simp only [Option.some.injEq, Addr.mk.injEq, and_true] at ex
          obtain ⟨rfl, rfl⟩ := ex
          rw [Nat.zero_add] at hc
          exact hc
        have f1 := o4.free HZL.out p
        have o5 := o4.set HZL.out p (Z.getD p 0 ^^^ z)
        have px := xor_u8 (Z.getD p 0) z
        generalize Z.getD p 0 ^^^ z = yz at *
        generalize Z.getD p 0 = y at *
        obtain ⟨V, hV⟩ : ∃ V, V = u4.setCell ⟨g4, p, none⟩ (.int .u8 (yz.toNat : Int)) := ⟨_, rfl⟩
        rw [← hV] at o5
        have hB3 : Below u3.heap.size u3 V := by rw [hV]; exact Below.setCell k4 (p := ⟨g4, p, none⟩) hg4 _
        have HV : Hid (V.drew = (u4.setCell ⟨g4, p, none⟩ (.int .u8 (yz.toNat : Int))).drew) := by show _ = _; rw [hV]
        clear hV hsh
        have gV : Grows W V.drew := (Below.trans g3 (Below.mono hB3 (Below.size g3))).drew
        have GV : Gc V.drew r K := hG.below hB3.drew
        have o6 : Bs V.drew (some ⟨g4, 0, none⟩) (len3 + 16) x4 (Z.set p yz) := o5.toBs.drew
        obtain ⟨pl, xl, hlo, hlB, _⟩ := o6.cutLow (len3 + 1) (by omega)
        have o7 := hlB V.drew o6
        have hne : len3 + 16 - (len3 + 1) = 15 := by omega
        rw [hne] at hlo o7
        rw [show ((len3 + 1 : Nat) : Int) = (len3 : Int) + 1 from by omega] at hlo
        go_wp2_with fail
        go_region
        rw [← HV.out]
        go_wp2_with fail
        refine (CO.out V.drew r _ _ _ GV (s1.grows gV) (s2.grows gV) o6).mono ?_
        rintro e u6 ⟨rfl, k6⟩
        have G6 := GV.below k6
        have g6 : Grows W u6 := Grows.trans gV k6
        go_wp2_with fail
        go_region_with (go_at_call 15; go_must (refine (oGOpenShort u6.drew (G6.below (Below.refl _ u6).drew) (by omega)).mono ?_); rintro e u7 ⟨rfl, k7⟩)
        all_goals
          go_wp2_with fail
          refine (lWorksG u7).mono ?_
          rintro e u8 ⟨rfl, k8⟩
          go_wp2
          go_ret
          have gl : Grows W u8 := Grows.trans g6 (Grows.trans (Below.trans (Below.refl _ u6).drew k7) k8)
          exact ⟨rfl, qW.trans (Below.mono gl qW.size)⟩
      · have hb3 : (200 : Int) < (len3 : Int) := by omega
        go_enter Try.func6, Try.ntmps6
        go_wp2_with fail
        have q0 : Below w.heap.size w _ := below_alloc w (.cells (cs l1).toArray 41)
        refine (lWorksG _).mono ?_
        rintro e wa ⟨rfl, hb⟩
        go_wp2
        go_ret
        exact ⟨rfl, q0.trans (hb.mono q0.size)⟩
    · have hb2 : (200 : Int) < (len2 : Int) := by omega
      go_enter Try.func6, Try.ntmps6
      go_wp2_with fail
      have q0 : Below w.heap.size w _ := below_alloc w (.cells (cs l1).toArray 41)
      refine (lWorksG _).mono ?_
      rintro e wa ⟨rfl, hb⟩
      go_wp2
      go_ret
      exact ⟨rfl, q0.trans (hb.mono q0.size)⟩
  · have hb0 : (100 : Int) < (len0 : Int) := by omega
    go_enter Try.func6, Try.ntmps6
    go_wp2_with fail
    have q0 : Below w.heap.size w _ := below_alloc w (.cells (cs l1).toArray 41)
    refine (lWorksG _).mono ?_
    rintro e wa ⟨rfl, hb⟩
    go_wp2
    go_ret
    exact ⟨rfl, q0.trans (hb.mono q0.size)⟩

set_option maxRecDepth 100000 in
theorem lifted (os : Os) (started : os.Started) (H : Type) (enc : TypeId × Value → H) :
    ReturnsInHanded {} Try.checked os 6 .any (Rows.gcmTagSpec.pre6 enc Try.prog Try.f6 Rows.gcmTagRow.domain false) (Rows.gcmTagSpec.post enc Try.prog Try.f6 false true false false) := by
  refine returnsInHanded_of_change (C := Try.checked) own started (by kernel_rfl) Try.func6
    (ChangeSpec.witness6 (enc := enc) (C := Try.checked) false ⟨#[], #[.slice none 0 0, .agg #[.int .u8 0, .int .u8 0, .int .u8 0, .int .u8 0, .int .u8 0, .int .u8 0, .int .u8 0, .int .u8 0, .int .u8 0, .int .u8 0, .int .u8 0, .int .u8 0], .slice none 0 0, .slice none 0 0, .int .u8 0], []⟩ 8 (by kernel_rfl) (by kernel_rfl) (by kernel_rfl) (by kernel_rfl)) ?_
  intro W base args ds gs before hval0 hW hcnd _
  have hval : ∀ (j : Nat) t v, Try.f6.params[j]? = some t → args[j]? = some v → Value.okWide Try.prog W .any base t v := hval0
  have hW' := hW
  obtain ⟨p, q, hA0, hV, rfl, hfz, hnd⟩ := hW
  have hA : DataW.TrodAll enc Try.prog W 0 (fun _ => true) true Try.f6.params.toList args.toList ds p := hA0
  rw [Try.params6] at hA hval
  obtain ⟨v0, vs0, d0, ds0, p0, q0, hargs, rfl, rfl, h0, r0⟩ := trodAll_cons hA
  obtain ⟨v1, vs1, d1, ds1, p1, q1, rfl, rfl, rfl, h1, r1⟩ := trodAll_cons r0
  obtain ⟨v2, vs2, d2, ds2, p2, q2, rfl, rfl, rfl, h2, r2⟩ := trodAll_cons r1
  obtain ⟨v3, vs3, d3, ds3, p3, q3, rfl, rfl, rfl, h3, r3⟩ := trodAll_cons r2
  obtain ⟨v4, vs4, d4, ds4, p4, q4, rfl, rfl, rfl, h4, r4⟩ := trodAll_cons r3
  obtain ⟨rfl, rfl, rfl⟩ := trodAll_nil r4
  obtain rfl : args = #[v0, v1, v2, v3, v4] := by cases args; simp_all
  obtain ⟨rfl, rfl⟩ := trodVars_none hV
  obtain ⟨a0, len0, cap0, rfl⟩ := okWide_slice Try.underlying22 (hval 0 22 v0 rfl rfl)
  have k0 := h0
  have lt0 : ∀ x ∈ p0, x.block < W.heap.size := by obtain ⟨m, hm⟩ := k0; exact DataW.trod_lt m _ _ _ hm
  obtain ⟨l0, w0⟩ : ∃ l, Bs W a0 len0 cap0 l := by
    obtain ⟨fuel, hf⟩ := h0
    exact Bs.of_trod hf
  obtain ⟨x1, rfl, z1⟩ := okWide_arr12 (hval 1 41 v1 rfl rfl)
  have k1 := h1
  have lt1 : ∀ x ∈ p1, x.block < W.heap.size := by obtain ⟨m, hm⟩ := k1; exact DataW.trod_lt m _ _ _ hm
  obtain ⟨l1, rfl, w1⟩ : ∃ l : List UInt8, x1 = (cs l).toArray ∧ l.length = 12 := by
    obtain ⟨fuel, hf⟩ := h1
    exact arr12_of_trod z1 hf
  obtain ⟨a2, len2, cap2, rfl⟩ := okWide_slice Try.underlying22 (hval 2 22 v2 rfl rfl)
  have k2 := h2
  have lt2 : ∀ x ∈ p2, x.block < W.heap.size := by obtain ⟨m, hm⟩ := k2; exact DataW.trod_lt m _ _ _ hm
  obtain ⟨l2, w2⟩ : ∃ l, Bs W a2 len2 cap2 l := by
    obtain ⟨fuel, hf⟩ := h2
    exact Bs.of_trod hf
  obtain ⟨a3, len3, cap3, rfl⟩ := okWide_slice Try.underlying22 (hval 3 22 v3 rfl rfl)
  have k3 := h3
  have lt3 : ∀ x ∈ p3, x.block < W.heap.size := by obtain ⟨m, hm⟩ := k3; exact DataW.trod_lt m _ _ _ hm
  obtain ⟨l3, w3⟩ : ∃ l, Bs W a3 len3 cap3 l := by
    obtain ⟨fuel, hf⟩ := h3
    exact Bs.of_trod hf
  obtain ⟨a4, rfl, rfl, rfl, w4⟩ := open_int Try.underlying5 (hval 4 5 v4 rfl rfl) h4
  clear hA0 hval0
  refine (walk a0 len0 cap0 l0 l1 a2 len2 cap2 l2 a3 len3 cap3 l3 a4 W w0 w1 w2 w3 w4).mono fun e W' ⟨he, bel⟩ => ?_
  subst he
  exact ⟨_, rfl, _, _, _, [], _, [], hW', trodAll_mk1 (shut_bool Try.underlying4 _), (trodAll_cons_mk (Below.trod laidOut (by kernel_rfl) (of_decide_eq_true (by kernel_rfl)) k0 bel lt0) (trodAll_cons_mk (Below.trod laidOut (by kernel_rfl) (of_decide_eq_true (by kernel_rfl)) k1 bel lt1) (trodAll_cons_mk (Below.trod laidOut (by kernel_rfl) (of_decide_eq_true (by kernel_rfl)) k2 bel lt2) (trodAll_cons_mk (Below.trod laidOut (by kernel_rfl) (of_decide_eq_true (by kernel_rfl)) k3 bel lt3) (trodAll_cons_mk (shut_int Try.underlying5 w4) trodAll_mk0))))), rfl, bel.frame _, fun h => by cases h⟩

theorem over : Rows.gcmTagRow.holds Try.pinned (OpenSpec.ofChange Rows.gcmTagSpec) :=
  OpenClaim.holds_of_wide 6 Try.f6 rfl rfl rfl rfl rfl rfl rfl ⟨rfl, rfl, rfl, rfl, rfl⟩ rfl rfl rfl rfl rfl (by kernel_rfl) Try.func6 (by kernel_rfl)
    (of_decide_eq_true (by kernel_rfl)) (by unfold Func.isWrapper; first | (rw [if_pos (by decide +kernel)]; kernel_rfl) | (rw [if_neg (by decide +kernel)]; exact ⟨rfl, rfl⟩))
    (fun os started H enc _ => lifted os started H enc)
end GcmTagLaw

/-- The statement. -/
theorem gcmTag_holds : Rows.GcmTagSaid := GcmTagLaw.over
#print axioms gcmTag_holds
end Go.Proofs.Ytbgdckhadfcnbaa
