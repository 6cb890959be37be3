/-
  Proved: for any two anchors and any bytes the statement AnchorPuts of layer 14 answers true and leaves its arguments as they were. Conditions beside the statement's own: none.
-/
import Derived.Test.YtbifikeecmaakaaRows
import Derived.Test.YtbifikeecmaakaaG37
import Derived.Below
import Derived.Deep.DeepCutAuto
import Derived.Deep.CutBlock
import Derived.ChangeOld
namespace Go.Proofs.Ytbifikeecmaakaa
namespace AnchorPutsLaw
open Go.ChangeShapes Go.WideShapes Go.ChangeAt Go.RowKit
open Go.ChangeMaps (open_string shut_string)
set_option linter.unusedVariables false

theorem own : ownKnob Try.prog.godebug = none := by kernel_rfl
theorem laidOut : laidOutB Try.prog = true := by kernel_rfl

set_option maxRecDepth 100000 in
set_option maxHeartbeats 4000000 in
theorem walk (a0 : AncS) (p0_ q0_ : Tri) (a1 : AncS) (p1_ q1_ : Tri) (a2 : Option Addr) (len2 cap2 : Nat) (l2 : List UInt8) (w : World) (w0 : AncIn w a0 p0_ q0_) (w1 : AncIn w a1 p1_ q1_) (w2 : Bs w a2 len2 cap2 l2) :
    Calls Try.prog 3 #[.agg (anc a0 p0_ q0_).toArray, .agg (anc a1 p1_ q1_).toArray, .slice a2 len2 cap2] w fun e w' => e = .returned (.bool true) ∧ Below w.heap.size w w' := by
  have HA0 : Hid (Anc (fun i => i < w.heap.size) w a0 p0_ q0_) := w0
  have HA1 : Hid (Anc (fun i => i < w.heap.size) w a1 p1_ q1_) := w1
  have W2 : Hid (Bs w a2 len2 cap2 l2) := w2
  have hmx2 := w2.max
  have CW : Hid (∀ u, Below w.heap.size w u → Calls Try.prog 8 #[] u fun e w' => e = .returned (.bool true) ∧ Below w.heap.size w w') := fun u hu => (lWorks14 u).mono (by rintro e w' ⟨rfl, h⟩; exact ⟨rfl, hu.trans (h.mono hu.size)⟩)
  clear w0 w1 w2
  obtain ⟨V, hV⟩ : ∃ V, V = (w.alloc (.cells (anc a0 p0_ q0_).toArray 25)).alloc (.cells (anc a1 p1_ q1_).toArray 25) := ⟨_, rfl⟩
  obtain ⟨e3, he3⟩ : ∃ e, e = w.heap.size := ⟨_, rfl⟩
  obtain ⟨e4, he4⟩ : ∃ e, e = w.heap.size + 1 := ⟨_, rfl⟩
  have z3 : Blk V e3 (anc a0 p0_ q0_) 25 := by rw [hV]; exact (Blk.newAt w _ _ e3 he3.symm _ rfl).old _
  have z4 : Blk V e4 (anc a1 p1_ q1_) 25 := by rw [hV]; exact Blk.newAt (w.alloc _) _ _ e4 (by rw [he4]; simp) _ rfl
  have kV : Below w.heap.size w V := by rw [hV]; exact below2 _ _ _
  go_enter Try.func3, Try.ntmps3
  go_upto_region 1 with fail
  rw [← hV, ← he4, ← he3]
  clear hV he3 he4
  go_wp2_with ((with_reducible refine at_ld 25 ?_); (refine ld 25 (.tmp 3) 8 sizeAn _ Try.underlying25 rfl e3 0 (anc a0 p0_ q0_) rfl (z3.whole) rfl ?_))
  refine (lLight14 V (HA0.out.below kV)).mono ?_
  rintro e u1 ⟨v1, rfl, hv1, hbu1⟩
  have ku1 : Below w.heap.size w u1 := kV.trans (hbu1.mono kV.size)
  have z31 := z3.below hbu1 z3.lt
  have z41 := z4.below hbu1 z4.lt
  clear z3 z4 kV hbu1
  cases v1 with
  | false =>
    clear hv1
    go_wp2_with fail
    refine (CW.out u1 ku1).mono ?_
    rintro e ww ⟨rfl, hbw⟩
    go_wp2_with fail
    go_ret
    exact ⟨rfl, hbw⟩
  | true =>
    have HOL : Hid (okL a0) := hv1 rfl
    clear hv1
    go_wp2_with ((with_reducible refine at_ldg 25 ?_); (refine ldg 25 (.tmp 4) 8 (by rfl) sizeAn _ Try.underlying25 rfl e4 0 (anc a1 p1_ q1_) rfl (z41.whole) rfl ?_))
    refine (lLight14 u1 (HA1.out.below ku1)).mono ?_
    rintro e v0 ⟨v2, rfl, -, hbv0⟩
    have kv0 : Below w.heap.size w v0 := ku1.trans (hbv0.mono ku1.size)
    have b3v := z31.below hbv0 z31.lt
    have b4v := z41.below hbv0 z41.lt
    clear z31 z41 ku1 hbv0
    cases v2 with
    | false =>
      go_wp2_with fail
      refine (CW.out v0 kv0).mono ?_
      rintro e ww ⟨rfl, hbw⟩
      go_wp2_with fail
      go_ret
      exact ⟨rfl, hbw⟩
    | true =>
      by_cases hlen : len2 ≤ 1100
      · have jl : ¬ (1100 : Int) < (len2 : Int) := by omega
        have CP1 : Hid (∀ u, Below v0.heap.size v0 u → Calls Try.prog 9 #[.agg (anc a0 p0_ q0_).toArray] u fun e w' => ∃ s m c, e = .returned (.tuple #[.slice s m c, .int .i64 (chkA a0)]) ∧ Own w' u.heap.size (.slice s m c) (if chkA a0 = 0 then ancL a0 else []) ∧ Below u.heap.size u w') := fun u hu => oPutA u (HA0.out.below (kv0.trans (hu.mono kv0.size)))
        have CP2 : Hid (∀ u, Below v0.heap.size v0 u → Calls Try.prog 10 #[.agg (anc a0 p0_ q0_).toArray] u fun e w' => ∃ s m c, e = .returned (.tuple #[.slice s m c, .int .i64 (chkA a0)]) ∧ Own w' u.heap.size (.slice s m c) (if chkA a0 = 0 then ancL a0 else []) ∧ Below u.heap.size u w') := fun u hu => rPutA u (HA0.out.below (kv0.trans (hu.mono kv0.size)))
        have CC1 : Hid (∀ u, Below v0.heap.size v0 u → Calls Try.prog 14 #[.agg (anc a0 p0_ q0_).toArray] u fun e w' => e = .returned (.int .i64 (chkA a0)) ∧ Below u.heap.size u w') := fun u hu => oCheckA u (HA0.out.below (kv0.trans (hu.mono kv0.size)))
        have CC2 : Hid (∀ u, Below v0.heap.size v0 u → Calls Try.prog 15 #[.agg (anc a0 p0_ q0_).toArray] u fun e w' => e = .returned (.int .i64 (chkA a0)) ∧ Below u.heap.size u w') := fun u hu => rCheckA u (HA0.out.below (kv0.trans (hu.mono kv0.size)))
        have CS2 : Hid (∀ u, Below v0.heap.size v0 u → Calls Try.prog 17 #[.agg (anc a0 p0_ q0_).toArray, .agg (anc a1 p1_ q1_).toArray] u fun e w' => e = .returned (.bool (sameA a0 a1)) ∧ Below u.heap.size u w') := fun u hu => oSameA u (HA0.out.below (kv0.trans (hu.mono kv0.size))) (HA1.out.below (kv0.trans (hu.mono kv0.size)))
        have CS3 : Hid (∀ u, Below v0.heap.size v0 u → Calls Try.prog 16 #[.agg (anc a0 p0_ q0_).toArray, .agg (anc a1 p1_ q1_).toArray] u fun e w' => e = .returned (.bool (sameA a0 a1)) ∧ Below u.heap.size u w') := fun u hu => rSameA u (HA0.out.below (kv0.trans (hu.mono kv0.size))) (HA1.out.below (kv0.trans (hu.mono kv0.size)))
        have CCp : Hid (∀ u, Below v0.heap.size v0 u → Calls Try.prog 18 #[.agg (anc a0 p0_ q0_).toArray] u fun e w' => ∃ p' q', e = .returned (anV a0 p' q') ∧ Anc (fun j => j < w.heap.size ∨ u.heap.size ≤ j) w' a0 p' q' ∧ Below u.heap.size u w') := fun u hu => oCopyA u (HA0.out.below (kv0.trans (hu.mono kv0.size))) (by rw [← HA0.out.ml]; have := HOL.out.1; omega) (by rw [← HA0.out.kl]; have := HOL.out.2.1; omega) (fun x hx => by have := HOL.out.2.2 x hx; omega)
        have HBK : Hid (∀ y, chkA a0 = 0 → getA (ancL a0 ++ y) = (a0, 0)) := fun y hc => getA_back hc y
        have HLE : Hid (chkA a0 = 0 → (ancL a0).length ≤ 665) := fun hc => ancL_le hc
        generalize sameA a0 a1 = sm at *
        generalize hcd0 : chkA a0 = cd at *
        clear hcd0
        generalize hAL : ancL a0 = al at *
        clear hAL
        go_wp2_with ((with_reducible refine at_ld 25 ?_); (refine ld 25 (.tmp 3) 8 sizeAn _ Try.underlying25 rfl e3 0 (anc a0 p0_ q0_) rfl (b3v.whole) rfl ?_))
        refine (CP1.out v0 (Below.refl _ _)).mono ?_
        rintro e y1 ⟨s1, n1, c1, rfl, ow1, hb1⟩
        have b31 := b3v.below hb1 b3v.lt
        go_wp2_with ((with_reducible refine at_ld 25 ?_); (refine ld 25 (.tmp 3) 8 sizeAn _ Try.underlying25 rfl e3 0 (anc a0 p0_ q0_) rfl (b31.whole) rfl ?_))
        refine (CP2.out y1 hb1).mono ?_
        rintro e y2 ⟨s2, n2, c2, rfl, ow2, hb2⟩
        have kb2 : Below v0.heap.size v0 y2 := hb1.trans (hb2.mono hb1.size)
        have B1 : Hid (Bs y2 s1 n1 c1 (if cd = 0 then al else [])) := ow1.toBs.below hb2 (Nat.le_refl _)
        have B2 : Hid (Bs y2 s2 n2 c2 (if cd = 0 then al else [])) := ow2.toBs
        clear CP1 CP2 ow1 ow2 b31
        have CG1 : Hid (Calls Try.prog 11 #[.slice a2 len2 cap2] y2 (GotA y2 (getA l2))) := oGetA y2 (W2.out.below (kv0.trans (kb2.mono kv0.size)) (Nat.le_refl _)) (by omega)
        have CG2 : Hid (∀ u, Below y2.heap.size y2 u → Calls Try.prog 12 #[.slice a2 len2 cap2] u (GotR (fun j => j < w.heap.size) u (getA l2))) := fun u hu => rGetA u (BAin W2.out ((kv0.trans (kb2.mono kv0.size)).trans (hu.mono (Nat.le_trans kv0.size kb2.size))))
        generalize getA l2 = gz at *
        obtain ⟨Z, gc⟩ := gz
        go_wp2_with fail
        refine CG1.out.mono ?_
        rintro e y3 ⟨pz, qz, rfl, anz, hb3⟩
        try dsimp only at anz
        try dsimp only
        obtain ⟨g11, hg11⟩ : ∃ g, g = y3.heap.size := ⟨_, rfl⟩
        have z11 : Blk (y3.alloc (.cells #[.int .i64 0, .int .i64 0, .int .i64 0, .int .i64 0, .int .i64 0, .int .i64 0, .slice none 0 0, .slice none 0 0] 25)) g11 zanc 25 := Blk.newAt y3 _ _ g11 hg11.symm _ rfl
        have k11 : Below y3.heap.size y3 (y3.alloc (.cells #[.int .i64 0, .int .i64 0, .int .i64 0, .int .i64 0, .int .i64 0, .int .i64 0, .slice none 0 0, .slice none 0 0] 25)) := below_alloc _ _
        unfold anV
        go_upto_region 6 with ((with_reducible refine at_st 25 ?_); (refine st' 25 (.tmp 11) (.tmp 44) 8 sizeAn y3.heap.size 0 (anc Z pz qz) rfl (anc_one _ _ _) (by rw [← hg11]; exact z11.there 0 8 (by simp [zanc])) rfl rfl ?_); intro y4 hy4; have b11_ : Blk y4 g11 (anc Z pz qz) 25 := (by rw [hy4, ← hg11]; exact z11.setsW _ rfl); have kb4 : Below y3.heap.size y3 y4 := (by rw [hy4]; exact below_sets (Nat.le_refl _) _ k11 0); clear hy4)
        rw [← hg11]
        have anz4 := anz.below kb4
        have k24 : Below y2.heap.size y2 y4 := hb3.trans (kb4.mono hb3.size)
        clear CG1 anz hb3 z11 k11 kb4 hg11
        go_wp2_with fail
        refine (CG2.out y4 k24).mono ?_
        rintro e y5 ⟨pr, qr, rfl, anr, hb5⟩
        try dsimp only at anr
        try dsimp only
        obtain ⟨g13, hg13⟩ : ∃ g, g = y5.heap.size := ⟨_, rfl⟩
        have z13 : Blk (y5.alloc (.cells #[.int .i64 0, .int .i64 0, .int .i64 0, .int .i64 0, .int .i64 0, .int .i64 0, .slice none 0 0, .slice none 0 0] 25)) g13 zanc 25 := Blk.newAt y5 _ _ g13 hg13.symm _ rfl
        have k13 : Below y5.heap.size y5 (y5.alloc (.cells #[.int .i64 0, .int .i64 0, .int .i64 0, .int .i64 0, .int .i64 0, .int .i64 0, .slice none 0 0, .slice none 0 0] 25)) := below_alloc _ _
        unfold anV
        go_upto_region 7 with ((with_reducible refine at_st 25 ?_); (refine st' 25 (.tmp 13) (.tmp 49) 8 sizeAn y5.heap.size 0 (anc Z pr qr) rfl (anc_one _ _ _) (by rw [← hg13]; exact z13.there 0 8 (by simp [zanc])) rfl rfl ?_); intro y6 hy6; have b13 : Blk y6 g13 (anc Z pr qr) 25 := (by rw [hy6, ← hg13]; exact z13.setsW _ rfl); have kb6 : Below y5.heap.size y5 y6 := (by rw [hy6]; exact below_sets (Nat.le_refl _) _ k13 0); clear hy6)
        rw [← hg13]
        have anr6 : Hid (Anc (fun j => j < w.heap.size ∨ y4.heap.size ≤ j) y6 Z pr qr) := anr.below kb6
        have k46 : Below y4.heap.size y4 y6 := hb5.trans (kb6.mono hb5.size)
        have anz6 : Hid (Anc (fun j => y2.heap.size ≤ j) y6 Z pz qz) := anz4.below k46
        have b11 := b11_.below k46 b11_.lt
        have k06 : Below v0.heap.size v0 y6 := (kb2.trans (k24.mono kb2.size)).trans (k46.mono (Nat.le_trans kb2.size k24.size))
        have b3 := b3v.below k06 b3v.lt
        have b4 := b4v.below k06 b4v.lt
        have B6 : Hid (Below w.heap.size w y6) := kv0.trans (k06.mono kv0.size)
        have k26 : Below y2.heap.size y2 y6 := k24.trans (k46.mono k24.size)
        have B16 : Hid (Bs y6 s1 n1 c1 (if cd = 0 then al else [])) := B1.out.below k26 (Nat.le_refl _)
        have B26 : Hid (Bs y6 s2 n2 c2 (if cd = 0 then al else [])) := B2.out.below k26 (Nat.le_refl _)
        have CR1 : Hid (∀ u, Grows y6 u → Calls Try.prog 13 #[.slice s1 n1 c1, .slice s2 n2 c2] u fun e w' => e = .returned (.bool true) ∧ Below u.heap.size u w') := fun u hu => (rSame u (B16.out.below hu (Nat.le_refl _)) (B26.out.below hu (Nat.le_refl _))).mono (by rintro e w' ⟨rfl, k, rfl⟩; exact ⟨by rw [decide_eq_true rfl], below_drewN' u k⟩)
        have CS1 : Hid (∀ u, Grows y6 u → Calls Try.prog 16 #[.agg (anc Z pz qz).toArray, .agg (anc Z pr qr).toArray] u fun e w' => e = .returned (.bool true) ∧ Below u.heap.size u w') := fun u hu => by
          have := rSameA u (anz6.out.below hu) (anr6.out.below hu)
          rw [sameA_refl] at this
          exact this
        have hw6 : ∀ u, Grows y6 u → Below v0.heap.size v0 u := fun u hu => k06.trans (Below.mono hu k06.size)
        replace CC1 : Hid (∀ u, Grows y6 u → Calls Try.prog 14 #[.agg (anc a0 p0_ q0_).toArray] u fun e w' => e = .returned (.int .i64 cd) ∧ Below u.heap.size u w') := fun u hu => CC1.out u (hw6 u hu)
        replace CC2 : Hid (∀ u, Grows y6 u → Calls Try.prog 15 #[.agg (anc a0 p0_ q0_).toArray] u fun e w' => e = .returned (.int .i64 cd) ∧ Below u.heap.size u w') := fun u hu => CC2.out u (hw6 u hu)
        replace CS2 : Hid (∀ u, Grows y6 u → Calls Try.prog 17 #[.agg (anc a0 p0_ q0_).toArray, .agg (anc a1 p1_ q1_).toArray] u fun e w' => e = .returned (.bool sm) ∧ Below u.heap.size u w') := fun u hu => CS2.out u (hw6 u hu)
        replace CS3 : Hid (∀ u, Grows y6 u → Calls Try.prog 16 #[.agg (anc a0 p0_ q0_).toArray, .agg (anc a1 p1_ q1_).toArray] u fun e w' => e = .returned (.bool sm) ∧ Below u.heap.size u w') := fun u hu => CS3.out u (hw6 u hu)
        replace CCp : Hid (∀ u, Grows y6 u → Calls Try.prog 18 #[.agg (anc a0 p0_ q0_).toArray] u fun e w' => ∃ p' q', e = .returned (anV a0 p' q') ∧ Anc (fun j => j < w.heap.size ∨ u.heap.size ≤ j) w' a0 p' q' ∧ Below u.heap.size u w') := fun u hu => CCp.out u (hw6 u hu)
        clear CG2 anr hb5 z13 k13 kb6 hg13 k46 anz4 b11_ kb2 hb1 hb2 k24 k26 k06 b3v b4v hw6 B1 B2 B26 anz6 anr6
        refine regionG (S := Grows y6) (by kernel_rfl) (Below.refl _ y6).drew ?_
        refine takeG 0 (some 51) (.slice s1 n1 c1) rfl rfl (by kernel_rfl) (by kernel_rfl) (by kernel_rfl) (fun _ _ _ h => h) (ans_plain (by rfl) (fun w _ => rfl)) ?_
        simp only [Act.put, List.setIfInBounds_toArray, List.set_cons_zero, List.set_cons_succ]
        refine takeG 1 (some 52) (.slice s2 n2 c2) rfl rfl (by kernel_rfl) (by kernel_rfl) (by kernel_rfl) (fun _ _ _ h => h) (ans_plain (by rfl) (fun w _ => rfl)) ?_
        simp only [Act.put, List.setIfInBounds_toArray, List.set_cons_zero, List.set_cons_succ]
        refine takeG 2 (some 53) (.bool true) rfl rfl (by kernel_rfl) (by kernel_rfl) (by kernel_rfl) (fun _ _ _ h => h) (ans_fn 13 #[.tmp 51, .tmp 52] #[22, 22] #[.slice s1 n1 c1, .slice s2 n2 c2] rfl (by rfl) (by rfl) Try.call13 fun u h => CR1.out u h) ?_
        simp only [Act.put, List.setIfInBounds_toArray, List.set_cons_zero, List.set_cons_succ]
        refine takeG 3 (some 54) (.bool false) rfl rfl (by kernel_rfl) (by kernel_rfl) (by kernel_rfl) (fun _ _ _ h => h) (ans_plain (by rfl) (fun w _ => by unfold execOp; go_simp)) ?_
        simp only [Act.put, List.setIfInBounds_toArray, List.set_cons_zero, List.set_cons_succ]
        refine takeG 4 (some 55) (.bool false) rfl rfl (by kernel_rfl) (by kernel_rfl) (by kernel_rfl) (fun _ _ _ h => h) (ans_plain (by rfl) (fun w _ => rfl)) ?_
        simp only [Act.put, List.setIfInBounds_toArray, List.set_cons_zero, List.set_cons_succ]
        refine takeG 5 (some 56) (.int .i64 cd) rfl rfl (by kernel_rfl) (by kernel_rfl) (by kernel_rfl) (fun _ _ _ h => h) (ans_plain (by rfl) (fun w _ => rfl)) ?_
        simp only [Act.put, List.setIfInBounds_toArray, List.set_cons_zero, List.set_cons_succ]
        refine takeG 6 (some 57) (.int .i64 cd) rfl rfl (by kernel_rfl) (by kernel_rfl) (by kernel_rfl) (fun _ _ _ h => h) (ans_plain (by rfl) (fun w _ => rfl)) ?_
        simp only [Act.put, List.setIfInBounds_toArray, List.set_cons_zero, List.set_cons_succ]
        refine takeG 7 (some 58) (.bool false) rfl rfl (by kernel_rfl) (by kernel_rfl) (by kernel_rfl) (fun _ _ _ h => h) (ans_plain (by rfl) (fun w _ => by unfold execOp; go_simp)) ?_
        simp only [Act.put, List.setIfInBounds_toArray, List.set_cons_zero, List.set_cons_succ]
        refine takeG 8 (some 59) (.bool false) rfl rfl (by kernel_rfl) (by kernel_rfl) (by kernel_rfl) (fun _ _ _ h => h) (ans_plain (by rfl) (fun w _ => by unfold execOp; go_simp)) ?_
        simp only [Act.put, List.setIfInBounds_toArray, List.set_cons_zero, List.set_cons_succ]
        refine takeG 9 (some 60) (.bool false) rfl rfl (by kernel_rfl) (by kernel_rfl) (by kernel_rfl) (fun _ _ _ h => h) (ans_plain (by rfl) (fun w _ => rfl)) ?_
        simp only [Act.put, List.setIfInBounds_toArray, List.set_cons_zero, List.set_cons_succ]
        refine takeG 10 (some 61) (.agg (anc a0 p0_ q0_).toArray) rfl rfl (by kernel_rfl) (by kernel_rfl) (by kernel_rfl) (fun _ _ _ h => h) (ans_row 25 (.tmp 3) _ 8 rfl (by rfl) e3 0 rfl (anc a0 p0_ q0_) (fun u hu => (b3.below hu b3.lt).whole) Try.underlying25 rfl rfl sizeAn) ?_
        simp only [Act.put, List.setIfInBounds_toArray, List.set_cons_zero, List.set_cons_succ]
        refine takeG 11 (some 62) (.int .i64 cd) rfl rfl (by kernel_rfl) (by kernel_rfl) (by kernel_rfl) (fun _ _ _ h => h) (ans_fn 14 #[.tmp 61] #[25] #[.agg (anc a0 p0_ q0_).toArray] rfl (by rfl) (by rfl) Try.call14 fun u h => CC1.out u h) ?_
        simp only [Act.put, List.setIfInBounds_toArray, List.set_cons_zero, List.set_cons_succ]
        refine takeG 12 (some 63) (.agg (anc a0 p0_ q0_).toArray) rfl rfl (by kernel_rfl) (by kernel_rfl) (by kernel_rfl) (fun _ _ _ h => h) (ans_row 25 (.tmp 3) _ 8 rfl (by rfl) e3 0 rfl (anc a0 p0_ q0_) (fun u hu => (b3.below hu b3.lt).whole) Try.underlying25 rfl rfl sizeAn) ?_
        simp only [Act.put, List.setIfInBounds_toArray, List.set_cons_zero, List.set_cons_succ]
        refine takeG 13 (some 64) (.int .i64 cd) rfl rfl (by kernel_rfl) (by kernel_rfl) (by kernel_rfl) (fun _ _ _ h => h) (ans_fn 15 #[.tmp 63] #[25] #[.agg (anc a0 p0_ q0_).toArray] rfl (by rfl) (by rfl) Try.call15 fun u h => CC2.out u h) ?_
        simp only [Act.put, List.setIfInBounds_toArray, List.set_cons_zero, List.set_cons_succ]
        refine takeG 14 (some 65) (.bool false) rfl rfl (by kernel_rfl) (by kernel_rfl) (by kernel_rfl) (fun _ _ _ h => h) (ans_plain (by rfl) (fun w _ => by unfold execOp; go_simp)) ?_
        simp only [Act.put, List.setIfInBounds_toArray, List.set_cons_zero, List.set_cons_succ]
        refine takeG 15 (some 66) (.bool false) rfl rfl (by kernel_rfl) (by kernel_rfl) (by kernel_rfl) (fun _ _ _ h => h) (ans_plain (by rfl) (fun w _ => by unfold execOp; go_simp)) ?_
        simp only [Act.put, List.setIfInBounds_toArray, List.set_cons_zero, List.set_cons_succ]
        refine takeG 16 (some 67) (.bool false) rfl rfl (by kernel_rfl) (by kernel_rfl) (by kernel_rfl) (fun _ _ _ h => h) (ans_plain (by rfl) (fun w _ => rfl)) ?_
        simp only [Act.put, List.setIfInBounds_toArray, List.set_cons_zero, List.set_cons_succ]
        refine takeG 17 (some 68) (.agg (anc Z pz qz).toArray) rfl rfl (by kernel_rfl) (by kernel_rfl) (by kernel_rfl) (fun _ _ _ h => h) (ans_row 25 (.tmp 11) _ 8 rfl (by rfl) g11 0 rfl (anc Z pz qz) (fun u hu => (b11.below hu b11.lt).whole) Try.underlying25 rfl rfl sizeAn) ?_
        simp only [Act.put, List.setIfInBounds_toArray, List.set_cons_zero, List.set_cons_succ]
        refine takeG 18 (some 69) (.agg (anc Z pr qr).toArray) rfl rfl (by kernel_rfl) (by kernel_rfl) (by kernel_rfl) (fun _ _ _ h => h) (ans_row 25 (.tmp 13) _ 8 rfl (by rfl) g13 0 rfl (anc Z pr qr) (fun u hu => (b13.below hu b13.lt).whole) Try.underlying25 rfl rfl sizeAn) ?_
        simp only [Act.put, List.setIfInBounds_toArray, List.set_cons_zero, List.set_cons_succ]
        refine takeG 19 (some 70) (.bool true) rfl rfl (by kernel_rfl) (by kernel_rfl) (by kernel_rfl) (fun _ _ _ h => h) (ans_fn 16 #[.tmp 68, .tmp 69] #[25, 25] #[.agg (anc Z pz qz).toArray, .agg (anc Z pr qr).toArray] rfl (by rfl) (by rfl) Try.call16 fun u h => CS1.out u h) ?_
        simp only [Act.put, List.setIfInBounds_toArray, List.set_cons_zero, List.set_cons_succ]
        refine takeG 20 (some 71) (.bool false) rfl rfl (by kernel_rfl) (by kernel_rfl) (by kernel_rfl) (fun _ _ _ h => h) (ans_plain (by rfl) (fun w _ => by unfold execOp; go_simp)) ?_
        simp only [Act.put, List.setIfInBounds_toArray, List.set_cons_zero, List.set_cons_succ]
        refine takeG 21 (some 72) (.bool false) rfl rfl (by kernel_rfl) (by kernel_rfl) (by kernel_rfl) (fun _ _ _ h => h) (ans_plain (by rfl) (fun w _ => by unfold execOp; go_simp)) ?_
        simp only [Act.put, List.setIfInBounds_toArray, List.set_cons_zero, List.set_cons_succ]
        refine takeG 22 (some 73) (.bool false) rfl rfl (by kernel_rfl) (by kernel_rfl) (by kernel_rfl) (fun _ _ _ h => h) (ans_plain (by rfl) (fun w _ => rfl)) ?_
        simp only [Act.put, List.setIfInBounds_toArray, List.set_cons_zero, List.set_cons_succ]
        refine takeG 23 (some 74) (.int .i64 gc) rfl rfl (by kernel_rfl) (by kernel_rfl) (by kernel_rfl) (fun _ _ _ h => h) (ans_plain (by rfl) (fun w _ => rfl)) ?_
        simp only [Act.put, List.setIfInBounds_toArray, List.set_cons_zero, List.set_cons_succ]
        refine takeG 24 (some 75) (.int .i64 gc) rfl rfl (by kernel_rfl) (by kernel_rfl) (by kernel_rfl) (fun _ _ _ h => h) (ans_plain (by rfl) (fun w _ => rfl)) ?_
        simp only [Act.put, List.setIfInBounds_toArray, List.set_cons_zero, List.set_cons_succ]
        refine takeG 25 (some 76) (.bool false) rfl rfl (by kernel_rfl) (by kernel_rfl) (by kernel_rfl) (fun _ _ _ h => h) (ans_plain (by rfl) (fun w _ => by unfold execOp; go_simp)) ?_
        simp only [Act.put, List.setIfInBounds_toArray, List.set_cons_zero, List.set_cons_succ]
        refine takeG 26 (some 77) (.bool false) rfl rfl (by kernel_rfl) (by kernel_rfl) (by kernel_rfl) (fun _ _ _ h => h) (ans_plain (by rfl) (fun w _ => by unfold execOp; go_simp)) ?_
        simp only [Act.put, List.setIfInBounds_toArray, List.set_cons_zero, List.set_cons_succ]
        refine takeG 27 (some 78) (.bool false) rfl rfl (by kernel_rfl) (by kernel_rfl) (by kernel_rfl) (fun _ _ _ h => h) (ans_plain (by rfl) (fun w _ => rfl)) ?_
        simp only [Act.put, List.setIfInBounds_toArray, List.set_cons_zero, List.set_cons_succ]
        refine takeG 28 (some 79) (.agg (anc a0 p0_ q0_).toArray) rfl rfl (by kernel_rfl) (by kernel_rfl) (by kernel_rfl) (fun _ _ _ h => h) (ans_row 25 (.tmp 3) _ 8 rfl (by rfl) e3 0 rfl (anc a0 p0_ q0_) (fun u hu => (b3.below hu b3.lt).whole) Try.underlying25 rfl rfl sizeAn) ?_
        simp only [Act.put, List.setIfInBounds_toArray, List.set_cons_zero, List.set_cons_succ]
        refine takeG 29 (some 80) (.agg (anc a1 p1_ q1_).toArray) rfl rfl (by kernel_rfl) (by kernel_rfl) (by kernel_rfl) (fun _ _ _ h => h) (ans_row 25 (.tmp 4) _ 8 rfl (by rfl) e4 0 rfl (anc a1 p1_ q1_) (fun u hu => (b4.below hu b4.lt).whole) Try.underlying25 rfl rfl sizeAn) ?_
        simp only [Act.put, List.setIfInBounds_toArray, List.set_cons_zero, List.set_cons_succ]
        refine takeG 30 (some 81) (.bool sm) rfl rfl (by kernel_rfl) (by kernel_rfl) (by kernel_rfl) (fun _ _ _ h => h) (ans_fn 17 #[.tmp 79, .tmp 80] #[25, 25] #[.agg (anc a0 p0_ q0_).toArray, .agg (anc a1 p1_ q1_).toArray] rfl (by rfl) (by rfl) Try.call17 fun u h => CS2.out u h) ?_
        simp only [Act.put, List.setIfInBounds_toArray, List.set_cons_zero, List.set_cons_succ]
        refine takeG 31 (some 82) (.agg (anc a0 p0_ q0_).toArray) rfl rfl (by kernel_rfl) (by kernel_rfl) (by kernel_rfl) (fun _ _ _ h => h) (ans_row 25 (.tmp 3) _ 8 rfl (by rfl) e3 0 rfl (anc a0 p0_ q0_) (fun u hu => (b3.below hu b3.lt).whole) Try.underlying25 rfl rfl sizeAn) ?_
        simp only [Act.put, List.setIfInBounds_toArray, List.set_cons_zero, List.set_cons_succ]
        refine takeG 32 (some 83) (.agg (anc a1 p1_ q1_).toArray) rfl rfl (by kernel_rfl) (by kernel_rfl) (by kernel_rfl) (fun _ _ _ h => h) (ans_row 25 (.tmp 4) _ 8 rfl (by rfl) e4 0 rfl (anc a1 p1_ q1_) (fun u hu => (b4.below hu b4.lt).whole) Try.underlying25 rfl rfl sizeAn) ?_
        simp only [Act.put, List.setIfInBounds_toArray, List.set_cons_zero, List.set_cons_succ]
        refine takeG 33 (some 84) (.bool sm) rfl rfl (by kernel_rfl) (by kernel_rfl) (by kernel_rfl) (fun _ _ _ h => h) (ans_fn 16 #[.tmp 82, .tmp 83] #[25, 25] #[.agg (anc a0 p0_ q0_).toArray, .agg (anc a1 p1_ q1_).toArray] rfl (by rfl) (by rfl) Try.call16 fun u h => CS3.out u h) ?_
        simp only [Act.put, List.setIfInBounds_toArray, List.set_cons_zero, List.set_cons_succ]
        refine takeG 34 (some 85) (.bool false) rfl rfl (by kernel_rfl) (by kernel_rfl) (by kernel_rfl) (fun _ _ _ h => h) (ans_plain (by rfl) (fun w _ => by unfold execOp; go_simp)) ?_
        simp only [Act.put, List.setIfInBounds_toArray, List.set_cons_zero, List.set_cons_succ]
        refine takeG 35 (some 86) (.bool false) rfl rfl (by kernel_rfl) (by kernel_rfl) (by kernel_rfl) (fun _ _ _ h => h) (ans_plain (by rfl) (fun w _ => by unfold execOp; go_simp)) ?_
        simp only [Act.put, List.setIfInBounds_toArray, List.set_cons_zero, List.set_cons_succ]
        refine takeG 36 (some 87) (.bool false) rfl rfl (by kernel_rfl) (by kernel_rfl) (by kernel_rfl) (fun _ _ _ h => h) (ans_plain (by rfl) (fun w _ => rfl)) ?_
        simp only [Act.put, List.setIfInBounds_toArray, List.set_cons_zero, List.set_cons_succ]
        refine takeG 37 (some 88) (.agg (anc a0 p0_ q0_).toArray) rfl rfl (by kernel_rfl) (by kernel_rfl) (by kernel_rfl) (fun _ _ _ h => h) (ans_row 25 (.tmp 3) _ 8 rfl (by rfl) e3 0 rfl (anc a0 p0_ q0_) (fun u hu => (b3.below hu b3.lt).whole) Try.underlying25 rfl rfl sizeAn) ?_
        simp only [Act.put, List.setIfInBounds_toArray, List.set_cons_zero, List.set_cons_succ]
        refine takeG 39 (some 90) (.agg (anc a0 p0_ q0_).toArray) rfl rfl (by kernel_rfl) (by kernel_rfl) (by kernel_rfl) (fun _ _ _ h => h) (ans_row 25 (.tmp 3) _ 8 rfl (by rfl) e3 0 rfl (anc a0 p0_ q0_) (fun u hu => (b3.below hu b3.lt).whole) Try.underlying25 rfl rfl sizeAn) ?_
        simp only [Act.put, List.setIfInBounds_toArray, List.set_cons_zero, List.set_cons_succ]
        refine callG 38 (some 89) 18 #[.tmp 88] #[25] #[.agg (anc a0 p0_ q0_).toArray] rfl rfl rfl (by rfl) (by rfl) (by kernel_rfl) Try.call18 fun r1 hg1 hs1 => ?_
        refine (CCp.out r1 hs1).mono ?_
        rintro e r2 ⟨pk, qk, rfl, ank, hbk⟩
        refine ⟨_, rfl, Grows.trans hs1 hbk, ?_⟩
        unfold anV
        simp only [Act.put, List.setIfInBounds_toArray, List.set_cons_zero, List.set_cons_succ]
        refine callG 40 (some 91) 16 #[.tmp 89, .tmp 90] #[25, 25] #[.agg (anc a0 pk qk).toArray, .agg (anc a0 p0_ q0_).toArray] rfl rfl rfl (by rfl) (by rfl) (by kernel_rfl) Try.call16 fun r3 hg3 hs3 => ?_
        refine (rSameA r3 (ank.below hg3) (HA0.out.below (Below.trans B6.out (Below.mono hs3 B6.out.size)))).mono ?_
        rintro e r4 ⟨rfl, hb4⟩
        rw [sameA_refl]
        refine ⟨_, rfl, Grows.trans hs3 hb4, ?_⟩
        simp only [Act.put, List.setIfInBounds_toArray, List.set_cons_zero, List.set_cons_succ]
        refine takeG 41 (some 92) (.bool false) rfl rfl (by kernel_rfl) (by kernel_rfl) (by kernel_rfl) (fun _ _ _ h => h) (ans_plain (by rfl) (fun w _ => by unfold execOp; go_simp)) ?_
        simp only [Act.put, List.setIfInBounds_toArray, List.set_cons_zero, List.set_cons_succ]
        refine takeG 42 (some 93) (.bool false) rfl rfl (by kernel_rfl) (by kernel_rfl) (by kernel_rfl) (fun _ _ _ h => h) (ans_plain (by rfl) (fun w _ => by unfold execOp; go_simp)) ?_
        simp only [Act.put, List.setIfInBounds_toArray, List.set_cons_zero, List.set_cons_succ]
        refine doneG (by kernel_rfl) fun y7 hg7 hs7 => ?_
        have k67 : Grows y6 y7 := hs7
        have B7 : Hid (Below w.heap.size w y7) := B6.out.trans (Below.mono k67 B6.out.size)
        have B17 : Hid (Bs y7 s1 n1 c1 (if cd = 0 then al else [])) := B16.out.below k67 (Nat.le_refl _)
        have b37 := b3.below k67 b3.lt
        clear CR1 CS1 CC1 CC2 CS2 CS3 CCp B16 b3 b4 b11 b13 k67 hs7 hg7 hb4 hs3 hg3 ank hbk hs1 hg1 B6
        by_cases hc : cd = 0
        · subst hc
          have hbk := HBK.out l2 rfl
          have hle := HLE.out rfl
          have B17b : Hid (Bs y7 s1 n1 c1 al) := by have := B17.out; rw [if_pos rfl] at this; exact this
          have hn1 : n1 ≤ 665 := by have := B17b.out.len; omega
          have HE : Hid (Own (y7.alloc (.cells #[] 5)) y7.heap.size (.slice (some ⟨y7.heap.size, 0, none⟩) 0 0) []) := Own.lit0 y7
          have B17c : Hid (Bs (y7.alloc (.cells #[] 5)) s1 n1 c1 al) := B17b.out.below (below_alloc _ _) (Nat.le_refl _)
          have hl2 := W2.out.len
          have hal := B17b.out.len
          clear HBK HLE B17
          go_wp2_with (at_builtin; first | (refine wpList_app (y7.alloc (.cells #[] 5)) rfl (.tmp 98) (.tmp 99) rfl y7.heap.size (.slice (some ⟨y7.heap.size, 0, none⟩) 0 0) [] rfl HE.out s1 n1 c1 al rfl B17c.out (by simp; omega) (by simp) ?_; intro v8 y8 o8 hb8; obtain ⟨a8, m8, c8, rfl, -⟩ := o8.shape; have W28 : Bs y8 a2 len2 cap2 l2 := (W2.out.below B7.out (Nat.le_refl _)).below ((below_alloc y7 _).trans (hb8.mono (by simp))) (Nat.le_refl _)) | (refine wpList_app y8 rfl (.tmp 100) (.tmp 101) rfl y7.heap.size (.slice a8 m8 c8) ([] ++ al) rfl o8 a2 len2 cap2 l2 rfl W28 (by simp; omega) (Nat.le_trans (by simp) hb8.size) ?_; intro v9 y9 o9 hb9; obtain ⟨a9, m9, c9, rfl, -⟩ := o9.shape))
          rw [List.nil_append] at o9
          have hm9 : m9 ≤ 100000 := by have := o9.toBs.len; rw [List.length_append] at this; omega
          have k79 : Below y7.heap.size y7 y9 := (below_alloc y7 (.cells #[] 5)).trans ((hb8.trans hb9).mono (Nat.le_refl _))
          have CG3 : Hid (Calls Try.prog 11 #[.slice a9 m9 c9] y9 (GotA y9 (a0, 0))) := by rw [← hbk]; exact oGetA y9 o9.toBs hm9
          clear o9 o8 hb8 hb9 W28 HE B17c hbk
          refine CG3.out.mono ?_
          rintro e x1 ⟨pv, qv, rfl, anv, hbv⟩
          try dsimp only at anv
          try dsimp only
          obtain ⟨g15, hg15⟩ : ∃ g, g = x1.heap.size := ⟨_, rfl⟩
          have z15 : Blk (x1.alloc (.cells #[.int .i64 0, .int .i64 0, .int .i64 0, .int .i64 0, .int .i64 0, .int .i64 0, .slice none 0 0, .slice none 0 0] 25)) g15 zanc 25 := Blk.newAt x1 _ _ g15 hg15.symm _ rfl
          have k15 : Below x1.heap.size x1 (x1.alloc (.cells #[.int .i64 0, .int .i64 0, .int .i64 0, .int .i64 0, .int .i64 0, .int .i64 0, .slice none 0 0, .slice none 0 0] 25)) := below_alloc _ _
          unfold anV
          go_upto_region 12 with ((with_reducible refine at_st 25 ?_); (refine st' 25 (.tmp 15) (.tmp 104) 8 sizeAn x1.heap.size 0 (anc a0 pv qv) rfl (anc_one _ _ _) (by rw [← hg15]; exact z15.there 0 8 (by simp [zanc])) rfl rfl ?_); intro x2 hx2; have b15 : Blk x2 g15 (anc a0 pv qv) 25 := (by rw [hx2, ← hg15]; exact z15.setsW _ rfl); have kb2 : Below x1.heap.size x1 x2 := (by rw [hx2]; exact below_sets (Nat.le_refl _) _ k15 0); clear hx2)
          rw [← hg15]
          have k7x : Below y7.heap.size y7 x2 := (k79.trans (hbv.mono k79.size)).trans (kb2.mono (Nat.le_trans k79.size hbv.size))
          have b3x := b37.below k7x b37.lt
          have Bx : Hid (Below w.heap.size w x2) := B7.out.trans (k7x.mono B7.out.size)
          have CSz : Hid (Calls Try.prog 16 #[.agg (anc a0 pv qv).toArray, .agg (anc a0 p0_ q0_).toArray] x2 fun e w' => e = .returned (.bool true) ∧ Below x2.heap.size x2 w') := by
            have := rSameA x2 (anv.below kb2) (HA0.out.below Bx.out)
            rw [sameA_refl] at this
            exact this
          have hn3 : ((n1 : Int) ≤ 1024) := by omega
          clear CG3 anv hbv z15 k15 kb2 hg15 k79 b37 B7 k7x
          go_wp2_with (first | ((with_reducible refine at_ldg 25 ?_); (refine ldg 25 (.tmp 15) 8 (by rfl) sizeAn _ Try.underlying25 rfl g15 0 (anc a0 pv qv) rfl (b15.whole) rfl ?_)) | ((with_reducible refine at_ldg 25 ?_); (refine ldg 25 (.tmp 3) 8 (by rfl) sizeAn _ Try.underlying25 rfl e3 0 (anc a0 p0_ q0_) rfl (b3x.whole) rfl ?_)))
          refine CSz.out.mono ?_
          rintro e x3 ⟨rfl, hbx3⟩
          have Bz := Bx.out.trans (hbx3.mono Bx.out.size)
          clear CSz hbx3 Bx b3x b15
          go_wp2_with fail
          refine (CW.out x3 Bz).mono ?_
          rintro e ww ⟨rfl, hbw⟩
          go_wp2_with fail
          go_ret
          exact ⟨rfl, hbw⟩
        · have bc : (cd == 0) = false := by simp [hc]
          have B7x := B7.out
          clear HBK HLE B17 B7 b37
          go_wp2_with fail
          refine (CW.out y7 B7x).mono ?_
          rintro e ww ⟨rfl, hbw⟩
          go_wp2_with fail
          go_ret
          exact ⟨rfl, hbw⟩
      · have jl : (1100 : Int) < (len2 : Int) := by omega
        go_wp2_with fail
        refine (CW.out v0 kv0).mono ?_
        rintro e ww ⟨rfl, hbw⟩
        go_wp2_with fail
        go_ret
        exact ⟨rfl, hbw⟩

set_option maxRecDepth 100000 in
theorem lifted (os : Os) (started : os.Started) (H : Type) (enc : TypeId × Value → H) :
    ReturnsInHanded {} Try.checked os 3 .any (Rows.anchorPutsSpec.pre6 enc Try.prog Try.f3 Rows.anchorPutsRow.domain false) (Rows.anchorPutsSpec.post enc Try.prog Try.f3 false true false false) := by
  refine returnsInHanded_of_change (C := Try.checked) own started (by kernel_rfl) Try.func3
    (ChangeSpec.witness6 (enc := enc) (C := Try.checked) false ⟨#[], #[.agg #[.int .i64 0, .int .i64 0, .int .i64 0, .int .i64 0, .int .i64 0, .int .i64 0, .slice none 0 0, .slice none 0 0], .agg #[.int .i64 0, .int .i64 0, .int .i64 0, .int .i64 0, .int .i64 0, .int .i64 0, .slice none 0 0, .slice none 0 0], .slice none 0 0], []⟩ 8 (by kernel_rfl) (by kernel_rfl) (by kernel_rfl) (by kernel_rfl)) ?_
  intro W base args ds gs before hval0 hW hcnd _
  have hval : ∀ (j : Nat) t v, Try.f3.params[j]? = some t → args[j]? = some v → Value.okWide Try.prog W .any base t v := hval0
  have hW' := hW
  obtain ⟨p, q, hA0, hV, rfl, hfz, hnd⟩ := hW
  have hA : DataW.TrodAll enc Try.prog W 0 (fun _ => true) true Try.f3.params.toList args.toList ds p := hA0
  rw [Try.params3] at hA hval
  obtain ⟨v0, vs0, d0, ds0, p0, q0, hargs, rfl, rfl, h0, r0⟩ := trodAll_cons hA
  obtain ⟨v1, vs1, d1, ds1, p1, q1, rfl, rfl, rfl, h1, r1⟩ := trodAll_cons r0
  obtain ⟨v2, vs2, d2, ds2, p2, q2, rfl, rfl, rfl, h2, r2⟩ := trodAll_cons r1
  obtain ⟨rfl, rfl, rfl⟩ := trodAll_nil r2
  obtain rfl : args = #[v0, v1, v2] := by cases args; simp_all
  obtain ⟨rfl, rfl⟩ := trodVars_none hV
  obtain ⟨x0, rfl⟩ := okWide_anc (hval 0 25 v0 rfl rfl)
  have k0 := h0
  have lt0 : ∀ x ∈ p0, x.block < W.heap.size := by obtain ⟨m, hm⟩ := k0; exact DataW.trod_lt m _ _ _ hm
  obtain ⟨a0, p0_, q0_, rfl, w0⟩ : ∃ a p q, x0 = (anc a p q).toArray ∧ AncIn W a p q := by
    obtain ⟨fuel, hf⟩ := h0
    exact anchor_of_trod hf
  obtain ⟨x1, rfl⟩ := okWide_anc (hval 1 25 v1 rfl rfl)
  have k1 := h1
  have lt1 : ∀ x ∈ p1, x.block < W.heap.size := by obtain ⟨m, hm⟩ := k1; exact DataW.trod_lt m _ _ _ hm
  obtain ⟨a1, p1_, q1_, rfl, w1⟩ : ∃ a p q, x1 = (anc a p q).toArray ∧ AncIn W a p q := by
    obtain ⟨fuel, hf⟩ := h1
    exact anchor_of_trod hf
  obtain ⟨a2, len2, cap2, rfl⟩ := okWide_slice Try.underlying22 (hval 2 22 v2 rfl rfl)
  have k2 := h2
  have lt2 : ∀ x ∈ p2, x.block < W.heap.size := by obtain ⟨m, hm⟩ := k2; exact DataW.trod_lt m _ _ _ hm
  obtain ⟨l2, w2⟩ : ∃ l, Bs W a2 len2 cap2 l := by
    obtain ⟨fuel, hf⟩ := h2
    exact Bs.of_trod hf
  clear hA0 hval0
  refine (walk a0 p0_ q0_ a1 p1_ q1_ a2 len2 cap2 l2 W w0 w1 w2).mono fun e W' ⟨he, bel⟩ => ?_
  subst he
  exact ⟨_, rfl, _, _, _, [], _, [], hW', trodAll_mk1 (shut_bool Try.underlying4 _), (trodAll_cons_mk (Below.trod laidOut (by kernel_rfl) (of_decide_eq_true (by kernel_rfl)) k0 bel lt0) (trodAll_cons_mk (Below.trod laidOut (by kernel_rfl) (of_decide_eq_true (by kernel_rfl)) k1 bel lt1) (trodAll_cons_mk (Below.trod laidOut (by kernel_rfl) (of_decide_eq_true (by kernel_rfl)) k2 bel lt2) trodAll_mk0))), rfl, bel.frame _, fun h => by cases h⟩

theorem over : Rows.anchorPutsRow.holds Try.pinned (OpenSpec.ofChange Rows.anchorPutsSpec) :=
  OpenClaim.holds_of_wide 3 Try.f3 rfl rfl rfl rfl rfl rfl rfl ⟨rfl, rfl, rfl, rfl, rfl⟩ rfl rfl rfl rfl rfl (by kernel_rfl) Try.func3 (by kernel_rfl)
    (of_decide_eq_true (by kernel_rfl)) (by unfold Func.isWrapper; first | (rw [if_pos (by decide +kernel)]; kernel_rfl) | (rw [if_neg (by decide +kernel)]; exact ⟨rfl, rfl⟩))
    (fun os started H enc _ => lifted os started H enc)
end AnchorPutsLaw

/-- The statement. -/
theorem anchorPuts_holds : Rows.AnchorPutsSaid := AnchorPutsLaw.over
#print axioms anchorPuts_holds
end Go.Proofs.Ytbifikeecmaakaa
