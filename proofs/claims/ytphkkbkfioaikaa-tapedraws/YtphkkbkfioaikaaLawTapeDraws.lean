/-
  Proved: for any list of rows of bytes and any small number the statement TapeDraws of layer 11 answers true and leaves its arguments as they were. Conditions beside the statement's own: none.
-/
import Derived.Test.YtphkkbkfioaikaaRows
import Derived.Test.YtphkkbkfioaikaaTapW
import Derived.Test.YtphkkbkfioaikaaTapT
import Derived.Test.YtphkkbkfioaikaaShort
import Derived.Test.YtphkkbkfioaikaaSame
import Derived.Test.YtphkkbkfioaikaaOpen
import Derived.Test.YtphkkbkfioaikaaGrowT
import Derived.Below
import Derived.ChangeOld
namespace Go.Proofs.Ytphkkbkfioaikaa
namespace TapeDrawsLaw
open Go.ChangeShapes Go.WideShapes Go.ChangeAt Go.RowKit
open Go.ChangeMaps (open_string shut_string)
set_option linter.unusedVariables false

theorem own : ownKnob Try.prog.godebug = none := by kernel_rfl
theorem laidOut : laidOutB Try.prog = true := by kernel_rfl

set_option maxRecDepth 100000 in
set_option maxHeartbeats 4000000 in
theorem walk (a0 : Option Addr) (len0 cap0 : Nat) (l0 : List (List UInt8)) (a1 : Int) (w : World) (w0 : Bss w a0 len0 cap0 l0) (w1 : (Lit.int .u8 a1).wf = true) :
    Calls Try.prog 3 #[.slice a0 len0 cap0, .int .u8 a1] w fun e w' => e = .returned (.bool true) ∧ Below w.heap.size w w' := by
  obtain ⟨y0, y1⟩ := bounds_u8 w1
  obtain ⟨y, rfl⟩ : ∃ y : Nat, a1 = (y : Int) := ⟨a1.toNat, by omega⟩
  obtain ⟨R, hR⟩ : ∃ R : Nat, R = y % 60 := ⟨_, rfl⟩
  have hrem : (y : Int).tmod 60 = (R : Int) := by rw [Int.tmod_eq_emod_of_nonneg (by omega)]; omega
  have hR60 : R ≤ 60 := by omega
  have W0 : Hid (Bss w a0 len0 cap0 l0) := w0
  have hy : y ≤ 255 := by omega
  clear w1 hR y0 y1
  have CS := lShort w w0
  clear w0
  go_enter Try.func3, Try.ntmps3
  go_wp2_with fail
  refine CS.mono ?_
  rintro e w1 ⟨r, rfl, rfl, hr⟩
  clear CS
  rcases hr with rfl | ⟨rfl, h40, htot⟩
  · go_wp2_with fail
    refine (lWorks11 w).mono ?_
    rintro e w7 ⟨rfl, hb7⟩
    go_wp2_with fail
    go_ret
    exact ⟨rfl, hb7⟩
  · go_wp2_with fail
    refine (oTNew w W0.out (by omega)).mono ?_
    rintro e w2 ⟨t, kb, rfl, hT, ht, hkb, hb2⟩
    have W2 : Hid (Bss w2 a0 len0 cap0 l0) := W0.out.below hb2 (Nat.le_refl _)
    go_wp2_with fail
    refine (rTNew w2 (A := fun j => w2.heap.size ≤ j) (fun j h => h) W2.out (by omega)).mono ?_
    rintro e w3 ⟨⟨la, ln, lc⟩, rfl, hR3, hb3⟩
    have hlt := hT.b.lt
    have hlk := hT.k.lt
    have hRR : RT (fun j => w2.heap.size ≤ j ∧ j < w3.heap.size) w3 (TapS.new l0).l ⟨la, ln, lc⟩ := hR3.mono fun j hj h => ⟨h, hj⟩
    have hT3 := hT.grow hb3
    have b3 : Below w.heap.size w w3 := hb2.trans (hb3.mono hb2.size)
    obtain ⟨X, hX⟩ : ∃ X, X = w3.heap.size := ⟨_, rfl⟩
    have T4 : Hid (TwoT w (w3.alloc (.cells #[.slice la ln lc, .int .i64 0] 28)) X t kb w2.heap.size w3.heap.size ⟨la, ln, lc⟩ (TapS.new l0) (TapS.new l0)) := by
      refine ⟨hT3.grow (below_alloc _ _), hRR.below (below_alloc _ _), ?_, b3.alloc b3.size _, ?_⟩
      · rw [hX]
        exact Blk.newAt w3 _ _ w3.heap.size rfl _ rfl
      · have s3 := hb3.size
        have s4 := b3.size
        rw [hX]
        exact ⟨ht, hlt, hlk, s3, Nat.le_refl _, s4⟩
    have hln : (TapS.new l0).l.length = ln := Sl.len hR3
    have hll : (TapS.new l0).l.length ≤ 1000 := hT.n
    rw [tcV_new]
    clear hT hR3 hRR hT3 hb2 hb3 ht hkb b3 W0 W2 htot
    generalize w2.heap.size = B1 at *
    go_wp2_with fail
    rw [← hX]
    generalize w3.alloc (.cells #[.slice la ln lc, .int .i64 0] 28) = w4 at *
    generalize w3.heap.size = B2 at *
    clear hX
    have bX : Blk w4 X [.slice la ln lc, .int .i64 0] 28 := by
      have h1 := T4.out.bx
      rw [tcC_new] at h1
      exact h1
    have CA : Hid (∀ u, Grows w4 u → Calls Try.prog 10 #[.pointer (some ⟨t, 0, none⟩)] u fun e w' => e = .returned (.bool (TapS.new l0).apart) ∧ Below u.heap.size u w') := fun u h => oTApart u (T4.out.grow h).tp
    have CR : Hid (∀ u, Grows w4 u → Calls Try.prog 11 #[.agg #[.slice la ln lc, .int .i64 0]] u fun e w' => e = .returned (.bool (TapS.new l0).apart) ∧ Below u.heap.size u w') := fun u h => by
      have h1 := rTApart u (T := TapS.new l0) (q := ⟨la, ln, lc⟩) (T4.out.grow h).rt hll
      rw [tcV_new] at h1
      exact h1
    generalize (TapS.new l0).apart = ap at *
    have hap : (ap != ap) = false := by simp
    refine regionG (S := Grows w4) (by kernel_rfl) (Below.refl _ w4).drew ?_
    refine takeG 0 (some 23) (.pointer (some ⟨t, 0, none⟩)) rfl rfl (by kernel_rfl) (by kernel_rfl) (by kernel_rfl) (fun _ _ _ h => h) (ans_plain (by rfl) (fun w _ => rfl)) ?_
    simp only [Act.put, List.setIfInBounds_toArray, List.set_cons_zero, List.set_cons_succ]
    refine takeG 1 (some 24) (.bool ap) rfl rfl (by kernel_rfl) (by kernel_rfl) (by kernel_rfl) (fun _ _ _ h => h) (ans_fn 10 #[.tmp 23] #[25] #[.pointer (some ⟨t, 0, none⟩)] rfl (by rfl) (by rfl) Try.call10 fun u h => CA.out u h) ?_
    simp only [Act.put, List.setIfInBounds_toArray, List.set_cons_zero, List.set_cons_succ]
    refine takeG 2 (some 25) (.agg #[.slice la ln lc, .int .i64 0]) rfl rfl (by kernel_rfl) (by kernel_rfl) (by kernel_rfl) (fun _ _ _ h => h) (ans_row 28 (.tmp 6) _ 2 rfl (by rfl) X 0 rfl [.slice la ln lc, .int .i64 0] (fun u h => (bX.below h bX.lt).whole) Try.underlying28 rfl rfl size28) ?_
    simp only [Act.put, List.setIfInBounds_toArray, List.set_cons_zero, List.set_cons_succ]
    refine takeG 3 (some 26) (.bool ap) rfl rfl (by kernel_rfl) (by kernel_rfl) (by kernel_rfl) (fun _ _ _ h => h) (ans_fn 11 #[.tmp 25] #[28] #[.agg #[.slice la ln lc, .int .i64 0]] rfl (by rfl) (by rfl) Try.call11 fun u h => CR.out u h) ?_
    simp only [Act.put, List.setIfInBounds_toArray, List.set_cons_zero, List.set_cons_succ]
    refine takeG 4 (some 27) (.bool false) rfl rfl (by kernel_rfl) (by kernel_rfl) (by kernel_rfl) (fun _ _ _ h => h) (ans_plain (by rfl) (fun w _ => by unfold execOp; go_simp)) ?_
    simp only [Act.put, List.setIfInBounds_toArray, List.set_cons_zero, List.set_cons_succ]
    refine doneG (by kernel_rfl) fun w5 hg5 hs5 => ?_
    have T5 : Hid (TwoT w w5 X t kb B1 B2 ⟨la, ln, lc⟩ (TapS.new l0) (TapS.new l0)) := T4.out.grow hs5
    clear CA CR bX T4 hg5 hs5 hap
    generalize TapS.new l0 = T0 at *
    have hx0 : T0.next ≤ T0.l.length := T5.out.tp.x
    go_wp2_with fail
    go_loopw [7] (fun v wr => ∃ (k : Nat) (T : TapS), k ≤ R ∧ v = .int .i64 (k : Int) ∧ T.l = T0.l ∧ T.next ≤ T.l.length ∧ Hid (TwoT w wr X t kb B1 B2 ⟨la, ln, lc⟩ T T)) (fun v _ => R - (intOf v).toNat)
    case atStart => exact ⟨0, T0, Nat.zero_le _, rfl, rfl, hx0, T5⟩
    case round =>
      clear T5 hx0
      obtain ⟨k, T, hk, rfl, hTl, hTx, TW⟩ := hrel
      by_cases hkR : k < R
      · have i1 : (k : Int) < (R : Int) := by omega
        have hlT : T.l.length = ln := by rw [hTl]; exact hln
        have CD := rTDraw wr TW.out.rt (by rw [hTl]; exact hll) hTx
        rw [tcV_eq, tcV_eq] at CD
        have bX := TW.out.bx
        rw [tcC_eq] at bX
        have hD1 : T.draw.1.l = T.l := T.draw_l
        have hD2 : T.draw.1.next ≤ T.draw.1.l.length := TapS.draw_x hTx
        obtain ⟨T', hT'⟩ : ∃ T', T' = T.draw.1 := ⟨_, rfl⟩
        obtain ⟨S, hS⟩ : ∃ S, S = T.draw.2.1 := ⟨_, rfl⟩
        obtain ⟨cd, hcd⟩ : ∃ cd, cd = T.draw.2.2 := ⟨_, rfl⟩
        rw [← hT', ← hS, ← hcd] at CD
        rw [← hT'] at hD1 hD2
        obtain ⟨nx, hnx⟩ : ∃ nx, nx = T'.next := ⟨_, rfl⟩
        obtain ⟨n0, hn0⟩ : ∃ n0, n0 = T.next := ⟨_, rfl⟩
        rw [← hnx, ← hn0] at CD
        rw [← hn0] at bX
        have HE : Hid (T' = T.draw.1 ∧ S = T.draw.2.1 ∧ cd = T.draw.2.2 ∧ nx = T'.next) := ⟨hT', hS, hcd, hnx⟩
        have HD : Hid (T'.l = T.l ∧ T'.next ≤ T'.l.length ∧ T.l = T0.l) := ⟨hD1, hD2, hTl⟩
        have hnl : nx ≤ ln := by rw [hnx, ← hlT, ← hD1]; exact hD2
        have hln1 : ln ≤ 1000 := by rw [← hln]; exact hll
        have HN : Hid (T.l.length = ln) := hlT
        have cX0 : wr.cell? ⟨X, 0, none⟩ = some (.slice la ln lc) := bX.cell 0
        have cX1 : wr.cell? ⟨X, 1, none⟩ = some (.int .i64 (n0 : Int)) := bX.cell 1
        have hlX := bX.lt
        clear hT' hS hcd hnx hn0 hD1 hD2 hlT hTx hTl
        go_wp2_with fail
        refine CD.mono ?_
        rintro e w5 ⟨p, m, c, rfl, hB5, hb5⟩
        have T5 := TW.out.grow hb5
        have bX5 := T5.bx
        have fX0 := bX5.free 0
        have fX1 := bX5.free 1
        obtain ⟨n1, dX0, dX1⟩ : ∃ n1 : Int, w5.cell? ⟨X, 0, none⟩ = some (.slice la ln lc) ∧ w5.cell? ⟨X, 1, none⟩ = some (.int .i64 n1) := ⟨_, bX5.cell 0, bX5.cell 1⟩
        have hlX5 := bX5.lt
        have kX : Kp (fun j => j = X) w5 ((w5.setCell ⟨X, 0, none⟩ (.slice la ln lc)).setCell ⟨X, 1, none⟩ (.int .i64 (nx : Int))) := Kp.of_grown (but_trans (but_set _ X 0 _) (but_set _ X 1 _))
        have T7 : Hid (TwoT w (((w5.setCell ⟨X, 0, none⟩ (.slice la ln lc)).setCell ⟨X, 1, none⟩ (.int .i64 (nx : Int))).alloc (.cells #[.slice la ln lc, .int .i64 (nx : Int)] 28)) X t kb B1 B2 ⟨la, ln, lc⟩ T T') := by
          refine TwoT.grow (T5.ref kX ?_ HD.out.1) (below_alloc _ _)
          have h1 := (bX5.setC 0 (.slice la ln lc)).setC 1 (.int .i64 (nx : Int))
          rw [tcC_eq, ← HE.out.2.2.2]
          exact h1
        have H57 : Hid (B5 (fun j => B1 ≤ j ∧ j < B2) (((w5.setCell ⟨X, 0, none⟩ (.slice la ln lc)).setCell ⟨X, 1, none⟩ (.int .i64 (nx : Int))).alloc (.cells #[.slice la ln lc, .int .i64 (nx : Int)] 28)) p m c S) := (hB5.kp kX fun j hj e => by have := T5.ht; omega).below (below_alloc _ _)
        clear T5 bX5 kX hB5 hb5 CD bX cX0 cX1 TW
        go_wp2_with fail
        generalize ((w5.setCell ⟨X, 0, none⟩ (.slice la ln lc)).setCell ⟨X, 1, none⟩ (.int .i64 (nx : Int))).alloc (.cells #[.slice la ln lc, .int .i64 (nx : Int)] 28) = w7 at *
        refine (oTDraw w7 T7.out.tp).mono ?_
        rw [← HE.out.1, ← HE.out.2.1, ← HE.out.2.2.1]
        rintro e w8 ⟨p2, m2, q2, rfl, hO8, hT8, hK8⟩
        have T8 : Hid (TwoT w w8 X t kb B1 B2 ⟨la, ln, lc⟩ T' T') := T7.out.prog hK8 hT8
        have B8 : Bs w8 p m c S := (H57.out.kp hK8 fun j hj e => by have := T7.out.ht; omega).bs
        have O8 : Bs w8 p2 m2 q2 S := hO8.toBs
        have CSm : Hid (∀ u, Grows w8 u → Calls Try.prog 14 #[.slice p m c, .slice p2 m2 q2] u fun e w' => e = .returned (.bool true) ∧ Below u.heap.size u w') := fun u h => (rSame u (B8.below h (Nat.le_refl _)) (O8.below h (Nat.le_refl _))).mono (by
          rintro e w' ⟨rfl, k', rfl⟩
          rw [decide_eq_true rfl]
          exact ⟨rfl, below_drewN' _ _⟩)
        have CDn : Hid (∀ u, Grows w8 u → Calls Try.prog 15 #[.pointer (some ⟨t, 0, none⟩)] u fun e w' => e = .returned (.int .i64 (nx : Int)) ∧ Below u.heap.size u w') := fun u h => by
          have h1 := oTDrawn u (T8.out.grow h).tp
          rw [← HE.out.2.2.2] at h1
          exact h1
        have CLf : Hid (∀ u, Grows w8 u → Calls Try.prog 16 #[.pointer (some ⟨t, 0, none⟩)] u fun e w' => e = .returned (.int .i64 ((ln : Int) - (nx : Int))) ∧ Below u.heap.size u w') := fun u h => by
          have h1 := oTLeft u (T8.out.grow h).tp
          rw [← HE.out.2.2.2, HD.out.1, HN.out] at h1
          exact h1
        have F0 : ∀ u, Grows w8 u → u.cell? ⟨X, 0, none⟩ = some (.slice la ln lc) := fun u h => (T8.out.grow h).bx.cell 0
        have F1 : ∀ u, Grows w8 u → u.cell? ⟨X, 1, none⟩ = some (.int .i64 (nx : Int)) := fun u h => by
          rw [(T8.out.grow h).bx.cell 1, HE.out.2.2.2]
          rfl
        have hwl : IntKind.i64.wrap ((ln : Int) - (nx : Int)) = (ln : Int) - (nx : Int) := by rw [IntKind.wrap_i64]; omega
        clear B8 O8 hO8 hT8 hK8 H57 T7 dX0 dX1 fX0 fX1 hlX5
        go_wp2_with fail
        refine regionG (S := Grows w8) (by kernel_rfl) (Below.refl _ w8).drew ?_
        refine takeG 0 (some 47) (.slice p m c) rfl rfl (by kernel_rfl) (by kernel_rfl) (by kernel_rfl) (fun _ _ _ h => h) (ans_plain (by rfl) (fun w _ => rfl)) ?_
        simp only [Act.put, List.setIfInBounds_toArray, List.set_cons_zero, List.set_cons_succ]
        refine takeG 1 (some 48) (.slice p2 m2 q2) rfl rfl (by kernel_rfl) (by kernel_rfl) (by kernel_rfl) (fun _ _ _ h => h) (ans_plain (by rfl) (fun w _ => rfl)) ?_
        simp only [Act.put, List.setIfInBounds_toArray, List.set_cons_zero, List.set_cons_succ]
        refine takeG 2 (some 49) (.bool true) rfl rfl (by kernel_rfl) (by kernel_rfl) (by kernel_rfl) (fun _ _ _ h => h) (ans_fn 14 #[.tmp 47, .tmp 48] #[31, 31] #[.slice p m c, .slice p2 m2 q2] rfl (by rfl) (by rfl) Try.call14 fun u h => CSm.out u h) ?_
        simp only [Act.put, List.setIfInBounds_toArray, List.set_cons_zero, List.set_cons_succ]
        refine takeG 3 (some 50) (.bool false) rfl rfl (by kernel_rfl) (by kernel_rfl) (by kernel_rfl) (fun _ _ _ h => h) (ans_plain (by rfl) (fun w _ => by unfold execOp; go_simp)) ?_
        simp only [Act.put, List.setIfInBounds_toArray, List.set_cons_zero, List.set_cons_succ]
        refine takeG 4 (some 51) (.bool false) rfl rfl (by kernel_rfl) (by kernel_rfl) (by kernel_rfl) (fun _ _ _ h => h) (ans_plain (by rfl) (fun w _ => rfl)) ?_
        simp only [Act.put, List.setIfInBounds_toArray, List.set_cons_zero, List.set_cons_succ]
        refine takeG 5 (some 52) (.int .i64 cd) rfl rfl (by kernel_rfl) (by kernel_rfl) (by kernel_rfl) (fun _ _ _ h => h) (ans_plain (by rfl) (fun w _ => rfl)) ?_
        simp only [Act.put, List.setIfInBounds_toArray, List.set_cons_zero, List.set_cons_succ]
        refine takeG 6 (some 53) (.int .i64 cd) rfl rfl (by kernel_rfl) (by kernel_rfl) (by kernel_rfl) (fun _ _ _ h => h) (ans_plain (by rfl) (fun w _ => rfl)) ?_
        simp only [Act.put, List.setIfInBounds_toArray, List.set_cons_zero, List.set_cons_succ]
        refine takeG 7 (some 54) (.bool false) rfl rfl (by kernel_rfl) (by kernel_rfl) (by kernel_rfl) (fun _ _ _ h => h) (ans_plain (by rfl) (fun w _ => by unfold execOp; go_simp)) ?_
        simp only [Act.put, List.setIfInBounds_toArray, List.set_cons_zero, List.set_cons_succ]
        refine takeG 8 (some 55) (.bool false) rfl rfl (by kernel_rfl) (by kernel_rfl) (by kernel_rfl) (fun _ _ _ h => h) (ans_plain (by rfl) (fun w _ => by unfold execOp; go_simp)) ?_
        simp only [Act.put, List.setIfInBounds_toArray, List.set_cons_zero, List.set_cons_succ]
        refine takeG 9 (some 56) (.bool false) rfl rfl (by kernel_rfl) (by kernel_rfl) (by kernel_rfl) (fun _ _ _ h => h) (ans_plain (by rfl) (fun w _ => rfl)) ?_
        simp only [Act.put, List.setIfInBounds_toArray, List.set_cons_zero, List.set_cons_succ]
        refine takeG 10 (some 57) (.pointer (some ⟨t, 0, none⟩)) rfl rfl (by kernel_rfl) (by kernel_rfl) (by kernel_rfl) (fun _ _ _ h => h) (ans_plain (by rfl) (fun w _ => rfl)) ?_
        simp only [Act.put, List.setIfInBounds_toArray, List.set_cons_zero, List.set_cons_succ]
        refine takeG 11 (some 58) (.int .i64 (nx : Int)) rfl rfl (by kernel_rfl) (by kernel_rfl) (by kernel_rfl) (fun _ _ _ h => h) (ans_fn 15 #[.tmp 57] #[25] #[.pointer (some ⟨t, 0, none⟩)] rfl (by rfl) (by rfl) Try.call15 fun u h => CDn.out u h) ?_
        simp only [Act.put, List.setIfInBounds_toArray, List.set_cons_zero, List.set_cons_succ]
        refine takeG 12 (some 59) (.pointer (some ⟨X, 1, none⟩)) rfl rfl (by kernel_rfl) (by kernel_rfl) (by kernel_rfl) (fun _ _ _ h => h) (ans_plain (by rfl) (fun w _ => by unfold execOp; go_simp)) ?_
        simp only [Act.put, List.setIfInBounds_toArray, List.set_cons_zero, List.set_cons_succ]
        refine takeG 13 (some 60) (.int .i64 (nx : Int)) rfl rfl (by kernel_rfl) (by kernel_rfl) (by kernel_rfl) (fun _ _ _ h => h) (ans_plain (by rfl) (fun w h => by have hc := F1 w h; unfold execOp; go_simp)) ?_
        simp only [Act.put, List.setIfInBounds_toArray, List.set_cons_zero, List.set_cons_succ]
        refine takeG 14 (some 61) (.bool false) rfl rfl (by kernel_rfl) (by kernel_rfl) (by kernel_rfl) (fun _ _ _ h => h) (ans_plain (by rfl) (fun w _ => by unfold execOp; go_simp)) ?_
        simp only [Act.put, List.setIfInBounds_toArray, List.set_cons_zero, List.set_cons_succ]
        refine takeG 15 (some 62) (.bool false) rfl rfl (by kernel_rfl) (by kernel_rfl) (by kernel_rfl) (fun _ _ _ h => h) (ans_plain (by rfl) (fun w _ => by unfold execOp; go_simp)) ?_
        simp only [Act.put, List.setIfInBounds_toArray, List.set_cons_zero, List.set_cons_succ]
        refine takeG 16 (some 63) (.bool false) rfl rfl (by kernel_rfl) (by kernel_rfl) (by kernel_rfl) (fun _ _ _ h => h) (ans_plain (by rfl) (fun w _ => rfl)) ?_
        simp only [Act.put, List.setIfInBounds_toArray, List.set_cons_zero, List.set_cons_succ]
        refine takeG 17 (some 64) (.pointer (some ⟨t, 0, none⟩)) rfl rfl (by kernel_rfl) (by kernel_rfl) (by kernel_rfl) (fun _ _ _ h => h) (ans_plain (by rfl) (fun w _ => rfl)) ?_
        simp only [Act.put, List.setIfInBounds_toArray, List.set_cons_zero, List.set_cons_succ]
        refine takeG 18 (some 65) (.int .i64 ((ln : Int) - (nx : Int))) rfl rfl (by kernel_rfl) (by kernel_rfl) (by kernel_rfl) (fun _ _ _ h => h) (ans_fn 16 #[.tmp 64] #[25] #[.pointer (some ⟨t, 0, none⟩)] rfl (by rfl) (by rfl) Try.call16 fun u h => CLf.out u h) ?_
        simp only [Act.put, List.setIfInBounds_toArray, List.set_cons_zero, List.set_cons_succ]
        refine takeG 19 (some 66) (.pointer (some ⟨X, 0, none⟩)) rfl rfl (by kernel_rfl) (by kernel_rfl) (by kernel_rfl) (fun _ _ _ h => h) (ans_plain (by rfl) (fun w _ => by unfold execOp; go_simp)) ?_
        simp only [Act.put, List.setIfInBounds_toArray, List.set_cons_zero, List.set_cons_succ]
        refine takeG 20 (some 67) (.slice la ln lc) rfl rfl (by kernel_rfl) (by kernel_rfl) (by kernel_rfl) (fun _ _ _ h => h) (ans_plain (by rfl) (fun w h => by have hc := F0 w h; unfold execOp; go_simp)) ?_
        simp only [Act.put, List.setIfInBounds_toArray, List.set_cons_zero, List.set_cons_succ]
        refine takeG 21 (some 68) (.int .i64 (ln : Int)) rfl rfl (by kernel_rfl) (by kernel_rfl) (by kernel_rfl) (fun _ _ _ h => h) (ans_plain (by rfl) (fun w _ => by unfold execOp; go_simp)) ?_
        simp only [Act.put, List.setIfInBounds_toArray, List.set_cons_zero, List.set_cons_succ]
        refine takeG 22 (some 69) (.pointer (some ⟨X, 1, none⟩)) rfl rfl (by kernel_rfl) (by kernel_rfl) (by kernel_rfl) (fun _ _ _ h => h) (ans_plain (by rfl) (fun w _ => by unfold execOp; go_simp)) ?_
        simp only [Act.put, List.setIfInBounds_toArray, List.set_cons_zero, List.set_cons_succ]
        refine takeG 23 (some 70) (.int .i64 (nx : Int)) rfl rfl (by kernel_rfl) (by kernel_rfl) (by kernel_rfl) (fun _ _ _ h => h) (ans_plain (by rfl) (fun w h => by have hc := F1 w h; unfold execOp; go_simp)) ?_
        simp only [Act.put, List.setIfInBounds_toArray, List.set_cons_zero, List.set_cons_succ]
        refine takeG 24 (some 71) (.int .i64 ((ln : Int) - (nx : Int))) rfl rfl (by kernel_rfl) (by kernel_rfl) (by kernel_rfl) (fun _ _ _ h => h) (ans_plain (by rfl) (fun w _ => by unfold execOp; go_simp)) ?_
        simp only [Act.put, List.setIfInBounds_toArray, List.set_cons_zero, List.set_cons_succ]
        refine takeG 25 (some 72) (.bool false) rfl rfl (by kernel_rfl) (by kernel_rfl) (by kernel_rfl) (fun _ _ _ h => h) (ans_plain (by rfl) (fun w _ => by unfold execOp; go_simp)) ?_
        simp only [Act.put, List.setIfInBounds_toArray, List.set_cons_zero, List.set_cons_succ]
        refine takeG 26 (some 73) (.bool false) rfl rfl (by kernel_rfl) (by kernel_rfl) (by kernel_rfl) (fun _ _ _ h => h) (ans_plain (by rfl) (fun w _ => by unfold execOp; go_simp)) ?_
        simp only [Act.put, List.setIfInBounds_toArray, List.set_cons_zero, List.set_cons_succ]
        refine doneG (by kernel_rfl) fun w9 hg9 hs9 => ?_
        have T9 : Hid (TwoT w w9 X t kb B1 B2 ⟨la, ln, lc⟩ T' T') := T8.out.grow hs9
        clear CSm CDn CLf F0 F1 hwl T8 hg9 hs9
        go_wp2_with fail
        go_roundw
        case rel => exact ⟨k + 1, T', by omega, by go_num, by rw [HD.out.1]; exact HD.out.2.2, HD.out.2.1, T9⟩
        case measure => simp [intOf]; omega
      · have i1 : ¬ (k : Int) < (R : Int) := by omega
        have b9 := TW.out.bel
        go_wp2_with fail
        refine (lWorks11 wr).mono ?_
        rintro e w7 ⟨rfl, hb7⟩
        go_wp2_with fail
        go_ret
        exact ⟨rfl, b9.trans (hb7.mono b9.size)⟩

set_option maxRecDepth 100000 in
theorem lifted (os : Os) (started : os.Started) (H : Type) (enc : TypeId × Value → H) :
    ReturnsInHanded {} Try.checked os 3 .any (Rows.tapeDrawsSpec.pre6 enc Try.prog Try.f3 Rows.tapeDrawsRow.domain false) (Rows.tapeDrawsSpec.post enc Try.prog Try.f3 false true false false) := by
  refine returnsInHanded_of_change (C := Try.checked) own started (by kernel_rfl) Try.func3
    (ChangeSpec.witness6 (enc := enc) (C := Try.checked) false ⟨#[], #[.slice none 0 0, .int .u8 0], []⟩ 8 (by kernel_rfl) (by kernel_rfl) (by kernel_rfl) (by kernel_rfl)) ?_
  intro W base args ds gs before hval0 hW hcnd _
  have hval : ∀ (j : Nat) t v, Try.f3.params[j]? = some t → args[j]? = some v → Value.okWide Try.prog W .any base t v := hval0
  have hW' := hW
  obtain ⟨p, q, hA0, hV, rfl, hfz, hnd⟩ := hW
  have hA : DataW.TrodAll enc Try.prog W 0 (fun _ => true) true Try.f3.params.toList args.toList ds p := hA0
  rw [Try.params3] at hA hval
  obtain ⟨v0, vs0, d0, ds0, p0, q0, hargs, rfl, rfl, h0, r0⟩ := trodAll_cons hA
  obtain ⟨v1, vs1, d1, ds1, p1, q1, rfl, rfl, rfl, h1, r1⟩ := trodAll_cons r0
  obtain ⟨rfl, rfl, rfl⟩ := trodAll_nil r1
  obtain rfl : args = #[v0, v1] := by cases args; simp_all
  obtain ⟨rfl, rfl⟩ := trodVars_none hV
  obtain ⟨a0, len0, cap0, rfl⟩ := okWide_slice Try.underlying22 (hval 0 22 v0 rfl rfl)
  have k0 := h0
  have lt0 : ∀ x ∈ p0, x.block < W.heap.size := by obtain ⟨m, hm⟩ := k0; exact DataW.trod_lt m _ _ _ hm
  obtain ⟨l0, w0⟩ : ∃ l, Bss W a0 len0 cap0 l := by
    obtain ⟨fuel, hf⟩ := h0
    exact Bss.of_trod hf
  obtain ⟨a1, rfl, rfl, rfl, w1⟩ := open_int Try.underlying5 (hval 1 5 v1 rfl rfl) h1
  clear hA0 hval0
  refine (walk a0 len0 cap0 l0 a1 W w0 w1).mono fun e W' ⟨he, bel⟩ => ?_
  subst he
  exact ⟨_, rfl, _, _, _, [], _, [], hW', trodAll_mk1 (shut_bool Try.underlying4 _), (trodAll_cons_mk (Below.trod laidOut (by kernel_rfl) (of_decide_eq_true (by kernel_rfl)) k0 bel lt0) (trodAll_cons_mk (shut_int Try.underlying5 w1) trodAll_mk0)), rfl, bel.frame _, fun h => by cases h⟩

theorem over : Rows.tapeDrawsRow.holds Try.pinned (OpenSpec.ofChange Rows.tapeDrawsSpec) :=
  OpenClaim.holds_of_wide 3 Try.f3 rfl rfl rfl rfl rfl rfl rfl ⟨rfl, rfl, rfl, rfl, rfl⟩ rfl rfl rfl rfl rfl (by kernel_rfl) Try.func3 (by kernel_rfl)
    (of_decide_eq_true (by kernel_rfl)) (by unfold Func.isWrapper; first | (rw [if_pos (by decide +kernel)]; kernel_rfl) | (rw [if_neg (by decide +kernel)]; exact ⟨rfl, rfl⟩))
    (fun os started H enc _ => lifted os started H enc)
end TapeDrawsLaw

/-- The statement. -/
theorem tapeDraws_holds : Rows.TapeDrawsSaid := TapeDrawsLaw.over
#print axioms tapeDraws_holds
end Go.Proofs.Ytphkkbkfioaikaa
