/-
  Proved: for any node (and any bytes) the statement NodePuts of layer 18 answers true and leaves its arguments as they were. Conditions beside the statement's own: none.
-/
import Derived.Test.YtnmmopneacdgfaaRows
import Derived.Test.YtnmmopneacdgfaaI21
import Derived.Below
import Derived.Deep.DeepCutAuto
import Derived.Deep.CutBlock
import Derived.ChangeOld
namespace Go.Proofs.Ytnmmopneacdgfaa
namespace NodePutsLaw
open Go.ChangeShapes Go.WideShapes Go.ChangeAt Go.RowKit
open Go.ChangeMaps (open_string shut_string)
set_option linter.unusedVariables false

theorem own : ownKnob Try.prog.godebug = none := by kernel_rfl
theorem laidOut : laidOutB Try.prog = true := by kernel_rfl

set_option maxRecDepth 100000 in
set_option maxHeartbeats 4000000 in
theorem walk (n0 : NodeS) (p0_ q0_ : Tri) (a1 : Option Addr) (len1 cap1 : Nat) (l1 : List UInt8) (w : World) (w0 : NdIn w n0 p0_ q0_) (w1 : Bs w a1 len1 cap1 l1) :
    Calls Try.prog 3 #[.agg (ndc n0 p0_ q0_).toArray, .slice a1 len1 cap1] w fun e w' => e = .returned (.bool true) ∧ Below w.heap.size w w' := by
  have N : Nd (fun _ => True) w n0 p0_ q0_ := Nd.mono w0 fun _ _ _ => trivial
  have B : Bs w a1 len1 cap1 l1 := w1
  clear w0 w1
  obtain ⟨pa, pn, pc⟩ := p0_
  obtain ⟨qa, qn, qc⟩ := q0_
  obtain ⟨V, hV⟩ : ∃ V, V = w.alloc (.cells (List.toArray [.bool n0.leaf, .slice pa pn pc, .slice qa qn qc]) 25) := ⟨_, rfl⟩
  have X : Blk V w.heap.size [.bool n0.leaf, .slice pa pn pc, .slice qa qn qc] 25 := by rw [hV]; exact Blk.newAt w _ _ w.heap.size rfl _ rfl
  have q : Below w.heap.size w V := by rw [hV]; exact below_alloc _ _
  replace N := N.below q
  replace B := B.below q (Nat.le_refl _)
  have CL0 := lLight18 V N
  have CL : Hid (Calls Try.prog 7 #[.agg (List.toArray [.bool n0.leaf, .slice pa pn pc, .slice qa qn qc])] V fun e w' => ∃ z : Int, e = .returned (.int .i64 z) ∧ (z = 0 ∧ Ltd n0 ∨ z = 1) ∧ Below V.heap.size V w') := CL0
  clear CL0
  unfold ndc
  dsimp only
  by_cases c1 : (600 : Int) < (len1 : Int)
  · skip
    go_enter Try.func3, Try.ntmps3
    go_upto_region 1 with fail
    rw [← hV]
    clear hV
    go_wp2_with (first | ((with_reducible refine at_ld 25 ?_); (refine ld 25 (.tmp 2) 3 sizeNd _ Try.underlying25 rfl (w.heap.size) 0 [.bool n0.leaf, .slice pa pn pc, .slice qa qn qc] rfl X.whole rfl ?_)) | (go_at_call 7; go_must (refine CL.out.mono ?_); rintro e W1 ⟨z, rfl, hz, k1⟩; (with_reducible refine Hid.out ?_)))
    clear CL
    replace N := N.below k1
    replace B := B.below k1 (Nat.le_refl _)
    replace X := X.below k1 X.lt
    replace q := q.trans (k1.mono q.size)
    clear k1
    unfold Hid
    rcases hz with ⟨rfl, hL⟩ | rfl
    all_goals (go_wp2_with (first | (go_at_call 8; go_must (refine (lWorks18 _).mono ?_); rintro e W9 ⟨rfl, kw⟩; replace N := N.below kw; replace B := B.below kw (Nat.le_refl _); replace X := X.below kw X.lt; replace q := q.trans (kw.mono q.size); clear kw)))
    all_goals (go_ret; exact ⟨rfl, q⟩)
  · skip
    go_enter Try.func3, Try.ntmps3
    go_upto_region 1 with fail
    rw [← hV]
    clear hV
    go_wp2_with (first | ((with_reducible refine at_ld 25 ?_); (refine ld 25 (.tmp 2) 3 sizeNd _ Try.underlying25 rfl (w.heap.size) 0 [.bool n0.leaf, .slice pa pn pc, .slice qa qn qc] rfl X.whole rfl ?_)) | (go_at_call 7; go_must (refine CL.out.mono ?_); rintro e W1 ⟨z, rfl, hz, k1⟩; (with_reducible refine Hid.out ?_)))
    clear CL
    replace N := N.below k1
    replace B := B.below k1 (Nat.le_refl _)
    replace X := X.below k1 X.lt
    replace q := q.trans (k1.mono q.size)
    clear k1
    unfold Hid
    rcases hz with ⟨rfl, hL⟩ | rfl
    rotate_left 1
    · go_wp2_with (first | (go_at_call 8; go_must (refine (lWorks18 _).mono ?_); rintro e W9 ⟨rfl, kw⟩; replace N := N.below kw; replace B := B.below kw (Nat.le_refl _); replace X := X.below kw X.lt; replace q := q.trans (kw.mono q.size); clear kw))
      go_ret
      exact ⟨rfl, q⟩
    obtain ⟨cc, hcc⟩ : ∃ cc, chkN n0 = cc := ⟨_, rfl⟩
    obtain ⟨P, hP⟩ : ∃ P, putN n0 = P := ⟨_, rfl⟩
    obtain ⟨sz, hsz⟩ : ∃ sz, sizeN n0 = sz := ⟨_, rfl⟩
    obtain ⟨G, y, hG⟩ : ∃ G y, getNd l1 = (G, y) := ⟨_, _, rfl⟩
    have hGL := get_lit hG
    have hm : len1 ≤ 100000 := by omega
    go_wp2_with (first | ((with_reducible refine at_ld 25 ?_); (refine ld 25 (.tmp 2) 3 sizeNd _ Try.underlying25 rfl (w.heap.size) 0 [.bool n0.leaf, .slice pa pn pc, .slice qa qn qc] rfl X.whole rfl ?_)) | (go_at_call 9; (with_reducible refine Hid.out ?_)))
    unfold Hid
    refine (pPutF N hL.lit hcc hP).mono ?_
    rintro e W2 ⟨s2, m2, c2, rfl, P2, k2⟩
    replace N := N.below k2
    replace B := B.below k2 (Nat.le_refl _)
    replace X := X.below k2 X.lt
    replace q := q.trans (k2.mono q.size)
    clear k2
    go_wp2_with (first | ((with_reducible refine at_ld 25 ?_); (refine ld 25 (.tmp 2) 3 sizeNd _ Try.underlying25 rfl (w.heap.size) 0 [.bool n0.leaf, .slice pa pn pc, .slice qa qn qc] rfl X.whole rfl ?_)) | (go_at_call 10; (with_reducible refine Hid.out ?_)))
    unfold Hid
    refine (qPutF N hL.lit hcc hP).mono ?_
    rintro e W3 ⟨s3, m3, c3, rfl, P3, k3⟩
    replace N := N.below k3
    replace B := B.below k3 (Nat.le_refl _)
    replace X := X.below k3 X.lt
    replace q := q.trans (k3.mono q.size)
    replace P2 := P2.below k3 (Nat.le_refl _)
    clear k3
    go_wp2_with (first | (go_at_call 11; (with_reducible refine Hid.out ?_)))
    unfold Hid
    refine (pGetB B hm hG).mono ?_
    rintro e W4 ⟨p4, q4, rfl, N4, k4⟩
    replace N := N.below k4
    replace B := B.below k4 (Nat.le_refl _)
    replace X := X.below k4 X.lt
    replace q := q.trans (k4.mono q.size)
    replace P2 := P2.below k4 (Nat.le_refl _)
    replace P3 := P3.below k4 (Nat.le_refl _)
    clear k4
    go_wp2_with (first | ((with_reducible refine at_st 25 ?_); (with_reducible refine Hid.out ?_)))
    unfold Hid
    obtain ⟨U, hU⟩ : ∃ U, U = W4.alloc (.cells #[.bool false, .slice none 0 0, .slice none 0 0] 25) := ⟨_, rfl⟩
    rw [← hU]
    have tU : Blk U W4.heap.size [.bool false, .slice none 0 0, .slice none 0 0] 25 := by rw [hU]; exact Blk.newAt W4 _ _ _ rfl _ rfl
    refine st' 25 (.tmp 9) (.tmp 35) 3 sizeNd W4.heap.size 0 (ndc G p4 q4) rfl (ndc_one G p4 q4) (tU.there 0 3 (by decide)) rfl rfl ?_
    intro W5 hW
    rw [hU] at hW
    clear tU hU
    obtain ⟨k5, sW, X9⟩ := box3 W4 _ _ rfl rfl hW
    clear hW sW
    obtain ⟨gX9, hgX⟩ : ∃ g, g = W4.heap.size := ⟨_, rfl⟩
    rw [← hgX] at X9 ⊢
    clear hgX
    replace N := N.below k5
    replace B := B.below k5 (Nat.le_refl _)
    replace X := X.below k5 X.lt
    replace q := q.trans (k5.mono q.size)
    replace P2 := P2.below k5 (Nat.le_refl _)
    replace P3 := P3.below k5 (Nat.le_refl _)
    replace N4 := N4.below k5
    clear k5
    go_wp2_with (first | (go_at_call 12; (with_reducible refine Hid.out ?_)))
    unfold Hid
    refine (qGetB B hG).mono ?_
    rintro e W6 ⟨p6, q6, rfl, N6, k6⟩
    replace N := N.below k6
    replace B := B.below k6 (Nat.le_refl _)
    replace X := X.below k6 X.lt
    replace q := q.trans (k6.mono q.size)
    replace P2 := P2.below k6 (Nat.le_refl _)
    replace P3 := P3.below k6 (Nat.le_refl _)
    replace N4 := N4.below k6
    replace X9 := X9.below k6 X9.lt
    clear k6
    go_wp2_with (first | ((with_reducible refine at_st 25 ?_); (with_reducible refine Hid.out ?_)))
    unfold Hid
    obtain ⟨U, hU⟩ : ∃ U, U = W6.alloc (.cells #[.bool false, .slice none 0 0, .slice none 0 0] 25) := ⟨_, rfl⟩
    rw [← hU]
    have tU : Blk U W6.heap.size [.bool false, .slice none 0 0, .slice none 0 0] 25 := by rw [hU]; exact Blk.newAt W6 _ _ _ rfl _ rfl
    refine st' 25 (.tmp 11) (.tmp 40) 3 sizeNd W6.heap.size 0 (ndc G p6 q6) rfl (ndc_one G p6 q6) (tU.there 0 3 (by decide)) rfl rfl ?_
    intro W7 hW
    rw [hU] at hW
    clear tU hU
    obtain ⟨k7, sW, X11⟩ := box3 W6 _ _ rfl rfl hW
    clear hW sW
    obtain ⟨gX11, hgX⟩ : ∃ g, g = W6.heap.size := ⟨_, rfl⟩
    rw [← hgX] at X11 ⊢
    clear hgX
    replace N := N.below k7
    replace B := B.below k7 (Nat.le_refl _)
    replace X := X.below k7 X.lt
    replace q := q.trans (k7.mono q.size)
    replace P2 := P2.below k7 (Nat.le_refl _)
    replace P3 := P3.below k7 (Nat.le_refl _)
    replace N4 := N4.below k7
    replace X9 := X9.below k7 X9.lt
    replace N6 := N6.below k7
    clear k7
    have C2 : Hid (∀ u, Grows W7 u → Calls Try.prog 13 #[.slice s2 m2 c2, .slice s3 m3 c3] u fun e w' => e = .returned (.bool true) ∧ Below u.heap.size u w') := fun u hu => pSameB (P2.below hu (Nat.le_refl _)) (P3.below hu (Nat.le_refl _))
    have C3 : Hid (∀ u, Grows W7 u → Calls Try.prog 14 #[.agg (List.toArray [.bool n0.leaf, .slice pa pn pc, .slice qa qn qc])] u fun e w' => e = .returned (.int .i64 cc) ∧ Below u.heap.size u w') := fun u hu => pChkF (N.below hu) hL.lit hcc
    have C4 : Hid (∀ u, Grows W7 u → Calls Try.prog 15 #[.agg (List.toArray [.bool n0.leaf, .slice pa pn pc, .slice qa qn qc])] u fun e w' => e = .returned (.int .i64 cc) ∧ Below u.heap.size u w') := fun u hu => pCheck (N.below hu) hL.lit hcc
    have C5 : Hid (∀ u, Grows W7 u → Calls Try.prog 16 #[.agg (List.toArray [.bool n0.leaf, .slice pa pn pc, .slice qa qn qc])] u fun e w' => e = .returned (.int .i64 (sz : Int)) ∧ Below u.heap.size u w') := fun u hu => pSizF (N.below hu) hL.lit hsz
    have C6 : Hid (∀ u, Grows W7 u → Calls Try.prog 17 #[.agg (List.toArray [.bool n0.leaf, .slice pa pn pc, .slice qa qn qc])] u fun e w' => e = .returned (.int .i64 (sz : Int)) ∧ Below u.heap.size u w') := fun u hu => qSizF (N.below hu) hL.lit hsz
    have C7 : Hid (∀ u, Grows W7 u → Calls Try.prog 18 #[.agg (ndc G p4 q4).toArray, .agg (ndc G p6 q6).toArray] u fun e w' => e = .returned (.bool true) ∧ Below u.heap.size u w') := fun u hu => pSameF (N4.below hu) (N6.below hu) hGL
    clear hcc hP hsz hG hGL hm hL
    go_wp2_with fail
    refine regionG (S := Grows W7) (by kernel_rfl) (Below.refl _ W7).drew ?_
    refine takeG 0 (some 42) (.slice s2 m2 c2) rfl rfl (by kernel_rfl) (by kernel_rfl) (by kernel_rfl) (fun _ _ _ h => h) (ans_plain (by rfl) (fun w _ => rfl)) ?_
    simp only [Act.put, List.setIfInBounds_toArray, List.set_cons_zero, List.set_cons_succ]
    refine takeG 1 (some 43) (.slice s3 m3 c3) rfl rfl (by kernel_rfl) (by kernel_rfl) (by kernel_rfl) (fun _ _ _ h => h) (ans_plain (by rfl) (fun w _ => rfl)) ?_
    simp only [Act.put, List.setIfInBounds_toArray, List.set_cons_zero, List.set_cons_succ]
    refine takeG 2 (some 44) (.bool true) rfl rfl (by kernel_rfl) (by kernel_rfl) (by kernel_rfl) (fun _ _ _ h => h) (ans_fn 13 #[.tmp 42, .tmp 43] #[26, 26] #[.slice s2 m2 c2, .slice s3 m3 c3] rfl (by rfl) (by rfl) Try.call13 fun u h => C2.out u h) ?_
    simp only [Act.put, List.setIfInBounds_toArray, List.set_cons_zero, List.set_cons_succ]
    refine takeG 3 (some 45) (.bool true) rfl rfl (by kernel_rfl) (by kernel_rfl) (by kernel_rfl) (fun _ _ _ h => h) (ans_plain (by rfl) (fun w _ => rfl)) ?_
    simp only [Act.put, List.setIfInBounds_toArray, List.set_cons_zero, List.set_cons_succ]
    refine takeG 4 (some 46) (.int .i64 cc) rfl rfl (by kernel_rfl) (by kernel_rfl) (by kernel_rfl) (fun _ _ _ h => h) (ans_plain (by rfl) (fun w _ => rfl)) ?_
    simp only [Act.put, List.setIfInBounds_toArray, List.set_cons_zero, List.set_cons_succ]
    refine takeG 5 (some 47) (.int .i64 cc) rfl rfl (by kernel_rfl) (by kernel_rfl) (by kernel_rfl) (fun _ _ _ h => h) (ans_plain (by rfl) (fun w _ => rfl)) ?_
    simp only [Act.put, List.setIfInBounds_toArray, List.set_cons_zero, List.set_cons_succ]
    refine takeG 6 (some 48) (.bool true) rfl rfl (by kernel_rfl) (by kernel_rfl) (by kernel_rfl) (fun _ _ _ h => h) (ans_eqI (.tmp 46) (.tmp 47) rfl (by rfl) cc rfl rfl) ?_
    simp only [Act.put, List.setIfInBounds_toArray, List.set_cons_zero, List.set_cons_succ]
    refine takeG 7 (some 49) (.bool true) rfl rfl (by kernel_rfl) (by kernel_rfl) (by kernel_rfl) (fun _ _ _ h => h) (ans_plain (by rfl) (fun w _ => by unfold execOp; go_simp)) ?_
    simp only [Act.put, List.setIfInBounds_toArray, List.set_cons_zero, List.set_cons_succ]
    refine takeG 8 (some 50) (.bool true) rfl rfl (by kernel_rfl) (by kernel_rfl) (by kernel_rfl) (fun _ _ _ h => h) (ans_plain (by rfl) (fun w _ => rfl)) ?_
    simp only [Act.put, List.setIfInBounds_toArray, List.set_cons_zero, List.set_cons_succ]
    refine takeG 9 (some 51) (.agg (List.toArray [.bool n0.leaf, .slice pa pn pc, .slice qa qn qc])) rfl rfl (by kernel_rfl) (by kernel_rfl) (by kernel_rfl) (fun _ _ _ h => h) (ans_row 25 (.tmp 2) _ 3 rfl (by rfl) w.heap.size 0 rfl ([.bool n0.leaf, .slice pa pn pc, .slice qa qn qc]) (fun u hu => (X.below hu X.lt).whole) Try.underlying25 rfl rfl sizeNd) ?_
    simp only [Act.put, List.setIfInBounds_toArray, List.set_cons_zero, List.set_cons_succ]
    refine takeG 10 (some 52) (.int .i64 cc) rfl rfl (by kernel_rfl) (by kernel_rfl) (by kernel_rfl) (fun _ _ _ h => h) (ans_fn 14 #[.tmp 51] #[25] #[.agg (List.toArray [.bool n0.leaf, .slice pa pn pc, .slice qa qn qc])] rfl (by rfl) (by rfl) Try.call14 fun u h => C3.out u h) ?_
    simp only [Act.put, List.setIfInBounds_toArray, List.set_cons_zero, List.set_cons_succ]
    refine takeG 11 (some 53) (.agg (List.toArray [.bool n0.leaf, .slice pa pn pc, .slice qa qn qc])) rfl rfl (by kernel_rfl) (by kernel_rfl) (by kernel_rfl) (fun _ _ _ h => h) (ans_row 25 (.tmp 2) _ 3 rfl (by rfl) w.heap.size 0 rfl ([.bool n0.leaf, .slice pa pn pc, .slice qa qn qc]) (fun u hu => (X.below hu X.lt).whole) Try.underlying25 rfl rfl sizeNd) ?_
    simp only [Act.put, List.setIfInBounds_toArray, List.set_cons_zero, List.set_cons_succ]
    refine takeG 12 (some 54) (.int .i64 cc) rfl rfl (by kernel_rfl) (by kernel_rfl) (by kernel_rfl) (fun _ _ _ h => h) (ans_fn 15 #[.tmp 53] #[25] #[.agg (List.toArray [.bool n0.leaf, .slice pa pn pc, .slice qa qn qc])] rfl (by rfl) (by rfl) Try.call15 fun u h => C4.out u h) ?_
    simp only [Act.put, List.setIfInBounds_toArray, List.set_cons_zero, List.set_cons_succ]
    refine takeG 13 (some 55) (.bool true) rfl rfl (by kernel_rfl) (by kernel_rfl) (by kernel_rfl) (fun _ _ _ h => h) (ans_eqI (.tmp 52) (.tmp 54) rfl (by rfl) cc rfl rfl) ?_
    simp only [Act.put, List.setIfInBounds_toArray, List.set_cons_zero, List.set_cons_succ]
    refine takeG 14 (some 56) (.bool true) rfl rfl (by kernel_rfl) (by kernel_rfl) (by kernel_rfl) (fun _ _ _ h => h) (ans_plain (by rfl) (fun w _ => by unfold execOp; go_simp)) ?_
    simp only [Act.put, List.setIfInBounds_toArray, List.set_cons_zero, List.set_cons_succ]
    refine takeG 15 (some 57) (.bool true) rfl rfl (by kernel_rfl) (by kernel_rfl) (by kernel_rfl) (fun _ _ _ h => h) (ans_plain (by rfl) (fun w _ => rfl)) ?_
    simp only [Act.put, List.setIfInBounds_toArray, List.set_cons_zero, List.set_cons_succ]
    refine takeG 16 (some 58) (.agg (List.toArray [.bool n0.leaf, .slice pa pn pc, .slice qa qn qc])) rfl rfl (by kernel_rfl) (by kernel_rfl) (by kernel_rfl) (fun _ _ _ h => h) (ans_row 25 (.tmp 2) _ 3 rfl (by rfl) w.heap.size 0 rfl ([.bool n0.leaf, .slice pa pn pc, .slice qa qn qc]) (fun u hu => (X.below hu X.lt).whole) Try.underlying25 rfl rfl sizeNd) ?_
    simp only [Act.put, List.setIfInBounds_toArray, List.set_cons_zero, List.set_cons_succ]
    refine takeG 17 (some 59) (.int .i64 (sz : Int)) rfl rfl (by kernel_rfl) (by kernel_rfl) (by kernel_rfl) (fun _ _ _ h => h) (ans_fn 16 #[.tmp 58] #[25] #[.agg (List.toArray [.bool n0.leaf, .slice pa pn pc, .slice qa qn qc])] rfl (by rfl) (by rfl) Try.call16 fun u h => C5.out u h) ?_
    simp only [Act.put, List.setIfInBounds_toArray, List.set_cons_zero, List.set_cons_succ]
    refine takeG 18 (some 60) (.agg (List.toArray [.bool n0.leaf, .slice pa pn pc, .slice qa qn qc])) rfl rfl (by kernel_rfl) (by kernel_rfl) (by kernel_rfl) (fun _ _ _ h => h) (ans_row 25 (.tmp 2) _ 3 rfl (by rfl) w.heap.size 0 rfl ([.bool n0.leaf, .slice pa pn pc, .slice qa qn qc]) (fun u hu => (X.below hu X.lt).whole) Try.underlying25 rfl rfl sizeNd) ?_
    simp only [Act.put, List.setIfInBounds_toArray, List.set_cons_zero, List.set_cons_succ]
    refine takeG 19 (some 61) (.int .i64 (sz : Int)) rfl rfl (by kernel_rfl) (by kernel_rfl) (by kernel_rfl) (fun _ _ _ h => h) (ans_fn 17 #[.tmp 60] #[25] #[.agg (List.toArray [.bool n0.leaf, .slice pa pn pc, .slice qa qn qc])] rfl (by rfl) (by rfl) Try.call17 fun u h => C6.out u h) ?_
    simp only [Act.put, List.setIfInBounds_toArray, List.set_cons_zero, List.set_cons_succ]
    refine takeG 20 (some 62) (.bool true) rfl rfl (by kernel_rfl) (by kernel_rfl) (by kernel_rfl) (fun _ _ _ h => h) (ans_eqI (.tmp 59) (.tmp 61) rfl (by rfl) (sz : Int) rfl rfl) ?_
    simp only [Act.put, List.setIfInBounds_toArray, List.set_cons_zero, List.set_cons_succ]
    refine takeG 21 (some 63) (.bool true) rfl rfl (by kernel_rfl) (by kernel_rfl) (by kernel_rfl) (fun _ _ _ h => h) (ans_plain (by rfl) (fun w _ => by unfold execOp; go_simp)) ?_
    simp only [Act.put, List.setIfInBounds_toArray, List.set_cons_zero, List.set_cons_succ]
    refine takeG 22 (some 64) (.bool true) rfl rfl (by kernel_rfl) (by kernel_rfl) (by kernel_rfl) (fun _ _ _ h => h) (ans_plain (by rfl) (fun w _ => rfl)) ?_
    simp only [Act.put, List.setIfInBounds_toArray, List.set_cons_zero, List.set_cons_succ]
    refine takeG 23 (some 65) (.agg (ndc G p4 q4).toArray) rfl rfl (by kernel_rfl) (by kernel_rfl) (by kernel_rfl) (fun _ _ _ h => h) (ans_row 25 (.tmp 9) _ 3 rfl (by rfl) gX9 0 rfl (ndc G p4 q4) (fun u hu => (X9.below hu X9.lt).whole) Try.underlying25 rfl rfl sizeNd) ?_
    simp only [Act.put, List.setIfInBounds_toArray, List.set_cons_zero, List.set_cons_succ]
    refine takeG 24 (some 66) (.agg (ndc G p6 q6).toArray) rfl rfl (by kernel_rfl) (by kernel_rfl) (by kernel_rfl) (fun _ _ _ h => h) (ans_row 25 (.tmp 11) _ 3 rfl (by rfl) gX11 0 rfl (ndc G p6 q6) (fun u hu => (X11.below hu X11.lt).whole) Try.underlying25 rfl rfl sizeNd) ?_
    simp only [Act.put, List.setIfInBounds_toArray, List.set_cons_zero, List.set_cons_succ]
    refine takeG 25 (some 67) (.bool true) rfl rfl (by kernel_rfl) (by kernel_rfl) (by kernel_rfl) (fun _ _ _ h => h) (ans_fn 18 #[.tmp 65, .tmp 66] #[25, 25] #[.agg (ndc G p4 q4).toArray, .agg (ndc G p6 q6).toArray] rfl (by rfl) (by rfl) Try.call18 fun u h => C7.out u h) ?_
    simp only [Act.put, List.setIfInBounds_toArray, List.set_cons_zero, List.set_cons_succ]
    refine takeG 26 (some 68) (.bool true) rfl rfl (by kernel_rfl) (by kernel_rfl) (by kernel_rfl) (fun _ _ _ h => h) (ans_plain (by rfl) (fun w _ => by unfold execOp; go_simp)) ?_
    simp only [Act.put, List.setIfInBounds_toArray, List.set_cons_zero, List.set_cons_succ]
    refine takeG 27 (some 69) (.bool true) rfl rfl (by kernel_rfl) (by kernel_rfl) (by kernel_rfl) (fun _ _ _ h => h) (ans_plain (by rfl) (fun w _ => rfl)) ?_
    simp only [Act.put, List.setIfInBounds_toArray, List.set_cons_zero, List.set_cons_succ]
    refine takeG 28 (some 70) (.int .i64 y) rfl rfl (by kernel_rfl) (by kernel_rfl) (by kernel_rfl) (fun _ _ _ h => h) (ans_plain (by rfl) (fun w _ => rfl)) ?_
    simp only [Act.put, List.setIfInBounds_toArray, List.set_cons_zero, List.set_cons_succ]
    refine takeG 29 (some 71) (.int .i64 y) rfl rfl (by kernel_rfl) (by kernel_rfl) (by kernel_rfl) (fun _ _ _ h => h) (ans_plain (by rfl) (fun w _ => rfl)) ?_
    simp only [Act.put, List.setIfInBounds_toArray, List.set_cons_zero, List.set_cons_succ]
    refine takeG 30 (some 72) (.bool true) rfl rfl (by kernel_rfl) (by kernel_rfl) (by kernel_rfl) (fun _ _ _ h => h) (ans_eqI (.tmp 70) (.tmp 71) rfl (by rfl) y rfl rfl) ?_
    simp only [Act.put, List.setIfInBounds_toArray, List.set_cons_zero, List.set_cons_succ]
    refine takeG 31 (some 73) (.bool true) rfl rfl (by kernel_rfl) (by kernel_rfl) (by kernel_rfl) (fun _ _ _ h => h) (ans_plain (by rfl) (fun w _ => by unfold execOp; go_simp)) ?_
    simp only [Act.put, List.setIfInBounds_toArray, List.set_cons_zero, List.set_cons_succ]
    refine takeG 32 (some 74) (.bool true) rfl rfl (by kernel_rfl) (by kernel_rfl) (by kernel_rfl) (fun _ _ _ h => h) (ans_plain (by rfl) (fun w _ => rfl)) ?_
    simp only [Act.put, List.setIfInBounds_toArray, List.set_cons_zero, List.set_cons_succ]
    refine takeG 33 (some 75) (.bool true) rfl rfl (by kernel_rfl) (by kernel_rfl) (by kernel_rfl) (fun _ _ _ h => h) (ans_fn 8 #[] #[] #[] rfl (by rfl) (by rfl) Try.call8 fun u h => lWorks18 u) ?_
    simp only [Act.put, List.setIfInBounds_toArray, List.set_cons_zero, List.set_cons_succ]
    refine takeG 34 (some 76) (.bool true) rfl rfl (by kernel_rfl) (by kernel_rfl) (by kernel_rfl) (fun _ _ _ h => h) (ans_plain (by rfl) (fun w _ => by unfold execOp; go_simp)) ?_
    simp only [Act.put, List.setIfInBounds_toArray, List.set_cons_zero, List.set_cons_succ]
    refine takeG 35 (some 4) (.bool true) rfl rfl (by kernel_rfl) (by kernel_rfl) (by kernel_rfl) (fun _ _ _ h => h) (ans_plain (by rfl) (fun w _ => rfl)) ?_
    simp only [Act.put, List.setIfInBounds_toArray, List.set_cons_zero, List.set_cons_succ]
    refine doneG (by kernel_rfl) fun v8 hg_v8 hs_v8 => ?_
    replace q := q.trans (Below.mono hs_v8 q.size)
    go_wp2_with fail
    go_ret
    exact ⟨rfl, q⟩

set_option maxRecDepth 100000 in
theorem lifted (os : Os) (started : os.Started) (H : Type) (enc : TypeId × Value → H) :
    ReturnsInHanded {} Try.checked os 3 .any (Rows.nodePutsSpec.pre6 enc Try.prog Try.f3 Rows.nodePutsRow.domain false) (Rows.nodePutsSpec.post enc Try.prog Try.f3 false true false false) := by
  refine returnsInHanded_of_change (C := Try.checked) own started (by kernel_rfl) Try.func3
    (ChangeSpec.witness6 (enc := enc) (C := Try.checked) false ⟨#[], #[.agg #[.bool false, .slice none 0 0, .slice none 0 0], .slice none 0 0], []⟩ 8 (by kernel_rfl) (by kernel_rfl) (by kernel_rfl) (by kernel_rfl)) ?_
  intro W base args ds gs before hval0 hW hcnd _
  have hval : ∀ (j : Nat) t v, Try.f3.params[j]? = some t → args[j]? = some v → Value.okWide Try.prog W .any base t v := hval0
  have hW' := hW
  obtain ⟨p, q, hA0, hV, rfl, hfz, hnd⟩ := hW
  have hA : DataW.TrodAll enc Try.prog W 0 (fun _ => true) true Try.f3.params.toList args.toList ds p := hA0
  rw [Try.params3] at hA hval
  obtain ⟨v0, vs0, d0, ds0, p0, q0, hargs, rfl, rfl, h0, r0⟩ := trodAll_cons hA
  obtain ⟨v1, vs1, d1, ds1, p1, q1, rfl, rfl, rfl, h1, r1⟩ := trodAll_cons r0
  obtain ⟨rfl, rfl, rfl⟩ := trodAll_nil r1
  obtain rfl : args = #[v0, v1] := by cases args; simp_all
  obtain ⟨rfl, rfl⟩ := trodVars_none hV
  obtain ⟨x0, rfl⟩ := okWide_nd (hval 0 25 v0 rfl rfl)
  have k0 := h0
  have lt0 : ∀ x ∈ p0, x.block < W.heap.size := by obtain ⟨m, hm⟩ := k0; exact DataW.trod_lt m _ _ _ hm
  obtain ⟨n0, p0_, q0_, rfl, w0⟩ : ∃ a p q, x0 = (ndc a p q).toArray ∧ NdIn W a p q := by
    obtain ⟨fuel, hf⟩ := h0
    exact node_of_trod hf
  obtain ⟨a1, len1, cap1, rfl⟩ := okWide_slice Try.underlying26 (hval 1 26 v1 rfl rfl)
  have k1 := h1
  have lt1 : ∀ x ∈ p1, x.block < W.heap.size := by obtain ⟨m, hm⟩ := k1; exact DataW.trod_lt m _ _ _ hm
  obtain ⟨l1, w1⟩ : ∃ l, Bs W a1 len1 cap1 l := by
    obtain ⟨fuel, hf⟩ := h1
    exact Bs.of_trod hf
  clear hA0 hval0
  refine (walk n0 p0_ q0_ a1 len1 cap1 l1 W w0 w1).mono fun e W' ⟨he, bel⟩ => ?_
  subst he
  exact ⟨_, rfl, _, _, _, [], _, [], hW', trodAll_mk1 (shut_bool Try.underlying4 _), (trodAll_cons_mk (Below.trod laidOut (by kernel_rfl) (of_decide_eq_true (by kernel_rfl)) k0 bel lt0) (trodAll_cons_mk (Below.trod laidOut (by kernel_rfl) (of_decide_eq_true (by kernel_rfl)) k1 bel lt1) trodAll_mk0)), rfl, bel.frame _, fun h => by cases h⟩

theorem over : Rows.nodePutsRow.holds Try.pinned (OpenSpec.ofChange Rows.nodePutsSpec) :=
  OpenClaim.holds_of_wide 3 Try.f3 rfl rfl rfl rfl rfl rfl rfl ⟨rfl, rfl, rfl, rfl, rfl⟩ rfl rfl rfl rfl rfl (by kernel_rfl) Try.func3 (by kernel_rfl)
    (of_decide_eq_true (by kernel_rfl)) (by unfold Func.isWrapper; first | (rw [if_pos (by decide +kernel)]; kernel_rfl) | (rw [if_neg (by decide +kernel)]; exact ⟨rfl, rfl⟩))
    (fun os started H enc _ => lifted os started H enc)
end NodePutsLaw

/-- The statement. -/
theorem nodePuts_holds : Rows.NodePutsSaid := NodePutsLaw.over
#print axioms nodePuts_holds
end Go.Proofs.Ytnmmopneacdgfaa
