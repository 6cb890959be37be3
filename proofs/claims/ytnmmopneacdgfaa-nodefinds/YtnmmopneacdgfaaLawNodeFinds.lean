/-
  Proved: for any node (and any bytes) the statement NodeFinds of layer 18 answers true and leaves its arguments as they were. Conditions beside the statement's own: none.
-/
import Derived.Test.YtnmmopneacdgfaaRows
import Derived.Test.YtnmmopneacdgfaaG18
import Derived.Below
import Derived.Deep.DeepCutAuto
import Derived.Deep.CutBlock
import Derived.ChangeOld
namespace Go.Proofs.Ytnmmopneacdgfaa
namespace NodeFindsLaw
open Go.ChangeShapes Go.WideShapes Go.ChangeAt Go.RowKit
open Go.ChangeMaps (open_string shut_string)
set_option linter.unusedVariables false

theorem own : ownKnob Try.prog.godebug = none := by kernel_rfl
theorem laidOut : laidOutB Try.prog = true := by kernel_rfl

set_option maxRecDepth 100000 in
set_option maxHeartbeats 4000000 in
theorem walk (n0 : NodeS) (p0_ q0_ : Tri) (a1 : Option Addr) (len1 cap1 : Nat) (l1 : List UInt8) (w : World) (w0 : NdIn w n0 p0_ q0_) (w1 : Bs w a1 len1 cap1 l1) :
    Calls Try.prog 5 #[.agg (ndc n0 p0_ q0_).toArray, .slice a1 len1 cap1] w fun e w' => e = .returned (.bool true) ∧ Below w.heap.size w w' := by
  have N : Nd (fun _ => True) w n0 p0_ q0_ := Nd.mono w0 fun _ _ _ => trivial
  have B : Bs w a1 len1 cap1 l1 := w1
  clear w0 w1
  obtain ⟨pa, pn, pc⟩ := p0_
  obtain ⟨qa, qn, qc⟩ := q0_
  obtain ⟨V, hV⟩ : ∃ V, V = w.alloc (.cells (List.toArray [.bool n0.leaf, .slice pa pn pc, .slice qa qn qc]) 25) := ⟨_, rfl⟩
  have X : Blk V w.heap.size [.bool n0.leaf, .slice pa pn pc, .slice qa qn qc] 25 := by rw [hV]; exact Blk.newAt w _ _ w.heap.size rfl _ rfl
  have q : Below w.heap.size w V := by rw [hV]; exact below_alloc _ _
  replace N := N.below q
  replace B := B.below q (Nat.le_refl _)
  have CL0 := lLight18 V N
  have CL : Hid (Calls Try.prog 7 #[.agg (List.toArray [.bool n0.leaf, .slice pa pn pc, .slice qa qn qc])] V fun e w' => ∃ z : Int, e = .returned (.int .i64 z) ∧ (z = 0 ∧ Ltd n0 ∨ z = 1) ∧ Below V.heap.size V w') := CL0
  clear CL0
  unfold ndc
  dsimp only
  by_cases c1 : (300 : Int) < (len1 : Int)
  · skip
    go_enter Try.func5, Try.ntmps5
    go_upto_region 1 with fail
    rw [← hV]
    clear hV
    go_wp2_with (first | ((with_reducible refine at_ld 25 ?_); (refine ld 25 (.tmp 2) 3 sizeNd _ Try.underlying25 rfl (w.heap.size) 0 [.bool n0.leaf, .slice pa pn pc, .slice qa qn qc] rfl X.whole rfl ?_)) | (go_at_call 7; go_must (refine CL.out.mono ?_); rintro e W1 ⟨z, rfl, hz, k1⟩; (with_reducible refine Hid.out ?_)))
    clear CL
    replace N := N.below k1
    replace B := B.below k1 (Nat.le_refl _)
    replace X := X.below k1 X.lt
    replace q := q.trans (k1.mono q.size)
    clear k1
    unfold Hid
    rcases hz with ⟨rfl, hL⟩ | rfl
    all_goals (go_wp2_with (first | (go_at_call 8; go_must (refine (lWorks18 _).mono ?_); rintro e W9 ⟨rfl, kw⟩; replace N := N.below kw; replace B := B.below kw (Nat.le_refl _); replace X := X.below kw X.lt; replace q := q.trans (kw.mono q.size); clear kw)))
    all_goals (go_ret; exact ⟨rfl, q⟩)
  · skip
    go_enter Try.func5, Try.ntmps5
    go_upto_region 1 with fail
    rw [← hV]
    clear hV
    go_wp2_with (first | ((with_reducible refine at_ld 25 ?_); (refine ld 25 (.tmp 2) 3 sizeNd _ Try.underlying25 rfl (w.heap.size) 0 [.bool n0.leaf, .slice pa pn pc, .slice qa qn qc] rfl X.whole rfl ?_)) | (go_at_call 7; go_must (refine CL.out.mono ?_); rintro e W1 ⟨z, rfl, hz, k1⟩; (with_reducible refine Hid.out ?_)))
    clear CL
    replace N := N.below k1
    replace B := B.below k1 (Nat.le_refl _)
    replace X := X.below k1 X.lt
    replace q := q.trans (k1.mono q.size)
    clear k1
    unfold Hid
    rcases hz with ⟨rfl, hL⟩ | rfl
    rotate_left 1
    · go_wp2_with (first | (go_at_call 8; go_must (refine (lWorks18 _).mono ?_); rintro e W9 ⟨rfl, kw⟩; replace N := N.below kw; replace B := B.below kw (Nat.le_refl _); replace X := X.below kw X.lt; replace q := q.trans (kw.mono q.size); clear kw))
      go_ret
      exact ⟨rfl, q⟩
    by_cases h0 : chkN n0 = 0 ∨ chkN n0 = 16
    · have hF := fine_of h0
      rcases h0 with h0 | h0
      · skip
        go_wp2_with (first | ((with_reducible refine at_ld 25 ?_); (refine ld 25 (.tmp 2) 3 sizeNd _ Try.underlying25 rfl (w.heap.size) 0 [.bool n0.leaf, .slice pa pn pc, .slice qa qn qc] rfl X.whole rfl ?_)) | (go_at_call 15; go_must (refine (pCheck N hL.lit h0).mono ?_); rintro e W2 ⟨rfl, k2⟩; replace N := N.below k2; replace B := B.below k2 (Nat.le_refl _); replace X := X.below k2 X.lt; replace q := q.trans (k2.mono q.size); clear k2) | (go_at_call 19; (with_reducible refine Hid.out ?_)))
        unfold Hid
        obtain ⟨z, t, hz⟩ : ∃ z t, findN n0 l1 = (z, t) := ⟨_, _, rfl⟩
        refine (pFind N hL hF B hz).mono ?_
        rintro e W4 ⟨rfl, k4⟩
        replace N := N.below k4
        replace B := B.below k4 (Nat.le_refl _)
        replace X := X.below k4 X.lt
        replace q := q.trans (k4.mono q.size)
        clear k4
        go_wp2_with (first | ((with_reducible refine at_ld 25 ?_); (refine ld 25 (.tmp 2) 3 sizeNd _ Try.underlying25 rfl (w.heap.size) 0 [.bool n0.leaf, .slice pa pn pc, .slice qa qn qc] rfl X.whole rfl ?_)) | (go_at_call 20; go_must (refine (qFind N hL B hz).mono ?_); rintro e W5 ⟨rfl, k5⟩; replace N := N.below k5; replace B := B.below k5 (Nat.le_refl _); replace X := X.below k5 X.lt; replace q := q.trans (k5.mono q.size); clear k5))
        obtain ⟨y, hy⟩ : ∃ y, wayN n0 l1 = y := ⟨_, rfl⟩
        have CW : Hid (∀ u, Grows W5 u → Calls Try.prog 21 #[.agg (List.toArray [.bool n0.leaf, .slice pa pn pc, .slice qa qn qc]), .slice a1 len1 cap1] u fun e w' => e = .returned (.int .i64 (y : Int)) ∧ Below u.heap.size u w') := fun u hu => by
          have := pWay (N.below hu) hL hF (B.below hu (Nat.le_refl _))
          rw [hy] at this
          exact this
        have CV : Hid (∀ u, Grows W5 u → Calls Try.prog 22 #[.agg (List.toArray [.bool n0.leaf, .slice pa pn pc, .slice qa qn qc]), .slice a1 len1 cap1] u fun e w' => e = .returned (.int .i64 (y : Int)) ∧ Below u.heap.size u w') := fun u hu => by
          have := qWay (N.below hu) hL hF (B.below hu (Nat.le_refl _))
          rw [hy] at this
          exact this
        clear hz hy
        refine regionG (S := Grows W5) (by kernel_rfl) (Below.refl _ W5).drew ?_
        refine takeG 0 (some 40) (.int .i64 (z : Int)) rfl rfl (by kernel_rfl) (by kernel_rfl) (by kernel_rfl) (fun _ _ _ h => h) (ans_plain (by rfl) (fun w _ => rfl)) ?_
        simp only [Act.put, List.setIfInBounds_toArray, List.set_cons_zero, List.set_cons_succ]
        refine takeG 1 (some 41) (.int .i64 (z : Int)) rfl rfl (by kernel_rfl) (by kernel_rfl) (by kernel_rfl) (fun _ _ _ h => h) (ans_plain (by rfl) (fun w _ => rfl)) ?_
        simp only [Act.put, List.setIfInBounds_toArray, List.set_cons_zero, List.set_cons_succ]
        refine takeG 2 (some 42) (.bool true) rfl rfl (by kernel_rfl) (by kernel_rfl) (by kernel_rfl) (fun _ _ _ h => h) (ans_plain (by rfl) (fun w _ => by unfold execOp; go_simp)) ?_
        simp only [Act.put, List.setIfInBounds_toArray, List.set_cons_zero, List.set_cons_succ]
        refine takeG 3 (some 43) (.bool true) rfl rfl (by kernel_rfl) (by kernel_rfl) (by kernel_rfl) (fun _ _ _ h => h) (ans_plain (by rfl) (fun w _ => rfl)) ?_
        simp only [Act.put, List.setIfInBounds_toArray, List.set_cons_zero, List.set_cons_succ]
        refine takeG 4 (some 44) (.bool t) rfl rfl (by kernel_rfl) (by kernel_rfl) (by kernel_rfl) (fun _ _ _ h => h) (ans_plain (by rfl) (fun w _ => rfl)) ?_
        simp only [Act.put, List.setIfInBounds_toArray, List.set_cons_zero, List.set_cons_succ]
        refine takeG 5 (some 45) (.bool t) rfl rfl (by kernel_rfl) (by kernel_rfl) (by kernel_rfl) (fun _ _ _ h => h) (ans_plain (by rfl) (fun w _ => rfl)) ?_
        simp only [Act.put, List.setIfInBounds_toArray, List.set_cons_zero, List.set_cons_succ]
        refine takeG 6 (some 46) (.bool true) rfl rfl (by kernel_rfl) (by kernel_rfl) (by kernel_rfl) (fun _ _ _ h => h) (ans_eqB (.tmp 44) (.tmp 45) rfl (by rfl) t rfl rfl) ?_
        simp only [Act.put, List.setIfInBounds_toArray, List.set_cons_zero, List.set_cons_succ]
        refine takeG 7 (some 47) (.bool true) rfl rfl (by kernel_rfl) (by kernel_rfl) (by kernel_rfl) (fun _ _ _ h => h) (ans_plain (by rfl) (fun w _ => by unfold execOp; go_simp)) ?_
        simp only [Act.put, List.setIfInBounds_toArray, List.set_cons_zero, List.set_cons_succ]
        refine takeG 8 (some 48) (.bool true) rfl rfl (by kernel_rfl) (by kernel_rfl) (by kernel_rfl) (fun _ _ _ h => h) (ans_plain (by rfl) (fun w _ => rfl)) ?_
        simp only [Act.put, List.setIfInBounds_toArray, List.set_cons_zero, List.set_cons_succ]
        refine takeG 9 (some 49) (.agg (List.toArray [.bool n0.leaf, .slice pa pn pc, .slice qa qn qc])) rfl rfl (by kernel_rfl) (by kernel_rfl) (by kernel_rfl) (fun _ _ _ h => h) (ans_row 25 (.tmp 2) _ 3 rfl (by rfl) w.heap.size 0 rfl [.bool n0.leaf, .slice pa pn pc, .slice qa qn qc] (fun u hu => (X.below hu X.lt).whole) Try.underlying25 rfl rfl sizeNd) ?_
        simp only [Act.put, List.setIfInBounds_toArray, List.set_cons_zero, List.set_cons_succ]
        refine takeG 10 (some 50) (.slice a1 len1 cap1) rfl rfl (by kernel_rfl) (by kernel_rfl) (by kernel_rfl) (fun _ _ _ h => h) (ans_plain (by rfl) (fun w _ => rfl)) ?_
        simp only [Act.put, List.setIfInBounds_toArray, List.set_cons_zero, List.set_cons_succ]
        refine takeG 11 (some 51) (.int .i64 (y : Int)) rfl rfl (by kernel_rfl) (by kernel_rfl) (by kernel_rfl) (fun _ _ _ h => h) (ans_fn 21 #[.tmp 49, .tmp 50] #[25, 26] #[.agg (List.toArray [.bool n0.leaf, .slice pa pn pc, .slice qa qn qc]), .slice a1 len1 cap1] rfl (by rfl) (by rfl) Try.call21 fun u h => CW.out u h) ?_
        simp only [Act.put, List.setIfInBounds_toArray, List.set_cons_zero, List.set_cons_succ]
        refine takeG 12 (some 52) (.agg (List.toArray [.bool n0.leaf, .slice pa pn pc, .slice qa qn qc])) rfl rfl (by kernel_rfl) (by kernel_rfl) (by kernel_rfl) (fun _ _ _ h => h) (ans_row 25 (.tmp 2) _ 3 rfl (by rfl) w.heap.size 0 rfl [.bool n0.leaf, .slice pa pn pc, .slice qa qn qc] (fun u hu => (X.below hu X.lt).whole) Try.underlying25 rfl rfl sizeNd) ?_
        simp only [Act.put, List.setIfInBounds_toArray, List.set_cons_zero, List.set_cons_succ]
        refine takeG 13 (some 53) (.slice a1 len1 cap1) rfl rfl (by kernel_rfl) (by kernel_rfl) (by kernel_rfl) (fun _ _ _ h => h) (ans_plain (by rfl) (fun w _ => rfl)) ?_
        simp only [Act.put, List.setIfInBounds_toArray, List.set_cons_zero, List.set_cons_succ]
        refine takeG 14 (some 54) (.int .i64 (y : Int)) rfl rfl (by kernel_rfl) (by kernel_rfl) (by kernel_rfl) (fun _ _ _ h => h) (ans_fn 22 #[.tmp 52, .tmp 53] #[25, 26] #[.agg (List.toArray [.bool n0.leaf, .slice pa pn pc, .slice qa qn qc]), .slice a1 len1 cap1] rfl (by rfl) (by rfl) Try.call22 fun u h => CV.out u h) ?_
        simp only [Act.put, List.setIfInBounds_toArray, List.set_cons_zero, List.set_cons_succ]
        refine takeG 15 (some 55) (.bool true) rfl rfl (by kernel_rfl) (by kernel_rfl) (by kernel_rfl) (fun _ _ _ h => h) (ans_plain (by rfl) (fun w _ => by unfold execOp; go_simp)) ?_
        simp only [Act.put, List.setIfInBounds_toArray, List.set_cons_zero, List.set_cons_succ]
        refine takeG 16 (some 56) (.bool true) rfl rfl (by kernel_rfl) (by kernel_rfl) (by kernel_rfl) (fun _ _ _ h => h) (ans_plain (by rfl) (fun w _ => by unfold execOp; go_simp)) ?_
        simp only [Act.put, List.setIfInBounds_toArray, List.set_cons_zero, List.set_cons_succ]
        refine takeG 17 (some 57) (.bool true) rfl rfl (by kernel_rfl) (by kernel_rfl) (by kernel_rfl) (fun _ _ _ h => h) (ans_plain (by rfl) (fun w _ => rfl)) ?_
        simp only [Act.put, List.setIfInBounds_toArray, List.set_cons_zero, List.set_cons_succ]
        refine takeG 18 (some 58) (.bool true) rfl rfl (by kernel_rfl) (by kernel_rfl) (by kernel_rfl) (fun _ _ _ h => h) (ans_fn 8 #[] #[] #[] rfl (by rfl) (by rfl) Try.call8 fun u h => lWorks18 u) ?_
        simp only [Act.put, List.setIfInBounds_toArray, List.set_cons_zero, List.set_cons_succ]
        refine takeG 19 (some 59) (.bool true) rfl rfl (by kernel_rfl) (by kernel_rfl) (by kernel_rfl) (fun _ _ _ h => h) (ans_plain (by rfl) (fun w _ => by unfold execOp; go_simp)) ?_
        simp only [Act.put, List.setIfInBounds_toArray, List.set_cons_zero, List.set_cons_succ]
        refine takeG 20 (some 4) (.bool true) rfl rfl (by kernel_rfl) (by kernel_rfl) (by kernel_rfl) (fun _ _ _ h => h) (ans_plain (by rfl) (fun w _ => rfl)) ?_
        simp only [Act.put, List.setIfInBounds_toArray, List.set_cons_zero, List.set_cons_succ]
        refine doneG (by kernel_rfl) fun v8 hg_v8 hs_v8 => ?_
        replace q := q.trans (Below.mono hs_v8 q.size)
        go_wp2_with fail
        go_ret
        exact ⟨rfl, q⟩
      · skip
        go_wp2_with (first | ((with_reducible refine at_ld 25 ?_); (refine ld 25 (.tmp 2) 3 sizeNd _ Try.underlying25 rfl (w.heap.size) 0 [.bool n0.leaf, .slice pa pn pc, .slice qa qn qc] rfl X.whole rfl ?_)) | (go_at_call 15; go_must (refine (pCheck N hL.lit h0).mono ?_); rintro e W2 ⟨rfl, k2⟩; replace N := N.below k2; replace B := B.below k2 (Nat.le_refl _); replace X := X.below k2 X.lt; replace q := q.trans (k2.mono q.size); clear k2) | (go_at_call 19; (with_reducible refine Hid.out ?_)))
        unfold Hid
        obtain ⟨z, t, hz⟩ : ∃ z t, findN n0 l1 = (z, t) := ⟨_, _, rfl⟩
        refine (pFind N hL hF B hz).mono ?_
        rintro e W4 ⟨rfl, k4⟩
        replace N := N.below k4
        replace B := B.below k4 (Nat.le_refl _)
        replace X := X.below k4 X.lt
        replace q := q.trans (k4.mono q.size)
        clear k4
        go_wp2_with (first | ((with_reducible refine at_ld 25 ?_); (refine ld 25 (.tmp 2) 3 sizeNd _ Try.underlying25 rfl (w.heap.size) 0 [.bool n0.leaf, .slice pa pn pc, .slice qa qn qc] rfl X.whole rfl ?_)) | (go_at_call 20; go_must (refine (qFind N hL B hz).mono ?_); rintro e W5 ⟨rfl, k5⟩; replace N := N.below k5; replace B := B.below k5 (Nat.le_refl _); replace X := X.below k5 X.lt; replace q := q.trans (k5.mono q.size); clear k5))
        obtain ⟨y, hy⟩ : ∃ y, wayN n0 l1 = y := ⟨_, rfl⟩
        have CW : Hid (∀ u, Grows W5 u → Calls Try.prog 21 #[.agg (List.toArray [.bool n0.leaf, .slice pa pn pc, .slice qa qn qc]), .slice a1 len1 cap1] u fun e w' => e = .returned (.int .i64 (y : Int)) ∧ Below u.heap.size u w') := fun u hu => by
          have := pWay (N.below hu) hL hF (B.below hu (Nat.le_refl _))
          rw [hy] at this
          exact this
        have CV : Hid (∀ u, Grows W5 u → Calls Try.prog 22 #[.agg (List.toArray [.bool n0.leaf, .slice pa pn pc, .slice qa qn qc]), .slice a1 len1 cap1] u fun e w' => e = .returned (.int .i64 (y : Int)) ∧ Below u.heap.size u w') := fun u hu => by
          have := qWay (N.below hu) hL hF (B.below hu (Nat.le_refl _))
          rw [hy] at this
          exact this
        clear hz hy
        refine regionG (S := Grows W5) (by kernel_rfl) (Below.refl _ W5).drew ?_
        refine takeG 0 (some 40) (.int .i64 (z : Int)) rfl rfl (by kernel_rfl) (by kernel_rfl) (by kernel_rfl) (fun _ _ _ h => h) (ans_plain (by rfl) (fun w _ => rfl)) ?_
        simp only [Act.put, List.setIfInBounds_toArray, List.set_cons_zero, List.set_cons_succ]
        refine takeG 1 (some 41) (.int .i64 (z : Int)) rfl rfl (by kernel_rfl) (by kernel_rfl) (by kernel_rfl) (fun _ _ _ h => h) (ans_plain (by rfl) (fun w _ => rfl)) ?_
        simp only [Act.put, List.setIfInBounds_toArray, List.set_cons_zero, List.set_cons_succ]
        refine takeG 2 (some 42) (.bool true) rfl rfl (by kernel_rfl) (by kernel_rfl) (by kernel_rfl) (fun _ _ _ h => h) (ans_plain (by rfl) (fun w _ => by unfold execOp; go_simp)) ?_
        simp only [Act.put, List.setIfInBounds_toArray, List.set_cons_zero, List.set_cons_succ]
        refine takeG 3 (some 43) (.bool true) rfl rfl (by kernel_rfl) (by kernel_rfl) (by kernel_rfl) (fun _ _ _ h => h) (ans_plain (by rfl) (fun w _ => rfl)) ?_
        simp only [Act.put, List.setIfInBounds_toArray, List.set_cons_zero, List.set_cons_succ]
        refine takeG 4 (some 44) (.bool t) rfl rfl (by kernel_rfl) (by kernel_rfl) (by kernel_rfl) (fun _ _ _ h => h) (ans_plain (by rfl) (fun w _ => rfl)) ?_
        simp only [Act.put, List.setIfInBounds_toArray, List.set_cons_zero, List.set_cons_succ]
        refine takeG 5 (some 45) (.bool t) rfl rfl (by kernel_rfl) (by kernel_rfl) (by kernel_rfl) (fun _ _ _ h => h) (ans_plain (by rfl) (fun w _ => rfl)) ?_
        simp only [Act.put, List.setIfInBounds_toArray, List.set_cons_zero, List.set_cons_succ]
        refine takeG 6 (some 46) (.bool true) rfl rfl (by kernel_rfl) (by kernel_rfl) (by kernel_rfl) (fun _ _ _ h => h) (ans_eqB (.tmp 44) (.tmp 45) rfl (by rfl) t rfl rfl) ?_
        simp only [Act.put, List.setIfInBounds_toArray, List.set_cons_zero, List.set_cons_succ]
        refine takeG 7 (some 47) (.bool true) rfl rfl (by kernel_rfl) (by kernel_rfl) (by kernel_rfl) (fun _ _ _ h => h) (ans_plain (by rfl) (fun w _ => by unfold execOp; go_simp)) ?_
        simp only [Act.put, List.setIfInBounds_toArray, List.set_cons_zero, List.set_cons_succ]
        refine takeG 8 (some 48) (.bool true) rfl rfl (by kernel_rfl) (by kernel_rfl) (by kernel_rfl) (fun _ _ _ h => h) (ans_plain (by rfl) (fun w _ => rfl)) ?_
        simp only [Act.put, List.setIfInBounds_toArray, List.set_cons_zero, List.set_cons_succ]
        refine takeG 9 (some 49) (.agg (List.toArray [.bool n0.leaf, .slice pa pn pc, .slice qa qn qc])) rfl rfl (by kernel_rfl) (by kernel_rfl) (by kernel_rfl) (fun _ _ _ h => h) (ans_row 25 (.tmp 2) _ 3 rfl (by rfl) w.heap.size 0 rfl [.bool n0.leaf, .slice pa pn pc, .slice qa qn qc] (fun u hu => (X.below hu X.lt).whole) Try.underlying25 rfl rfl sizeNd) ?_
        simp only [Act.put, List.setIfInBounds_toArray, List.set_cons_zero, List.set_cons_succ]
        refine takeG 10 (some 50) (.slice a1 len1 cap1) rfl rfl (by kernel_rfl) (by kernel_rfl) (by kernel_rfl) (fun _ _ _ h => h) (ans_plain (by rfl) (fun w _ => rfl)) ?_
        simp only [Act.put, List.setIfInBounds_toArray, List.set_cons_zero, List.set_cons_succ]
        refine takeG 11 (some 51) (.int .i64 (y : Int)) rfl rfl (by kernel_rfl) (by kernel_rfl) (by kernel_rfl) (fun _ _ _ h => h) (ans_fn 21 #[.tmp 49, .tmp 50] #[25, 26] #[.agg (List.toArray [.bool n0.leaf, .slice pa pn pc, .slice qa qn qc]), .slice a1 len1 cap1] rfl (by rfl) (by rfl) Try.call21 fun u h => CW.out u h) ?_
        simp only [Act.put, List.setIfInBounds_toArray, List.set_cons_zero, List.set_cons_succ]
        refine takeG 12 (some 52) (.agg (List.toArray [.bool n0.leaf, .slice pa pn pc, .slice qa qn qc])) rfl rfl (by kernel_rfl) (by kernel_rfl) (by kernel_rfl) (fun _ _ _ h => h) (ans_row 25 (.tmp 2) _ 3 rfl (by rfl) w.heap.size 0 rfl [.bool n0.leaf, .slice pa pn pc, .slice qa qn qc] (fun u hu => (X.below hu X.lt).whole) Try.underlying25 rfl rfl sizeNd) ?_
        simp only [Act.put, List.setIfInBounds_toArray, List.set_cons_zero, List.set_cons_succ]
        refine takeG 13 (some 53) (.slice a1 len1 cap1) rfl rfl (by kernel_rfl) (by kernel_rfl) (by kernel_rfl) (fun _ _ _ h => h) (ans_plain (by rfl) (fun w _ => rfl)) ?_
        simp only [Act.put, List.setIfInBounds_toArray, List.set_cons_zero, List.set_cons_succ]
        refine takeG 14 (some 54) (.int .i64 (y : Int)) rfl rfl (by kernel_rfl) (by kernel_rfl) (by kernel_rfl) (fun _ _ _ h => h) (ans_fn 22 #[.tmp 52, .tmp 53] #[25, 26] #[.agg (List.toArray [.bool n0.leaf, .slice pa pn pc, .slice qa qn qc]), .slice a1 len1 cap1] rfl (by rfl) (by rfl) Try.call22 fun u h => CV.out u h) ?_
        simp only [Act.put, List.setIfInBounds_toArray, List.set_cons_zero, List.set_cons_succ]
        refine takeG 15 (some 55) (.bool true) rfl rfl (by kernel_rfl) (by kernel_rfl) (by kernel_rfl) (fun _ _ _ h => h) (ans_plain (by rfl) (fun w _ => by unfold execOp; go_simp)) ?_
        simp only [Act.put, List.setIfInBounds_toArray, List.set_cons_zero, List.set_cons_succ]
        refine takeG 16 (some 56) (.bool true) rfl rfl (by kernel_rfl) (by kernel_rfl) (by kernel_rfl) (fun _ _ _ h => h) (ans_plain (by rfl) (fun w _ => by unfold execOp; go_simp)) ?_
        simp only [Act.put, List.setIfInBounds_toArray, List.set_cons_zero, List.set_cons_succ]
        refine takeG 17 (some 57) (.bool true) rfl rfl (by kernel_rfl) (by kernel_rfl) (by kernel_rfl) (fun _ _ _ h => h) (ans_plain (by rfl) (fun w _ => rfl)) ?_
        simp only [Act.put, List.setIfInBounds_toArray, List.set_cons_zero, List.set_cons_succ]
        refine takeG 18 (some 58) (.bool true) rfl rfl (by kernel_rfl) (by kernel_rfl) (by kernel_rfl) (fun _ _ _ h => h) (ans_fn 8 #[] #[] #[] rfl (by rfl) (by rfl) Try.call8 fun u h => lWorks18 u) ?_
        simp only [Act.put, List.setIfInBounds_toArray, List.set_cons_zero, List.set_cons_succ]
        refine takeG 19 (some 59) (.bool true) rfl rfl (by kernel_rfl) (by kernel_rfl) (by kernel_rfl) (fun _ _ _ h => h) (ans_plain (by rfl) (fun w _ => by unfold execOp; go_simp)) ?_
        simp only [Act.put, List.setIfInBounds_toArray, List.set_cons_zero, List.set_cons_succ]
        refine takeG 20 (some 4) (.bool true) rfl rfl (by kernel_rfl) (by kernel_rfl) (by kernel_rfl) (fun _ _ _ h => h) (ans_plain (by rfl) (fun w _ => rfl)) ?_
        simp only [Act.put, List.setIfInBounds_toArray, List.set_cons_zero, List.set_cons_succ]
        refine doneG (by kernel_rfl) fun v8 hg_v8 hs_v8 => ?_
        replace q := q.trans (Below.mono hs_v8 q.size)
        go_wp2_with fail
        go_ret
        exact ⟨rfl, q⟩
    · skip
      obtain ⟨cc, hcc⟩ : ∃ cc, chkN n0 = cc := ⟨_, rfl⟩
      rw [hcc] at h0
      have d0 : ¬ cc = 0 := fun e => h0 (Or.inl e)
      have d1 : ¬ cc = 16 := fun e => h0 (Or.inr e)
      have d2 : (cc == 0) = false := by simpa using d0
      have d3 : (cc != 0) = true := by simpa using d0
      have d4 : (cc == 16) = false := by simpa using d1
      have d5 : (cc != 16) = true := by simpa using d1
      go_wp2_with (first | ((with_reducible refine at_ld 25 ?_); (refine ld 25 (.tmp 2) 3 sizeNd _ Try.underlying25 rfl (w.heap.size) 0 [.bool n0.leaf, .slice pa pn pc, .slice qa qn qc] rfl X.whole rfl ?_)) | (go_at_call 15; go_must (refine (pCheck N hL.lit hcc).mono ?_); rintro e W2 ⟨rfl, k2⟩; replace N := N.below k2; replace B := B.below k2 (Nat.le_refl _); replace X := X.below k2 X.lt; replace q := q.trans (k2.mono q.size); clear k2) | (go_at_call 8; go_must (refine (lWorks18 _).mono ?_); rintro e W9 ⟨rfl, kw⟩; replace N := N.below kw; replace B := B.below kw (Nat.le_refl _); replace X := X.below kw X.lt; replace q := q.trans (kw.mono q.size); clear kw))
      go_ret
      exact ⟨rfl, q⟩

set_option maxRecDepth 100000 in
theorem lifted (os : Os) (started : os.Started) (H : Type) (enc : TypeId × Value → H) :
    ReturnsInHanded {} Try.checked os 5 .any (Rows.nodeFindsSpec.pre6 enc Try.prog Try.f5 Rows.nodeFindsRow.domain false) (Rows.nodeFindsSpec.post enc Try.prog Try.f5 false true false false) := by
  refine returnsInHanded_of_change (C := Try.checked) own started (by kernel_rfl) Try.func5
    (ChangeSpec.witness6 (enc := enc) (C := Try.checked) false ⟨#[], #[.agg #[.bool false, .slice none 0 0, .slice none 0 0], .slice none 0 0], []⟩ 8 (by kernel_rfl) (by kernel_rfl) (by kernel_rfl) (by kernel_rfl)) ?_
  intro W base args ds gs before hval0 hW hcnd _
  have hval : ∀ (j : Nat) t v, Try.f5.params[j]? = some t → args[j]? = some v → Value.okWide Try.prog W .any base t v := hval0
  have hW' := hW
  obtain ⟨p, q, hA0, hV, rfl, hfz, hnd⟩ := hW
  have hA : DataW.TrodAll enc Try.prog W 0 (fun _ => true) true Try.f5.params.toList args.toList ds p := hA0
  rw [Try.params5] at hA hval
  obtain ⟨v0, vs0, d0, ds0, p0, q0, hargs, rfl, rfl, h0, r0⟩ := trodAll_cons hA
  obtain ⟨v1, vs1, d1, ds1, p1, q1, rfl, rfl, rfl, h1, r1⟩ := trodAll_cons r0
  obtain ⟨rfl, rfl, rfl⟩ := trodAll_nil r1
  obtain rfl : args = #[v0, v1] := by cases args; simp_all
  obtain ⟨rfl, rfl⟩ := trodVars_none hV
  obtain ⟨x0, rfl⟩ := okWide_nd (hval 0 25 v0 rfl rfl)
  have k0 := h0
  have lt0 : ∀ x ∈ p0, x.block < W.heap.size := by obtain ⟨m, hm⟩ := k0; exact DataW.trod_lt m _ _ _ hm
  obtain ⟨n0, p0_, q0_, rfl, w0⟩ : ∃ a p q, x0 = (ndc a p q).toArray ∧ NdIn W a p q := by
    obtain ⟨fuel, hf⟩ := h0
    exact node_of_trod hf
  obtain ⟨a1, len1, cap1, rfl⟩ := okWide_slice Try.underlying26 (hval 1 26 v1 rfl rfl)
  have k1 := h1
  have lt1 : ∀ x ∈ p1, x.block < W.heap.size := by obtain ⟨m, hm⟩ := k1; exact DataW.trod_lt m _ _ _ hm
  obtain ⟨l1, w1⟩ : ∃ l, Bs W a1 len1 cap1 l := by
    obtain ⟨fuel, hf⟩ := h1
    exact Bs.of_trod hf
  clear hA0 hval0
  refine (walk n0 p0_ q0_ a1 len1 cap1 l1 W w0 w1).mono fun e W' ⟨he, bel⟩ => ?_
  subst he
  exact ⟨_, rfl, _, _, _, [], _, [], hW', trodAll_mk1 (shut_bool Try.underlying4 _), (trodAll_cons_mk (Below.trod laidOut (by kernel_rfl) (of_decide_eq_true (by kernel_rfl)) k0 bel lt0) (trodAll_cons_mk (Below.trod laidOut (by kernel_rfl) (of_decide_eq_true (by kernel_rfl)) k1 bel lt1) trodAll_mk0)), rfl, bel.frame _, fun h => by cases h⟩

theorem over : Rows.nodeFindsRow.holds Try.pinned (OpenSpec.ofChange Rows.nodeFindsSpec) :=
  OpenClaim.holds_of_wide 5 Try.f5 rfl rfl rfl rfl rfl rfl rfl ⟨rfl, rfl, rfl, rfl, rfl⟩ rfl rfl rfl rfl rfl (by kernel_rfl) Try.func5 (by kernel_rfl)
    (of_decide_eq_true (by kernel_rfl)) (by unfold Func.isWrapper; first | (rw [if_pos (by decide +kernel)]; kernel_rfl) | (rw [if_neg (by decide +kernel)]; exact ⟨rfl, rfl⟩))
    (fun os started H enc _ => lifted os started H enc)
end NodeFindsLaw

/-- The statement. -/
theorem nodeFinds_holds : Rows.NodeFindsSaid := NodeFindsLaw.over
#print axioms nodeFinds_holds
end Go.Proofs.Ytnmmopneacdgfaa
