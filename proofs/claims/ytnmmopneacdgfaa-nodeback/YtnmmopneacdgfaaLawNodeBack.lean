/-
  Proved: for any node (and any bytes) the statement NodeBack of layer 18 answers true and leaves its arguments as they were. Conditions beside the statement's own: none.
-/
import Derived.Test.YtnmmopneacdgfaaRows
import Derived.Test.YtnmmopneacdgfaaG18
import Derived.Below
import Derived.Deep.DeepCutAuto
import Derived.Deep.CutBlock
import Derived.ChangeOld
namespace Go.Proofs.Ytnmmopneacdgfaa
namespace NodeBackLaw
open Go.ChangeShapes Go.WideShapes Go.ChangeAt Go.RowKit
open Go.ChangeMaps (open_string shut_string)
set_option linter.unusedVariables false

theorem own : ownKnob Try.prog.godebug = none := by kernel_rfl
theorem laidOut : laidOutB Try.prog = true := by kernel_rfl

set_option maxRecDepth 100000 in
set_option maxHeartbeats 4000000 in
theorem walk (n0 : NodeS) (p0_ q0_ : Tri) (a1 : Option Addr) (len1 cap1 : Nat) (l1 : List UInt8) (w : World) (w0 : NdIn w n0 p0_ q0_) (w1 : Bs w a1 len1 cap1 l1) :
    Calls Try.prog 4 #[.agg (ndc n0 p0_ q0_).toArray, .slice a1 len1 cap1] w fun e w' => e = .returned (.bool true) ∧ Below w.heap.size w w' := by
  have N : Nd (fun _ => True) w n0 p0_ q0_ := Nd.mono w0 fun _ _ _ => trivial
  have B : Bs w a1 len1 cap1 l1 := w1
  clear w0 w1
  obtain ⟨pa, pn, pc⟩ := p0_
  obtain ⟨qa, qn, qc⟩ := q0_
  obtain ⟨V, hV⟩ : ∃ V, V = w.alloc (.cells (List.toArray [.bool n0.leaf, .slice pa pn pc, .slice qa qn qc]) 25) := ⟨_, rfl⟩
  have X : Blk V w.heap.size [.bool n0.leaf, .slice pa pn pc, .slice qa qn qc] 25 := by rw [hV]; exact Blk.newAt w _ _ w.heap.size rfl _ rfl
  have q : Below w.heap.size w V := by rw [hV]; exact below_alloc _ _
  replace N := N.below q
  replace B := B.below q (Nat.le_refl _)
  have CL0 := lLight18 V N
  have CL : Hid (Calls Try.prog 7 #[.agg (List.toArray [.bool n0.leaf, .slice pa pn pc, .slice qa qn qc])] V fun e w' => ∃ z : Int, e = .returned (.int .i64 z) ∧ (z = 0 ∧ Ltd n0 ∨ z = 1) ∧ Below V.heap.size V w') := CL0
  clear CL0
  unfold ndc
  dsimp only
  by_cases c1 : (600 : Int) < (len1 : Int)
  · skip
    go_enter Try.func4, Try.ntmps4
    go_upto_region 1 with fail
    rw [← hV]
    clear hV
    go_wp2_with (first | ((with_reducible refine at_ld 25 ?_); (refine ld 25 (.tmp 2) 3 sizeNd _ Try.underlying25 rfl (w.heap.size) 0 [.bool n0.leaf, .slice pa pn pc, .slice qa qn qc] rfl X.whole rfl ?_)) | (go_at_call 7; go_must (refine CL.out.mono ?_); rintro e W1 ⟨z, rfl, hz, k1⟩; (with_reducible refine Hid.out ?_)))
    clear CL
    replace N := N.below k1
    replace B := B.below k1 (Nat.le_refl _)
    replace X := X.below k1 X.lt
    replace q := q.trans (k1.mono q.size)
    clear k1
    unfold Hid
    rcases hz with ⟨rfl, hL⟩ | rfl
    all_goals (go_wp2_with (first | (go_at_call 8; go_must (refine (lWorks18 _).mono ?_); rintro e W9 ⟨rfl, kw⟩; replace N := N.below kw; replace B := B.below kw (Nat.le_refl _); replace X := X.below kw X.lt; replace q := q.trans (kw.mono q.size); clear kw)))
    all_goals (go_ret; exact ⟨rfl, q⟩)
  · skip
    go_enter Try.func4, Try.ntmps4
    go_upto_region 1 with fail
    rw [← hV]
    clear hV
    go_wp2_with (first | ((with_reducible refine at_ld 25 ?_); (refine ld 25 (.tmp 2) 3 sizeNd _ Try.underlying25 rfl (w.heap.size) 0 [.bool n0.leaf, .slice pa pn pc, .slice qa qn qc] rfl X.whole rfl ?_)) | (go_at_call 7; go_must (refine CL.out.mono ?_); rintro e W1 ⟨z, rfl, hz, k1⟩; (with_reducible refine Hid.out ?_)))
    clear CL
    replace N := N.below k1
    replace B := B.below k1 (Nat.le_refl _)
    replace X := X.below k1 X.lt
    replace q := q.trans (k1.mono q.size)
    clear k1
    unfold Hid
    rcases hz with ⟨rfl, hL⟩ | rfl
    rotate_left 1
    · go_wp2_with (first | (go_at_call 8; go_must (refine (lWorks18 _).mono ?_); rintro e W9 ⟨rfl, kw⟩; replace N := N.below kw; replace B := B.below kw (Nat.le_refl _); replace X := X.below kw X.lt; replace q := q.trans (kw.mono q.size); clear kw))
      go_ret
      exact ⟨rfl, q⟩
    by_cases hc : chkN n0 = 0
    · skip
      go_wp2_with (first | ((with_reducible refine at_ld 25 ?_); (refine ld 25 (.tmp 2) 3 sizeNd _ Try.underlying25 rfl (w.heap.size) 0 [.bool n0.leaf, .slice pa pn pc, .slice qa qn qc] rfl X.whole rfl ?_)) | (go_at_call 15; go_must (refine (pCheck N hL.lit hc).mono ?_); rintro e W2 ⟨rfl, k2⟩; replace N := N.below k2; replace B := B.below k2 (Nat.le_refl _); replace X := X.below k2 X.lt; replace q := q.trans (k2.mono q.size); clear k2) | (go_at_call 9; (with_reducible refine Hid.out ?_)))
      unfold Hid
      refine (pPut N hL.lit hc rfl).mono ?_
      rintro e W3 ⟨s3, m3, c3, rfl, B3, k3⟩
      replace N := N.below k3
      replace B := B.below k3 (Nat.le_refl _)
      replace X := X.below k3 X.lt
      replace q := q.trans (k3.mono q.size)
      clear k3
      go_wp2_with (first | (go_at_call 11; (with_reducible refine Hid.out ?_)))
      unfold Hid
      refine (pGet B3 hc).mono ?_
      rintro e W4 ⟨p4, q4, rfl, N4, k4⟩
      replace N := N.below k4
      replace B := B.below k4 (Nat.le_refl _)
      replace X := X.below k4 X.lt
      replace q := q.trans (k4.mono q.size)
      replace B3 := B3.below k4 (Nat.le_refl _)
      clear k4
      go_wp2_with (first | ((with_reducible refine at_st 25 ?_); (with_reducible refine Hid.out ?_)))
      unfold Hid
      obtain ⟨U, hU⟩ : ∃ U, U = W4.alloc (.cells #[.bool false, .slice none 0 0, .slice none 0 0] 25) := ⟨_, rfl⟩
      rw [← hU]
      have tU : Blk U W4.heap.size [.bool false, .slice none 0 0, .slice none 0 0] 25 := by rw [hU]; exact Blk.newAt W4 _ _ _ rfl _ rfl
      refine st' 25 (.tmp 7) (.tmp 33) 3 sizeNd W4.heap.size 0 (ndc n0 p4 q4) rfl (ndc_one n0 p4 q4) (tU.there 0 3 (by decide)) rfl rfl ?_
      intro W5 hW
      rw [hU] at hW
      clear tU hU
      obtain ⟨k5, sW, X7⟩ := box3 W4 _ _ rfl rfl hW
      clear hW sW
      obtain ⟨gX7, hgX⟩ : ∃ g, g = W4.heap.size := ⟨_, rfl⟩
      rw [← hgX] at X7 ⊢
      clear hgX
      replace N := N.below k5
      replace B := B.below k5 (Nat.le_refl _)
      replace X := X.below k5 X.lt
      replace q := q.trans (k5.mono q.size)
      replace B3 := B3.below k5 (Nat.le_refl _)
      replace N4 := N4.below k5
      clear k5
      go_wp2_with (first | ((with_reducible refine at_ldg18 25 ?_); (refine ldg18 25 (.tmp 2) 3 (by rfl) sizeNd _ Try.underlying25 rfl (w.heap.size) 0 [.bool n0.leaf, .slice pa pn pc, .slice qa qn qc] rfl X.whole rfl ?_)) | ((with_reducible refine at_ldg18 25 ?_); (refine ldg18 25 (.tmp 7) 3 (by rfl) sizeNd _ Try.underlying25 rfl (gX7) 0 (ndc n0 p4 q4) rfl X7.whole rfl ?_)) | (go_at_call 18; go_must (refine (pSame N N4 hL).mono ?_); rintro e Wa ⟨rfl, ka⟩; replace N := N.below ka; replace B := B.below ka (Nat.le_refl _); replace X := X.below ka X.lt; replace q := q.trans (ka.mono q.size); replace B3 := B3.below ka (Nat.le_refl _); replace N4 := N4.below ka; replace X7 := X7.below ka X7.lt; clear ka) | (go_at_call 11; (with_reducible refine Hid.out ?_)))
      unfold Hid
      have hm : len1 ≤ 100000 := by omega
      obtain ⟨Y, y, hY⟩ : ∃ Y y, getNd l1 = (Y, y) := ⟨_, _, rfl⟩
      refine (pGetB B hm hY).mono ?_
      rintro e W6 ⟨p6, q6, rfl, N6, k6⟩
      replace N := N.below k6
      replace B := B.below k6 (Nat.le_refl _)
      replace X := X.below k6 X.lt
      replace q := q.trans (k6.mono q.size)
      replace B3 := B3.below k6 (Nat.le_refl _)
      replace N4 := N4.below k6
      replace X7 := X7.below k6 X7.lt
      clear k6
      by_cases hy : y = 0
      · skip
        subst hy
        obtain ⟨hl, hc2, hb⟩ := lit_get l1 (by rw [hY])
        rw [hY] at hl hc2 hb
        dsimp only at hl hc2 hb
        clear hY
        go_wp2_with (first | ((with_reducible refine at_st 25 ?_); (with_reducible refine Hid.out ?_)))
        unfold Hid
        obtain ⟨U, hU⟩ : ∃ U, U = W6.alloc (.cells #[.bool false, .slice none 0 0, .slice none 0 0] 25) := ⟨_, rfl⟩
        rw [← hU]
        have tU : Blk U W6.heap.size [.bool false, .slice none 0 0, .slice none 0 0] 25 := by rw [hU]; exact Blk.newAt W6 _ _ _ rfl _ rfl
        refine st' 25 (.tmp 9) (.tmp 50) 3 sizeNd W6.heap.size 0 (ndc Y p6 q6) rfl (ndc_one Y p6 q6) (tU.there 0 3 (by decide)) rfl rfl ?_
        intro W7 hW
        rw [hU] at hW
        clear tU hU
        obtain ⟨k7, sW, X9⟩ := box3 W6 _ _ rfl rfl hW
        clear hW sW
        obtain ⟨gX9, hgX⟩ : ∃ g, g = W6.heap.size := ⟨_, rfl⟩
        rw [← hgX] at X9 ⊢
        clear hgX
        replace N := N.below k7
        replace B := B.below k7 (Nat.le_refl _)
        replace X := X.below k7 X.lt
        replace q := q.trans (k7.mono q.size)
        replace B3 := B3.below k7 (Nat.le_refl _)
        replace N4 := N4.below k7
        replace X7 := X7.below k7 X7.lt
        replace N6 := N6.below k7
        clear k7
        go_wp2_with (first | ((with_reducible refine at_ld 25 ?_); (refine ld 25 (.tmp 9) 3 sizeNd _ Try.underlying25 rfl (gX9) 0 (ndc Y p6 q6) rfl X9.whole rfl ?_)) | (go_at_call 9; go_must (refine (pPut N6 hl hc2 hb).mono ?_); rintro e W8 ⟨s8, m8, c8, rfl, B8, k8⟩; replace N := N.below k8; replace B := B.below k8 (Nat.le_refl _); replace X := X.below k8 X.lt; replace q := q.trans (k8.mono q.size); replace B3 := B3.below k8 (Nat.le_refl _); replace N4 := N4.below k8; replace X7 := X7.below k8 X7.lt; replace N6 := N6.below k8; replace X9 := X9.below k8 X9.lt; clear k8) | (go_at_call 13; go_must (refine (pSameB B8 B).mono ?_); rintro e W10 ⟨rfl, k10⟩; replace N := N.below k10; replace B := B.below k10 (Nat.le_refl _); replace X := X.below k10 X.lt; replace q := q.trans (k10.mono q.size); replace B3 := B3.below k10 (Nat.le_refl _); replace N4 := N4.below k10; replace X7 := X7.below k10 X7.lt; replace N6 := N6.below k10; replace X9 := X9.below k10 X9.lt; clear k10) | (go_at_call 8; go_must (refine (lWorks18 _).mono ?_); rintro e W9 ⟨rfl, kw⟩; replace N := N.below kw; replace B := B.below kw (Nat.le_refl _); replace X := X.below kw X.lt; replace q := q.trans (kw.mono q.size); replace B3 := B3.below kw (Nat.le_refl _); replace N4 := N4.below kw; replace X7 := X7.below kw X7.lt; replace N6 := N6.below kw; replace X9 := X9.below kw X9.lt; clear kw))
        go_ret
        exact ⟨rfl, q⟩
      · skip
        have y1 : (y == 0) = false := by simpa using hy
        have y2 : (y != 0) = true := by simpa using hy
        clear hY
        go_wp2_with (first | ((with_reducible refine at_st 25 ?_); (with_reducible refine Hid.out ?_)))
        unfold Hid
        obtain ⟨U, hU⟩ : ∃ U, U = W6.alloc (.cells #[.bool false, .slice none 0 0, .slice none 0 0] 25) := ⟨_, rfl⟩
        rw [← hU]
        have tU : Blk U W6.heap.size [.bool false, .slice none 0 0, .slice none 0 0] 25 := by rw [hU]; exact Blk.newAt W6 _ _ _ rfl _ rfl
        refine st' 25 (.tmp 9) (.tmp 50) 3 sizeNd W6.heap.size 0 (ndc Y p6 q6) rfl (ndc_one Y p6 q6) (tU.there 0 3 (by decide)) rfl rfl ?_
        intro W7 hW
        rw [hU] at hW
        clear tU hU
        obtain ⟨k7, sW, X9⟩ := box3 W6 _ _ rfl rfl hW
        clear hW sW
        obtain ⟨gX9, hgX⟩ : ∃ g, g = W6.heap.size := ⟨_, rfl⟩
        rw [← hgX] at X9 ⊢
        clear hgX
        replace N := N.below k7
        replace B := B.below k7 (Nat.le_refl _)
        replace X := X.below k7 X.lt
        replace q := q.trans (k7.mono q.size)
        replace B3 := B3.below k7 (Nat.le_refl _)
        replace N4 := N4.below k7
        replace X7 := X7.below k7 X7.lt
        replace N6 := N6.below k7
        clear k7
        go_wp2_with (first | (go_at_call 8; go_must (refine (lWorks18 _).mono ?_); rintro e W9 ⟨rfl, kw⟩; replace N := N.below kw; replace B := B.below kw (Nat.le_refl _); replace X := X.below kw X.lt; replace q := q.trans (kw.mono q.size); replace B3 := B3.below kw (Nat.le_refl _); replace N4 := N4.below kw; replace X7 := X7.below kw X7.lt; replace N6 := N6.below kw; replace X9 := X9.below kw X9.lt; clear kw))
        go_ret
        exact ⟨rfl, q⟩
    · skip
      obtain ⟨cc, hcc⟩ : ∃ cc, chkN n0 = cc := ⟨_, rfl⟩
      rw [hcc] at hc
      have c2 : (cc == 0) = false := by simpa using hc
      go_wp2_with (first | ((with_reducible refine at_ld 25 ?_); (refine ld 25 (.tmp 2) 3 sizeNd _ Try.underlying25 rfl (w.heap.size) 0 [.bool n0.leaf, .slice pa pn pc, .slice qa qn qc] rfl X.whole rfl ?_)) | (go_at_call 15; go_must (refine (pCheck N hL.lit hcc).mono ?_); rintro e W2 ⟨rfl, k2⟩; replace N := N.below k2; replace B := B.below k2 (Nat.le_refl _); replace X := X.below k2 X.lt; replace q := q.trans (k2.mono q.size); clear k2) | (go_at_call 11; (with_reducible refine Hid.out ?_)))
      unfold Hid
      have hm : len1 ≤ 100000 := by omega
      obtain ⟨Y, y, hY⟩ : ∃ Y y, getNd l1 = (Y, y) := ⟨_, _, rfl⟩
      refine (pGetB B hm hY).mono ?_
      rintro e W6 ⟨p6, q6, rfl, N6, k6⟩
      replace N := N.below k6
      replace B := B.below k6 (Nat.le_refl _)
      replace X := X.below k6 X.lt
      replace q := q.trans (k6.mono q.size)
      clear k6
      by_cases hy : y = 0
      · skip
        subst hy
        obtain ⟨hl, hc2, hb⟩ := lit_get l1 (by rw [hY])
        rw [hY] at hl hc2 hb
        dsimp only at hl hc2 hb
        clear hY
        go_wp2_with (first | ((with_reducible refine at_st 25 ?_); (with_reducible refine Hid.out ?_)))
        unfold Hid
        obtain ⟨U, hU⟩ : ∃ U, U = W6.alloc (.cells #[.bool false, .slice none 0 0, .slice none 0 0] 25) := ⟨_, rfl⟩
        rw [← hU]
        have tU : Blk U W6.heap.size [.bool false, .slice none 0 0, .slice none 0 0] 25 := by rw [hU]; exact Blk.newAt W6 _ _ _ rfl _ rfl
        refine st' 25 (.tmp 9) (.tmp 50) 3 sizeNd W6.heap.size 0 (ndc Y p6 q6) rfl (ndc_one Y p6 q6) (tU.there 0 3 (by decide)) rfl rfl ?_
        intro W7 hW
        rw [hU] at hW
        clear tU hU
        obtain ⟨k7, sW, X9⟩ := box3 W6 _ _ rfl rfl hW
        clear hW sW
        obtain ⟨gX9, hgX⟩ : ∃ g, g = W6.heap.size := ⟨_, rfl⟩
        rw [← hgX] at X9 ⊢
        clear hgX
        replace N := N.below k7
        replace B := B.below k7 (Nat.le_refl _)
        replace X := X.below k7 X.lt
        replace q := q.trans (k7.mono q.size)
        replace N6 := N6.below k7
        clear k7
        go_wp2_with (first | ((with_reducible refine at_ld 25 ?_); (refine ld 25 (.tmp 9) 3 sizeNd _ Try.underlying25 rfl (gX9) 0 (ndc Y p6 q6) rfl X9.whole rfl ?_)) | (go_at_call 9; go_must (refine (pPut N6 hl hc2 hb).mono ?_); rintro e W8 ⟨s8, m8, c8, rfl, B8, k8⟩; replace N := N.below k8; replace B := B.below k8 (Nat.le_refl _); replace X := X.below k8 X.lt; replace q := q.trans (k8.mono q.size); replace N6 := N6.below k8; replace X9 := X9.below k8 X9.lt; clear k8) | (go_at_call 13; go_must (refine (pSameB B8 B).mono ?_); rintro e W10 ⟨rfl, k10⟩; replace N := N.below k10; replace B := B.below k10 (Nat.le_refl _); replace X := X.below k10 X.lt; replace q := q.trans (k10.mono q.size); replace N6 := N6.below k10; replace X9 := X9.below k10 X9.lt; clear k10) | (go_at_call 8; go_must (refine (lWorks18 _).mono ?_); rintro e W9 ⟨rfl, kw⟩; replace N := N.below kw; replace B := B.below kw (Nat.le_refl _); replace X := X.below kw X.lt; replace q := q.trans (kw.mono q.size); replace N6 := N6.below kw; replace X9 := X9.below kw X9.lt; clear kw))
        go_ret
        exact ⟨rfl, q⟩
      · skip
        have y1 : (y == 0) = false := by simpa using hy
        have y2 : (y != 0) = true := by simpa using hy
        clear hY
        go_wp2_with (first | ((with_reducible refine at_st 25 ?_); (with_reducible refine Hid.out ?_)))
        unfold Hid
        obtain ⟨U, hU⟩ : ∃ U, U = W6.alloc (.cells #[.bool false, .slice none 0 0, .slice none 0 0] 25) := ⟨_, rfl⟩
        rw [← hU]
        have tU : Blk U W6.heap.size [.bool false, .slice none 0 0, .slice none 0 0] 25 := by rw [hU]; exact Blk.newAt W6 _ _ _ rfl _ rfl
        refine st' 25 (.tmp 9) (.tmp 50) 3 sizeNd W6.heap.size 0 (ndc Y p6 q6) rfl (ndc_one Y p6 q6) (tU.there 0 3 (by decide)) rfl rfl ?_
        intro W7 hW
        rw [hU] at hW
        clear tU hU
        obtain ⟨k7, sW, X9⟩ := box3 W6 _ _ rfl rfl hW
        clear hW sW
        obtain ⟨gX9, hgX⟩ : ∃ g, g = W6.heap.size := ⟨_, rfl⟩
        rw [← hgX] at X9 ⊢
        clear hgX
        replace N := N.below k7
        replace B := B.below k7 (Nat.le_refl _)
        replace X := X.below k7 X.lt
        replace q := q.trans (k7.mono q.size)
        replace N6 := N6.below k7
        clear k7
        go_wp2_with (first | (go_at_call 8; go_must (refine (lWorks18 _).mono ?_); rintro e W9 ⟨rfl, kw⟩; replace N := N.below kw; replace B := B.below kw (Nat.le_refl _); replace X := X.below kw X.lt; replace q := q.trans (kw.mono q.size); replace N6 := N6.below kw; replace X9 := X9.below kw X9.lt; clear kw))
        go_ret
        exact ⟨rfl, q⟩

set_option maxRecDepth 100000 in
theorem lifted (os : Os) (started : os.Started) (H : Type) (enc : TypeId × Value → H) :
    ReturnsInHanded {} Try.checked os 4 .any (Rows.nodeBackSpec.pre6 enc Try.prog Try.f4 Rows.nodeBackRow.domain false) (Rows.nodeBackSpec.post enc Try.prog Try.f4 false true false false) := by
  refine returnsInHanded_of_change (C := Try.checked) own started (by kernel_rfl) Try.func4
    (ChangeSpec.witness6 (enc := enc) (C := Try.checked) false ⟨#[], #[.agg #[.bool false, .slice none 0 0, .slice none 0 0], .slice none 0 0], []⟩ 8 (by kernel_rfl) (by kernel_rfl) (by kernel_rfl) (by kernel_rfl)) ?_
  intro W base args ds gs before hval0 hW hcnd _
  have hval : ∀ (j : Nat) t v, Try.f4.params[j]? = some t → args[j]? = some v → Value.okWide Try.prog W .any base t v := hval0
  have hW' := hW
  obtain ⟨p, q, hA0, hV, rfl, hfz, hnd⟩ := hW
  have hA : DataW.TrodAll enc Try.prog W 0 (fun _ => true) true Try.f4.params.toList args.toList ds p := hA0
  rw [Try.params4] at hA hval
  obtain ⟨v0, vs0, d0, ds0, p0, q0, hargs, rfl, rfl, h0, r0⟩ := trodAll_cons hA
  obtain ⟨v1, vs1, d1, ds1, p1, q1, rfl, rfl, rfl, h1, r1⟩ := trodAll_cons r0
  obtain ⟨rfl, rfl, rfl⟩ := trodAll_nil r1
  obtain rfl : args = #[v0, v1] := by cases args; simp_all
  obtain ⟨rfl, rfl⟩ := trodVars_none hV
  obtain ⟨x0, rfl⟩ := okWide_nd (hval 0 25 v0 rfl rfl)
  have k0 := h0
  have lt0 : ∀ x ∈ p0, x.block < W.heap.size := by obtain ⟨m, hm⟩ := k0; exact DataW.trod_lt m _ _ _ hm
  obtain ⟨n0, p0_, q0_, rfl, w0⟩ : ∃ a p q, x0 = (ndc a p q).toArray ∧ NdIn W a p q := by
    obtain ⟨fuel, hf⟩ := h0
    exact node_of_trod hf
  obtain ⟨a1, len1, cap1, rfl⟩ := okWide_slice Try.underlying26 (hval 1 26 v1 rfl rfl)
  have k1 := h1
  have lt1 : ∀ x ∈ p1, x.block < W.heap.size := by obtain ⟨m, hm⟩ := k1; exact DataW.trod_lt m _ _ _ hm
  obtain ⟨l1, w1⟩ : ∃ l, Bs W a1 len1 cap1 l := by
    obtain ⟨fuel, hf⟩ := h1
    exact Bs.of_trod hf
  clear hA0 hval0
  refine (walk n0 p0_ q0_ a1 len1 cap1 l1 W w0 w1).mono fun e W' ⟨he, bel⟩ => ?_
  subst he
  exact ⟨_, rfl, _, _, _, [], _, [], hW', trodAll_mk1 (shut_bool Try.underlying4 _), (trodAll_cons_mk (Below.trod laidOut (by kernel_rfl) (of_decide_eq_true (by kernel_rfl)) k0 bel lt0) (trodAll_cons_mk (Below.trod laidOut (by kernel_rfl) (of_decide_eq_true (by kernel_rfl)) k1 bel lt1) trodAll_mk0)), rfl, bel.frame _, fun h => by cases h⟩

theorem over : Rows.nodeBackRow.holds Try.pinned (OpenSpec.ofChange Rows.nodeBackSpec) :=
  OpenClaim.holds_of_wide 4 Try.f4 rfl rfl rfl rfl rfl rfl rfl ⟨rfl, rfl, rfl, rfl, rfl⟩ rfl rfl rfl rfl rfl (by kernel_rfl) Try.func4 (by kernel_rfl)
    (of_decide_eq_true (by kernel_rfl)) (by unfold Func.isWrapper; first | (rw [if_pos (by decide +kernel)]; kernel_rfl) | (rw [if_neg (by decide +kernel)]; exact ⟨rfl, rfl⟩))
    (fun os started H enc _ => lifted os started H enc)
end NodeBackLaw

/-- The statement. -/
theorem nodeBack_holds : Rows.NodeBackSaid := NodeBackLaw.over
#print axioms nodeBack_holds
end Go.Proofs.Ytnmmopneacdgfaa
