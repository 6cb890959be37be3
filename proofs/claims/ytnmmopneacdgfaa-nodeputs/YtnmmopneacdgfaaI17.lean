/-
  4 texts in one. No statement of the seat is proved here.
-/
import Derived.Test.YtnmmopneacdgfaaI16
import Derived.Deep.DeepCutAuto
/-
  Contracts of layer 18's reference: what is wrong with a node. Condition: a node of at most a hundred thousand things, keys and values of at most a thousand bytes.
-/
namespace Go.Proofs.Ytnmmopneacdgfaa
open Go.RowKit
set_option linter.unusedVariables false
set_option maxRecDepth 100000 in
set_option maxHeartbeats 4000000 in
theorem rCheckN (w : World) {A : Nat → Prop} {n : NodeS} {p q : Tri} (h : Nd A w n p q) (hl : Lit n) : Calls Try.prog 15 #[ndv n p q] w fun e w' => e = .returned (.int .i64 (chkN n)) ∧ Below w.heap.size w w' := by
  have l1 := h.lp
  have l2 := h.lk
  have hps := hl.ps
  have hks := hl.ks
  obtain ⟨lf, ps, ks⟩ := n
  obtain ⟨pa, pn, pc⟩ := p
  obtain ⟨qa, qn, qc⟩ := q
  dsimp only at *
  obtain ⟨V, hV⟩ : ∃ V, V = w.alloc (.cells (List.toArray [.bool lf, .slice pa pn pc, .slice qa qn qc]) 25) := ⟨_, rfl⟩
  have bV : Blk V w.heap.size [.bool lf, .slice pa pn pc, .slice qa qn qc] 25 := by rw [hV]; exact Blk.newAt w _ _ w.heap.size rfl _ rfl
  have kW : Below w.heap.size w V := by rw [hV]; exact below_alloc _ _
  have X1 : V.cell? ⟨w.heap.size, 1, none⟩ = some (.slice pa pn pc) := bV.cell 1
  have X2 : V.cell? ⟨w.heap.size, 2, none⟩ = some (.slice qa qn qc) := bV.cell 2
  have HP : Hid (SlP A V pa pn pc ps) := h.ps.below kW
  have HK : Hid (SlD A V qa qn qc ks) := h.ks.below kW
  have HX1 : Hid (∀ u, Below V.heap.size V u → u.cell? ⟨w.heap.size, 1, none⟩ = some (.slice pa pn pc)) := fun u hu => (bV.below hu bV.lt).cell 1
  have HX2 : Hid (∀ u, Below V.heap.size V u → u.cell? ⟨w.heap.size, 2, none⟩ = some (.slice qa qn qc)) := fun u hu => (bV.below hu bV.lt).cell 2
  have X0 : V.cell? ⟨w.heap.size, 0, none⟩ = some (.bool lf) := bV.cell 0
  have CP : Hid (∀ u, Grows V u → Calls Try.prog 51 #[ndv ⟨lf, ps, ks⟩ ⟨pa, pn, pc⟩ ⟨qa, qn, qc⟩] u fun e w' => e = .returned (.int .i64 (if firstC chkP ps = 0 then firstC chkD ks else firstC chkP ps)) ∧ Below u.heap.size u w') := fun u hu => rPartsN u (h.below (kW.trans (Below.mono hu kW.size))) hl
  have CS : Hid (∀ u, Grows V u → Calls Try.prog 17 #[ndv ⟨lf, ps, ks⟩ ⟨pa, pn, pc⟩ ⟨qa, qn, qc⟩] u fun e w' => e = .returned (.int .i64 (sizeN ⟨lf, ps, ks⟩ : Nat)) ∧ Below u.heap.size u w') := fun u hu => rSizeN u (h.below (kW.trans (Below.mono hu kW.size))) hl
  have F1 : Hid (riseB keyP ps = riseB keyP (ps.drop 0)) := rfl
  have F2 : Hid (riseB keyD ks = riseB keyD (ks.drop 0)) := rfl
  have hW : ∀ u, Below V.heap.size V u → Below w.heap.size w u := fun u hu => kW.trans (hu.mono kW.size)
  unfold ndv ndc at *
  unfold chkN
  dsimp only at *
  have hPP : ∀ X : Int, (if firstC chkP ps = 0 then if firstC chkD ks = 0 then X else firstC chkD ks else firstC chkP ps) = if (if firstC chkP ps = 0 then firstC chkD ks else firstC chkP ps) = 0 then X else (if firstC chkP ps = 0 then firstC chkD ks else firstC chkP ps) := fun X => by
    by_cases e1 : firstC chkP ps = 0
    · rw [if_pos e1, if_pos e1]
    · rw [if_neg e1, if_neg e1, if_neg e1]
  rw [hPP]
  generalize (if firstC chkP ps = 0 then firstC chkD ks else firstC chkP ps) = K1 at *
  generalize hR1 : riseB keyP ps = R1 at *
  generalize hR2 : riseB keyD ks = R2 at *
  generalize sizeN ⟨lf, ps, ks⟩ = Z at *
  clear h hl hPP hR1 hR2 X1 X2
  cases lf with
  | true =>
    have c0 : V.cell? ⟨w.heap.size, 2, none⟩ = some (.slice qa qn qc) := HX2.out V (Below.refl _ _)
    by_cases t0 : qn = 0
    · have b0 : ¬ (0 : Int) < (qn : Int) := by omega
      rw [if_pos (show kindOk _ from ⟨(fun _ => by show ks.length = 0; omega), fun hh => by cases hh⟩)]
      obtain ⟨CV, hCV⟩ : ∃ c, (if K1 = 0 then if R1 = true ∧ R2 = true then if Z ≤ 496 then (0 : Int) else 16 else 4 else K1) = c := ⟨_, rfl⟩
      rw [hCV]
      have HCV0 : Hid ((if K1 = 0 then if R1 = true ∧ R2 = true then if Z ≤ 496 then (0 : Int) else 16 else 4 else K1) = CV) := hCV
      clear hCV
      subst t0
      go_enter Try.func15, Try.ntmps15
      go_upto_region 1 with fail
      rw [← hV]
      clear hV
      go_wp2_with ((with_reducible refine at_ld 25 ?_); (refine ld 25 (.tmp 1) 3 sizeNd _ Try.underlying25 rfl w.heap.size 0 [.bool true, .slice pa pn pc, .slice qa 0 qc] rfl bV.whole rfl ?_))
      refine (CP.out V (Grows.refl V)).mono ?_
      rintro e V1 ⟨rfl, g1⟩
      have g1 : Below V.heap.size V V1 := g1
      clear c0
      by_cases t1 : K1 = 0
      · have HCV : Hid ((if R1 = true ∧ R2 = true then if Z ≤ 496 then (0 : Int) else 16 else 4) = CV) := by show _ = _; rw [← HCV0.out, if_pos t1]
        clear HCV0
        subst t1
        have Z1 := HX1.out V1 g1
        go_wp2_with fail
        have kLoop : Below V.heap.size V V1 := g1
        go_loopw [4] (fun i wr => ∃ k : Nat, k ≤ pn ∧ i = .int .i64 ((k : Int) + 1) ∧ Hid (R1 = riseB keyP (ps.drop k)) ∧ Below V.heap.size V wr) (fun i _ => pn + 1 - (intOf i).toNat)
        case atStart => exact ⟨0, Nat.zero_le _, rfl, F1.out, kLoop⟩
        case round =>
          clear F1 kLoop
          obtain ⟨k, hk, rfl, HI, hb⟩ := hrel
          have Z1 := HX1.out wr hb
          by_cases hlt : k + 1 < pn
          · have i0 : (k : Int) + 1 < (pn : Int) := by omega
            have i1 : (k : Int) < (pn : Int) := by omega
            have i2 : IntKind.i64.wrap ((k : Int) + 1 - 1) = (k : Int) := by rw [IntKind.wrap_i64]; omega
            have i3 : IntKind.i64.wrap ((k : Int) + 1 + 1) = ((k + 1 : Nat) : Int) + 1 := by rw [IntKind.wrap_i64]; omega
            have i4 : ((k : Int) + 1).toNat = k + 1 := by omega
            have i5 : IntKind.i64.wrap (k : Int) = (k : Int) := by rw [IntKind.wrap_i64]; omega
            have i6 : ¬ (k : Int) + 1 < 0 := by omega
            obtain ⟨x, hx⟩ : ∃ x, ps[k]? = some x := ⟨_, List.getElem?_eq_getElem (by omega)⟩
            obtain ⟨y, hy⟩ : ∃ y, ps[k + 1]? = some y := ⟨_, List.getElem?_eq_getElem (by omega)⟩
            have hd := HI.out.trans (riseB_drop keyP hx hy)
            obtain ⟨b, o, kp, km, kc, vp, vm, vc, ea, -, -, hB1, -, hlb, hrg⟩ := HP.out.cells hb hx
            obtain ⟨b2, o2, lp, lm, lc, up, um, uc, ea2, -, -, hC1, -, -, hrg2⟩ := HP.out.cells hb hy
            rw [ea] at ea2
            simp only [Option.some.injEq, Addr.mk.injEq, and_true] at ea2
            obtain ⟨rfl, rfl⟩ := ea2
            subst ea
            have Y1 : ∀ u, Grows wr u → u.cell? ⟨w.heap.size, 1, none⟩ = some (.slice (some ⟨b, o, none⟩) pn pc) := fun u hu => HX1.out u (hb.trans (Below.mono hu hb.size))
            have Y2 : ∀ u, Grows wr u → u.cell? ⟨b, o + k * 2, none⟩ = some (.slice kp km kc) := fun u hu => rangeB hrg hu hlb 0 _ rfl
            have Y3 : ∀ u, Grows wr u → u.cell? ⟨b, o + (k + 1) * 2, none⟩ = some (.slice lp lm lc) := fun u hu => rangeB hrg2 hu hlb 0 _ rfl
            obtain ⟨ls, hls⟩ : ∃ ls, lessB (keyP x) (keyP y) = ls := ⟨_, rfl⟩
            have CL : Hid (∀ u, Grows wr u → Calls Try.prog 52 #[.slice kp km kc, .slice lp lm lc] u fun e w' => e = .returned (.bool ls) ∧ Below u.heap.size u w') := fun u hu => by rw [← hls]; exact rLess u (Bs.below hB1.1 hu (Nat.le_refl _)) (Bs.below hC1.1 hu (Nat.le_refl _))
            rw [show decide (Lib.compareBytes (keyP x) (keyP y) < 0) = ls from hls] at hd
            clear hls hB1 hC1 hx hy HI hrg hrg2
            cases ls with
            | true =>
              have HN : Hid (R1 = riseB keyP (ps.drop (k + 1))) := by show _ = _; rw [hd, Bool.true_and]
              clear hd
              go_wp2_with fail
              refine regionG (S := Grows wr) (by kernel_rfl) (Below.refl _ wr).drew ?_
              refine takeG 0 (some 37) (.pointer (some ⟨w.heap.size, 1, none⟩)) rfl rfl (by kernel_rfl) (by kernel_rfl) (by kernel_rfl) (fun _ _ _ h => h) (ans_plain (by rfl) (fun w _ => by unfold execOp; go_simp)) ?_
              simp only [Act.put, List.setIfInBounds_toArray, List.set_cons_zero, List.set_cons_succ]
              refine takeG 1 (some 38) (.slice (some ⟨b, o, none⟩) pn pc) rfl rfl (by kernel_rfl) (by kernel_rfl) (by kernel_rfl) (fun _ _ _ h => h) (ans_plain (by rfl) (fun w h => by have hc := Y1 w h; unfold execOp; go_simp)) ?_
              simp only [Act.put, List.setIfInBounds_toArray, List.set_cons_zero, List.set_cons_succ]
              refine takeG 2 (some 39) (.int .i64 ((k : Int) + 1)) rfl rfl (by kernel_rfl) (by kernel_rfl) (by kernel_rfl) (fun _ _ _ h => h) (ans_plain (by rfl) (fun w _ => rfl)) ?_
              simp only [Act.put, List.setIfInBounds_toArray, List.set_cons_zero, List.set_cons_succ]
              refine takeG 3 (some 40) (.int .i64 (k : Int)) rfl rfl (by kernel_rfl) (by kernel_rfl) (by kernel_rfl) (fun _ _ _ h => h) (ans_plain (by rfl) (fun w _ => by unfold execOp; go_simp)) ?_
              simp only [Act.put, List.setIfInBounds_toArray, List.set_cons_zero, List.set_cons_succ]
              refine takeG 4 (some 41) (.pointer (some ⟨b, o + k * 2, none⟩)) rfl rfl (by kernel_rfl) (by kernel_rfl) (by kernel_rfl) (fun _ _ _ h => h) (ans_plain (by rfl) (fun w _ => by unfold execOp; go_simp)) ?_
              simp only [Act.put, List.setIfInBounds_toArray, List.set_cons_zero, List.set_cons_succ]
              refine takeG 5 (some 42) (.pointer (some ⟨b, o + k * 2, none⟩)) rfl rfl (by kernel_rfl) (by kernel_rfl) (by kernel_rfl) (fun _ _ _ h => h) (ans_plain (by rfl) (fun w _ => by unfold execOp; go_simp)) ?_
              simp only [Act.put, List.setIfInBounds_toArray, List.set_cons_zero, List.set_cons_succ]
              refine takeG 6 (some 43) (.slice kp km kc) rfl rfl (by kernel_rfl) (by kernel_rfl) (by kernel_rfl) (fun _ _ _ h => h) (ans_plain (by rfl) (fun w h => by have hc := Y2 w h; unfold execOp; go_simp)) ?_
              simp only [Act.put, List.setIfInBounds_toArray, List.set_cons_zero, List.set_cons_succ]
              refine takeG 7 (some 44) (.pointer (some ⟨w.heap.size, 1, none⟩)) rfl rfl (by kernel_rfl) (by kernel_rfl) (by kernel_rfl) (fun _ _ _ h => h) (ans_plain (by rfl) (fun w _ => by unfold execOp; go_simp)) ?_
              simp only [Act.put, List.setIfInBounds_toArray, List.set_cons_zero, List.set_cons_succ]
              refine takeG 8 (some 45) (.slice (some ⟨b, o, none⟩) pn pc) rfl rfl (by kernel_rfl) (by kernel_rfl) (by kernel_rfl) (fun _ _ _ h => h) (ans_plain (by rfl) (fun w h => by have hc := Y1 w h; unfold execOp; go_simp)) ?_
              simp only [Act.put, List.setIfInBounds_toArray, List.set_cons_zero, List.set_cons_succ]
              refine takeG 9 (some 46) (.int .i64 ((k : Int) + 1)) rfl rfl (by kernel_rfl) (by kernel_rfl) (by kernel_rfl) (fun _ _ _ h => h) (ans_plain (by rfl) (fun w _ => rfl)) ?_
              simp only [Act.put, List.setIfInBounds_toArray, List.set_cons_zero, List.set_cons_succ]
              refine takeG 10 (some 47) (.pointer (some ⟨b, o + (k + 1) * 2, none⟩)) rfl rfl (by kernel_rfl) (by kernel_rfl) (by kernel_rfl) (fun _ _ _ h => h) (ans_plain (by rfl) (fun w _ => by unfold execOp; go_simp)) ?_
              simp only [Act.put, List.setIfInBounds_toArray, List.set_cons_zero, List.set_cons_succ]
              refine takeG 11 (some 48) (.pointer (some ⟨b, o + (k + 1) * 2, none⟩)) rfl rfl (by kernel_rfl) (by kernel_rfl) (by kernel_rfl) (fun _ _ _ h => h) (ans_plain (by rfl) (fun w _ => by unfold execOp; go_simp)) ?_
              simp only [Act.put, List.setIfInBounds_toArray, List.set_cons_zero, List.set_cons_succ]
              refine takeG 12 (some 49) (.slice lp lm lc) rfl rfl (by kernel_rfl) (by kernel_rfl) (by kernel_rfl) (fun _ _ _ h => h) (ans_plain (by rfl) (fun w h => by have hc := Y3 w h; unfold execOp; go_simp)) ?_
              simp only [Act.put, List.setIfInBounds_toArray, List.set_cons_zero, List.set_cons_succ]
              refine takeG 13 (some 50) (.bool true) rfl rfl (by kernel_rfl) (by kernel_rfl) (by kernel_rfl) (fun _ _ _ h => h) (ans_fn 52 #[.tmp 43, .tmp 49] #[26, 26] #[.slice kp km kc, .slice lp lm lc] rfl (by rfl) (by rfl) Try.call52 fun u hu => CL.out u hu) ?_
              simp only [Act.put, List.setIfInBounds_toArray, List.set_cons_zero, List.set_cons_succ]
              refine takeG 14 (some 51) (.bool false) rfl rfl (by kernel_rfl) (by kernel_rfl) (by kernel_rfl) (fun _ _ _ h => h) (ans_plain (by rfl) (fun w _ => by unfold execOp; go_simp)) ?_
              simp only [Act.put, List.setIfInBounds_toArray, List.set_cons_zero, List.set_cons_succ]
              refine doneG (by kernel_rfl) fun v6 hg_v6 hs_v6 => ?_
              have k7 : Below V.heap.size V v6 := hb.trans (Below.mono hs_v6 hb.size)
              clear CL Y1 Y2 Y3
              go_wp2_with fail
              go_roundw
              case rel => first | exact ⟨k + 1, by omega, by first | rfl | go_num, HN, k7⟩ | ((repeat apply Exists.intro); refine ⟨?_, rfl⟩; exact ⟨k + 1, by omega, by first | rfl | go_num, HN, k7⟩)
              case measure => simp [intOf]; omega
            | false =>
              have HN : Hid (R1 = false) := by show _ = _; rw [hd, Bool.false_and]
              clear hd
              go_wp2_with fail
              refine regionG (S := Grows wr) (by kernel_rfl) (Below.refl _ wr).drew ?_
              refine takeG 0 (some 37) (.pointer (some ⟨w.heap.size, 1, none⟩)) rfl rfl (by kernel_rfl) (by kernel_rfl) (by kernel_rfl) (fun _ _ _ h => h) (ans_plain (by rfl) (fun w _ => by unfold execOp; go_simp)) ?_
              simp only [Act.put, List.setIfInBounds_toArray, List.set_cons_zero, List.set_cons_succ]
              refine takeG 1 (some 38) (.slice (some ⟨b, o, none⟩) pn pc) rfl rfl (by kernel_rfl) (by kernel_rfl) (by kernel_rfl) (fun _ _ _ h => h) (ans_plain (by rfl) (fun w h => by have hc := Y1 w h; unfold execOp; go_simp)) ?_
              simp only [Act.put, List.setIfInBounds_toArray, List.set_cons_zero, List.set_cons_succ]
              refine takeG 2 (some 39) (.int .i64 ((k : Int) + 1)) rfl rfl (by kernel_rfl) (by kernel_rfl) (by kernel_rfl) (fun _ _ _ h => h) (ans_plain (by rfl) (fun w _ => rfl)) ?_
              simp only [Act.put, List.setIfInBounds_toArray, List.set_cons_zero, List.set_cons_succ]
              refine takeG 3 (some 40) (.int .i64 (k : Int)) rfl rfl (by kernel_rfl) (by kernel_rfl) (by kernel_rfl) (fun _ _ _ h => h) (ans_plain (by rfl) (fun w _ => by unfold execOp; go_simp)) ?_
              simp only [Act.put, List.setIfInBounds_toArray, List.set_cons_zero, List.set_cons_succ]
              refine takeG 4 (some 41) (.pointer (some ⟨b, o + k * 2, none⟩)) rfl rfl (by kernel_rfl) (by kernel_rfl) (by kernel_rfl) (fun _ _ _ h => h) (ans_plain (by rfl) (fun w _ => by unfold execOp; go_simp)) ?_
              simp only [Act.put, List.setIfInBounds_toArray, List.set_cons_zero, List.set_cons_succ]
              refine takeG 5 (some 42) (.pointer (some ⟨b, o + k * 2, none⟩)) rfl rfl (by kernel_rfl) (by kernel_rfl) (by kernel_rfl) (fun _ _ _ h => h) (ans_plain (by rfl) (fun w _ => by unfold execOp; go_simp)) ?_
              simp only [Act.put, List.setIfInBounds_toArray, List.set_cons_zero, List.set_cons_succ]
              refine takeG 6 (some 43) (.slice kp km kc) rfl rfl (by kernel_rfl) (by kernel_rfl) (by kernel_rfl) (fun _ _ _ h => h) (ans_plain (by rfl) (fun w h => by have hc := Y2 w h; unfold execOp; go_simp)) ?_
              simp only [Act.put, List.setIfInBounds_toArray, List.set_cons_zero, List.set_cons_succ]
              refine takeG 7 (some 44) (.pointer (some ⟨w.heap.size, 1, none⟩)) rfl rfl (by kernel_rfl) (by kernel_rfl) (by kernel_rfl) (fun _ _ _ h => h) (ans_plain (by rfl) (fun w _ => by unfold execOp; go_simp)) ?_
              simp only [Act.put, List.setIfInBounds_toArray, List.set_cons_zero, List.set_cons_succ]
              refine takeG 8 (some 45) (.slice (some ⟨b, o, none⟩) pn pc) rfl rfl (by kernel_rfl) (by kernel_rfl) (by kernel_rfl) (fun _ _ _ h => h) (ans_plain (by rfl) (fun w h => by have hc := Y1 w h; unfold execOp; go_simp)) ?_
              simp only [Act.put, List.setIfInBounds_toArray, List.set_cons_zero, List.set_cons_succ]
              refine takeG 9 (some 46) (.int .i64 ((k : Int) + 1)) rfl rfl (by kernel_rfl) (by kernel_rfl) (by kernel_rfl) (fun _ _ _ h => h) (ans_plain (by rfl) (fun w _ => rfl)) ?_
              simp only [Act.put, List.setIfInBounds_toArray, List.set_cons_zero, List.set_cons_succ]
              refine takeG 10 (some 47) (.pointer (some ⟨b, o + (k + 1) * 2, none⟩)) rfl rfl (by kernel_rfl) (by kernel_rfl) (by kernel_rfl) (fun _ _ _ h => h) (ans_plain (by rfl) (fun w _ => by unfold execOp; go_simp)) ?_
              simp only [Act.put, List.setIfInBounds_toArray, List.set_cons_zero, List.set_cons_succ]
              refine takeG 11 (some 48) (.pointer (some ⟨b, o + (k + 1) * 2, none⟩)) rfl rfl (by kernel_rfl) (by kernel_rfl) (by kernel_rfl) (fun _ _ _ h => h) (ans_plain (by rfl) (fun w _ => by unfold execOp; go_simp)) ?_
              simp only [Act.put, List.setIfInBounds_toArray, List.set_cons_zero, List.set_cons_succ]
              refine takeG 12 (some 49) (.slice lp lm lc) rfl rfl (by kernel_rfl) (by kernel_rfl) (by kernel_rfl) (fun _ _ _ h => h) (ans_plain (by rfl) (fun w h => by have hc := Y3 w h; unfold execOp; go_simp)) ?_
              simp only [Act.put, List.setIfInBounds_toArray, List.set_cons_zero, List.set_cons_succ]
              refine takeG 13 (some 50) (.bool false) rfl rfl (by kernel_rfl) (by kernel_rfl) (by kernel_rfl) (fun _ _ _ h => h) (ans_fn 52 #[.tmp 43, .tmp 49] #[26, 26] #[.slice kp km kc, .slice lp lm lc] rfl (by rfl) (by rfl) Try.call52 fun u hu => CL.out u hu) ?_
              simp only [Act.put, List.setIfInBounds_toArray, List.set_cons_zero, List.set_cons_succ]
              refine takeG 14 (some 51) (.bool true) rfl rfl (by kernel_rfl) (by kernel_rfl) (by kernel_rfl) (fun _ _ _ h => h) (ans_plain (by rfl) (fun w _ => by unfold execOp; go_simp)) ?_
              simp only [Act.put, List.setIfInBounds_toArray, List.set_cons_zero, List.set_cons_succ]
              refine doneG (by kernel_rfl) fun v6 hg_v6 hs_v6 => ?_
              have k7 : Below V.heap.size V v6 := hb.trans (Below.mono hs_v6 hb.size)
              clear CL Y1 Y2 Y3
              go_wp2_with fail
              go_ret
              exact ⟨ret_int (by rw [← HCV.out, if_neg (fun hh => by have := hh.1; rw [HN.out] at this; cases this)]), hW _ k7⟩
          · have i0 : ¬ (k : Int) + 1 < (pn : Int) := by omega
            have HR1 : Hid (R1 = true) := by show _ = _; rw [HI.out]; exact riseB_short _ (by omega)
            clear HI
            go_wp2_with fail
            have kLoop := hb
            rename World => wo
            go_loopw [5] (fun i wr => ∃ k : Nat, k ≤ 0 ∧ i = .int .i64 ((k : Int) + 1) ∧ Hid (R2 = riseB keyD (ks.drop k)) ∧ Below V.heap.size V wr) (fun i _ => 0 + 1 - (intOf i).toNat)
            case atStart => exact ⟨0, Nat.zero_le _, rfl, F2.out, kLoop⟩
            case round =>
              clear F2 kLoop
              obtain ⟨k, hk, rfl, HI, hb⟩ := hrel
              have Z1 := HX2.out wr hb
              by_cases hlt : k + 1 < 0
              · exact absurd hlt (by omega)
              · have i0 : ¬ (k : Int) + 1 < (0 : Int) := by omega
                have HR2 : Hid (R2 = true) := by show _ = _; rw [HI.out]; exact riseB_short _ (by omega)
                clear HI
                go_wp2_with ((with_reducible refine at_ld 25 ?_); (refine ld 25 (.tmp 1) 3 sizeNd _ Try.underlying25 rfl w.heap.size 0 [.bool true, .slice pa pn pc, .slice qa 0 qc] rfl (bV.below hb bV.lt).whole rfl ?_))
                refine (CS.out wr hb).mono ?_
                rintro e v8 ⟨rfl, hb8⟩
                have k8 : Below V.heap.size V v8 := hb.trans (Below.mono hb8 hb.size)
                by_cases t5 : Z ≤ 496
                · have b5 : ¬ (496 : Int) < (Z : Int) := by omega
                  go_wp2_with fail
                  go_ret
                  exact ⟨ret_int (by rw [← HCV.out, if_pos ⟨HR1.out, HR2.out⟩, if_pos t5]), hW _ k8⟩
                · have b5 : (496 : Int) < (Z : Int) := by omega
                  go_wp2_with fail
                  go_ret
                  exact ⟨ret_int (by rw [← HCV.out, if_pos ⟨HR1.out, HR2.out⟩, if_neg t5]), hW _ k8⟩
      · have b1 : (K1 == 0) = false := by simp [t1]
        go_wp2_with fail
        go_ret
        exact ⟨ret_int (by rw [← HCV0.out, if_neg t1]), hW _ g1⟩
    · have b0 : (0 : Int) < (qn : Int) := by omega
      rw [if_neg (fun hh : kindOk _ => by have := hh.1 rfl; dsimp only at this; omega)]
      clear t0
      go_enter Try.func15, Try.ntmps15
      go_upto_region 1 with fail
      rw [← hV]
      clear hV
      go_wp2_with fail
      go_ret
      exact ⟨rfl, kW⟩
  | false =>
    have c0 : V.cell? ⟨w.heap.size, 1, none⟩ = some (.slice pa pn pc) := HX1.out V (Below.refl _ _)
    by_cases t0 : pn = 0
    · have b0 : ¬ (0 : Int) < (pn : Int) := by omega
      rw [if_pos (show kindOk _ from ⟨(fun hh => by cases hh), fun _ => by show ps.length = 0; omega⟩)]
      obtain ⟨CV, hCV⟩ : ∃ c, (if K1 = 0 then if R1 = true ∧ R2 = true then if Z ≤ 496 then (0 : Int) else 16 else 4 else K1) = c := ⟨_, rfl⟩
      rw [hCV]
      have HCV0 : Hid ((if K1 = 0 then if R1 = true ∧ R2 = true then if Z ≤ 496 then (0 : Int) else 16 else 4 else K1) = CV) := hCV
      clear hCV
      subst t0
      go_enter Try.func15, Try.ntmps15
      go_upto_region 1 with fail
      rw [← hV]
      clear hV
      go_wp2_with ((with_reducible refine at_ld 25 ?_); (refine ld 25 (.tmp 1) 3 sizeNd _ Try.underlying25 rfl w.heap.size 0 [.bool false, .slice pa 0 pc, .slice qa qn qc] rfl bV.whole rfl ?_))
      refine (CP.out V (Grows.refl V)).mono ?_
      rintro e V1 ⟨rfl, g1⟩
      have g1 : Below V.heap.size V V1 := g1
      clear c0
      by_cases t1 : K1 = 0
      · have HCV : Hid ((if R1 = true ∧ R2 = true then if Z ≤ 496 then (0 : Int) else 16 else 4) = CV) := by show _ = _; rw [← HCV0.out, if_pos t1]
        clear HCV0
        subst t1
        have Z1 := HX1.out V1 g1
        go_wp2_with fail
        have kLoop : Below V.heap.size V V1 := g1
        go_loopw [4] (fun i wr => ∃ k : Nat, k ≤ 0 ∧ i = .int .i64 ((k : Int) + 1) ∧ Hid (R1 = riseB keyP (ps.drop k)) ∧ Below V.heap.size V wr) (fun i _ => 0 + 1 - (intOf i).toNat)
        case atStart => exact ⟨0, Nat.zero_le _, rfl, F1.out, kLoop⟩
        case round =>
          clear F1 kLoop
          obtain ⟨k, hk, rfl, HI, hb⟩ := hrel
          have Z1 := HX1.out wr hb
          by_cases hlt : k + 1 < 0
          · exact absurd hlt (by omega)
          · have i0 : ¬ (k : Int) + 1 < (0 : Int) := by omega
            have HR1 : Hid (R1 = true) := by show _ = _; rw [HI.out]; exact riseB_short _ (by omega)
            clear HI
            go_wp2_with fail
            have kLoop := hb
            rename World => wo
            go_loopw [5] (fun i wr => ∃ k : Nat, k ≤ qn ∧ i = .int .i64 ((k : Int) + 1) ∧ Hid (R2 = riseB keyD (ks.drop k)) ∧ Below V.heap.size V wr) (fun i _ => qn + 1 - (intOf i).toNat)
            case atStart => exact ⟨0, Nat.zero_le _, rfl, F2.out, kLoop⟩
            case round =>
              clear F2 kLoop
              obtain ⟨k, hk, rfl, HI, hb⟩ := hrel
              have Z1 := HX2.out wr hb
              by_cases hlt : k + 1 < qn
              · have i0 : (k : Int) + 1 < (qn : Int) := by omega
                have i1 : (k : Int) < (qn : Int) := by omega
                have i2 : IntKind.i64.wrap ((k : Int) + 1 - 1) = (k : Int) := by rw [IntKind.wrap_i64]; omega
                have i3 : IntKind.i64.wrap ((k : Int) + 1 + 1) = ((k + 1 : Nat) : Int) + 1 := by rw [IntKind.wrap_i64]; omega
                have i4 : ((k : Int) + 1).toNat = k + 1 := by omega
                have i5 : IntKind.i64.wrap (k : Int) = (k : Int) := by rw [IntKind.wrap_i64]; omega
                have i6 : ¬ (k : Int) + 1 < 0 := by omega
                obtain ⟨x, hx⟩ : ∃ x, ks[k]? = some x := ⟨_, List.getElem?_eq_getElem (by omega)⟩
                obtain ⟨y, hy⟩ : ∃ y, ks[k + 1]? = some y := ⟨_, List.getElem?_eq_getElem (by omega)⟩
                have hd := HI.out.trans (riseB_drop keyD hx hy)
                obtain ⟨b, o, kp, km, kc, ea, -, -, -, hB1, hlb, hrg⟩ := HK.out.cells hb hx
                obtain ⟨b2, o2, lp, lm, lc, ea2, -, -, -, hC1, -, hrg2⟩ := HK.out.cells hb hy
                rw [ea] at ea2
                simp only [Option.some.injEq, Addr.mk.injEq, and_true] at ea2
                obtain ⟨rfl, rfl⟩ := ea2
                subst ea
                have Y1 : ∀ u, Grows wr u → u.cell? ⟨w.heap.size, 2, none⟩ = some (.slice (some ⟨b, o, none⟩) qn qc) := fun u hu => HX2.out u (hb.trans (Below.mono hu hb.size))
                have Y2 : ∀ u, Grows wr u → u.cell? ⟨b, o + k * 3, none⟩ = some (.slice kp km kc) := fun u hu => rangeB hrg hu hlb 0 _ rfl
                have Y3 : ∀ u, Grows wr u → u.cell? ⟨b, o + (k + 1) * 3, none⟩ = some (.slice lp lm lc) := fun u hu => rangeB hrg2 hu hlb 0 _ rfl
                obtain ⟨ls, hls⟩ : ∃ ls, lessB (keyD x) (keyD y) = ls := ⟨_, rfl⟩
                have CL : Hid (∀ u, Grows wr u → Calls Try.prog 52 #[.slice kp km kc, .slice lp lm lc] u fun e w' => e = .returned (.bool ls) ∧ Below u.heap.size u w') := fun u hu => by rw [← hls]; exact rLess u (Bs.below hB1.1 hu (Nat.le_refl _)) (Bs.below hC1.1 hu (Nat.le_refl _))
                rw [show decide (Lib.compareBytes (keyD x) (keyD y) < 0) = ls from hls] at hd
                clear hls hB1 hC1 hx hy HI hrg hrg2
                cases ls with
                | true =>
                  have HN : Hid (R2 = riseB keyD (ks.drop (k + 1))) := by show _ = _; rw [hd, Bool.true_and]
                  clear hd
                  go_wp2_with fail
                  refine regionG (S := Grows wr) (by kernel_rfl) (Below.refl _ wr).drew ?_
                  refine takeG 0 (some 59) (.pointer (some ⟨w.heap.size, 2, none⟩)) rfl rfl (by kernel_rfl) (by kernel_rfl) (by kernel_rfl) (fun _ _ _ h => h) (ans_plain (by rfl) (fun w _ => by unfold execOp; go_simp)) ?_
                  simp only [Act.put, List.setIfInBounds_toArray, List.set_cons_zero, List.set_cons_succ]
                  refine takeG 1 (some 60) (.slice (some ⟨b, o, none⟩) qn qc) rfl rfl (by kernel_rfl) (by kernel_rfl) (by kernel_rfl) (fun _ _ _ h => h) (ans_plain (by rfl) (fun w h => by have hc := Y1 w h; unfold execOp; go_simp)) ?_
                  simp only [Act.put, List.setIfInBounds_toArray, List.set_cons_zero, List.set_cons_succ]
                  refine takeG 2 (some 61) (.int .i64 ((k : Int) + 1)) rfl rfl (by kernel_rfl) (by kernel_rfl) (by kernel_rfl) (fun _ _ _ h => h) (ans_plain (by rfl) (fun w _ => rfl)) ?_
                  simp only [Act.put, List.setIfInBounds_toArray, List.set_cons_zero, List.set_cons_succ]
                  refine takeG 3 (some 62) (.int .i64 (k : Int)) rfl rfl (by kernel_rfl) (by kernel_rfl) (by kernel_rfl) (fun _ _ _ h => h) (ans_plain (by rfl) (fun w _ => by unfold execOp; go_simp)) ?_
                  simp only [Act.put, List.setIfInBounds_toArray, List.set_cons_zero, List.set_cons_succ]
                  refine takeG 4 (some 63) (.pointer (some ⟨b, o + k * 3, none⟩)) rfl rfl (by kernel_rfl) (by kernel_rfl) (by kernel_rfl) (fun _ _ _ h => h) (ans_plain (by rfl) (fun w _ => by unfold execOp; go_simp)) ?_
                  simp only [Act.put, List.setIfInBounds_toArray, List.set_cons_zero, List.set_cons_succ]
                  refine takeG 5 (some 64) (.pointer (some ⟨b, o + k * 3, none⟩)) rfl rfl (by kernel_rfl) (by kernel_rfl) (by kernel_rfl) (fun _ _ _ h => h) (ans_plain (by rfl) (fun w _ => by unfold execOp; go_simp)) ?_
                  simp only [Act.put, List.setIfInBounds_toArray, List.set_cons_zero, List.set_cons_succ]
                  refine takeG 6 (some 65) (.slice kp km kc) rfl rfl (by kernel_rfl) (by kernel_rfl) (by kernel_rfl) (fun _ _ _ h => h) (ans_plain (by rfl) (fun w h => by have hc := Y2 w h; unfold execOp; go_simp)) ?_
                  simp only [Act.put, List.setIfInBounds_toArray, List.set_cons_zero, List.set_cons_succ]
                  refine takeG 7 (some 66) (.pointer (some ⟨w.heap.size, 2, none⟩)) rfl rfl (by kernel_rfl) (by kernel_rfl) (by kernel_rfl) (fun _ _ _ h => h) (ans_plain (by rfl) (fun w _ => by unfold execOp; go_simp)) ?_
                  simp only [Act.put, List.setIfInBounds_toArray, List.set_cons_zero, List.set_cons_succ]
                  refine takeG 8 (some 67) (.slice (some ⟨b, o, none⟩) qn qc) rfl rfl (by kernel_rfl) (by kernel_rfl) (by kernel_rfl) (fun _ _ _ h => h) (ans_plain (by rfl) (fun w h => by have hc := Y1 w h; unfold execOp; go_simp)) ?_
                  simp only [Act.put, List.setIfInBounds_toArray, List.set_cons_zero, List.set_cons_succ]
                  refine takeG 9 (some 68) (.int .i64 ((k : Int) + 1)) rfl rfl (by kernel_rfl) (by kernel_rfl) (by kernel_rfl) (fun _ _ _ h => h) (ans_plain (by rfl) (fun w _ => rfl)) ?_
                  simp only [Act.put, List.setIfInBounds_toArray, List.set_cons_zero, List.set_cons_succ]
                  refine takeG 10 (some 69) (.pointer (some ⟨b, o + (k + 1) * 3, none⟩)) rfl rfl (by kernel_rfl) (by kernel_rfl) (by kernel_rfl) (fun _ _ _ h => h) (ans_plain (by rfl) (fun w _ => by unfold execOp; go_simp)) ?_
                  simp only [Act.put, List.setIfInBounds_toArray, List.set_cons_zero, List.set_cons_succ]
                  refine takeG 11 (some 70) (.pointer (some ⟨b, o + (k + 1) * 3, none⟩)) rfl rfl (by kernel_rfl) (by kernel_rfl) (by kernel_rfl) (fun _ _ _ h => h) (ans_plain (by rfl) (fun w _ => by unfold execOp; go_simp)) ?_
                  simp only [Act.put, List.setIfInBounds_toArray, List.set_cons_zero, List.set_cons_succ]
                  refine takeG 12 (some 71) (.slice lp lm lc) rfl rfl (by kernel_rfl) (by kernel_rfl) (by kernel_rfl) (fun _ _ _ h => h) (ans_plain (by rfl) (fun w h => by have hc := Y3 w h; unfold execOp; go_simp)) ?_
                  simp only [Act.put, List.setIfInBounds_toArray, List.set_cons_zero, List.set_cons_succ]
                  refine takeG 13 (some 72) (.bool true) rfl rfl (by kernel_rfl) (by kernel_rfl) (by kernel_rfl) (fun _ _ _ h => h) (ans_fn 52 #[.tmp 65, .tmp 71] #[26, 26] #[.slice kp km kc, .slice lp lm lc] rfl (by rfl) (by rfl) Try.call52 fun u hu => CL.out u hu) ?_
                  simp only [Act.put, List.setIfInBounds_toArray, List.set_cons_zero, List.set_cons_succ]
                  refine takeG 14 (some 73) (.bool false) rfl rfl (by kernel_rfl) (by kernel_rfl) (by kernel_rfl) (fun _ _ _ h => h) (ans_plain (by rfl) (fun w _ => by unfold execOp; go_simp)) ?_
                  simp only [Act.put, List.setIfInBounds_toArray, List.set_cons_zero, List.set_cons_succ]
                  refine doneG (by kernel_rfl) fun v6 hg_v6 hs_v6 => ?_
                  have k7 : Below V.heap.size V v6 := hb.trans (Below.mono hs_v6 hb.size)
                  clear CL Y1 Y2 Y3
                  go_wp2_with fail
                  go_roundw
                  case rel => first | exact ⟨k + 1, by omega, by first | rfl | go_num, HN, k7⟩ | ((repeat apply Exists.intro); refine ⟨?_, rfl⟩; exact ⟨k + 1, by omega, by first | rfl | go_num, HN, k7⟩)
                  case measure => simp [intOf]; omega
                | false =>
                  have HN : Hid (R2 = false) := by show _ = _; rw [hd, Bool.false_and]
                  clear hd
                  go_wp2_with fail
                  refine regionG (S := Grows wr) (by kernel_rfl) (Below.refl _ wr).drew ?_
                  refine takeG 0 (some 59) (.pointer (some ⟨w.heap.size, 2, none⟩)) rfl rfl (by kernel_rfl) (by kernel_rfl) (by kernel_rfl) (fun _ _ _ h => h) (ans_plain (by rfl) (fun w _ => by unfold execOp; go_simp)) ?_
                  simp only [Act.put, List.setIfInBounds_toArray, List.set_cons_zero, List.set_cons_succ]
                  refine takeG 1 (some 60) (.slice (some ⟨b, o, none⟩) qn qc) rfl rfl (by kernel_rfl) (by kernel_rfl) (by kernel_rfl) (fun _ _ _ h => h) (ans_plain (by rfl) (fun w h => by have hc := Y1 w h; unfold execOp; go_simp)) ?_
                  simp only [Act.put, List.setIfInBounds_toArray, List.set_cons_zero, List.set_cons_succ]
                  refine takeG 2 (some 61) (.int .i64 ((k : Int) + 1)) rfl rfl (by kernel_rfl) (by kernel_rfl) (by kernel_rfl) (fun _ _ _ h => h) (ans_plain (by rfl) (fun w _ => rfl)) ?_
                  simp only [Act.put, List.setIfInBounds_toArray, List.set_cons_zero, List.set_cons_succ]
                  refine takeG 3 (some 62) (.int .i64 (k : Int)) rfl rfl (by kernel_rfl) (by kernel_rfl) (by kernel_rfl) (fun _ _ _ h => h) (ans_plain (by rfl) (fun w _ => by unfold execOp; go_simp)) ?_
                  simp only [Act.put, List.setIfInBounds_toArray, List.set_cons_zero, List.set_cons_succ]
                  refine takeG 4 (some 63) (.pointer (some ⟨b, o + k * 3, none⟩)) rfl rfl (by kernel_rfl) (by kernel_rfl) (by kernel_rfl) (fun _ _ _ h => h) (ans_plain (by rfl) (fun w _ => by unfold execOp; go_simp)) ?_
                  simp only [Act.put, List.setIfInBounds_toArray, List.set_cons_zero, List.set_cons_succ]
                  refine takeG 5 (some 64) (.pointer (some ⟨b, o + k * 3, none⟩)) rfl rfl (by kernel_rfl) (by kernel_rfl) (by kernel_rfl) (fun _ _ _ h => h) (ans_plain (by rfl) (fun w _ => by unfold execOp; go_simp)) ?_
                  simp only [Act.put, List.setIfInBounds_toArray, List.set_cons_zero, List.set_cons_succ]
                  refine takeG 6 (some 65) (.slice kp km kc) rfl rfl (by kernel_rfl) (by kernel_rfl) (by kernel_rfl) (fun _ _ _ h => h) (ans_plain (by rfl) (fun w h => by have hc := Y2 w h; unfold execOp; go_simp)) ?_
                  simp only [Act.put, List.setIfInBounds_toArray, List.set_cons_zero, List.set_cons_succ]
                  refine takeG 7 (some 66) (.pointer (some ⟨w.heap.size, 2, none⟩)) rfl rfl (by kernel_rfl) (by kernel_rfl) (by kernel_rfl) (fun _ _ _ h => h) (ans_plain (by rfl) (fun w _ => by unfold execOp; go_simp)) ?_
                  simp only [Act.put, List.setIfInBounds_toArray, List.set_cons_zero, List.set_cons_succ]
                  refine takeG 8 (some 67) (.slice (some ⟨b, o, none⟩) qn qc) rfl rfl (by kernel_rfl) (by kernel_rfl) (by kernel_rfl) (fun _ _ _ h => h) (ans_plain (by rfl) (fun w h => by have hc := Y1 w h; unfold execOp; go_simp)) ?_
                  simp only [Act.put, List.setIfInBounds_toArray, List.set_cons_zero, List.set_cons_succ]
                  refine takeG 9 (some 68) (.int .i64 ((k : Int) + 1)) rfl rfl (by kernel_rfl) (by kernel_rfl) (by kernel_rfl) (fun _ _ _ h => h) (ans_plain (by rfl) (fun w _ => rfl)) ?_
                  simp only [Act.put, List.setIfInBounds_toArray, List.set_cons_zero, List.set_cons_succ]
                  refine takeG 10 (some 69) (.pointer (some ⟨b, o + (k + 1) * 3, none⟩)) rfl rfl (by kernel_rfl) (by kernel_rfl) (by kernel_rfl) (fun _ _ _ h => h) (ans_plain (by rfl) (fun w _ => by unfold execOp; go_simp)) ?_
                  simp only [Act.put, List.setIfInBounds_toArray, List.set_cons_zero, List.set_cons_succ]
                  refine takeG 11 (some 70) (.pointer (some ⟨b, o + (k + 1) * 3, none⟩)) rfl rfl (by kernel_rfl) (by kernel_rfl) (by kernel_rfl) (fun _ _ _ h => h) (ans_plain (by rfl) (fun w _ => by unfold execOp; go_simp)) ?_
                  simp only [Act.put, List.setIfInBounds_toArray, List.set_cons_zero, List.set_cons_succ]
                  refine takeG 12 (some 71) (.slice lp lm lc) rfl rfl (by kernel_rfl) (by kernel_rfl) (by kernel_rfl) (fun _ _ _ h => h) (ans_plain (by rfl) (fun w h => by have hc := Y3 w h; unfold execOp; go_simp)) ?_
                  simp only [Act.put, List.setIfInBounds_toArray, List.set_cons_zero, List.set_cons_succ]
                  refine takeG 13 (some 72) (.bool false) rfl rfl (by kernel_rfl) (by kernel_rfl) (by kernel_rfl) (fun _ _ _ h => h) (ans_fn 52 #[.tmp 65, .tmp 71] #[26, 26] #[.slice kp km kc, .slice lp lm lc] rfl (by rfl) (by rfl) Try.call52 fun u hu => CL.out u hu) ?_
                  simp only [Act.put, List.setIfInBounds_toArray, List.set_cons_zero, List.set_cons_succ]
                  refine takeG 14 (some 73) (.bool true) rfl rfl (by kernel_rfl) (by kernel_rfl) (by kernel_rfl) (fun _ _ _ h => h) (ans_plain (by rfl) (fun w _ => by unfold execOp; go_simp)) ?_
                  simp only [Act.put, List.setIfInBounds_toArray, List.set_cons_zero, List.set_cons_succ]
                  refine doneG (by kernel_rfl) fun v6 hg_v6 hs_v6 => ?_
                  have k7 : Below V.heap.size V v6 := hb.trans (Below.mono hs_v6 hb.size)
                  clear CL Y1 Y2 Y3
                  go_wp2_with fail
                  go_ret
                  exact ⟨ret_int (by rw [← HCV.out, if_neg (fun hh => by have := hh.2; rw [HN.out] at this; cases this)]), hW _ k7⟩
              · have i0 : ¬ (k : Int) + 1 < (qn : Int) := by omega
                have HR2 : Hid (R2 = true) := by show _ = _; rw [HI.out]; exact riseB_short _ (by omega)
                clear HI
                go_wp2_with ((with_reducible refine at_ld 25 ?_); (refine ld 25 (.tmp 1) 3 sizeNd _ Try.underlying25 rfl w.heap.size 0 [.bool false, .slice pa 0 pc, .slice qa qn qc] rfl (bV.below hb bV.lt).whole rfl ?_))
                refine (CS.out wr hb).mono ?_
                rintro e v8 ⟨rfl, hb8⟩
                have k8 : Below V.heap.size V v8 := hb.trans (Below.mono hb8 hb.size)
                by_cases t5 : Z ≤ 496
                · have b5 : ¬ (496 : Int) < (Z : Int) := by omega
                  go_wp2_with fail
                  go_ret
                  exact ⟨ret_int (by rw [← HCV.out, if_pos ⟨HR1.out, HR2.out⟩, if_pos t5]), hW _ k8⟩
                · have b5 : (496 : Int) < (Z : Int) := by omega
                  go_wp2_with fail
                  go_ret
                  exact ⟨ret_int (by rw [← HCV.out, if_pos ⟨HR1.out, HR2.out⟩, if_neg t5]), hW _ k8⟩
      · have b1 : (K1 == 0) = false := by simp [t1]
        go_wp2_with fail
        go_ret
        exact ⟨ret_int (by rw [← HCV0.out, if_neg t1]), hW _ g1⟩
    · have b0 : (0 : Int) < (pn : Int) := by omega
      rw [if_neg (fun hh : kindOk _ => by have := hh.2 rfl; dsimp only at this; omega)]
      clear t0
      go_enter Try.func15, Try.ntmps15
      go_upto_region 1 with fail
      rw [← hV]
      clear hV
      go_wp2_with fail
      go_ret
      exact ⟨rfl, kW⟩

end Go.Proofs.Ytnmmopneacdgfaa

/-
  Contracts of layer 18's reference: Find, Way. Condition: at most a hundred thousand things; Way: rising keys.
-/
namespace Go.Proofs.Ytnmmopneacdgfaa
open Go.RowKit
set_option linter.unusedVariables false
/-- The last one of which it holds, of the first ones. -/
def lastK {α : Type} (p : α → Bool) (l : List α) : Nat → Nat
  | 0 => 0
  | k + 1 => match l[k]? with
    | some x => if p x = true then k else lastK p l k
    | none => lastK p l k
end Go.Proofs.Ytnmmopneacdgfaa

/-
  Contracts of layer 18 in the form in which its laws use them. Conditions: what each says.
-/
namespace Go.Proofs.Ytnmmopneacdgfaa
open Go.RowKit
set_option linter.unusedVariables false
theorem pCheck {u : World} {n : NodeS} {p q : Tri} (h : Nd (fun _ => True) u n p q) (hl : Lit n) {z : Int} (hc : chkN n = z) : Calls Try.prog 15 #[ndv n p q] u fun e w' => e = .returned (.int .i64 z) ∧ Below u.heap.size u w' := by
  subst hc
  exact rCheckN u h hl
theorem pGetB {u : World} {b : List UInt8} {s : Option Addr} {m c : Nat} (hb : Bs u s m c b) (hm : m ≤ 100000) {X : NodeS} {y : Int} (hX : getNd b = (X, y)) : Calls Try.prog 11 #[.slice s m c] u fun e w' => ∃ p q, e = .returned (.tuple #[ndv X p q, .int .i64 y]) ∧ Nd (fun _ => True) w' X p q ∧ Below u.heap.size u w' := by
  have := oGetN u hb hm
  rw [hX] at this
  exact this.mono fun e w' h => by obtain ⟨p, q, h1, h2, h3⟩ := h; exact ⟨p, q, h1, h2.mono fun _ _ _ => trivial, h3⟩
theorem pSameB {u : World} {a b : Option Addr} {i c j d : Nat} {l : List UInt8} (ha : Bs u a i c l) (hb : Bs u b j d l) : Calls Try.prog 13 #[.slice a i c, .slice b j d] u fun e w' => e = .returned (.bool true) ∧ Below u.heap.size u w' := by
  have := sameBl u ha hb
  rw [decide_eq_true rfl] at this
  exact this
end Go.Proofs.Ytnmmopneacdgfaa

/-
  append of bytes that tells which block alone was written. No condition; no statement of the seat is proved here.
-/
namespace Go.Proofs.Ytnmmopneacdgfaa
open Go.RowKit

/-- 'append(out, src...)', out the call's own, src whatever slice of bytes; nothing old but out's own block is written. -/
theorem wpList_appG {ops : Array Oper} {rest : List Oper} {o : Oper} {a : Act} {Q : Exit → Act → World → Prop} (w : World) (hgd : o.guard = none) (s x : Operand)
    (ho : o.op = Op.call { callee := Callee.builtin Builtin.append, args := #[s, x], argTypes := #[26, 26] }) (base : Nat) (v : Value) (l : List UInt8) (hs : a.eval s = v) (hown : Own w base v l)
    (ao : Option Addr) (m c : Nat) (news : List UInt8) (hx : a.eval x = .slice ao m c) (hb : Bs w ao m c news) (hz : l.length + news.length ≤ 1000000000) (hbase : base ≤ w.heap.size)
    (h : ∀ v' w', Own w' base v' (l ++ news) → w.grownBy w' v.ownBlock → wpList Try.prog ops Q rest (a.put o.dst v') w') : wpList Try.prog ops Q (o :: rest) a w := by
  obtain ⟨i0, hi, hz0, hz1, hz2⟩ := info_parts info5
  have hl := hb.len
  cases ao with
  | none =>
    have hc := hb.2.2.2.1 rfl
    have hcap := hb.cap
    have e : news = [] := List.length_eq_zero_iff.1 (by omega)
    subst e
    obtain rfl : m = 0 := by omega
    subst hc
    refine wpList_append_own_none hgd s x 26 ho base 5 i0 1 Try.underlying26 hi v _ _ hs hown hx ?_
    refine h v w ?_ ⟨rfl, rfl, rfl, Nat.le_refl _, fun _ _ _ => rfl⟩
    rw [List.append_nil]
    exact hown
  | some ad =>
    refine wpList_append_own w hgd s x 26 ho base 5 i0 (.int .u8 0) 1 1 Try.underlying26 hi hz0 hz1 hz2 rfl (by decide) v _ _ hs hown ad m c (cs news) hx (by rw [cs_length]; omega) hb.news cs_one (by unfold maxLen; omega) (by omega) hbase ?_
    intro v' w' ho' hg _
    refine h v' w' ?_ hg
    unfold Own
    rw [cs_append, List.length_append, hl]
    exact ho'
theorem Own.lt {w : World} {base : Nat} {v : Value} {l : List UInt8} (h : Own w base v l) : ∀ k, v.ownBlock = some k → k < w.heap.size := fun k hk => (World.ownsRow.lt h k hk).2

end Go.Proofs.Ytnmmopneacdgfaa
