/-
  Proved: for any acts, any two rows of bytes, any small number and any bool the statement CellWhole of layer 10 answers true and leaves its arguments as they were. Conditions beside the statement's own: none.
-/
import Derived.Test.YteilnckkmmgpcaaRows
import Derived.Test.YteilnckkmmgpcaaCelS
import Derived.Test.YteilnckkmmgpcaaCelW
import Derived.Test.YteilnckkmmgpcaaCelU
import Derived.Test.YteilnckkmmgpcaaGrowT
import Derived.Test.YteilnckkmmgpcaaCut
import Derived.Test.YteilnckkmmgpcaaSame
import Derived.Below
import Derived.ChangeOld
namespace Go.Proofs.Yteilnckkmmgpcaa
namespace CellWholeLaw
open Go.ChangeShapes Go.WideShapes Go.ChangeAt Go.RowKit
open Go.ChangeMaps (open_string shut_string)
set_option linter.unusedVariables false

theorem own : ownKnob Try.prog.godebug = none := by kernel_rfl
theorem laidOut : laidOutB Try.prog = true := by kernel_rfl

set_option maxRecDepth 100000 in
set_option maxHeartbeats 4000000 in
theorem walk (a0 : Option Addr) (len0 cap0 : Nat) (l0 : List Op10) (a1 : Option Addr) (len1 cap1 : Nat) (l1 : List UInt8) (a2 : Option Addr) (len2 cap2 : Nat) (l2 : List UInt8) (a3 : Int) (a4 : Bool) (w : World) (w0 : Acts10 w a0 len0 cap0 l0) (w1 : Bs w a1 len1 cap1 l1) (w2 : Bs w a2 len2 cap2 l2) (w3 : (Lit.int .u8 a3).wf = true) :
    Calls Try.prog 4 #[.slice a0 len0 cap0, .slice a1 len1 cap1, .slice a2 len2 cap2, .int .u8 a3, .bool a4] w fun e w' => e = .returned (.bool true) ∧ Below w.heap.size w w' := by
  obtain ⟨y, rfl⟩ : ∃ y : UInt8, a3 = (y.toNat : Int) := by have := bounds_u8 w3; exact ⟨UInt8.ofNat a3.toNat, by rw [UInt8.toNat_ofNat']; omega⟩
  have W0 : Hid (Acts10 w a0 len0 cap0 l0) := w0
  have W1 : Hid (Bs w a1 len1 cap1 l1) := w1
  have W2 : Hid (Bs w a2 len2 cap2 l2) := w2
  have hl0 := Sl.len w0
  have hc0 := Sl.cap w0
  have hl1 := w1.len
  have hm1 := w1.max
  have hl2 := w2.len
  have hm2 := w2.max
  unfold maxLen at hc0
  obtain ⟨K, hKt⟩ : ∃ K : Int, (y.toNat : Int).tmod 4 = K := ⟨_, rfl⟩
  obtain ⟨J, hJt⟩ : ∃ J : Int, (K + 1).tmod 4 = J := ⟨_, rfl⟩
  have hw64 := u8_w10 y
  have hK4 : 0 ≤ K ∧ K < 4 := by rw [← hKt]; exact u8_mod10 y
  have hJ4 : 0 ≤ J ∧ J < 4 ∧ K ≠ J := by rw [← hJt, Int.tmod_eq_emod_of_nonneg (by omega)]; omega
  have CW : Hid (∀ u, Below w.heap.size w u → Calls Try.prog 6 #[] u fun e w' => e = .returned (.bool true) ∧ Below w.heap.size w w') := fun u hu => (lWorks10 u).mono (by rintro e w' ⟨rfl, h⟩; exact ⟨rfl, hu.trans (h.mono hu.size)⟩)
  have hb0 : Below w.heap.size w w := Below.refl _ _
  clear w0 w1 w2 w3
  go_enter Try.func4, Try.ntmps4
  go_wp2_with fail
  refine (lLight10 w W0.out).mono ?_
  rintro e v0 ⟨v, rfl, hv, rfl⟩
  cases v with
  | false =>
    clear hv
    go_wp2_with fail
    refine (CW.out w hb0).mono ?_
    rintro e ww ⟨rfl, hbw⟩
    go_wp2_with fail
    go_ret
    exact ⟨rfl, hbw⟩
  | true =>
    obtain ⟨hn, hall⟩ := hv rfl
    clear hv hall
    by_cases h1k : len1 ≤ 1024
    · have i1k : ¬ (1024 : Int) < (len1 : Int) := by omega
      by_cases h2k : len2 ≤ 1024
      · have i2k : ¬ (1024 : Int) < (len2 : Int) := by omega
        go_wp2_with fail
        refine (oPNew w).mono ?_
        rintro e v1 ⟨r, rfl, hr, hp, hb1⟩
        go_wp2_with fail
        refine (oCNew v1 hp).mono ?_
        rintro e v2 ⟨c, U, F, rfl, hd, hU, hb2⟩
        have S0 : Hid (StaC w v2 c r U F (CelS.new PowS.new)) := StaC.first hb1 hr hd hU hb2
        clear hd hU hb2 hb1 hp hr
        go_wp2_with fail
        go_loopw [14] (fun i wr => ∃ (k : Nat) (U F : Nat → Prop) (C : CelS), k ≤ len0 ∧ i = .int .i64 (k : Int) ∧ Hid (StaC w wr c r U F C) ∧ C.fit k ∧ C.p.live) (fun i _ => len0 - (intOf i).toNat)
        case atStart => exact ⟨0, U, F, _, Nat.zero_le _, rfl, S0, CelS.fit_new, ⟨by show (-1 : Int) < 0; omega, rfl⟩⟩
        case round =>
          clear S0
          clear F U
          obtain ⟨k, U, F, C, hk, rfl, S, hfit, hlive⟩ := hrel
          by_cases hlt : k < len0
          · have i0 : (k : Int) < (len0 : Int) := by omega
            obtain ⟨x, hx⟩ : ∃ x, l0[k]? = some x := ⟨_, List.getElem?_eq_getElem (by omega)⟩
            obtain ⟨b, o, p, m, q, rfl, hbl, hrg, hB, i1, i2, i3⟩ := W0.out.at S.out.bel hx
            have HI : Hid (BA (fun j => j < w.heap.size) w p m q x.b ∧ i64 x.at_) := ⟨hB, i2⟩
            have hblr : b < wr.heap.size := Nat.lt_of_lt_of_le hbl S.out.bel.size
            have c0 : wr.cell? ⟨b, o + k * 5, none⟩ = some (.int .i64 x.kind) := by have := hrg 0 _ rfl; rwa [Nat.add_zero] at this
            have X1 : ∀ u, Grows wr u → u.cell? ⟨b, o + k * 5 + 1, none⟩ = some (.int .i64 x.at_) := fun u h => (Below.cell h (p := ⟨b, o + k * 5 + 1, none⟩) hblr).trans (hrg 1 _ rfl)
            have X2 : ∀ u, Grows wr u → u.cell? ⟨b, o + k * 5 + 2, none⟩ = some (.slice p m q) := fun u h => (Below.cell h (p := ⟨b, o + k * 5 + 2, none⟩) hblr).trans (hrg 2 _ rfl)
            clear hx hB i1 i2 i3 hrg
            by_cases h1 : x.kind = 1
            · have h1b : (x.kind == 1) = true := by simp [h1]
              go_wp2_with fail
              refine regionE 11 (S := Grows wr) (by kernel_rfl) (Below.refl _ wr).drew ?_
              refine takeT 0 (some 65) (.pointer (some ⟨c, 0, none⟩)) rfl rfl (by kernel_rfl) (fun _ _ _ h => h) (ans_plain (by rfl) (fun w _ => rfl)) ?_
              simp only [Act.put, List.setIfInBounds_toArray, List.set_cons_zero, List.set_cons_succ]
              refine takeT 1 (some 66) (.slice (some ⟨b, o, none⟩) len0 cap0) rfl rfl (by kernel_rfl) (fun _ _ _ h => h) (ans_plain (by rfl) (fun w _ => rfl)) ?_
              simp only [Act.put, List.setIfInBounds_toArray, List.set_cons_zero, List.set_cons_succ]
              refine takeT 2 (some 67) (.int .i64 (k : Int)) rfl rfl (by kernel_rfl) (fun _ _ _ h => h) (ans_plain (by rfl) (fun w _ => rfl)) ?_
              simp only [Act.put, List.setIfInBounds_toArray, List.set_cons_zero, List.set_cons_succ]
              refine takeT 3 (some 68) (.pointer (some ⟨b, o + k * 5, none⟩)) rfl rfl (by kernel_rfl) (fun _ _ _ h => h) (ans_plain (by rfl) (fun w _ => by unfold execOp; go_simp)) ?_
              simp only [Act.put, List.setIfInBounds_toArray, List.set_cons_zero, List.set_cons_succ]
              refine takeT 4 (some 69) (.pointer (some ⟨b, o + k * 5 + 1, none⟩)) rfl rfl (by kernel_rfl) (fun _ _ _ h => h) (ans_plain (by rfl) (fun w _ => by unfold execOp; go_simp)) ?_
              simp only [Act.put, List.setIfInBounds_toArray, List.set_cons_zero, List.set_cons_succ]
              refine takeT 5 (some 70) (.int .i64 x.at_) rfl rfl (by kernel_rfl) (fun _ _ _ h => h) (ans_plain (by rfl) (fun w h => by have hc := X1 w h; unfold execOp; go_simp)) ?_
              simp only [Act.put, List.setIfInBounds_toArray, List.set_cons_zero, List.set_cons_succ]
              refine takeT 6 (some 71) (.slice (some ⟨b, o, none⟩) len0 cap0) rfl rfl (by kernel_rfl) (fun _ _ _ h => h) (ans_plain (by rfl) (fun w _ => rfl)) ?_
              simp only [Act.put, List.setIfInBounds_toArray, List.set_cons_zero, List.set_cons_succ]
              refine takeT 7 (some 72) (.int .i64 (k : Int)) rfl rfl (by kernel_rfl) (fun _ _ _ h => h) (ans_plain (by rfl) (fun w _ => rfl)) ?_
              simp only [Act.put, List.setIfInBounds_toArray, List.set_cons_zero, List.set_cons_succ]
              refine takeT 8 (some 73) (.pointer (some ⟨b, o + k * 5, none⟩)) rfl rfl (by kernel_rfl) (fun _ _ _ h => h) (ans_plain (by rfl) (fun w _ => by unfold execOp; go_simp)) ?_
              simp only [Act.put, List.setIfInBounds_toArray, List.set_cons_zero, List.set_cons_succ]
              refine takeT 9 (some 74) (.pointer (some ⟨b, o + k * 5 + 2, none⟩)) rfl rfl (by kernel_rfl) (fun _ _ _ h => h) (ans_plain (by rfl) (fun w _ => by unfold execOp; go_simp)) ?_
              simp only [Act.put, List.setIfInBounds_toArray, List.set_cons_zero, List.set_cons_succ]
              refine takeT 10 (some 75) (.slice p m q) rfl rfl (by kernel_rfl) (fun _ _ _ h => h) (ans_plain (by rfl) (fun w h => by have hc := X2 w h; unfold execOp; go_simp)) ?_
              simp only [Act.put, List.setIfInBounds_toArray, List.set_cons_zero, List.set_cons_succ]
              refine lastC 11 (some 76) 15 #[.tmp 65, .tmp 70, .tmp 75] #[27, 3, 38] #[.pointer (some ⟨c, 0, none⟩), .int .i64 x.at_, .slice p m q] rfl rfl rfl (by rfl) (by rfl) (by kernel_rfl) (by kernel_rfl) (by kernel_rfl) (by kernel_rfl) Try.call15 fun u1 hg1 hs1 => ?_
              have S1 := S.out.grow hs1
              refine (oCWrite u1 S1.ck hfit (by omega) x.at_ HI.out.2 (S1.arg' HI.out.1)).mono ?_
              rintro e u2 ⟨rfl, U2, F2, hd, hU, hF, hk2⟩
              refine ⟨_, rfl, fun u3 hg3 => ?_⟩
              simp only [Act.put, List.setIfInBounds_toArray, List.set_cons_zero, List.set_cons_succ]
              have S3 : Hid (StaC w u3 c r U2 F2 (C.write x.at_ x.b).1) := (S1.after hd hU hk2).grow hg3
              have f3 : (C.write x.at_ x.b).1.fit (k + 1) := hfit.a_write x.at_ x.b
              have l3 := live_write hlive x.at_ x.b
              clear S1 hd hU hF hk2 S X1 X2 hs1 hg1 hg3 HI hfit hlive
              generalize (C.write x.at_ x.b).1 = C2 at *
              go_wp2_with fail
              go_roundw
              case rel => exact ⟨k + 1, U2, _, C2, by omega, by go_num, S3, f3, l3⟩
              case measure => simp [intOf]; omega
            · have h1b : (x.kind == 1) = false := by simp [h1]
              have f3 := hfit.mono (n := k + 1) (by omega)
              clear X1 X2 HI hfit
              go_wp2_with fail
              go_roundw
              case rel => exact ⟨k + 1, U, F, C, by omega, by go_num, S, f3, hlive⟩
              case measure => simp [intOf]; omega
          · have i0 : ¬ (k : Int) < (len0 : Int) := by omega
            obtain rfl : k = len0 := by omega
            obtain ⟨kN, hkN⟩ : ∃ kN : Nat, K = (kN : Int) := ⟨K.toNat, by omega⟩
            obtain ⟨jN, hjN⟩ : ∃ jN : Nat, J = (jN : Int) := ⟨J.toNat, by omega⟩
            have W10 := whole10 hfit hlive (k := kN) (j := jN) (by omega) (by omega) (by omega) (a := l1) (b := l2) (by omega) (by omega) a4
            dsimp only at W10
            rw [← hkN, ← hjN] at W10
            clear hkN hjN
            obtain ⟨g1, g2, g3, g4, g5, g6⟩ := W10
            have f1 := hfit.a_write K l1
            have hlv1 := live_write hlive K l1
            obtain ⟨C1, hC1⟩ : ∃ C1, C1 = (C.write K l1).1 := ⟨_, rfl⟩
            rw [← hC1] at f1 hlv1 g2 g3 g4 g5 g6
            obtain ⟨C2, hC2⟩ : ∃ C2 : CelS, C2 = { C1 with p := C1.p.set 0 a4 } := ⟨_, rfl⟩
            have HC2 : Hid (C2 = { C1 with p := C1.p.set 0 a4 }) := hC2
            have f2 : C2.fit (k + 1) := by rw [hC2]; exact f1.power (PowS.fit_set f1.p (by omega) _)
            rw [← hC2] at g2 g3 g4 g5 g6
            clear hC2
            have f3 := f2.a_write K l2
            obtain ⟨C3, hC3⟩ : ∃ C3, C3 = (C2.write K l2).1 := ⟨_, rfl⟩
            rw [← hC3] at f3 g3 g4 g5 g6
            obtain ⟨C4, hC4⟩ : ∃ C4 : CelS, C4 = { C3 with p := C3.p.back } := ⟨_, rfl⟩
            have HC4 : Hid (C4 = { C3 with p := C3.p.back }) := hC4
            have f4 : C4.fit (k + 1 + 1) := by rw [hC4]; exact f3.power (PowS.fit_back f3.p)
            rw [← hC4] at g3 g4 g5 g6
            clear hC4
            have iK : i64 K := ⟨by omega, by omega⟩
            have iJ : i64 J := ⟨by omega, by omega⟩
            have CA : Hid (Calls Try.prog 15 #[.pointer (some ⟨c, 0, none⟩), .int .i64 K, .slice a1 len1 cap1] wr fun e w' => e = .returned (.int .i64 0) ∧ Cks U F wr c r C1 w') := by rw [← g1, hC1]; exact oCWrite wr S.out.ck hfit (by omega) K iK (S.out.arg W1.out)
            clear hC1 g1
            go_wp2_with fail
            refine CA.out.mono ?_
            rintro e x1 ⟨rfl, U1, F1, hd, hU, hF, hk1⟩
            have S1 : Hid (StaC w x1 c r U1 F1 C1) := S.out.after hd hU hk1
            clear hd hU hF hk1 S CA
            go_wp2_with fail
            refine (oCRead x1 S1.out.ck f1 (by omega) J iJ).mono ?_
            rintro e x2 ⟨wp, wm, wc, rfl, HW0, hb2⟩
            have HW := HW0.mono (A' := fun j => ¬ F1 j) fun _ _ h => h.1
            have S2 : Hid (StaC w x2 c r U1 F1 C1) := S1.out.grow hb2
            clear S1 HW0 hb2
            go_wp2_with fail
            refine (oPFuse x2 S2.out.ck.pw.1 0 a4 ⟨by omega, by omega⟩).mono ?_
            rintro e x3 ⟨rfl, hp3, kr3⟩
            have S3 : Hid (StaC w x3 c r U1 F1 C2) := by rw [HC2.out]; exact S2.out.power hp3 kr3
            have HW3 := HW.after (kr3.mono (G := F1) fun j _ e => by rw [e]; exact S2.out.ck.pw.2) (F' := F1) (fun j hj => Or.inl hj)
            clear hp3 kr3 S2 HC2 HW
            have CB : Hid (Calls Try.prog 15 #[.pointer (some ⟨c, 0, none⟩), .int .i64 K, .slice a2 len2 cap2] x3 fun e w' => e = .returned (.int .i64 5) ∧ Cks U1 F1 x3 c r C3 w') := by rw [← g2, hC3]; exact oCWrite x3 S3.out.ck f2 (by omega) K iK (S3.out.arg W2.out)
            clear hC3 g2
            go_wp2_with fail
            refine CB.out.mono ?_
            rintro e x4 ⟨rfl, U4, F4, hd, hU, hF, hk4⟩
            have S4 : Hid (StaC w x4 c r U4 F4 C3) := S3.out.after hd hU hk4
            have HW4 := HW3.after hk4 hF
            clear hd hU hF hk4 S3 CB HW3
            go_wp2_with fail
            refine (oPBack x4 S4.out.ck.pw.1).mono ?_
            rintro e x5 ⟨rfl, hp5, kr5⟩
            have S5 : Hid (StaC w x5 c r U4 F4 C4) := by rw [HC4.out]; exact S4.out.power hp5 kr5
            have HW5 := HW4.after (kr5.mono (G := F4) fun j _ e => by rw [e]; exact S4.out.ck.pw.2) (F' := F4) (fun j hj => Or.inl hj)
            clear hp5 kr5 S4 HC4 HW4
            go_wp2_with fail
            refine (oCRead x5 S5.out.ck f4 (by omega) K iK).mono ?_
            rintro e x6 ⟨xp, xm, xc, rfl, HX0, hb6⟩
            rw [g3]
            rw [g5] at HX0
            have HX := HX0.mono (A' := fun j => ¬ F4 j) fun _ _ h => h.1
            have S6 : Hid (StaC w x6 c r U4 F4 C4) := S5.out.grow hb6
            have HW6 := HW5.grow hb6
            clear S5 HX0 hb6 HW5 g3 g5
            go_wp2_with fail
            refine (oCRead x6 S6.out.ck f4 (by omega) J iJ).mono ?_
            rintro e x7 ⟨yp, ym, yc, rfl, HY0, hb7⟩
            rw [g4]
            rw [← g6] at HY0
            have HYb := HY0.1
            have S7 : Hid (Below w.heap.size w x7) := (S6.out.grow hb7).bel
            have HWb := (HW6.grow hb7).1
            have HXb := (HX.grow hb7).1
            clear S6 HY0 hb7 HW6 HX g4 g6
            have hxm : xm = 1024 := by rw [← HXb.len]; exact fitK_length _
            subst hxm
            generalize (C1.read J).1 = was at *
            clear f1 f2 f3 f4 hlv1 hfit hlive
            cases a4 with
            | true =>
              rw [if_pos rfl] at HXb
              obtain ⟨hcut, hcB⟩ := HXb.cutHigh len2 (by omega)
              have HZ := hcB x7 HXb
              have HZ2 : Bs x7 xp len2 xc l2 := by
                have e9 : (fitK l2).take len2 = l2 := by rw [← hl2]; exact fitK_take (by omega)
                rw [← e9]
                exact HZ
              clear HZ hcB HXb
              have HA : Bs x7 a2 len2 cap2 l2 := W2.out.below S7.out (Nat.le_refl _)
              go_wp2_with fail
              refine (rSame x7 HZ2 HA).mono ?_
              rintro e x8 ⟨rfl, k8, rfl⟩
              rw [decide_eq_true rfl]
              have S8 : Hid (Below w.heap.size w (x7.drewN k8)) := S7.out.trans ((below_drewN' x7 k8).mono S7.out.size)
              have HW8 := HWb.below (below_drewN' x7 k8) (Nat.le_refl _)
              have HY8 := HYb.below (below_drewN' x7 k8) (Nat.le_refl _)
              clear S7 HWb HYb HZ2 HA hcut
              generalize x7.drewN k8 = x8 at *
              go_wp2_with fail
              refine (rSame x8 HW8 HY8).mono ?_
              rintro e x9 ⟨rfl, k9, rfl⟩
              rw [decide_eq_true rfl]
              have S9 : Hid (Below w.heap.size w (x8.drewN k9)) := S8.out.trans ((below_drewN' x8 k9).mono S8.out.size)
              clear S8 HW8 HY8
              generalize x8.drewN k9 = x9 at *
              go_wp2_with fail
              refine (CW.out x9 S9.out).mono ?_
              rintro e ww ⟨rfl, hbw⟩
              go_wp2_with fail
              go_ret
              exact ⟨rfl, hbw⟩
            | false =>
              rw [if_neg (by simp)] at HXb
              obtain ⟨hcut, hcB⟩ := HXb.cutHigh len1 (by omega)
              have HZ := hcB x7 HXb
              have HZ2 : Bs x7 xp len1 xc l1 := by
                have e9 : (fitK l1).take len1 = l1 := by rw [← hl1]; exact fitK_take (by omega)
                rw [← e9]
                exact HZ
              clear HZ hcB HXb
              have HA : Bs x7 a1 len1 cap1 l1 := W1.out.below S7.out (Nat.le_refl _)
              go_wp2_with fail
              refine (rSame x7 HZ2 HA).mono ?_
              rintro e x8 ⟨rfl, k8, rfl⟩
              rw [decide_eq_true rfl]
              have S8 : Hid (Below w.heap.size w (x7.drewN k8)) := S7.out.trans ((below_drewN' x7 k8).mono S7.out.size)
              have HW8 := HWb.below (below_drewN' x7 k8) (Nat.le_refl _)
              have HY8 := HYb.below (below_drewN' x7 k8) (Nat.le_refl _)
              clear S7 HWb HYb HZ2 HA hcut
              generalize x7.drewN k8 = x8 at *
              go_wp2_with fail
              refine (rSame x8 HW8 HY8).mono ?_
              rintro e x9 ⟨rfl, k9, rfl⟩
              rw [decide_eq_true rfl]
              have S9 : Hid (Below w.heap.size w (x8.drewN k9)) := S8.out.trans ((below_drewN' x8 k9).mono S8.out.size)
              clear S8 HW8 HY8
              generalize x8.drewN k9 = x9 at *
              go_wp2_with fail
              refine (CW.out x9 S9.out).mono ?_
              rintro e ww ⟨rfl, hbw⟩
              go_wp2_with fail
              go_ret
              exact ⟨rfl, hbw⟩
      · have i2k : (1024 : Int) < (len2 : Int) := by omega
        go_wp2_with fail
        refine (CW.out w hb0).mono ?_
        rintro e ww ⟨rfl, hbw⟩
        go_wp2_with fail
        go_ret
        exact ⟨rfl, hbw⟩
    · have i1k : (1024 : Int) < (len1 : Int) := by omega
      go_wp2_with fail
      refine (CW.out w hb0).mono ?_
      rintro e ww ⟨rfl, hbw⟩
      go_wp2_with fail
      go_ret
      exact ⟨rfl, hbw⟩

set_option maxRecDepth 100000 in
theorem lifted (os : Os) (started : os.Started) (H : Type) (enc : TypeId × Value → H) :
    ReturnsInHanded {} Try.checked os 4 .any (Rows.cellWholeSpec.pre6 enc Try.prog Try.f4 Rows.cellWholeRow.domain false) (Rows.cellWholeSpec.post enc Try.prog Try.f4 false true false false) := by
  refine returnsInHanded_of_change (C := Try.checked) own started (by kernel_rfl) Try.func4
    (ChangeSpec.witness6 (enc := enc) (C := Try.checked) false ⟨#[], #[.slice none 0 0, .slice none 0 0, .slice none 0 0, .int .u8 0, .bool false], []⟩ 8 (by kernel_rfl) (by kernel_rfl) (by kernel_rfl) (by kernel_rfl)) ?_
  intro W base args ds gs before hval0 hW hcnd _
  have hval : ∀ (j : Nat) t v, Try.f4.params[j]? = some t → args[j]? = some v → Value.okWide Try.prog W .any base t v := hval0
  have hW' := hW
  obtain ⟨p, q, hA0, hV, rfl, hfz, hnd⟩ := hW
  have hA : DataW.TrodAll enc Try.prog W 0 (fun _ => true) true Try.f4.params.toList args.toList ds p := hA0
  rw [Try.params4] at hA hval
  obtain ⟨v0, vs0, d0, ds0, p0, q0, hargs, rfl, rfl, h0, r0⟩ := trodAll_cons hA
  obtain ⟨v1, vs1, d1, ds1, p1, q1, rfl, rfl, rfl, h1, r1⟩ := trodAll_cons r0
  obtain ⟨v2, vs2, d2, ds2, p2, q2, rfl, rfl, rfl, h2, r2⟩ := trodAll_cons r1
  obtain ⟨v3, vs3, d3, ds3, p3, q3, rfl, rfl, rfl, h3, r3⟩ := trodAll_cons r2
  obtain ⟨v4, vs4, d4, ds4, p4, q4, rfl, rfl, rfl, h4, r4⟩ := trodAll_cons r3
  obtain ⟨rfl, rfl, rfl⟩ := trodAll_nil r4
  obtain rfl : args = #[v0, v1, v2, v3, v4] := by cases args; simp_all
  obtain ⟨rfl, rfl⟩ := trodVars_none hV
  obtain ⟨a0, len0, cap0, rfl⟩ := okWide_slice Try.underlying22 (hval 0 22 v0 rfl rfl)
  have k0 := h0
  have lt0 : ∀ x ∈ p0, x.block < W.heap.size := by obtain ⟨m, hm⟩ := k0; exact DataW.trod_lt m _ _ _ hm
  obtain ⟨l0, w0⟩ : ∃ l, Acts10 W a0 len0 cap0 l := by
    obtain ⟨fuel, hf⟩ := h0
    exact acts10_of_trod hf
  obtain ⟨a1, len1, cap1, rfl⟩ := okWide_slice Try.underlying38 (hval 1 38 v1 rfl rfl)
  have k1 := h1
  have lt1 : ∀ x ∈ p1, x.block < W.heap.size := by obtain ⟨m, hm⟩ := k1; exact DataW.trod_lt m _ _ _ hm
  obtain ⟨l1, w1⟩ : ∃ l, Bs W a1 len1 cap1 l := by
    obtain ⟨fuel, hf⟩ := h1
    exact Bs.of_trod hf
  obtain ⟨a2, len2, cap2, rfl⟩ := okWide_slice Try.underlying38 (hval 2 38 v2 rfl rfl)
  have k2 := h2
  have lt2 : ∀ x ∈ p2, x.block < W.heap.size := by obtain ⟨m, hm⟩ := k2; exact DataW.trod_lt m _ _ _ hm
  obtain ⟨l2, w2⟩ : ∃ l, Bs W a2 len2 cap2 l := by
    obtain ⟨fuel, hf⟩ := h2
    exact Bs.of_trod hf
  obtain ⟨a3, rfl, rfl, rfl, w3⟩ := open_int Try.underlying5 (hval 3 5 v3 rfl rfl) h3
  obtain ⟨a4, rfl, rfl, rfl⟩ := open_bool Try.underlying4 (hval 4 4 v4 rfl rfl) h4
  clear hA0 hval0
  refine (walk a0 len0 cap0 l0 a1 len1 cap1 l1 a2 len2 cap2 l2 a3 a4 W w0 w1 w2 w3).mono fun e W' ⟨he, bel⟩ => ?_
  subst he
  exact ⟨_, rfl, _, _, _, [], _, [], hW', trodAll_mk1 (shut_bool Try.underlying4 _), (trodAll_cons_mk (Below.trod laidOut (by kernel_rfl) (of_decide_eq_true (by kernel_rfl)) k0 bel lt0) (trodAll_cons_mk (Below.trod laidOut (by kernel_rfl) (of_decide_eq_true (by kernel_rfl)) k1 bel lt1) (trodAll_cons_mk (Below.trod laidOut (by kernel_rfl) (of_decide_eq_true (by kernel_rfl)) k2 bel lt2) (trodAll_cons_mk (shut_int Try.underlying5 w3) (trodAll_cons_mk (shut_bool Try.underlying4 a4) trodAll_mk0))))), rfl, bel.frame _, fun h => by cases h⟩

theorem over : Rows.cellWholeRow.holds Try.pinned (OpenSpec.ofChange Rows.cellWholeSpec) :=
  OpenClaim.holds_of_wide 4 Try.f4 rfl rfl rfl rfl rfl rfl rfl ⟨rfl, rfl, rfl, rfl, rfl⟩ rfl rfl rfl rfl rfl (by kernel_rfl) Try.func4 (by kernel_rfl)
    (of_decide_eq_true (by kernel_rfl)) (by unfold Func.isWrapper; first | (rw [if_pos (by decide +kernel)]; kernel_rfl) | (rw [if_neg (by decide +kernel)]; exact ⟨rfl, rfl⟩))
    (fun os started H enc _ => lifted os started H enc)
end CellWholeLaw

/-- The statement. -/
theorem cellWhole_holds : Rows.CellWholeSaid := CellWholeLaw.over
#print axioms cellWhole_holds
end Go.Proofs.Yteilnckkmmgpcaa
