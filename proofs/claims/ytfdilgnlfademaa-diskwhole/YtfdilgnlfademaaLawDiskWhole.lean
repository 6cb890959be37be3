/-
  Proved: for any acts, any two bytes and any list of bools the statement DiskWhole of layer 9 answers true and leaves its arguments as they were. Conditions beside the statement's own: none.
-/
import Derived.Test.YtfdilgnlfademaaRows
import Derived.Test.YtfdilgnlfademaaG19
import Derived.Below
import Derived.ChangeOld
namespace Go.Proofs.Ytfdilgnlfademaa
namespace DiskWholeLaw
open Go.ChangeShapes Go.WideShapes Go.ChangeAt Go.RowKit
open Go.ChangeMaps (open_string shut_string)
set_option linter.unusedVariables false

theorem own : ownKnob Try.prog.godebug = none := by kernel_rfl
theorem laidOut : laidOutB Try.prog = true := by kernel_rfl

set_option maxRecDepth 100000 in
set_option maxHeartbeats 4000000 in
theorem walk (a0 : Option Addr) (len0 cap0 : Nat) (l0 : List OpS) (a1 : Int) (a2 : Int) (a3 : Option Addr) (len3 cap3 : Nat) (l3 : List Bool) (w : World) (w0 : Acts w a0 len0 cap0 l0) (w1 : (Lit.int .u8 a1).wf = true) (w2 : (Lit.int .u8 a2).wf = true) (w3 : BoW w a3 len3 cap3 l3) :
    Calls Try.prog 5 #[.slice a0 len0 cap0, .int .u8 a1, .int .u8 a2, .slice a3 len3 cap3] w fun e w' => e = .returned (.bool true) ∧ Below w.heap.size w w' := by
  obtain ⟨y1, rfl⟩ := u8_of w1
  obtain ⟨y2, rfl⟩ := u8_of w2
  have W0 : Hid (Acts w a0 len0 cap0 l0) := w0
  have W3 : Hid (BoW w a3 len3 cap3 l3) := w3
  have hl0 := w0.len
  have hc0 := w0.cap
  have hl3 := w3.1.len
  have hc3 : len3 ≤ maxLen := Nat.le_trans w3.1.2.1 w3.1.2.2.1
  unfold maxLen at hc0 hc3
  clear w0 w1 w2 w3
  go_enter Try.func5, Try.ntmps5
  go_wp2_with fail
  refine (lLight w W0.out).mono ?_
  rintro e v0 ⟨v, rfl, hv, kk, rfl⟩
  have hb0 := below_drewN' w kk
  generalize w.drewN kk = v0 at *
  cases v with
  | false =>
    clear hv
    go_wp2_with fail
    refine (lWorks9 v0).mono ?_
    rintro e v1 ⟨rfl, hb1⟩
    go_wp2_with fail
    go_ret
    exact ⟨rfl, hb0.trans (hb1.mono hb0.size)⟩
  | true =>
    obtain ⟨hn, hall⟩ := hv rfl
    have HA : Hid (∀ o ∈ l0, o.light) := hall
    clear hv hall
    by_cases h60 : len3 ≤ 60
    · have i60 : ¬ (60 : Int) < (len3 : Int) := by omega
      go_wp2_with fail
      refine (oPNew v0).mono ?_
      rintro e v1 ⟨r, rfl, hr, hp, hb1⟩
      have hb1' := hb0.trans (hb1.mono hb0.size)
      have hr' : w.heap.size ≤ r := Nat.le_trans hb0.size hr
      clear hb0 hb1 hr
      go_wp2_with fail
      refine (oDNew v1 hp 9 (by omega)).mono ?_
      rintro e v2 ⟨d, U, F, rfl, hd, hU, hb2⟩
      have S0 : Hid (StaD w v2 d r U F (DskS.new PowS.new 9)) := StaD.first hb1' hr' hd hU hb2
      clear hd hU hb2 hb1' hp hr'
      go_wp2_with fail
      refine (rPNew v2).mono ?_
      rintro e v3 ⟨rfl, hb3⟩
      have S1 : Hid (StaD w v3 d r U F (DskS.new PowS.new 9)) := S0.out.grow hb3
      clear S0 hb3
      go_wp2_with fail
      refine (rDNew v3 PowS.new 9 (by omega)).mono ?_
      rintro e v4 ⟨rfl, hb4⟩
      have S2 : Hid (StaD w v4 d r U F (DskS.new PowS.new 9)) := S1.out.grow hb4
      clear S1 hb4
      obtain ⟨X, hX⟩ : ∃ X, X = v4.heap.size := ⟨_, rfl⟩
      have z7 : Blk (v4.alloc (.cells #[.int .i64 0, .int .i64 0, .bool false, .bool false, .int .i64 0, .slice none 0 0, .slice none 0 0, .slice none 0 0, .slice none 0 0, .int .i64 0] 40)) X z40 40 := Blk.newAt v4 _ _ X hX.symm _ rfl
      have k7 : Below v4.heap.size v4 (v4.alloc (.cells #[.int .i64 0, .int .i64 0, .bool false, .bool false, .int .i64 0, .slice none 0 0, .slice none 0 0, .slice none 0 0, .slice none 0 0, .int .i64 0] 40)) := below_alloc _ _
      unfold dv
      go_wp2_with ((with_reducible refine at_st 40 ?_); (refine st' 40 (.tmp 12) (.tmp 41) 10 size40 v4.heap.size 0 (dc (DskS.new PowS.new 9) q0) rfl (dc_one _ _) (by rw [← hX]; exact z7.there 0 10 (by simp [z40])) rfl rfl ?_); intro v5 hv5; have b5 : Blk v5 X (dc (DskS.new PowS.new 9) q0) 40 := (by rw [hv5, ← hX]; exact z7.setsW _ rfl); have k5 : Below v4.heap.size v4 v5 := (by rw [hv5]; exact below_sets (Nat.le_refl _) _ k7 0); clear hv5)
      rw [← hX]
      have T0 : Hid (Two w v5 X d r (3 * 0) U F (DskS.new PowS.new 9) (DskS.new PowS.new 9) q0) := Two.first (by omega) S2.out hX b5 k5
      clear z7 k7 b5 k5 S2 hX
      go_loopw [14] (fun i wr => ∃ (k : Nat) (U F : Nat → Prop) (D E : DskS) (q : Quad), k ≤ len0 ∧ i = .int .i64 (k : Int) ∧ Hid (Two w wr X d r (3 * k) U F D E q) ∧ D.n = 9 ∧ D.plot = []) (fun i _ => len0 - (intOf i).toNat)
      case atStart => exact ⟨0, U, F, _, _, q0, Nat.zero_le _, rfl, T0, rfl, rfl⟩
      case round =>
        clear T0
        clear F U
        obtain ⟨k, U, F, D, E, q, hk, rfl, T, hn9, hp0⟩ := hrel
        by_cases hlt : k < len0
        · have i0 : (k : Int) < (len0 : Int) := by omega
          obtain ⟨x, hx⟩ : ∃ x, l0[k]? = some x := ⟨_, List.getElem?_eq_getElem (by omega)⟩
          obtain ⟨b, o, pa, pm, pq, ka, kn, kc, rfl, hbl, hrg, hB, hK, hO⟩ := W0.out.at T.out.sta.bel HA.out hx T.out.sta.old
          have LR : Hid (∀ u, Kp F wr u → u.rangeAt b (o + k * 11) (oc x pa pm pq ka kn kc)) := fun u h j v hj => by rw [World.cell?_of_block (w := wr) (h.block b (Nat.lt_of_lt_of_le hbl T.out.sta.bel.size) (T.out.sta.old b hbl))]; exact hrg j v hj
          have bX := T.out.bx
          have hXF := T.out.xf
          have HB : Hid (BA (fun j => ¬ F j) wr pa pm pq x.x.bytes) := hB
          have HK : Hid (BoA (fun j => ¬ F j) wr ka kn kc x.keep) := hK
          have HO : Hid x.fits := hO
          clear hB hK hO hrg hx
          go_wp2_with fail
          refine regionE 11 (S := Kp F wr) (by kernel_rfl) (Kp.of_below (Below.refl _ wr).drew) ?_
          refine takeT 0 (some 50) (.pointer (some ⟨r, 0, none⟩)) rfl rfl (by kernel_rfl) (fun _ _ _ h => h) (ans_plain (by rfl) (fun w _ => rfl)) ?_
          simp only [Act.put, List.setIfInBounds_toArray, List.set_cons_zero, List.set_cons_succ]
          refine takeT 1 (some 51) (.pointer (some ⟨d, 0, none⟩)) rfl rfl (by kernel_rfl) (fun _ _ _ h => h) (ans_plain (by rfl) (fun w _ => rfl)) ?_
          simp only [Act.put, List.setIfInBounds_toArray, List.set_cons_zero, List.set_cons_succ]
          refine takeT 2 (some 52) (dv E q) rfl rfl (by kernel_rfl) (fun _ _ _ h => h) (ans_row 40 (.tmp 12) _ 10 rfl (by rfl) X 0 rfl (dc E q) (fun u h => (h.blk bX hXF).whole) Try.underlying40 rfl rfl size40) ?_
          simp only [Act.put, List.setIfInBounds_toArray, List.set_cons_zero, List.set_cons_succ]
          refine takeT 3 (some 53) (.slice (some ⟨b, o, none⟩) len0 cap0) rfl rfl (by kernel_rfl) (fun _ _ _ h => h) (ans_plain (by rfl) (fun w _ => rfl)) ?_
          simp only [Act.put, List.setIfInBounds_toArray, List.set_cons_zero, List.set_cons_succ]
          refine takeT 4 (some 54) (.int .i64 (k : Int)) rfl rfl (by kernel_rfl) (fun _ _ _ h => h) (ans_plain (by rfl) (fun w _ => rfl)) ?_
          simp only [Act.put, List.setIfInBounds_toArray, List.set_cons_zero, List.set_cons_succ]
          refine takeT 5 (some 55) (.pointer (some ⟨b, o + k * 11, none⟩)) rfl rfl (by kernel_rfl) (fun _ _ _ h => h) (ans_plain (by rfl) (fun w _ => by unfold execOp; go_simp)) ?_
          simp only [Act.put, List.setIfInBounds_toArray, List.set_cons_zero, List.set_cons_succ]
          refine takeT 6 (some 56) (.agg (oc x pa pm pq ka kn kc).toArray) rfl rfl (by kernel_rfl) (fun _ _ _ h => h) (ans_row 50 (.tmp 55) _ 11 rfl (by rfl) b (o + k * 11) rfl (oc x pa pm pq ka kn kc) (fun u h => LR.out u h) Try.underlying50 rfl rfl sizeO) ?_
          simp only [Act.put, List.setIfInBounds_toArray, List.set_cons_zero, List.set_cons_succ]
          refine callE 7 (some 57) 14 #[.tmp 50, .tmp 51, .tmp 52, .tmp 56] #[29, 31, 40, 50] #[.pointer (some ⟨r, 0, none⟩), .pointer (some ⟨d, 0, none⟩), dv E q, .agg (oc x pa pm pq ka kn kc).toArray] rfl rfl rfl (by rfl) (by rfl) (by kernel_rfl) (by kernel_rfl) Try.call14 fun u1 hg1 _ => ?_
          have hs1 : Grows wr u1 := Grows.trans (Below.refl _ wr).drew hg1
          have T1 := T.out.grow hs1
          refine (lDo u1 (V := fun j => j = X) T1.sta.dk (fun j e => by rw [e]; exact T1.bx.lt) T1.rd T1.fd T1.fe (by omega) x (HB.out.grow hs1) (HK.out.keep hs1.size (fun j hj _ => hs1.block j hj)) HO.out).mono ?_
          rintro e u2 ⟨q1, bb, rfl, hbb, U2, F2, hd2, hr2, hU2, hF2, hk2⟩
          have ks2 : Kp F wr u2 := (Kp.of_below hs1).trans hk2
          refine ⟨_, rfl, ks2, ?_⟩
          simp only [Act.put, List.setIfInBounds_toArray, List.set_cons_zero, List.set_cons_succ]
          refine takeT 8 (some 49) (.tuple #[dv (E.act x) q1, .bool bb]) rfl rfl (by kernel_rfl) (fun _ _ _ h => h) (ans_plain (by rfl) (fun w _ => rfl)) ?_
          simp only [Act.put, List.setIfInBounds_toArray, List.set_cons_zero, List.set_cons_succ]
          refine takeT 9 (some 58) (dv (E.act x) q1) rfl rfl (by kernel_rfl) (fun _ _ _ h => h) (ans_plain (by rfl) (fun w _ => by unfold execOp; go_simp)) ?_
          simp only [Act.put, List.setIfInBounds_toArray, List.set_cons_zero, List.set_cons_succ]
          refine takeP 10 (some 59) (.bool bb) rfl rfl (by kernel_rfl) (fun _ _ _ h => h) (by rfl) (fun w => by unfold execOp; go_simp) ?_
          simp only [Act.put, List.setIfInBounds_toArray, List.set_cons_zero, List.set_cons_succ]
          refine lastE (by kernel_rfl) (by kernel_rfl) (by kernel_rfl) (by kernel_rfl) fun u4 hg4 ks4 => ?_
          refine opStR 11 40 (.tmp 12) (.tmp 58) 10 rfl rfl rfl rfl X (dc E q) (dc (E.act x) q1) _ (ks4.blk bX hXF) rfl rfl (dc_one _ _) size40 rfl rfl fun u5 b5 q5 u6 hg6 => ?_
          have T6 : Hid (Two w u6 X d r (3 * k + 3) U2 F2 (D.act x) (E.act x) q1) := T1.acted hd2 hr2 hU2 hk2 (T1.fd.a_act (by omega) x HO.out.2.2.2.2.2.2.1) (T1.fe.a_act (by omega) x HO.out.2.2.2.2.2.2.1) hg4 b5 q5 hg6
          have HN : Hid ((D.act x).n = 9 ∧ (D.act x).plot = []) := ⟨(act_same D x).1.trans hn9, (act_same D x).2.trans hp0⟩
          clear T1 hd2 hr2 hU2 hF2 hk2 ks2 ks4 hg4 b5 q5 hg6 hs1 hg1 LR HB HK HO bX hXF T
          go_wp2_with fail
          go_roundw
          case rel => exact ⟨k + 1, U2, F2, D.act x, E.act x, q1, by omega, by go_num, T6, HN.out⟩
          case measure => simp [intOf]; omega
        · have i0 : ¬ (k : Int) < (len0 : Int) := by omega
          obtain rfl : k = len0 := by omega
          have hm : 3 * k ≤ 120 := by omega
          obtain ⟨WC1, WC2, WC3⟩ := whole9 hn9 hp0 y1 y2 l3
          have fq2 := fresh_fit T.out.fd (by omega)
          have fq3 := fq2.a_write 3 (like y1)
          have fq4 := fq3.a_write 3 (like y2)
          have fq5 := fq4.a_crash (by omega) l3
          have hp5 := crash_p D []
          have n2 : D.fresh.n = 9 := (fresh_same D).1.trans hn9
          have n5 : (((D.fresh.write 3 (like y1)).1.write 3 (like y2)).1.crash l3).n = 9 := by
            obtain ⟨_, _, _, _, b5, _, _⟩ := settles_len (kept ((D.fresh.write 3 (like y1)).1.write 3 (like y2)).1.loose l3) ((D.fresh.write 3 (like y1)).1.write 3 (like y2)).1
            refine b5.trans ?_
            rw [write_n, write_n]
            exact n2
          have S0 : Hid (StaD w wr d r U F D) := T.out.sta
          have fd0 := T.out.fd
          clear T
          obtain ⟨D2, hD2⟩ : ∃ D2, D2 = D.fresh := ⟨_, rfl⟩
          have HD2 : Hid (D2 = { D.crash [] with p := D.p.back }) := hD2
          rw [← hD2] at WC1 WC2 WC3 fq2 fq3 fq4 fq5 n2 n5
          clear hD2
          obtain ⟨D3, hD3⟩ : ∃ D3, D3 = (D2.write 3 (like y1)).1 := ⟨_, rfl⟩
          rw [← hD3] at WC2 WC3 fq3 fq4 fq5 n5
          obtain ⟨D4, hD4⟩ : ∃ D4, D4 = (D3.write 3 (like y2)).1 := ⟨_, rfl⟩
          rw [← hD4] at WC3 fq4 fq5 n5
          obtain ⟨D5, hD5⟩ : ∃ D5, D5 = D4.crash l3 := ⟨_, rfl⟩
          rw [← hD5] at WC3 fq5 n5
          have HW : Hid (D5.look 3 = D2.look 3 ∨ D5.look 3 = like y1 ∨ D5.look 3 = like y2) := WC3
          clear WC3
          go_wp2_with fail
          refine (oDCrash wr S0.out.dk fd0 (by omega) (p := none) (m := 0) (c := 0) (b := []) ⟨⟨rfl, Nat.le_refl _, Nat.zero_le _, fun _ => rfl, fun i hi => by omega⟩, fun h => by omega⟩ (by omega)).mono ?_
          rintro e x1 ⟨rfl, U1, F1, hd, hU, hF, hk1⟩
          have S1 : Hid (StaD w x1 d r U1 F1 (D.crash [])) := S0.out.after hd hU hk1
          clear hd hU hF hk1 S0
          go_wp2_with fail
          refine (oPBack x1 S1.out.dk.pw.1).mono ?_
          rintro e x2 ⟨rfl, hp2, kr⟩
          rw [hp5] at hp2
          have S2 : Hid (StaD w x2 d r U1 F1 D2) := by rw [HD2.out]; exact S1.out.power hp2 kr
          clear hp2 kr S1 HD2
          go_wp2_with fail
          refine (oDLook x2 S2.out.dk fq2 (by omega) 3 (by omega)).mono ?_
          rintro e x3 ⟨wp, wm, wc, rfl, HWs, hb3⟩
          have HWs1 := HWs.mono (A' := fun j => ¬ F1 j) fun _ _ h => h.1
          have S3 : Hid (StaD w x3 d r U1 F1 D2) := S2.out.grow hb3
          clear S2 hb3 HWs
          go_wp2_with fail
          refine (lFill x3 y1).mono ?_
          rintro e x4 ⟨g1, rfl, hg1, h5, hb4⟩
          have S4 : Hid (StaD w x4 d r U1 F1 D2) := S3.out.grow hb4
          have H5 := S3.out.new h5
          have HW4 := HWs1.grow hb4
          clear S3 h5 hb4 hg1 HWs1
          go_wp2_with fail
          refine (oDWrite x4 S4.out.dk fq2 (by omega) 3 (by constructor <;> omega) H5).mono ?_
          rintro e x5 ⟨rfl, U5, F5, hd, hU, hF, hk5⟩
          rw [WC1]
          rw [← hD3] at hd
          have S5 : Hid (StaD w x5 d r U5 F5 D3) := S4.out.after hd hU hk5
          have HW5 := HW4.after hk5 hF
          clear S4 H5 hd hU hF hk5 HW4
          go_wp2_with fail
          refine (lFill x5 y2).mono ?_
          rintro e x6 ⟨g2, rfl, hg2, h5, hb6⟩
          have S6 : Hid (StaD w x6 d r U5 F5 D3) := S5.out.grow hb6
          have H5 := S5.out.new h5
          have HW6 := HW5.grow hb6
          clear S5 h5 hb6 hg2 HW5
          go_wp2_with fail
          refine (oDWrite x6 S6.out.dk fq3 (by omega) 3 (by constructor <;> omega) H5).mono ?_
          rintro e x7 ⟨rfl, U7, F7, hd, hU, hF, hk7⟩
          rw [WC2]
          rw [← hD4] at hd
          have S7 : Hid (StaD w x7 d r U7 F7 D4) := S6.out.after hd hU hk7
          have HW7 := HW6.after hk7 hF
          clear S6 H5 hd hU hF hk7 HW6
          go_wp2_with fail
          refine (oDCrash x7 S7.out.dk fq4 (by omega) (b := l3) (S7.out.bo W3.out) (by omega)).mono ?_
          rintro e x8 ⟨rfl, U8, F8, hd, hU, hF, hk8⟩
          rw [← hD5] at hd
          have S8 : Hid (StaD w x8 d r U8 F8 D5) := S7.out.after hd hU hk8
          have HW8 := HW7.after hk8 hF
          clear S7 hd hU hF hk8 HW7
          go_wp2_with fail
          refine (oDLook x8 S8.out.dk fq5 (by omega) 3 (by omega)).mono ?_
          rintro e x9 ⟨np, nm, nc, rfl, HN, hb9⟩
          have S9 : Hid (Below w.heap.size w x9) := (S8.out.grow hb9).bel
          have HW9 := HW8.grow hb9
          have HNb := HN.1
          have HWb := HW9.1
          clear S8 HN HW8 HW9 hb9 fq2 fq3 fq4 fq5 fd0 hD3 hD4 hD5 WC1 WC2 hp5
          generalize D5.look 3 = now at *
          generalize D2.look 3 = was at *
          have CW : Hid (∀ u, Below w.heap.size w u → Calls Try.prog 7 #[] u fun e w' => e = .returned (.bool true) ∧ Below w.heap.size w w') := fun u hu => (lWorks9 u).mono (by rintro e w' ⟨rfl, h⟩; exact ⟨rfl, hu.trans (h.mono hu.size)⟩)
          go_wp2_with fail
          refine (rSame x9 HNb HWb).mono ?_
          rintro e z1 ⟨rfl, k1, rfl⟩
          have S10 : Hid (Below w.heap.size w (x9.drewN k1)) := S9.out.trans ((below_drewN' x9 k1).mono S9.out.size)
          have HNb1 := HNb.below (below_drewN' x9 k1) (Nat.le_refl _)
          clear S9 HNb HWb
          generalize x9.drewN k1 = z1 at *
          by_cases c1 : now = was
          · rw [decide_eq_true c1]
            clear HNb1 HW
            go_wp2_with fail
            refine (CW.out z1 S10.out).mono ?_
            rintro e z2 ⟨rfl, hz⟩
            go_wp2_with fail
            go_ret
            exact ⟨rfl, hz⟩
          · rw [decide_eq_false c1]
            go_wp2_with fail
            refine (lFill z1 y1).mono ?_
            rintro e z2 ⟨g3, rfl, hg3, h53, hbz⟩
            have S11 : Hid (Below w.heap.size w z2) := S10.out.trans (hbz.mono S10.out.size)
            have HNb2 := HNb1.below hbz (Nat.le_refl _)
            clear S10 HNb1 hbz
            go_wp2_with fail
            refine (rSame z2 HNb2 h53.bs).mono ?_
            rintro e z3 ⟨rfl, k3, rfl⟩
            have S12 : Hid (Below w.heap.size w (z2.drewN k3)) := S11.out.trans ((below_drewN' z2 k3).mono S11.out.size)
            have HNb3 := HNb2.below (below_drewN' z2 k3) (Nat.le_refl _)
            clear S11 HNb2 h53
            generalize z2.drewN k3 = z3 at *
            by_cases c2 : now = like y1
            · rw [decide_eq_true c2]
              clear HNb3 HW
              go_wp2_with fail
              refine (CW.out z3 S12.out).mono ?_
              rintro e z4 ⟨rfl, hz⟩
              go_wp2_with fail
              go_ret
              exact ⟨rfl, hz⟩
            · rw [decide_eq_false c2]
              have c3 : now = like y2 := (HW.out.resolve_left c1).resolve_left c2
              go_wp2_with fail
              refine (lFill z3 y2).mono ?_
              rintro e z4 ⟨g4, rfl, hg4, h54, hbz⟩
              have S13 : Hid (Below w.heap.size w z4) := S12.out.trans (hbz.mono S12.out.size)
              have HNb4 := HNb3.below hbz (Nat.le_refl _)
              clear S12 HNb3 hbz
              go_wp2_with fail
              refine (rSame z4 HNb4 h54.bs).mono ?_
              rintro e z5 ⟨rfl, k5, rfl⟩
              have S14 : Hid (Below w.heap.size w (z4.drewN k5)) := S13.out.trans ((below_drewN' z4 k5).mono S13.out.size)
              clear S13 HNb4 h54
              generalize z4.drewN k5 = z5 at *
              rw [decide_eq_true c3]
              go_wp2_with fail
              refine (CW.out z5 S14.out).mono ?_
              rintro e z6 ⟨rfl, hz⟩
              go_wp2_with fail
              go_ret
              exact ⟨rfl, hz⟩
    · have i60 : (60 : Int) < (len3 : Int) := by omega
      go_wp2_with fail
      refine (lWorks9 v0).mono ?_
      rintro e v1 ⟨rfl, hb1⟩
      go_wp2_with fail
      go_ret
      exact ⟨rfl, hb0.trans (hb1.mono hb0.size)⟩

set_option maxRecDepth 100000 in
theorem lifted (os : Os) (started : os.Started) (H : Type) (enc : TypeId × Value → H) :
    ReturnsInHanded {} Try.checked os 5 .any (Rows.diskWholeSpec.pre6 enc Try.prog Try.f5 Rows.diskWholeRow.domain false) (Rows.diskWholeSpec.post enc Try.prog Try.f5 false true false false) := by
  refine returnsInHanded_of_change (C := Try.checked) own started (by kernel_rfl) Try.func5
    (ChangeSpec.witness6 (enc := enc) (C := Try.checked) false ⟨#[], #[.slice none 0 0, .int .u8 0, .int .u8 0, .slice none 0 0], []⟩ 8 (by kernel_rfl) (by kernel_rfl) (by kernel_rfl) (by kernel_rfl)) ?_
  intro W base args ds gs before hval0 hW hcnd _
  have hval : ∀ (j : Nat) t v, Try.f5.params[j]? = some t → args[j]? = some v → Value.okWide Try.prog W .any base t v := hval0
  have hW' := hW
  obtain ⟨p, q, hA0, hV, rfl, hfz, hnd⟩ := hW
  have hA : DataW.TrodAll enc Try.prog W 0 (fun _ => true) true Try.f5.params.toList args.toList ds p := hA0
  rw [Try.params5] at hA hval
  obtain ⟨v0, vs0, d0, ds0, p0, q0, hargs, rfl, rfl, h0, r0⟩ := trodAll_cons hA
  obtain ⟨v1, vs1, d1, ds1, p1, q1, rfl, rfl, rfl, h1, r1⟩ := trodAll_cons r0
  obtain ⟨v2, vs2, d2, ds2, p2, q2, rfl, rfl, rfl, h2, r2⟩ := trodAll_cons r1
  obtain ⟨v3, vs3, d3, ds3, p3, q3, rfl, rfl, rfl, h3, r3⟩ := trodAll_cons r2
  obtain ⟨rfl, rfl, rfl⟩ := trodAll_nil r3
  obtain rfl : args = #[v0, v1, v2, v3] := by cases args; simp_all
  obtain ⟨rfl, rfl⟩ := trodVars_none hV
  obtain ⟨a0, len0, cap0, rfl⟩ := okWide_slice Try.underlying23 (hval 0 23 v0 rfl rfl)
  have k0 := h0
  have lt0 : ∀ x ∈ p0, x.block < W.heap.size := by obtain ⟨m, hm⟩ := k0; exact DataW.trod_lt m _ _ _ hm
  obtain ⟨l0, w0⟩ : ∃ l, Acts W a0 len0 cap0 l := by
    obtain ⟨fuel, hf⟩ := h0
    exact acts_of_trod hf
  obtain ⟨a1, rfl, rfl, rfl, w1⟩ := open_int Try.underlying5 (hval 1 5 v1 rfl rfl) h1
  obtain ⟨a2, rfl, rfl, rfl, w2⟩ := open_int Try.underlying5 (hval 2 5 v2 rfl rfl) h2
  obtain ⟨a3, len3, cap3, rfl⟩ := okWide_slice Try.underlying48 (hval 3 48 v3 rfl rfl)
  have k3 := h3
  have lt3 : ∀ x ∈ p3, x.block < W.heap.size := by obtain ⟨m, hm⟩ := k3; exact DataW.trod_lt m _ _ _ hm
  obtain ⟨l3, w3⟩ : ∃ l, BoW W a3 len3 cap3 l := by
    obtain ⟨fuel, hf⟩ := h3
    exact bow_of_trod hf
  clear hA0 hval0
  refine (walk a0 len0 cap0 l0 a1 a2 a3 len3 cap3 l3 W w0 w1 w2 w3).mono fun e W' ⟨he, bel⟩ => ?_
  subst he
  exact ⟨_, rfl, _, _, _, [], _, [], hW', trodAll_mk1 (shut_bool Try.underlying4 _), (trodAll_cons_mk (Below.trod laidOut (by kernel_rfl) (of_decide_eq_true (by kernel_rfl)) k0 bel lt0) (trodAll_cons_mk (shut_int Try.underlying5 w1) (trodAll_cons_mk (shut_int Try.underlying5 w2) (trodAll_cons_mk (Below.trod laidOut (by kernel_rfl) (of_decide_eq_true (by kernel_rfl)) k3 bel lt3) trodAll_mk0)))), rfl, bel.frame _, fun h => by cases h⟩

theorem over : Rows.diskWholeRow.holds Try.pinned (OpenSpec.ofChange Rows.diskWholeSpec) :=
  OpenClaim.holds_of_wide 5 Try.f5 rfl rfl rfl rfl rfl rfl rfl ⟨rfl, rfl, rfl, rfl, rfl⟩ rfl rfl rfl rfl rfl (by kernel_rfl) Try.func5 (by kernel_rfl)
    (of_decide_eq_true (by kernel_rfl)) (by unfold Func.isWrapper; first | (rw [if_pos (by decide +kernel)]; kernel_rfl) | (rw [if_neg (by decide +kernel)]; exact ⟨rfl, rfl⟩))
    (fun os started H enc _ => lifted os started H enc)
end DiskWholeLaw

/-- The statement. -/
theorem diskWhole_holds : Rows.DiskWholeSaid := DiskWholeLaw.over
#print axioms diskWhole_holds
end Go.Proofs.Ytfdilgnlfademaa
