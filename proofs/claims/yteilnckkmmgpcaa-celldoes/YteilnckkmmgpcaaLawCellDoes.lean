/-
  Proved: for any acts the statement CellDoes of layer 10 answers true and leaves its arguments as they were. Conditions beside the statement's own: none.
-/
import Derived.Test.YteilnckkmmgpcaaRows
import Derived.Test.YteilnckkmmgpcaaCelT
import Derived.Test.YteilnckkmmgpcaaGrowT
import Derived.Test.YteilnckkmmgpcaaSame
import Derived.Below
import Derived.ChangeOld
namespace Go.Proofs.Yteilnckkmmgpcaa
namespace CellDoesLaw
open Go.ChangeShapes Go.WideShapes Go.ChangeAt Go.RowKit
open Go.ChangeMaps (open_string shut_string)
set_option linter.unusedVariables false

theorem own : ownKnob Try.prog.godebug = none := by kernel_rfl
theorem laidOut : laidOutB Try.prog = true := by kernel_rfl

set_option maxRecDepth 100000 in
set_option maxHeartbeats 4000000 in
theorem walk (a0 : Option Addr) (len0 cap0 : Nat) (l0 : List Op10) (w : World) (w0 : Acts10 w a0 len0 cap0 l0) :
    Calls Try.prog 3 #[.slice a0 len0 cap0] w fun e w' => e = .returned (.bool true) ∧ Below w.heap.size w w' := by
  have W0 : Hid (Acts10 w a0 len0 cap0 l0) := w0
  have hl0 := Sl.len w0
  have hc0 := Sl.cap w0
  unfold maxLen at hc0
  have CW : Hid (∀ u, Below w.heap.size w u → Calls Try.prog 6 #[] u fun e w' => e = .returned (.bool true) ∧ Below w.heap.size w w') := fun u hu => (lWorks10 u).mono (by rintro e w' ⟨rfl, h⟩; exact ⟨rfl, hu.trans (h.mono hu.size)⟩)
  have hb0 : Below w.heap.size w w := Below.refl _ _
  clear w0
  go_enter Try.func3, Try.ntmps3
  go_wp2_with fail
  refine (lLight10 w W0.out).mono ?_
  rintro e v0 ⟨v, rfl, hv, rfl⟩
  cases v with
  | false =>
    clear hv
    go_wp2_with fail
    refine (CW.out w hb0).mono ?_
    rintro e ww ⟨rfl, hbw⟩
    go_wp2_with fail
    go_ret
    exact ⟨rfl, hbw⟩
  | true =>
    obtain ⟨hn, hall⟩ := hv rfl
    clear hv hall
    go_wp2_with fail
    refine (oPNew w).mono ?_
    rintro e v1 ⟨r, rfl, hr, hp, hb1⟩
    go_wp2_with fail
    refine (oCNew v1 hp).mono ?_
    rintro e v2 ⟨c, U, F, rfl, hd, hU, hb2⟩
    have S0 : Hid (StaC w v2 c r U F (CelS.new PowS.new)) := StaC.first hb1 hr hd hU hb2
    clear hd hU hb2 hb1 hp hr
    go_wp2_with fail
    refine (rPNew v2).mono ?_
    rintro e v3 ⟨rfl, hb3⟩
    have S1 : Hid (StaC w v3 c r U F (CelS.new PowS.new)) := S0.out.grow hb3
    clear S0 hb3
    have hUl := S1.out.ck.lt
    have hFU := S1.out.ck.sub
    go_wp2_with fail
    refine (rCNew v3 (A := fun j => v3.heap.size ≤ j) (fun j hj => hj) PowS.new).mono ?_
    rintro e v4 ⟨q0, rfl, hr4, hb4⟩
    have S2 : Hid (StaC w v4 c r U F (CelS.new PowS.new)) := S1.out.grow hb4
    have HR4 : Hid (RC (fun j => v3.heap.size ≤ j) v4 (CelS.new PowS.new) q0 ∧ ∀ j, v3.heap.size ≤ j → ¬ F j) := ⟨hr4, fun j hj hF => by have := hUl j (hFU j hF); omega⟩
    clear S1 hb4 hr4 hUl hFU
    obtain ⟨X, hX⟩ : ∃ X, X = v4.heap.size := ⟨_, rfl⟩
    have z7 : Blk (v4.alloc (.cells #[.int .i64 0, .int .i64 0, .bool false, .bool false, .slice none 0 0, .int .i64 0] 35)) X [.int .i64 0, .int .i64 0, .bool false, .bool false, .slice none 0 0, .int .i64 0] 35 := Blk.newAt v4 _ _ X hX.symm _ rfl
    have k7 : Below v4.heap.size v4 (v4.alloc (.cells #[.int .i64 0, .int .i64 0, .bool false, .bool false, .slice none 0 0, .int .i64 0] 35)) := below_alloc _ _
    unfold cv
    go_wp2_with ((with_reducible refine at_st 35 ?_); (refine st' 35 (.tmp 6) (.tmp 36) 6 size35 v4.heap.size 0 (cc (CelS.new PowS.new) q0) rfl (cc_one _ _) (by rw [← hX]; exact z7.there 0 6 (by simp)) rfl rfl ?_); intro v5 hv5; have b5 : Blk v5 X (cc (CelS.new PowS.new) q0) 35 := (by rw [hv5, ← hX]; exact z7.setsW _ rfl); have k5 : Below v4.heap.size v4 v5 := (by rw [hv5]; exact below_sets (Nat.le_refl _) _ k7 0); clear hv5)
    rw [← hX]
    have T0 : Hid (TwoC w v5 X c r 0 U F (CelS.new PowS.new) q0) := TwoC.first S2.out hX HR4.out.1 HR4.out.2 b5 k5
    clear z7 k7 b5 k5 S2 hX HR4
    go_loopw [7, 8, 9, 10, 11, 12, 13, 14] (fun i _ _ _ _ _ _ _ wr => ∃ (k : Nat) (U F : Nat → Prop) (C : CelS) (q : Tri), k ≤ len0 ∧ i = .int .i64 (k : Int) ∧ Hid (TwoC w wr X c r k U F C q)) (fun i _ _ _ _ _ _ _ _ => len0 - (intOf i).toNat)
    case atStart => exact ⟨0, U, F, _, q0, Nat.zero_le _, rfl, T0⟩
    case round =>
      clear T0
      clear F U
      obtain ⟨k, U, F, C, q, hk, rfl, T⟩ := hrel
      by_cases hlt : k < len0
      · have i0 : (k : Int) < (len0 : Int) := by omega
        obtain ⟨x, hx⟩ : ∃ x, l0[k]? = some x := ⟨_, List.getElem?_eq_getElem (by omega)⟩
        obtain ⟨b, o, p, m, qq, rfl, hbl, hrg, hB, i1, i2, i3⟩ := W0.out.at T.out.sta.bel hx
        have HI : Hid (BA (fun j => j < w.heap.size) w p m qq x.b ∧ i64 x.at_ ∧ i64 x.n) := ⟨hB, i2, i3⟩
        obtain ⟨g, hg⟩ : ∃ g, g = wr.heap.size := ⟨_, rfl⟩
        have z9 : Blk (wr.alloc (.cells #[.int .i64 0, .int .i64 0, .slice none 0 0, .int .i64 0, .bool false] 40)) g zOp10 40 := Blk.newAt wr _ _ g hg.symm _ rfl
        have k9 : Below wr.heap.size wr (wr.alloc (.cells #[.int .i64 0, .int .i64 0, .slice none 0 0, .int .i64 0, .bool false] 40)) := below_alloc _ _
        clear hx hB i1 i2 i3
        go_upto_block 2 with (first | ((with_reducible refine at_ld 40 ?_); (refine ld 40 (.tmp 45) 5 sizeO10 _ Try.underlying40 rfl b (o + k * 5) (ok10 x p m qq) rfl hrg rfl ?_)) | ((with_reducible refine at_st 40 ?_); (refine st' 40 (.tmp 8) (.tmp 46) 5 sizeO10 wr.heap.size 0 (ok10 x p m qq) rfl (ok10_one _ _ _ _) (by rw [← hg]; exact z9.there 0 5 (by simp [zOp10])) rfl rfl ?_); intro v5 hv5; have b5 : Blk v5 g (ok10 x p m qq) 40 := (by rw [hv5, ← hg]; exact z9.setsW _ rfl); have k5 : Below wr.heap.size wr v5 := (by rw [hv5]; exact below_sets (Nat.le_refl _) _ k9 0); have c0x : v5.cell? ⟨wr.heap.size, 0, none⟩ = some (.int .i64 x.kind) := (by rw [← hg]; exact b5.cell 0); have hglx : wr.heap.size < v5.heap.size := (by rw [← hg]; exact b5.lt); clear hv5))
        rw [← hg]
        have T1 : Hid (TwoC w v5 X c r k U F C q) := T.out.grow k5
        have hgF : ¬ F g := fun hF => by have := T.out.sta.ck.lt g (T.out.sta.ck.sub g hF); omega
        have hgX : g ≠ X := by have := T.out.bx.lt; omega
        have c0 : v5.cell? ⟨g, 0, none⟩ = some (.int .i64 x.kind) := b5.cell 0
        have c1 : v5.cell? ⟨g, 1, none⟩ = some (.int .i64 x.at_) := b5.cell 1
        have c2 : v5.cell? ⟨g, 2, none⟩ = some (.slice p m qq) := b5.cell 2
        have c3 : v5.cell? ⟨g, 3, none⟩ = some (.int .i64 x.n) := b5.cell 3
        have c4 : v5.cell? ⟨g, 4, none⟩ = some (.bool x.done) := b5.cell 4
        have hgl := b5.lt
        clear z9 k9 k5 T hrg hg c0x hglx
        go_cut [9, 10, 11, 12, 13, 14] from 37 to 130 (fun _ _ _ _ _ _ wx => ∃ (U2 F2 : Nat → Prop) (C2 : CelS) (q2 : Tri), Hid (TwoC w wx X c r (k + 1) U2 F2 C2 q2))
        case first =>
          by_cases h0 : x.kind = 0
          · have b0 : (x.kind == 0) = true := by simp [h0]
            have CR : Hid (Calls Try.prog 11 #[.pointer (some ⟨c, 0, none⟩), .int .i64 x.at_] v5 fun e w' => ∃ p m q, e = .returned (.tuple #[.slice p m q, .int .i64 (C.read x.at_).2]) ∧ Bs w' p m q (C.read x.at_).1 ∧ Below v5.heap.size v5 w') := (oCRead v5 T1.out.sta.ck T1.out.fd (by omega) x.at_ HI.out.2.1).mono (by rintro e w' ⟨p, m, q, rfl, hb, hk⟩; exact ⟨p, m, q, rfl, hb.1, hk⟩)
            go_wp2_with fail
            refine CR.out.mono ?_
            rintro e u1 ⟨p1, m1, q1, rfl, HB1, hb1⟩
            have T2 : Hid (TwoC w u1 X c r k U F C q) := T1.out.grow hb1
            have b6 := b5.below hb1 b5.lt
            have bX2 := T2.out.bx
            have d1 : u1.cell? ⟨g, 1, none⟩ = some (.int .i64 x.at_) := b6.cell 1
            have hg6 := b6.lt
            have CQ : Hid (Calls Try.prog 12 #[cv C q, .int .i64 x.at_] u1 fun e w' => ∃ p m c', e = .returned (.tuple #[.slice p m c', .int .i64 (C.read x.at_).2]) ∧ Bs w' p m c' (C.read x.at_).1 ∧ Below u1.heap.size u1 w') := (rCRead u1 T2.out.rd T2.out.fd x.at_ HI.out.2.1).mono (by rintro e w' ⟨p, m, q, rfl, hb, hk⟩; exact ⟨p, m, q, rfl, hb.1, hk⟩)
            clear T1 CR b5
            go_wp2_with ((with_reducible refine at_ld 35 ?_); (refine ld 35 (.tmp 6) 6 size35 _ Try.underlying35 rfl X 0 (cc C q) rfl (bX2.whole) rfl ?_))
            refine CQ.out.mono ?_
            rintro e u2 ⟨p2, m2, q2, rfl, HB2, hb2⟩
            have T3 : Hid (TwoC w u2 X c r k U F C q) := T2.out.grow hb2
            have HB1b := HB1.below hb2 (Nat.le_refl _)
            clear T2 CQ bX2 b6 HB1 hb2 d1
            generalize (C.read x.at_).2 = cd at *
            go_wp2_with fail
            refine (rSame u2 HB1b HB2).mono ?_
            rintro e u3 ⟨rfl, k3, rfl⟩
            rw [decide_eq_true rfl]
            have T4 : Hid (TwoC w (u2.drewN k3) X c r (k + 1) U F C q) := (T3.out.grow (below_drewN' u2 k3)).more
            clear T3 HB1b HB2
            generalize u2.drewN k3 = u3 at *
            go_wp2_with fail
            go_meet
            case rel => exact ⟨U, F, C, q, T4⟩
          · have b0 : (x.kind == 0) = false := by simp [h0]
            by_cases h1 : x.kind = 1
            · have b1 : (x.kind == 1) = true := by simp [h1]
              have CQ : Hid (Calls Try.prog 14 #[cv C q, .int .i64 x.at_, .slice p m qq] v5 fun e w' => ∃ q', e = .returned (.tuple #[cv (C.write x.at_ x.b).1 q', .int .i64 (C.write x.at_ x.b).2]) ∧ RC (fun j => ¬ F j ∧ ¬ j = X) w' (C.write x.at_ x.b).1 q' ∧ Below v5.heap.size v5 w') := rCWrite v5 T1.out.rd (fun j hj => ⟨fun hF => by have := T1.out.sta.ck.lt j (T1.out.sta.ck.sub j hF); omega, fun e => by have := T1.out.bx.lt; omega⟩) T1.out.fd (by omega) x.at_ HI.out.2.1 (HI.out.1.1.below T1.out.sta.bel (Nat.le_refl _))
              have CP : Hid (∀ u, StaC w u c r U F C → Calls Try.prog 15 #[.pointer (some ⟨c, 0, none⟩), .int .i64 x.at_, .slice p m qq] u fun e w' => e = .returned (.int .i64 (C.write x.at_ x.b).2) ∧ Cks U F u c r (C.write x.at_ x.b).1 w') := fun u S => oCWrite u S.ck T1.out.fd (by omega) x.at_ HI.out.2.1 (S.arg' HI.out.1)
              have f1 : (C.write x.at_ x.b).1.fit (k + 1) := T1.out.fd.a_write x.at_ x.b
              obtain ⟨C1, hC1⟩ : ∃ C1, C1 = (C.write x.at_ x.b).1 := ⟨_, rfl⟩
              obtain ⟨cd, hcd⟩ : ∃ cd, cd = (C.write x.at_ x.b).2 := ⟨_, rfl⟩
              rw [← hC1, ← hcd] at CQ CP
              rw [← hC1] at f1
              clear hC1 hcd
              have bX1 := T1.out.bx
              go_wp2_with ((with_reducible refine at_ld 35 ?_); (refine ld 35 (.tmp 6) 6 size35 _ Try.underlying35 rfl X 0 (cc C q) rfl (bX1.whole) rfl ?_))
              refine CQ.out.mono ?_
              rintro e u1 ⟨q1, rfl, hr1, hb1⟩
              have bX2 := bX1.below hb1 bX1.lt
              have b6 := b5.below hb1 b5.lt
              obtain ⟨g2, hg2⟩ : ∃ g2, g2 = u1.heap.size := ⟨_, rfl⟩
              have z2 : Blk (u1.alloc (.cells #[.int .i64 0, .int .i64 0, .bool false, .bool false, .slice none 0 0, .int .i64 0] 35)) g2 [.int .i64 0, .int .i64 0, .bool false, .bool false, .slice none 0 0, .int .i64 0] 35 := Blk.newAt u1 _ _ g2 hg2.symm _ rfl
              have y2 := bX2.old (.cells #[.int .i64 0, .int .i64 0, .bool false, .bool false, .slice none 0 0, .int .i64 0] 35)
              have x2 := b6.old (.cells #[.int .i64 0, .int .i64 0, .bool false, .bool false, .slice none 0 0, .int .i64 0] 35)
              have k2 : Below u1.heap.size u1 (u1.alloc (.cells #[.int .i64 0, .int .i64 0, .bool false, .bool false, .slice none 0 0, .int .i64 0] 35)) := below_alloc _ _
              have hXg : X ≠ g2 := by have := bX2.lt; omega
              have hgg : g ≠ g2 := by have := b6.lt; omega
              have hgX : g ≠ X := by omega
              clear CQ bX1 b5
              unfold cv
              go_wp2_with (first | ((with_reducible refine at_st 35 ?_); (refine st' 35 (.tmp 13) (.tmp 83) 6 size35 u1.heap.size 0 (cc C1 q1) rfl (cc_one _ _) (by rw [← hg2]; exact z2.there 0 6 (by simp)) rfl rfl ?_); intro u2 hu2; have z3 : Blk u2 g2 (cc C1 q1) 35 := (by rw [hu2, ← hg2]; exact z2.setsW _ rfl); have k3 : Below u1.heap.size u1 u2 := (by rw [hu2]; exact below_sets (Nat.le_refl _) _ k2 0); have y3 : Blk u2 X (cc C q) 35 := (by rw [hu2, ← hg2]; exact y2.setsO hXg _ 0); have x3 : Blk u2 g (ok10 x p m qq) 40 := (by rw [hu2, ← hg2]; exact x2.setsO hgg _ 0); clear hu2) | ((with_reducible refine at_ld 35 ?_); (refine ld 35 (.tmp 13) 6 size35 _ Try.underlying35 rfl u1.heap.size 0 (cc C1 q1) rfl (by rw [← hg2]; exact z3.whole) rfl ?_)) | ((with_reducible refine at_st 35 ?_); (refine st' 35 (.tmp 6) (.tmp 85) 6 size35 X 0 (cc C1 q1) rfl (cc_one _ _) (y3.there 0 6 (by simp [cc])) rfl rfl ?_); intro u3 hu3; have b3 : Blk u3 X (cc C1 q1) 35 := (by rw [hu3]; exact y3.setsW _ rfl); have q3 : Kp (fun j => j = X) u2 u3 := (by rw [hu3]; exact Kp.of_grown (but_cells' _ _ _ _)); have x4 : Blk u3 g (ok10 x p m qq) 40 := (by rw [hu3]; exact x3.setsO hgX _ 0); have e1 : u3.cell? ⟨g, 1, none⟩ = some (.int .i64 x.at_) := x4.cell 1; have e2 : u3.cell? ⟨g, 2, none⟩ = some (.slice p m qq) := x4.cell 2; have lg := x4.lt; clear hu3))
              have hb12 : Below v5.heap.size v5 u2 := hb1.trans (k3.mono hb1.size)
              have S2 := T1.out.sta.grow hb12
              have S3 : StaC w u3 c r U F C := ⟨S2.ck.keep q3 (fun j hj e => T1.out.xu (e ▸ hj)), S2.base, below_kp S2.bel q3 S2.bel.size (fun j hj e => by have := T1.out.xw; omega)⟩
              have HS3 : Hid (StaC w u3 c r U F C) := S3
              have KK : Hid (Below v5.heap.size v5 u2 ∧ RC (fun j => ¬ F j ∧ ¬ j = X) u2 C1 q1 ∧ Blk u3 X (cc C1 q1) 35 ∧ Kp (fun j => j = X) u2 u3) := ⟨hb12, hr1.below k3, b3, q3⟩
              clear S2 S3 hb12 hr1 k3 b3 q3 y3 x3 x4 z3 bX2 b6 z2 y2 x2 k2 hb1
              refine (CP.out u3 HS3.out).mono ?_
              rintro e u4 ⟨rfl, U2, F2, hd, hU, hF, hk4⟩
              have T4 : Hid (TwoC w u4 X c r (k + 1) U2 F2 C1 q1) := T1.out.wrote KK.out.1 KK.out.2.1 KK.out.2.2.1 KK.out.2.2.2 hd hU hF hk4 f1
              clear hd hU hF hk4 HS3 KK T1 CP f1 e1 e2
              go_wp2_with fail
              go_meet
              case rel => exact ⟨U2, F2, C1, q1, T4⟩
            · have b1 : (x.kind == 1) = false := by simp [h1]
              by_cases h2 : x.kind = 2
              · have b2 : (x.kind == 2) = true := by simp [h2]
                have hfit : (C.p.set x.n x.done).fit (k + 1) := PowS.fit_mono (PowS.fit_set T1.out.fd.p HI.out.2.2.2 x.done) (by omega)
                have CP : Hid (Calls Try.prog 16 #[.pointer (some ⟨r, 0, none⟩), .int .i64 x.n, .bool x.done] v5 fun e w' => e = .returned (.tuple #[]) ∧ Pw w' r (C.p.set x.n x.done) ∧ Kp (fun j => j = r) v5 w') := oPFuse v5 T1.out.sta.ck.pw.1 x.n x.done HI.out.2.2
                have CQ : Hid (∀ u, Calls Try.prog 17 #[.agg [.int .i64 (C.p.steps : Int), .int .i64 C.p.fuse, .bool C.p.done, .bool C.p.down].toArray, .int .i64 x.n, .bool x.done] u fun e w' => e = .returned (pv (C.p.set x.n x.done)) ∧ Below u.heap.size u w') := fun u => rPFuse u C.p x.n x.done
                obtain ⟨P1, hP1⟩ : ∃ P1, P1 = C.p.set x.n x.done := ⟨_, rfl⟩
                rw [← hP1] at CP CQ hfit
                clear hP1
                have hFr := T1.out.sta.ck.pw.2
                go_wp2_with fail
                refine CP.out.mono ?_
                rintro e u1 ⟨rfl, hp1, kr⟩
                have krF : Kp F v5 u1 := kr.mono (fun j _ e => by rw [e]; exact hFr)
                have bX2 := krF.blk T1.out.bx T1.out.xf
                have b6 : Blk u1 g (ok10 x p m qq) 40 := krF.blk b5 hgF
                have rgP : u1.rangeAt X 0 [.int .i64 (C.p.steps : Int), .int .i64 C.p.fuse, .bool C.p.done, .bool C.p.down] := fun j v hj => by rw [Nat.zero_add, bX2.cell]; rcases j with _ | _ | _ | _ | j <;> first | exact hj | simp at hj
                have d3 : u1.cell? ⟨g, 3, none⟩ = some (.int .i64 x.n) := b6.cell 3
                have d4 : u1.cell? ⟨g, 4, none⟩ = some (.bool x.done) := b6.cell 4
                have lg := b6.lt
                have lX := bX2.lt
                clear CP krF b5
                go_wp2_with ((with_reducible refine at_ld 32 ?_); (refine ld 32 (.tmp 102) 4 size32 _ Try.underlying32 rfl X 0 [.int .i64 (C.p.steps : Int), .int .i64 C.p.fuse, .bool C.p.done, .bool C.p.down] rfl rgP rfl ?_))
                refine (CQ.out u1).mono ?_
                rintro e u2 ⟨rfl, hb2⟩
                have y3 := bX2.below hb2 bX2.lt
                clear CQ rgP bX2 b6 d3 d4
                unfold pv
                go_wp2_with ((with_reducible refine at_st 32 ?_); (refine st' 32 (.tmp 109) (.tmp 108) 4 size32 X 0 (pc P1) rfl (pc_one' _) (y3.there 0 4 (by simp [cc])) rfl rfl ?_); intro u3 hu3; have b3 : Blk u3 X (cc { C with p := P1 } q) 35 := (by rw [hu3]; exact ((((y3.setC 0 _).setC 1 _).setC 2 _).setC 3 _)); have q3 : Kp (fun j => j = X) u2 u3 := (by rw [hu3]; exact Kp.of_grown (but_cells' _ _ _ _)); clear hu3)
                have T4 : Hid (TwoC w u3 X c r (k + 1) U F { C with p := P1 } q) := T1.out.power hp1 kr hb2 b3 q3 hfit
                clear T1 hp1 kr hb2 b3 q3 hfit y3
                go_meet
                case rel => exact ⟨U, F, _, q, T4⟩
              · have b2 : (x.kind == 2) = false := by simp [h2]
                by_cases h3 : x.kind = 3
                · have b3 : (x.kind == 3) = true := by simp [h3]
                  have hfit : (C.p.back).fit (k + 1) := PowS.fit_mono (PowS.fit_back T1.out.fd.p) (by omega)
                  have CP : Hid (Calls Try.prog 18 #[.pointer (some ⟨r, 0, none⟩)] v5 fun e w' => e = .returned (.tuple #[]) ∧ Pw w' r (C.p.back) ∧ Kp (fun j => j = r) v5 w') := oPBack v5 T1.out.sta.ck.pw.1
                  have CQ : Hid (∀ u, Calls Try.prog 19 #[.agg [.int .i64 (C.p.steps : Int), .int .i64 C.p.fuse, .bool C.p.done, .bool C.p.down].toArray] u fun e w' => e = .returned (pv (C.p.back)) ∧ Below u.heap.size u w') := fun u => rPBack u C.p
                  obtain ⟨P1, hP1⟩ : ∃ P1, P1 = C.p.back := ⟨_, rfl⟩
                  rw [← hP1] at CP CQ hfit
                  clear hP1
                  have hFr := T1.out.sta.ck.pw.2
                  go_wp2_with fail
                  refine CP.out.mono ?_
                  rintro e u1 ⟨rfl, hp1, kr⟩
                  have krF : Kp F v5 u1 := kr.mono (fun j _ e => by rw [e]; exact hFr)
                  have bX2 := krF.blk T1.out.bx T1.out.xf
                  have b6 : Blk u1 g (ok10 x p m qq) 40 := krF.blk b5 hgF
                  have rgP : u1.rangeAt X 0 [.int .i64 (C.p.steps : Int), .int .i64 C.p.fuse, .bool C.p.done, .bool C.p.down] := fun j v hj => by rw [Nat.zero_add, bX2.cell]; rcases j with _ | _ | _ | _ | j <;> first | exact hj | simp at hj
                  have d3 : u1.cell? ⟨g, 3, none⟩ = some (.int .i64 x.n) := b6.cell 3
                  have d4 : u1.cell? ⟨g, 4, none⟩ = some (.bool x.done) := b6.cell 4
                  have lg := b6.lt
                  have lX := bX2.lt
                  clear CP krF b5
                  go_wp2_with ((with_reducible refine at_ld 32 ?_); (refine ld 32 (.tmp 114) 4 size32 _ Try.underlying32 rfl X 0 [.int .i64 (C.p.steps : Int), .int .i64 C.p.fuse, .bool C.p.done, .bool C.p.down] rfl rgP rfl ?_))
                  refine (CQ.out u1).mono ?_
                  rintro e u2 ⟨rfl, hb2⟩
                  have y3 := bX2.below hb2 bX2.lt
                  clear CQ rgP bX2 b6 d3 d4
                  unfold pv
                  go_wp2_with ((with_reducible refine at_st 32 ?_); (refine st' 32 (.tmp 117) (.tmp 116) 4 size32 X 0 (pc P1) rfl (pc_one' _) (y3.there 0 4 (by simp [cc])) rfl rfl ?_); intro u3 hu3; have b3 : Blk u3 X (cc { C with p := P1 } q) 35 := (by rw [hu3]; exact ((((y3.setC 0 _).setC 1 _).setC 2 _).setC 3 _)); have q3 : Kp (fun j => j = X) u2 u3 := (by rw [hu3]; exact Kp.of_grown (but_cells' _ _ _ _)); clear hu3)
                  have T4 : Hid (TwoC w u3 X c r (k + 1) U F { C with p := P1 } q) := T1.out.power hp1 kr hb2 b3 q3 hfit
                  clear T1 hp1 kr hb2 b3 q3 hfit y3
                  go_meet
                  case rel => exact ⟨U, F, _, q, T4⟩
                · have b3 : (x.kind == 3) = false := by simp [h3]
                  have T4 : Hid (TwoC w v5 X c r (k + 1) U F C q) := T1.out.more
                  go_wp2_with fail
                  go_meet
                  case rel => exact ⟨U, F, C, q, T4⟩
        case rest =>
          obtain ⟨U2, F2, C2, q2, T2⟩ := hcut
          have bX5 := T2.out.bx
          have X5 : ∀ u, Grows wc u → u.cell? ⟨X, 5, none⟩ = some (.int .i64 (C2.writes : Int)) := fun u h => (bX5.below h bX5.lt).cell 5
          have X0 : ∀ u, Grows wc u → u.cell? ⟨X, 0, none⟩ = some (.int .i64 (C2.p.steps : Int)) := fun u h => (bX5.below h bX5.lt).cell 0
          have C1 : Hid (∀ u, Grows wc u → Calls Try.prog 20 #[.pointer (some ⟨c, 0, none⟩)] u fun e w' => e = .returned (.int .i64 (C2.writes : Int)) ∧ Below u.heap.size u w') := fun u h => oCWrites u (T2.out.sta.ck.grows h)
          have C3 : Hid (∀ u, Grows wc u → Calls Try.prog 21 #[.pointer (some ⟨r, 0, none⟩)] u fun e w' => e = .returned (.int .i64 (C2.p.steps : Int)) ∧ Below u.heap.size u w') := fun u h => (oPSteps u (T2.out.sta.ck.grows h).pw.1).mono (by rintro e w' ⟨rfl, rfl⟩; exact ⟨rfl, Below.refl _ _⟩)
          obtain ⟨st, hst⟩ : ∃ st : Int, st = (C2.p.steps : Int) := ⟨_, rfl⟩
          rw [← hst] at X0 C3
          obtain ⟨wr2, hwr2⟩ : ∃ wr2 : Int, wr2 = (C2.writes : Int) := ⟨_, rfl⟩
          rw [← hwr2] at X5 C1
          clear hst hwr2
          go_wp2_with fail
          refine regionG (S := Grows wc) (by kernel_rfl) (Below.refl _ wc).drew ?_
          refine takeG 0 (some 118) (.pointer (some ⟨c, 0, none⟩)) rfl rfl (by kernel_rfl) (by kernel_rfl) (by kernel_rfl) (fun _ _ _ h => h) (ans_plain (by rfl) (fun w _ => rfl)) ?_
          simp only [Act.put, List.setIfInBounds_toArray, List.set_cons_zero, List.set_cons_succ]
          refine takeG 1 (some 119) (.int .i64 wr2) rfl rfl (by kernel_rfl) (by kernel_rfl) (by kernel_rfl) (fun _ _ _ h => h) (ans_fn 20 #[.tmp 118] #[27] #[.pointer (some ⟨c, 0, none⟩)] rfl (by rfl) (by rfl) Try.call20 fun u h => C1.out u h) ?_
          simp only [Act.put, List.setIfInBounds_toArray, List.set_cons_zero, List.set_cons_succ]
          refine takeG 2 (some 120) (.pointer (some ⟨X, 5, none⟩)) rfl rfl (by kernel_rfl) (by kernel_rfl) (by kernel_rfl) (fun _ _ _ h => h) (ans_plain (by rfl) (fun w _ => by unfold execOp; go_simp)) ?_
          simp only [Act.put, List.setIfInBounds_toArray, List.set_cons_zero, List.set_cons_succ]
          refine takeG 3 (some 121) (.int .i64 wr2) rfl rfl (by kernel_rfl) (by kernel_rfl) (by kernel_rfl) (fun _ _ _ h => h) (ans_plain (by rfl) (fun w h => by have hc := X5 w h; unfold execOp; go_simp)) ?_
          simp only [Act.put, List.setIfInBounds_toArray, List.set_cons_zero, List.set_cons_succ]
          refine takeG 4 (some 122) (.bool false) rfl rfl (by kernel_rfl) (by kernel_rfl) (by kernel_rfl) (fun _ _ _ h => h) (ans_plain (by rfl) (fun w _ => by unfold execOp; go_simp)) ?_
          simp only [Act.put, List.setIfInBounds_toArray, List.set_cons_zero, List.set_cons_succ]
          refine takeG 5 (some 123) (.bool false) rfl rfl (by kernel_rfl) (by kernel_rfl) (by kernel_rfl) (fun _ _ _ h => h) (ans_plain (by rfl) (fun w _ => rfl)) ?_
          simp only [Act.put, List.setIfInBounds_toArray, List.set_cons_zero, List.set_cons_succ]
          refine takeG 6 (some 124) (.pointer (some ⟨r, 0, none⟩)) rfl rfl (by kernel_rfl) (by kernel_rfl) (by kernel_rfl) (fun _ _ _ h => h) (ans_plain (by rfl) (fun w _ => rfl)) ?_
          simp only [Act.put, List.setIfInBounds_toArray, List.set_cons_zero, List.set_cons_succ]
          refine takeG 7 (some 125) (.int .i64 st) rfl rfl (by kernel_rfl) (by kernel_rfl) (by kernel_rfl) (fun _ _ _ h => h) (ans_fn 21 #[.tmp 124] #[25] #[.pointer (some ⟨r, 0, none⟩)] rfl (by rfl) (by rfl) Try.call21 fun u h => C3.out u h) ?_
          simp only [Act.put, List.setIfInBounds_toArray, List.set_cons_zero, List.set_cons_succ]
          refine takeG 8 (some 126) (.pointer (some ⟨X, 0, none⟩)) rfl rfl (by kernel_rfl) (by kernel_rfl) (by kernel_rfl) (fun _ _ _ h => h) (ans_plain (by rfl) (fun w _ => by unfold execOp; go_simp)) ?_
          simp only [Act.put, List.setIfInBounds_toArray, List.set_cons_zero, List.set_cons_succ]
          refine takeG 9 (some 127) (.pointer (some ⟨X, 0, none⟩)) rfl rfl (by kernel_rfl) (by kernel_rfl) (by kernel_rfl) (fun _ _ _ h => h) (ans_plain (by rfl) (fun w _ => by unfold execOp; go_simp)) ?_
          simp only [Act.put, List.setIfInBounds_toArray, List.set_cons_zero, List.set_cons_succ]
          refine takeG 10 (some 128) (.int .i64 st) rfl rfl (by kernel_rfl) (by kernel_rfl) (by kernel_rfl) (fun _ _ _ h => h) (ans_plain (by rfl) (fun w h => by have hc := X0 w h; unfold execOp; go_simp)) ?_
          simp only [Act.put, List.setIfInBounds_toArray, List.set_cons_zero, List.set_cons_succ]
          refine takeG 11 (some 129) (.bool false) rfl rfl (by kernel_rfl) (by kernel_rfl) (by kernel_rfl) (fun _ _ _ h => h) (ans_plain (by rfl) (fun w _ => by unfold execOp; go_simp)) ?_
          simp only [Act.put, List.setIfInBounds_toArray, List.set_cons_zero, List.set_cons_succ]
          refine takeG 12 (some 130) (.bool false) rfl rfl (by kernel_rfl) (by kernel_rfl) (by kernel_rfl) (fun _ _ _ h => h) (ans_plain (by rfl) (fun w _ => by unfold execOp; go_simp)) ?_
          simp only [Act.put, List.setIfInBounds_toArray, List.set_cons_zero, List.set_cons_succ]
          refine doneG (by kernel_rfl) fun x7 hg7 hs7 => ?_
          have T7 : Hid (TwoC w x7 X c r (k + 1) U2 F2 C2 q2) := T2.out.grow hs7
          clear T2 C1 C3 X0 X5 bX5 hs7 hg7
          go_wp2_with fail
          go_roundw
          case rel => exact ⟨k + 1, U2, F2, C2, q2, by omega, by go_num, T7⟩
          case measure => simp [intOf]; omega
      · have i0 : ¬ (k : Int) < (len0 : Int) := by omega
        have hbT := T.out.sta.bel
        clear T
        go_wp2_with fail
        refine (CW.out wr hbT).mono ?_
        rintro e ww ⟨rfl, hbw⟩
        go_wp2_with fail
        go_ret
        exact ⟨rfl, hbw⟩

set_option maxRecDepth 100000 in
theorem lifted (os : Os) (started : os.Started) (H : Type) (enc : TypeId × Value → H) :
    ReturnsInHanded {} Try.checked os 3 .any (Rows.cellDoesSpec.pre6 enc Try.prog Try.f3 Rows.cellDoesRow.domain false) (Rows.cellDoesSpec.post enc Try.prog Try.f3 false true false false) := by
  refine returnsInHanded_of_change (C := Try.checked) own started (by kernel_rfl) Try.func3
    (ChangeSpec.witness6 (enc := enc) (C := Try.checked) false ⟨#[], #[.slice none 0 0], []⟩ 8 (by kernel_rfl) (by kernel_rfl) (by kernel_rfl) (by kernel_rfl)) ?_
  intro W base args ds gs before hval0 hW hcnd _
  have hval : ∀ (j : Nat) t v, Try.f3.params[j]? = some t → args[j]? = some v → Value.okWide Try.prog W .any base t v := hval0
  have hW' := hW
  obtain ⟨p, q, hA0, hV, rfl, hfz, hnd⟩ := hW
  have hA : DataW.TrodAll enc Try.prog W 0 (fun _ => true) true Try.f3.params.toList args.toList ds p := hA0
  rw [Try.params3] at hA hval
  obtain ⟨v0, vs0, d0, ds0, p0, q0, hargs, rfl, rfl, h0, r0⟩ := trodAll_cons hA
  obtain ⟨rfl, rfl, rfl⟩ := trodAll_nil r0
  obtain rfl : args = #[v0] := by cases args; simp_all
  obtain ⟨rfl, rfl⟩ := trodVars_none hV
  obtain ⟨a0, len0, cap0, rfl⟩ := okWide_slice Try.underlying22 (hval 0 22 v0 rfl rfl)
  have k0 := h0
  have lt0 : ∀ x ∈ p0, x.block < W.heap.size := by obtain ⟨m, hm⟩ := k0; exact DataW.trod_lt m _ _ _ hm
  obtain ⟨l0, w0⟩ : ∃ l, Acts10 W a0 len0 cap0 l := by
    obtain ⟨fuel, hf⟩ := h0
    exact acts10_of_trod hf
  clear hA0 hval0
  refine (walk a0 len0 cap0 l0 W w0).mono fun e W' ⟨he, bel⟩ => ?_
  subst he
  exact ⟨_, rfl, _, _, _, [], _, [], hW', trodAll_mk1 (shut_bool Try.underlying4 _), (trodAll_cons_mk (Below.trod laidOut (by kernel_rfl) (of_decide_eq_true (by kernel_rfl)) k0 bel lt0) trodAll_mk0), rfl, bel.frame _, fun h => by cases h⟩

theorem over : Rows.cellDoesRow.holds Try.pinned (OpenSpec.ofChange Rows.cellDoesSpec) :=
  OpenClaim.holds_of_wide 3 Try.f3 rfl rfl rfl rfl rfl rfl rfl ⟨rfl, rfl, rfl, rfl, rfl⟩ rfl rfl rfl rfl rfl (by kernel_rfl) Try.func3 (by kernel_rfl)
    (of_decide_eq_true (by kernel_rfl)) (by unfold Func.isWrapper; first | (rw [if_pos (by decide +kernel)]; kernel_rfl) | (rw [if_neg (by decide +kernel)]; exact ⟨rfl, rfl⟩))
    (fun os started H enc _ => lifted os started H enc)
end CellDoesLaw

/-- The statement. -/
theorem cellDoes_holds : Rows.CellDoesSaid := CellDoesLaw.over
#print axioms cellDoes_holds
end Go.Proofs.Yteilnckkmmgpcaa
