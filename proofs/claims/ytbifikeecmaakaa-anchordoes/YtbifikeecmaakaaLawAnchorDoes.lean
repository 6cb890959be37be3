/-
  Proved: for any acts the statement AnchorDoes of layer 14 answers true and leaves its arguments as they were. Conditions beside the statement's own: none.
-/
import Derived.Test.YtbifikeecmaakaaRows
import Derived.Test.YtbifikeecmaakaaG37
import Derived.Below
import Derived.Deep.DeepCutAuto
import Derived.Deep.CutBlock
import Derived.ChangeOld
namespace Go.Proofs.Ytbifikeecmaakaa
namespace AnchorDoesLaw
open Go.ChangeShapes Go.WideShapes Go.ChangeAt Go.RowKit
open Go.ChangeMaps (open_string shut_string)
set_option linter.unusedVariables false

theorem own : ownKnob Try.prog.godebug = none := by kernel_rfl
theorem laidOut : laidOutB Try.prog = true := by kernel_rfl

set_option maxRecDepth 100000 in
set_option maxHeartbeats 4000000 in
theorem walk (a0 : Option Addr) (len0 cap0 : Nat) (l0 : List Op14) (w : World) (w0 : Acts14 w a0 len0 cap0 l0) :
    Calls Try.prog 4 #[.slice a0 len0 cap0] w fun e w' => e = .returned (.bool true) ∧ Below w.heap.size w w' := by
  have W0 : Hid (Acts14 w a0 len0 cap0 l0) := w0
  have hl0 := Sl.len w0
  have hc0 := w0.cap
  have CW : Hid (∀ u, Below w.heap.size w u → Calls Try.prog 8 #[] u fun e w' => e = .returned (.bool true) ∧ Below w.heap.size w w') := fun u hu => (lWorks14 u).mono (by rintro e w' ⟨rfl, h⟩; exact ⟨rfl, hu.trans (h.mono hu.size)⟩)
  have hb0 : Below w.heap.size w w := Below.refl _ _
  clear w0
  by_cases hn : len0 ≤ 40
  · have j40 : ¬ (40 : Int) < (len0 : Int) := by omega
    go_enter Try.func4, Try.ntmps4
    go_wp2_with fail
    refine (oPNew w).mono ?_
    rintro e v1 ⟨r, rfl, hr, hp, hb1⟩
    go_wp2_with fail
    refine (oCNew v1 hp).mono ?_
    rintro e v2 ⟨c, U, F, rfl, hd, hU, hb2⟩
    have S0 : Hid (StaC w v2 c r U F (CelS.new PowS.new)) := StaC.first hb1 hr hd hU hb2
    clear hd hU hb2 hb1 hp hr
    go_wp2_with fail
    refine (oKOpen v2 S0.out.ck.norm CelS.fit_new (by omega) rfl).mono ?_
    rintro e v3 ⟨kz, pz, qz, rfl, hk3, kk, hb3⟩
    have S1 : Hid (StaK w v3 kz c r kep0 pz qz) := by
      have := StaK.first S0.out hk3 kk hb3
      rw [openA_cnew] at this
      exact this
    clear S0 hk3 kk hb3
    go_wp2_with fail
    refine (rPNew v3).mono ?_
    rintro e v4 ⟨rfl, hb4⟩
    go_wp2_with fail
    refine (rCNew v4 (A := fun j => v4.heap.size ≤ j) (fun j hj => hj) PowS.new).mono ?_
    rintro e v5 ⟨q0, rfl, hr5, hb5⟩
    unfold cv
    have CR : Hid (Calls Try.prog 22 #[.agg (cc (CelS.new PowS.new) q0).toArray] v5 (SavQ (fun j => v4.heap.size ≤ j) v5 (kep0, 0))) := by
      have := rOpen14 v5 hr5 (fun j hj => by have := hb5.size; omega) CelS.fit_new rfl
      rw [openA_cnew] at this
      exact this
    go_wp2_with fail
    refine CR.out.mono ?_
    rintro e v6 ⟨tz, prz, qrz, rfl, rk6, hb6⟩
    try dsimp only at rk6
    try dsimp only
    have h46 : Below v4.heap.size v4 v6 := hb5.trans (hb6.mono hb5.size)
    obtain ⟨X, hX⟩ : ∃ g, g = v6.heap.size := ⟨_, rfl⟩
    have zX : Blk (v6.alloc (.cells #[.int .i64 0, .int .i64 0, .bool false, .bool false, .slice none 0 0, .int .i64 0, .int .i64 0, .int .i64 0, .int .i64 0, .int .i64 0, .int .i64 0, .int .i64 0, .slice none 0 0, .slice none 0 0, .bool false] 53)) X zrk 53 := Blk.newAt v6 _ _ X hX.symm _ rfl
    have kX : Below v6.heap.size v6 (v6.alloc (.cells #[.int .i64 0, .int .i64 0, .bool false, .bool false, .slice none 0 0, .int .i64 0, .int .i64 0, .int .i64 0, .int .i64 0, .int .i64 0, .int .i64 0, .int .i64 0, .slice none 0 0, .slice none 0 0, .bool false] 53)) := below_alloc _ _
    clear CR hr5 hb5 hb6
    go_upto_region 9 with ((with_reducible refine at_st 53 ?_); (refine st' 53 (.tmp 7) (.tmp 51) 15 sizeRK v6.heap.size 0 (rkC kep0 tz prz qrz) rfl (rkC_one _ _ _ _) (by rw [← hX]; exact zX.there 0 15 (by simp [zrk])) rfl rfl ?_); intro v7 hv7; have bX7 : Blk v7 X (rkC kep0 tz prz qrz) 53 := (by rw [hv7, ← hX]; exact zX.setsW _ rfl); have kX7 : Below v6.heap.size v6 v7 := (by rw [hv7]; exact below_sets (Nat.le_refl _) _ kX 0); clear hv7)
    have T0 : Hid (TwoK w v7 X kz c r 0 kep0 pz qz tz prz qrz) := TwoK.first S1.out hb4 h46 hX rk6 bX7 kX7
    rw [← hX]
    clear zX kX bX7 kX7 rk6 h46 hb4 S1 hX
    go_wp2_with fail
    go_loopw [6, 9] (fun kv i wr => ∃ (j k : Nat) (K : KepS) (p q t pr qr : Tri), j ≤ len0 ∧ i = .int .i64 (j : Int) ∧ kv = .pointer (some ⟨k, 0, none⟩) ∧ Hid (TwoK w wr X k c r j K p q t pr qr)) (fun _ i _ => len0 - (intOf i).toNat)
    case atStart => exact ⟨0, kz, _, pz, qz, tz, prz, qrz, Nat.zero_le _, rfl, rfl, T0⟩
    case round =>
      clear T0
      obtain ⟨j, k, K, p, q, t, pr, qr, hj, rfl, rfl, TT⟩ := hrel
      by_cases hlt : j < len0
      · have i0 : (j : Int) < (len0 : Int) := by omega
        obtain ⟨x, hx⟩ : ∃ x, l0[j]? = some x := ⟨_, List.getElem?_eq_getElem (by omega)⟩
        obtain ⟨b, o, px, qx, rfl, hbl, hrg, hB, hfit⟩ := W0.out.at TT.out.st.bel hx
        have HI : Hid x.fit := hfit
        have HB : Hid (Anc (fun i => i < w.heap.size) w x.a px qx) := hB
        obtain ⟨g, hg⟩ : ∃ g, g = wr.heap.size := ⟨_, rfl⟩
        have z9 : Blk (wr.alloc (.cells #[.int .i64 0, .int .i64 0, .int .i64 0, .int .i64 0, .int .i64 0, .int .i64 0, .int .i64 0, .slice none 0 0, .slice none 0 0, .int .i64 0, .int .i64 0, .int .i64 0, .int .i64 0, .bool false] 59)) g zOp14 59 := Blk.newAt wr _ _ g hg.symm _ rfl
        have k9 : Below wr.heap.size wr (wr.alloc (.cells #[.int .i64 0, .int .i64 0, .int .i64 0, .int .i64 0, .int .i64 0, .int .i64 0, .int .i64 0, .slice none 0 0, .slice none 0 0, .int .i64 0, .int .i64 0, .int .i64 0, .int .i64 0, .bool false] 59)) := below_alloc _ _
        clear hx hB hfit
        go_upto_region 15 with (first | ((with_reducible refine at_ld 59 ?_); (refine ld 59 (.tmp 67) 14 sizeO14 _ Try.underlying59 rfl b (o + j * 14) (ok14 x px qx) rfl hrg rfl ?_)) | ((with_reducible refine at_st 59 ?_); (refine st' 59 (.tmp 10) (.tmp 68) 14 sizeO14 wr.heap.size 0 (ok14 x px qx) rfl (ok14_one _ _ _) (by rw [← hg]; exact z9.there 0 14 (by simp [zOp14])) rfl rfl ?_); intro v8 hv8; have b8 : Blk v8 g (ok14 x px qx) 59 := (by rw [hv8, ← hg]; exact z9.setsW _ rfl); have k8 : Below wr.heap.size wr v8 := (by rw [hv8]; exact below_sets (Nat.le_refl _) _ k9 0); clear hv8))
        rw [← hg]
        have T4 : Hid (TwoK w v8 X k c r j K p q t pr qr) := TT.out.grow k8
        have hgF : ¬ Fk k c r g := fun hu => by have := TT.out.st.kk.lt g hu; omega
        have hgX : ¬ g = X := by have := TT.out.bx.lt; omega
        have rg8 : v8.rangeAt g 1 (anc x.a px qx) := b8.range 1 _ ok_an
        clear z9 k9 k8 TT hrg hg
        go_wp2_with ((with_reducible refine at_ld 25 ?_); (refine ld 25 (.tmp 69) 8 sizeAn _ Try.underlying25 rfl g 1 (anc x.a px qx) rfl (rg8) rfl ?_))
        refine (lLight14 v8 (T4.out.st.arg HB.out)).mono ?_
        rintro e v5 ⟨v, rfl, -, hb5⟩
        have T5 : Hid (TwoK w v5 X k c r j K p q t pr qr) := T4.out.grow hb5
        have b5 := b8.below hb5 b8.lt
        clear T4 b8 hb5 rg8
        cases v with
        | false =>
          have hbT := T5.out.st.bel
          clear T5 b5
          go_wp2_with fail
          refine (CW.out v5 hbT).mono ?_
          rintro e ww ⟨rfl, hbw⟩
          go_wp2_with fail
          go_ret
          exact ⟨rfl, hbw⟩
        | true =>
          have rgA : v5.rangeAt g 1 (anc x.a px qx) := b5.range 1 _ ok_an
          have c0 : v5.cell? ⟨g, 0, none⟩ = some (.int .i64 x.kind) := b5.cell 0
          have c2 : v5.cell? ⟨g, 9, none⟩ = some (.int .i64 x.epoch) := b5.cell 9
          have c3 : v5.cell? ⟨g, 10, none⟩ = some (.int .i64 x.root) := b5.cell 10
          have c4 : v5.cell? ⟨g, 11, none⟩ = some (.int .i64 x.pending) := b5.cell 11
          have c5 : v5.cell? ⟨g, 12, none⟩ = some (.int .i64 x.n) := b5.cell 12
          have c6 : v5.cell? ⟨g, 13, none⟩ = some (.bool x.done) := b5.cell 13
          have hgl := b5.lt
          go_upto_block 2 with fail
          go_cut [6, 11, 12, 13, 14, 15, 16, 17, 18, 19] from 59 to 216 (fun kv _ ov _ _ _ _ _ _ _ wx => ∃ (k1 : Nat) (K1 : KepS) (p1 q1 t1 pr1 qr1 : Tri), kv = .pointer (some ⟨k1, 0, none⟩) ∧ ov = .bool true ∧ Hid (TwoK w wx X k1 c r (j + 1) K1 p1 q1 t1 pr1 qr1))
          case first =>
            by_cases h0 : x.kind = 0
            · have b0 : (x.kind == 0) = true := by simp [h0]
              have f1 := KepS.fit_save T5.out.ft x.a
              have CQ : Hid (Calls Try.prog 25 #[.agg (rkC K t pr qr).toArray, .agg (anc x.a px qx).toArray] v5 (SavQ (fun j => ¬ Fk k c r j ∧ ¬ j = X) v5 (K.save x.a))) := rSave14 v5 T5.out.rk T5.out.big T5.out.ft (by omega) (T5.out.arg HB.out)
              have CP : Hid (∀ u, (StaK w u k c r K p q ∧ Anc (fun j => ¬ Fk k c r j ∧ ¬ j = X) u K.last p q) ∧ X < u.heap.size → Calls Try.prog 26 #[.pointer (some ⟨k, 0, none⟩), .agg (anc x.a px qx).toArray] u (MovV (fun j => j = X) u k c r (K.save x.a))) := fun u hu => (oKSaveV u hu.1.1.kk T5.out.ft (by omega) (A := fun j => j < w.heap.size) (hu.1.1.arg HB.out) (fun i hi => ⟨hu.1.1.old i hi, fun e => by have := T5.out.xw; omega⟩) (V := fun j => j = X) (fun i hi => by rw [hi]; exact hu.2) hu.1.2)
              generalize K.save x.a = gv at *
              obtain ⟨K1, c1⟩ := gv
              try dsimp only at f1
              have bX := T5.out.bx
              go_wp2_with (first | ((with_reducible refine at_ld 53 ?_); (refine ld 53 (.tmp 7) 15 sizeRK _ Try.underlying53 rfl X 0 (rkC K t pr qr) rfl (bX.whole) rfl ?_)) | ((with_reducible refine at_ld 25 ?_); (refine ld 25 (.tmp 80) 8 sizeAn _ Try.underlying25 rfl g 1 (anc x.a px qx) rfl (rgA) rfl ?_)))
              refine CQ.out.mono ?_
              rintro e y1 ⟨t1, p1, q1, rfl, rk1, hb1⟩
              try dsimp only at rk1
              try dsimp only
              have bX1 := bX.below hb1 bX.lt
              have b51 := b5.below hb1 b5.lt
              go_upto_region 22 with ((with_reducible refine at_st 53 ?_); (refine st' 53 (.tmp 7) (.tmp 83) 15 sizeRK X 0 (rkC K1 t1 p1 q1) rfl (rkC_one _ _ _ _) (bX1.there 0 15 (by rw [rkC_len]; omega)) rfl rfl ?_); intro y2 hy2; have b2 : Blk y2 X (rkC K1 t1 p1 q1) 53 := (by rw [hy2]; exact bX1.setsW _ rfl); have k2 : Kp (fun j => j = X) y1 y2 := (by rw [hy2]; exact Kp.of_grown (but_cells' _ _ _ _)); clear hy2)
              have M2 := T5.out.mid hb1 k2
              have b52 : Blk y2 g (ok14 x px qx) 59 := k2.blk b51 hgX
              have d2 : y2.cell? ⟨g, 9, none⟩ = some (.int .i64 x.epoch) := b52.cell 9
              have d3 : y2.cell? ⟨g, 10, none⟩ = some (.int .i64 x.root) := b52.cell 10
              have d4 : y2.cell? ⟨g, 11, none⟩ = some (.int .i64 x.pending) := b52.cell 11
              have lg2 := b52.lt
              have rgA2 : y2.rangeAt g 1 (anc x.a px qx) := b52.range 1 _ ok_an
              have CP2 : Hid (Calls Try.prog 26 #[.pointer (some ⟨k, 0, none⟩), .agg (anc x.a px qx).toArray] y2 (MovV (fun j => j = X) y2 k c r (K1, c1))) := CP.out y2 ⟨M2, b2.lt⟩
              clear CP CQ bX bX1 b51 M2
              go_wp2_with ((with_reducible refine at_ld 25 ?_); (refine ld 25 (.tmp 86) 8 sizeAn _ Try.underlying25 rfl g 1 (anc x.a px qx) rfl (rgA2) rfl ?_))
              refine CP2.out.mono ?_
              rintro e y3 ⟨p3, q3, rfl, kk3, kp3, an3⟩
              try dsimp only at kk3 an3
              try dsimp only
              have T6 : Hid (TwoK w y3 X k c r (j + 1) K1 p3 q3 t1 p1 q1) := T5.out.acted hb1 k2 rk1 b2 kk3 kp3 an3 f1
              clear CP2 kk3 kp3 an3 rk1 b2 k2 hb1 b52 d2 d3 d4 lg2 rgA2 rgA T5 f1 b5
              go_wp2_with fail
              go_meet
              case rel => exact ⟨k, K1, p3, q3, t1, p1, q1, rfl, rfl, T6⟩
            · have b0 : (x.kind == 0) = false := by simp [h0]
              by_cases h1 : x.kind = 1
              · have b1 : (x.kind == 1) = true := by simp [h1]
                have f1 := KepS.fit_give T5.out.ft
                have CQ : Hid (Calls Try.prog 27 #[.agg (rkC K t pr qr).toArray] v5 (GivQ (fun j => ¬ Fk k c r j ∧ ¬ j = X) v5 K.give)) := rGive14 v5 T5.out.rk T5.out.big T5.out.ft (by omega)
                have CP : Hid (∀ u, (StaK w u k c r K p q ∧ Anc (fun j => ¬ Fk k c r j ∧ ¬ j = X) u K.last p q) ∧ X < u.heap.size → Calls Try.prog 28 #[.pointer (some ⟨k, 0, none⟩)] u (GivV (fun j => j = X) u k c r K.give)) := fun u hu => oKGiveV u hu.1.1.kk T5.out.ft (by omega) (V := fun j => j = X) (fun i hi => by rw [hi]; exact hu.2) hu.1.2
                generalize K.give = gv at *
                obtain ⟨K1, n1, c1⟩ := gv
                try dsimp only at f1
                have bX := T5.out.bx
                go_wp2_with ((with_reducible refine at_ld 53 ?_); (refine ld 53 (.tmp 7) 15 sizeRK _ Try.underlying53 rfl X 0 (rkC K t pr qr) rfl (bX.whole) rfl ?_))
                refine CQ.out.mono ?_
                rintro e y1 ⟨t1, p1, q1, rfl, rk1, hb1⟩
                try dsimp only at rk1
                try dsimp only
                have bX1 := bX.below hb1 bX.lt
                have b51 := b5.below hb1 b5.lt
                obtain ⟨gs, hgs⟩ : ∃ g, g = y1.heap.size := ⟨_, rfl⟩
                have zs : Blk (y1.alloc (.cells #[.int .i64 0, .int .i64 0, .bool false, .bool false, .slice none 0 0, .int .i64 0, .int .i64 0, .int .i64 0, .int .i64 0, .int .i64 0, .int .i64 0, .int .i64 0, .slice none 0 0, .slice none 0 0, .bool false] 53)) gs zrk 53 := Blk.newAt y1 _ _ gs hgs.symm _ rfl
                have ks : Below y1.heap.size y1 (y1.alloc (.cells #[.int .i64 0, .int .i64 0, .bool false, .bool false, .slice none 0 0, .int .i64 0, .int .i64 0, .int .i64 0, .int .i64 0, .int .i64 0, .int .i64 0, .int .i64 0, .slice none 0 0, .slice none 0 0, .bool false] 53)) := below_alloc _ _
                go_upto_region 25 with ((with_reducible refine at_st 53 ?_); (refine st' 53 (.tmp 13) (.tmp 96) 15 sizeRK y1.heap.size 0 (rkC K1 t1 p1 q1) rfl (rkC_one _ _ _ _) (by rw [← hgs]; exact zs.there 0 15 (by simp [zrk])) rfl rfl ?_); intro y1a hy1a; have bs : Blk y1a gs (rkC K1 t1 p1 q1) 53 := (by rw [hy1a, ← hgs]; exact zs.setsW _ rfl); have kbs : Below y1.heap.size y1 y1a := (by rw [hy1a]; exact below_sets (Nat.le_refl _) _ ks 0); clear hy1a)
                rw [← hgs]
                have bX2 := bX1.below kbs bX1.lt
                have hb1a : Below v5.heap.size v5 y1a := hb1.trans (kbs.mono hb1.size)
                have rk1a := rk1.below kbs
                go_upto_region 26 with (first | ((with_reducible refine at_ld 53 ?_); (refine ld 53 (.tmp 13) 15 sizeRK _ Try.underlying53 rfl gs 0 (rkC K1 t1 p1 q1) rfl (bs.whole) rfl ?_)) | ((with_reducible refine at_st 53 ?_); (refine st' 53 (.tmp 7) (.tmp 99) 15 sizeRK X 0 (rkC K1 t1 p1 q1) rfl (rkC_one _ _ _ _) (bX2.there 0 15 (by rw [rkC_len]; omega)) rfl rfl ?_); intro y2 hy2; have b2 : Blk y2 X (rkC K1 t1 p1 q1) 53 := (by rw [hy2]; exact bX2.setsW _ rfl); have k2 : Kp (fun j => j = X) y1a y2 := (by rw [hy2]; exact Kp.of_grown (but_cells' _ _ _ _)); clear hy2))
                have M2 := T5.out.mid hb1a k2
                have CP2 : Hid (Calls Try.prog 28 #[.pointer (some ⟨k, 0, none⟩)] y2 (GivV (fun j => j = X) y2 k c r (K1, n1, c1))) := CP.out y2 ⟨M2, b2.lt⟩
                clear CP CQ bX bX1 b51 M2 zs ks bs kbs hgs bX2 rk1 hb1
                go_wp2_with fail
                refine CP2.out.mono ?_
                rintro e y3 ⟨p3, q3, rfl, kk3, kp3, an3⟩
                try dsimp only at kk3 an3
                try dsimp only
                have T6 : Hid (TwoK w y3 X k c r (j + 1) K1 p3 q3 t1 p1 q1) := T5.out.acted hb1a k2 rk1a b2 kk3 kp3 an3 f1
                clear CP2 kk3 kp3 an3 rk1a b2 k2 hb1a rgA T5 f1 b5
                go_wp2_with fail
                go_meet
                case rel => exact ⟨k, K1, p3, q3, t1, p1, q1, rfl, rfl, T6⟩
              · have b1 : (x.kind == 1) = false := by simp [h1]
                by_cases h2 : x.kind = 2
                · have b2 : (x.kind == 2) = true := by simp [h2]
                  have f1 := KepS.fit_commit T5.out.ft x.epoch x.root x.pending
                  have CQ : Hid (Calls Try.prog 29 #[.agg (rkC K t pr qr).toArray, .int .i64 x.epoch, .int .i64 x.root, .int .i64 x.pending] v5 (SavQ (fun j => ¬ Fk k c r j ∧ ¬ j = X) v5 (K.commit x.epoch x.root x.pending))) := rCommit14 v5 T5.out.rk T5.out.big T5.out.ft (by omega) x.epoch x.root x.pending HI.out.2.1 HI.out.2.2.1 HI.out.2.2.2.1
                  have CP : Hid (∀ u, (StaK w u k c r K p q ∧ Anc (fun j => ¬ Fk k c r j ∧ ¬ j = X) u K.last p q) ∧ X < u.heap.size → Calls Try.prog 30 #[.pointer (some ⟨k, 0, none⟩), .int .i64 x.epoch, .int .i64 x.root, .int .i64 x.pending] u (MovV (fun j => j = X) u k c r (K.commit x.epoch x.root x.pending))) := fun u hu => oKCommitV u hu.1.1.kk T5.out.ft (by omega) (V := fun j => j = X) (fun i hi => by rw [hi]; exact hu.2) hu.1.2 x.epoch x.root x.pending HI.out.2.1 HI.out.2.2.1 HI.out.2.2.2.1
                  generalize K.commit x.epoch x.root x.pending = gv at *
                  obtain ⟨K1, c1⟩ := gv
                  try dsimp only at f1
                  have bX := T5.out.bx
                  go_wp2_with ((with_reducible refine at_ld 53 ?_); (refine ld 53 (.tmp 7) 15 sizeRK _ Try.underlying53 rfl X 0 (rkC K t pr qr) rfl (bX.whole) rfl ?_))
                  refine CQ.out.mono ?_
                  rintro e y1 ⟨t1, p1, q1, rfl, rk1, hb1⟩
                  try dsimp only at rk1
                  try dsimp only
                  have bX1 := bX.below hb1 bX.lt
                  have b51 := b5.below hb1 b5.lt
                  go_upto_region 30 with ((with_reducible refine at_st 53 ?_); (refine st' 53 (.tmp 7) (.tmp 124) 15 sizeRK X 0 (rkC K1 t1 p1 q1) rfl (rkC_one _ _ _ _) (bX1.there 0 15 (by rw [rkC_len]; omega)) rfl rfl ?_); intro y2 hy2; have b2 : Blk y2 X (rkC K1 t1 p1 q1) 53 := (by rw [hy2]; exact bX1.setsW _ rfl); have k2 : Kp (fun j => j = X) y1 y2 := (by rw [hy2]; exact Kp.of_grown (but_cells' _ _ _ _)); clear hy2)
                  have M2 := T5.out.mid hb1 k2
                  have b52 : Blk y2 g (ok14 x px qx) 59 := k2.blk b51 hgX
                  have d2 : y2.cell? ⟨g, 9, none⟩ = some (.int .i64 x.epoch) := b52.cell 9
                  have d3 : y2.cell? ⟨g, 10, none⟩ = some (.int .i64 x.root) := b52.cell 10
                  have d4 : y2.cell? ⟨g, 11, none⟩ = some (.int .i64 x.pending) := b52.cell 11
                  have lg2 := b52.lt
                  have rgA2 : y2.rangeAt g 1 (anc x.a px qx) := b52.range 1 _ ok_an
                  have CP2 : Hid (Calls Try.prog 30 #[.pointer (some ⟨k, 0, none⟩), .int .i64 x.epoch, .int .i64 x.root, .int .i64 x.pending] y2 (MovV (fun j => j = X) y2 k c r (K1, c1))) := CP.out y2 ⟨M2, b2.lt⟩
                  clear CP CQ bX bX1 b51 M2
                  go_wp2_with fail
                  refine CP2.out.mono ?_
                  rintro e y3 ⟨p3, q3, rfl, kk3, kp3, an3⟩
                  try dsimp only at kk3 an3
                  try dsimp only
                  have T6 : Hid (TwoK w y3 X k c r (j + 1) K1 p3 q3 t1 p1 q1) := T5.out.acted hb1 k2 rk1 b2 kk3 kp3 an3 f1
                  clear CP2 kk3 kp3 an3 rk1 b2 k2 hb1 b52 d2 d3 d4 lg2 rgA2 rgA T5 f1 b5
                  go_wp2_with fail
                  go_meet
                  case rel => exact ⟨k, K1, p3, q3, t1, p1, q1, rfl, rfl, T6⟩
                · have b2 : (x.kind == 2) = false := by simp [h2]
                  by_cases h3 : x.kind = 3
                  · have b3 : (x.kind == 3) = true := by simp [h3]
                    have f1 := KepS.fit_clean T5.out.ft
                    have CQ : Hid (Calls Try.prog 31 #[.agg (rkC K t pr qr).toArray] v5 (SavQ (fun j => ¬ Fk k c r j ∧ ¬ j = X) v5 (K.clean))) := rClean14 v5 T5.out.rk T5.out.big T5.out.ft (by omega)
                    have CP : Hid (∀ u, (StaK w u k c r K p q ∧ Anc (fun j => ¬ Fk k c r j ∧ ¬ j = X) u K.last p q) ∧ X < u.heap.size → Calls Try.prog 32 #[.pointer (some ⟨k, 0, none⟩)] u (MovV (fun j => j = X) u k c r (K.clean))) := fun u hu => oKCleanV u hu.1.1.kk T5.out.ft (by omega) (V := fun j => j = X) (fun i hi => by rw [hi]; exact hu.2) hu.1.2
                    generalize K.clean = gv at *
                    obtain ⟨K1, c1⟩ := gv
                    try dsimp only at f1
                    have bX := T5.out.bx
                    go_wp2_with ((with_reducible refine at_ld 53 ?_); (refine ld 53 (.tmp 7) 15 sizeRK _ Try.underlying53 rfl X 0 (rkC K t pr qr) rfl (bX.whole) rfl ?_))
                    refine CQ.out.mono ?_
                    rintro e y1 ⟨t1, p1, q1, rfl, rk1, hb1⟩
                    try dsimp only at rk1
                    try dsimp only
                    have bX1 := bX.below hb1 bX.lt
                    have b51 := b5.below hb1 b5.lt
                    go_upto_region 33 with ((with_reducible refine at_st 53 ?_); (refine st' 53 (.tmp 7) (.tmp 141) 15 sizeRK X 0 (rkC K1 t1 p1 q1) rfl (rkC_one _ _ _ _) (bX1.there 0 15 (by rw [rkC_len]; omega)) rfl rfl ?_); intro y2 hy2; have b2 : Blk y2 X (rkC K1 t1 p1 q1) 53 := (by rw [hy2]; exact bX1.setsW _ rfl); have k2 : Kp (fun j => j = X) y1 y2 := (by rw [hy2]; exact Kp.of_grown (but_cells' _ _ _ _)); clear hy2)
                    have M2 := T5.out.mid hb1 k2
                    have b52 : Blk y2 g (ok14 x px qx) 59 := k2.blk b51 hgX
                    have d2 : y2.cell? ⟨g, 9, none⟩ = some (.int .i64 x.epoch) := b52.cell 9
                    have d3 : y2.cell? ⟨g, 10, none⟩ = some (.int .i64 x.root) := b52.cell 10
                    have d4 : y2.cell? ⟨g, 11, none⟩ = some (.int .i64 x.pending) := b52.cell 11
                    have lg2 := b52.lt
                    have rgA2 : y2.rangeAt g 1 (anc x.a px qx) := b52.range 1 _ ok_an
                    have CP2 : Hid (Calls Try.prog 32 #[.pointer (some ⟨k, 0, none⟩)] y2 (MovV (fun j => j = X) y2 k c r (K1, c1))) := CP.out y2 ⟨M2, b2.lt⟩
                    clear CP CQ bX bX1 b51 M2
                    go_wp2_with fail
                    refine CP2.out.mono ?_
                    rintro e y3 ⟨p3, q3, rfl, kk3, kp3, an3⟩
                    try dsimp only at kk3 an3
                    try dsimp only
                    have T6 : Hid (TwoK w y3 X k c r (j + 1) K1 p3 q3 t1 p1 q1) := T5.out.acted hb1 k2 rk1 b2 kk3 kp3 an3 f1
                    clear CP2 kk3 kp3 an3 rk1 b2 k2 hb1 b52 d2 d3 d4 lg2 rgA2 rgA T5 f1 b5
                    go_wp2_with fail
                    go_meet
                    case rel => exact ⟨k, K1, p3, q3, t1, p1, q1, rfl, rfl, T6⟩
                  · have b3 : (x.kind == 3) = false := by simp [h3]
                    by_cases h4 : x.kind = 4
                    · have b4 : (x.kind == 4) = true := by simp [h4]
                      have f1 : (K.c.p.set x.n x.done).fit (j + 1) := PowS.fit_mono (PowS.fit_set T5.out.ft.p HI.out.2.2.2.2.2 x.done) (by omega)
                      have CP : Hid (Calls Try.prog 33 #[.pointer (some ⟨r, 0, none⟩), .int .i64 x.n, .bool x.done] v5 fun e w' => e = .returned (.tuple #[]) ∧ Pw w' r (K.c.p.set x.n x.done) ∧ Kp (fun j => j = r) v5 w') := oPFuse v5 T5.out.st.pw x.n x.done HI.out.2.2.2.2
                      have CQ : Hid (∀ u, Calls Try.prog 34 #[.agg [.int .i64 (K.c.p.steps : Int), .int .i64 K.c.p.fuse, .bool K.c.p.done, .bool K.c.p.down].toArray, .int .i64 x.n, .bool x.done] u fun e w' => e = .returned (pv (K.c.p.set x.n x.done)) ∧ Below u.heap.size u w') := fun u => rPFuse u K.c.p x.n x.done
                      obtain ⟨P1, hP1⟩ : ∃ P1, P1 = K.c.p.set x.n x.done := ⟨_, rfl⟩
                      rw [← hP1] at CP CQ f1
                      clear hP1
                      go_wp2_with fail
                      refine CP.out.mono ?_
                      rintro e y1 ⟨rfl, hp1, kr⟩
                      have krF : Kp (Fk k c r) v5 y1 := kr.mono (fun i _ e => Or.inr (Or.inr e))
                      have bX1 := krF.blk T5.out.bx T5.out.xk
                      have b51 : Blk y1 g (ok14 x px qx) 59 := krF.blk b5 hgF
                      have rgP : y1.rangeAt X 0 [.int .i64 (K.c.p.steps : Int), .int .i64 K.c.p.fuse, .bool K.c.p.done, .bool K.c.p.down] := bX1.range 0 _ rk_pc
                      have d5 : y1.cell? ⟨g, 12, none⟩ = some (.int .i64 x.n) := b51.cell 12
                      have d6 : y1.cell? ⟨g, 13, none⟩ = some (.bool x.done) := b51.cell 13
                      have lg1 := b51.lt
                      have lX1 := bX1.lt
                      clear CP krF
                      go_wp2_with ((with_reducible refine at_ld 48 ?_); (refine ld 48 (.tmp 156) 4 size32 _ Try.underlying48 rfl X 0 [.int .i64 (K.c.p.steps : Int), .int .i64 K.c.p.fuse, .bool K.c.p.done, .bool K.c.p.down] rfl rgP rfl ?_))
                      refine (CQ.out y1).mono ?_
                      rintro e y2 ⟨rfl, hb2⟩
                      have bX2 := bX1.below hb2 bX1.lt
                      clear CQ rgP bX1 b51 d5 d6
                      unfold pv
                      go_wp2_with ((with_reducible refine at_st 48 ?_); (refine st' 48 (.tmp 164) (.tmp 162) 4 size32 X 0 (pc P1) rfl (pc_oneK _) (bX2.there 0 4 (by rw [rkC_len]; omega)) rfl rfl ?_); intro y3 hy3; have b3 : Blk y3 X (rkC ⟨{ K.c with p := P1 }, K.last⟩ t pr qr) 53 := (by have hh := bX2.sets (pc P1) 0 (by rw [rkC_len]; show 0 + 4 ≤ 15; omega); rw [rk_power, ← hy3] at hh; exact hh); have k3 : Kp (fun j => j = X) y2 y3 := (by rw [hy3]; exact Kp.of_grown (but_cells' _ _ _ _)); clear hy3)
                      have T6 : Hid (TwoK w y3 X k c r (j + 1) ⟨{ K.c with p := P1 }, K.last⟩ p q t pr qr) := T5.out.power hp1 kr hb2 b3 k3 f1
                      clear T5 hp1 kr hb2 b3 k3 f1 bX2 rgA b5
                      go_meet
                      case rel => exact ⟨k, _, p, q, t, pr, qr, rfl, rfl, T6⟩
                    · have b4 : (x.kind == 4) = false := by simp [h4]
                      by_cases h5 : x.kind = 5
                      · have b5 : (x.kind == 5) = true := by simp [h5]
                        have CP : Hid (Calls Try.prog 35 #[.pointer (some ⟨r, 0, none⟩)] v5 fun e w' => e = .returned (.tuple #[]) ∧ Pw w' r K.c.p.back ∧ Kp (fun j => j = r) v5 w') := oPBack v5 T5.out.st.pw
                        have CQ : Hid (∀ u, Calls Try.prog 36 #[.agg [.int .i64 (K.c.p.steps : Int), .int .i64 K.c.p.fuse, .bool K.c.p.done, .bool K.c.p.down].toArray] u fun e w' => e = .returned (pv K.c.p.back) ∧ Below u.heap.size u w') := fun u => rPBack u K.c.p
                        have f2 : ({ K.c with p := K.c.p.back } : CelS).fit j := T5.out.ft.power (PowS.fit_back T5.out.ft.p)
                        have HDN : Hid (K.c.p.back.down = false) := rfl
                        obtain ⟨P1, hP1⟩ : ∃ P1, P1 = K.c.p.back := ⟨_, rfl⟩
                        rw [← hP1] at CP CQ f2 HDN
                        clear hP1
                        go_wp2_with fail
                        refine CP.out.mono ?_
                        rintro e y1 ⟨rfl, hp1, kr⟩
                        have S1 : Hid (StaK w y1 k c r ⟨{ K.c with p := P1 }, K.last⟩ p q) := T5.out.st.power hp1 kr
                        have krF : Kp (Fk k c r) v5 y1 := kr.mono (fun i _ e => Or.inr (Or.inr e))
                        have bX1 := krF.blk T5.out.bx T5.out.xk
                        have CO : Hid (Calls Try.prog 21 #[.pointer (some ⟨c, 0, none⟩)] y1 (OpenF y1 c r { K.c with p := P1 })) := oKOpenF y1 S1.out.kk.ck f2 (by omega) HDN.out
                        clear CP krF hp1
                        go_wp2_with fail
                        refine CO.out.mono ?_
                        rintro e y2 ⟨k2, p2, q2, rfl, hk2, kk2, hb2, an2⟩
                        have bX2 := bX1.below hb2 bX1.lt
                        have rgP : y2.rangeAt X 0 [.int .i64 (K.c.p.steps : Int), .int .i64 K.c.p.fuse, .bool K.c.p.done, .bool K.c.p.down] := bX2.range 0 _ rk_pc
                        have lX2 := bX2.lt
                        have HK2 : Hid (Kk y2 k2 c r ⟨{ K.c with p := P1 }, openA { K.c with p := P1 }⟩ p2 q2 ∧ Anc (fun i => y1.heap.size ≤ i ∧ ¬ i = k2) y2 (openA { K.c with p := P1 }) p2 q2) := ⟨kk2, an2⟩
                        clear CO kk2 an2 bX1
                        go_wp2_with ((with_reducible refine at_ld 48 ?_); (refine ld 48 (.tmp 175) 4 size32 _ Try.underlying48 rfl X 0 [.int .i64 (K.c.p.steps : Int), .int .i64 K.c.p.fuse, .bool K.c.p.done, .bool K.c.p.down] rfl rgP rfl ?_))
                        refine (CQ.out y2).mono ?_
                        rintro e y3 ⟨rfl, hb3⟩
                        have bX3 := bX2.below hb3 bX2.lt
                        clear CQ rgP bX2 lX2
                        unfold pv
                        go_upto_region 41 with ((with_reducible refine at_st 48 ?_); (refine st' 48 (.tmp 179) (.tmp 177) 4 size32 X 0 (pc P1) rfl (pc_oneK _) (bX3.there 0 4 (by rw [rkC_len]; omega)) rfl rfl ?_); intro y4 hy4; have bq4 : Blk y4 X (rkC ⟨{ K.c with p := P1 }, K.last⟩ t pr qr) 53 := (by have hh := bX3.sets (pc P1) 0 (by rw [rkC_len]; show 0 + 4 ≤ 15; omega); rw [rk_power, ← hy4] at hh; exact hh); have kq4 : Kp (fun j => j = X) y3 y4 := (by rw [hy4]; exact Kp.of_grown (but_cells' _ _ _ _)); clear hy4)
                        have RC4 : Hid (RC (fun j => ¬ Fk k2 c r j ∧ ¬ j = X) y4 { K.c with p := P1 } t) := T5.out.asks kr hk2 hb2 hb3 kq4
                        have hX4 := bq4.lt
                        have hA4 : ∀ i, y4.heap.size ≤ i → ¬ Fk k2 c r i ∧ ¬ i = X := fun i hi => ⟨fun hu => by have := HK2.out.1.lt i hu; have := hb3.size; have := kq4.size; omega, fun e => by omega⟩
                        have CR : Hid (Calls Try.prog 22 #[.agg (cc { K.c with p := P1 } t).toArray] y4 (SavQ (fun j => ¬ Fk k2 c r j ∧ ¬ j = X) y4 (⟨{ K.c with p := P1 }, openA { K.c with p := P1 }⟩, 0))) := rOpen14 y4 RC4.out hA4 f2 HDN.out
                        have rgC : y4.rangeAt X 0 (cc { K.c with p := P1 } t) := bq4.range 0 _ (rk_cc (K := ⟨{ K.c with p := P1 }, K.last⟩) (t := t) (p := pr) (q := qr))
                        obtain ⟨C2, hC2⟩ : ∃ C2 : CelS, C2 = { K.c with p := P1 } := ⟨_, rfl⟩
                        rw [← hC2] at CR rgC f2 HK2 S1
                        clear RC4 hA4 bX3 HDN hC2
                        go_wp2_with ((with_reducible refine at_ld 51 ?_); (refine ld 51 (.tmp 181) 6 size35 _ Try.underlying51 rfl X 0 (cc C2 t) rfl rgC rfl ?_))
                        refine CR.out.mono ?_
                        rintro e y5 ⟨t5, p5, q5, rfl, rk5, hb5⟩
                        try dsimp only at rk5
                        try dsimp only
                        have b45 := bq4.below hb5 bq4.lt
                        clear CR rgC hX4
                        go_upto_region 42 with ((with_reducible refine at_st 53 ?_); (refine st' 53 (.tmp 7) (.tmp 184) 15 sizeRK X 0 (rkC ⟨C2, openA C2⟩ t5 p5 q5) rfl (rkC_one _ _ _ _) (b45.there 0 15 (by rw [rkC_len]; omega)) rfl rfl ?_); intro y6 hy6; have b6 : Blk y6 X (rkC ⟨C2, openA C2⟩ t5 p5 q5) 53 := (by rw [hy6]; exact b45.setsW _ rfl); have k6 : Kp (fun j => j = X) y5 y6 := (by rw [hy6]; exact Kp.of_grown (but_cells' _ _ _ _)); clear hy6)
                        have T6 : Hid (TwoK w y6 X k2 c r (j + 1) ⟨C2, openA C2⟩ p2 q2 t5 p5 q5) := T5.out.opened S1.out kr.size hk2 HK2.out.1 hb2 HK2.out.2 hb3 kq4 hb5 k6 rk5 b6 (f2.mono (by omega))
                        clear T5 S1 kr hk2 HK2 hb2 hb3 kq4 hb5 k6 rk5 b6 f2 b45 b4 rgA b5
                        go_wp2_with fail
                        go_meet
                        case rel => exact ⟨k2, _, p2, q2, t5, p5, q5, rfl, rfl, T6⟩
                      · have b5 : (x.kind == 5) = false := by simp [h5]
                        have T6 : Hid (TwoK w v5 X k c r (j + 1) K p q t pr qr) := T5.out.more
                        clear T5 rgA b5
                        go_wp2_with fail
                        go_meet
                        case rel => exact ⟨k, K, p, q, t, pr, qr, rfl, rfl, T6⟩
          case rest =>
            obtain ⟨k1, K1, p1, q1, t1, pr1, qr1, rfl, rfl, T6⟩ := hcut
            have CL : Hid (Calls Try.prog 37 #[.pointer (some ⟨k1, 0, none⟩)] wc (LastR wc K1)) := oKLast wc T6.out.st.kk
            go_wp2_with fail
            refine CL.out.mono ?_
            rintro e y7 ⟨p7, q7, rfl, an7, hb7⟩
            have T7 : Hid (TwoK w y7 X k1 c r (j + 1) K1 p1 q1 t1 pr1 qr1) := T6.out.grow hb7
            obtain ⟨g7, hg7⟩ : ∃ g7, g7 = y7.heap.size := ⟨_, rfl⟩
            have z7 : Blk (y7.alloc (.cells #[.int .i64 0, .int .i64 0, .int .i64 0, .int .i64 0, .int .i64 0, .int .i64 0, .slice none 0 0, .slice none 0 0] 25)) g7 zanc 25 := Blk.newAt y7 _ _ g7 hg7.symm _ rfl
            have k7 : Below y7.heap.size y7 (y7.alloc (.cells #[.int .i64 0, .int .i64 0, .int .i64 0, .int .i64 0, .int .i64 0, .int .i64 0, .slice none 0 0, .slice none 0 0] 25)) := below_alloc _ _
            unfold anV
            clear CL T6 hb7
            go_upto_region 46 with ((with_reducible refine at_st 25 ?_); (refine st' 25 (.tmp 20) (.tmp 197) 8 sizeAn y7.heap.size 0 (anc K1.last p7 q7) rfl (anc_one _ _ _) (by rw [← hg7]; exact z7.there 0 8 (by simp [zanc])) rfl rfl ?_); intro y8 hy8; have b8 : Blk y8 g7 (anc K1.last p7 q7) 25 := (by rw [hy8, ← hg7]; exact z7.setsW _ rfl); have k8 : Below y7.heap.size y7 y8 := (by rw [hy8]; exact below_sets (Nat.le_refl _) _ k7 0); clear hy8)
            rw [← hg7]
            have T8 : Hid (TwoK w y8 X k1 c r (j + 1) K1 p1 q1 t1 pr1 qr1) := T7.out.grow k8
            have an8 := an7.below k8
            have bX8 := T8.out.bx
            have c14 : y8.cell? ⟨X, 14, none⟩ = some (.bool K1.has) := bX8.cell 14
            have lX8 := bX8.lt
            have rgL : y8.rangeAt X 6 (anc K1.last pr1 qr1) := bX8.range 6 _ rk_an
            have CSm : Hid (Calls Try.prog 16 #[.agg (anc K1.last p7 q7).toArray, .agg (anc K1.last pr1 qr1).toArray] y8 fun e w' => e = .returned (.bool true) ∧ Below y8.heap.size y8 w') := by
              have := rSameA y8 an8 T8.out.rk.an
              rw [sameA_refl] at this
              exact this
            clear T7 an7 an8 z7 k7 k8 hg7
            cases hh : K1.has with
            | true =>
              rw [hh] at c14
              go_wp2_with (first | ((with_reducible refine at_ldg 25 ?_); (refine ldg 25 (.tmp 20) 8 (by rfl) sizeAn _ Try.underlying25 rfl g7 0 (anc K1.last p7 q7) rfl (b8.whole) rfl ?_)) | ((with_reducible refine at_ldg 25 ?_); (refine ldg 25 (.tmp 211) 8 (by rfl) sizeAn _ Try.underlying25 rfl X 6 (anc K1.last pr1 qr1) rfl (rgL) rfl ?_)))
              refine CSm.out.mono ?_
              rintro e y9 ⟨rfl, hb9⟩
              have T9 : Hid (TwoK w y9 X k1 c r (j + 1) K1 p1 q1 t1 pr1 qr1) := T8.out.grow hb9
              clear CSm hb9 T8 bX8 c14 rgL b8 hh
              go_wp2_with fail
              go_roundw
              case rel => exact ⟨j + 1, k1, K1, p1, q1, t1, pr1, qr1, by omega, by go_num, rfl, T9⟩
              case measure => simp [intOf]; omega
            | false =>
              rw [hh] at c14
              clear CSm bX8 rgL b8 hh
              go_wp2_with fail
              clear c14
              go_roundw
              case rel => exact ⟨j + 1, k1, K1, p1, q1, t1, pr1, qr1, by omega, by go_num, rfl, T8⟩
              case measure => simp [intOf]; omega
      · have i0 : ¬ (j : Int) < (len0 : Int) := by omega
        have hbT := TT.out.st.bel
        clear TT
        go_wp2_with fail
        refine (CW.out wr hbT).mono ?_
        rintro e ww ⟨rfl, hbw⟩
        go_wp2_with fail
        go_ret
        exact ⟨rfl, hbw⟩
  · have j40 : (40 : Int) < (len0 : Int) := by omega
    go_enter Try.func4, Try.ntmps4
    go_wp2_with fail
    refine (CW.out w hb0).mono ?_
    rintro e ww ⟨rfl, hbw⟩
    go_wp2_with fail
    go_ret
    exact ⟨rfl, hbw⟩

set_option maxRecDepth 100000 in
theorem lifted (os : Os) (started : os.Started) (H : Type) (enc : TypeId × Value → H) :
    ReturnsInHanded {} Try.checked os 4 .any (Rows.anchorDoesSpec.pre6 enc Try.prog Try.f4 Rows.anchorDoesRow.domain false) (Rows.anchorDoesSpec.post enc Try.prog Try.f4 false true false false) := by
  refine returnsInHanded_of_change (C := Try.checked) own started (by kernel_rfl) Try.func4
    (ChangeSpec.witness6 (enc := enc) (C := Try.checked) false ⟨#[], #[.slice none 0 0], []⟩ 8 (by kernel_rfl) (by kernel_rfl) (by kernel_rfl) (by kernel_rfl)) ?_
  intro W base args ds gs before hval0 hW hcnd _
  have hval : ∀ (j : Nat) t v, Try.f4.params[j]? = some t → args[j]? = some v → Value.okWide Try.prog W .any base t v := hval0
  have hW' := hW
  obtain ⟨p, q, hA0, hV, rfl, hfz, hnd⟩ := hW
  have hA : DataW.TrodAll enc Try.prog W 0 (fun _ => true) true Try.f4.params.toList args.toList ds p := hA0
  rw [Try.params4] at hA hval
  obtain ⟨v0, vs0, d0, ds0, p0, q0, hargs, rfl, rfl, h0, r0⟩ := trodAll_cons hA
  obtain ⟨rfl, rfl, rfl⟩ := trodAll_nil r0
  obtain rfl : args = #[v0] := by cases args; simp_all
  obtain ⟨rfl, rfl⟩ := trodVars_none hV
  obtain ⟨a0, len0, cap0, rfl⟩ := okWide_slice Try.underlying38 (hval 0 38 v0 rfl rfl)
  have k0 := h0
  have lt0 : ∀ x ∈ p0, x.block < W.heap.size := by obtain ⟨m, hm⟩ := k0; exact DataW.trod_lt m _ _ _ hm
  obtain ⟨l0, w0⟩ : ∃ l, Acts14 W a0 len0 cap0 l := by
    obtain ⟨fuel, hf⟩ := h0
    exact acts14_of_trod hf
  clear hA0 hval0
  refine (walk a0 len0 cap0 l0 W w0).mono fun e W' ⟨he, bel⟩ => ?_
  subst he
  exact ⟨_, rfl, _, _, _, [], _, [], hW', trodAll_mk1 (shut_bool Try.underlying4 _), (trodAll_cons_mk (Below.trod laidOut (by kernel_rfl) (of_decide_eq_true (by kernel_rfl)) k0 bel lt0) trodAll_mk0), rfl, bel.frame _, fun h => by cases h⟩

theorem over : Rows.anchorDoesRow.holds Try.pinned (OpenSpec.ofChange Rows.anchorDoesSpec) :=
  OpenClaim.holds_of_wide 4 Try.f4 rfl rfl rfl rfl rfl rfl rfl ⟨rfl, rfl, rfl, rfl, rfl⟩ rfl rfl rfl rfl rfl (by kernel_rfl) Try.func4 (by kernel_rfl)
    (of_decide_eq_true (by kernel_rfl)) (by unfold Func.isWrapper; first | (rw [if_pos (by decide +kernel)]; kernel_rfl) | (rw [if_neg (by decide +kernel)]; exact ⟨rfl, rfl⟩))
    (fun os started H enc _ => lifted os started H enc)
end AnchorDoesLaw

/-- The statement. -/
theorem anchorDoes_holds : Rows.AnchorDoesSaid := AnchorDoesLaw.over
#print axioms anchorDoes_holds
end Go.Proofs.Ytbifikeecmaakaa
