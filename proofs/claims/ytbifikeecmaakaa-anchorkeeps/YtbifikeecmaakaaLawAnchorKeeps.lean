/-
  Proved: for any anchors, any anchor and any bool the statement AnchorKeeps of layer 14 answers true and leaves its arguments as they were. Conditions beside the statement's own: none.
-/
import Derived.Test.YtbifikeecmaakaaRows
import Derived.Test.YtbifikeecmaakaaG37
import Derived.Below
import Derived.Deep.DeepCutAuto
import Derived.Deep.CutBlock
import Derived.ChangeOld
namespace Go.Proofs.Ytbifikeecmaakaa
namespace AnchorKeepsLaw
open Go.ChangeShapes Go.WideShapes Go.ChangeAt Go.RowKit
open Go.ChangeMaps (open_string shut_string)
set_option linter.unusedVariables false

theorem own : ownKnob Try.prog.godebug = none := by kernel_rfl
theorem laidOut : laidOutB Try.prog = true := by kernel_rfl

set_option maxRecDepth 100000 in
set_option maxHeartbeats 4000000 in
theorem walk (a0 : Option Addr) (len0 cap0 : Nat) (l0 : List AncS) (a1 : AncS) (p1_ q1_ : Tri) (a2 : Bool) (w : World) (w0 : Ancs w a0 len0 cap0 l0) (w1 : AncIn w a1 p1_ q1_) :
    Calls Try.prog 5 #[.slice a0 len0 cap0, .agg (anc a1 p1_ q1_).toArray, .bool a2] w fun e w' => e = .returned (.bool true) ∧ Below w.heap.size w w' := by
  have W0 : Hid (Ancs w a0 len0 cap0 l0) := w0
  have hl0 := Sl.len w0
  have hc0 := Sl.cap w0
  unfold maxLen at hc0
  have W1 : Hid (Anc (fun i => i < w.heap.size) w a1 p1_ q1_) := w1
  have CW : Hid (∀ u, Below w.heap.size w u → Calls Try.prog 8 #[] u fun e w' => e = .returned (.bool true) ∧ Below w.heap.size w w') := fun u hu => (lWorks14 u).mono (by rintro e w' ⟨rfl, h⟩; exact ⟨rfl, hu.trans (h.mono hu.size)⟩)
  have hb0 : Below w.heap.size w w := Below.refl _ _
  clear w0 w1
  obtain ⟨V, hV⟩ : ∃ V, V = w.alloc (.cells (anc a1 p1_ q1_).toArray 25) := ⟨_, rfl⟩
  obtain ⟨X, hX⟩ : ∃ X, X = w.heap.size := ⟨_, rfl⟩
  have bX : Blk V X (anc a1 p1_ q1_) 25 := by rw [hV]; exact Blk.newAt w _ _ X hX.symm _ rfl
  have kV : Below w.heap.size w V := by rw [hV]; exact below_alloc _ _
  have lX := bX.lt
  by_cases hn : len0 ≤ 20
  · have j20 : ¬ (20 : Int) < (len0 : Int) := by omega
    go_enter Try.func5, Try.ntmps5
    go_upto_region 1 with fail
    rw [← hV, ← hX]
    have HX : Hid (X = w.heap.size) := hX
    clear hV hX
    go_wp2_with ((with_reducible refine at_ldg 25 ?_); (refine ldg 25 (.tmp 4) 8 (by rfl) sizeAn _ Try.underlying25 rfl X 0 (anc a1 p1_ q1_) rfl (bX.whole) rfl ?_))
    refine (lLight14 V (W1.out.below kV)).mono ?_
    rintro e v0 ⟨v, rfl, -, hbv⟩
    have bX0 := bX.below hbv bX.lt
    have kv0 : Below w.heap.size w v0 := kV.trans (hbv.mono kV.size)
    clear bX lX hbv
    cases v with
    | false =>
      go_wp2_with fail
      refine (CW.out v0 kv0).mono ?_
      rintro e ww ⟨rfl, hbw⟩
      go_wp2_with fail
      go_ret
      exact ⟨rfl, hbw⟩
    | true =>
      go_wp2_with fail
      refine (oPNew v0).mono ?_
      rintro e v1 ⟨r, rfl, hr, hp, hb1⟩
      go_wp2_with fail
      refine (oCNew v1 hp).mono ?_
      rintro e v2 ⟨c, U, F, rfl, hd, hU, hb2⟩
      have S0 : Hid (StaC v0 v2 c r U F (CelS.new PowS.new)) := StaC.first hb1 hr hd hU hb2
      clear hd hU hb2 hb1 hp hr
      go_wp2_with fail
      refine (oKOpen v2 S0.out.ck.norm CelS.fit_new (by omega) rfl).mono ?_
      rintro e v3 ⟨kz, pz, qz, rfl, hk3, kk, hb3⟩
      have S1 : Hid (StaK v0 v3 kz c r kep0 pz qz) := by
        have := StaK.first S0.out hk3 kk hb3
        rw [openA_cnew] at this
        exact this
      clear S0 hk3 kk hb3
      have I0 : Hid (KeI v0 v3 0 kz c r kep0 pz qz) := KeI.first S1.out
      clear S1
      go_wp2_with fail
      go_loopw [11] (fun i wr => ∃ (j : Nat) (K : KepS) (p q : Tri), j ≤ len0 ∧ i = .int .i64 (j : Int) ∧ Hid (KeI v0 wr j kz c r K p q)) (fun i _ => len0 - (intOf i).toNat)
      case atStart => exact ⟨0, _, pz, qz, Nat.zero_le _, rfl, I0⟩
      case round =>
        clear I0
        obtain ⟨j, K, p, q, hj, rfl, HI⟩ := hrel
        by_cases hlt : j < len0
        · have i0 : (j : Int) < (len0 : Int) := by omega
          obtain ⟨x, hx⟩ : ∃ x, l0[j]? = some x := ⟨_, List.getElem?_eq_getElem (by omega)⟩
          obtain ⟨b, o, px, qx, rfl, hbl, hrg0, hB⟩ := W0.out.at (Below.refl _ w) hx
          have kwr : Below w.heap.size w wr := kv0.trans (HI.out.st.bel.mono kv0.size)
          have hrg := range_below hrg0 hbl kwr
          have hblr := Nat.lt_of_lt_of_le hbl kwr.size
          have HB : Hid (Anc (fun i => i < w.heap.size) w x px qx) := hB
          have CLi : Hid (Calls Try.prog 7 #[.agg (anc x px qx).toArray] wr (Lights14 wr x)) := lLight14 wr (HB.out.below kwr)
          clear hx hB
          go_wp2_with ((with_reducible refine at_ld 25 ?_); (refine ld 25 (.tmp 63) 8 sizeAn _ Try.underlying25 rfl b (o + j * 8) (anc x px qx) rfl hrg rfl ?_))
          refine CLi.out.mono ?_
          rintro e y1 ⟨v, rfl, -, hb1⟩
          have I1 : Hid (KeI v0 y1 j kz c r K p q) := HI.out.grow hb1
          have ky1 : Below w.heap.size w y1 := kwr.trans (hb1.mono kwr.size)
          have hrg1 := range_below hrg0 hbl ky1
          have hbl1 := Nat.lt_of_lt_of_le hbl ky1.size
          have CS : Hid (Calls Try.prog 26 #[.pointer (some ⟨kz, 0, none⟩), .agg (anc x px qx).toArray] y1 (SaveR y1 kz c r K x)) := oKSave y1 I1.out.st.kk I1.out.ft (by omega) (A := fun i => i < w.heap.size) (a := x) (p' := px) (q' := qx) (HB.out.below ky1) (fun i hi hu => by have := I1.out.st.base i hu; have := kv0.size; omega)
          clear CLi HI hb1 hrg hrg0 kwr hblr HB
          cases v with
          | false =>
            go_wp2_with fail
            refine (CW.out y1 ky1).mono ?_
            rintro e ww ⟨rfl, hbw⟩
            go_wp2_with fail
            go_ret
            exact ⟨rfl, hbw⟩
          | true =>
            go_wp2_with ((with_reducible refine at_ld 25 ?_); (refine ld 25 (.tmp 71) 8 sizeAn _ Try.underlying25 rfl b (o + j * 8) (anc x px qx) rfl hrg1 rfl ?_))
            refine CS.out.mono ?_
            rintro e y2 ⟨p2, q2, rfl, kk2, kp2⟩
            have I2 : Hid (KeI v0 y2 (j + 1) kz c r (K.save x).1 p2 q2) := I1.out.saved x kk2 kp2
            generalize K.save x = sv at *
            clear CS I1 kk2 kp2 hrg1
            go_wp2_with fail
            go_roundw
            case rel => exact ⟨j + 1, sv.1, p2, q2, by omega, by go_num, I2⟩
            case measure => simp [intOf]; omega
        · have i0 : ¬ (j : Int) < (len0 : Int) := by omega
          obtain rfl : j = len0 := by omega
          have CL : Hid (Calls Try.prog 37 #[.pointer (some ⟨kz, 0, none⟩)] wr (LastF (fun i => ¬ Fk kz c r i) wr K)) := oKLastF wr HI.out.st.kk HI.out.st.kk.an
          go_wp2_with fail
          refine CL.out.mono ?_
          rintro e y1 ⟨pw, qw, rfl, an1, hb1⟩
          obtain ⟨gw, hgw⟩ : ∃ g, g = y1.heap.size := ⟨_, rfl⟩
          have zw : Blk (y1.alloc (.cells #[.int .i64 0, .int .i64 0, .int .i64 0, .int .i64 0, .int .i64 0, .int .i64 0, .slice none 0 0, .slice none 0 0] 25)) gw zanc 25 := Blk.newAt y1 _ _ gw hgw.symm _ rfl
          have kw : Below y1.heap.size y1 (y1.alloc (.cells #[.int .i64 0, .int .i64 0, .int .i64 0, .int .i64 0, .int .i64 0, .int .i64 0, .slice none 0 0, .slice none 0 0] 25)) := below_alloc _ _
          unfold anV
          go_wp2_with ((with_reducible refine at_st 25 ?_); (refine st' 25 (.tmp 12) (.tmp 77) 8 sizeAn y1.heap.size 0 (anc K.last pw qw) rfl (anc_one _ _ _) (by rw [← hgw]; exact zw.there 0 8 (by simp [zanc])) rfl rfl ?_); intro y2 hy2; have bw2 : Blk y2 gw (anc K.last pw qw) 25 := (by rw [hy2, ← hgw]; exact zw.setsW _ rfl); have kw2 : Below y1.heap.size y1 y2 := (by rw [hy2]; exact below_sets (Nat.le_refl _) _ kw 0); clear hy2)
          rw [← hgw]
          have HGW : Hid (v0.heap.size ≤ gw) := by show _ ≤ _; rw [hgw]; exact Nat.le_trans HI.out.st.bel.size hb1.size
          have HFl : ∀ i, Fk kz c r i → i < wr.heap.size := HI.out.st.kk.lt
          have hnw : ¬ Fk kz c r gw := fun hu => by have := HFl gw hu; have := hb1.size; omega
          have AW2 : Hid (Anc (fun i => ¬ Fk kz c r i) y2 K.last pw qw) := (an1.mono fun i _ hi hu => by have := HFl i hu; rcases hi with hi | hi; exact hi.1 hu; omega).below kw2
          have I2 : Hid (KeI v0 y2 j kz c r K p q) := (HI.out.grow hb1).grow kw2
          have BW2 : Hid (Blk y2 gw (anc K.last pw qw) 25) := bw2
          clear HI CL an1 hb1 zw kw bw2 kw2 hgw HFl
          obtain ⟨L, hL⟩ : ∃ L : KepS, L = ⟨{ K.c with p := K.c.p.set 0 a2 }, K.last⟩ := ⟨_, rfl⟩
          have f3 : L.c.fit j := by rw [hL]; exact I2.out.ft.power (PowS.fit_set I2.out.ft.p (by decide) _)
          have KC := keepsC I2.out.jk I2.out.ft.l I2.out.lv.2 a1 a2 L hL (L.save a1).1.c.p.back
          have HL : Hid (L = ⟨{ K.c with p := K.c.p.set 0 a2 }, K.last⟩) := hL
          clear hL
          have CF : Hid (Calls Try.prog 33 #[.pointer (some ⟨r, 0, none⟩), .int .i64 0, .bool a2] y2 fun e w' => e = .returned (.tuple #[]) ∧ Pw w' r (K.c.p.set 0 a2) ∧ Kp (fun j => j = r) y2 w') := oPFuse y2 I2.out.st.pw 0 a2 ⟨by decide, by decide⟩
          go_wp2_with fail
          refine CF.out.mono ?_
          rintro e y3 ⟨rfl, hp3, kr3⟩
          have S3 : Hid (StaK v0 y3 kz c r L p q) := by rw [HL.out]; exact I2.out.st.power hp3 kr3
          have kr3F : Kp (Fk kz c r) y2 y3 := kr3.mono fun i _ e => Or.inr (Or.inr e)
          have AW3 : Hid (Anc (fun i => ¬ Fk kz c r i) y3 K.last pw qw) := AW2.out.kp kr3F (fun i hi => hi)
          have BW3 : Hid (Blk y3 gw (anc K.last pw qw) 25) := kr3F.blk BW2.out hnw
          have HOK : Hid (okA K.last) := I2.out.st.kk.ok
          clear CF hp3 kr3 kr3F AW2 BW2 I2 HL
          have bX3 := bX0.below S3.out.bel bX0.lt
          have f4 := KepS.fit_save f3 a1
          have CS : Hid (Calls Try.prog 26 #[.pointer (some ⟨kz, 0, none⟩), .agg (anc a1 p1_ q1_).toArray] y3 fun e w' => ∃ p q, e = .returned (.int .i64 (L.save a1).2) ∧ Kk w' kz c r (L.save a1).1 p q ∧ Kp (Fk kz c r) y3 w') := oKSave y3 S3.out.kk f3 (by omega) (A := fun i => i < w.heap.size) (a := a1) (p' := p1_) (q' := q1_) (W1.out.below (kv0.trans (S3.out.bel.mono kv0.size))) (fun i hi hu => by have := S3.out.base i hu; have := kv0.size; omega)
          generalize L.save a1 = sv at *
          obtain ⟨K4, fc⟩ := sv
          try dsimp only at KC f4
          go_wp2_with ((with_reducible refine at_ld 25 ?_); (refine ld 25 (.tmp 4) 8 sizeAn _ Try.underlying25 rfl X 0 (anc a1 p1_ q1_) rfl (bX3.whole) rfl ?_))
          refine CS.out.mono ?_
          rintro e y4 ⟨p4, q4, rfl, kk4, kp4⟩
          try dsimp only at kk4
          try dsimp only
          have S4 : Hid (StaK v0 y4 kz c r K4 p4 q4) := S3.out.after kk4 kp4
          have AW4 : Hid (Anc (fun i => ¬ Fk kz c r i) y4 K.last pw qw) := AW3.out.kp kp4 (fun i hi => hi)
          have BW4 : Hid (Blk y4 gw (anc K.last pw qw) 25) := kp4.blk BW3.out hnw
          clear CS kk4 kp4 S3 AW3 BW3 bX3 f3
          have CB : Hid (Calls Try.prog 35 #[.pointer (some ⟨r, 0, none⟩)] y4 fun e w' => e = .returned (.tuple #[]) ∧ Pw w' r K4.c.p.back ∧ Kp (fun j => j = r) y4 w') := oPBack y4 S4.out.pw
          go_wp2_with fail
          refine CB.out.mono ?_
          rintro e y5 ⟨rfl, hp5, kr5⟩
          have S5 : Hid (StaK v0 y5 kz c r ⟨{ K4.c with p := K4.c.p.back }, K4.last⟩ p4 q4) := S4.out.power hp5 kr5
          have kr5F : Kp (Fk kz c r) y4 y5 := kr5.mono fun i _ e => Or.inr (Or.inr e)
          have AW5 : Hid (Anc (fun i => ¬ Fk kz c r i) y5 K.last pw qw) := AW4.out.kp kr5F (fun i hi => hi)
          have BW5 : Hid (Blk y5 gw (anc K.last pw qw) 25) := kr5F.blk BW4.out hnw
          have f5 : ({ K4.c with p := K4.c.p.back } : CelS).fit (j + 1) := f4.power (PowS.fit_back f4.p)
          clear CB hp5 kr5 kr5F S4 AW4 BW4 f4
          obtain ⟨C5, hC5⟩ : ∃ C5 : CelS, C5 = { K4.c with p := K4.c.p.back } := ⟨_, rfl⟩
          have hd5 : C5.p.down = false := by rw [hC5]; rfl
          rw [← hC5] at S5 f5 KC
          clear hC5
          have CO : Hid (Calls Try.prog 21 #[.pointer (some ⟨c, 0, none⟩)] y5 (OpenF y5 c r C5)) := oKOpenF y5 S5.out.kk.ck f5 (by omega) hd5
          go_wp2_with fail
          refine CO.out.mono ?_
          rintro e y6 ⟨k6, p6, q6, rfl, hk6, kk6, hb6, an6⟩
          have S6 : Hid (StaK v0 y6 k6 c r ⟨C5, openA C5⟩ p6 q6) := S5.out.opened hk6 kk6 hb6
          have AW6 : Hid (Anc (fun i => ¬ Fk kz c r i) y6 K.last pw qw) := AW5.out.below hb6
          have BW6 : Hid (Blk y6 gw (anc K.last pw qw) 25) := BW5.out.below hb6 BW5.out.lt
          have hX5 : X < y5.heap.size := Nat.lt_of_lt_of_le bX0.lt S5.out.bel.size
          generalize openA C5 = N at *
          have CN : Hid (Calls Try.prog 37 #[.pointer (some ⟨k6, 0, none⟩)] y6 (LastF (fun i => y5.heap.size ≤ i ∧ ¬ i = k6) y6 ⟨C5, N⟩)) := oKLastF y6 S6.out.kk an6
          clear CO kk6 hb6 an6 S5 AW5 BW5 f5 hd5
          go_wp2_with fail
          refine CN.out.mono ?_
          rintro e y7 ⟨pn, qn, rfl, an7, hb7⟩
          try dsimp only at an7
          try dsimp only
          rw [show KepS.has ⟨C5, N⟩ = decide (0 < N.seq) from rfl, show K.has = decide (0 < K.last.seq) from rfl]
          obtain ⟨gn, hgn⟩ : ∃ g, g = y7.heap.size := ⟨_, rfl⟩
          have zn : Blk (y7.alloc (.cells #[.int .i64 0, .int .i64 0, .int .i64 0, .int .i64 0, .int .i64 0, .int .i64 0, .slice none 0 0, .slice none 0 0] 25)) gn zanc 25 := Blk.newAt y7 _ _ gn hgn.symm _ rfl
          have kn : Below y7.heap.size y7 (y7.alloc (.cells #[.int .i64 0, .int .i64 0, .int .i64 0, .int .i64 0, .int .i64 0, .int .i64 0, .slice none 0 0, .slice none 0 0] 25)) := below_alloc _ _
          unfold anV
          have AN7 : Hid (Anc (fun i => ¬ i = X) y7 N pn qn) := an7.mono fun i _ hi e => by have := S6.out.kk.b.lt; rcases hi with hi | hi <;> omega
          have S7 := S6.out.grow hb7
          have AW7 := AW6.out.below hb7
          have BW7 := BW6.out.below hb7 BW6.out.lt
          clear CN an7 S6 AW6 BW6 hk6 hX5
          rcases KC with ⟨rfl, rfl, hN⟩ | ⟨KC, hN⟩
          · have HN : Hid (N = nextA K a1) := hN
            have hh : decide (0 < N.seq) = true := by rw [hN]; exact nextA_has HOK.out
            rw [hh]
            clear hN hh
            go_upto_region 24 with ((with_reducible refine at_st 25 ?_); (refine st' 25 (.tmp 17) (.tmp 101) 8 sizeAn y7.heap.size 0 (anc N pn qn) rfl (anc_one _ _ _) (by rw [← hgn]; exact zn.there 0 8 (by simp [zanc])) rfl rfl ?_); intro y8 hy8; have bn8 : Blk y8 gn (anc N pn qn) 25 := (by rw [hy8, ← hgn]; exact zn.setsW _ rfl); have kn8 : Below y7.heap.size y7 y8 := (by rw [hy8]; exact below_sets (Nat.le_refl _) _ kn 0); clear hy8)
            rw [← hgn]
            have HGN : Hid (v0.heap.size ≤ gn) := by show _ ≤ _; rw [hgn]; exact S7.bel.size
            have AN8 : Hid (Anc (fun i => ¬ i = X) y8 N pn qn) := AN7.out.below kn8
            have S8 : Hid (StaK v0 y8 k6 c r ⟨C5, N⟩ p6 q6) := S7.grow kn8
            have AW8 : Hid (Anc (fun i => ¬ Fk kz c r i) y8 K.last pw qw) := AW7.below kn8
            have BW8 : Hid (Blk y8 gw (anc K.last pw qw) 25) := BW7.below kn8 BW7.lt
            have bX8 := bX0.below S8.out.bel bX0.lt
            have B8 : Hid (Below w.heap.size w y8) := kv0.trans (S8.out.bel.mono kv0.size)
            have HW1 : Hid (Anc (fun i => i < w.heap.size) y8 a1 p1_ q1_) := W1.out.below B8.out
            have bW8 := BW8.out
            clear AN7 S7 AW7 BW7 zn kn kn8 hgn hb7 BW8 S8
            have hsq := HOK.out.seq
            have e0 : y8.cell? ⟨gw, 0, none⟩ = some (.int .i64 K.last.seq) := bW8.cell 0
            have lw := bW8.lt
            have ex : y8.cell? ⟨X, 0, none⟩ = some (.int .i64 a1.seq) := bX8.cell 0
            have fx := bX8.free 0
            have lx := bX8.lt
            have o1 : K.last.seq + 1 ≤ 9223372036854775807 := by omega
            have o2 : -9223372036854775808 ≤ K.last.seq + 1 := by omega
            have hX0 := bX0.lt
            have y9x := bX8.setC 0 (.int .i64 (K.last.seq + 1))
            rw [anc_next] at y9x
            have k9 : Kp (fun i => i = X) y8 (y8.setCell ⟨X, 0, none⟩ (.int .i64 (K.last.seq + 1))) := Kp.setC (F := fun i => i = X) rfl _ _
            have bn9 := k9.blk bn8 (fun e => by have := HGN.out; omega)
            have B9 : Hid (Below w.heap.size w (y8.setCell ⟨X, 0, none⟩ (.int .i64 (K.last.seq + 1)))) := below_kp B8.out k9 B8.out.size (fun i hi e => by have := HX.out; omega)
            have CSm : Hid (Calls Try.prog 16 #[.agg (anc N pn qn).toArray, .agg (anc (nextA K a1) p1_ q1_).toArray] (y8.setCell ⟨X, 0, none⟩ (.int .i64 (K.last.seq + 1))) fun e w' => e = .returned (.bool true) ∧ Below (y8.setCell ⟨X, 0, none⟩ (.int .i64 (K.last.seq + 1))).heap.size (y8.setCell ⟨X, 0, none⟩ (.int .i64 (K.last.seq + 1))) w') := by
              have h1 : Anc (fun i => ¬ i = X) (y8.setCell ⟨X, 0, none⟩ (.int .i64 (K.last.seq + 1))) N pn qn := AN8.out.kp k9 (fun i hi e => hi e)
              have h2 : Anc (fun i => i < w.heap.size) (y8.setCell ⟨X, 0, none⟩ (.int .i64 (K.last.seq + 1))) (nextA K a1) p1_ q1_ := ((HW1.out.nums rfl rfl (nextA_nums HOK.out HW1.out.ns)) : Anc _ _ (nextA K a1) _ _).kp k9 (fun i hi e => by have := HX.out; omega)
              have := rSameA _ h1 h2
              rw [HN.out, sameA_refl] at this
              rw [HN.out]
              exact this
            clear hsq k9 AN8 HW1 AW8 HOK hX0 HN
            generalize nextA K a1 = A9 at *
            generalize K.last.seq = sq at *
            go_wp2_with (first | ((with_reducible refine at_ldg 25 ?_); (refine ldg 25 (.tmp 17) 8 (by rfl) sizeAn _ Try.underlying25 rfl gn 0 (anc N pn qn) rfl (bn9.whole) rfl ?_)) | ((with_reducible refine at_ldg 25 ?_); (refine ldg 25 (.tmp 4) 8 (by rfl) sizeAn _ Try.underlying25 rfl X 0 (anc A9 p1_ q1_) rfl (y9x.whole) rfl ?_)))
            refine CSm.out.mono ?_
            rintro e ya ⟨rfl, hba⟩
            have Ba := B9.out.trans (hba.mono B9.out.size)
            clear CSm hba B9 y9x bn9 e0 ex fx bX8 bW8 bn8
            go_wp2_with fail
            refine (CW.out ya Ba).mono ?_
            rintro e ww ⟨rfl, hbw⟩
            go_wp2_with fail
            go_ret
            exact ⟨rfl, hbw⟩
          · by_cases hf5 : fc = 5
            · obtain rfl : a2 = false := by rcases KC with h | h; exact absurd hf5 h; exact h
              subst hf5
              clear KC
              have hh : decide (0 < N.seq) = decide (0 < K.last.seq) := by rw [hN]
              rw [hh]
              have HN : Hid (N = K.last) := hN
              clear hN hh
              generalize decide (0 < K.last.seq) = hb at *
              cases hb with
              | true =>
                go_upto_region 24 with ((with_reducible refine at_st 25 ?_); (refine st' 25 (.tmp 17) (.tmp 101) 8 sizeAn y7.heap.size 0 (anc N pn qn) rfl (anc_one _ _ _) (by rw [← hgn]; exact zn.there 0 8 (by simp [zanc])) rfl rfl ?_); intro y8 hy8; have bn8 : Blk y8 gn (anc N pn qn) 25 := (by rw [hy8, ← hgn]; exact zn.setsW _ rfl); have kn8 : Below y7.heap.size y7 y8 := (by rw [hy8]; exact below_sets (Nat.le_refl _) _ kn 0); clear hy8)
                rw [← hgn]
                have HGN : Hid (v0.heap.size ≤ gn) := by show _ ≤ _; rw [hgn]; exact S7.bel.size
                have AN8 : Hid (Anc (fun i => ¬ i = X) y8 N pn qn) := AN7.out.below kn8
                have S8 : Hid (StaK v0 y8 k6 c r ⟨C5, N⟩ p6 q6) := S7.grow kn8
                have AW8 : Hid (Anc (fun i => ¬ Fk kz c r i) y8 K.last pw qw) := AW7.below kn8
                have BW8 : Hid (Blk y8 gw (anc K.last pw qw) 25) := BW7.below kn8 BW7.lt
                have bX8 := bX0.below S8.out.bel bX0.lt
                have B8 : Hid (Below w.heap.size w y8) := kv0.trans (S8.out.bel.mono kv0.size)
                have HW1 : Hid (Anc (fun i => i < w.heap.size) y8 a1 p1_ q1_) := W1.out.below B8.out
                have bW8 := BW8.out
                clear AN7 S7 AW7 BW7 zn kn kn8 hgn hb7 BW8 S8
                have CSm : Hid (Calls Try.prog 16 #[.agg (anc N pn qn).toArray, .agg (anc K.last pw qw).toArray] y8 fun e w' => e = .returned (.bool true) ∧ Below y8.heap.size y8 w') := by
                  have := rSameA y8 AN8.out AW8.out
                  rw [HN.out, sameA_refl] at this
                  rw [HN.out]
                  exact this
                clear AN8 AW8 HW1 HOK bX8 HN
                go_wp2_with (first | ((with_reducible refine at_ldg 25 ?_); (refine ldg 25 (.tmp 17) 8 (by rfl) sizeAn _ Try.underlying25 rfl gn 0 (anc N pn qn) rfl (bn8.whole) rfl ?_)) | ((with_reducible refine at_ldg 25 ?_); (refine ldg 25 (.tmp 12) 8 (by rfl) sizeAn _ Try.underlying25 rfl gw 0 (anc K.last pw qw) rfl (bW8.whole) rfl ?_)))
                refine CSm.out.mono ?_
                rintro e ya ⟨rfl, hba⟩
                have Ba := B8.out.trans (hba.mono B8.out.size)
                clear CSm hba B8 bW8 bn8
                go_wp2_with fail
                refine (CW.out ya Ba).mono ?_
                rintro e ww ⟨rfl, hbw⟩
                go_wp2_with fail
                go_ret
                exact ⟨rfl, hbw⟩
              | false =>
                go_upto_region 24 with ((with_reducible refine at_st 25 ?_); (refine st' 25 (.tmp 17) (.tmp 101) 8 sizeAn y7.heap.size 0 (anc N pn qn) rfl (anc_one _ _ _) (by rw [← hgn]; exact zn.there 0 8 (by simp [zanc])) rfl rfl ?_); intro y8 hy8; have bn8 : Blk y8 gn (anc N pn qn) 25 := (by rw [hy8, ← hgn]; exact zn.setsW _ rfl); have kn8 : Below y7.heap.size y7 y8 := (by rw [hy8]; exact below_sets (Nat.le_refl _) _ kn 0); clear hy8)
                rw [← hgn]
                have HGN : Hid (v0.heap.size ≤ gn) := by show _ ≤ _; rw [hgn]; exact S7.bel.size
                have AN8 : Hid (Anc (fun i => ¬ i = X) y8 N pn qn) := AN7.out.below kn8
                have S8 : Hid (StaK v0 y8 k6 c r ⟨C5, N⟩ p6 q6) := S7.grow kn8
                have AW8 : Hid (Anc (fun i => ¬ Fk kz c r i) y8 K.last pw qw) := AW7.below kn8
                have BW8 : Hid (Blk y8 gw (anc K.last pw qw) 25) := BW7.below kn8 BW7.lt
                have bX8 := bX0.below S8.out.bel bX0.lt
                have B8 : Hid (Below w.heap.size w y8) := kv0.trans (S8.out.bel.mono kv0.size)
                have HW1 : Hid (Anc (fun i => i < w.heap.size) y8 a1 p1_ q1_) := W1.out.below B8.out
                have bW8 := BW8.out
                clear AN7 S7 AW7 BW7 zn kn kn8 hgn hb7 BW8 S8
                have CSm : Hid (Calls Try.prog 16 #[.agg (anc N pn qn).toArray, .agg (anc K.last pw qw).toArray] y8 fun e w' => e = .returned (.bool true) ∧ Below y8.heap.size y8 w') := by
                  have := rSameA y8 AN8.out AW8.out
                  rw [HN.out, sameA_refl] at this
                  rw [HN.out]
                  exact this
                clear AN8 AW8 HW1 HOK bX8 HN
                go_wp2_with (first | ((with_reducible refine at_ldg 25 ?_); (refine ldg 25 (.tmp 17) 8 (by rfl) sizeAn _ Try.underlying25 rfl gn 0 (anc N pn qn) rfl (bn8.whole) rfl ?_)) | ((with_reducible refine at_ldg 25 ?_); (refine ldg 25 (.tmp 12) 8 (by rfl) sizeAn _ Try.underlying25 rfl gw 0 (anc K.last pw qw) rfl (bW8.whole) rfl ?_)))
                refine CSm.out.mono ?_
                rintro e ya ⟨rfl, hba⟩
                have Ba := B8.out.trans (hba.mono B8.out.size)
                clear CSm hba B8 bW8 bn8
                go_wp2_with fail
                refine (CW.out ya Ba).mono ?_
                rintro e ww ⟨rfl, hbw⟩
                go_wp2_with fail
                go_ret
                exact ⟨rfl, hbw⟩
            · have bf : (fc == 5) = false := by simp [hf5]
              have bf2 : (fc != 5) = true := by simp [hf5]
              cases a2 with
              | true =>
                clear KC
                have hh : decide (0 < N.seq) = decide (0 < K.last.seq) := by rw [hN]
                rw [hh]
                have HN : Hid (N = K.last) := hN
                clear hN hh
                generalize decide (0 < K.last.seq) = hb at *
                cases hb with
                | true =>
                  go_upto_region 24 with ((with_reducible refine at_st 25 ?_); (refine st' 25 (.tmp 17) (.tmp 101) 8 sizeAn y7.heap.size 0 (anc N pn qn) rfl (anc_one _ _ _) (by rw [← hgn]; exact zn.there 0 8 (by simp [zanc])) rfl rfl ?_); intro y8 hy8; have bn8 : Blk y8 gn (anc N pn qn) 25 := (by rw [hy8, ← hgn]; exact zn.setsW _ rfl); have kn8 : Below y7.heap.size y7 y8 := (by rw [hy8]; exact below_sets (Nat.le_refl _) _ kn 0); clear hy8)
                  rw [← hgn]
                  have HGN : Hid (v0.heap.size ≤ gn) := by show _ ≤ _; rw [hgn]; exact S7.bel.size
                  have AN8 : Hid (Anc (fun i => ¬ i = X) y8 N pn qn) := AN7.out.below kn8
                  have S8 : Hid (StaK v0 y8 k6 c r ⟨C5, N⟩ p6 q6) := S7.grow kn8
                  have AW8 : Hid (Anc (fun i => ¬ Fk kz c r i) y8 K.last pw qw) := AW7.below kn8
                  have BW8 : Hid (Blk y8 gw (anc K.last pw qw) 25) := BW7.below kn8 BW7.lt
                  have bX8 := bX0.below S8.out.bel bX0.lt
                  have B8 : Hid (Below w.heap.size w y8) := kv0.trans (S8.out.bel.mono kv0.size)
                  have HW1 : Hid (Anc (fun i => i < w.heap.size) y8 a1 p1_ q1_) := W1.out.below B8.out
                  have bW8 := BW8.out
                  clear AN7 S7 AW7 BW7 zn kn kn8 hgn hb7 BW8 S8
                  have CSm : Hid (Calls Try.prog 16 #[.agg (anc N pn qn).toArray, .agg (anc K.last pw qw).toArray] y8 fun e w' => e = .returned (.bool true) ∧ Below y8.heap.size y8 w') := by
                    have := rSameA y8 AN8.out AW8.out
                    rw [HN.out, sameA_refl] at this
                    rw [HN.out]
                    exact this
                  clear AN8 AW8 HW1 HOK bX8 HN
                  go_wp2_with (first | ((with_reducible refine at_ldg 25 ?_); (refine ldg 25 (.tmp 17) 8 (by rfl) sizeAn _ Try.underlying25 rfl gn 0 (anc N pn qn) rfl (bn8.whole) rfl ?_)) | ((with_reducible refine at_ldg 25 ?_); (refine ldg 25 (.tmp 12) 8 (by rfl) sizeAn _ Try.underlying25 rfl gw 0 (anc K.last pw qw) rfl (bW8.whole) rfl ?_)))
                  refine CSm.out.mono ?_
                  rintro e ya ⟨rfl, hba⟩
                  have Ba := B8.out.trans (hba.mono B8.out.size)
                  clear CSm hba B8 bW8 bn8
                  go_wp2_with fail
                  refine (CW.out ya Ba).mono ?_
                  rintro e ww ⟨rfl, hbw⟩
                  go_wp2_with fail
                  go_ret
                  exact ⟨rfl, hbw⟩
                | false =>
                  go_upto_region 24 with ((with_reducible refine at_st 25 ?_); (refine st' 25 (.tmp 17) (.tmp 101) 8 sizeAn y7.heap.size 0 (anc N pn qn) rfl (anc_one _ _ _) (by rw [← hgn]; exact zn.there 0 8 (by simp [zanc])) rfl rfl ?_); intro y8 hy8; have bn8 : Blk y8 gn (anc N pn qn) 25 := (by rw [hy8, ← hgn]; exact zn.setsW _ rfl); have kn8 : Below y7.heap.size y7 y8 := (by rw [hy8]; exact below_sets (Nat.le_refl _) _ kn 0); clear hy8)
                  rw [← hgn]
                  have HGN : Hid (v0.heap.size ≤ gn) := by show _ ≤ _; rw [hgn]; exact S7.bel.size
                  have AN8 : Hid (Anc (fun i => ¬ i = X) y8 N pn qn) := AN7.out.below kn8
                  have S8 : Hid (StaK v0 y8 k6 c r ⟨C5, N⟩ p6 q6) := S7.grow kn8
                  have AW8 : Hid (Anc (fun i => ¬ Fk kz c r i) y8 K.last pw qw) := AW7.below kn8
                  have BW8 : Hid (Blk y8 gw (anc K.last pw qw) 25) := BW7.below kn8 BW7.lt
                  have bX8 := bX0.below S8.out.bel bX0.lt
                  have B8 : Hid (Below w.heap.size w y8) := kv0.trans (S8.out.bel.mono kv0.size)
                  have HW1 : Hid (Anc (fun i => i < w.heap.size) y8 a1 p1_ q1_) := W1.out.below B8.out
                  have bW8 := BW8.out
                  clear AN7 S7 AW7 BW7 zn kn kn8 hgn hb7 BW8 S8
                  have CSm : Hid (Calls Try.prog 16 #[.agg (anc N pn qn).toArray, .agg (anc K.last pw qw).toArray] y8 fun e w' => e = .returned (.bool true) ∧ Below y8.heap.size y8 w') := by
                    have := rSameA y8 AN8.out AW8.out
                    rw [HN.out, sameA_refl] at this
                    rw [HN.out]
                    exact this
                  clear AN8 AW8 HW1 HOK bX8 HN
                  go_wp2_with (first | ((with_reducible refine at_ldg 25 ?_); (refine ldg 25 (.tmp 17) 8 (by rfl) sizeAn _ Try.underlying25 rfl gn 0 (anc N pn qn) rfl (bn8.whole) rfl ?_)) | ((with_reducible refine at_ldg 25 ?_); (refine ldg 25 (.tmp 12) 8 (by rfl) sizeAn _ Try.underlying25 rfl gw 0 (anc K.last pw qw) rfl (bW8.whole) rfl ?_)))
                  refine CSm.out.mono ?_
                  rintro e ya ⟨rfl, hba⟩
                  have Ba := B8.out.trans (hba.mono B8.out.size)
                  clear CSm hba B8 bW8 bn8
                  go_wp2_with fail
                  refine (CW.out ya Ba).mono ?_
                  rintro e ww ⟨rfl, hbw⟩
                  go_wp2_with fail
                  go_ret
                  exact ⟨rfl, hbw⟩
              | false =>
                clear KC
                have hh : decide (0 < N.seq) = decide (0 < K.last.seq) := by rw [hN]
                rw [hh]
                have HN : Hid (N = K.last) := hN
                clear hN hh
                generalize decide (0 < K.last.seq) = hb at *
                cases hb with
                | true =>
                  go_upto_region 24 with ((with_reducible refine at_st 25 ?_); (refine st' 25 (.tmp 17) (.tmp 101) 8 sizeAn y7.heap.size 0 (anc N pn qn) rfl (anc_one _ _ _) (by rw [← hgn]; exact zn.there 0 8 (by simp [zanc])) rfl rfl ?_); intro y8 hy8; have bn8 : Blk y8 gn (anc N pn qn) 25 := (by rw [hy8, ← hgn]; exact zn.setsW _ rfl); have kn8 : Below y7.heap.size y7 y8 := (by rw [hy8]; exact below_sets (Nat.le_refl _) _ kn 0); clear hy8)
                  rw [← hgn]
                  have HGN : Hid (v0.heap.size ≤ gn) := by show _ ≤ _; rw [hgn]; exact S7.bel.size
                  have AN8 : Hid (Anc (fun i => ¬ i = X) y8 N pn qn) := AN7.out.below kn8
                  have S8 : Hid (StaK v0 y8 k6 c r ⟨C5, N⟩ p6 q6) := S7.grow kn8
                  have AW8 : Hid (Anc (fun i => ¬ Fk kz c r i) y8 K.last pw qw) := AW7.below kn8
                  have BW8 : Hid (Blk y8 gw (anc K.last pw qw) 25) := BW7.below kn8 BW7.lt
                  have bX8 := bX0.below S8.out.bel bX0.lt
                  have B8 : Hid (Below w.heap.size w y8) := kv0.trans (S8.out.bel.mono kv0.size)
                  have HW1 : Hid (Anc (fun i => i < w.heap.size) y8 a1 p1_ q1_) := W1.out.below B8.out
                  have bW8 := BW8.out
                  clear AN7 S7 AW7 BW7 zn kn kn8 hgn hb7 BW8 S8
                  have CSm : Hid (Calls Try.prog 16 #[.agg (anc N pn qn).toArray, .agg (anc K.last pw qw).toArray] y8 fun e w' => e = .returned (.bool true) ∧ Below y8.heap.size y8 w') := by
                    have := rSameA y8 AN8.out AW8.out
                    rw [HN.out, sameA_refl] at this
                    rw [HN.out]
                    exact this
                  clear AN8 AW8 HW1 HOK bX8 HN
                  go_wp2_with (first | ((with_reducible refine at_ldg 25 ?_); (refine ldg 25 (.tmp 17) 8 (by rfl) sizeAn _ Try.underlying25 rfl gn 0 (anc N pn qn) rfl (bn8.whole) rfl ?_)) | ((with_reducible refine at_ldg 25 ?_); (refine ldg 25 (.tmp 12) 8 (by rfl) sizeAn _ Try.underlying25 rfl gw 0 (anc K.last pw qw) rfl (bW8.whole) rfl ?_)))
                  refine CSm.out.mono ?_
                  rintro e ya ⟨rfl, hba⟩
                  have Ba := B8.out.trans (hba.mono B8.out.size)
                  clear CSm hba B8 bW8 bn8
                  go_wp2_with fail
                  refine (CW.out ya Ba).mono ?_
                  rintro e ww ⟨rfl, hbw⟩
                  go_wp2_with fail
                  go_ret
                  exact ⟨rfl, hbw⟩
                | false =>
                  go_upto_region 24 with ((with_reducible refine at_st 25 ?_); (refine st' 25 (.tmp 17) (.tmp 101) 8 sizeAn y7.heap.size 0 (anc N pn qn) rfl (anc_one _ _ _) (by rw [← hgn]; exact zn.there 0 8 (by simp [zanc])) rfl rfl ?_); intro y8 hy8; have bn8 : Blk y8 gn (anc N pn qn) 25 := (by rw [hy8, ← hgn]; exact zn.setsW _ rfl); have kn8 : Below y7.heap.size y7 y8 := (by rw [hy8]; exact below_sets (Nat.le_refl _) _ kn 0); clear hy8)
                  rw [← hgn]
                  have HGN : Hid (v0.heap.size ≤ gn) := by show _ ≤ _; rw [hgn]; exact S7.bel.size
                  have AN8 : Hid (Anc (fun i => ¬ i = X) y8 N pn qn) := AN7.out.below kn8
                  have S8 : Hid (StaK v0 y8 k6 c r ⟨C5, N⟩ p6 q6) := S7.grow kn8
                  have AW8 : Hid (Anc (fun i => ¬ Fk kz c r i) y8 K.last pw qw) := AW7.below kn8
                  have BW8 : Hid (Blk y8 gw (anc K.last pw qw) 25) := BW7.below kn8 BW7.lt
                  have bX8 := bX0.below S8.out.bel bX0.lt
                  have B8 : Hid (Below w.heap.size w y8) := kv0.trans (S8.out.bel.mono kv0.size)
                  have HW1 : Hid (Anc (fun i => i < w.heap.size) y8 a1 p1_ q1_) := W1.out.below B8.out
                  have bW8 := BW8.out
                  clear AN7 S7 AW7 BW7 zn kn kn8 hgn hb7 BW8 S8
                  have CSm : Hid (Calls Try.prog 16 #[.agg (anc N pn qn).toArray, .agg (anc K.last pw qw).toArray] y8 fun e w' => e = .returned (.bool true) ∧ Below y8.heap.size y8 w') := by
                    have := rSameA y8 AN8.out AW8.out
                    rw [HN.out, sameA_refl] at this
                    rw [HN.out]
                    exact this
                  clear AN8 AW8 HW1 HOK bX8 HN
                  go_wp2_with (first | ((with_reducible refine at_ldg 25 ?_); (refine ldg 25 (.tmp 17) 8 (by rfl) sizeAn _ Try.underlying25 rfl gn 0 (anc N pn qn) rfl (bn8.whole) rfl ?_)) | ((with_reducible refine at_ldg 25 ?_); (refine ldg 25 (.tmp 12) 8 (by rfl) sizeAn _ Try.underlying25 rfl gw 0 (anc K.last pw qw) rfl (bW8.whole) rfl ?_)))
                  refine CSm.out.mono ?_
                  rintro e ya ⟨rfl, hba⟩
                  have Ba := B8.out.trans (hba.mono B8.out.size)
                  clear CSm hba B8 bW8 bn8
                  go_wp2_with fail
                  refine (CW.out ya Ba).mono ?_
                  rintro e ww ⟨rfl, hbw⟩
                  go_wp2_with fail
                  go_ret
                  exact ⟨rfl, hbw⟩
  · have j20 : (20 : Int) < (len0 : Int) := by omega
    go_enter Try.func5, Try.ntmps5
    go_upto_region 1 with fail
    rw [← hV]
    clear hV hX
    go_wp2_with fail
    refine (CW.out V kV).mono ?_
    rintro e ww ⟨rfl, hbw⟩
    go_wp2_with fail
    go_ret
    exact ⟨rfl, hbw⟩

set_option maxRecDepth 100000 in
theorem lifted (os : Os) (started : os.Started) (H : Type) (enc : TypeId × Value → H) :
    ReturnsInHanded {} Try.checked os 5 .any (Rows.anchorKeepsSpec.pre6 enc Try.prog Try.f5 Rows.anchorKeepsRow.domain false) (Rows.anchorKeepsSpec.post enc Try.prog Try.f5 false true false false) := by
  refine returnsInHanded_of_change (C := Try.checked) own started (by kernel_rfl) Try.func5
    (ChangeSpec.witness6 (enc := enc) (C := Try.checked) false ⟨#[], #[.slice none 0 0, .agg #[.int .i64 0, .int .i64 0, .int .i64 0, .int .i64 0, .int .i64 0, .int .i64 0, .slice none 0 0, .slice none 0 0], .bool false], []⟩ 8 (by kernel_rfl) (by kernel_rfl) (by kernel_rfl) (by kernel_rfl)) ?_
  intro W base args ds gs before hval0 hW hcnd _
  have hval : ∀ (j : Nat) t v, Try.f5.params[j]? = some t → args[j]? = some v → Value.okWide Try.prog W .any base t v := hval0
  have hW' := hW
  obtain ⟨p, q, hA0, hV, rfl, hfz, hnd⟩ := hW
  have hA : DataW.TrodAll enc Try.prog W 0 (fun _ => true) true Try.f5.params.toList args.toList ds p := hA0
  rw [Try.params5] at hA hval
  obtain ⟨v0, vs0, d0, ds0, p0, q0, hargs, rfl, rfl, h0, r0⟩ := trodAll_cons hA
  obtain ⟨v1, vs1, d1, ds1, p1, q1, rfl, rfl, rfl, h1, r1⟩ := trodAll_cons r0
  obtain ⟨v2, vs2, d2, ds2, p2, q2, rfl, rfl, rfl, h2, r2⟩ := trodAll_cons r1
  obtain ⟨rfl, rfl, rfl⟩ := trodAll_nil r2
  obtain rfl : args = #[v0, v1, v2] := by cases args; simp_all
  obtain ⟨rfl, rfl⟩ := trodVars_none hV
  obtain ⟨a0, len0, cap0, rfl⟩ := okWide_slice Try.underlying75 (hval 0 75 v0 rfl rfl)
  have k0 := h0
  have lt0 : ∀ x ∈ p0, x.block < W.heap.size := by obtain ⟨m, hm⟩ := k0; exact DataW.trod_lt m _ _ _ hm
  obtain ⟨l0, w0⟩ : ∃ l, Ancs W a0 len0 cap0 l := by
    obtain ⟨fuel, hf⟩ := h0
    exact Ancs.of_trod hf
  obtain ⟨x1, rfl⟩ := okWide_anc (hval 1 25 v1 rfl rfl)
  have k1 := h1
  have lt1 : ∀ x ∈ p1, x.block < W.heap.size := by obtain ⟨m, hm⟩ := k1; exact DataW.trod_lt m _ _ _ hm
  obtain ⟨a1, p1_, q1_, rfl, w1⟩ : ∃ a p q, x1 = (anc a p q).toArray ∧ AncIn W a p q := by
    obtain ⟨fuel, hf⟩ := h1
    exact anchor_of_trod hf
  obtain ⟨a2, rfl, rfl, rfl⟩ := open_bool Try.underlying4 (hval 2 4 v2 rfl rfl) h2
  clear hA0 hval0
  refine (walk a0 len0 cap0 l0 a1 p1_ q1_ a2 W w0 w1).mono fun e W' ⟨he, bel⟩ => ?_
  subst he
  exact ⟨_, rfl, _, _, _, [], _, [], hW', trodAll_mk1 (shut_bool Try.underlying4 _), (trodAll_cons_mk (Below.trod laidOut (by kernel_rfl) (of_decide_eq_true (by kernel_rfl)) k0 bel lt0) (trodAll_cons_mk (Below.trod laidOut (by kernel_rfl) (of_decide_eq_true (by kernel_rfl)) k1 bel lt1) (trodAll_cons_mk (shut_bool Try.underlying4 a2) trodAll_mk0))), rfl, bel.frame _, fun h => by cases h⟩

theorem over : Rows.anchorKeepsRow.holds Try.pinned (OpenSpec.ofChange Rows.anchorKeepsSpec) :=
  OpenClaim.holds_of_wide 5 Try.f5 rfl rfl rfl rfl rfl rfl rfl ⟨rfl, rfl, rfl, rfl, rfl⟩ rfl rfl rfl rfl rfl (by kernel_rfl) Try.func5 (by kernel_rfl)
    (of_decide_eq_true (by kernel_rfl)) (by unfold Func.isWrapper; first | (rw [if_pos (by decide +kernel)]; kernel_rfl) | (rw [if_neg (by decide +kernel)]; exact ⟨rfl, rfl⟩))
    (fun os started H enc _ => lifted os started H enc)
end AnchorKeepsLaw

/-- The statement. -/
theorem anchorKeeps_holds : Rows.AnchorKeepsSaid := AnchorKeepsLaw.over
#print axioms anchorKeeps_holds
end Go.Proofs.Ytbifikeecmaakaa
