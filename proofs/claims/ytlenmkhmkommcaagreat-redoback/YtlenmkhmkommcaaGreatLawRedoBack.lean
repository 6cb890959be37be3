/-
  Proved: for either kind of sealer, any pages, any epoch and whatever is kept the statement RedoBack of layer 16 answers true and leaves its arguments as they were. Conditions beside the statement's own: none.
-/
import Derived.Test.YtlenmkhmkommcaaGreatRows
import Derived.Test.YtlenmkhmkommcaaGreatG28
import Derived.Below
import Derived.Deep.DeepCutAuto
import Derived.Deep.CutBlock
import Derived.ChangeOld
namespace Go.Proofs.YtlenmkhmkommcaaGreat
namespace RedoBackLaw
open Go.ChangeShapes Go.WideShapes Go.ChangeAt Go.RowKit
open Go.ChangeMaps (open_string shut_string)
set_option linter.unusedVariables false

theorem own : ownKnob Tryz.prog.godebug = none := by kernel_rfl
theorem laidOut : laidOutB Tryz.prog = true := by kernel_rfl

set_option maxRecDepth 100000 in
set_option maxHeartbeats 4000000 in
theorem walk (a0 : Bool) (a1 : Option Addr) (len1 cap1 : Nat) (l1 : List Pag) (a2 : Int) (a3 : Option Addr) (len3 cap3 : Nat) (l3 : List Bool) (w : World) (w1 : Pags w a1 len1 cap1 l1) (w2 : (Lit.int .u32 a2).wf = true) (w3 : BoW w a3 len3 cap3 l3) :
    Calls Tryz.prog 4 #[.bool a0, .slice a1 len1 cap1, .int .u32 a2, .slice a3 len3 cap3] w fun e w' => e = .returned (.bool true) ∧ Below w.heap.size w w' := by
  have hlen1 : l1.length = len1 := Sl.len w1
  have hcap1 := Sl.cap w1
  unfold maxLen at hcap1
  obtain ⟨E, rfl⟩ : ∃ E : Nat, a2 = (E : Int) := ⟨a2.toNat, by have := (bounds_u32 w2).1; omega⟩
  have hE : E ≤ 4294967295 := by have := (bounds_u32 w2).2; omega
  clear w2
  have hk3 : len3 ≤ 9223372036854775807 := by
    have := w3.1.2.2.1
    have h2 := w3.1.2.1
    unfold maxLen at this
    omega
  have CWK : Hid (∀ u, Calls Tryz.prog 6 #[] u fun e w' => e = .returned (.bool true) ∧ Below u.heap.size u w') := fun u => lWorks16 u
  by_cases h1 : (23 : Int) < len1
  · go_enter Tryz.func4, Tryz.ntmps4
    go_wp2_with fail
    refine (CWK.out w).mono ?_
    rintro e w1 ⟨rfl, hb1⟩
    go_wp2_with fail
    go_ret
    exact ⟨rfl, hb1⟩
  by_cases h2 : (60 : Int) < len3
  · go_enter Tryz.func4, Tryz.ntmps4
    go_wp2_with fail
    refine (CWK.out w).mono ?_
    rintro e w1 ⟨rfl, hb1⟩
    go_wp2_with fail
    go_ret
    exact ⟨rfl, hb1⟩
  · have W0 : Hid (Pags w a1 len1 cap1 l1) := w1
    have W3 : Hid (BoW w a3 len3 cap3 l3) := w3
    have HL : Hid (l1.length = len1) := hlen1
    have hl23 : len1 ≤ 23 := by omega
    have hl60 : len3 ≤ 60 := by omega
    clear w1 w3 hlen1
    go_enter Tryz.func4, Tryz.ntmps4
    go_wp2_with fail
    refine (oPNew w).mono ?_
    rintro e w1 ⟨r, rfl, hr, hp, hb1⟩
    go_wp2_with fail
    refine (oDNew w1 hp 60 (by omega)).mono ?_
    rintro e w2 ⟨d, U, F, rfl, hd, hU, hb2⟩
    have Q1 : Hid (Below w.heap.size w w1) := hb1
    have Q2 : Hid (Below w1.heap.size w1 w2) := hb2
    have HD : Hid (Dk U F w2 d r (DskS.new PowS.new 60)) := hd
    have HU : Hid (∀ j, U j → j = r ∨ w1.heap.size ≤ j) := hU
    clear hd hU hb2 hb1 hp
    go_wp2_with fail
    refine (oSNew a0 w2).mono ?_
    rintro e w3 ⟨s, V, M, rfl, hs3, hV3, hb3⟩
    have S3 : Hid (StaB w w3 U F V d r s (DskS.new PowS.new 60) (SeaS.new a0) M) := StaB.first Q1.out hr HD.out HU.out Q2.out hs3 hV3 hb3
    clear hs3 hV3 hb3 HD HU Q1 Q2 hr
    go_wp2_with fail
    go_loopw [13] (fun i wr => ∃ k : Nat, k ≤ len1 ∧ i = .int .i64 (k : Int) ∧ Hid (∀ x ∈ l1.take k, x.good 24) ∧ Hid (StaB w wr U F V d r s (DskS.new PowS.new 60) (SeaS.new a0) M)) (fun i _ => len1 - (intOf i).toNat)
    case atStart => exact ⟨0, Nat.zero_le _, rfl, fun x hx => by simp at hx, S3⟩
    case round =>
      obtain ⟨k, hk, rfl, HG, S4⟩ := hrel
      clear S3
      by_cases hlt : k < len1
      · have j0 : (k : Int) < (len1 : Int) := by omega
        obtain ⟨x, hx⟩ : ∃ x, l1[k]? = some x := ⟨_, List.getElem?_eq_getElem (by rw [HL.out]; exact hlt)⟩
        obtain ⟨b, o, ha, hlb, c0, c1, c2, hi⟩ := (W0.out.grow S4.out.bel).at hx
        have HX : Hid (l1[k]? = some x) := hx
        obtain ⟨xa, xc, xd⟩ := x
        dsimp only at c0 c1 c2 hi
        clear hx hi
        rw [ha]
        cases xd with
        | true =>
          go_wp2_with fail
          refine (CWK.out wr).mono ?_
          rintro e w5 ⟨rfl, hb5⟩
          have FIN : Hid (Below w.heap.size w w5) := (S4.out.grow hb5).bel
          clear hb5 S4 c0 c1 c2 hlb
          go_wp2_with fail
          go_ret
          exact ⟨rfl, FIN.out⟩
        | false =>
          by_cases t1 : xa < 24
          · go_wp2_with fail
            refine (CWK.out wr).mono ?_
            rintro e w5 ⟨rfl, hb5⟩
            have FIN : Hid (Below w.heap.size w w5) := (S4.out.grow hb5).bel
            clear hb5 S4 c0 c1 c2 hlb
            go_wp2_with fail
            go_ret
            exact ⟨rfl, FIN.out⟩
          · by_cases t2 : (59 : Int) < xa
            · go_wp2_with fail
              refine (CWK.out wr).mono ?_
              rintro e w5 ⟨rfl, hb5⟩
              have FIN : Hid (Below w.heap.size w w5) := (S4.out.grow hb5).bel
              clear hb5 S4 c0 c1 c2 hlb
              go_wp2_with fail
              go_ret
              exact ⟨rfl, FIN.out⟩
            · have HN : Hid (∀ x ∈ l1.take (k + 1), x.good 24) := good_step HX.out HG.out ⟨rfl, by show 24 ≤ xa; omega, by show xa ≤ 59; omega⟩
              go_wp2_with fail
              go_roundw
              case rel => exact ⟨k + 1, by omega, by go_num, HN, S4⟩
              case measure => simp [intOf]; omega
      · have j0 : ¬ (k : Int) < (len1 : Int) := by omega
        rw [List.take_of_length_le (by rw [HL.out]; omega)] at HG
        obtain ⟨D1, D3, D4, S1, q1, q2, f1, f2, q3, f3, q4, f4, hn4, q5⟩ := back16 a0 (by rw [HL.out]; exact hl23) HG.out E hE l3
        rw [HL.out] at q3 q5
        have CK2 : Hid (∀ u, Calls Tryz.prog 16 #[.int .u8 2] u (KeysC u 2)) := fun u => lKey13 u 2 (by omega)
        have CW : Hid (∀ (u : World) (U F V : Nat → Prop) (d r s : Nat) (M : SeaM) (ak a : Option Addr) (ck n c : Nat), Bth U F V u d r s (DskS.new PowS.new 60) (SeaS.new a0) M → BA (fun j => ¬ V j) u ak 32 ck (keyC 2) → Imgs (Out U V) u a n c (imgL l1) → Calls Tryz.prog 17 #[.pointer (some ⟨d, 0, none⟩), .pointer (some ⟨s, 0, none⟩), .slice ak 32 ck, .int .i64 (E : Int), .slice a n c] u (WrtP U F V u d r s D1 S1 M 0)) := fun u U F V d r s M ak a ck n c h1 h2 h3 => by
          have := oWrite16 u h1 (DskS.fit_new (n := 60) (by omega)) (by omega) (by show 0 + 0 + 3 ≤ 1000000; omega) h2 (E : Int) (by omega) h3 fun j hj => hj
          rw [q1, q2] at this
          exact this
        have CR : Hid (∀ (u : World) (U F V : Nat → Prop) (d r s : Nat) (M : SeaM) (ak : Option Addr) (ck : Nat), Bth U F V u d r s (D1.crash l3) S1 M → BA (Out U V) u ak 32 ck (keyC 2) → Calls Tryz.prog 24 #[.pointer (some ⟨d, 0, none⟩), .pointer (some ⟨s, 0, none⟩), .slice ak 32 ck, .int .i64 (E : Int), .int .i64 (len1 : Int)] u (RedP U F V u d r s (D3, imgL l1, 0) (redS (D1.crash l3) S1 (keyC 2) (E : Int) (len1 : Int)) M)) := fun u U F V d r s M ak ck h1 h2 => by
          have := oRead16 u h1 f2 (by omega) h2 (E : Int) (len1 : Int) (by omega) (by constructor <;> omega)
          rw [q3] at this
          exact this
        have CA : Hid (∀ (u : World) (U F V : Nat → Prop) (d r : Nat) (a : Option Addr) (n c : Nat), Dk U F u d r D3 → Imgs (Out U V) u a n c (imgL l1) → Calls Tryz.prog 27 #[.pointer (some ⟨d, 0, none⟩), .slice a n c] u fun e w' => e = .returned (.int .i64 0) ∧ Dks U F u d r D4 w') := fun u U F V d r a n c h1 h2 => by
          have h3 : n ≤ 23 := by rw [← Sl.len h2, imgL_length, HL.out]; exact hl23
          have := oApply16 u h1 f3 h2 (fun j hj hF => hj.1 (h1.sub j hF)) (by omega)
          rw [q4] at this
          exact this
        have CC : Hid (∀ (u : World) (U F : Nat → Prop) (d r : Nat), Dk U F u d r D1 → BoA (fun j => ¬ F j) u a3 len3 cap3 l3 → Calls Tryz.prog 18 #[.pointer (some ⟨d, 0, none⟩), .slice a3 len3 cap3] u fun e w' => e = .returned (.tuple #[]) ∧ Dks U F u d r (D1.crash l3) w') := fun u U F d r h1 h2 => oDCrash u h1 f1 (by omega) h2 hl60
        have F4 : Hid (D4.fit 225 ∧ D4.n = 60) := ⟨f4, hn4⟩
        have Q5 : Hid (∀ (j : Nat) (y : Chg), (imgL l1)[j]? = some y → last16 (imgL l1) j len1 = true → D4.look y.1 = y.2) := q5
        have HGI : Hid (∀ c ∈ imgL l1, 0 ≤ c.1 ∧ c.1 < 60) := fun c hc => by
          obtain ⟨x, hx, rfl⟩ := List.mem_map.1 hc
          have := HG.out x hx
          exact ⟨by show 0 ≤ x.at_; omega, by show x.at_ < 60; omega⟩
        have HIL : Hid ((imgL l1).length = len1) := by show _ = _; rw [imgL_length]; exact HL.out
        clear q1 q2 q3 q4 q5 f1 f2 f3 f4 hn4
        go_wp2_with fail
        refine (lImages wr (W0.out.grow S4.out.bel) (by omega)).mono ?_
        rintro e w7 ⟨a7, n7, c7, rfl, hI7, hb7⟩
        have S7 : Hid (StaB w w7 U F V d r s (DskS.new PowS.new 60) (SeaS.new a0) M) := S4.out.grow hb7
        have I7 : Hid (Imgs (Out U V) w7 a7 n7 c7 (imgL l1)) := hI7.mono fun j _ hj => S4.out.lt j hj
        have ln7 : n7 = len1 := by rw [← Sl.len hI7]; exact HIL.out
        subst ln7
        clear S4 hI7 hb7
        go_wp2_with fail
        refine (CK2.out w7).mono ?_
        rintro e w8 ⟨g8, rfl, _, o8, hb8⟩
        have S8 : Hid (StaB w w8 U F V d r s (DskS.new PowS.new 60) (SeaS.new a0) M) := S7.out.grow hb8
        have I8 : Hid (Imgs (Out U V) w8 a7 n7 c7 (imgL l1)) := I7.out.grow hb8
        have K8 : Hid (BA (fun j => ¬ V j) w8 (some ⟨g8, 0, none⟩) 32 32 (keyC 2)) := o8.ba.mono fun j _ hj => (S7.out.lt j hj).2
        clear S7 I7 o8 hb8
        go_wp2_with fail
        refine (CW.out w8 U F V d r s M _ _ _ _ _ S8.out.b K8.out I8.out).mono ?_
        rintro e w9 ⟨U9, F9, rfl, hB9, nU9, nF9, hk9⟩
        have S9 : Hid (StaB w w9 U9 F9 V d r s D1 S1 M) := S8.out.after hB9 nU9 hk9
        have I9 : Hid (Imgs (Out U9 V) w9 a7 n7 c7 (imgL l1)) := I8.out.after hk9 S8.out.b.dk.sub nU9
        clear S8 I8 K8 hB9 nU9 nF9 hk9 CW
        go_wp2_with fail
        refine (CC.out w9 _ _ d r S9.out.b.dk (S9.out.bo W3.out)).mono ?_
        rintro e w10 ⟨rfl, U10, F10, hd10, nU10, nF10, hk10⟩
        have S10 : Hid (StaB w w10 U10 F10 V d r s (D1.crash l3) S1 M) := S9.out.disk hd10 nU10 hk10
        have I10 : Hid (Imgs (Out U10 V) w10 a7 n7 c7 (imgL l1)) := I9.out.after (hk10.mono fun j _ hj => Or.inl hj) S9.out.b.dk.sub nU10
        clear S9 I9 hd10 nU10 nF10 hk10 CC
        go_wp2_with fail
        refine (CK2.out w10).mono ?_
        rintro e w11 ⟨g11, rfl, _, o11, hb11⟩
        have S11 : Hid (StaB w w11 U10 F10 V d r s (D1.crash l3) S1 M) := S10.out.grow hb11
        have I11 : Hid (Imgs (Out U10 V) w11 a7 n7 c7 (imgL l1)) := I10.out.grow hb11
        have K11 : Hid (BA (Out U10 V) w11 (some ⟨g11, 0, none⟩) 32 32 (keyC 2)) := o11.ba.mono fun j _ hj => S10.out.lt j hj
        clear S10 I10 o11 hb11 CK2
        go_wp2_with fail
        refine (CR.out w11 U10 F10 V d r s M _ _ S11.out.b K11.out).mono ?_
        rintro e w12 ⟨a12, n12, c12, U12, F12, rfl, hB12, nU12, nF12, hk12, hI12⟩
        have S12 : Hid (StaB w w12 U12 F12 V d r s D3 (redS (D1.crash l3) S1 (keyC 2) (E : Int) (n7 : Int)) M) := S11.out.after hB12 nU12 hk12
        have I12 : Hid (Imgs (Out U12 V) w12 a7 n7 c7 (imgL l1)) := I11.out.after hk12 S11.out.b.dk.sub nU12
        have J12 : Hid (Imgs (Out U12 V) w12 a12 n12 c12 (imgL l1)) := hI12.mono fun j _ hj => ⟨hj.1, (S11.out.lt j hj.2).2⟩
        have ln12 : n12 ≤ 1000000 := by rw [← Sl.len hI12]; show (imgL l1).length ≤ _; rw [HIL.out]; omega
        clear S11 I11 K11 hB12 nU12 nF12 hk12 hI12 CR
        obtain ⟨S2, hS2⟩ : ∃ S2, S2 = redS (D1.crash l3) S1 (keyC 2) (E : Int) (n7 : Int) := ⟨_, rfl⟩
        rw [← hS2] at S12
        clear hS2
        dsimp only
        go_wp2_with fail
        refine (rSame16 w12 J12.out I12.out ln12 (by omega)).mono ?_
        rintro e w13 ⟨rfl, hb13⟩
        rw [decide_eq_true (rfl : imgL l1 = imgL l1)]
        have S13 : Hid (StaB w w13 U12 F12 V d r s D3 S2 M) := S12.out.grow hb13
        have I13 : Hid (Imgs (Out U12 V) w13 a7 n7 c7 (imgL l1)) := I12.out.grow hb13
        have J13 : Hid (Imgs (Out U12 V) w13 a12 n12 c12 (imgL l1)) := J12.out.grow hb13
        clear S12 I12 J12 hb13
        go_wp2_with fail
        refine (CA.out w13 _ _ V d r _ _ _ S13.out.b.dk J13.out).mono ?_
        rintro e w14 ⟨rfl, U14, F14, hd14, nU14, nF14, hk14⟩
        have S14 : Hid (StaB w w14 U14 F14 V d r s D4 S2 M) := S13.out.disk hd14 nU14 hk14
        have I14 : Hid (Imgs (Out U14 V) w14 a7 n7 c7 (imgL l1)) := I13.out.after (hk14.mono fun j _ hj => Or.inl hj) S13.out.b.dk.sub nU14
        clear S13 I13 J13 hd14 nU14 nF14 hk14 CA
        go_wp2_with fail
        rename World => wz
        obtain ⟨L, hL⟩ : ∃ L, L = imgL l1 := ⟨_, rfl⟩
        rw [← hL] at I14 Q5 HGI HIL
        clear hL HG
        go_loopw [17] (fun iv wr => ∃ i : Nat, i ≤ n7 ∧ iv = .int .i64 (i : Int) ∧ Hid (StaB w wr U14 F14 V d r s D4 S2 M) ∧ Hid (Imgs (Out U14 V) wr a7 n7 c7 L)) (fun iv _ => n7 - (intOf iv).toNat)
        case atStart => exact ⟨0, Nat.zero_le _, rfl, S14, I14⟩
        case round =>
          obtain ⟨i, hi, rfl, S15, I15⟩ := hrel
          clear S14 I14
          by_cases hlt : i < n7
          · have j1 : (i : Int) < (n7 : Int) := by omega
            obtain ⟨y, hy⟩ : ∃ y, L[i]? = some y := ⟨_, List.getElem?_eq_getElem (by rw [HIL.out]; exact hlt)⟩
            have HY : Hid (L[i]? = some y) := hy
            obtain ⟨xi, xb⟩ := y
            clear hy
            rename World => wo
            go_wp2_with fail
            go_loopw [18, 19] (fun lb kk wr => ∃ (k : Nat) (lbv : Bool), i + 1 ≤ k ∧ k ≤ n7 ∧ kk = .int .i64 (k : Int) ∧ lb = .bool lbv ∧ Hid (lbv = last16 L i k) ∧ Hid (StaB w wr U14 F14 V d r s D4 S2 M) ∧ Hid (Imgs (Out U14 V) wr a7 n7 c7 L)) (fun _ kk _ => n7 - (intOf kk).toNat)
            case atStart => exact ⟨i + 1, true, Nat.le_refl _, by omega, by go_num, rfl, (last16_start L i).symm, S15, I15⟩
            case round =>
              obtain ⟨k, lbv, hk1, hk2, rfl, rfl, HLB, S16, I16⟩ := hrel
              clear S15 I15
              obtain ⟨b, o, xp, xm, xq, ha, hlb, x0, x1, hxb⟩ := I16.out.two HY.out
              dsimp only at x0 x1 hxb
              subst ha
              have XI : ∀ u, Grows wr u → u.cell? ⟨b, o + i * 2, none⟩ = some (.int .i64 xi) := fun u h => (Below.cell h (p := ⟨b, o + i * 2, none⟩) hlb).trans x0
              have XB : ∀ u, Grows wr u → u.cell? ⟨b, o + i * 2 + 1, none⟩ = some (.slice xp xm xq) := fun u h => (Below.cell h (p := ⟨b, o + i * 2 + 1, none⟩) hlb).trans x1
              have XS : Hid (∀ u, Grows wr u → Bs u xp xm xq xb) := fun u h => hxb.below h (Nat.le_refl _)
              clear x0 x1 hxb
              by_cases hkt : k < n7
              · have j2 : (k : Int) < (n7 : Int) := by omega
                have i3 : (0 : Int) ≤ (k : Int) := by omega
                have i4 : (0 : Int) ≤ (i : Int) := by omega
                obtain ⟨z, hz⟩ : ∃ z, L[k]? = some z := ⟨_, List.getElem?_eq_getElem (by rw [HIL.out]; exact hkt)⟩
                obtain ⟨b2, o2, yp, ym, yq, ha2, hlb2, y0, y1, _⟩ := I16.out.two hz
                obtain ⟨rfl, rfl⟩ : b = b2 ∧ o = o2 := by simpa using ha2
                have HSTEP : Hid (last16 L i (k + 1) = (last16 L i k && (z.1 != xi))) := last16_step hz HY.out (by omega)
                obtain ⟨xk, xkb⟩ := z
                dsimp only at y0 y1 HSTEP
                have XK : ∀ u, Grows wr u → u.cell? ⟨b, o + k * 2, none⟩ = some (.int .i64 xk) := fun u h => (Below.cell h (p := ⟨b, o + k * 2, none⟩) hlb).trans y0
                clear y0 y1 hz ha2 hlb2
                cases lbv with
                | true =>
                  obtain ⟨nb, hnb⟩ : ∃ nb : Bool, (xk != xi) = nb := ⟨_, rfl⟩
                  have HNB : Hid (nb = last16 L i (k + 1)) := by show _ = _; rw [HSTEP.out, ← HLB.out, hnb]; rfl
                  clear HSTEP
                  go_wp2_with fail
                  refine regionG (S := Grows wr) (by kernel_rfl) (Below.refl _ wr).drew ?_
                  refine takeG 0 (some 127) (.bool true) rfl rfl (by kernel_rfl) (by kernel_rfl) (by kernel_rfl) (fun _ _ _ h => h) (ans_plain (by rfl) (fun w _ => rfl)) ?_
                  simp only [Act.put, List.setIfInBounds_toArray, List.set_cons_zero, List.set_cons_succ]
                  refine takeG 1 (some 128) (.bool true) rfl rfl (by kernel_rfl) (by kernel_rfl) (by kernel_rfl) (fun _ _ _ h => h) (ans_plain (by rfl) (fun w _ => rfl)) ?_
                  simp only [Act.put, List.setIfInBounds_toArray, List.set_cons_zero, List.set_cons_succ]
                  refine takeG 2 (some 129) (.slice (some ⟨b, o, none⟩) n7 c7) rfl rfl (by kernel_rfl) (by kernel_rfl) (by kernel_rfl) (fun _ _ _ h => h) (ans_plain (by rfl) (fun w _ => rfl)) ?_
                  simp only [Act.put, List.setIfInBounds_toArray, List.set_cons_zero, List.set_cons_succ]
                  refine takeG 3 (some 130) (.int .i64 (k : Int)) rfl rfl (by kernel_rfl) (by kernel_rfl) (by kernel_rfl) (fun _ _ _ h => h) (ans_plain (by rfl) (fun w _ => rfl)) ?_
                  simp only [Act.put, List.setIfInBounds_toArray, List.set_cons_zero, List.set_cons_succ]
                  refine takeG 4 (some 131) (.pointer (some ⟨b, o + k * 2, none⟩)) rfl rfl (by kernel_rfl) (by kernel_rfl) (by kernel_rfl) (fun _ _ _ h => h) (ans_plain (by rfl) (fun w _ => by unfold execOp; go_simp)) ?_
                  simp only [Act.put, List.setIfInBounds_toArray, List.set_cons_zero, List.set_cons_succ]
                  refine takeG 5 (some 132) (.pointer (some ⟨b, o + k * 2, none⟩)) rfl rfl (by kernel_rfl) (by kernel_rfl) (by kernel_rfl) (fun _ _ _ h => h) (ans_plain (by rfl) (fun w _ => by unfold execOp; go_simp)) ?_
                  simp only [Act.put, List.setIfInBounds_toArray, List.set_cons_zero, List.set_cons_succ]
                  refine takeG 6 (some 133) (.int .i64 xk) rfl rfl (by kernel_rfl) (by kernel_rfl) (by kernel_rfl) (fun _ _ _ h => h) (ans_plain (by rfl) (fun w h => by have hc := XK w h; unfold execOp; go_simp)) ?_
                  simp only [Act.put, List.setIfInBounds_toArray, List.set_cons_zero, List.set_cons_succ]
                  refine takeG 7 (some 134) (.slice (some ⟨b, o, none⟩) n7 c7) rfl rfl (by kernel_rfl) (by kernel_rfl) (by kernel_rfl) (fun _ _ _ h => h) (ans_plain (by rfl) (fun w _ => rfl)) ?_
                  simp only [Act.put, List.setIfInBounds_toArray, List.set_cons_zero, List.set_cons_succ]
                  refine takeG 8 (some 135) (.int .i64 (i : Int)) rfl rfl (by kernel_rfl) (by kernel_rfl) (by kernel_rfl) (fun _ _ _ h => h) (ans_plain (by rfl) (fun w _ => rfl)) ?_
                  simp only [Act.put, List.setIfInBounds_toArray, List.set_cons_zero, List.set_cons_succ]
                  refine takeG 9 (some 136) (.pointer (some ⟨b, o + i * 2, none⟩)) rfl rfl (by kernel_rfl) (by kernel_rfl) (by kernel_rfl) (fun _ _ _ h => h) (ans_plain (by rfl) (fun w _ => by unfold execOp; go_simp)) ?_
                  simp only [Act.put, List.setIfInBounds_toArray, List.set_cons_zero, List.set_cons_succ]
                  refine takeG 10 (some 137) (.pointer (some ⟨b, o + i * 2, none⟩)) rfl rfl (by kernel_rfl) (by kernel_rfl) (by kernel_rfl) (fun _ _ _ h => h) (ans_plain (by rfl) (fun w _ => by unfold execOp; go_simp)) ?_
                  simp only [Act.put, List.setIfInBounds_toArray, List.set_cons_zero, List.set_cons_succ]
                  refine takeG 11 (some 138) (.int .i64 xi) rfl rfl (by kernel_rfl) (by kernel_rfl) (by kernel_rfl) (fun _ _ _ h => h) (ans_plain (by rfl) (fun w h => by have hc := XI w h; unfold execOp; go_simp)) ?_
                  simp only [Act.put, List.setIfInBounds_toArray, List.set_cons_zero, List.set_cons_succ]
                  refine takeG 12 (some 139) (.bool nb) rfl rfl (by kernel_rfl) (by kernel_rfl) (by kernel_rfl) (fun _ _ _ h => h) (ans_plain (by rfl) (fun w _ => by unfold execOp; go_simp)) ?_
                  simp only [Act.put, List.setIfInBounds_toArray, List.set_cons_zero, List.set_cons_succ]
                  refine takeG 13 (some 140) (.bool nb) rfl rfl (by kernel_rfl) (by kernel_rfl) (by kernel_rfl) (fun _ _ _ h => h) (ans_plain (by rfl) (fun w _ => by unfold execOp; go_simp)) ?_
                  simp only [Act.put, List.setIfInBounds_toArray, List.set_cons_zero, List.set_cons_succ]
                  refine takeG 14 (some 18) (.bool nb) rfl rfl (by kernel_rfl) (by kernel_rfl) (by kernel_rfl) (fun _ _ _ h => h) (ans_plain (by rfl) (fun w _ => rfl)) ?_
                  simp only [Act.put, List.setIfInBounds_toArray, List.set_cons_zero, List.set_cons_succ]
                  refine doneG (by kernel_rfl) fun u5 hg_u5 hs_u5 => ?_
                  have S17 : Hid (StaB w u5 U14 F14 V d r s D4 S2 M) := S16.out.grow hs_u5
                  have I17 : Hid (Imgs (Out U14 V) u5 (some ⟨b, o, none⟩) n7 c7 L) := I16.out.grow hs_u5
                  clear XI XB XK XS S16 I16 hs_u5 hg_u5 hlb hnb
                  go_wp2_with fail
                  go_roundw
                  case rel => exact ⟨k + 1, nb, by omega, by omega, by go_num, rfl, HNB, S17, I17⟩
                  case measure => simp [intOf]; omega
                | false =>
                  have HNB : Hid (false = last16 L i (k + 1)) := by show _ = _; rw [HSTEP.out, ← HLB.out]; rfl
                  clear HSTEP
                  go_wp2_with fail
                  refine regionG (S := Grows wr) (by kernel_rfl) (Below.refl _ wr).drew ?_
                  refine takeG 0 (some 127) (.bool false) rfl rfl (by kernel_rfl) (by kernel_rfl) (by kernel_rfl) (fun _ _ _ h => h) (ans_plain (by rfl) (fun w _ => rfl)) ?_
                  simp only [Act.put, List.setIfInBounds_toArray, List.set_cons_zero, List.set_cons_succ]
                  refine takeG 1 (some 128) (.bool false) rfl rfl (by kernel_rfl) (by kernel_rfl) (by kernel_rfl) (fun _ _ _ h => h) (ans_plain (by rfl) (fun w _ => rfl)) ?_
                  simp only [Act.put, List.setIfInBounds_toArray, List.set_cons_zero, List.set_cons_succ]
                  refine takeG 2 (some 129) (undef) rfl rfl (by kernel_rfl) (by kernel_rfl) (by kernel_rfl) (fun _ _ _ h => h) (Or.inr ⟨by rfl, rfl⟩) ?_
                  simp only [Act.put, List.setIfInBounds_toArray, List.set_cons_zero, List.set_cons_succ]
                  refine takeG 3 (some 130) (undef) rfl rfl (by kernel_rfl) (by kernel_rfl) (by kernel_rfl) (fun _ _ _ h => h) (Or.inr ⟨by rfl, rfl⟩) ?_
                  simp only [Act.put, List.setIfInBounds_toArray, List.set_cons_zero, List.set_cons_succ]
                  refine takeG 4 (some 131) (undef) rfl rfl (by kernel_rfl) (by kernel_rfl) (by kernel_rfl) (fun _ _ _ h => h) (Or.inr ⟨by rfl, rfl⟩) ?_
                  simp only [Act.put, List.setIfInBounds_toArray, List.set_cons_zero, List.set_cons_succ]
                  refine takeG 5 (some 132) (undef) rfl rfl (by kernel_rfl) (by kernel_rfl) (by kernel_rfl) (fun _ _ _ h => h) (Or.inr ⟨by rfl, rfl⟩) ?_
                  simp only [Act.put, List.setIfInBounds_toArray, List.set_cons_zero, List.set_cons_succ]
                  refine takeG 6 (some 133) (undef) rfl rfl (by kernel_rfl) (by kernel_rfl) (by kernel_rfl) (fun _ _ _ h => h) (Or.inr ⟨by rfl, rfl⟩) ?_
                  simp only [Act.put, List.setIfInBounds_toArray, List.set_cons_zero, List.set_cons_succ]
                  refine takeG 7 (some 134) (undef) rfl rfl (by kernel_rfl) (by kernel_rfl) (by kernel_rfl) (fun _ _ _ h => h) (Or.inr ⟨by rfl, rfl⟩) ?_
                  simp only [Act.put, List.setIfInBounds_toArray, List.set_cons_zero, List.set_cons_succ]
                  refine takeG 8 (some 135) (undef) rfl rfl (by kernel_rfl) (by kernel_rfl) (by kernel_rfl) (fun _ _ _ h => h) (Or.inr ⟨by rfl, rfl⟩) ?_
                  simp only [Act.put, List.setIfInBounds_toArray, List.set_cons_zero, List.set_cons_succ]
                  refine takeG 9 (some 136) (undef) rfl rfl (by kernel_rfl) (by kernel_rfl) (by kernel_rfl) (fun _ _ _ h => h) (Or.inr ⟨by rfl, rfl⟩) ?_
                  simp only [Act.put, List.setIfInBounds_toArray, List.set_cons_zero, List.set_cons_succ]
                  refine takeG 10 (some 137) (undef) rfl rfl (by kernel_rfl) (by kernel_rfl) (by kernel_rfl) (fun _ _ _ h => h) (Or.inr ⟨by rfl, rfl⟩) ?_
                  simp only [Act.put, List.setIfInBounds_toArray, List.set_cons_zero, List.set_cons_succ]
                  refine takeG 11 (some 138) (undef) rfl rfl (by kernel_rfl) (by kernel_rfl) (by kernel_rfl) (fun _ _ _ h => h) (Or.inr ⟨by rfl, rfl⟩) ?_
                  simp only [Act.put, List.setIfInBounds_toArray, List.set_cons_zero, List.set_cons_succ]
                  refine takeG 12 (some 139) (undef) rfl rfl (by kernel_rfl) (by kernel_rfl) (by kernel_rfl) (fun _ _ _ h => h) (Or.inr ⟨by rfl, rfl⟩) ?_
                  simp only [Act.put, List.setIfInBounds_toArray, List.set_cons_zero, List.set_cons_succ]
                  refine takeG 13 (some 140) (.bool false) rfl rfl (by kernel_rfl) (by kernel_rfl) (by kernel_rfl) (fun _ _ _ h => h) (ans_plain (by rfl) (fun w _ => by unfold execOp; go_simp)) ?_
                  simp only [Act.put, List.setIfInBounds_toArray, List.set_cons_zero, List.set_cons_succ]
                  refine takeG 14 (some 18) (.bool false) rfl rfl (by kernel_rfl) (by kernel_rfl) (by kernel_rfl) (fun _ _ _ h => h) (ans_plain (by rfl) (fun w _ => rfl)) ?_
                  simp only [Act.put, List.setIfInBounds_toArray, List.set_cons_zero, List.set_cons_succ]
                  refine doneG (by kernel_rfl) fun u5 hg_u5 hs_u5 => ?_
                  have S17 : Hid (StaB w u5 U14 F14 V d r s D4 S2 M) := S16.out.grow hs_u5
                  have I17 : Hid (Imgs (Out U14 V) u5 (some ⟨b, o, none⟩) n7 c7 L) := I16.out.grow hs_u5
                  clear XI XB XK XS S16 I16 hs_u5 hg_u5 hlb
                  go_wp2_with fail
                  go_roundw
                  case rel => exact ⟨k + 1, false, by omega, by omega, by go_num, rfl, HNB, S17, I17⟩
                  case measure => simp [intOf]; omega
              · have j2 : ¬ (k : Int) < (n7 : Int) := by omega
                have i4 : (0 : Int) ≤ (i : Int) := by omega
                obtain rfl : k = n7 := by omega
                cases lbv with
                | true =>
                  have HLK : Hid (D4.look xi = xb) := Q5.out i (xi, xb) HY.out HLB.out.symm
                  have hin := HGI.out (xi, xb) (List.mem_of_getElem? HY.out)
                  dsimp only at hin
                  have CL : Hid (∀ u, Grows wr u → Calls Tryz.prog 30 #[.pointer (some ⟨d, 0, none⟩), .int .i64 xi] u fun e w' => ∃ p m c, e = .returned (.slice p m c) ∧ Bs w' p m c xb ∧ Below u.heap.size u w') := fun u hu => (oDLook u (S16.out.b.dk.grows hu) F4.out.1 (by omega) xi (by rw [F4.out.2]; exact hin)).mono (by
                    rintro e w' ⟨p, m, c, rfl, hb, hB⟩
                    rw [HLK.out] at hb
                    exact ⟨p, m, c, rfl, hb.1, hB⟩)
                  clear hin HLK
                  go_wp2_with fail
                  refine regionG (S := Grows wr) (by kernel_rfl) (Below.refl _ wr).drew ?_
                  refine takeG 0 (some 141) (.bool true) rfl rfl (by kernel_rfl) (by kernel_rfl) (by kernel_rfl) (fun _ _ _ h => h) (ans_plain (by rfl) (fun w _ => rfl)) ?_
                  simp only [Act.put, List.setIfInBounds_toArray, List.set_cons_zero, List.set_cons_succ]
                  refine takeG 1 (some 142) (.bool true) rfl rfl (by kernel_rfl) (by kernel_rfl) (by kernel_rfl) (fun _ _ _ h => h) (ans_plain (by rfl) (fun w _ => rfl)) ?_
                  simp only [Act.put, List.setIfInBounds_toArray, List.set_cons_zero, List.set_cons_succ]
                  refine takeG 2 (some 143) (.pointer (some ⟨d, 0, none⟩)) rfl rfl (by kernel_rfl) (by kernel_rfl) (by kernel_rfl) (fun _ _ _ h => h) (ans_plain (by rfl) (fun w _ => rfl)) ?_
                  simp only [Act.put, List.setIfInBounds_toArray, List.set_cons_zero, List.set_cons_succ]
                  refine takeG 3 (some 144) (.slice (some ⟨b, o, none⟩) k c7) rfl rfl (by kernel_rfl) (by kernel_rfl) (by kernel_rfl) (fun _ _ _ h => h) (ans_plain (by rfl) (fun w _ => rfl)) ?_
                  simp only [Act.put, List.setIfInBounds_toArray, List.set_cons_zero, List.set_cons_succ]
                  refine takeG 4 (some 145) (.int .i64 (i : Int)) rfl rfl (by kernel_rfl) (by kernel_rfl) (by kernel_rfl) (fun _ _ _ h => h) (ans_plain (by rfl) (fun w _ => rfl)) ?_
                  simp only [Act.put, List.setIfInBounds_toArray, List.set_cons_zero, List.set_cons_succ]
                  refine takeG 5 (some 146) (.pointer (some ⟨b, o + i * 2, none⟩)) rfl rfl (by kernel_rfl) (by kernel_rfl) (by kernel_rfl) (fun _ _ _ h => h) (ans_plain (by rfl) (fun w _ => by unfold execOp; go_simp)) ?_
                  simp only [Act.put, List.setIfInBounds_toArray, List.set_cons_zero, List.set_cons_succ]
                  refine takeG 6 (some 147) (.pointer (some ⟨b, o + i * 2, none⟩)) rfl rfl (by kernel_rfl) (by kernel_rfl) (by kernel_rfl) (fun _ _ _ h => h) (ans_plain (by rfl) (fun w _ => by unfold execOp; go_simp)) ?_
                  simp only [Act.put, List.setIfInBounds_toArray, List.set_cons_zero, List.set_cons_succ]
                  refine takeG 7 (some 148) (.int .i64 xi) rfl rfl (by kernel_rfl) (by kernel_rfl) (by kernel_rfl) (fun _ _ _ h => h) (ans_plain (by rfl) (fun w h => by have hc := XI w h; unfold execOp; go_simp)) ?_
                  simp only [Act.put, List.setIfInBounds_toArray, List.set_cons_zero, List.set_cons_succ]
                  refine takeG 9 (some 150) (.slice (some ⟨b, o, none⟩) k c7) rfl rfl (by kernel_rfl) (by kernel_rfl) (by kernel_rfl) (fun _ _ _ h => h) (ans_plain (by rfl) (fun w _ => rfl)) ?_
                  simp only [Act.put, List.setIfInBounds_toArray, List.set_cons_zero, List.set_cons_succ]
                  refine takeG 10 (some 151) (.int .i64 (i : Int)) rfl rfl (by kernel_rfl) (by kernel_rfl) (by kernel_rfl) (fun _ _ _ h => h) (ans_plain (by rfl) (fun w _ => rfl)) ?_
                  simp only [Act.put, List.setIfInBounds_toArray, List.set_cons_zero, List.set_cons_succ]
                  refine takeG 11 (some 152) (.pointer (some ⟨b, o + i * 2, none⟩)) rfl rfl (by kernel_rfl) (by kernel_rfl) (by kernel_rfl) (fun _ _ _ h => h) (ans_plain (by rfl) (fun w _ => by unfold execOp; go_simp)) ?_
                  simp only [Act.put, List.setIfInBounds_toArray, List.set_cons_zero, List.set_cons_succ]
                  refine takeG 12 (some 153) (.pointer (some ⟨b, o + i * 2 + 1, none⟩)) rfl rfl (by kernel_rfl) (by kernel_rfl) (by kernel_rfl) (fun _ _ _ h => h) (ans_plain (by rfl) (fun w _ => by unfold execOp; go_simp)) ?_
                  simp only [Act.put, List.setIfInBounds_toArray, List.set_cons_zero, List.set_cons_succ]
                  refine takeG 13 (some 154) (.slice xp xm xq) rfl rfl (by kernel_rfl) (by kernel_rfl) (by kernel_rfl) (fun _ _ _ h => h) (ans_plain (by rfl) (fun w h => by have hc := XB w h; unfold execOp; go_simp)) ?_
                  simp only [Act.put, List.setIfInBounds_toArray, List.set_cons_zero, List.set_cons_succ]
                  refine callG 8 (some 149) 30 #[.tmp 143, .tmp 148] #[31, 3] #[.pointer (some ⟨d, 0, none⟩), .int .i64 xi] rfl rfl rfl (by rfl) (by rfl) (by kernel_rfl) Tryz.call30 fun u1 hg1 hs1 => ?_
                  refine (CL.out u1 hs1).mono ?_
                  rintro e u2 ⟨lp, lm, lc, rfl, hlk, hG2⟩
                  have hs2 : Grows wr u2 := Grows.trans hs1 hG2
                  refine ⟨_, rfl, hs2, ?_⟩
                  simp only [Act.put, List.setIfInBounds_toArray, List.set_cons_zero, List.set_cons_succ]
                  refine callG 14 (some 155) 29 #[.tmp 149, .tmp 154] #[26, 26] #[.slice lp lm lc, .slice xp xm xq] rfl rfl rfl (by rfl) (by rfl) (by kernel_rfl) Tryz.call29 fun u3 hg3 hs3 => ?_
                  refine (rSame u3 (hlk.below hg3 (Nat.le_refl _)) (XS.out u3 hs3)).mono ?_
                  rintro e u4 ⟨rfl, kd, rfl⟩
                  rw [decide_eq_true (rfl : xb = xb)]
                  have hs4 : Grows wr (u3.drewN kd) := Grows.trans hs3 (below_drewN' u3 kd)
                  refine ⟨_, rfl, hs4, ?_⟩
                  simp only [Act.put, List.setIfInBounds_toArray, List.set_cons_zero, List.set_cons_succ]
                  refine takeG 15 (some 156) (.bool false) rfl rfl (by kernel_rfl) (by kernel_rfl) (by kernel_rfl) (fun _ _ _ h => h) (ans_plain (by rfl) (fun w _ => by unfold execOp; go_simp)) ?_
                  simp only [Act.put, List.setIfInBounds_toArray, List.set_cons_zero, List.set_cons_succ]
                  refine takeG 16 (some 157) (.bool false) rfl rfl (by kernel_rfl) (by kernel_rfl) (by kernel_rfl) (fun _ _ _ h => h) (ans_plain (by rfl) (fun w _ => by unfold execOp; go_simp)) ?_
                  simp only [Act.put, List.setIfInBounds_toArray, List.set_cons_zero, List.set_cons_succ]
                  refine doneG (by kernel_rfl) fun u5 hg_u5 hs_u5 => ?_
                  have S17 : Hid (StaB w u5 U14 F14 V d r s D4 S2 M) := S16.out.grow hs_u5
                  have I17 : Hid (Imgs (Out U14 V) u5 (some ⟨b, o, none⟩) k c7 L) := I16.out.grow hs_u5
                  clear XI XB XS S16 I16 hs_u5 hg_u5 hlb CL hs1 hg1 hG2 hs2 hlk hs3 hg3 hs4
                  go_wp2_with fail
                  go_roundw
                  case rel => exact ⟨i + 1, by omega, by go_num, S17, I17⟩
                  case measure => simp [intOf]; omega
                | false =>
                  go_wp2_with fail
                  refine regionG (S := Grows wr) (by kernel_rfl) (Below.refl _ wr).drew ?_
                  refine takeG 0 (some 141) (.bool false) rfl rfl (by kernel_rfl) (by kernel_rfl) (by kernel_rfl) (fun _ _ _ h => h) (ans_plain (by rfl) (fun w _ => rfl)) ?_
                  simp only [Act.put, List.setIfInBounds_toArray, List.set_cons_zero, List.set_cons_succ]
                  refine takeG 1 (some 142) (.bool false) rfl rfl (by kernel_rfl) (by kernel_rfl) (by kernel_rfl) (fun _ _ _ h => h) (ans_plain (by rfl) (fun w _ => rfl)) ?_
                  simp only [Act.put, List.setIfInBounds_toArray, List.set_cons_zero, List.set_cons_succ]
                  refine takeG 2 (some 143) (undef) rfl rfl (by kernel_rfl) (by kernel_rfl) (by kernel_rfl) (fun _ _ _ h => h) (Or.inr ⟨by rfl, rfl⟩) ?_
                  simp only [Act.put, List.setIfInBounds_toArray, List.set_cons_zero, List.set_cons_succ]
                  refine takeG 3 (some 144) (undef) rfl rfl (by kernel_rfl) (by kernel_rfl) (by kernel_rfl) (fun _ _ _ h => h) (Or.inr ⟨by rfl, rfl⟩) ?_
                  simp only [Act.put, List.setIfInBounds_toArray, List.set_cons_zero, List.set_cons_succ]
                  refine takeG 4 (some 145) (undef) rfl rfl (by kernel_rfl) (by kernel_rfl) (by kernel_rfl) (fun _ _ _ h => h) (Or.inr ⟨by rfl, rfl⟩) ?_
                  simp only [Act.put, List.setIfInBounds_toArray, List.set_cons_zero, List.set_cons_succ]
                  refine takeG 5 (some 146) (undef) rfl rfl (by kernel_rfl) (by kernel_rfl) (by kernel_rfl) (fun _ _ _ h => h) (Or.inr ⟨by rfl, rfl⟩) ?_
                  simp only [Act.put, List.setIfInBounds_toArray, List.set_cons_zero, List.set_cons_succ]
                  refine takeG 6 (some 147) (undef) rfl rfl (by kernel_rfl) (by kernel_rfl) (by kernel_rfl) (fun _ _ _ h => h) (Or.inr ⟨by rfl, rfl⟩) ?_
                  simp only [Act.put, List.setIfInBounds_toArray, List.set_cons_zero, List.set_cons_succ]
                  refine takeG 7 (some 148) (undef) rfl rfl (by kernel_rfl) (by kernel_rfl) (by kernel_rfl) (fun _ _ _ h => h) (Or.inr ⟨by rfl, rfl⟩) ?_
                  simp only [Act.put, List.setIfInBounds_toArray, List.set_cons_zero, List.set_cons_succ]
                  refine takeG 8 (some 149) (undef) rfl rfl (by kernel_rfl) (by kernel_rfl) (by kernel_rfl) (fun _ _ _ h => h) (Or.inr ⟨by rfl, rfl⟩) ?_
                  simp only [Act.put, List.setIfInBounds_toArray, List.set_cons_zero, List.set_cons_succ]
                  refine takeG 9 (some 150) (undef) rfl rfl (by kernel_rfl) (by kernel_rfl) (by kernel_rfl) (fun _ _ _ h => h) (Or.inr ⟨by rfl, rfl⟩) ?_
                  simp only [Act.put, List.setIfInBounds_toArray, List.set_cons_zero, List.set_cons_succ]
                  refine takeG 10 (some 151) (undef) rfl rfl (by kernel_rfl) (by kernel_rfl) (by kernel_rfl) (fun _ _ _ h => h) (Or.inr ⟨by rfl, rfl⟩) ?_
                  simp only [Act.put, List.setIfInBounds_toArray, List.set_cons_zero, List.set_cons_succ]
                  refine takeG 11 (some 152) (undef) rfl rfl (by kernel_rfl) (by kernel_rfl) (by kernel_rfl) (fun _ _ _ h => h) (Or.inr ⟨by rfl, rfl⟩) ?_
                  simp only [Act.put, List.setIfInBounds_toArray, List.set_cons_zero, List.set_cons_succ]
                  refine takeG 12 (some 153) (undef) rfl rfl (by kernel_rfl) (by kernel_rfl) (by kernel_rfl) (fun _ _ _ h => h) (Or.inr ⟨by rfl, rfl⟩) ?_
                  simp only [Act.put, List.setIfInBounds_toArray, List.set_cons_zero, List.set_cons_succ]
                  refine takeG 13 (some 154) (undef) rfl rfl (by kernel_rfl) (by kernel_rfl) (by kernel_rfl) (fun _ _ _ h => h) (Or.inr ⟨by rfl, rfl⟩) ?_
                  simp only [Act.put, List.setIfInBounds_toArray, List.set_cons_zero, List.set_cons_succ]
                  refine takeG 14 (some 155) (undef) rfl rfl (by kernel_rfl) (by kernel_rfl) (by kernel_rfl) (fun _ _ _ h => h) (Or.inr ⟨by rfl, rfl⟩) ?_
                  simp only [Act.put, List.setIfInBounds_toArray, List.set_cons_zero, List.set_cons_succ]
                  refine takeG 15 (some 156) (undef) rfl rfl (by kernel_rfl) (by kernel_rfl) (by kernel_rfl) (fun _ _ _ h => h) (Or.inr ⟨by rfl, rfl⟩) ?_
                  simp only [Act.put, List.setIfInBounds_toArray, List.set_cons_zero, List.set_cons_succ]
                  refine takeG 16 (some 157) (.bool false) rfl rfl (by kernel_rfl) (by kernel_rfl) (by kernel_rfl) (fun _ _ _ h => h) (ans_plain (by rfl) (fun w _ => by unfold execOp; go_simp)) ?_
                  simp only [Act.put, List.setIfInBounds_toArray, List.set_cons_zero, List.set_cons_succ]
                  refine doneG (by kernel_rfl) fun u5 hg_u5 hs_u5 => ?_
                  have S17 : Hid (StaB w u5 U14 F14 V d r s D4 S2 M) := S16.out.grow hs_u5
                  have I17 : Hid (Imgs (Out U14 V) u5 (some ⟨b, o, none⟩) k c7 L) := I16.out.grow hs_u5
                  clear XI XB XS S16 I16 hs_u5 hg_u5 hlb
                  go_wp2_with fail
                  go_roundw
                  case rel => exact ⟨i + 1, by omega, by go_num, S17, I17⟩
                  case measure => simp [intOf]; omega
          · have j1 : ¬ (i : Int) < (n7 : Int) := by omega
            go_wp2_with fail
            refine (CWK.out wr).mono ?_
            rintro e w16 ⟨rfl, hb16⟩
            have FIN : Hid (Below w.heap.size w w16) := (S15.out.grow hb16).bel
            clear hb16 S15 I15
            go_wp2_with fail
            go_ret
            exact ⟨rfl, FIN.out⟩

set_option maxRecDepth 100000 in
theorem lifted (os : Os) (started : os.Started) (H : Type) (enc : TypeId × Value → H) :
    ReturnsInHanded {} Tryz.checked os 4 .any (Rows.redoBackSpec.pre6 enc Tryz.prog Tryz.f4 Rows.redoBackRow.domain false) (Rows.redoBackSpec.post enc Tryz.prog Tryz.f4 false true false false) := by
  refine returnsInHanded_of_change (C := Tryz.checked) own started (by kernel_rfl) Tryz.func4
    (ChangeSpec.witness6 (enc := enc) (C := Tryz.checked) false ⟨#[], #[.bool false, .slice none 0 0, .int .u32 0, .slice none 0 0], []⟩ 8 (by kernel_rfl) (by kernel_rfl) (by kernel_rfl) (by kernel_rfl)) ?_
  intro W base args ds gs before hval0 hW hcnd _
  have hval : ∀ (j : Nat) t v, Tryz.f4.params[j]? = some t → args[j]? = some v → Value.okWide Tryz.prog W .any base t v := hval0
  have hW' := hW
  obtain ⟨p, q, hA0, hV, rfl, hfz, hnd⟩ := hW
  have hA : DataW.TrodAll enc Tryz.prog W 0 (fun _ => true) true Tryz.f4.params.toList args.toList ds p := hA0
  rw [Tryz.params4] at hA hval
  obtain ⟨v0, vs0, d0, ds0, p0, q0, hargs, rfl, rfl, h0, r0⟩ := trodAll_cons hA
  obtain ⟨v1, vs1, d1, ds1, p1, q1, rfl, rfl, rfl, h1, r1⟩ := trodAll_cons r0
  obtain ⟨v2, vs2, d2, ds2, p2, q2, rfl, rfl, rfl, h2, r2⟩ := trodAll_cons r1
  obtain ⟨v3, vs3, d3, ds3, p3, q3, rfl, rfl, rfl, h3, r3⟩ := trodAll_cons r2
  obtain ⟨rfl, rfl, rfl⟩ := trodAll_nil r3
  obtain rfl : args = #[v0, v1, v2, v3] := by cases args; simp_all
  obtain ⟨rfl, rfl⟩ := trodVars_none hV
  obtain ⟨a0, rfl, rfl, rfl⟩ := open_bool Tryz.underlying4 (hval 0 4 v0 rfl rfl) h0
  obtain ⟨a1, len1, cap1, rfl⟩ := okWide_slice Tryz.underlying22 (hval 1 22 v1 rfl rfl)
  have k1 := h1
  have lt1 : ∀ x ∈ p1, x.block < W.heap.size := by obtain ⟨m, hm⟩ := k1; exact DataW.trod_lt m _ _ _ hm
  obtain ⟨l1, w1⟩ : ∃ l, Pags W a1 len1 cap1 l := by
    obtain ⟨fuel, hf⟩ := h1
    exact pags_of_trod hf
  obtain ⟨a2, rfl, rfl, rfl, w2⟩ := open_int Tryz.underlying75 (hval 2 75 v2 rfl rfl) h2
  obtain ⟨a3, len3, cap3, rfl⟩ := okWide_slice Tryz.underlying23 (hval 3 23 v3 rfl rfl)
  have k3 := h3
  have lt3 : ∀ x ∈ p3, x.block < W.heap.size := by obtain ⟨m, hm⟩ := k3; exact DataW.trod_lt m _ _ _ hm
  obtain ⟨l3, w3⟩ : ∃ l, BoW W a3 len3 cap3 l := by
    obtain ⟨fuel, hf⟩ := h3
    exact bow_of_trod hf
  clear hA0 hval0
  refine (walk a0 a1 len1 cap1 l1 a2 a3 len3 cap3 l3 W w1 w2 w3).mono fun e W' ⟨he, bel⟩ => ?_
  subst he
  exact ⟨_, rfl, _, _, _, [], _, [], hW', trodAll_mk1 (shut_bool Tryz.underlying4 _), (trodAll_cons_mk (shut_bool Tryz.underlying4 a0) (trodAll_cons_mk (Below.trod laidOut (by kernel_rfl) (of_decide_eq_true (by kernel_rfl)) k1 bel lt1) (trodAll_cons_mk (shut_int Tryz.underlying75 w2) (trodAll_cons_mk (Below.trod laidOut (by kernel_rfl) (of_decide_eq_true (by kernel_rfl)) k3 bel lt3) trodAll_mk0)))), rfl, bel.frame _, fun h => by cases h⟩

theorem over : Rows.redoBackRow.holds Tryz.pinned (OpenSpec.ofChange Rows.redoBackSpec) :=
  OpenClaim.holds_of_wide 4 Tryz.f4 rfl rfl rfl rfl rfl rfl rfl ⟨rfl, rfl, rfl, rfl, rfl⟩ rfl rfl rfl rfl rfl (by kernel_rfl) Tryz.func4 (by kernel_rfl)
    (of_decide_eq_true (by kernel_rfl)) (by unfold Func.isWrapper; first | (rw [if_pos (by decide +kernel)]; kernel_rfl) | (rw [if_neg (by decide +kernel)]; exact ⟨rfl, rfl⟩))
    (fun os started H enc _ => lifted os started H enc)
end RedoBackLaw

/-- The statement. -/
theorem redoBack_holds : Rows.RedoBackSaid := RedoBackLaw.over
#print axioms redoBack_holds
end Go.Proofs.YtlenmkhmkommcaaGreat
