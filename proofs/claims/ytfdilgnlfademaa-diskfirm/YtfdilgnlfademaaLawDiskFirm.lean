/-
  Proved: for any two lists of acts, any list of bools and any small number the statement DiskFirm of layer 9 answers true and leaves its arguments as they were. Conditions beside the statement's own: none.
-/
import Derived.Test.YtfdilgnlfademaaRows
import Derived.Test.YtfdilgnlfademaaG19
import Derived.Below
import Derived.ChangeOld
namespace Go.Proofs.Ytfdilgnlfademaa
namespace DiskFirmLaw
open Go.ChangeShapes Go.WideShapes Go.ChangeAt Go.RowKit
open Go.ChangeMaps (open_string shut_string)
set_option linter.unusedVariables false

theorem own : ownKnob Try.prog.godebug = none := by kernel_rfl
theorem laidOut : laidOutB Try.prog = true := by kernel_rfl

set_option maxRecDepth 100000 in
set_option maxHeartbeats 4000000 in
theorem walk (a0 : Option Addr) (len0 cap0 : Nat) (l0 : List OpS) (a1 : Option Addr) (len1 cap1 : Nat) (l1 : List OpS) (a2 : Option Addr) (len2 cap2 : Nat) (l2 : List Bool) (a3 : Int) (w : World) (w0 : Acts w a0 len0 cap0 l0) (w1 : Acts w a1 len1 cap1 l1) (w2 : BoW w a2 len2 cap2 l2) (w3 : (Lit.int .u8 a3).wf = true) :
    Calls Try.prog 4 #[.slice a0 len0 cap0, .slice a1 len1 cap1, .slice a2 len2 cap2, .int .u8 a3] w fun e w' => e = .returned (.bool true) ∧ Below w.heap.size w w' := by
  obtain ⟨y, rfl⟩ := u8_of w3
  have W0 : Hid (Acts w a0 len0 cap0 l0) := w0
  have W1 : Hid (Acts w a1 len1 cap1 l1) := w1
  have W2 : Hid (BoW w a2 len2 cap2 l2) := w2
  have hl0 := w0.len
  have hc0 := w0.cap
  have hl1 := w1.len
  have hc1 := w1.cap
  have hl2 := w2.1.len
  have hc2 : len2 ≤ maxLen := Nat.le_trans w2.1.2.1 w2.1.2.2.1
  unfold maxLen at hc0 hc1 hc2
  obtain ⟨K, hKt⟩ : ∃ K : Int, (y.toNat : Int).tmod 9 = K := ⟨_, rfl⟩
  have hw64 := u8_w y
  have hK9 : 0 ≤ K ∧ K < 9 := by rw [← hKt]; exact u8_mod y 9 (by omega)
  have CW : Hid (∀ u, Below w.heap.size w u → Calls Try.prog 7 #[] u fun e w' => e = .returned (.bool true) ∧ Below w.heap.size w w') := fun u hu => (lWorks9 u).mono (by rintro e w' ⟨rfl, h⟩; exact ⟨rfl, hu.trans (h.mono hu.size)⟩)
  clear w0 w1 w2 w3
  go_enter Try.func4, Try.ntmps4
  go_wp2_with fail
  refine (lLight w W0.out).mono ?_
  rintro e v0 ⟨v, rfl, hv, kk, rfl⟩
  have hb0 := below_drewN' w kk
  generalize w.drewN kk = v0 at *
  cases v with
  | false =>
    clear hv
    go_wp2_with fail
    refine (CW.out v0 hb0).mono ?_
    rintro e v1 ⟨rfl, hb1⟩
    go_wp2_with fail
    go_ret
    exact ⟨rfl, hb1⟩
  | true =>
    obtain ⟨hn, hall⟩ := hv rfl
    have HA : Hid (∀ o ∈ l0, o.light) := hall
    clear hv hall
    go_wp2_with fail
    refine (lLight v0 (W1.out.grow hb0)).mono ?_
    rintro e v1 ⟨v, rfl, hv, k1, rfl⟩
    have hb0 := hb0.trans ((below_drewN' v0 k1).mono hb0.size)
    generalize v0.drewN k1 = v0 at *
    cases v with
    | false =>
      clear hv
      go_wp2_with fail
      refine (CW.out _ hb0).mono ?_
      rintro e v1 ⟨rfl, hb1⟩
      go_wp2_with fail
      go_ret
      exact ⟨rfl, hb1⟩
    | true =>
      obtain ⟨hn1, hall1⟩ := hv rfl
      have HA1 : Hid (∀ o ∈ l1, o.light) := hall1
      clear hv hall1
      by_cases h60 : len2 ≤ 60
      · have i60 : ¬ (60 : Int) < (len2 : Int) := by omega
        go_wp2_with fail
        refine (oPNew v0).mono ?_
        rintro e v1 ⟨r, rfl, hr, hp, hb1⟩
        have hb1' := hb0.trans (hb1.mono hb0.size)
        have hr' : w.heap.size ≤ r := Nat.le_trans hb0.size hr
        clear hb1 hr
        go_wp2_with fail
        refine (oDNew v1 hp 9 (by omega)).mono ?_
        rintro e v2 ⟨d, U, F, rfl, hd, hU, hb2⟩
        have S0 : Hid (StaD w v2 d r U F (DskS.new PowS.new 9)) := StaD.first hb1' hr' hd hU hb2
        clear hd hU hb2 hb1' hp hr'
        go_wp2_with fail
        refine (rPNew v2).mono ?_
        rintro e v3 ⟨rfl, hb3⟩
        have S1 : Hid (StaD w v3 d r U F (DskS.new PowS.new 9)) := S0.out.grow hb3
        clear S0 hb3
        go_wp2_with fail
        refine (rDNew v3 PowS.new 9 (by omega)).mono ?_
        rintro e v4 ⟨rfl, hb4⟩
        have S2 : Hid (StaD w v4 d r U F (DskS.new PowS.new 9)) := S1.out.grow hb4
        clear S1 hb4
        obtain ⟨X, hX⟩ : ∃ X, X = v4.heap.size := ⟨_, rfl⟩
        have z7 : Blk (v4.alloc (.cells #[.int .i64 0, .int .i64 0, .bool false, .bool false, .int .i64 0, .slice none 0 0, .slice none 0 0, .slice none 0 0, .slice none 0 0, .int .i64 0] 40)) X z40 40 := Blk.newAt v4 _ _ X hX.symm _ rfl
        have k7 : Below v4.heap.size v4 (v4.alloc (.cells #[.int .i64 0, .int .i64 0, .bool false, .bool false, .int .i64 0, .slice none 0 0, .slice none 0 0, .slice none 0 0, .slice none 0 0, .int .i64 0] 40)) := below_alloc _ _
        unfold dv
        go_wp2_with ((with_reducible refine at_st 40 ?_); (refine st' 40 (.tmp 12) (.tmp 49) 10 size40 v4.heap.size 0 (dc (DskS.new PowS.new 9) q0) rfl (dc_one _ _) (by rw [← hX]; exact z7.there 0 10 (by simp [z40])) rfl rfl ?_); intro v5 hv5; have b5 : Blk v5 X (dc (DskS.new PowS.new 9) q0) 40 := (by rw [hv5, ← hX]; exact z7.setsW _ rfl); have k5 : Below v4.heap.size v4 v5 := (by rw [hv5]; exact below_sets (Nat.le_refl _) _ k7 0); clear hv5)
        rw [← hX]
        have T0 : Hid (Two w v5 X d r (3 * 0) U F (DskS.new PowS.new 9) (DskS.new PowS.new 9) q0) := Two.first (by omega) S2.out hX b5 k5
        clear z7 k7 b5 k5 S2 hX
        go_loopw [14] (fun i wr => ∃ (k : Nat) (U F : Nat → Prop) (D E : DskS) (q : Quad), k ≤ len0 ∧ i = .int .i64 (k : Int) ∧ Hid (Two w wr X d r (3 * k) U F D E q) ∧ D.n = 9 ∧ D.plot = []) (fun i _ => len0 - (intOf i).toNat)
        case atStart => exact ⟨0, U, F, _, _, q0, Nat.zero_le _, rfl, T0, rfl, rfl⟩
        case round =>
          clear T0
          clear F U
          obtain ⟨k, U, F, D, E, q, hk, rfl, T, hn9, hp0⟩ := hrel
          by_cases hlt : k < len0
          · have i0 : (k : Int) < (len0 : Int) := by omega
            obtain ⟨x, hx⟩ : ∃ x, l0[k]? = some x := ⟨_, List.getElem?_eq_getElem (by omega)⟩
            obtain ⟨b, o, pa, pm, pq, ka, kn, kc, rfl, hbl, hrg, hB, hK, hO⟩ := W0.out.at T.out.sta.bel HA.out hx T.out.sta.old
            have LR : Hid (∀ u, Kp F wr u → u.rangeAt b (o + k * 11) (oc x pa pm pq ka kn kc)) := fun u h j v hj => by rw [World.cell?_of_block (w := wr) (h.block b (Nat.lt_of_lt_of_le hbl T.out.sta.bel.size) (T.out.sta.old b hbl))]; exact hrg j v hj
            have bX := T.out.bx
            have hXF := T.out.xf
            have HB : Hid (BA (fun j => ¬ F j) wr pa pm pq x.x.bytes) := hB
            have HK : Hid (BoA (fun j => ¬ F j) wr ka kn kc x.keep) := hK
            have HO : Hid x.fits := hO
            clear hB hK hO hrg hx
            go_wp2_with fail
            refine regionE 11 (S := Kp F wr) (by kernel_rfl) (Kp.of_below (Below.refl _ wr).drew) ?_
            refine takeT 0 (some 58) (.pointer (some ⟨r, 0, none⟩)) rfl rfl (by kernel_rfl) (fun _ _ _ h => h) (ans_plain (by rfl) (fun w _ => rfl)) ?_
            simp only [Act.put, List.setIfInBounds_toArray, List.set_cons_zero, List.set_cons_succ]
            refine takeT 1 (some 59) (.pointer (some ⟨d, 0, none⟩)) rfl rfl (by kernel_rfl) (fun _ _ _ h => h) (ans_plain (by rfl) (fun w _ => rfl)) ?_
            simp only [Act.put, List.setIfInBounds_toArray, List.set_cons_zero, List.set_cons_succ]
            refine takeT 2 (some 60) (dv E q) rfl rfl (by kernel_rfl) (fun _ _ _ h => h) (ans_row 40 (.tmp 12) _ 10 rfl (by rfl) X 0 rfl (dc E q) (fun u h => (h.blk bX hXF).whole) Try.underlying40 rfl rfl size40) ?_
            simp only [Act.put, List.setIfInBounds_toArray, List.set_cons_zero, List.set_cons_succ]
            refine takeT 3 (some 61) (.slice (some ⟨b, o, none⟩) len0 cap0) rfl rfl (by kernel_rfl) (fun _ _ _ h => h) (ans_plain (by rfl) (fun w _ => rfl)) ?_
            simp only [Act.put, List.setIfInBounds_toArray, List.set_cons_zero, List.set_cons_succ]
            refine takeT 4 (some 62) (.int .i64 (k : Int)) rfl rfl (by kernel_rfl) (fun _ _ _ h => h) (ans_plain (by rfl) (fun w _ => rfl)) ?_
            simp only [Act.put, List.setIfInBounds_toArray, List.set_cons_zero, List.set_cons_succ]
            refine takeT 5 (some 63) (.pointer (some ⟨b, o + k * 11, none⟩)) rfl rfl (by kernel_rfl) (fun _ _ _ h => h) (ans_plain (by rfl) (fun w _ => by unfold execOp; go_simp)) ?_
            simp only [Act.put, List.setIfInBounds_toArray, List.set_cons_zero, List.set_cons_succ]
            refine takeT 6 (some 64) (.agg (oc x pa pm pq ka kn kc).toArray) rfl rfl (by kernel_rfl) (fun _ _ _ h => h) (ans_row 50 (.tmp 63) _ 11 rfl (by rfl) b (o + k * 11) rfl (oc x pa pm pq ka kn kc) (fun u h => LR.out u h) Try.underlying50 rfl rfl sizeO) ?_
            simp only [Act.put, List.setIfInBounds_toArray, List.set_cons_zero, List.set_cons_succ]
            refine callE 7 (some 65) 14 #[.tmp 58, .tmp 59, .tmp 60, .tmp 64] #[29, 31, 40, 50] #[.pointer (some ⟨r, 0, none⟩), .pointer (some ⟨d, 0, none⟩), dv E q, .agg (oc x pa pm pq ka kn kc).toArray] rfl rfl rfl (by rfl) (by rfl) (by kernel_rfl) (by kernel_rfl) Try.call14 fun u1 hg1 _ => ?_
            have hs1 : Grows wr u1 := Grows.trans (Below.refl _ wr).drew hg1
            have T1 := T.out.grow hs1
            refine (lDo u1 (V := fun j => j = X) T1.sta.dk (fun j e => by rw [e]; exact T1.bx.lt) T1.rd T1.fd T1.fe (by omega) x (HB.out.grow hs1) (HK.out.keep hs1.size (fun j hj _ => hs1.block j hj)) HO.out).mono ?_
            rintro e u2 ⟨q1, bb, rfl, hbb, U2, F2, hd2, hr2, hU2, hF2, hk2⟩
            have ks2 : Kp F wr u2 := (Kp.of_below hs1).trans hk2
            refine ⟨_, rfl, ks2, ?_⟩
            simp only [Act.put, List.setIfInBounds_toArray, List.set_cons_zero, List.set_cons_succ]
            refine takeT 8 (some 57) (.tuple #[dv (E.act x) q1, .bool bb]) rfl rfl (by kernel_rfl) (fun _ _ _ h => h) (ans_plain (by rfl) (fun w _ => rfl)) ?_
            simp only [Act.put, List.setIfInBounds_toArray, List.set_cons_zero, List.set_cons_succ]
            refine takeT 9 (some 66) (dv (E.act x) q1) rfl rfl (by kernel_rfl) (fun _ _ _ h => h) (ans_plain (by rfl) (fun w _ => by unfold execOp; go_simp)) ?_
            simp only [Act.put, List.setIfInBounds_toArray, List.set_cons_zero, List.set_cons_succ]
            refine takeP 10 (some 67) (.bool bb) rfl rfl (by kernel_rfl) (fun _ _ _ h => h) (by rfl) (fun w => by unfold execOp; go_simp) ?_
            simp only [Act.put, List.setIfInBounds_toArray, List.set_cons_zero, List.set_cons_succ]
            refine lastE (by kernel_rfl) (by kernel_rfl) (by kernel_rfl) (by kernel_rfl) fun u4 hg4 ks4 => ?_
            refine opStR 11 40 (.tmp 12) (.tmp 66) 10 rfl rfl rfl rfl X (dc E q) (dc (E.act x) q1) _ (ks4.blk bX hXF) rfl rfl (dc_one _ _) size40 rfl rfl fun u5 b5 q5 u6 hg6 => ?_
            have T6 : Hid (Two w u6 X d r (3 * k + 3) U2 F2 (D.act x) (E.act x) q1) := T1.acted hd2 hr2 hU2 hk2 (T1.fd.a_act (by omega) x HO.out.2.2.2.2.2.2.1) (T1.fe.a_act (by omega) x HO.out.2.2.2.2.2.2.1) hg4 b5 q5 hg6
            have HN : Hid ((D.act x).n = 9 ∧ (D.act x).plot = []) := ⟨(act_same D x).1.trans hn9, (act_same D x).2.trans hp0⟩
            clear T1 hd2 hr2 hU2 hF2 hk2 ks2 ks4 hg4 b5 q5 hg6 hs1 hg1 LR HB HK HO bX hXF T
            go_wp2_with fail
            go_roundw
            case rel => exact ⟨k + 1, U2, F2, D.act x, E.act x, q1, by omega, by go_num, T6, HN.out⟩
            case measure => simp [intOf]; omega
          · have i0 : ¬ (k : Int) < (len0 : Int) := by omega
            obtain rfl : k = len0 := by omega
            have hm : 3 * k ≤ 120 := by omega
            have CF : Hid (Calls Try.prog 23 #[.pointer (some ⟨d, 0, none⟩)] wr fun e w' => e = .returned (.int .i64 (if D.p.ok then 0 else 5)) ∧ Dks U F wr d r D.flushed w') := oDFlush wr T.out.sta.dk T.out.fd (by omega)
            cases hP : D.p.ok with
            | false =>
              rw [hP, if_neg (by simp)] at CF
              go_wp2_with fail
              refine CF.out.mono ?_
              rintro e x1 ⟨rfl, U1, F1, hd, hU, hF, hk1⟩
              have hb1 := (T.out.sta.after hd hU hk1).bel
              clear hd hU hF hk1 T
              go_wp2_with fail
              refine (CW.out x1 hb1).mono ?_
              rintro e x2 ⟨rfl, hb2⟩
              go_wp2_with fail
              go_ret
              exact ⟨rfl, hb2⟩
            | true =>
              rw [hP, if_pos rfl] at CF
              go_wp2_with fail
              refine CF.out.mono ?_
              rintro e x1 ⟨rfl, U1, F1, hd, hU, hF, hk1⟩
              have T1 : Hid (Two w x1 X d r (3 * k + 3) U1 F1 D.flushed E q) := T.out.flushed hd hU hF hk1 (T.out.fd.a_flushed (by omega))
              have HF : Hid (D.flushed.firm K (D.flushed.look K)) := firm_flushed hp0 hP K
              have hnF : D.flushed.n = 9 := (flushed_n D).trans hn9
              clear hd hU hF hk1 T CF hP
              clear F U
              go_wp2_with fail
              refine (oDLook x1 T1.out.sta.dk T1.out.fd (by omega) K (by omega)).mono ?_
              rintro e x2 ⟨wp, wm, wc, rfl, HWs, hb2⟩
              have T2 : Hid (Two w x2 X d r (3 * k + 3 + 3 * 0) U1 F1 D.flushed E q) := T1.out.grow hb2
              have HW2 : Hid (BA (fun j => ¬ F1 j ∧ ¬ j = X) x2 wp wm wc (D.flushed.look K)) := HWs.mono fun j _ h => ⟨h.1, fun e => by
                rcases h.2 with h2 | h2
                · exact T1.out.xu (e ▸ h2)
                · have := T1.out.bx.lt
                  omega⟩
              clear T1 HWs hb2
              obtain ⟨V, hV⟩ : ∃ V, V = D.flushed.look K := ⟨_, rfl⟩
              rw [← hV] at HW2 HF
              clear hV
              generalize D.flushed = D0 at *
              generalize E = E0 at *
              generalize q = qq at *
              clear hw64 hKt hlt i0 hk
              have hk40 : k ≤ 40 := hn
              go_wp2_with fail
              go_loopw [17, 18, 19] (fun tv i _ wr => ∃ (n : Nat) (tb : Bool) (U F : Nat → Prop) (D E : DskS) (q : Quad), n ≤ len1 ∧ i = .int .i64 (n : Int) ∧ tv = .bool tb ∧ Hid (Two w wr X d r (3 * k + 3 + 3 * n) U F D E q) ∧ D.n = 9 ∧ Hid (tb = false → D.firm K V) ∧ Hid (BA (fun j => ¬ F j ∧ ¬ j = X) wr wp wm wc V)) (fun _ i _ _ => len1 - (intOf i).toNat)
              case atStart => exact ⟨0, false, U1, F1, D0, E0, qq, Nat.zero_le _, rfl, rfl, T2, hnF, fun _ => HF.out, HW2⟩
              case round =>
                clear T2 HF HW2 hnF hn9 hp0
                clear F1 U1
                obtain ⟨n, tb, U, F, D1, E1, q, hnl, rfl, rfl, T, hn9, HF, HW⟩ := hrel
                by_cases hlt : n < len1
                · have i0 : (n : Int) < (len1 : Int) := by omega
                  obtain ⟨x, hx⟩ : ∃ x, l1[n]? = some x := ⟨_, List.getElem?_eq_getElem (by omega)⟩
                  obtain ⟨b, o, pa, pm, pq, ka, kn, kc, rfl, hbl, hrg, hB, hKp, hO⟩ := W1.out.at T.out.sta.bel HA1.out hx T.out.sta.old
                  have HO : Hid x.fits := hO
                  obtain ⟨g, hg⟩ : ∃ g, g = wr.heap.size := ⟨_, rfl⟩
                  have z9 : Blk (wr.alloc (.cells #[.int .i64 0, .int .i64 0, .int .u8 0, .int .i64 0, .int .i64 0, .int .i64 0, .slice none 0 0, .int .i64 0, .int .i64 0, .bool false, .slice none 0 0] 50)) g zOp 50 := Blk.newAt wr _ _ g hg.symm _ rfl
                  have k9 : Below wr.heap.size wr (wr.alloc (.cells #[.int .i64 0, .int .i64 0, .int .u8 0, .int .i64 0, .int .i64 0, .int .i64 0, .slice none 0 0, .int .i64 0, .int .i64 0, .bool false, .slice none 0 0] 50)) := below_alloc _ _
                  clear hO hx
                  go_upto_region 21 with (first | ((with_reducible refine at_ld 50 ?_); (refine ld 50 (.tmp 86) 11 sizeO _ Try.underlying50 rfl b (o + n * 11) (oc x pa pm pq ka kn kc) rfl hrg rfl ?_)) | ((with_reducible refine at_st 50 ?_); (refine st' 50 (.tmp 19) (.tmp 87) 11 sizeO wr.heap.size 0 (oc x pa pm pq ka kn kc) rfl (oc_one _ _ _ _ _ _ _) (by rw [← hg]; exact z9.there 0 11 (by simp [zOp])) rfl rfl ?_); intro v5 hv5; have b5 : Blk v5 g (oc x pa pm pq ka kn kc) 50 := (by rw [hv5, ← hg]; exact z9.setsW _ rfl); have k5 : Below wr.heap.size wr v5 := (by rw [hv5]; exact below_sets (Nat.le_refl _) _ k9 0); clear hv5))
                  rw [← hg]
                  have T1 : Hid (Two w v5 X d r (3 * k + 3 + 3 * n) U F D1 E1 q) := T.out.grow k5
                  have HB : Hid (BA (fun j => ¬ F j) v5 pa pm pq x.x.bytes) := hB.grow k5
                  have HK : Hid (BoA (fun j => ¬ F j) v5 ka kn kc x.keep) := hKp.keep k5.size fun j hj _ => k5.block j hj
                  have HW1 : Hid (BA (fun j => ¬ F j ∧ ¬ j = X) v5 wp wm wc V) := HW.out.grow k5
                  have c0 : v5.cell? ⟨g, 0, none⟩ = some (.int .i64 x.kind) := b5.cell 0
                  have c1 : v5.cell? ⟨g, 1, none⟩ = some (.int .i64 x.at_) := b5.cell 1
                  have c4 : v5.cell? ⟨g, 4, none⟩ = some (.int .i64 x.x.at_) := b5.cell 4
                  have hgl := b5.lt
                  clear z9 k9 k5 T hB hKp hrg HW hg
                  simp only [Act.put]
                  go_cut [17] from 78 to 119 (fun tv wx => ∃ tb', tv = .bool tb' ∧ Hid (tb' = false → tb = false ∧ ¬ x.on K) ∧ v5 = wx)
                  case first =>
                    cases tb with
                    | true =>
                      go_wp2_with fail
                      go_meet
                      case rel => exact ⟨true, rfl, (fun h => (by cases h)), rfl⟩
                    | false =>
                      by_cases e1 : x.kind = 1
                      · have e1b : (x.kind == 1) = true := by simp [e1]
                        have e3b : (x.kind == 3) = false := by simp [e1]
                        by_cases e2 : x.at_ = K
                        · have e2b : (x.at_ == K) = true := by simp [e2]
                          go_wp2_with fail
                          go_meet
                          case rel => exact ⟨true, rfl, (fun h => (by cases h)), rfl⟩
                        · have e2b : (x.at_ == K) = false := by simp [e2]
                          go_wp2_with fail
                          go_meet
                          case rel => exact ⟨false, rfl, (fun _ => ⟨(by simp), (fun h => (by rcases h with h | h <;> omega))⟩), rfl⟩
                      · have e1b : (x.kind == 1) = false := by simp [e1]
                        by_cases e3 : x.kind = 3
                        · have e3b : (x.kind == 3) = true := by simp [e3]
                          by_cases e4 : x.x.at_ = K
                          · have e4b : (x.x.at_ == K) = true := by simp [e4]
                            go_wp2_with fail
                            go_meet
                            case rel => exact ⟨true, rfl, (fun h => (by cases h)), rfl⟩
                          · have e4b : (x.x.at_ == K) = false := by simp [e4]
                            go_wp2_with fail
                            go_meet
                            case rel => exact ⟨false, rfl, (fun _ => ⟨(by simp), (fun h => (by rcases h with h | h <;> omega))⟩), rfl⟩
                        · have e3b : (x.kind == 3) = false := by simp [e3]
                          go_wp2_with fail
                          go_meet
                          case rel => exact ⟨false, rfl, (fun _ => ⟨(by simp), (fun h => (by rcases h with h | h <;> omega))⟩), rfl⟩
                  case rest =>
                    obtain ⟨tb2, rfl, HT, rfl⟩ := hcut
                    have bX := T1.out.bx
                    have hXF := T1.out.xf
                    go_wp2_with (first | ((with_reducible refine at_ld 40 ?_); (refine ld 40 (.tmp 12) 10 size40 _ Try.underlying40 rfl X 0 (dc E1 q) rfl bX.whole rfl ?_)) | ((with_reducible refine at_ld 50 ?_); (refine ld 50 (.tmp 19) 11 sizeO _ Try.underlying50 rfl g 0 (oc x pa pm pq ka kn kc) rfl b5.whole rfl ?_)))
                    refine (lDo v5 (V := fun j => j = X) T1.out.sta.dk (fun j e => by rw [e]; exact T1.out.bx.lt) T1.out.rd T1.out.fd T1.out.fe (by omega) x HB.out HK.out HO.out).mono ?_
                    rintro e u2 ⟨q1, bb, rfl, hbb, U2, F2, hd2, hr2, hU2, hF2, hk2⟩
                    have bX2 := hk2.blk bX hXF
                    unfold dv
                    go_wp2_with ((with_reducible refine at_st 40 ?_); (refine st' 40 (.tmp 12) (.tmp 118) 10 size40 X 0 (dc (E1.act x) q1) rfl (dc_one _ _) (bX2.there 0 10 (by simp [dc])) rfl rfl ?_); intro u5 hu5; have b6 : Blk u5 X (dc (E1.act x) q1) 40 := (by rw [hu5]; exact bX2.setsW _ rfl); have q5 : Kp (fun j => j = X) u2 u5 := (by rw [hu5]; exact Kp.of_grown (but_cells _ _ _ _)); have T6 : Hid (Two w u5 X d r (3 * k + 3 + 3 * n + 3) U2 F2 (D1.act x) (E1.act x) q1) := T1.out.acted hd2 hr2 hU2 hk2 (T1.out.fd.a_act (by omega) x HO.out.2.2.2.2.2.2.1) (T1.out.fe.a_act (by omega) x HO.out.2.2.2.2.2.2.1) (Grows.refl u2) b6 q5 (Grows.refl u5); have HW6 : Hid (BA (fun j => ¬ F2 j ∧ ¬ j = X) u5 wp wm wc V) := HW1.out.acted hF2 hk2 (Grows.refl u2) q5 (Grows.refl u5); clear hu5 b6 q5 hd2 hr2 hU2 hF2 hk2 bX2)
                    have HN : Hid ((D1.act x).n = 9) := (act_same D1 x).1.trans hn9
                    have HF6 : Hid (tb2 = false → (D1.act x).firm K V) := fun h => (HF.out (HT.out h).1).act (HT.out h).2
                    clear T1 HW1 HB HK HO HT HF bX hXF b5 c0 c1 c4
                    go_roundw
                    case rel => exact ⟨n + 1, tb2, U2, F2, D1.act x, E1.act x, q1, by omega, by go_num, rfl, T6, HN.out, HF6, HW6⟩
                    case measure => simp [intOf]; omega
                · have i0 : ¬ (n : Int) < (len1 : Int) := by omega
                  have CC : Hid (Calls Try.prog 24 #[.pointer (some ⟨d, 0, none⟩), .slice a2 len2 cap2] wr fun e w' => e = .returned (.tuple #[]) ∧ Dks U F wr d r (D1.crash l2) w') := oDCrash wr T.out.sta.dk T.out.fd (by omega) (b := l2) (T.out.sta.bo W2.out) (by omega)
                  go_wp2_with fail
                  refine CC.out.mono ?_
                  rintro e x3 ⟨rfl, U3, F3, hd, hU, hF, hk3⟩
                  have S3 : Hid (StaD w x3 d r U3 F3 (D1.crash l2)) := T.out.sta.after hd hU hk3
                  have HW3 : Hid (BA (fun j => ¬ F3 j) x3 wp wm wc V) := (HW.out.mono (A' := fun j => ¬ F j) fun _ _ h => h.1).after hk3 hF
                  have f3 := T.out.fd.a_crash (by omega) l2
                  have n3 : (D1.crash l2).n = 9 := (settles_len (kept D1.loose l2) D1).2.2.2.2.1.trans hn9
                  have HF3 : Hid (tb = false → (D1.crash l2).look K = V) := fun h => ((HF.out h).crash l2).look
                  clear hd hU hF hk3 T HW HF CC
                  cases tb with
                  | true =>
                    go_wp2_with fail
                    refine (CW.out x3 S3.out.bel).mono ?_
                    rintro e x4 ⟨rfl, hb4⟩
                    go_wp2_with fail
                    go_ret
                    exact ⟨rfl, hb4⟩
                  | false =>
                    have hV := HF3.out rfl
                    have CL : Hid (Calls Try.prog 19 #[.pointer (some ⟨d, 0, none⟩), .int .i64 K] x3 fun e w' => ∃ p m c, e = .returned (.slice p m c) ∧ BA (fun j => ¬ F3 j ∧ (U3 j ∨ x3.heap.size ≤ j)) w' p m c V ∧ Below x3.heap.size x3 w') := by rw [← hV]; exact oDLook x3 S3.out.dk f3 (by omega) K (by omega)
                    clear hV HF3
                    go_wp2_with fail
                    refine CL.out.mono ?_
                    rintro e x4 ⟨np, nm, nc, rfl, HN, hb4⟩
                    have S4 : Hid (Below w.heap.size w x4) := (S3.out.grow hb4).bel
                    have HW4 := (HW3.out.grow hb4).1
                    have HN4 := HN.1
                    clear S3 HW3 HN hb4 CL
                    go_wp2_with fail
                    refine (rSame x4 HN4 HW4).mono ?_
                    rintro e x5 ⟨rfl, k5, rfl⟩
                    have S5 : Hid (Below w.heap.size w (x4.drewN k5)) := S4.out.trans ((below_drewN' x4 k5).mono S4.out.size)
                    clear S4 HW4 HN4
                    generalize x4.drewN k5 = x5 at *
                    rw [decide_eq_true rfl]
                    go_wp2_with fail
                    refine (CW.out x5 S5.out).mono ?_
                    rintro e x6 ⟨rfl, hb6⟩
                    go_wp2_with fail
                    go_ret
                    exact ⟨rfl, hb6⟩
      · have i60 : (60 : Int) < (len2 : Int) := by omega
        go_wp2_with fail
        refine (CW.out v0 hb0).mono ?_
        rintro e v1 ⟨rfl, hb1⟩
        go_wp2_with fail
        go_ret
        exact ⟨rfl, hb1⟩

set_option maxRecDepth 100000 in
theorem lifted (os : Os) (started : os.Started) (H : Type) (enc : TypeId × Value → H) :
    ReturnsInHanded {} Try.checked os 4 .any (Rows.diskFirmSpec.pre6 enc Try.prog Try.f4 Rows.diskFirmRow.domain false) (Rows.diskFirmSpec.post enc Try.prog Try.f4 false true false false) := by
  refine returnsInHanded_of_change (C := Try.checked) own started (by kernel_rfl) Try.func4
    (ChangeSpec.witness6 (enc := enc) (C := Try.checked) false ⟨#[], #[.slice none 0 0, .slice none 0 0, .slice none 0 0, .int .u8 0], []⟩ 8 (by kernel_rfl) (by kernel_rfl) (by kernel_rfl) (by kernel_rfl)) ?_
  intro W base args ds gs before hval0 hW hcnd _
  have hval : ∀ (j : Nat) t v, Try.f4.params[j]? = some t → args[j]? = some v → Value.okWide Try.prog W .any base t v := hval0
  have hW' := hW
  obtain ⟨p, q, hA0, hV, rfl, hfz, hnd⟩ := hW
  have hA : DataW.TrodAll enc Try.prog W 0 (fun _ => true) true Try.f4.params.toList args.toList ds p := hA0
  rw [Try.params4] at hA hval
  obtain ⟨v0, vs0, d0, ds0, p0, q0, hargs, rfl, rfl, h0, r0⟩ := trodAll_cons hA
  obtain ⟨v1, vs1, d1, ds1, p1, q1, rfl, rfl, rfl, h1, r1⟩ := trodAll_cons r0
  obtain ⟨v2, vs2, d2, ds2, p2, q2, rfl, rfl, rfl, h2, r2⟩ := trodAll_cons r1
  obtain ⟨v3, vs3, d3, ds3, p3, q3, rfl, rfl, rfl, h3, r3⟩ := trodAll_cons r2
  obtain ⟨rfl, rfl, rfl⟩ := trodAll_nil r3
  obtain rfl : args = #[v0, v1, v2, v3] := by cases args; simp_all
  obtain ⟨rfl, rfl⟩ := trodVars_none hV
  obtain ⟨a0, len0, cap0, rfl⟩ := okWide_slice Try.underlying23 (hval 0 23 v0 rfl rfl)
  have k0 := h0
  have lt0 : ∀ x ∈ p0, x.block < W.heap.size := by obtain ⟨m, hm⟩ := k0; exact DataW.trod_lt m _ _ _ hm
  obtain ⟨l0, w0⟩ : ∃ l, Acts W a0 len0 cap0 l := by
    obtain ⟨fuel, hf⟩ := h0
    exact acts_of_trod hf
  obtain ⟨a1, len1, cap1, rfl⟩ := okWide_slice Try.underlying23 (hval 1 23 v1 rfl rfl)
  have k1 := h1
  have lt1 : ∀ x ∈ p1, x.block < W.heap.size := by obtain ⟨m, hm⟩ := k1; exact DataW.trod_lt m _ _ _ hm
  obtain ⟨l1, w1⟩ : ∃ l, Acts W a1 len1 cap1 l := by
    obtain ⟨fuel, hf⟩ := h1
    exact acts_of_trod hf
  obtain ⟨a2, len2, cap2, rfl⟩ := okWide_slice Try.underlying48 (hval 2 48 v2 rfl rfl)
  have k2 := h2
  have lt2 : ∀ x ∈ p2, x.block < W.heap.size := by obtain ⟨m, hm⟩ := k2; exact DataW.trod_lt m _ _ _ hm
  obtain ⟨l2, w2⟩ : ∃ l, BoW W a2 len2 cap2 l := by
    obtain ⟨fuel, hf⟩ := h2
    exact bow_of_trod hf
  obtain ⟨a3, rfl, rfl, rfl, w3⟩ := open_int Try.underlying5 (hval 3 5 v3 rfl rfl) h3
  clear hA0 hval0
  refine (walk a0 len0 cap0 l0 a1 len1 cap1 l1 a2 len2 cap2 l2 a3 W w0 w1 w2 w3).mono fun e W' ⟨he, bel⟩ => ?_
  subst he
  exact ⟨_, rfl, _, _, _, [], _, [], hW', trodAll_mk1 (shut_bool Try.underlying4 _), (trodAll_cons_mk (Below.trod laidOut (by kernel_rfl) (of_decide_eq_true (by kernel_rfl)) k0 bel lt0) (trodAll_cons_mk (Below.trod laidOut (by kernel_rfl) (of_decide_eq_true (by kernel_rfl)) k1 bel lt1) (trodAll_cons_mk (Below.trod laidOut (by kernel_rfl) (of_decide_eq_true (by kernel_rfl)) k2 bel lt2) (trodAll_cons_mk (shut_int Try.underlying5 w3) trodAll_mk0)))), rfl, bel.frame _, fun h => by cases h⟩

theorem over : Rows.diskFirmRow.holds Try.pinned (OpenSpec.ofChange Rows.diskFirmSpec) :=
  OpenClaim.holds_of_wide 4 Try.f4 rfl rfl rfl rfl rfl rfl rfl ⟨rfl, rfl, rfl, rfl, rfl⟩ rfl rfl rfl rfl rfl (by kernel_rfl) Try.func4 (by kernel_rfl)
    (of_decide_eq_true (by kernel_rfl)) (by unfold Func.isWrapper; first | (rw [if_pos (by decide +kernel)]; kernel_rfl) | (rw [if_neg (by decide +kernel)]; exact ⟨rfl, rfl⟩))
    (fun os started H enc _ => lifted os started H enc)
end DiskFirmLaw

/-- The statement. -/
theorem diskFirm_holds : Rows.DiskFirmSaid := DiskFirmLaw.over
#print axioms diskFirm_holds
end Go.Proofs.Ytfdilgnlfademaa
