/-
  Proved: for any number, any pokes, any acts and any small number the statement DiskDoes of layer 9 answers true and leaves its arguments as they were. Conditions beside the statement's own: none.
-/
import Derived.Test.YtfdilgnlfademaaRows
import Derived.Test.YtfdilgnlfademaaG19
import Derived.Below
import Derived.ChangeOld
namespace Go.Proofs.Ytfdilgnlfademaa
namespace DiskDoesLaw
open Go.ChangeShapes Go.WideShapes Go.ChangeAt Go.RowKit
open Go.ChangeMaps (open_string shut_string)
set_option linter.unusedVariables false

theorem own : ownKnob Try.prog.godebug = none := by kernel_rfl
theorem laidOut : laidOutB Try.prog = true := by kernel_rfl

set_option maxRecDepth 100000 in
set_option maxHeartbeats 4000000 in
theorem walk (a0 : Int) (a1 : Option Addr) (len1 cap1 : Nat) (l1 : List Pok) (a2 : Option Addr) (len2 cap2 : Nat) (l2 : List OpS) (a3 : Int) (w : World) (w0 : (Lit.int .i64 a0).wf = true) (w1 : Pokes w a1 len1 cap1 l1) (w2 : Acts w a2 len2 cap2 l2) (w3 : (Lit.int .u8 a3).wf = true) :
    Calls Try.prog 3 #[.int .i64 a0, .slice a1 len1 cap1, .slice a2 len2 cap2, .int .u8 a3] w fun e w' => e = .returned (.bool true) ∧ Below w.heap.size w w' := by
  obtain ⟨y, rfl⟩ := u8_of w3
  have hn64 := bounds_i64 w0
  have W1 : Hid (Pokes w a1 len1 cap1 l1) := w1
  have W2 : Hid (Acts w a2 len2 cap2 l2) := w2
  have hl1 := w1.len
  have hc1 := w1.cap
  have hl2 := w2.len
  have hc2 := w2.cap
  unfold maxLen at hc1 hc2
  have CW : Hid (∀ u, Below w.heap.size w u → Calls Try.prog 7 #[] u fun e w' => e = .returned (.bool true) ∧ Below w.heap.size w w') := fun u hu => (lWorks9 u).mono (by rintro e w' ⟨rfl, h⟩; exact ⟨rfl, hu.trans (h.mono hu.size)⟩)
  clear w0 w1 w2 w3
  go_enter Try.func3, Try.ntmps3
  go_wp2_with fail
  refine (lLight w W2.out).mono ?_
  rintro e v0 ⟨v, rfl, hv, kk, rfl⟩
  have hb0 := below_drewN' w kk
  generalize w.drewN kk = v0 at *
  cases v with
  | false =>
    clear hv
    go_wp2_with fail
    refine (CW.out v0 hb0).mono ?_
    rintro e ww ⟨rfl, hbw⟩
    go_wp2_with fail
    go_ret
    exact ⟨rfl, hbw⟩
  | true =>
    obtain ⟨hn, hall⟩ := hv rfl
    have HA : Hid (∀ o ∈ l2, o.light) := hall
    clear hv hall
    by_cases h20 : len1 ≤ 20
    · have i20 : ¬ (20 : Int) < (len1 : Int) := by omega
      by_cases h30 : 30 < a0
      · by_cases h96 : a0 ≤ 4096
        · go_wp2_with fail
          refine (CW.out v0 hb0).mono ?_
          rintro e ww ⟨rfl, hbw⟩
          go_wp2_with fail
          go_ret
          exact ⟨rfl, hbw⟩
        · have hnot : ¬ (1 ≤ a0 ∧ a0 ≤ 4096) := by omega
          go_wp2_with fail
          go_loopw [9] (fun i wr => ∃ k : Nat, k ≤ len1 ∧ i = .int .i64 (k : Int) ∧ Hid (∀ x ∈ l1.take k, x.bytes.length ≤ 1000) ∧ v0 = wr) (fun i _ => len1 - (intOf i).toNat)
          case atStart => exact ⟨0, Nat.zero_le _, rfl, (fun x hx => by simp at hx), rfl⟩
          case round =>
            obtain ⟨k, hk, rfl, HI, rfl⟩ := hrel
            by_cases hlt : k < len1
            · have i0 : (k : Int) < (len1 : Int) := by omega
              obtain ⟨x, hx⟩ : ∃ x, l1[k]? = some x := ⟨_, List.getElem?_eq_getElem (by omega)⟩
              obtain ⟨b, o, p, m, q, rfl, hbl, c3, hbm⟩ := W1.out.at hb0 hx
              by_cases h1 : m ≤ 1000
              · have i1 : ¬ (1000 : Int) < (m : Int) := by omega
                have HN : Hid (∀ x ∈ l1.take (k + 1), x.bytes.length ≤ 1000) := fun z hz => by
                  rw [List.take_add_one, hx] at hz
                  rcases List.mem_append.1 hz with hz | hz
                  · exact HI.out z hz
                  · simp at hz
                    subst hz
                    omega
                clear hx HI hbm
                go_wp2_with fail
                go_roundw
                case rel => exact ⟨k + 1, by omega, by go_num, HN, (by first | rfl | trivial)⟩
                case measure => simp [intOf]; omega
              · have i1 : (1000 : Int) < (m : Int) := by omega
                clear hx HI hbm
                go_wp2_with fail
                refine (CW.out v0 hb0).mono ?_
                rintro e ww ⟨rfl, hbw⟩
                go_wp2_with fail
                go_ret
                exact ⟨rfl, hbw⟩
            · have i0 : ¬ (k : Int) < (len1 : Int) := by omega
              have HX : Hid (∀ x ∈ l1, x.bytes.length ≤ 1000) := fun x hx => HI.out x (by rw [List.take_of_length_le (by omega)]; exact hx)
              clear HI
              go_wp2_with fail
              refine (oPNew v0).mono ?_
              rintro e v1 ⟨r, rfl, hr, hp, hb1⟩
              have hb1' := hb0.trans (hb1.mono hb0.size)
              have hr' : w.heap.size ≤ r := Nat.le_trans hb0.size hr
              clear hb1 hr
              go_wp2_with fail
              refine (oDNewNot v1 hp a0 hnot).mono ?_
              rintro e v2 ⟨rfl, hb2⟩
              have hb2' := hb1'.trans (hb2.mono hb1'.size)
              clear hp hb2 hb1' hr'
              go_wp2_with fail
              refine (rPNew v2).mono ?_
              rintro e v3 ⟨rfl, hb3⟩
              have hb3' := hb2'.trans (hb3.mono hb2'.size)
              clear hb3 hb2'
              go_wp2_with fail
              refine (rDNewNot v3 PowS.new a0 hnot).mono ?_
              rintro e v4 ⟨rfl, hb4⟩
              have hb4' := hb3'.trans (hb4.mono hb3'.size)
              clear hb4 hb3' hnot
              obtain ⟨X, hX⟩ : ∃ X, X = v4.heap.size := ⟨_, rfl⟩
              have z7 : Blk (v4.alloc (.cells #[.int .i64 0, .int .i64 0, .bool false, .bool false, .int .i64 0, .slice none 0 0, .slice none 0 0, .slice none 0 0, .slice none 0 0, .int .i64 0] 40)) X z40 40 := Blk.newAt v4 _ _ X hX.symm _ rfl
              have k7 : Below v4.heap.size v4 (v4.alloc (.cells #[.int .i64 0, .int .i64 0, .bool false, .bool false, .int .i64 0, .slice none 0 0, .slice none 0 0, .slice none 0 0, .slice none 0 0, .int .i64 0] 40)) := below_alloc _ _
              go_wp2_with ((with_reducible refine at_st 40 ?_); (refine st' 40 (.tmp 13) (.tmp 61) 10 size40 v4.heap.size 0 z40 rfl (by intro v hv; simp only [z40, List.mem_cons, List.not_mem_nil, or_false] at hv; rcases hv with rfl | rfl | rfl | rfl | rfl | rfl | rfl | rfl | rfl | rfl <;> rfl) (by rw [← hX]; exact z7.there 0 10 (by simp [z40])) rfl rfl ?_); intro v5 hv5; have k5 : Below v4.heap.size v4 v5 := (by rw [hv5]; exact below_sets (Nat.le_refl _) _ k7 0); clear hv5)
              have hb5 := hb4'.trans (k5.mono hb4'.size)
              refine (CW.out v5 hb5).mono ?_
              rintro e ww ⟨rfl, hbw⟩
              go_wp2_with fail
              go_ret
              exact ⟨rfl, hbw⟩
      · by_cases h1 : 1 ≤ a0
        · obtain ⟨K, hKt⟩ : ∃ K : Int, (y.toNat : Int).tmod a0 = K := ⟨_, rfl⟩
          have hw64 := u8_w y
          have hK9 : 0 ≤ K ∧ K < a0 := by rw [← hKt]; exact u8_mod y a0 (by omega)
          go_wp2_with fail
          go_loopw [9] (fun i wr => ∃ k : Nat, k ≤ len1 ∧ i = .int .i64 (k : Int) ∧ Hid (∀ x ∈ l1.take k, x.bytes.length ≤ 1000) ∧ v0 = wr) (fun i _ => len1 - (intOf i).toNat)
          case atStart => exact ⟨0, Nat.zero_le _, rfl, (fun x hx => by simp at hx), rfl⟩
          case round =>
            obtain ⟨k, hk, rfl, HI, rfl⟩ := hrel
            by_cases hlt : k < len1
            · have i0 : (k : Int) < (len1 : Int) := by omega
              obtain ⟨x, hx⟩ : ∃ x, l1[k]? = some x := ⟨_, List.getElem?_eq_getElem (by omega)⟩
              obtain ⟨b, o, p, m, q, rfl, hbl, c3, hbm⟩ := W1.out.at hb0 hx
              by_cases h1 : m ≤ 1000
              · have i1 : ¬ (1000 : Int) < (m : Int) := by omega
                have HN : Hid (∀ x ∈ l1.take (k + 1), x.bytes.length ≤ 1000) := fun z hz => by
                  rw [List.take_add_one, hx] at hz
                  rcases List.mem_append.1 hz with hz | hz
                  · exact HI.out z hz
                  · simp at hz
                    subst hz
                    omega
                clear hx HI hbm
                go_wp2_with fail
                go_roundw
                case rel => exact ⟨k + 1, by omega, by go_num, HN, (by first | rfl | trivial)⟩
                case measure => simp [intOf]; omega
              · have i1 : (1000 : Int) < (m : Int) := by omega
                clear hx HI hbm
                go_wp2_with fail
                refine (CW.out v0 hb0).mono ?_
                rintro e ww ⟨rfl, hbw⟩
                go_wp2_with fail
                go_ret
                exact ⟨rfl, hbw⟩
            · have i0 : ¬ (k : Int) < (len1 : Int) := by omega
              have HX : Hid (∀ x ∈ l1, x.bytes.length ≤ 1000) := fun x hx => HI.out x (by rw [List.take_of_length_le (by omega)]; exact hx)
              clear HI
              go_wp2_with fail
              refine (oPNew v0).mono ?_
              rintro e v1 ⟨r, rfl, hr, hp, hb1⟩
              have hb1' := hb0.trans (hb1.mono hb0.size)
              have hr' : w.heap.size ≤ r := Nat.le_trans hb0.size hr
              clear hb1 hr
              go_wp2_with fail
              refine (oDNew v1 hp a0 (by omega)).mono ?_
              rintro e v2 ⟨d, U, F, rfl, hd, hU, hb2⟩
              have S0 : Hid (StaD w v2 d r U F (DskS.new PowS.new a0)) := StaD.first hb1' hr' hd hU hb2
              clear hd hU hb2 hb1' hp hr'
              go_wp2_with fail
              refine (rPNew v2).mono ?_
              rintro e v3 ⟨rfl, hb3⟩
              have S1 : Hid (StaD w v3 d r U F (DskS.new PowS.new a0)) := S0.out.grow hb3
              clear S0 hb3
              go_wp2_with fail
              refine (rDNew v3 PowS.new a0 (by omega)).mono ?_
              rintro e v4 ⟨rfl, hb4⟩
              have S2 : Hid (StaD w v4 d r U F (DskS.new PowS.new a0)) := S1.out.grow hb4
              clear S1 hb4
              obtain ⟨X, hX⟩ : ∃ X, X = v4.heap.size := ⟨_, rfl⟩
              have z7 : Blk (v4.alloc (.cells #[.int .i64 0, .int .i64 0, .bool false, .bool false, .int .i64 0, .slice none 0 0, .slice none 0 0, .slice none 0 0, .slice none 0 0, .int .i64 0] 40)) X z40 40 := Blk.newAt v4 _ _ X hX.symm _ rfl
              have k7 : Below v4.heap.size v4 (v4.alloc (.cells #[.int .i64 0, .int .i64 0, .bool false, .bool false, .int .i64 0, .slice none 0 0, .slice none 0 0, .slice none 0 0, .slice none 0 0, .int .i64 0] 40)) := below_alloc _ _
              unfold dv
              go_wp2_with ((with_reducible refine at_st 40 ?_); (refine st' 40 (.tmp 13) (.tmp 61) 10 size40 v4.heap.size 0 (dc (DskS.new PowS.new a0) q0) rfl (dc_one _ _) (by rw [← hX]; exact z7.there 0 10 (by simp [z40])) rfl rfl ?_); intro v5 hv5; have b5 : Blk v5 X (dc (DskS.new PowS.new a0) q0) 40 := (by rw [hv5, ← hX]; exact z7.setsW _ rfl); have k5 : Below v4.heap.size v4 v5 := (by rw [hv5]; exact below_sets (Nat.le_refl _) _ k7 0); clear hv5)
              rw [← hX]
              have T0 : Hid (Two w v5 X d r (3 * 0) U F (DskS.new PowS.new a0) (DskS.new PowS.new a0) q0) := Two.first (by omega) S2.out hX b5 k5
              clear z7 k7 b5 k5 S2 hX
              obtain ⟨D0, hD0⟩ : ∃ D0 : DskS, D0 = { DskS.new PowS.new a0 with plot := l1 } := ⟨_, rfl⟩
              have f0 : D0.fit 3 := by rw [hD0]; exact plot_fit (by omega) (by omega)
              have n0 : D0.n = a0 := by rw [hD0]; rfl
              have CP : Hid (Calls Try.prog 12 #[.pointer (some ⟨d, 0, none⟩), .slice a1 len1 cap1] v5 fun e w' => e = .returned (.tuple #[]) ∧ Dks U F v5 d r D0 w') := by rw [hD0]; exact oDPlot v5 T0.out.sta.dk (W1.out.sl T0.out.sta.bel T0.out.sta.old) (by omega) HX.out
              refine CP.out.mono ?_
              rintro e x1 ⟨rfl, U1, F1, hd, hU, hF, hk1⟩
              have T1 : Hid (Two w x1 X d r 3 U1 F1 D0 (DskS.new PowS.new a0) q0) := T0.out.flushed hd hU hF hk1 f0
              clear hd hU hF hk1 T0 CP
              clear F U
              have bX1 := T1.out.bx
              have CR : Hid (Calls Try.prog 13 #[dv (DskS.new PowS.new a0) q0, .slice a1 len1 cap1] x1 fun e w' => ∃ q', e = .returned (dv D0 q') ∧ RD (fun j => ¬ F1 j ∧ ¬ j = X) w' D0 q' ∧ Below x1.heap.size x1 w') := by rw [hD0]; exact rDPlot x1 T1.out.rd (W1.out.sl T1.out.sta.bel (fun j hj => ⟨T1.out.sta.old j hj, fun e => by have := T1.out.xw; omega⟩))
              clear hD0
              go_wp2_with ((with_reducible refine at_ld 40 ?_); (refine ld 40 (.tmp 13) 10 size40 _ Try.underlying40 rfl X 0 (dc (DskS.new PowS.new a0) q0) rfl bX1.whole rfl ?_))
              refine CR.out.mono ?_
              rintro e x2 ⟨q1, rfl, hr2, hb2⟩
              have bX2 := bX1.below hb2 bX1.lt
              unfold dv
              go_wp2_with ((with_reducible refine at_st 40 ?_); (refine st' 40 (.tmp 13) (.tmp 81) 10 size40 X 0 (dc D0 q1) rfl (dc_one _ _) (bX2.there 0 10 (by simp [dc])) rfl rfl ?_); intro x3 hx3; have b3 : Blk x3 X (dc D0 q1) 40 := (by rw [hx3]; exact bX2.setsW _ rfl); have q3 : Kp (fun j => j = X) x2 x3 := (by rw [hx3]; exact Kp.of_grown (but_cells _ _ _ _)); have T3 : Hid (Two w x3 X d r (3 * 0 + 3) U1 F1 D0 D0 q1) := T1.out.stored hb2 hr2 f0 b3 q3; clear hx3 b3 q3)
              clear T1 bX1 bX2 hr2 hb2 CR f0
              go_loopw [15, 16, 17, 18] (fun i _ _ _ wr => ∃ (k : Nat) (U F : Nat → Prop) (D : DskS) (q : Quad), k ≤ len2 ∧ i = .int .i64 (k : Int) ∧ Hid (Two w wr X d r (3 * k + 3) U F D D q) ∧ D.n = a0) (fun i _ _ _ _ => len2 - (intOf i).toNat)
              case atStart => exact ⟨0, U1, F1, D0, q1, Nat.zero_le _, rfl, T3, n0⟩
              case round =>
                clear T3 n0 hk hlt i0
                clear F1 U1
                obtain ⟨k, U, F, D, q, hk, rfl, T, hnD⟩ := hrel
                by_cases hlt : k < len2
                · have i0 : (k : Int) < (len2 : Int) := by omega
                  obtain ⟨x, hx⟩ : ∃ x, l2[k]? = some x := ⟨_, List.getElem?_eq_getElem (by omega)⟩
                  obtain ⟨b, o, pa, pm, pq, ka, kn, kc, rfl, hbl, hrg, hB, hK, hO⟩ := W2.out.at T.out.sta.bel HA.out hx T.out.sta.old
                  have LR : Hid (∀ u, Kp F wr u → u.rangeAt b (o + k * 11) (oc x pa pm pq ka kn kc)) := fun u h j v hj => by rw [World.cell?_of_block (w := wr) (h.block b (Nat.lt_of_lt_of_le hbl T.out.sta.bel.size) (T.out.sta.old b hbl))]; exact hrg j v hj
                  have HB : Hid (BA (fun j => ¬ F j) wr pa pm pq x.x.bytes) := hB
                  have HK : Hid (BoA (fun j => ¬ F j) wr ka kn kc x.keep) := hK
                  have HO : Hid x.fits := hO
                  clear hB hK hO hrg hx
                  go_upto_region 20 with fail
                  go_cut [16, 17] from 82 to 138 (fun sv okv wx => ∃ (g : Nat) (q1 : Quad) (U2 F2 : Nat → Prop), sv = .pointer (some ⟨g, 0, none⟩) ∧ okv = .bool true ∧ Hid (Aft w wx X g d r (3 * k + 3 + 3) U2 F2 D (D.act x) q q1))
                  case first =>
                    have bX := T.out.bx
                    have hXF := T.out.xf
                    refine regionE 12 (S := Kp F wr) (by kernel_rfl) (Kp.of_below (Below.refl _ wr).drew) ?_
                    refine takeT 0 (some 89) (.pointer (some ⟨r, 0, none⟩)) rfl rfl (by kernel_rfl) (fun _ _ _ h => h) (ans_plain (by rfl) (fun w _ => rfl)) ?_
                    simp only [Act.put, List.setIfInBounds_toArray, List.set_cons_zero, List.set_cons_succ]
                    refine takeT 1 (some 90) (.pointer (some ⟨d, 0, none⟩)) rfl rfl (by kernel_rfl) (fun _ _ _ h => h) (ans_plain (by rfl) (fun w _ => rfl)) ?_
                    simp only [Act.put, List.setIfInBounds_toArray, List.set_cons_zero, List.set_cons_succ]
                    refine takeT 2 (some 91) (dv D q) rfl rfl (by kernel_rfl) (fun _ _ _ h => h) (ans_row 40 (.tmp 13) _ 10 rfl (by rfl) X 0 rfl (dc D q) (fun u h => (h.blk bX hXF).whole) Try.underlying40 rfl rfl size40) ?_
                    simp only [Act.put, List.setIfInBounds_toArray, List.set_cons_zero, List.set_cons_succ]
                    refine takeT 3 (some 92) (.slice (some ⟨b, o, none⟩) len2 cap2) rfl rfl (by kernel_rfl) (fun _ _ _ h => h) (ans_plain (by rfl) (fun w _ => rfl)) ?_
                    simp only [Act.put, List.setIfInBounds_toArray, List.set_cons_zero, List.set_cons_succ]
                    refine takeT 4 (some 93) (.int .i64 (k : Int)) rfl rfl (by kernel_rfl) (fun _ _ _ h => h) (ans_plain (by rfl) (fun w _ => rfl)) ?_
                    simp only [Act.put, List.setIfInBounds_toArray, List.set_cons_zero, List.set_cons_succ]
                    refine takeT 5 (some 94) (.pointer (some ⟨b, o + k * 11, none⟩)) rfl rfl (by kernel_rfl) (fun _ _ _ h => h) (ans_plain (by rfl) (fun w _ => by unfold execOp; go_simp)) ?_
                    simp only [Act.put, List.setIfInBounds_toArray, List.set_cons_zero, List.set_cons_succ]
                    refine takeT 6 (some 95) (.agg (oc x pa pm pq ka kn kc).toArray) rfl rfl (by kernel_rfl) (fun _ _ _ h => h) (ans_row 50 (.tmp 94) _ 11 rfl (by rfl) b (o + k * 11) rfl (oc x pa pm pq ka kn kc) (fun u h => LR.out u h) Try.underlying50 rfl rfl sizeO) ?_
                    simp only [Act.put, List.setIfInBounds_toArray, List.set_cons_zero, List.set_cons_succ]
                    refine forkE 7 11 (by kernel_rfl) (by kernel_rfl) (fun u1 hg1 ks1 => ?_) (fun u0 hg0 ks0 => ?_)
                    · have hs1 : Grows wr u1 := Grows.trans (Below.refl _ wr).drew hg1
                      have T1 := T.out.grow hs1
                      refine opCall 7 (some 96) 14 #[.tmp 89, .tmp 90, .tmp 91, .tmp 95] #[29, 31, 40, 50] #[.pointer (some ⟨r, 0, none⟩), .pointer (some ⟨d, 0, none⟩), dv D q, .agg (oc x pa pm pq ka kn kc).toArray] rfl rfl rfl (by rfl) (by rfl) Try.call14 ?_
                      refine (lDo u1 (V := fun j => j = X) T1.sta.dk (fun j e => by rw [e]; exact T1.bx.lt) T1.rd T1.fd T1.fe (by omega) x (HB.out.grow hs1) (HK.out.keep hs1.size (fun j hj _ => hs1.block j hj)) HO.out).mono ?_
                      rintro e u2 ⟨q1, bb, rfl, hbb, U2, F2, hd2, hr2, hU2, hF2, hk2⟩
                      obtain rfl : bb = true := hbb rfl
                      have ks2 : Kp F wr u2 := (Kp.of_below hs1).trans hk2
                      refine ⟨_, rfl, ks2, ?_⟩
                      simp only [Act.put, List.setIfInBounds_toArray, List.set_cons_zero, List.set_cons_succ]
                      refine takeT 8 (some 88) (.tuple #[dv (D.act x) q1, .bool true]) rfl rfl (by kernel_rfl) (fun _ _ _ h => h) (ans_plain (by rfl) (fun w _ => rfl)) ?_
                      simp only [Act.put, List.setIfInBounds_toArray, List.set_cons_zero, List.set_cons_succ]
                      refine takeT 9 (some 97) (dv (D.act x) q1) rfl rfl (by kernel_rfl) (fun _ _ _ h => h) (ans_plain (by rfl) (fun w _ => by unfold execOp; go_simp)) ?_
                      simp only [Act.put, List.setIfInBounds_toArray, List.set_cons_zero, List.set_cons_succ]
                      refine takeP 10 (some 98) (.bool true) rfl rfl (by kernel_rfl) (fun _ _ _ h => h) (by rfl) (fun w => by unfold execOp; go_simp) ?_
                      simp only [Act.put, List.setIfInBounds_toArray, List.set_cons_zero, List.set_cons_succ]
                      refine oneE 11 (by kernel_rfl) (by kernel_rfl) fun u3 hg3 ks3 => ?_
                      refine (Makes.op (cells := #[.int .i64 0, .int .i64 0, .bool false, .bool false, .int .i64 0, .slice none 0 0, .slice none 0 0, .slice none 0 0, .slice none 0 0, .int .i64 0]) (t := 40) ⟨_, rfl, rfl, rfl, fun ρ w => rfl⟩ ?_)
                      refine ⟨ks3.alloc _, ?_⟩
                      obtain ⟨g, hgE⟩ : ∃ g, g = u3.heap.size := ⟨_, rfl⟩
                      rw [← hgE]
                      have bg : Blk (u3.alloc (.cells #[.int .i64 0, .int .i64 0, .bool false, .bool false, .int .i64 0, .slice none 0 0, .slice none 0 0, .slice none 0 0, .slice none 0 0, .int .i64 0] 40)) g z40 40 := Blk.newAt u3 _ _ g hgE.symm _ rfl
                      have h23 : Grows u2 (u3.alloc (.cells #[.int .i64 0, .int .i64 0, .bool false, .bool false, .int .i64 0, .slice none 0 0, .slice none 0 0, .slice none 0 0, .slice none 0 0, .int .i64 0] 40)) := Grows.trans hg3 (below_alloc _ _)
                      have hsz : u2.heap.size ≤ g := by rw [hgE]; exact Below.size hg3
                      generalize u3.alloc (.cells #[.int .i64 0, .int .i64 0, .bool false, .bool false, .int .i64 0, .slice none 0 0, .slice none 0 0, .slice none 0 0, .slice none 0 0, .int .i64 0] 40) = u3b at *
                      simp only [Act.put, List.setIfInBounds_toArray, List.set_cons_zero, List.set_cons_succ]
                      refine goE (by kernel_rfl) (by kernel_rfl) (by kernel_rfl) fun u4 hg4 ks4 => ?_
                      have bg4 := bg.below hg4 bg.lt
                      refine opStR 12 40 (.tmp 16) (.tmp 97) 10 rfl rfl rfl rfl g z40 (dc (D.act x) q1) _ bg4 rfl rfl (dc_one _ _) size40 rfl rfl fun u5 b5 q5 => ?_
                      refine takeP 13 (some 17) (.bool true) rfl rfl (by kernel_rfl) (fun _ _ _ h => h) (by rfl) (fun w => by unfold execOp; go_simp) ?_
                      simp only [Act.put, List.setIfInBounds_toArray, List.set_cons_zero, List.set_cons_succ]
                      refine endE (by kernel_rfl) fun u6 hg6 => ?_
                      have s1 := Below.size hs1
                      have hsw := T.out.sta.bel.size
                      have hsk := hk2.size
                      have A6 : Hid (Aft w u6 X g d r (3 * k + 3 + 3) U2 F2 D (D.act x) q q1) := Aft.mk' T1 hd2 (hr2.mono fun j hj ha => ⟨ha, by omega⟩) hU2 hk2 (T1.fd.a_act (by omega) x HO.out.2.2.2.2.2.2.1) (fun h => by have := hd2.lt g h; omega) (by omega) (fun e => by have := T1.bx.lt; omega) (Grows.trans h23 hg4) b5 q5 hg6
                      clear T1 hd2 hr2 hU2 hF2 hk2 ks2 ks3 ks4 hg3 hg4 b5 q5 hg6 hs1 hg1 LR HB HK HO bX hXF T bg bg4 h23 ks1
                      go_wp2_with fail
                      go_meet
                      case rel => exact ⟨g, q1, U2, F2, (by rw [hgE]), rfl, A6⟩
                    · refine (Makes.op (cells := #[.int .i64 0, .int .i64 0, .bool false, .bool false, .int .i64 0, .slice none 0 0, .slice none 0 0, .slice none 0 0, .slice none 0 0, .int .i64 0]) (t := 40) ⟨_, rfl, rfl, rfl, fun ρ w => rfl⟩ ?_)
                      refine ⟨ks0.alloc _, ?_⟩
                      obtain ⟨g, hgE⟩ : ∃ g, g = u0.heap.size := ⟨_, rfl⟩
                      rw [← hgE]
                      have hs0 : Grows wr u0 := Grows.trans (Below.refl _ wr).drew hg0
                      have T0 := T.out.grow hs0
                      have bg : Blk (u0.alloc (.cells #[.int .i64 0, .int .i64 0, .bool false, .bool false, .int .i64 0, .slice none 0 0, .slice none 0 0, .slice none 0 0, .slice none 0 0, .int .i64 0] 40)) g z40 40 := Blk.newAt u0 _ _ g hgE.symm _ rfl
                      have h01 : Grows u0 (u0.alloc (.cells #[.int .i64 0, .int .i64 0, .bool false, .bool false, .int .i64 0, .slice none 0 0, .slice none 0 0, .slice none 0 0, .slice none 0 0, .int .i64 0] 40)) := below_alloc _ _
                      generalize u0.alloc (.cells #[.int .i64 0, .int .i64 0, .bool false, .bool false, .int .i64 0, .slice none 0 0, .slice none 0 0, .slice none 0 0, .slice none 0 0, .int .i64 0] 40) = u0b at *
                      simp only [Act.put, List.setIfInBounds_toArray, List.set_cons_zero, List.set_cons_succ]
                      refine callE 7 (some 96) 14 #[.tmp 89, .tmp 90, .tmp 91, .tmp 95] #[29, 31, 40, 50] #[.pointer (some ⟨r, 0, none⟩), .pointer (some ⟨d, 0, none⟩), dv D q, .agg (oc x pa pm pq ka kn kc).toArray] rfl rfl rfl (by rfl) (by rfl) (by kernel_rfl) (by kernel_rfl) Try.call14 fun u1 hg1 _ => ?_
                      have hs1 : Grows u0 u1 := Grows.trans h01 hg1
                      have T1 := T0.grow hs1
                      have hw1 : Grows wr u1 := Grows.trans hs0 hs1
                      have hlg := bg.lt
                      have s1 := Below.size hg1
                      have s0 := Below.size hs0
                      have hsw := T.out.sta.bel.size
                      have rd1 : RD (fun j => ¬ F j ∧ ¬ (j = X ∨ j = g)) u1 D q := (T0.rd.mono (A' := fun j => ¬ F j ∧ ¬ (j = X ∨ j = g)) fun j hj ha => ⟨ha.1, fun e => by rcases e with e | e; exact ha.2 e; omega⟩).below hs1
                      refine (lDo u1 (V := fun j => j = X ∨ j = g) T1.sta.dk (fun j e => by rcases e with e | e; rw [e]; exact T1.bx.lt; omega) rd1 T1.fd T1.fe (by omega) x (HB.out.grow hw1) (HK.out.keep hw1.size (fun j hj _ => hw1.block j hj)) HO.out).mono ?_
                      rintro e u2 ⟨q1, bb, rfl, hbb, U2, F2, hd2, hr2, hU2, hF2, hk2⟩
                      obtain rfl : bb = true := hbb rfl
                      have ks2 : Kp F wr u2 := (Kp.of_below hw1).trans hk2
                      refine ⟨_, rfl, ks2, ?_⟩
                      simp only [Act.put, List.setIfInBounds_toArray, List.set_cons_zero, List.set_cons_succ]
                      refine takeT 8 (some 88) (.tuple #[dv (D.act x) q1, .bool true]) rfl rfl (by kernel_rfl) (fun _ _ _ h => h) (ans_plain (by rfl) (fun w _ => rfl)) ?_
                      simp only [Act.put, List.setIfInBounds_toArray, List.set_cons_zero, List.set_cons_succ]
                      refine takeT 9 (some 97) (dv (D.act x) q1) rfl rfl (by kernel_rfl) (fun _ _ _ h => h) (ans_plain (by rfl) (fun w _ => by unfold execOp; go_simp)) ?_
                      simp only [Act.put, List.setIfInBounds_toArray, List.set_cons_zero, List.set_cons_succ]
                      refine takeP 10 (some 98) (.bool true) rfl rfl (by kernel_rfl) (fun _ _ _ h => h) (by rfl) (fun w => by unfold execOp; go_simp) ?_
                      simp only [Act.put, List.setIfInBounds_toArray, List.set_cons_zero, List.set_cons_succ]
                      refine goE (by kernel_rfl) (by kernel_rfl) (by kernel_rfl) fun u4 hg4 ks4 => ?_
                      have hgU0 : ¬ U g := fun h => by have := T0.sta.dk.lt g h; omega
                      have hgF : ¬ F g := fun h => hgU0 (T0.sta.dk.sub g h)
                      have bg1 := bg.below hg1 bg.lt
                      have bg2 := hk2.blk bg1 hgF
                      have bg4 := bg2.below hg4 bg2.lt
                      refine opStR 12 40 (.tmp 16) (.tmp 97) 10 rfl rfl rfl rfl g z40 (dc (D.act x) q1) _ bg4 rfl rfl (dc_one _ _) size40 rfl rfl fun u5 b5 q5 => ?_
                      refine takeP 13 (some 17) (.bool true) rfl rfl (by kernel_rfl) (fun _ _ _ h => h) (by rfl) (fun w => by unfold execOp; go_simp) ?_
                      simp only [Act.put, List.setIfInBounds_toArray, List.set_cons_zero, List.set_cons_succ]
                      refine endE (by kernel_rfl) fun u6 hg6 => ?_
                      have A6 : Hid (Aft w u6 X g d r (3 * k + 3 + 3) U2 F2 D (D.act x) q q1) := Aft.mk' T1 hd2 (hr2.mono fun j hj ha => ⟨⟨ha.1, fun e => ha.2 (Or.inl e)⟩, fun e => ha.2 (Or.inr e)⟩) hU2 hk2 (T1.fd.a_act (by omega) x HO.out.2.2.2.2.2.2.1) (fun h => by rcases hU2 g h with h | h; exact hgU0 h; omega) (by omega) (fun e => by have := T0.bx.lt; omega) hg4 b5 q5 hg6
                      clear T1 T0 hd2 hr2 hU2 hF2 hk2 ks2 ks4 hg4 b5 q5 hg6 hs1 hg1 LR HB HK HO bX hXF T bg bg1 bg2 bg4 hs0 h01 hw1 rd1 ks0 hgU0 hgF
                      go_wp2_with fail
                      go_meet
                      case rel => exact ⟨g, q1, U2, F2, (by rw [hgE]), rfl, A6⟩
                  case rest =>
                    obtain ⟨g, q1, U2, F2, rfl, rfl, A⟩ := hcut
                    obtain ⟨D1, hD1⟩ : ∃ D1, D1 = D.act x := ⟨_, rfl⟩
                    have nD1 : D1.n = a0 := by rw [hD1]; exact (act_same D x).1.trans hnD
                    rw [← hD1] at A
                    clear hD1 hnD
                    have bG := A.out.bg
                    have bX := A.out.bx
                    have hz0 : ¬ a0 = 0 := by omega
                    have hz1 : (a0 == 0) = false := by simp [hz0]
                    go_wp2_with (first | ((with_reducible refine at_ld 40 ?_); (refine ld 40 (.tmp 16) 10 size40 _ Try.underlying40 rfl g 0 (dc D1 q1) rfl bG.whole rfl ?_)) | ((with_reducible refine at_st 40 ?_); (refine st' 40 (.tmp 13) (.tmp 99) 10 size40 X 0 (dc D1 q1) rfl (dc_one _ _) (bX.there 0 10 (by simp [dc])) rfl rfl ?_); intro u5 hu5; have b5 : Blk u5 X (dc D1 q1) 40 := (by rw [hu5]; exact bX.setsW _ rfl); have q5 : Kp (fun j => j = X) wc u5 := (by rw [hu5]; exact Kp.of_grown (but_cells _ _ _ _)); have T5 : Hid (Two w u5 X d r (3 * k + 3 + 3) U2 F2 D1 D1 q1) := A.out.two b5 q5; clear hu5 b5 q5 A bG bX))
                    have bX5 := T5.out.bx
                    have hln : D1.loose.length = q1.ln := T5.out.rd.loose.len
                    have F9 : ∀ u, Grows u5 u → u.cell? ⟨X, 9, none⟩ = some (.int .i64 (D1.steps : Int)) := fun u h => (bX5.below h bX5.lt).cell 9
                    have F6 : ∀ u, Grows u5 u → u.cell? ⟨X, 6, none⟩ = some (.slice q1.la q1.ln q1.lc) := fun u h => (bX5.below h bX5.lt).cell 6
                    have F3 : ∀ u, Grows u5 u → u.cell? ⟨X, 3, none⟩ = some (.bool D1.p.down) := fun u h => (bX5.below h bX5.lt).cell 3
                    have hsf := T5.out.fd.safe
                    have hlo := T5.out.fd.loose
                    have C1 : Hid (∀ u, Grows u5 u → Calls Try.prog 15 #[.pointer (some ⟨d, 0, none⟩)] u fun e w' => e = .returned (.int .i64 (D1.steps : Int)) ∧ Below u.heap.size u w') := fun u h => oDSteps u (T5.out.sta.dk.grows h)
                    have C2 : Hid (∀ u, Grows u5 u → Calls Try.prog 16 #[.pointer (some ⟨d, 0, none⟩)] u fun e w' => e = .returned (.int .i64 (q1.ln : Int)) ∧ Below u.heap.size u w') := fun u h => by rw [← hln]; exact oDLoose u (T5.out.sta.dk.grows h)
                    have C3 : Hid (∀ u, Grows u5 u → Calls Try.prog 17 #[.pointer (some ⟨r, 0, none⟩)] u fun e w' => e = .returned (.bool D1.p.down) ∧ Below u.heap.size u w') := fun u h => (oPDown u (T5.out.sta.dk.grows h).pw.1).mono (by rintro e w' ⟨rfl, rfl⟩; exact ⟨rfl, Below.refl _ _⟩)
                    have C4 : Hid (∀ u, Grows u5 u → Calls Try.prog 19 #[.pointer (some ⟨d, 0, none⟩), .int .i64 K] u fun e w' => ∃ p m c, e = .returned (.slice p m c) ∧ Bs w' p m c (D1.look K) ∧ Below u.heap.size u w') := fun u h => (oDLook u (T5.out.sta.dk.grows h) T5.out.fd (by omega) K (by omega)).mono (by rintro e w' ⟨p, m, c, rfl, hb, hk⟩; exact ⟨p, m, c, rfl, hb.1, hk⟩)
                    have C5 : Hid (∀ u, Grows u5 u → Calls Try.prog 20 #[dv D1 q1, .int .i64 K] u fun e w' => ∃ p m c, e = .returned (.slice p m c) ∧ Bs w' p m c (D1.look K) ∧ Below u.heap.size u w') := fun u h => (rLook u ((T5.out.rd.mono (A' := fun j => (¬ F2 j ∧ ¬ j = X) ∨ u5.heap.size ≤ j) fun j _ ha => Or.inl ha).below h) (fun j hj => Or.inr (Nat.le_trans (Below.size h) hj)) K (by omega) (by omega)).mono (by rintro e w' ⟨p, m, c, rfl, hb, hk⟩; exact ⟨p, m, c, rfl, hb.1, hk⟩)
                    generalize D1.look K = lk at *
                    obtain ⟨dn, hdn⟩ : ∃ dn, dn = D1.p.down := ⟨_, rfl⟩
                    rw [← hdn] at F3 C3
                    obtain ⟨st, hst⟩ : ∃ st : Int, st = (D1.steps : Int) := ⟨_, rfl⟩
                    rw [← hst] at F9 C1
                    clear hdn hst hln hsf hlo
                    refine regionG (S := Grows u5) (by kernel_rfl) (Below.refl _ u5).drew ?_
                    refine takeG 0 (some 104) (.bool true) rfl rfl (by kernel_rfl) (by kernel_rfl) (by kernel_rfl) (fun _ _ _ h => h) (ans_plain (by rfl) (fun w _ => rfl)) ?_
                    simp only [Act.put, List.setIfInBounds_toArray, List.set_cons_zero, List.set_cons_succ]
                    refine takeG 1 (some 105) (.bool false) rfl rfl (by kernel_rfl) (by kernel_rfl) (by kernel_rfl) (fun _ _ _ h => h) (ans_plain (by rfl) (fun w _ => by unfold execOp; go_simp)) ?_
                    simp only [Act.put, List.setIfInBounds_toArray, List.set_cons_zero, List.set_cons_succ]
                    refine takeG 2 (some 106) (.bool false) rfl rfl (by kernel_rfl) (by kernel_rfl) (by kernel_rfl) (fun _ _ _ h => h) (ans_plain (by rfl) (fun w _ => rfl)) ?_
                    simp only [Act.put, List.setIfInBounds_toArray, List.set_cons_zero, List.set_cons_succ]
                    refine takeG 3 (some 107) (.pointer (some ⟨d, 0, none⟩)) rfl rfl (by kernel_rfl) (by kernel_rfl) (by kernel_rfl) (fun _ _ _ h => h) (ans_plain (by rfl) (fun w _ => rfl)) ?_
                    simp only [Act.put, List.setIfInBounds_toArray, List.set_cons_zero, List.set_cons_succ]
                    refine takeG 4 (some 108) (.int .i64 st) rfl rfl (by kernel_rfl) (by kernel_rfl) (by kernel_rfl) (fun _ _ _ h => h) (ans_fn 15 #[.tmp 107] #[31] #[.pointer (some ⟨d, 0, none⟩)] rfl (by rfl) (by rfl) Try.call15 fun u h => C1.out u h) ?_
                    simp only [Act.put, List.setIfInBounds_toArray, List.set_cons_zero, List.set_cons_succ]
                    refine takeG 5 (some 109) (.pointer (some ⟨X, 9, none⟩)) rfl rfl (by kernel_rfl) (by kernel_rfl) (by kernel_rfl) (fun _ _ _ h => h) (ans_plain (by rfl) (fun w _ => by unfold execOp; go_simp)) ?_
                    simp only [Act.put, List.setIfInBounds_toArray, List.set_cons_zero, List.set_cons_succ]
                    refine takeG 6 (some 110) (.int .i64 st) rfl rfl (by kernel_rfl) (by kernel_rfl) (by kernel_rfl) (fun _ _ _ h => h) (ans_plain (by rfl) (fun w h => by have hc := F9 w h; unfold execOp; go_simp)) ?_
                    simp only [Act.put, List.setIfInBounds_toArray, List.set_cons_zero, List.set_cons_succ]
                    refine takeG 7 (some 111) (.bool false) rfl rfl (by kernel_rfl) (by kernel_rfl) (by kernel_rfl) (fun _ _ _ h => h) (ans_plain (by rfl) (fun w _ => by unfold execOp; go_simp)) ?_
                    simp only [Act.put, List.setIfInBounds_toArray, List.set_cons_zero, List.set_cons_succ]
                    refine takeG 8 (some 112) (.bool false) rfl rfl (by kernel_rfl) (by kernel_rfl) (by kernel_rfl) (fun _ _ _ h => h) (ans_plain (by rfl) (fun w _ => by unfold execOp; go_simp)) ?_
                    simp only [Act.put, List.setIfInBounds_toArray, List.set_cons_zero, List.set_cons_succ]
                    refine takeG 9 (some 113) (.bool false) rfl rfl (by kernel_rfl) (by kernel_rfl) (by kernel_rfl) (fun _ _ _ h => h) (ans_plain (by rfl) (fun w _ => rfl)) ?_
                    simp only [Act.put, List.setIfInBounds_toArray, List.set_cons_zero, List.set_cons_succ]
                    refine takeG 10 (some 114) (.pointer (some ⟨d, 0, none⟩)) rfl rfl (by kernel_rfl) (by kernel_rfl) (by kernel_rfl) (fun _ _ _ h => h) (ans_plain (by rfl) (fun w _ => rfl)) ?_
                    simp only [Act.put, List.setIfInBounds_toArray, List.set_cons_zero, List.set_cons_succ]
                    refine takeG 11 (some 115) (.int .i64 (q1.ln : Int)) rfl rfl (by kernel_rfl) (by kernel_rfl) (by kernel_rfl) (fun _ _ _ h => h) (ans_fn 16 #[.tmp 114] #[31] #[.pointer (some ⟨d, 0, none⟩)] rfl (by rfl) (by rfl) Try.call16 fun u h => C2.out u h) ?_
                    simp only [Act.put, List.setIfInBounds_toArray, List.set_cons_zero, List.set_cons_succ]
                    refine takeG 12 (some 116) (.pointer (some ⟨X, 6, none⟩)) rfl rfl (by kernel_rfl) (by kernel_rfl) (by kernel_rfl) (fun _ _ _ h => h) (ans_plain (by rfl) (fun w _ => by unfold execOp; go_simp)) ?_
                    simp only [Act.put, List.setIfInBounds_toArray, List.set_cons_zero, List.set_cons_succ]
                    refine takeG 13 (some 117) (.slice q1.la q1.ln q1.lc) rfl rfl (by kernel_rfl) (by kernel_rfl) (by kernel_rfl) (fun _ _ _ h => h) (ans_plain (by rfl) (fun w h => by have hc := F6 w h; unfold execOp; go_simp)) ?_
                    simp only [Act.put, List.setIfInBounds_toArray, List.set_cons_zero, List.set_cons_succ]
                    refine takeG 14 (some 118) (.int .i64 (q1.ln : Int)) rfl rfl (by kernel_rfl) (by kernel_rfl) (by kernel_rfl) (fun _ _ _ h => h) (ans_plain (by rfl) (fun w _ => by unfold execOp; go_simp)) ?_
                    simp only [Act.put, List.setIfInBounds_toArray, List.set_cons_zero, List.set_cons_succ]
                    refine takeG 15 (some 119) (.bool false) rfl rfl (by kernel_rfl) (by kernel_rfl) (by kernel_rfl) (fun _ _ _ h => h) (ans_plain (by rfl) (fun w _ => by unfold execOp; go_simp)) ?_
                    simp only [Act.put, List.setIfInBounds_toArray, List.set_cons_zero, List.set_cons_succ]
                    refine takeG 16 (some 120) (.bool false) rfl rfl (by kernel_rfl) (by kernel_rfl) (by kernel_rfl) (fun _ _ _ h => h) (ans_plain (by rfl) (fun w _ => by unfold execOp; go_simp)) ?_
                    simp only [Act.put, List.setIfInBounds_toArray, List.set_cons_zero, List.set_cons_succ]
                    refine takeG 17 (some 121) (.bool false) rfl rfl (by kernel_rfl) (by kernel_rfl) (by kernel_rfl) (fun _ _ _ h => h) (ans_plain (by rfl) (fun w _ => rfl)) ?_
                    simp only [Act.put, List.setIfInBounds_toArray, List.set_cons_zero, List.set_cons_succ]
                    refine takeG 18 (some 122) (.pointer (some ⟨r, 0, none⟩)) rfl rfl (by kernel_rfl) (by kernel_rfl) (by kernel_rfl) (fun _ _ _ h => h) (ans_plain (by rfl) (fun w _ => rfl)) ?_
                    simp only [Act.put, List.setIfInBounds_toArray, List.set_cons_zero, List.set_cons_succ]
                    refine takeG 19 (some 123) (.bool dn) rfl rfl (by kernel_rfl) (by kernel_rfl) (by kernel_rfl) (fun _ _ _ h => h) (ans_fn 17 #[.tmp 122] #[29] #[.pointer (some ⟨r, 0, none⟩)] rfl (by rfl) (by rfl) Try.call17 fun u h => C3.out u h) ?_
                    simp only [Act.put, List.setIfInBounds_toArray, List.set_cons_zero, List.set_cons_succ]
                    refine takeG 20 (some 124) (.pointer (some ⟨X, 0, none⟩)) rfl rfl (by kernel_rfl) (by kernel_rfl) (by kernel_rfl) (fun _ _ _ h => h) (ans_plain (by rfl) (fun w _ => by unfold execOp; go_simp)) ?_
                    simp only [Act.put, List.setIfInBounds_toArray, List.set_cons_zero, List.set_cons_succ]
                    refine takeG 21 (some 125) (.pointer (some ⟨X, 3, none⟩)) rfl rfl (by kernel_rfl) (by kernel_rfl) (by kernel_rfl) (fun _ _ _ h => h) (ans_plain (by rfl) (fun w _ => by unfold execOp; go_simp)) ?_
                    simp only [Act.put, List.setIfInBounds_toArray, List.set_cons_zero, List.set_cons_succ]
                    refine takeG 22 (some 126) (.bool dn) rfl rfl (by kernel_rfl) (by kernel_rfl) (by kernel_rfl) (fun _ _ _ h => h) (ans_plain (by rfl) (fun w h => by have hc := F3 w h; unfold execOp; go_simp)) ?_
                    simp only [Act.put, List.setIfInBounds_toArray, List.set_cons_zero, List.set_cons_succ]
                    refine takeG 23 (some 127) (.bool false) rfl rfl (by kernel_rfl) (by kernel_rfl) (by kernel_rfl) (fun _ _ _ h => h) (ans_plain (by rfl) (fun w _ => by unfold execOp; go_simp)) ?_
                    simp only [Act.put, List.setIfInBounds_toArray, List.set_cons_zero, List.set_cons_succ]
                    refine takeG 24 (some 128) (.bool false) rfl rfl (by kernel_rfl) (by kernel_rfl) (by kernel_rfl) (fun _ _ _ h => h) (ans_plain (by rfl) (fun w _ => by unfold execOp; go_simp)) ?_
                    simp only [Act.put, List.setIfInBounds_toArray, List.set_cons_zero, List.set_cons_succ]
                    refine takeG 25 (some 129) (.bool false) rfl rfl (by kernel_rfl) (by kernel_rfl) (by kernel_rfl) (fun _ _ _ h => h) (ans_plain (by rfl) (fun w _ => rfl)) ?_
                    simp only [Act.put, List.setIfInBounds_toArray, List.set_cons_zero, List.set_cons_succ]
                    refine takeG 26 (some 130) (.pointer (some ⟨d, 0, none⟩)) rfl rfl (by kernel_rfl) (by kernel_rfl) (by kernel_rfl) (fun _ _ _ h => h) (ans_plain (by rfl) (fun w _ => rfl)) ?_
                    simp only [Act.put, List.setIfInBounds_toArray, List.set_cons_zero, List.set_cons_succ]
                    refine takeG 27 (some 131) (.int .i64 K) rfl rfl (by kernel_rfl) (by kernel_rfl) (by kernel_rfl) (fun _ _ _ h => h) (ans_plain (by rfl) (fun w _ => rfl)) ?_
                    simp only [Act.put, List.setIfInBounds_toArray, List.set_cons_zero, List.set_cons_succ]
                    refine takeG 29 (some 133) (dv D1 q1) rfl rfl (by kernel_rfl) (by kernel_rfl) (by kernel_rfl) (fun _ _ _ h => h) (ans_row 40 (.tmp 13) _ 10 rfl (by rfl) X 0 rfl (dc D1 q1) (fun u h => (bX5.below h bX5.lt).whole) Try.underlying40 rfl rfl size40) ?_
                    simp only [Act.put, List.setIfInBounds_toArray, List.set_cons_zero, List.set_cons_succ]
                    refine takeG 30 (some 134) (.int .i64 K) rfl rfl (by kernel_rfl) (by kernel_rfl) (by kernel_rfl) (fun _ _ _ h => h) (ans_plain (by rfl) (fun w _ => rfl)) ?_
                    simp only [Act.put, List.setIfInBounds_toArray, List.set_cons_zero, List.set_cons_succ]
                    refine callG 28 (some 132) 19 #[.tmp 130, .tmp 131] #[31, 3] #[.pointer (some ⟨d, 0, none⟩), .int .i64 K] rfl rfl rfl (by rfl) (by rfl) (by kernel_rfl) Try.call19 fun x1 hg1 hs1 => ?_
                    refine (C4.out x1 hs1).mono ?_
                    rintro e x2 ⟨lp, lm, lc, rfl, HL, hb2⟩
                    have hs2 : Grows u5 x2 := Grows.trans hs1 hb2
                    refine ⟨_, rfl, hs2, ?_⟩
                    simp only [Act.put, List.setIfInBounds_toArray, List.set_cons_zero, List.set_cons_succ]
                    refine callG 31 (some 135) 20 #[.tmp 133, .tmp 134] #[40, 3] #[dv D1 q1, .int .i64 K] rfl rfl rfl (by rfl) (by rfl) (by kernel_rfl) Try.call20 fun x3 hg3 hs3 => ?_
                    refine (C5.out x3 hs3).mono ?_
                    rintro e x4 ⟨kp, km, kc2, rfl, HK4, hb4⟩
                    have hs4 : Grows u5 x4 := Grows.trans hs3 hb4
                    have HL4 := HL.below (Grows.trans hg3 hb4) (Nat.le_refl _)
                    refine ⟨_, rfl, hs4, ?_⟩
                    simp only [Act.put, List.setIfInBounds_toArray, List.set_cons_zero, List.set_cons_succ]
                    refine callG 32 (some 136) 18 #[.tmp 132, .tmp 135] #[26, 26] #[.slice lp lm lc, .slice kp km kc2] rfl rfl rfl (by rfl) (by rfl) (by kernel_rfl) Try.call18 fun x5 hg5 hs5 => ?_
                    refine (rSame x5 (HL4.below hg5 (Nat.le_refl _)) (HK4.below hg5 (Nat.le_refl _))).mono ?_
                    rintro e x6 ⟨rfl, k6, rfl⟩
                    rw [decide_eq_true rfl]
                    refine ⟨_, rfl, Grows.trans hs5 (below_drewN' x5 k6), ?_⟩
                    simp only [Act.put, List.setIfInBounds_toArray, List.set_cons_zero, List.set_cons_succ]
                    refine takeG 33 (some 137) (.bool false) rfl rfl (by kernel_rfl) (by kernel_rfl) (by kernel_rfl) (fun _ _ _ h => h) (ans_plain (by rfl) (fun w _ => by unfold execOp; go_simp)) ?_
                    simp only [Act.put, List.setIfInBounds_toArray, List.set_cons_zero, List.set_cons_succ]
                    refine takeG 34 (some 138) (.bool false) rfl rfl (by kernel_rfl) (by kernel_rfl) (by kernel_rfl) (fun _ _ _ h => h) (ans_plain (by rfl) (fun w _ => by unfold execOp; go_simp)) ?_
                    simp only [Act.put, List.setIfInBounds_toArray, List.set_cons_zero, List.set_cons_succ]
                    refine doneG (by kernel_rfl) fun x7 hg7 hs7 => ?_
                    have T7 : Hid (Two w x7 X d r (3 * (k + 1) + 3) U2 F2 D1 D1 q1) := T5.out.grow hs7
                    clear T5 C1 C2 C3 C4 C5 F9 F6 F3 bX5 hs1 hs2 hs3 hs4 hs5 hs7 hg1 hg3 hg5 hg7 HL HL4 HK4 hb2 hb4
                    go_wp2_with fail
                    go_roundw
                    case rel => exact ⟨k + 1, U2, F2, D1, q1, by omega, by go_num, T7, nD1⟩
                    case measure => simp [intOf]; omega
                · have i0 : ¬ (k : Int) < (len2 : Int) := by omega
                  have bX := T.out.bx
                  have hse := T.out.fd.seen
                  have F7 : ∀ u, Grows wr u → u.cell? ⟨X, 7, none⟩ = some (.slice q.ta q.tn q.tc) := fun u h => (bX.below h bX.lt).cell 7
                  have C1 : Hid (∀ u, Grows wr u → Calls Try.prog 22 #[.pointer (some ⟨d, 0, none⟩)] u fun e w' => ∃ p m c, e = .returned (.slice p m c) ∧ Sl (elT fun _ => True) 3 (fun _ => True) w' p m c D.seen ∧ Below u.heap.size u w') := fun u h => oDSeen u (T.out.sta.dk.grows h) T.out.fd (by omega)
                  have hbw := T.out.sta.bel
                  have ST : Hid (Sl (elT fun j => ¬ F j ∧ ¬ j = X) 3 (fun j => ¬ F j ∧ ¬ j = X) wr q.ta q.tn q.tc D.seen) := T.out.rd.seen
                  have htn : D.seen.length = q.tn := ST.out.len
                  clear T
                  go_wp2_with fail
                  refine regionG (S := Grows wr) (by kernel_rfl) (Below.refl _ wr).drew ?_
                  refine takeG 0 (some 139) (.pointer (some ⟨d, 0, none⟩)) rfl rfl (by kernel_rfl) (by kernel_rfl) (by kernel_rfl) (fun _ _ _ h => h) (ans_plain (by rfl) (fun w _ => rfl)) ?_
                  simp only [Act.put, List.setIfInBounds_toArray, List.set_cons_zero, List.set_cons_succ]
                  refine takeG 2 (some 141) (.pointer (some ⟨X, 7, none⟩)) rfl rfl (by kernel_rfl) (by kernel_rfl) (by kernel_rfl) (fun _ _ _ h => h) (ans_plain (by rfl) (fun w _ => by unfold execOp; go_simp)) ?_
                  simp only [Act.put, List.setIfInBounds_toArray, List.set_cons_zero, List.set_cons_succ]
                  refine takeG 3 (some 142) (.slice q.ta q.tn q.tc) rfl rfl (by kernel_rfl) (by kernel_rfl) (by kernel_rfl) (fun _ _ _ h => h) (ans_plain (by rfl) (fun w h => by have hc := F7 w h; unfold execOp; go_simp)) ?_
                  simp only [Act.put, List.setIfInBounds_toArray, List.set_cons_zero, List.set_cons_succ]
                  refine callG 1 (some 140) 22 #[.tmp 139] #[31] #[.pointer (some ⟨d, 0, none⟩)] rfl rfl rfl (by rfl) (by rfl) (by kernel_rfl) Try.call22 fun x1 hg1 hs1 => ?_
                  refine (C1.out x1 hs1).mono ?_
                  rintro e x2 ⟨sp, sm, sc, rfl, HS, hb2⟩
                  have hs2 : Grows wr x2 := Grows.trans hs1 hb2
                  have hsm : D.seen.length = sm := HS.len
                  refine ⟨_, rfl, hs2, ?_⟩
                  simp only [Act.put, List.setIfInBounds_toArray, List.set_cons_zero, List.set_cons_succ]
                  refine callG 4 (some 143) 21 #[.tmp 140, .tmp 142] #[38, 38] #[.slice sp sm sc, .slice q.ta q.tn q.tc] rfl rfl rfl (by rfl) (by rfl) (by kernel_rfl) Try.call21 fun x3 hg3 hs3 => ?_
                  refine (rTouches x3 (HS.keep (Below.size hg3) (elT.keep fun j hj _ => Below.block hg3 j hj) fun j hj _ => Below.block hg3 j hj) (ST.out.keep (Below.size hs3) (elT.keep fun j hj _ => Below.block hs3 j hj) fun j hj _ => Below.block hs3 j hj) (by omega) (by omega)).mono ?_
                  rintro e x4 ⟨rfl, hb4⟩
                  rw [decide_eq_true rfl]
                  have hs4 : Grows wr x4 := Grows.trans hs3 hb4
                  refine ⟨_, rfl, hs4, ?_⟩
                  simp only [Act.put, List.setIfInBounds_toArray, List.set_cons_zero, List.set_cons_succ]
                  refine takeG 5 (some 144) (.bool true) rfl rfl (by kernel_rfl) (by kernel_rfl) (by kernel_rfl) (fun _ _ _ h => h) (ans_plain (by rfl) (fun w _ => rfl)) ?_
                  simp only [Act.put, List.setIfInBounds_toArray, List.set_cons_zero, List.set_cons_succ]
                  refine callG 6 (some 145) 7 #[] #[] #[] rfl rfl rfl (by rfl) (by rfl) (by kernel_rfl) Try.call7 fun x5 hg5 hs5 => ?_
                  refine (lWorks9 x5).mono ?_
                  rintro e x6 ⟨rfl, hb6⟩
                  refine ⟨_, rfl, Grows.trans hs5 hb6, ?_⟩
                  simp only [Act.put, List.setIfInBounds_toArray, List.set_cons_zero, List.set_cons_succ]
                  refine takeG 7 (some 146) (.bool true) rfl rfl (by kernel_rfl) (by kernel_rfl) (by kernel_rfl) (fun _ _ _ h => h) (ans_plain (by rfl) (fun w _ => by unfold execOp; go_simp)) ?_
                  simp only [Act.put, List.setIfInBounds_toArray, List.set_cons_zero, List.set_cons_succ]
                  refine takeG 8 (some 8) (.bool true) rfl rfl (by kernel_rfl) (by kernel_rfl) (by kernel_rfl) (fun _ _ _ h => h) (ans_plain (by rfl) (fun w _ => rfl)) ?_
                  simp only [Act.put, List.setIfInBounds_toArray, List.set_cons_zero, List.set_cons_succ]
                  refine doneG (by kernel_rfl) fun x7 hg7 hs7 => ?_
                  have hb7 := hbw.trans (Below.mono hs7 hbw.size)
                  clear C1 F7 ST HS hs1 hs2 hs3 hs4 hs5 hs7 hg1 hg3 hg5 hg7 hb2 hb4 hb6 bX
                  go_wp2_with fail
                  go_ret
                  exact ⟨rfl, hb7⟩
        · have hnot : ¬ (1 ≤ a0 ∧ a0 ≤ 4096) := by omega
          go_wp2_with fail
          go_loopw [9] (fun i wr => ∃ k : Nat, k ≤ len1 ∧ i = .int .i64 (k : Int) ∧ Hid (∀ x ∈ l1.take k, x.bytes.length ≤ 1000) ∧ v0 = wr) (fun i _ => len1 - (intOf i).toNat)
          case atStart => exact ⟨0, Nat.zero_le _, rfl, (fun x hx => by simp at hx), rfl⟩
          case round =>
            obtain ⟨k, hk, rfl, HI, rfl⟩ := hrel
            by_cases hlt : k < len1
            · have i0 : (k : Int) < (len1 : Int) := by omega
              obtain ⟨x, hx⟩ : ∃ x, l1[k]? = some x := ⟨_, List.getElem?_eq_getElem (by omega)⟩
              obtain ⟨b, o, p, m, q, rfl, hbl, c3, hbm⟩ := W1.out.at hb0 hx
              by_cases h1 : m ≤ 1000
              · have i1 : ¬ (1000 : Int) < (m : Int) := by omega
                have HN : Hid (∀ x ∈ l1.take (k + 1), x.bytes.length ≤ 1000) := fun z hz => by
                  rw [List.take_add_one, hx] at hz
                  rcases List.mem_append.1 hz with hz | hz
                  · exact HI.out z hz
                  · simp at hz
                    subst hz
                    omega
                clear hx HI hbm
                go_wp2_with fail
                go_roundw
                case rel => exact ⟨k + 1, by omega, by go_num, HN, (by first | rfl | trivial)⟩
                case measure => simp [intOf]; omega
              · have i1 : (1000 : Int) < (m : Int) := by omega
                clear hx HI hbm
                go_wp2_with fail
                refine (CW.out v0 hb0).mono ?_
                rintro e ww ⟨rfl, hbw⟩
                go_wp2_with fail
                go_ret
                exact ⟨rfl, hbw⟩
            · have i0 : ¬ (k : Int) < (len1 : Int) := by omega
              have HX : Hid (∀ x ∈ l1, x.bytes.length ≤ 1000) := fun x hx => HI.out x (by rw [List.take_of_length_le (by omega)]; exact hx)
              clear HI
              go_wp2_with fail
              refine (oPNew v0).mono ?_
              rintro e v1 ⟨r, rfl, hr, hp, hb1⟩
              have hb1' := hb0.trans (hb1.mono hb0.size)
              have hr' : w.heap.size ≤ r := Nat.le_trans hb0.size hr
              clear hb1 hr
              go_wp2_with fail
              refine (oDNewNot v1 hp a0 hnot).mono ?_
              rintro e v2 ⟨rfl, hb2⟩
              have hb2' := hb1'.trans (hb2.mono hb1'.size)
              clear hp hb2 hb1' hr'
              go_wp2_with fail
              refine (rPNew v2).mono ?_
              rintro e v3 ⟨rfl, hb3⟩
              have hb3' := hb2'.trans (hb3.mono hb2'.size)
              clear hb3 hb2'
              go_wp2_with fail
              refine (rDNewNot v3 PowS.new a0 hnot).mono ?_
              rintro e v4 ⟨rfl, hb4⟩
              have hb4' := hb3'.trans (hb4.mono hb3'.size)
              clear hb4 hb3' hnot
              obtain ⟨X, hX⟩ : ∃ X, X = v4.heap.size := ⟨_, rfl⟩
              have z7 : Blk (v4.alloc (.cells #[.int .i64 0, .int .i64 0, .bool false, .bool false, .int .i64 0, .slice none 0 0, .slice none 0 0, .slice none 0 0, .slice none 0 0, .int .i64 0] 40)) X z40 40 := Blk.newAt v4 _ _ X hX.symm _ rfl
              have k7 : Below v4.heap.size v4 (v4.alloc (.cells #[.int .i64 0, .int .i64 0, .bool false, .bool false, .int .i64 0, .slice none 0 0, .slice none 0 0, .slice none 0 0, .slice none 0 0, .int .i64 0] 40)) := below_alloc _ _
              go_wp2_with ((with_reducible refine at_st 40 ?_); (refine st' 40 (.tmp 13) (.tmp 61) 10 size40 v4.heap.size 0 z40 rfl (by intro v hv; simp only [z40, List.mem_cons, List.not_mem_nil, or_false] at hv; rcases hv with rfl | rfl | rfl | rfl | rfl | rfl | rfl | rfl | rfl | rfl <;> rfl) (by rw [← hX]; exact z7.there 0 10 (by simp [z40])) rfl rfl ?_); intro v5 hv5; have k5 : Below v4.heap.size v4 v5 := (by rw [hv5]; exact below_sets (Nat.le_refl _) _ k7 0); clear hv5)
              have hb5 := hb4'.trans (k5.mono hb4'.size)
              refine (CW.out v5 hb5).mono ?_
              rintro e ww ⟨rfl, hbw⟩
              go_wp2_with fail
              go_ret
              exact ⟨rfl, hbw⟩
    · have i20 : (20 : Int) < (len1 : Int) := by omega
      go_wp2_with fail
      refine (CW.out v0 hb0).mono ?_
      rintro e ww ⟨rfl, hbw⟩
      go_wp2_with fail
      go_ret
      exact ⟨rfl, hbw⟩

set_option maxRecDepth 100000 in
theorem lifted (os : Os) (started : os.Started) (H : Type) (enc : TypeId × Value → H) :
    ReturnsInHanded {} Try.checked os 3 .any (Rows.diskDoesSpec.pre6 enc Try.prog Try.f3 Rows.diskDoesRow.domain false) (Rows.diskDoesSpec.post enc Try.prog Try.f3 false true false false) := by
  refine returnsInHanded_of_change (C := Try.checked) own started (by kernel_rfl) Try.func3
    (ChangeSpec.witness6 (enc := enc) (C := Try.checked) false ⟨#[], #[.int .i64 0, .slice none 0 0, .slice none 0 0, .int .u8 0], []⟩ 8 (by kernel_rfl) (by kernel_rfl) (by kernel_rfl) (by kernel_rfl)) ?_
  intro W base args ds gs before hval0 hW hcnd _
  have hval : ∀ (j : Nat) t v, Try.f3.params[j]? = some t → args[j]? = some v → Value.okWide Try.prog W .any base t v := hval0
  have hW' := hW
  obtain ⟨p, q, hA0, hV, rfl, hfz, hnd⟩ := hW
  have hA : DataW.TrodAll enc Try.prog W 0 (fun _ => true) true Try.f3.params.toList args.toList ds p := hA0
  rw [Try.params3] at hA hval
  obtain ⟨v0, vs0, d0, ds0, p0, q0, hargs, rfl, rfl, h0, r0⟩ := trodAll_cons hA
  obtain ⟨v1, vs1, d1, ds1, p1, q1, rfl, rfl, rfl, h1, r1⟩ := trodAll_cons r0
  obtain ⟨v2, vs2, d2, ds2, p2, q2, rfl, rfl, rfl, h2, r2⟩ := trodAll_cons r1
  obtain ⟨v3, vs3, d3, ds3, p3, q3, rfl, rfl, rfl, h3, r3⟩ := trodAll_cons r2
  obtain ⟨rfl, rfl, rfl⟩ := trodAll_nil r3
  obtain rfl : args = #[v0, v1, v2, v3] := by cases args; simp_all
  obtain ⟨rfl, rfl⟩ := trodVars_none hV
  obtain ⟨a0, rfl, rfl, rfl, w0⟩ := open_int Try.underlying3 (hval 0 3 v0 rfl rfl) h0
  obtain ⟨a1, len1, cap1, rfl⟩ := okWide_slice Try.underlying22 (hval 1 22 v1 rfl rfl)
  have k1 := h1
  have lt1 : ∀ x ∈ p1, x.block < W.heap.size := by obtain ⟨m, hm⟩ := k1; exact DataW.trod_lt m _ _ _ hm
  obtain ⟨l1, w1⟩ : ∃ l, Pokes W a1 len1 cap1 l := by
    obtain ⟨fuel, hf⟩ := h1
    exact pokes_of_trod hf
  obtain ⟨a2, len2, cap2, rfl⟩ := okWide_slice Try.underlying23 (hval 2 23 v2 rfl rfl)
  have k2 := h2
  have lt2 : ∀ x ∈ p2, x.block < W.heap.size := by obtain ⟨m, hm⟩ := k2; exact DataW.trod_lt m _ _ _ hm
  obtain ⟨l2, w2⟩ : ∃ l, Acts W a2 len2 cap2 l := by
    obtain ⟨fuel, hf⟩ := h2
    exact acts_of_trod hf
  obtain ⟨a3, rfl, rfl, rfl, w3⟩ := open_int Try.underlying5 (hval 3 5 v3 rfl rfl) h3
  clear hA0 hval0
  refine (walk a0 a1 len1 cap1 l1 a2 len2 cap2 l2 a3 W w0 w1 w2 w3).mono fun e W' ⟨he, bel⟩ => ?_
  subst he
  exact ⟨_, rfl, _, _, _, [], _, [], hW', trodAll_mk1 (shut_bool Try.underlying4 _), (trodAll_cons_mk (shut_int Try.underlying3 w0) (trodAll_cons_mk (Below.trod laidOut (by kernel_rfl) (of_decide_eq_true (by kernel_rfl)) k1 bel lt1) (trodAll_cons_mk (Below.trod laidOut (by kernel_rfl) (of_decide_eq_true (by kernel_rfl)) k2 bel lt2) (trodAll_cons_mk (shut_int Try.underlying5 w3) trodAll_mk0)))), rfl, bel.frame _, fun h => by cases h⟩

theorem over : Rows.diskDoesRow.holds Try.pinned (OpenSpec.ofChange Rows.diskDoesSpec) :=
  OpenClaim.holds_of_wide 3 Try.f3 rfl rfl rfl rfl rfl rfl rfl ⟨rfl, rfl, rfl, rfl, rfl⟩ rfl rfl rfl rfl rfl (by kernel_rfl) Try.func3 (by kernel_rfl)
    (of_decide_eq_true (by kernel_rfl)) (by unfold Func.isWrapper; first | (rw [if_pos (by decide +kernel)]; kernel_rfl) | (rw [if_neg (by decide +kernel)]; exact ⟨rfl, rfl⟩))
    (fun os started H enc _ => lifted os started H enc)
end DiskDoesLaw

/-- The statement. -/
theorem diskDoes_holds : Rows.DiskDoesSaid := DiskDoesLaw.over
#print axioms diskDoes_holds
end Go.Proofs.Ytfdilgnlfademaa
