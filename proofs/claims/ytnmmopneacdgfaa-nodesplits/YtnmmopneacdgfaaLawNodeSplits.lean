/-
  Proved: for any node (and any bytes) the statement NodeSplits of layer 18 answers true and leaves its arguments as they were. Conditions beside the statement's own: none.
-/
import Derived.Test.YtnmmopneacdgfaaRows
import Derived.Test.YtnmmopneacdgfaaH20
import Derived.Below
import Derived.Deep.DeepCutAuto
import Derived.Deep.CutBlock
import Derived.ChangeOld
namespace Go.Proofs.Ytnmmopneacdgfaa
namespace NodeSplitsLaw
open Go.ChangeShapes Go.WideShapes Go.ChangeAt Go.RowKit
open Go.ChangeMaps (open_string shut_string)
set_option linter.unusedVariables false

theorem own : ownKnob Try.prog.godebug = none := by kernel_rfl
theorem laidOut : laidOutB Try.prog = true := by kernel_rfl

set_option maxRecDepth 100000 in
set_option maxHeartbeats 4000000 in
theorem walk (n0 : NodeS) (p0_ q0_ : Tri) (w : World) (w0 : NdIn w n0 p0_ q0_) :
    Calls Try.prog 6 #[.agg (ndc n0 p0_ q0_).toArray] w fun e w' => e = .returned (.bool true) ∧ Below w.heap.size w w' := by
  have N : Nd (fun _ => True) w n0 p0_ q0_ := Nd.mono w0 fun _ _ _ => trivial
  clear w0
  obtain ⟨pa, pn, pc⟩ := p0_
  obtain ⟨qa, qn, qc⟩ := q0_
  obtain ⟨V, hV⟩ : ∃ V, V = w.alloc (.cells (List.toArray [.bool n0.leaf, .slice pa pn pc, .slice qa qn qc]) 25) := ⟨_, rfl⟩
  have X : Blk V w.heap.size [.bool n0.leaf, .slice pa pn pc, .slice qa qn qc] 25 := by rw [hV]; exact Blk.newAt w _ _ w.heap.size rfl _ rfl
  have q : Below w.heap.size w V := by rw [hV]; exact below_alloc _ _
  replace N := N.below q
  have CL0 := lLight18 V N
  have CL : Hid (Calls Try.prog 7 #[.agg (List.toArray [.bool n0.leaf, .slice pa pn pc, .slice qa qn qc])] V fun e w' => ∃ z : Int, e = .returned (.int .i64 z) ∧ (z = 0 ∧ Ltd n0 ∨ z = 1) ∧ Below V.heap.size V w') := CL0
  clear CL0
  unfold ndc
  dsimp only
  go_enter Try.func6, Try.ntmps6
  go_upto_region 1 with fail
  rw [← hV]
  clear hV
  go_wp2_with (first | ((with_reducible refine at_ld 25 ?_); (refine ld 25 (.tmp 1) 3 sizeNd _ Try.underlying25 rfl (w.heap.size) 0 [.bool n0.leaf, .slice pa pn pc, .slice qa qn qc] rfl X.whole rfl ?_)) | (go_at_call 7; go_must (refine CL.out.mono ?_); rintro e W1 ⟨z, rfl, hz, k1⟩; (with_reducible refine Hid.out ?_)))
  clear CL
  replace N := N.below k1
  replace X := X.below k1 X.lt
  replace q := q.trans (k1.mono q.size)
  clear k1
  unfold Hid
  rcases hz with ⟨rfl, hL⟩ | rfl
  rotate_left 1
  · go_wp2_with (first | (go_at_call 8; go_must (refine (lWorks18 _).mono ?_); rintro e W9 ⟨rfl, kw⟩; replace N := N.below kw; replace X := X.below kw X.lt; replace q := q.trans (kw.mono q.size); clear kw))
    go_ret
    exact ⟨rfl, q⟩
  by_cases h0 : chkN n0 = 0 ∨ chkN n0 = 16
  · have hF := fine_of h0
    rcases h0 with h0 | h0
    · skip
      go_wp2_with (first | ((with_reducible refine at_ld 25 ?_); (refine ld 25 (.tmp 1) 3 sizeNd _ Try.underlying25 rfl (w.heap.size) 0 [.bool n0.leaf, .slice pa pn pc, .slice qa qn qc] rfl X.whole rfl ?_)) | (go_at_call 15; go_must (refine (pCheck N hL.lit h0).mono ?_); rintro e W2 ⟨rfl, k2⟩; replace N := N.below k2; replace X := X.below k2 X.lt; replace q := q.trans (k2.mono q.size); clear k2) | (go_at_call 23; (with_reducible refine Hid.out ?_)))
      unfold Hid
      obtain ⟨S1, S2, ok, hS⟩ : ∃ S1 S2 ok, splitN n0 = (S1, S2, ok) := ⟨_, _, _, rfl⟩
      obtain ⟨hL1, hL2⟩ := split_ltd hL hS
      refine (pSplit N hL hS).mono ?_
      rintro e W3 ⟨pA, qA, pB, qB, rfl, NA, NB, k3⟩
      replace N := N.below k3
      replace X := X.below k3 X.lt
      replace q := q.trans (k3.mono q.size)
      clear k3
      go_wp2_with (first | ((with_reducible refine at_st 25 ?_); (with_reducible refine Hid.out ?_)))
      unfold Hid
      obtain ⟨U, hU⟩ : ∃ U, U = (W3.alloc (.cells #[.bool false, .slice none 0 0, .slice none 0 0] 25)).alloc (.cells #[.bool false, .slice none 0 0, .slice none 0 0] 25) := ⟨_, rfl⟩
      rw [← hU]
      have tA : Blk U W3.heap.size [.bool false, .slice none 0 0, .slice none 0 0] 25 := by rw [hU]; exact (Blk.newAt W3 _ _ _ rfl _ rfl).old _
      have tB : Blk U (W3.heap.size + 1) [.bool false, .slice none 0 0, .slice none 0 0] 25 := by rw [hU]; exact Blk.newAt (W3.alloc _) _ _ _ (by simp) _ rfl
      have kU : Below W3.heap.size W3 U := by rw [hU]; exact (below_alloc W3 _).alloc (by simp) _
      clear hU
      refine st' 25 (.tmp 4) (.tmp 28) 3 sizeNd W3.heap.size 0 (ndc S1 pA qA) rfl (ndc_one S1 pA qA) (tA.there 0 3 (by decide)) rfl rfl ?_
      intro Wa hW
      have tB' : Blk Wa (W3.heap.size + 1) [.bool false, .slice none 0 0, .slice none 0 0] 25 := by rw [hW]; exact Blk.setsO (by omega) _ tB 0
      obtain ⟨ka, sa, XA⟩ := box3w U _ _ rfl tA (Nat.le_refl _) hW
      clear hW tA tB
      go_wp2_with (first | ((with_reducible refine at_st 25 ?_); (with_reducible refine Hid.out ?_)))
      unfold Hid
      refine st' 25 (.tmp 5) (.tmp 29) 3 sizeNd (W3.heap.size + 1) 0 (ndc S2 pB qB) rfl (ndc_one S2 pB qB) (tB'.there 0 3 (by decide)) rfl rfl ?_
      intro W4 hW
      replace XA : Blk W4 W3.heap.size (ndc S1 pA qA) 25 := by rw [hW]; exact Blk.setsO (by omega) _ XA 0
      obtain ⟨kb, sb, XB⟩ := box3w Wa _ _ rfl tB' (B := W3.heap.size) (by omega) hW
      clear hW tB'
      replace kU : Below W3.heap.size W3 W4 := (kU.trans ka).trans kb
      clear ka kb sa sb
      obtain ⟨gXA, hgX⟩ : ∃ g, g = W3.heap.size := ⟨_, rfl⟩
      rw [← hgX] at XA XB ⊢
      replace N := N.below kU
      replace X := X.below kU X.lt
      replace q := q.trans (kU.mono q.size)
      replace NA := NA.below kU
      replace NB := NB.below kU
      clear kU
      clear hgX
      go_wp2_with (first | ((with_reducible refine at_ld 25 ?_); (refine ld 25 (.tmp 1) 3 sizeNd _ Try.underlying25 rfl (w.heap.size) 0 [.bool n0.leaf, .slice pa pn pc, .slice qa qn qc] rfl X.whole rfl ?_)) | (go_at_call 24; (with_reducible refine Hid.out ?_)))
      unfold Hid
      refine (qSplit N hL hF.kind hS).mono ?_
      rintro e W5 ⟨pC, qC, pD, qD, rfl, NC, ND, k5⟩
      replace N := N.below k5
      replace X := X.below k5 X.lt
      replace q := q.trans (k5.mono q.size)
      replace NA := NA.below k5
      replace NB := NB.below k5
      replace XA := XA.below k5 XA.lt
      replace XB := XB.below k5 XB.lt
      clear k5
      go_wp2_with (first | ((with_reducible refine at_st 25 ?_); (with_reducible refine Hid.out ?_)))
      unfold Hid
      obtain ⟨U, hU⟩ : ∃ U, U = (W5.alloc (.cells #[.bool false, .slice none 0 0, .slice none 0 0] 25)).alloc (.cells #[.bool false, .slice none 0 0, .slice none 0 0] 25) := ⟨_, rfl⟩
      rw [← hU]
      have tA : Blk U W5.heap.size [.bool false, .slice none 0 0, .slice none 0 0] 25 := by rw [hU]; exact (Blk.newAt W5 _ _ _ rfl _ rfl).old _
      have tB : Blk U (W5.heap.size + 1) [.bool false, .slice none 0 0, .slice none 0 0] 25 := by rw [hU]; exact Blk.newAt (W5.alloc _) _ _ _ (by simp) _ rfl
      have kU : Below W5.heap.size W5 U := by rw [hU]; exact (below_alloc W5 _).alloc (by simp) _
      clear hU
      refine st' 25 (.tmp 7) (.tmp 34) 3 sizeNd W5.heap.size 0 (ndc S1 pC qC) rfl (ndc_one S1 pC qC) (tA.there 0 3 (by decide)) rfl rfl ?_
      intro Wa hW
      have tB' : Blk Wa (W5.heap.size + 1) [.bool false, .slice none 0 0, .slice none 0 0] 25 := by rw [hW]; exact Blk.setsO (by omega) _ tB 0
      obtain ⟨ka, sa, XC⟩ := box3w U _ _ rfl tA (Nat.le_refl _) hW
      clear hW tA tB
      go_wp2_with (first | ((with_reducible refine at_st 25 ?_); (with_reducible refine Hid.out ?_)))
      unfold Hid
      refine st' 25 (.tmp 8) (.tmp 35) 3 sizeNd (W5.heap.size + 1) 0 (ndc S2 pD qD) rfl (ndc_one S2 pD qD) (tB'.there 0 3 (by decide)) rfl rfl ?_
      intro W6 hW
      replace XC : Blk W6 W5.heap.size (ndc S1 pC qC) 25 := by rw [hW]; exact Blk.setsO (by omega) _ XC 0
      obtain ⟨kb, sb, XD⟩ := box3w Wa _ _ rfl tB' (B := W5.heap.size) (by omega) hW
      clear hW tB'
      replace kU : Below W5.heap.size W5 W6 := (kU.trans ka).trans kb
      clear ka kb sa sb
      obtain ⟨gXC, hgX⟩ : ∃ g, g = W5.heap.size := ⟨_, rfl⟩
      rw [← hgX] at XC XD ⊢
      replace N := N.below kU
      replace X := X.below kU X.lt
      replace q := q.trans (kU.mono q.size)
      replace NA := NA.below kU
      replace NB := NB.below kU
      replace XA := XA.below kU XA.lt
      replace XB := XB.below kU XB.lt
      replace NC := NC.below kU
      replace ND := ND.below kU
      clear kU
      clear hgX
      go_wp2_with (first | ((with_reducible refine at_ldg18 25 ?_); (refine ldg18 25 (.tmp 4) 3 (by rfl) sizeNd _ Try.underlying25 rfl (gXA) 0 (ndc S1 pA qA) rfl XA.whole rfl ?_)) | ((with_reducible refine at_ldg18 25 ?_); (refine ldg18 25 (.tmp 7) 3 (by rfl) sizeNd _ Try.underlying25 rfl (gXC) 0 (ndc S1 pC qC) rfl XC.whole rfl ?_)) | (go_at_call 18; (with_reducible refine Hid.out ?_)))
      unfold Hid
      refine (pSame NA NC hL1).mono ?_
      rintro e W7 ⟨rfl, k7⟩
      replace N := N.below k7
      replace X := X.below k7 X.lt
      replace q := q.trans (k7.mono q.size)
      replace NA := NA.below k7
      replace NB := NB.below k7
      replace XA := XA.below k7 XA.lt
      replace XB := XB.below k7 XB.lt
      replace NC := NC.below k7
      replace ND := ND.below k7
      replace XC := XC.below k7 XC.lt
      replace XD := XD.below k7 XD.lt
      clear k7
      go_wp2_with (first | ((with_reducible refine at_ldg18 25 ?_); (refine ldg18 25 (.tmp 5) 3 (by rfl) sizeNd _ Try.underlying25 rfl ((gXA + 1)) 0 (ndc S2 pB qB) rfl XB.whole rfl ?_)) | ((with_reducible refine at_ldg18 25 ?_); (refine ldg18 25 (.tmp 8) 3 (by rfl) sizeNd _ Try.underlying25 rfl ((gXC + 1)) 0 (ndc S2 pD qD) rfl XD.whole rfl ?_)) | (go_at_call 18; (with_reducible refine Hid.out ?_)))
      unfold Hid
      refine (pSame NB ND hL2).mono ?_
      rintro e W8 ⟨rfl, k8⟩
      replace N := N.below k8
      replace X := X.below k8 X.lt
      replace q := q.trans (k8.mono q.size)
      replace NA := NA.below k8
      replace NB := NB.below k8
      replace XA := XA.below k8 XA.lt
      replace XB := XB.below k8 XB.lt
      replace NC := NC.below k8
      replace ND := ND.below k8
      replace XC := XC.below k8 XC.lt
      replace XD := XD.below k8 XD.lt
      clear k8
      clear XC XD NC ND
      have Y1 : W8.cell? ⟨w.heap.size, 1, none⟩ = some (.slice pa pn pc) := X.cell 1
      have Y2 : W8.cell? ⟨w.heap.size, 2, none⟩ = some (.slice qa qn qc) := X.cell 2
      have l1 : n0.pairs.length = pn := N.lp
      have l2 : n0.kids.length = qn := N.lk
      have hps := hL.ps
      have hks := hL.ks
      obtain ⟨s, hs⟩ : ∃ s, sizeN n0 = s := ⟨_, rfl⟩
      obtain ⟨L, hl⟩ : ∃ L, lastN n0 = L := ⟨_, rfl⟩
      by_cases hp : 0 < pn
      · skip
        obtain ⟨m, hm⟩ : ∃ m, pn = m + 1 := ⟨pn - 1, by omega⟩
        obtain ⟨hk0, x, hx, hlx⟩ := last_pairs hF (l1.trans hm)
        obtain ⟨b, o, kp, km, kc, vp, vm, vc, ea, c1, c2, hB1, hB2, hlb, hrg⟩ := N.ps.cells (Below.refl _ _) hx
        have ea : pa = some ⟨b, o, none⟩ := ea
        subst ea
        have e1 : x.key.length = km := hB1.1.len
        have e2 : x.value.length = vm := hB2.1.len
        have hbx := hL.p x (List.mem_of_getElem? hx)
        have hLe : L = 2 + km + vm := by rw [← hl, hlx, ← e1, ← e2]; rfl
        have hLb : L ≤ 1000 := by omega
        have hss : s ≤ 700000000 := by rw [← hs]; unfold sizeN; have := hL.lit.totP; have := hL.lit.totK; omega
        have i0 : (0 : Int) < (pn : Int) := by omega
        have i1 : ¬ (0 : Int) < (qn : Int) := by omega
        have im : (m : Int) < (pn : Int) := by omega
        have j0 : (pn : Int) - 1 = (m : Int) := by omega
        have bk : km ≤ 300 := by omega
        have bv : vm ≤ 300 := by omega
        have bp : pn ≤ 40 := by omega
        have HL : Hid (L = 2 + km + vm) := hLe
        clear hB1 hB2 hlx hx hbx hm hk0 hLe hLb e1 e2 l1 l2 hps hks
        go_wp2_with (first | ((with_reducible refine at_ld 44 ?_); (refine ld 44 (.tmp 62) 2 sizePr _ Try.underlying44 rfl b (o + m * 2) [.slice kp km kc, .slice vp vm vc] rfl hrg rfl ?_)) | ((with_reducible refine at_st 44 ?_); (with_reducible refine Hid.out ?_)))
        unfold Hid
        refine st' 44 (.tmp 11) (.tmp 63) 2 sizePr W8.heap.size 0 [.slice kp km kc, .slice vp vm vc] rfl (by intro u hu; simp only [List.mem_cons, List.not_mem_nil, or_false] at hu; rcases hu with rfl | rfl <;> rfl) ((Blk.newAt W8 _ _ _ rfl _ rfl : Blk _ W8.heap.size [.slice none 0 0, .slice none 0 0] 44).there 0 2 (by decide)) rfl rfl ?_
        intro Wp hW
        obtain ⟨kp_, Xp⟩ := box2 W8 _ _ rfl rfl hW
        clear hW Y1 Y2
        obtain ⟨gp, hgp⟩ : ∃ g, g = W8.heap.size := ⟨_, rfl⟩
        rw [← hgp] at Xp ⊢
        clear hrg c1 c2 hlb
        replace N := N.below kp_
        replace X := X.below kp_ X.lt
        replace q := q.trans (kp_.mono q.size)
        replace NA := NA.below kp_
        replace NB := NB.below kp_
        replace XA := XA.below kp_ XA.lt
        replace XB := XB.below kp_ XB.lt
        clear kp_
        clear hgp
        have y0 : Wp.cell? ⟨gp, 0, none⟩ = some (.slice kp km kc) := Xp.cell 0
        have y1 : Wp.cell? ⟨gp, 1, none⟩ = some (.slice vp vm vc) := Xp.cell 1
        have Y2 : Wp.cell? ⟨w.heap.size, 2, none⟩ = some (.slice qa qn qc) := X.cell 2
        cases ok
        · skip
          go_wp2_with (first | (go_at_call 8; go_must (refine (lWorks18 _).mono ?_); rintro e W9 ⟨rfl, kw⟩; replace N := N.below kw; replace X := X.below kw X.lt; replace q := q.trans (kw.mono q.size); replace NA := NA.below kw; replace NB := NB.below kw; replace XA := XA.below kw XA.lt; replace XB := XB.below kw XB.lt; clear kw))
          go_ret
          exact ⟨rfl, q⟩
        · skip
          by_cases hfit : s ≤ 496 + (2 + km + vm)
          · skip
            have f1 : (s : Int) - (2 + (km : Int) + (vm : Int)) ≤ 496 := by omega
            obtain ⟨z1, z2⟩ := split_fit hS hF hs (hl.trans HL.out) hfit
            clear hfit
            go_wp2_with (first | ((with_reducible refine at_ldg18 25 ?_); (refine ldg18 25 (.tmp 1) 3 (by rfl) sizeNd _ Try.underlying25 rfl (w.heap.size) 0 [.bool n0.leaf, .slice (some ⟨b, o, none⟩) pn pc, .slice qa qn qc] rfl X.whole rfl ?_)) | (go_at_call 17; go_must (refine (pSize N hL.lit hs).mono ?_); rintro e Wm ⟨rfl, km_⟩; replace N := N.below km_; replace X := X.below km_ X.lt; replace q := q.trans (km_.mono q.size); replace NA := NA.below km_; replace NB := NB.below km_; replace XA := XA.below km_ XA.lt; replace XB := XB.below km_ XB.lt; clear km_) | ((with_reducible refine at_ldg18 25 ?_); (refine ldg18 25 (.tmp 4) 3 (by rfl) sizeNd _ Try.underlying25 rfl (gXA) 0 (ndc S1 pA qA) rfl XA.whole rfl ?_)) | (go_at_call 15; (with_reducible refine Hid.out ?_)))
            unfold Hid
            refine (pCheck NA hL1.lit z1).mono ?_
            rintro e Wn ⟨rfl, kn⟩
            replace N := N.below kn
            replace X := X.below kn X.lt
            replace q := q.trans (kn.mono q.size)
            replace NA := NA.below kn
            replace NB := NB.below kn
            replace XA := XA.below kn XA.lt
            replace XB := XB.below kn XB.lt
            clear kn
            go_wp2_with (first | ((with_reducible refine at_ldg18 25 ?_); (refine ldg18 25 (.tmp 5) 3 (by rfl) sizeNd _ Try.underlying25 rfl ((gXA + 1)) 0 (ndc S2 pB qB) rfl XB.whole rfl ?_)) | (go_at_call 15; (with_reducible refine Hid.out ?_)))
            unfold Hid
            refine (pCheck NB hL2.lit z2).mono ?_
            rintro e Wo ⟨rfl, ko⟩
            replace N := N.below ko
            replace X := X.below ko X.lt
            replace q := q.trans (ko.mono q.size)
            replace NA := NA.below ko
            replace NB := NB.below ko
            replace XA := XA.below ko XA.lt
            replace XB := XB.below ko XB.lt
            clear ko
            go_wp2_with (first | (go_at_call 8; go_must (refine (lWorks18 _).mono ?_); rintro e W9 ⟨rfl, kw⟩; replace N := N.below kw; replace X := X.below kw X.lt; replace q := q.trans (kw.mono q.size); replace NA := NA.below kw; replace NB := NB.below kw; replace XA := XA.below kw XA.lt; replace XB := XB.below kw XB.lt; clear kw))
            go_ret
            exact ⟨rfl, q⟩
          · skip
            have f1 : ¬ (s : Int) - (2 + (km : Int) + (vm : Int)) ≤ 496 := by omega
            clear hfit
            go_wp2_with (first | ((with_reducible refine at_ldg18 25 ?_); (refine ldg18 25 (.tmp 1) 3 (by rfl) sizeNd _ Try.underlying25 rfl (w.heap.size) 0 [.bool n0.leaf, .slice (some ⟨b, o, none⟩) pn pc, .slice qa qn qc] rfl X.whole rfl ?_)) | (go_at_call 17; go_must (refine (pSize N hL.lit hs).mono ?_); rintro e Wm ⟨rfl, km_⟩; replace N := N.below km_; replace X := X.below km_ X.lt; replace q := q.trans (km_.mono q.size); replace NA := NA.below km_; replace NB := NB.below km_; replace XA := XA.below km_ XA.lt; replace XB := XB.below km_ XB.lt; clear km_) | (go_at_call 8; go_must (refine (lWorks18 _).mono ?_); rintro e W9 ⟨rfl, kw⟩; replace N := N.below kw; replace X := X.below kw X.lt; replace q := q.trans (kw.mono q.size); replace NA := NA.below kw; replace NB := NB.below kw; replace XA := XA.below kw XA.lt; replace XB := XB.below kw XB.lt; clear kw))
            go_ret
            exact ⟨rfl, q⟩
      · have i0 : ¬ (0 : Int) < (pn : Int) := by omega
        by_cases hq : 0 < qn
        · skip
          obtain ⟨m, hm⟩ : ∃ m, qn = m + 1 := ⟨qn - 1, by omega⟩
          obtain ⟨hk0, x, hx, hlx⟩ := last_kids hF (l2.trans hm)
          obtain ⟨b, o, kp, km, kc, ea, c1, -, -, hB1, hlb, -⟩ := N.ks.cells (Below.refl _ _) hx
          have ea : qa = some ⟨b, o, none⟩ := ea
          subst ea
          have e1 : x.key.length = km := hB1.1.len
          have hbx := hL.k x (List.mem_of_getElem? hx)
          have hLe : L = 11 + km := by rw [← hl, hlx, ← e1]; rfl
          have hLb : L ≤ 1000 := by omega
          have hss : s ≤ 700000000 := by rw [← hs]; unfold sizeN; have := hL.lit.totP; have := hL.lit.totK; omega
          have i1 : (0 : Int) < (qn : Int) := by omega
          have im : (m : Int) < (qn : Int) := by omega
          have j0 : (qn : Int) - 1 = (m : Int) := by omega
          have bk : km ≤ 300 := by omega
          have bq : qn ≤ 60 := by omega
          have HL : Hid (L = 11 + km) := hLe
          clear hB1 hlx hx hbx hm hk0 hLe hLb e1 l1 l2 hps hks
          cases ok
          · skip
            go_wp2_with (first | (go_at_call 8; go_must (refine (lWorks18 _).mono ?_); rintro e W9 ⟨rfl, kw⟩; replace N := N.below kw; replace X := X.below kw X.lt; replace q := q.trans (kw.mono q.size); replace NA := NA.below kw; replace NB := NB.below kw; replace XA := XA.below kw XA.lt; replace XB := XB.below kw XB.lt; clear kw))
            go_ret
            exact ⟨rfl, q⟩
          · skip
            by_cases hfit : s ≤ 496 + (11 + km)
            · skip
              have f1 : (s : Int) - (11 + (km : Int)) ≤ 496 := by omega
              obtain ⟨z1, z2⟩ := split_fit hS hF hs (hl.trans HL.out) hfit
              clear hfit
              go_wp2_with (first | ((with_reducible refine at_ldg18 25 ?_); (refine ldg18 25 (.tmp 1) 3 (by rfl) sizeNd _ Try.underlying25 rfl (w.heap.size) 0 [.bool n0.leaf, .slice pa pn pc, .slice (some ⟨b, o, none⟩) qn qc] rfl X.whole rfl ?_)) | (go_at_call 17; go_must (refine (pSize N hL.lit hs).mono ?_); rintro e Wm ⟨rfl, km_⟩; replace N := N.below km_; replace X := X.below km_ X.lt; replace q := q.trans (km_.mono q.size); replace NA := NA.below km_; replace NB := NB.below km_; replace XA := XA.below km_ XA.lt; replace XB := XB.below km_ XB.lt; clear km_) | ((with_reducible refine at_ldg18 25 ?_); (refine ldg18 25 (.tmp 4) 3 (by rfl) sizeNd _ Try.underlying25 rfl (gXA) 0 (ndc S1 pA qA) rfl XA.whole rfl ?_)) | (go_at_call 15; (with_reducible refine Hid.out ?_)))
              unfold Hid
              refine (pCheck NA hL1.lit z1).mono ?_
              rintro e Wn ⟨rfl, kn⟩
              replace N := N.below kn
              replace X := X.below kn X.lt
              replace q := q.trans (kn.mono q.size)
              replace NA := NA.below kn
              replace NB := NB.below kn
              replace XA := XA.below kn XA.lt
              replace XB := XB.below kn XB.lt
              clear kn
              go_wp2_with (first | ((with_reducible refine at_ldg18 25 ?_); (refine ldg18 25 (.tmp 5) 3 (by rfl) sizeNd _ Try.underlying25 rfl ((gXA + 1)) 0 (ndc S2 pB qB) rfl XB.whole rfl ?_)) | (go_at_call 15; (with_reducible refine Hid.out ?_)))
              unfold Hid
              refine (pCheck NB hL2.lit z2).mono ?_
              rintro e Wo ⟨rfl, ko⟩
              replace N := N.below ko
              replace X := X.below ko X.lt
              replace q := q.trans (ko.mono q.size)
              replace NA := NA.below ko
              replace NB := NB.below ko
              replace XA := XA.below ko XA.lt
              replace XB := XB.below ko XB.lt
              clear ko
              go_wp2_with (first | (go_at_call 8; go_must (refine (lWorks18 _).mono ?_); rintro e W9 ⟨rfl, kw⟩; replace N := N.below kw; replace X := X.below kw X.lt; replace q := q.trans (kw.mono q.size); replace NA := NA.below kw; replace NB := NB.below kw; replace XA := XA.below kw XA.lt; replace XB := XB.below kw XB.lt; clear kw))
              go_ret
              exact ⟨rfl, q⟩
            · skip
              have f1 : ¬ (s : Int) - (11 + (km : Int)) ≤ 496 := by omega
              clear hfit
              go_wp2_with (first | ((with_reducible refine at_ldg18 25 ?_); (refine ldg18 25 (.tmp 1) 3 (by rfl) sizeNd _ Try.underlying25 rfl (w.heap.size) 0 [.bool n0.leaf, .slice pa pn pc, .slice (some ⟨b, o, none⟩) qn qc] rfl X.whole rfl ?_)) | (go_at_call 17; go_must (refine (pSize N hL.lit hs).mono ?_); rintro e Wm ⟨rfl, km_⟩; replace N := N.below km_; replace X := X.below km_ X.lt; replace q := q.trans (km_.mono q.size); replace NA := NA.below km_; replace NB := NB.below km_; replace XA := XA.below km_ XA.lt; replace XB := XB.below km_ XB.lt; clear km_) | (go_at_call 8; go_must (refine (lWorks18 _).mono ?_); rintro e W9 ⟨rfl, kw⟩; replace N := N.below kw; replace X := X.below kw X.lt; replace q := q.trans (kw.mono q.size); replace NA := NA.below kw; replace NB := NB.below kw; replace XA := XA.below kw XA.lt; replace XB := XB.below kw XB.lt; clear kw))
              go_ret
              exact ⟨rfl, q⟩
        · skip
          have i1 : ¬ (0 : Int) < (qn : Int) := by omega
          obtain rfl := split_nil hS (List.eq_nil_of_length_eq_zero (by omega)) (List.eq_nil_of_length_eq_zero (by omega))
          go_wp2_with (first | (go_at_call 8; go_must (refine (lWorks18 _).mono ?_); rintro e W9 ⟨rfl, kw⟩; replace N := N.below kw; replace X := X.below kw X.lt; replace q := q.trans (kw.mono q.size); replace NA := NA.below kw; replace NB := NB.below kw; replace XA := XA.below kw XA.lt; replace XB := XB.below kw XB.lt; clear kw))
          go_ret
          exact ⟨rfl, q⟩
    · skip
      go_wp2_with (first | ((with_reducible refine at_ld 25 ?_); (refine ld 25 (.tmp 1) 3 sizeNd _ Try.underlying25 rfl (w.heap.size) 0 [.bool n0.leaf, .slice pa pn pc, .slice qa qn qc] rfl X.whole rfl ?_)) | (go_at_call 15; go_must (refine (pCheck N hL.lit h0).mono ?_); rintro e W2 ⟨rfl, k2⟩; replace N := N.below k2; replace X := X.below k2 X.lt; replace q := q.trans (k2.mono q.size); clear k2) | (go_at_call 23; (with_reducible refine Hid.out ?_)))
      unfold Hid
      obtain ⟨S1, S2, ok, hS⟩ : ∃ S1 S2 ok, splitN n0 = (S1, S2, ok) := ⟨_, _, _, rfl⟩
      obtain ⟨hL1, hL2⟩ := split_ltd hL hS
      refine (pSplit N hL hS).mono ?_
      rintro e W3 ⟨pA, qA, pB, qB, rfl, NA, NB, k3⟩
      replace N := N.below k3
      replace X := X.below k3 X.lt
      replace q := q.trans (k3.mono q.size)
      clear k3
      go_wp2_with (first | ((with_reducible refine at_st 25 ?_); (with_reducible refine Hid.out ?_)))
      unfold Hid
      obtain ⟨U, hU⟩ : ∃ U, U = (W3.alloc (.cells #[.bool false, .slice none 0 0, .slice none 0 0] 25)).alloc (.cells #[.bool false, .slice none 0 0, .slice none 0 0] 25) := ⟨_, rfl⟩
      rw [← hU]
      have tA : Blk U W3.heap.size [.bool false, .slice none 0 0, .slice none 0 0] 25 := by rw [hU]; exact (Blk.newAt W3 _ _ _ rfl _ rfl).old _
      have tB : Blk U (W3.heap.size + 1) [.bool false, .slice none 0 0, .slice none 0 0] 25 := by rw [hU]; exact Blk.newAt (W3.alloc _) _ _ _ (by simp) _ rfl
      have kU : Below W3.heap.size W3 U := by rw [hU]; exact (below_alloc W3 _).alloc (by simp) _
      clear hU
      refine st' 25 (.tmp 4) (.tmp 28) 3 sizeNd W3.heap.size 0 (ndc S1 pA qA) rfl (ndc_one S1 pA qA) (tA.there 0 3 (by decide)) rfl rfl ?_
      intro Wa hW
      have tB' : Blk Wa (W3.heap.size + 1) [.bool false, .slice none 0 0, .slice none 0 0] 25 := by rw [hW]; exact Blk.setsO (by omega) _ tB 0
      obtain ⟨ka, sa, XA⟩ := box3w U _ _ rfl tA (Nat.le_refl _) hW
      clear hW tA tB
      go_wp2_with (first | ((with_reducible refine at_st 25 ?_); (with_reducible refine Hid.out ?_)))
      unfold Hid
      refine st' 25 (.tmp 5) (.tmp 29) 3 sizeNd (W3.heap.size + 1) 0 (ndc S2 pB qB) rfl (ndc_one S2 pB qB) (tB'.there 0 3 (by decide)) rfl rfl ?_
      intro W4 hW
      replace XA : Blk W4 W3.heap.size (ndc S1 pA qA) 25 := by rw [hW]; exact Blk.setsO (by omega) _ XA 0
      obtain ⟨kb, sb, XB⟩ := box3w Wa _ _ rfl tB' (B := W3.heap.size) (by omega) hW
      clear hW tB'
      replace kU : Below W3.heap.size W3 W4 := (kU.trans ka).trans kb
      clear ka kb sa sb
      obtain ⟨gXA, hgX⟩ : ∃ g, g = W3.heap.size := ⟨_, rfl⟩
      rw [← hgX] at XA XB ⊢
      replace N := N.below kU
      replace X := X.below kU X.lt
      replace q := q.trans (kU.mono q.size)
      replace NA := NA.below kU
      replace NB := NB.below kU
      clear kU
      clear hgX
      go_wp2_with (first | ((with_reducible refine at_ld 25 ?_); (refine ld 25 (.tmp 1) 3 sizeNd _ Try.underlying25 rfl (w.heap.size) 0 [.bool n0.leaf, .slice pa pn pc, .slice qa qn qc] rfl X.whole rfl ?_)) | (go_at_call 24; (with_reducible refine Hid.out ?_)))
      unfold Hid
      refine (qSplit N hL hF.kind hS).mono ?_
      rintro e W5 ⟨pC, qC, pD, qD, rfl, NC, ND, k5⟩
      replace N := N.below k5
      replace X := X.below k5 X.lt
      replace q := q.trans (k5.mono q.size)
      replace NA := NA.below k5
      replace NB := NB.below k5
      replace XA := XA.below k5 XA.lt
      replace XB := XB.below k5 XB.lt
      clear k5
      go_wp2_with (first | ((with_reducible refine at_st 25 ?_); (with_reducible refine Hid.out ?_)))
      unfold Hid
      obtain ⟨U, hU⟩ : ∃ U, U = (W5.alloc (.cells #[.bool false, .slice none 0 0, .slice none 0 0] 25)).alloc (.cells #[.bool false, .slice none 0 0, .slice none 0 0] 25) := ⟨_, rfl⟩
      rw [← hU]
      have tA : Blk U W5.heap.size [.bool false, .slice none 0 0, .slice none 0 0] 25 := by rw [hU]; exact (Blk.newAt W5 _ _ _ rfl _ rfl).old _
      have tB : Blk U (W5.heap.size + 1) [.bool false, .slice none 0 0, .slice none 0 0] 25 := by rw [hU]; exact Blk.newAt (W5.alloc _) _ _ _ (by simp) _ rfl
      have kU : Below W5.heap.size W5 U := by rw [hU]; exact (below_alloc W5 _).alloc (by simp) _
      clear hU
      refine st' 25 (.tmp 7) (.tmp 34) 3 sizeNd W5.heap.size 0 (ndc S1 pC qC) rfl (ndc_one S1 pC qC) (tA.there 0 3 (by decide)) rfl rfl ?_
      intro Wa hW
      have tB' : Blk Wa (W5.heap.size + 1) [.bool false, .slice none 0 0, .slice none 0 0] 25 := by rw [hW]; exact Blk.setsO (by omega) _ tB 0
      obtain ⟨ka, sa, XC⟩ := box3w U _ _ rfl tA (Nat.le_refl _) hW
      clear hW tA tB
      go_wp2_with (first | ((with_reducible refine at_st 25 ?_); (with_reducible refine Hid.out ?_)))
      unfold Hid
      refine st' 25 (.tmp 8) (.tmp 35) 3 sizeNd (W5.heap.size + 1) 0 (ndc S2 pD qD) rfl (ndc_one S2 pD qD) (tB'.there 0 3 (by decide)) rfl rfl ?_
      intro W6 hW
      replace XC : Blk W6 W5.heap.size (ndc S1 pC qC) 25 := by rw [hW]; exact Blk.setsO (by omega) _ XC 0
      obtain ⟨kb, sb, XD⟩ := box3w Wa _ _ rfl tB' (B := W5.heap.size) (by omega) hW
      clear hW tB'
      replace kU : Below W5.heap.size W5 W6 := (kU.trans ka).trans kb
      clear ka kb sa sb
      obtain ⟨gXC, hgX⟩ : ∃ g, g = W5.heap.size := ⟨_, rfl⟩
      rw [← hgX] at XC XD ⊢
      replace N := N.below kU
      replace X := X.below kU X.lt
      replace q := q.trans (kU.mono q.size)
      replace NA := NA.below kU
      replace NB := NB.below kU
      replace XA := XA.below kU XA.lt
      replace XB := XB.below kU XB.lt
      replace NC := NC.below kU
      replace ND := ND.below kU
      clear kU
      clear hgX
      go_wp2_with (first | ((with_reducible refine at_ldg18 25 ?_); (refine ldg18 25 (.tmp 4) 3 (by rfl) sizeNd _ Try.underlying25 rfl (gXA) 0 (ndc S1 pA qA) rfl XA.whole rfl ?_)) | ((with_reducible refine at_ldg18 25 ?_); (refine ldg18 25 (.tmp 7) 3 (by rfl) sizeNd _ Try.underlying25 rfl (gXC) 0 (ndc S1 pC qC) rfl XC.whole rfl ?_)) | (go_at_call 18; (with_reducible refine Hid.out ?_)))
      unfold Hid
      refine (pSame NA NC hL1).mono ?_
      rintro e W7 ⟨rfl, k7⟩
      replace N := N.below k7
      replace X := X.below k7 X.lt
      replace q := q.trans (k7.mono q.size)
      replace NA := NA.below k7
      replace NB := NB.below k7
      replace XA := XA.below k7 XA.lt
      replace XB := XB.below k7 XB.lt
      replace NC := NC.below k7
      replace ND := ND.below k7
      replace XC := XC.below k7 XC.lt
      replace XD := XD.below k7 XD.lt
      clear k7
      go_wp2_with (first | ((with_reducible refine at_ldg18 25 ?_); (refine ldg18 25 (.tmp 5) 3 (by rfl) sizeNd _ Try.underlying25 rfl ((gXA + 1)) 0 (ndc S2 pB qB) rfl XB.whole rfl ?_)) | ((with_reducible refine at_ldg18 25 ?_); (refine ldg18 25 (.tmp 8) 3 (by rfl) sizeNd _ Try.underlying25 rfl ((gXC + 1)) 0 (ndc S2 pD qD) rfl XD.whole rfl ?_)) | (go_at_call 18; (with_reducible refine Hid.out ?_)))
      unfold Hid
      refine (pSame NB ND hL2).mono ?_
      rintro e W8 ⟨rfl, k8⟩
      replace N := N.below k8
      replace X := X.below k8 X.lt
      replace q := q.trans (k8.mono q.size)
      replace NA := NA.below k8
      replace NB := NB.below k8
      replace XA := XA.below k8 XA.lt
      replace XB := XB.below k8 XB.lt
      replace NC := NC.below k8
      replace ND := ND.below k8
      replace XC := XC.below k8 XC.lt
      replace XD := XD.below k8 XD.lt
      clear k8
      clear XC XD NC ND
      have Y1 : W8.cell? ⟨w.heap.size, 1, none⟩ = some (.slice pa pn pc) := X.cell 1
      have Y2 : W8.cell? ⟨w.heap.size, 2, none⟩ = some (.slice qa qn qc) := X.cell 2
      have l1 : n0.pairs.length = pn := N.lp
      have l2 : n0.kids.length = qn := N.lk
      have hps := hL.ps
      have hks := hL.ks
      obtain ⟨s, hs⟩ : ∃ s, sizeN n0 = s := ⟨_, rfl⟩
      obtain ⟨L, hl⟩ : ∃ L, lastN n0 = L := ⟨_, rfl⟩
      by_cases hp : 0 < pn
      · skip
        obtain ⟨m, hm⟩ : ∃ m, pn = m + 1 := ⟨pn - 1, by omega⟩
        obtain ⟨hk0, x, hx, hlx⟩ := last_pairs hF (l1.trans hm)
        obtain ⟨b, o, kp, km, kc, vp, vm, vc, ea, c1, c2, hB1, hB2, hlb, hrg⟩ := N.ps.cells (Below.refl _ _) hx
        have ea : pa = some ⟨b, o, none⟩ := ea
        subst ea
        have e1 : x.key.length = km := hB1.1.len
        have e2 : x.value.length = vm := hB2.1.len
        have hbx := hL.p x (List.mem_of_getElem? hx)
        have hLe : L = 2 + km + vm := by rw [← hl, hlx, ← e1, ← e2]; rfl
        have hLb : L ≤ 1000 := by omega
        have hss : s ≤ 700000000 := by rw [← hs]; unfold sizeN; have := hL.lit.totP; have := hL.lit.totK; omega
        have i0 : (0 : Int) < (pn : Int) := by omega
        have i1 : ¬ (0 : Int) < (qn : Int) := by omega
        have im : (m : Int) < (pn : Int) := by omega
        have j0 : (pn : Int) - 1 = (m : Int) := by omega
        have bk : km ≤ 300 := by omega
        have bv : vm ≤ 300 := by omega
        have bp : pn ≤ 40 := by omega
        have HL : Hid (L = 2 + km + vm) := hLe
        clear hB1 hB2 hlx hx hbx hm hk0 hLe hLb e1 e2 l1 l2 hps hks
        go_wp2_with (first | ((with_reducible refine at_ld 44 ?_); (refine ld 44 (.tmp 62) 2 sizePr _ Try.underlying44 rfl b (o + m * 2) [.slice kp km kc, .slice vp vm vc] rfl hrg rfl ?_)) | ((with_reducible refine at_st 44 ?_); (with_reducible refine Hid.out ?_)))
        unfold Hid
        refine st' 44 (.tmp 11) (.tmp 63) 2 sizePr W8.heap.size 0 [.slice kp km kc, .slice vp vm vc] rfl (by intro u hu; simp only [List.mem_cons, List.not_mem_nil, or_false] at hu; rcases hu with rfl | rfl <;> rfl) ((Blk.newAt W8 _ _ _ rfl _ rfl : Blk _ W8.heap.size [.slice none 0 0, .slice none 0 0] 44).there 0 2 (by decide)) rfl rfl ?_
        intro Wp hW
        obtain ⟨kp_, Xp⟩ := box2 W8 _ _ rfl rfl hW
        clear hW Y1 Y2
        obtain ⟨gp, hgp⟩ : ∃ g, g = W8.heap.size := ⟨_, rfl⟩
        rw [← hgp] at Xp ⊢
        clear hrg c1 c2 hlb
        replace N := N.below kp_
        replace X := X.below kp_ X.lt
        replace q := q.trans (kp_.mono q.size)
        replace NA := NA.below kp_
        replace NB := NB.below kp_
        replace XA := XA.below kp_ XA.lt
        replace XB := XB.below kp_ XB.lt
        clear kp_
        clear hgp
        have y0 : Wp.cell? ⟨gp, 0, none⟩ = some (.slice kp km kc) := Xp.cell 0
        have y1 : Wp.cell? ⟨gp, 1, none⟩ = some (.slice vp vm vc) := Xp.cell 1
        have Y2 : Wp.cell? ⟨w.heap.size, 2, none⟩ = some (.slice qa qn qc) := X.cell 2
        cases ok
        · skip
          go_wp2_with (first | (go_at_call 8; go_must (refine (lWorks18 _).mono ?_); rintro e W9 ⟨rfl, kw⟩; replace N := N.below kw; replace X := X.below kw X.lt; replace q := q.trans (kw.mono q.size); replace NA := NA.below kw; replace NB := NB.below kw; replace XA := XA.below kw XA.lt; replace XB := XB.below kw XB.lt; clear kw))
          go_ret
          exact ⟨rfl, q⟩
        · skip
          by_cases hfit : s ≤ 496 + (2 + km + vm)
          · skip
            have f1 : (s : Int) - (2 + (km : Int) + (vm : Int)) ≤ 496 := by omega
            obtain ⟨z1, z2⟩ := split_fit hS hF hs (hl.trans HL.out) hfit
            clear hfit
            go_wp2_with (first | ((with_reducible refine at_ldg18 25 ?_); (refine ldg18 25 (.tmp 1) 3 (by rfl) sizeNd _ Try.underlying25 rfl (w.heap.size) 0 [.bool n0.leaf, .slice (some ⟨b, o, none⟩) pn pc, .slice qa qn qc] rfl X.whole rfl ?_)) | (go_at_call 17; go_must (refine (pSize N hL.lit hs).mono ?_); rintro e Wm ⟨rfl, km_⟩; replace N := N.below km_; replace X := X.below km_ X.lt; replace q := q.trans (km_.mono q.size); replace NA := NA.below km_; replace NB := NB.below km_; replace XA := XA.below km_ XA.lt; replace XB := XB.below km_ XB.lt; clear km_) | ((with_reducible refine at_ldg18 25 ?_); (refine ldg18 25 (.tmp 4) 3 (by rfl) sizeNd _ Try.underlying25 rfl (gXA) 0 (ndc S1 pA qA) rfl XA.whole rfl ?_)) | (go_at_call 15; (with_reducible refine Hid.out ?_)))
            unfold Hid
            refine (pCheck NA hL1.lit z1).mono ?_
            rintro e Wn ⟨rfl, kn⟩
            replace N := N.below kn
            replace X := X.below kn X.lt
            replace q := q.trans (kn.mono q.size)
            replace NA := NA.below kn
            replace NB := NB.below kn
            replace XA := XA.below kn XA.lt
            replace XB := XB.below kn XB.lt
            clear kn
            go_wp2_with (first | ((with_reducible refine at_ldg18 25 ?_); (refine ldg18 25 (.tmp 5) 3 (by rfl) sizeNd _ Try.underlying25 rfl ((gXA + 1)) 0 (ndc S2 pB qB) rfl XB.whole rfl ?_)) | (go_at_call 15; (with_reducible refine Hid.out ?_)))
            unfold Hid
            refine (pCheck NB hL2.lit z2).mono ?_
            rintro e Wo ⟨rfl, ko⟩
            replace N := N.below ko
            replace X := X.below ko X.lt
            replace q := q.trans (ko.mono q.size)
            replace NA := NA.below ko
            replace NB := NB.below ko
            replace XA := XA.below ko XA.lt
            replace XB := XB.below ko XB.lt
            clear ko
            go_wp2_with (first | (go_at_call 8; go_must (refine (lWorks18 _).mono ?_); rintro e W9 ⟨rfl, kw⟩; replace N := N.below kw; replace X := X.below kw X.lt; replace q := q.trans (kw.mono q.size); replace NA := NA.below kw; replace NB := NB.below kw; replace XA := XA.below kw XA.lt; replace XB := XB.below kw XB.lt; clear kw))
            go_ret
            exact ⟨rfl, q⟩
          · skip
            have f1 : ¬ (s : Int) - (2 + (km : Int) + (vm : Int)) ≤ 496 := by omega
            clear hfit
            go_wp2_with (first | ((with_reducible refine at_ldg18 25 ?_); (refine ldg18 25 (.tmp 1) 3 (by rfl) sizeNd _ Try.underlying25 rfl (w.heap.size) 0 [.bool n0.leaf, .slice (some ⟨b, o, none⟩) pn pc, .slice qa qn qc] rfl X.whole rfl ?_)) | (go_at_call 17; go_must (refine (pSize N hL.lit hs).mono ?_); rintro e Wm ⟨rfl, km_⟩; replace N := N.below km_; replace X := X.below km_ X.lt; replace q := q.trans (km_.mono q.size); replace NA := NA.below km_; replace NB := NB.below km_; replace XA := XA.below km_ XA.lt; replace XB := XB.below km_ XB.lt; clear km_) | (go_at_call 8; go_must (refine (lWorks18 _).mono ?_); rintro e W9 ⟨rfl, kw⟩; replace N := N.below kw; replace X := X.below kw X.lt; replace q := q.trans (kw.mono q.size); replace NA := NA.below kw; replace NB := NB.below kw; replace XA := XA.below kw XA.lt; replace XB := XB.below kw XB.lt; clear kw))
            go_ret
            exact ⟨rfl, q⟩
      · have i0 : ¬ (0 : Int) < (pn : Int) := by omega
        by_cases hq : 0 < qn
        · skip
          obtain ⟨m, hm⟩ : ∃ m, qn = m + 1 := ⟨qn - 1, by omega⟩
          obtain ⟨hk0, x, hx, hlx⟩ := last_kids hF (l2.trans hm)
          obtain ⟨b, o, kp, km, kc, ea, c1, -, -, hB1, hlb, -⟩ := N.ks.cells (Below.refl _ _) hx
          have ea : qa = some ⟨b, o, none⟩ := ea
          subst ea
          have e1 : x.key.length = km := hB1.1.len
          have hbx := hL.k x (List.mem_of_getElem? hx)
          have hLe : L = 11 + km := by rw [← hl, hlx, ← e1]; rfl
          have hLb : L ≤ 1000 := by omega
          have hss : s ≤ 700000000 := by rw [← hs]; unfold sizeN; have := hL.lit.totP; have := hL.lit.totK; omega
          have i1 : (0 : Int) < (qn : Int) := by omega
          have im : (m : Int) < (qn : Int) := by omega
          have j0 : (qn : Int) - 1 = (m : Int) := by omega
          have bk : km ≤ 300 := by omega
          have bq : qn ≤ 60 := by omega
          have HL : Hid (L = 11 + km) := hLe
          clear hB1 hlx hx hbx hm hk0 hLe hLb e1 l1 l2 hps hks
          cases ok
          · skip
            go_wp2_with (first | (go_at_call 8; go_must (refine (lWorks18 _).mono ?_); rintro e W9 ⟨rfl, kw⟩; replace N := N.below kw; replace X := X.below kw X.lt; replace q := q.trans (kw.mono q.size); replace NA := NA.below kw; replace NB := NB.below kw; replace XA := XA.below kw XA.lt; replace XB := XB.below kw XB.lt; clear kw))
            go_ret
            exact ⟨rfl, q⟩
          · skip
            by_cases hfit : s ≤ 496 + (11 + km)
            · skip
              have f1 : (s : Int) - (11 + (km : Int)) ≤ 496 := by omega
              obtain ⟨z1, z2⟩ := split_fit hS hF hs (hl.trans HL.out) hfit
              clear hfit
              go_wp2_with (first | ((with_reducible refine at_ldg18 25 ?_); (refine ldg18 25 (.tmp 1) 3 (by rfl) sizeNd _ Try.underlying25 rfl (w.heap.size) 0 [.bool n0.leaf, .slice pa pn pc, .slice (some ⟨b, o, none⟩) qn qc] rfl X.whole rfl ?_)) | (go_at_call 17; go_must (refine (pSize N hL.lit hs).mono ?_); rintro e Wm ⟨rfl, km_⟩; replace N := N.below km_; replace X := X.below km_ X.lt; replace q := q.trans (km_.mono q.size); replace NA := NA.below km_; replace NB := NB.below km_; replace XA := XA.below km_ XA.lt; replace XB := XB.below km_ XB.lt; clear km_) | ((with_reducible refine at_ldg18 25 ?_); (refine ldg18 25 (.tmp 4) 3 (by rfl) sizeNd _ Try.underlying25 rfl (gXA) 0 (ndc S1 pA qA) rfl XA.whole rfl ?_)) | (go_at_call 15; (with_reducible refine Hid.out ?_)))
              unfold Hid
              refine (pCheck NA hL1.lit z1).mono ?_
              rintro e Wn ⟨rfl, kn⟩
              replace N := N.below kn
              replace X := X.below kn X.lt
              replace q := q.trans (kn.mono q.size)
              replace NA := NA.below kn
              replace NB := NB.below kn
              replace XA := XA.below kn XA.lt
              replace XB := XB.below kn XB.lt
              clear kn
              go_wp2_with (first | ((with_reducible refine at_ldg18 25 ?_); (refine ldg18 25 (.tmp 5) 3 (by rfl) sizeNd _ Try.underlying25 rfl ((gXA + 1)) 0 (ndc S2 pB qB) rfl XB.whole rfl ?_)) | (go_at_call 15; (with_reducible refine Hid.out ?_)))
              unfold Hid
              refine (pCheck NB hL2.lit z2).mono ?_
              rintro e Wo ⟨rfl, ko⟩
              replace N := N.below ko
              replace X := X.below ko X.lt
              replace q := q.trans (ko.mono q.size)
              replace NA := NA.below ko
              replace NB := NB.below ko
              replace XA := XA.below ko XA.lt
              replace XB := XB.below ko XB.lt
              clear ko
              go_wp2_with (first | (go_at_call 8; go_must (refine (lWorks18 _).mono ?_); rintro e W9 ⟨rfl, kw⟩; replace N := N.below kw; replace X := X.below kw X.lt; replace q := q.trans (kw.mono q.size); replace NA := NA.below kw; replace NB := NB.below kw; replace XA := XA.below kw XA.lt; replace XB := XB.below kw XB.lt; clear kw))
              go_ret
              exact ⟨rfl, q⟩
            · skip
              have f1 : ¬ (s : Int) - (11 + (km : Int)) ≤ 496 := by omega
              clear hfit
              go_wp2_with (first | ((with_reducible refine at_ldg18 25 ?_); (refine ldg18 25 (.tmp 1) 3 (by rfl) sizeNd _ Try.underlying25 rfl (w.heap.size) 0 [.bool n0.leaf, .slice pa pn pc, .slice (some ⟨b, o, none⟩) qn qc] rfl X.whole rfl ?_)) | (go_at_call 17; go_must (refine (pSize N hL.lit hs).mono ?_); rintro e Wm ⟨rfl, km_⟩; replace N := N.below km_; replace X := X.below km_ X.lt; replace q := q.trans (km_.mono q.size); replace NA := NA.below km_; replace NB := NB.below km_; replace XA := XA.below km_ XA.lt; replace XB := XB.below km_ XB.lt; clear km_) | (go_at_call 8; go_must (refine (lWorks18 _).mono ?_); rintro e W9 ⟨rfl, kw⟩; replace N := N.below kw; replace X := X.below kw X.lt; replace q := q.trans (kw.mono q.size); replace NA := NA.below kw; replace NB := NB.below kw; replace XA := XA.below kw XA.lt; replace XB := XB.below kw XB.lt; clear kw))
              go_ret
              exact ⟨rfl, q⟩
        · skip
          have i1 : ¬ (0 : Int) < (qn : Int) := by omega
          obtain rfl := split_nil hS (List.eq_nil_of_length_eq_zero (by omega)) (List.eq_nil_of_length_eq_zero (by omega))
          go_wp2_with (first | (go_at_call 8; go_must (refine (lWorks18 _).mono ?_); rintro e W9 ⟨rfl, kw⟩; replace N := N.below kw; replace X := X.below kw X.lt; replace q := q.trans (kw.mono q.size); replace NA := NA.below kw; replace NB := NB.below kw; replace XA := XA.below kw XA.lt; replace XB := XB.below kw XB.lt; clear kw))
          go_ret
          exact ⟨rfl, q⟩
  · skip
    obtain ⟨cc, hcc⟩ : ∃ cc, chkN n0 = cc := ⟨_, rfl⟩
    rw [hcc] at h0
    have d0 : ¬ cc = 0 := fun e => h0 (Or.inl e)
    have d1 : ¬ cc = 16 := fun e => h0 (Or.inr e)
    have d2 : (cc == 0) = false := by simpa using d0
    have d3 : (cc != 0) = true := by simpa using d0
    have d4 : (cc == 16) = false := by simpa using d1
    have d5 : (cc != 16) = true := by simpa using d1
    go_wp2_with (first | ((with_reducible refine at_ld 25 ?_); (refine ld 25 (.tmp 1) 3 sizeNd _ Try.underlying25 rfl (w.heap.size) 0 [.bool n0.leaf, .slice pa pn pc, .slice qa qn qc] rfl X.whole rfl ?_)) | (go_at_call 15; go_must (refine (pCheck N hL.lit hcc).mono ?_); rintro e W2 ⟨rfl, k2⟩; replace N := N.below k2; replace X := X.below k2 X.lt; replace q := q.trans (k2.mono q.size); clear k2) | (go_at_call 8; go_must (refine (lWorks18 _).mono ?_); rintro e W9 ⟨rfl, kw⟩; replace N := N.below kw; replace X := X.below kw X.lt; replace q := q.trans (kw.mono q.size); clear kw))
    go_ret
    exact ⟨rfl, q⟩

set_option maxRecDepth 100000 in
theorem lifted (os : Os) (started : os.Started) (H : Type) (enc : TypeId × Value → H) :
    ReturnsInHanded {} Try.checked os 6 .any (Rows.nodeSplitsSpec.pre6 enc Try.prog Try.f6 Rows.nodeSplitsRow.domain false) (Rows.nodeSplitsSpec.post enc Try.prog Try.f6 false true false false) := by
  refine returnsInHanded_of_change (C := Try.checked) own started (by kernel_rfl) Try.func6
    (ChangeSpec.witness6 (enc := enc) (C := Try.checked) false ⟨#[], #[.agg #[.bool false, .slice none 0 0, .slice none 0 0]], []⟩ 8 (by kernel_rfl) (by kernel_rfl) (by kernel_rfl) (by kernel_rfl)) ?_
  intro W base args ds gs before hval0 hW hcnd _
  have hval : ∀ (j : Nat) t v, Try.f6.params[j]? = some t → args[j]? = some v → Value.okWide Try.prog W .any base t v := hval0
  have hW' := hW
  obtain ⟨p, q, hA0, hV, rfl, hfz, hnd⟩ := hW
  have hA : DataW.TrodAll enc Try.prog W 0 (fun _ => true) true Try.f6.params.toList args.toList ds p := hA0
  rw [Try.params6] at hA hval
  obtain ⟨v0, vs0, d0, ds0, p0, q0, hargs, rfl, rfl, h0, r0⟩ := trodAll_cons hA
  obtain ⟨rfl, rfl, rfl⟩ := trodAll_nil r0
  obtain rfl : args = #[v0] := by cases args; simp_all
  obtain ⟨rfl, rfl⟩ := trodVars_none hV
  obtain ⟨x0, rfl⟩ := okWide_nd (hval 0 25 v0 rfl rfl)
  have k0 := h0
  have lt0 : ∀ x ∈ p0, x.block < W.heap.size := by obtain ⟨m, hm⟩ := k0; exact DataW.trod_lt m _ _ _ hm
  obtain ⟨n0, p0_, q0_, rfl, w0⟩ : ∃ a p q, x0 = (ndc a p q).toArray ∧ NdIn W a p q := by
    obtain ⟨fuel, hf⟩ := h0
    exact node_of_trod hf
  clear hA0 hval0
  refine (walk n0 p0_ q0_ W w0).mono fun e W' ⟨he, bel⟩ => ?_
  subst he
  exact ⟨_, rfl, _, _, _, [], _, [], hW', trodAll_mk1 (shut_bool Try.underlying4 _), (trodAll_cons_mk (Below.trod laidOut (by kernel_rfl) (of_decide_eq_true (by kernel_rfl)) k0 bel lt0) trodAll_mk0), rfl, bel.frame _, fun h => by cases h⟩

theorem over : Rows.nodeSplitsRow.holds Try.pinned (OpenSpec.ofChange Rows.nodeSplitsSpec) :=
  OpenClaim.holds_of_wide 6 Try.f6 rfl rfl rfl rfl rfl rfl rfl ⟨rfl, rfl, rfl, rfl, rfl⟩ rfl rfl rfl rfl rfl (by kernel_rfl) Try.func6 (by kernel_rfl)
    (of_decide_eq_true (by kernel_rfl)) (by unfold Func.isWrapper; first | (rw [if_pos (by decide +kernel)]; kernel_rfl) | (rw [if_neg (by decide +kernel)]; exact ⟨rfl, rfl⟩))
    (fun os started H enc _ => lifted os started H enc)
end NodeSplitsLaw

/-- The statement. -/
theorem nodeSplits_holds : Rows.NodeSplitsSaid := NodeSplitsLaw.over
#print axioms nodeSplits_holds
end Go.Proofs.Ytnmmopneacdgfaa
