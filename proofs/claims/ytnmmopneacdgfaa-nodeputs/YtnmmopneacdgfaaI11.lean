/-
  4 texts in one. No statement of the seat is proved here.
-/
import Derived.Test.YtnmmopneacdgfaaI10
import Derived.Deep.DeepCutAuto
import Derived.Lib.ConvBytes
import Derived.Laws.AppendOwn
/-
  The contract of layer 18's program: Put. Condition: a node of at most a hundred thousand things, keys and values of at most a thousand bytes.
-/
namespace Go.Proofs.Ytnmmopneacdgfaa
open Go.RowKit
set_option linter.unusedVariables false
theorem toN_tot {n : NodeS} (h : sizeN n ≤ 496) : [putL (if n.leaf then 1 else 0) 1, putL (n.pairs.length + n.kids.length) 2, flatL pairL n.pairs, flatL kidL n.kids, List.replicate (496 - sizeN n) 0].flatten = nodeL n := by
  unfold nodeL kindL
  simp [List.append_assoc]
set_option maxRecDepth 100000 in
set_option maxHeartbeats 4000000 in
theorem oPutN (w : World) {A : Nat → Prop} {n : NodeS} {p q : Tri} (h : Nd A w n p q) (hl : Lit n) : Calls Try.prog 9 #[ndv n p q] w fun e w' => ∃ s m c, e = .returned (.tuple #[.slice s m c, .int .i64 (chkN n)]) ∧ Own w' w.heap.size (.slice s m c) (putN n) ∧ Below w.heap.size w w' := by
  have hps := hl.ps
  have hks := hl.ks
  have hpl := hl.p
  have hkl := hl.k
  have l1 := h.lp
  have l2 := h.lk
  have hto : sizeN n ≤ 496 → [putL (if n.leaf then 1 else 0) 1, putL (n.pairs.length + n.kids.length) 2, flatL pairL n.pairs, flatL kidL n.kids, List.replicate (496 - sizeN n) 0].flatten = nodeL n := toN_tot
  have hpo : chkN n = 0 → sizeN n ≤ 496 ∧ ∀ x ∈ n.kids, x.key.length ≤ 1000 ∧ 0 ≤ x.page ∧ 0 ≤ x.epoch := fun h0 => ⟨(chkN_ok h0).2, fun x hx => by have := chkD_ok (firstC_all (chkN_ok h0).1.k x hx); omega⟩
  have hcz := chkN_cases n
  unfold putN
  obtain ⟨lf, ps, ks⟩ := n
  obtain ⟨pa, pn, pc⟩ := p
  obtain ⟨qa, qn, qc⟩ := q
  dsimp only at *
  obtain ⟨V, hV⟩ : ∃ V, V = w.alloc (.cells (List.toArray [.bool lf, .slice pa pn pc, .slice qa qn qc]) 25) := ⟨_, rfl⟩
  have bV : Blk V w.heap.size [.bool lf, .slice pa pn pc, .slice qa qn qc] 25 := by rw [hV]; exact Blk.newAt w _ _ w.heap.size rfl _ rfl
  have kW : Below w.heap.size w V := by rw [hV]; exact below_alloc _ _
  have CC : Hid (∀ u, Grows V u → Calls Try.prog 14 #[ndv ⟨lf, ps, ks⟩ ⟨pa, pn, pc⟩ ⟨qa, qn, qc⟩] u fun e w' => e = .returned (.int .i64 (chkN ⟨lf, ps, ks⟩)) ∧ Below u.heap.size u w') := fun u hu => oCheckN u (h.below (kW.trans (Below.mono hu kW.size))) hl
  have CZ0 : ∀ u, Grows V u → Calls Try.prog 16 #[ndv ⟨lf, ps, ks⟩ ⟨pa, pn, pc⟩ ⟨qa, qn, qc⟩] u fun e w' => e = .returned (.int .i64 (sizeN ⟨lf, ps, ks⟩ : Nat)) ∧ Below u.heap.size u w' := fun u hu => oSizeN u (h.below (kW.trans (Below.mono hu kW.size))) hl
  have CK0 : ∀ u, Calls Try.prog 27 #[.agg (List.toArray [.bool lf, .slice pa pn pc, .slice qa qn qc])] u fun e w' => e = .returned (.int .u64 (if lf then 1 else 0)) ∧ Below u.heap.size u w' := fun u => oKindN u lf ⟨pa, pn, pc⟩ ⟨qa, qn, qc⟩
  have hps1 : ∀ u, Grows V u → SlP A u pa pn pc ps := fun u hu => h.ps.below (kW.trans (Below.mono hu kW.size))
  have hks1 : ∀ u, Grows V u → SlD A u qa qn qc ks := fun u hu => h.ks.below (kW.trans (Below.mono hu kW.size))
  unfold ndv ndc at *
  dsimp only at *
  clear h hl
  have hs : sizeN ⟨lf, ps, ks⟩ = 3 + totL psz ps + totL ksz ks := rfl
  generalize nodeL ⟨lf, ps, ks⟩ = NL at *
  by_cases h0 : chkN ⟨lf, ps, ks⟩ = 0
  · obtain ⟨hsz, hkk⟩ := hpo h0
    have HNL : Hid _ := hto hsz
    rw [if_pos h0, h0]
    rw [h0] at CC
    have CJ1 : Hid (∀ u, Grows V u → Calls Try.prog 28 #[.slice pa pn pc, .func (.func 29) #[] #[]] u (Gives u (flatL pairL ps))) := fun u hu => oJndP u (hps1 u hu) hpl (by omega) (by omega)
    have CJ2 : Hid (∀ u, Grows V u → Calls Try.prog 30 #[.slice qa qn qc, .func (.func 31) #[] #[]] u (Gives u (flatL kidL ks))) := fun u hu => oJndK u (hks1 u hu) hkk (by omega) (by omega)
    have HT0 : tot [putL (if lf then 1 else 0) 1, putL (ps.length + ks.length) 2, flatL pairL ps, flatL kidL ks, List.replicate (496 - sizeN ⟨lf, ps, ks⟩) 0] ≤ 100000 := by
      simp only [tot, putL_length, List.length_replicate, flatL_len pairL_len, flatL_len kidL_len]
      omega
    rw [l1, l2] at HT0 HNL
    generalize flatL pairL ps = FP at *
    generalize flatL kidL ks = FK at *
    obtain ⟨kd, hkd⟩ : ∃ kd : Nat, kd = (if lf then 1 else 0) := ⟨_, rfl⟩
    have CK : Hid (∀ u, Calls Try.prog 27 #[.agg (List.toArray [.bool lf, .slice pa pn pc, .slice qa qn qc])] u fun e w' => e = .returned (.int .u64 (kd : Int)) ∧ Below u.heap.size u w') := fun u => by rw [hkd]; have := CK0 u; cases lf <;> exact this
    rw [← hkd] at HT0 HNL
    have hkd1 : kd ≤ 1 := by rw [hkd]; cases lf <;> simp
    have CZ1 : Hid (∀ u, Grows V u → Calls Try.prog 16 #[.agg (List.toArray [.bool lf, .slice pa pn pc, .slice qa qn qc])] u fun e w' => e = .returned (.int .i64 (sizeN ⟨lf, ps, ks⟩ : Nat)) ∧ Below u.heap.size u w') := CZ0
    clear CK0 CZ0 hkd hto hpo hs hcz h0 hps1 hks1 hpl hkl hkk
    generalize sizeN ⟨lf, ps, ks⟩ = sz at *
    obtain ⟨rst, hrst⟩ : ∃ rst, rst = 496 - sz := ⟨_, rfl⟩
    rw [← hrst] at HT0 HNL
    have HT : Hid (tot [putL kd 1, putL (pn + qn) 2, FP, FK, List.replicate rst 0] ≤ 100000) := HT0
    have HL : Hid ([putL kd 1, putL (pn + qn) 2, FP, FK, List.replicate rst 0].flatten = NL) := HNL
    clear HT0 HNL
    have j1 : IntKind.i64.wrap ((496 : Int) - (sz : Int)) = (rst : Int) := by rw [IntKind.wrap_i64]; omega
    have j2 : rst ≤ 496 := by omega
    clear hrst
    have j3 : IntKind.i64.wrap ((pn : Int) + (qn : Int)) = (pn : Int) + (qn : Int) := by rw [IntKind.wrap_i64]; omega
    have j4 : IntKind.u64.wrap ((pn : Int) + (qn : Int)) = (pn : Int) + (qn : Int) := by rw [IntKind.wrap_u64]; omega
    go_enter Try.func9, Try.ntmps9
    go_upto_region 1 with fail
    rw [← hV]
    clear hV
    go_wp2_with ((with_reducible refine at_ld 25 ?_); (refine ld 25 (.tmp 1) 3 sizeNd _ Try.underlying25 rfl w.heap.size 0 [.bool lf, .slice pa pn pc, .slice qa qn qc] rfl bV.whole rfl ?_))
    refine (CC.out V (Grows.refl V)).mono ?_
    rintro e V1 ⟨rfl, g1⟩
    have g1 : Grows V V1 := g1
    have CJ1 : Hid (∀ u, Grows V1 u → _) := fun u hu => CJ1.out u (Grows.trans g1 hu)
    have CJ2 : Hid (∀ u, Grows V1 u → _) := fun u hu => CJ2.out u (Grows.trans g1 hu)
    have CZ : Hid (∀ u, Grows V1 u → _) := fun u hu => CZ1.out u (Grows.trans g1 hu)
    have X1 : ∀ u, Grows V1 u → u.cell? ⟨w.heap.size, 1, none⟩ = some (.slice pa pn pc) := fun u hu => (bV.below (Grows.trans g1 hu) bV.lt).cell 1
    have X2 : ∀ u, Grows V1 u → u.cell? ⟨w.heap.size, 2, none⟩ = some (.slice qa qn qc) := fun u hu => (bV.below (Grows.trans g1 hu) bV.lt).cell 2
    clear CC CZ1
    go_wp2_with fail
    refine regionG (S := Grows V1) (by kernel_rfl) (Below.refl _ V1).drew ?_
    refine takeG 0 (some 10) (.agg (List.toArray [.bool lf, .slice pa pn pc, .slice qa qn qc])) rfl rfl (by kernel_rfl) (by kernel_rfl) (by kernel_rfl) (fun _ _ _ h => h) (ans_row 25 (.tmp 1) _ 3 rfl (by rfl) w.heap.size 0 rfl [.bool lf, .slice pa pn pc, .slice qa qn qc] (fun u hu => (bV.below (Grows.trans g1 hu) bV.lt).whole) Try.underlying25 rfl rfl sizeNd) ?_
    simp only [Act.put, List.setIfInBounds_toArray, List.set_cons_zero, List.set_cons_succ]
    refine takeG 1 (some 11) (.int .u64 (kd : Int)) rfl rfl (by kernel_rfl) (by kernel_rfl) (by kernel_rfl) (fun _ _ _ h => h) (ans_fn 27 #[.tmp 10] #[25] #[.agg (List.toArray [.bool lf, .slice pa pn pc, .slice qa qn qc])] rfl (by rfl) (by rfl) Try.call27 fun u hu => CK.out u) ?_
    simp only [Act.put, List.setIfInBounds_toArray, List.set_cons_zero, List.set_cons_succ]
    refine takeG 3 (some 13) (.pointer (some ⟨w.heap.size, 1, none⟩)) rfl rfl (by kernel_rfl) (by kernel_rfl) (by kernel_rfl) (fun _ _ _ h => h) (ans_plain (by rfl) (fun w _ => by unfold execOp; go_simp)) ?_
    simp only [Act.put, List.setIfInBounds_toArray, List.set_cons_zero, List.set_cons_succ]
    refine takeG 4 (some 14) (.slice pa pn pc) rfl rfl (by kernel_rfl) (by kernel_rfl) (by kernel_rfl) (fun _ _ _ h => h) (ans_plain (by rfl) (fun w h => by have hc := X1 w h; unfold execOp; go_simp)) ?_
    simp only [Act.put, List.setIfInBounds_toArray, List.set_cons_zero, List.set_cons_succ]
    refine takeG 5 (some 15) (.int .i64 (pn : Int)) rfl rfl (by kernel_rfl) (by kernel_rfl) (by kernel_rfl) (fun _ _ _ h => h) (ans_plain (by rfl) (fun w _ => by unfold execOp; go_simp)) ?_
    simp only [Act.put, List.setIfInBounds_toArray, List.set_cons_zero, List.set_cons_succ]
    refine takeG 6 (some 16) (.pointer (some ⟨w.heap.size, 2, none⟩)) rfl rfl (by kernel_rfl) (by kernel_rfl) (by kernel_rfl) (fun _ _ _ h => h) (ans_plain (by rfl) (fun w _ => by unfold execOp; go_simp)) ?_
    simp only [Act.put, List.setIfInBounds_toArray, List.set_cons_zero, List.set_cons_succ]
    refine takeG 7 (some 17) (.slice qa qn qc) rfl rfl (by kernel_rfl) (by kernel_rfl) (by kernel_rfl) (fun _ _ _ h => h) (ans_plain (by rfl) (fun w h => by have hc := X2 w h; unfold execOp; go_simp)) ?_
    simp only [Act.put, List.setIfInBounds_toArray, List.set_cons_zero, List.set_cons_succ]
    refine takeG 8 (some 18) (.int .i64 (qn : Int)) rfl rfl (by kernel_rfl) (by kernel_rfl) (by kernel_rfl) (fun _ _ _ h => h) (ans_plain (by rfl) (fun w _ => by unfold execOp; go_simp)) ?_
    simp only [Act.put, List.setIfInBounds_toArray, List.set_cons_zero, List.set_cons_succ]
    refine takeG 9 (some 19) (.int .i64 ((pn : Int) + (qn : Int))) rfl rfl (by kernel_rfl) (by kernel_rfl) (by kernel_rfl) (fun _ _ _ h => h) (ans_plain (by rfl) (fun w _ => by unfold execOp; go_simp)) ?_
    simp only [Act.put, List.setIfInBounds_toArray, List.set_cons_zero, List.set_cons_succ]
    refine takeG 10 (some 20) (.int .u64 ((pn : Int) + (qn : Int))) rfl rfl (by kernel_rfl) (by kernel_rfl) (by kernel_rfl) (fun _ _ _ h => h) (ans_plain (by rfl) (fun w _ => by unfold execOp; go_simp)) ?_
    simp only [Act.put, List.setIfInBounds_toArray, List.set_cons_zero, List.set_cons_succ]
    refine takeG 12 (some 22) (.pointer (some ⟨w.heap.size, 1, none⟩)) rfl rfl (by kernel_rfl) (by kernel_rfl) (by kernel_rfl) (fun _ _ _ h => h) (ans_plain (by rfl) (fun w _ => by unfold execOp; go_simp)) ?_
    simp only [Act.put, List.setIfInBounds_toArray, List.set_cons_zero, List.set_cons_succ]
    refine takeG 13 (some 23) (.slice pa pn pc) rfl rfl (by kernel_rfl) (by kernel_rfl) (by kernel_rfl) (fun _ _ _ h => h) (ans_plain (by rfl) (fun w h => by have hc := X1 w h; unfold execOp; go_simp)) ?_
    simp only [Act.put, List.setIfInBounds_toArray, List.set_cons_zero, List.set_cons_succ]
    refine takeG 15 (some 25) (.pointer (some ⟨w.heap.size, 2, none⟩)) rfl rfl (by kernel_rfl) (by kernel_rfl) (by kernel_rfl) (fun _ _ _ h => h) (ans_plain (by rfl) (fun w _ => by unfold execOp; go_simp)) ?_
    simp only [Act.put, List.setIfInBounds_toArray, List.set_cons_zero, List.set_cons_succ]
    refine takeG 16 (some 26) (.slice qa qn qc) rfl rfl (by kernel_rfl) (by kernel_rfl) (by kernel_rfl) (fun _ _ _ h => h) (ans_plain (by rfl) (fun w h => by have hc := X2 w h; unfold execOp; go_simp)) ?_
    simp only [Act.put, List.setIfInBounds_toArray, List.set_cons_zero, List.set_cons_succ]
    refine takeG 18 (some 28) (.agg (List.toArray [.bool lf, .slice pa pn pc, .slice qa qn qc])) rfl rfl (by kernel_rfl) (by kernel_rfl) (by kernel_rfl) (fun _ _ _ h => h) (ans_row 25 (.tmp 1) _ 3 rfl (by rfl) w.heap.size 0 rfl [.bool lf, .slice pa pn pc, .slice qa qn qc] (fun u hu => (bV.below (Grows.trans g1 hu) bV.lt).whole) Try.underlying25 rfl rfl sizeNd) ?_
    simp only [Act.put, List.setIfInBounds_toArray, List.set_cons_zero, List.set_cons_succ]
    refine callG 2 (some 12) 26 #[.tmp 11, .const (.int .i64 1)] #[50, 3] #[.int .u64 (kd : Int), .int .i64 1] rfl rfl rfl (by rfl) (by rfl) (by kernel_rfl) Try.call26 fun x1 hgx1 hsx1 => ?_
    refine (oPut (kd : Int) 1 x1 (by omega) (by omega) (by omega) (by omega)).mono ?_
    rintro e x1' ⟨a1, m1, c1, rfl, hO1, hbx1⟩
    refine ⟨_, rfl, Grows.trans hsx1 hbx1, ?_⟩
    simp only [Act.put, List.setIfInBounds_toArray, List.set_cons_zero, List.set_cons_succ]
    have H1 : Hid (Bs x1' a1 m1 c1 (putL kd 1)) := hO1.toBs
    clear hO1
    refine callG 11 (some 21) 26 #[.tmp 20, .const (.int .i64 2)] #[50, 3] #[.int .u64 ((pn : Int) + (qn : Int)), .int .i64 2] rfl rfl rfl (by rfl) (by rfl) (by kernel_rfl) Try.call26 fun x2 hgx2 hsx2 => ?_
    refine (oPut ((pn : Int) + (qn : Int)) 2 x2 (by omega) (by omega) (by omega) (by omega)).mono ?_
    rintro e x2' ⟨a2, m2, c2, rfl, hO2, hbx2⟩
    refine ⟨_, rfl, Grows.trans hsx2 hbx2, ?_⟩
    simp only [Act.put, List.setIfInBounds_toArray, List.set_cons_zero, List.set_cons_succ]
    rw [show ((pn : Int) + (qn : Int)).toNat = pn + qn from by omega] at hO2
    have H2 : Hid (Bs x2' a2 m2 c2 (putL (pn + qn) 2)) := hO2.toBs
    clear hO2
    refine callG 14 (some 24) 28 #[.tmp 23, .func 29] #[22, 53] #[.slice pa pn pc, .func (.func 29) #[] #[]] rfl rfl rfl (by rfl) (by rfl) (by kernel_rfl) Try.call28 fun x3 hgx3 hsx3 => ?_
    refine (CJ1.out x3 hsx3).mono ?_
    rintro e x3' ⟨a3, m3, c3, rfl, hO3, hbx3⟩
    refine ⟨_, rfl, Grows.trans hsx3 hbx3, ?_⟩
    simp only [Act.put, List.setIfInBounds_toArray, List.set_cons_zero, List.set_cons_succ]
    have H3 : Hid (Bs x3' a3 m3 c3 (FP)) := hO3.toBs
    clear hO3
    refine callG 17 (some 27) 30 #[.tmp 26, .func 31] #[23, 55] #[.slice qa qn qc, .func (.func 31) #[] #[]] rfl rfl rfl (by rfl) (by rfl) (by kernel_rfl) Try.call30 fun x4 hgx4 hsx4 => ?_
    refine (CJ2.out x4 hsx4).mono ?_
    rintro e x4' ⟨a4, m4, c4, rfl, hO4, hbx4⟩
    refine ⟨_, rfl, Grows.trans hsx4 hbx4, ?_⟩
    simp only [Act.put, List.setIfInBounds_toArray, List.set_cons_zero, List.set_cons_succ]
    have H4 : Hid (Bs x4' a4 m4 c4 (FK)) := hO4.toBs
    clear hO4
    refine takeG 19 (some 29) (.int .i64 (sz : Int)) rfl rfl (by kernel_rfl) (by kernel_rfl) (by kernel_rfl) (fun _ _ _ h => h) (ans_fn 16 #[.tmp 28] #[25] #[.agg (List.toArray [.bool lf, .slice pa pn pc, .slice qa qn qc])] rfl (by rfl) (by rfl) Try.call16 fun u hu => CZ.out u hu) ?_
    simp only [Act.put, List.setIfInBounds_toArray, List.set_cons_zero, List.set_cons_succ]
    refine takeG 20 (some 30) (.int .i64 (rst : Int)) rfl rfl (by kernel_rfl) (by kernel_rfl) (by kernel_rfl) (fun _ _ _ h => h) (ans_plain (by rfl) (fun w _ => by unfold execOp; go_simp)) ?_
    simp only [Act.put, List.setIfInBounds_toArray, List.set_cons_zero, List.set_cons_succ]
    refine oneG 21 (by kernel_rfl) fun w2 hg2 hs2 => ?_
    refine opMk8 (some 31) rfl rfl rfl (.tmp 30) (.tmp 30) rfl rst rfl rfl (by omega) fun w3 hO5 hg3 => ⟨Grows.trans hs2 hg3, ?_⟩
    simp only [Act.put, List.setIfInBounds_toArray, List.set_cons_zero, List.set_cons_succ]
    have H5 : Hid (Bs w3 (some ⟨w2.heap.size, 0, none⟩) rst rst (List.replicate rst 0)) := hO5.toBs
    refine oneG 22 (by kernel_rfl) fun w4 hg4 hs4 => ?_
    refine opBS5 (some 32) rfl rfl rfl (.tmp 12) (.tmp 21) (.tmp 24) (.tmp 27) (.tmp 31) rfl rfl rfl rfl rfl rfl ⟨Grows.trans hs4 (below_alloc _ _), ?_⟩
    simp only [Act.put, List.setIfInBounds_toArray, List.set_cons_zero, List.set_cons_succ]
    have t4 : Grows x4' w4 := Grows.trans hg2 (Grows.trans hg3 hg4)
    have t3 : Grows x3' w4 := Grows.trans hgx4 (Grows.trans hbx4 t4)
    have t2 : Grows x2' w4 := Grows.trans hgx3 (Grows.trans hbx3 t3)
    have t1 : Grows x1' w4 := Grows.trans hgx2 (Grows.trans hbx2 t2)
    have B5 : Hid (Bss (w4.alloc (.cells #[.slice a1 m1 c1, .slice a2 m2 c2, .slice a3 m3 c3, .slice a4 m4 c4, .slice (some ⟨w2.heap.size, 0, none⟩) rst rst] 26)) (some ⟨w4.heap.size, 0, none⟩) 5 5 [putL kd 1, putL (pn + qn) 2, FP, FK, List.replicate rst 0]) := bss5 (H1.out.below t1 (Nat.le_refl _)) (H2.out.below t2 (Nat.le_refl _)) (H3.out.below t3 (Nat.le_refl _)) (H4.out.below t4 (Nat.le_refl _)) (H5.out.below hg4 (Nat.le_refl _))
    refine callG 23 (some 33) 25 #[.tmp 32] #[92] #[.slice (some ⟨w4.heap.size, 0, none⟩) 5 5] rfl rfl rfl (by rfl) (by rfl) (by kernel_rfl) Try.call25 fun u1 hg1 hs1 => ?_
    refine (oJoin u1 (B5.out.below hg1 (Nat.le_refl _)) HT.out).mono ?_
    rintro e u2 ⟨a, m, c, rfl, hO, hb⟩
    refine ⟨_, rfl, Grows.trans hs1 hb, ?_⟩
    simp only [Act.put, List.setIfInBounds_toArray, List.set_cons_zero, List.set_cons_succ]
    refine takeG 24 (some 2) (.slice a m c) rfl rfl (by kernel_rfl) (by kernel_rfl) (by kernel_rfl) (fun _ _ _ h => h) (ans_plain (by rfl) (fun w _ => rfl)) ?_
    simp only [Act.put, List.setIfInBounds_toArray, List.set_cons_zero, List.set_cons_succ]
    refine takeG 25 (some 3) (.int .i64 0) rfl rfl (by kernel_rfl) (by kernel_rfl) (by kernel_rfl) (fun _ _ _ h => h) (ans_plain (by rfl) (fun w _ => rfl)) ?_
    simp only [Act.put, List.setIfInBounds_toArray, List.set_cons_zero, List.set_cons_succ]
    refine doneG (by kernel_rfl) fun v6 hg_v6 hs_v6 => ?_
    have k1 : Below w.heap.size w u1 := kW.trans (Below.mono (Grows.trans g1 hs1) kW.size)
    have HO : Hid (Own v6 w.heap.size (.slice a m c) NL) := by show Own _ _ _ _; rw [← HL.out]; exact (hO.mono k1.size).below hg_v6 (Nat.le_refl _)
    have k8 : Below w.heap.size w v6 := kW.trans (Below.mono (Grows.trans g1 hs_v6) kW.size)
    clear hO hb hs1 hg1 B5 H1 H2 H3 H4 H5 hO5 CJ1 CJ2 CZ CK
    go_wp2_with fail
    go_ret2
    exact ⟨a, m, c, rfl, HO.out, k8⟩
  · rw [if_neg h0]
    clear hto hpo CK0 CZ0 hps1 hks1
    generalize chkN ⟨lf, ps, ks⟩ = cd at *
    have b3 : (cd == 0) = false := by simp [h0]
    go_enter Try.func9, Try.ntmps9
    go_upto_region 1 with fail
    rw [← hV]
    clear hV
    go_wp2_with ((with_reducible refine at_ld 25 ?_); (refine ld 25 (.tmp 1) 3 sizeNd _ Try.underlying25 rfl w.heap.size 0 [.bool lf, .slice pa pn pc, .slice qa qn qc] rfl bV.whole rfl ?_))
    refine (CC.out V (Grows.refl V)).mono ?_
    rintro e V1 ⟨rfl, g1⟩
    go_wp2_with fail
    go_ret2
    exact ⟨none, 0, 0, rfl, Own.nil _ _, kW.trans (Below.mono g1 kW.size)⟩

end Go.Proofs.Ytnmmopneacdgfaa

/-
  The contract of sort.Search, of whatever is asked. Condition: what holds of a place holds of all behind it; at most a million places.
-/
namespace Go.Proofs.Ytnmmopneacdgfaa
open Go.RowKit
set_option linter.unusedVariables false

set_option maxRecDepth 100000 in
set_option maxHeartbeats 4000000 in
theorem oSearch (w : World) (F : FuncId) (c1 c2 : Value) (n : Nat) (P : Nat → Bool) (hn : n ≤ 1000000) (hcall : ∀ args w, Sem.run Try.prog (callFunc F args) w = .ok (.enter F args) w) (hm : ∀ a b, a ≤ b → b < n → P a = true → P b = true)
    (hf : ∀ u, Below w.heap.size w u → ∀ k : Nat, k < n → Calls Try.prog F #[.int .i64 (k : Int), c1, c2] u fun e w' => e = .returned (.bool (P k)) ∧ Below u.heap.size u w') :
    Calls Try.prog 80 #[.int .i64 (n : Int), .func (.func F) #[] #[c1, c2]] w fun e w' => ∃ z : Nat, e = .returned (.int .i64 (z : Int)) ∧ z ≤ n ∧ (∀ k, k < z → P k = false) ∧ (∀ k, z ≤ k → k < n → P k = true) ∧ Below w.heap.size w w' := by
  have HF : Hid (∀ u, Below w.heap.size w u → ∀ k : Nat, k < n → Calls Try.prog F #[.int .i64 (k : Int), c1, c2] u fun e w' => e = .returned (.bool (P k)) ∧ Below u.heap.size u w') := hf
  have HM : Hid (∀ a b, a ≤ b → b < n → P a = true → P b = true) := hm
  clear hf hm
  go_enter Try.func80, Try.ntmps80
  go_wp2_with fail
  go_loopw [5, 6] (fun i j wr => ∃ x y : Nat, x ≤ y ∧ y ≤ n ∧ i = .int .i64 (x : Int) ∧ j = .int .i64 (y : Int) ∧ Hid (∀ k, k < x → P k = false) ∧ Hid (∀ k, y ≤ k → k < n → P k = true) ∧ Below w.heap.size w wr) (fun i j _ => (intOf j).toNat - (intOf i).toNat)
  case atStart => exact ⟨0, n, Nat.zero_le _, Nat.le_refl _, rfl, rfl, (fun k hk => by omega), (fun k h1 h2 => by omega), Below.refl _ _⟩
  case round =>
    obtain ⟨x, y, hxy, hy, rfl, rfl, HA, HB, hb⟩ := hrel
    by_cases hlt : x < y
    · have i0 : (x : Int) < (y : Int) := by omega
      obtain ⟨h, hh⟩ : ∃ h, h = (x + y) / 2 := ⟨_, rfl⟩
      have h1 : x ≤ h ∧ h < y := by omega
      have j1 : IntKind.i64.wrap ((x : Int) + (y : Int)) = (x : Int) + (y : Int) := by rw [IntKind.wrap_i64]; omega
      have j2 : IntKind.u64.wrap ((x : Int) + (y : Int)) = (x : Int) + (y : Int) := by rw [IntKind.wrap_u64]; omega
      have j3 : ((x : Int) + (y : Int)) / 2 = (h : Int) := by omega
      have j4 : IntKind.i64.wrap (h : Int) = (h : Int) := by rw [IntKind.wrap_i64]; omega
      have C := HF.out wr hb h (by omega)
      clear hh
      cases hp : P h with
      | true =>
        rw [hp] at C
        have HC : Hid (∀ k, h ≤ k → k < n → P k = true) := fun k a b => HM.out h k a b hp
        clear hp
        go_wp2_with fail
        refine C.mono ?_
        rintro e w2 ⟨rfl, hb2⟩
        have k2 : Below w.heap.size w w2 := hb.trans (hb2.mono hb.size)
        clear C hb2 hb
        go_wp2_with fail
        go_roundw
        case rel => exact ⟨x, h, by omega, by omega, rfl, rfl, HA, HC, k2⟩
        case measure => simp [intOf]; omega
      | false =>
        rw [hp] at C
        have HC : Hid (∀ k, k < h + 1 → P k = false) := fun k a => by
          cases hk : P k with
          | false => rfl
          | true => rw [HM.out k h (by omega) (by omega) hk] at hp; cases hp
        clear hp
        go_wp2_with fail
        refine C.mono ?_
        rintro e w2 ⟨rfl, hb2⟩
        have k2 : Below w.heap.size w w2 := hb.trans (hb2.mono hb.size)
        clear C hb2 hb
        go_wp2_with fail
        go_roundw
        case rel => exact ⟨h + 1, y, by omega, by omega, by go_num, rfl, HC, HB, k2⟩
        case measure => simp [intOf]; omega
    · have i0 : ¬ (x : Int) < (y : Int) := by omega
      obtain rfl : x = y := by omega
      go_wp2_with fail
      go_ret
      exact ⟨x, rfl, hy, HA.out, HB.out, hb⟩

end Go.Proofs.Ytnmmopneacdgfaa

/-
  Bytes as a text and a text as bytes: 'string(b)' of whatever bytes, '[]byte(s)' of whatever text. No condition; no statement of the seat is proved here.
-/
namespace Go.Proofs.Ytnmmopneacdgfaa
open Go.RowKit

/-- Bytes as a text. -/
def sv (l : List UInt8) : Value := .string ⟨l.toArray⟩
/-- 'string(b)'. -/
theorem Bs.str {w : World} {a : Option Addr} {m c : Nat} {l : List UInt8} (h : Bs w a m c l) : Sem.run Try.prog (convert 26 9 (.slice a m c)) w = .ok (sv l) w := by
  have hl := h.len
  by_cases h0 : m = 0
  · subst h0
    have e : l = [] := List.length_eq_zero_iff.1 hl
    subst e
    rw [run_convert_bytes_string w 26 9 5 a 0 c Try.underlying26 Try.underlying5 Try.underlying9]
    cases a <;> simp [Conv.bytesToString, sv, loadCells] <;> rfl
  · obtain ⟨b, o, rfl, _, hc⟩ := h.at (by omega)
    rw [run_convert_bytes_arg w 26 5 Try.underlying26 Try.underlying5 b o m c (l.map fun x => (x.toNat : Int)) (by simp [hl]) ?_ 9 Try.underlying9]
    · have e : strOfNums (l.map fun x => (x.toNat : Int)) = ⟨l.toArray⟩ := by
        unfold strOfNums
        simp [Function.comp_def]
      rw [e]
      rfl
    · intro i hi
      rw [hc i hi]
      have hi' : i < l.length := by rw [hl]; exact hi
      rw [bt_of_lt hi']
      simp [List.getD_eq_getElem?_getD, hi']
end Go.Proofs.Ytnmmopneacdgfaa

/-
  Contracts of layer 18's program: bytes.Equal, what holds of a pair or a kid, the first one of which it holds. Condition: rising keys; at most a hundred thousand things.
-/
namespace Go.Proofs.Ytnmmopneacdgfaa
open Go.RowKit
set_option linter.unusedVariables false
/-- The first one. -/
def fstI {α : Type} (p : α → Bool) : List α → Nat
  | [] => 0
  | x :: l => if p x = true then 0 else fstI p l + 1
theorem fstI_le {α : Type} (p : α → Bool) : ∀ l, fstI p l ≤ l.length
  | [] => Nat.le_refl _
  | x :: l => by
    unfold fstI
    split
    · exact Nat.zero_le _
    · have := fstI_le p l
      simp only [List.length_cons]
      omega
theorem fstI_eq {α : Type} (p : α → Bool) : ∀ {l : List α} {z : Nat}, z ≤ l.length → (∀ k x, k < z → l[k]? = some x → p x = false) → (∀ x, l[z]? = some x → p x = true) → fstI p l = z
  | [], z, hz, _, _ => by
    simp at hz
    rw [hz]
    rfl
  | x :: l, 0, _, _, h => by
    unfold fstI
    rw [if_pos (h x rfl)]
  | x :: l, z + 1, hz, h1, h2 => by
    unfold fstI
    rw [if_neg (by rw [h1 0 x (by omega) rfl]; decide), fstI_eq p (l := l) (z := z) (by simpa using hz) (fun k y hk hy => h1 (k + 1) y (by omega) (by simpa using hy)) (fun y hy => h2 y (by simpa using hy))]
def geB (key x : List UInt8) : Bool := decide (0 ≤ Lib.compareBytes x key)
def gtB (key x : List UInt8) : Bool := decide (0 < Lib.compareBytes x key)
def heldAt {α : Type} (p : α → Bool) (l : List α) (k : Nat) : Bool := match l[k]? with
  | some x => p x
  | none => true
theorem heldAt_of {α : Type} {p : α → Bool} {l : List α} {k : Nat} {x : α} (h : l[k]? = some x) : heldAt p l k = p x := by
  unfold heldAt
  rw [h]
theorem ge_mono {key : List UInt8} {α : Type} {f : α → List UInt8} {l : List α} (h : riseB f l = true) {a b : Nat} {x y : α} (hab : a ≤ b) (hx : l[a]? = some x) (hy : l[b]? = some y) (hp : geB key (f x) = true) : geB key (f y) = true := by
  by_cases e : a = b
  · subst e
    rw [hx] at hy
    rw [← Option.some.inj hy]
    exact hp
  · have h1 := rise_two h (i := a) (j := b) (by omega) hx hy
    have h2 := cb_neg (f x) (f y)
    have h3 := cb_neg key (f x)
    have h4 := cb_neg key (f y)
    unfold geB at *
    have hp' := of_decide_eq_true hp
    refine decide_eq_true ?_
    have := (cb_three key (f x) (f y)).1 (by omega) (by omega)
    omega
theorem gt_mono {key : List UInt8} {α : Type} {f : α → List UInt8} {l : List α} (h : riseB f l = true) {a b : Nat} {x y : α} (hab : a ≤ b) (hx : l[a]? = some x) (hy : l[b]? = some y) (hp : gtB key (f x) = true) : gtB key (f y) = true := by
  by_cases e : a = b
  · subst e
    rw [hx] at hy
    rw [← Option.some.inj hy]
    exact hp
  · have h1 := rise_two h (i := a) (j := b) (by omega) hx hy
    have h3 := cb_neg key (f x)
    have h4 := cb_neg key (f y)
    unfold gtB at *
    have hp' := of_decide_eq_true hp
    refine decide_eq_true ?_
    have := (cb_three key (f x) (f y)).2 (by omega) (by omega)
    omega
set_option maxRecDepth 100000 in
set_option maxHeartbeats 4000000 in
theorem oEqualBy (w : World) {a b : Option Addr} {n c n' c' : Nat} {l m : List UInt8} (ha : Bs w a n c l) (hb : Bs w b n' c' m) : Calls Try.prog 61 #[.slice a n c, .slice b n' c'] w fun e w' => e = .returned (.bool (decide (l = m))) ∧ w' = w := by
  have h1 := ha.str
  have h2 := hb.str
  unfold sv at h1 h2
  clear ha hb
  by_cases h : l = m
  · subst h
    rw [decide_eq_true rfl]
    go_enter Try.func61, Try.ntmps61
    go_wp2_with fail
    go_ret
    exact ⟨by simp, rfl⟩
  · rw [decide_eq_false h]
    go_enter Try.func61, Try.ntmps61
    go_wp2_with fail
    go_ret
    exact ⟨by simpa using h, rfl⟩
set_option maxRecDepth 100000 in
set_option maxHeartbeats 4000000 in
theorem oHoldP (w : World) {A : Nat → Prop} {x : PairS} {vs : List Value} (h : elPr A w x vs) {kb : Nat} {ka : Option Addr} {kn kz : Nat} {key : List UInt8} (hb : Blk w kb [.slice ka kn kz] 26) (hk : Bs w ka kn kz key) : Calls Try.prog 59 #[.agg vs.toArray, .pointer (some ⟨kb, 0, none⟩)] w fun e w' => e = .returned (.bool (geB key x.key)) ∧ Below w.heap.size w w' := by
  obtain ⟨kp, km, kc, vp, vm, vc, rfl, hB1, hB2⟩ := h
  have c0 : (w.alloc (.cells (List.toArray [.slice kp km kc, .slice vp vm vc]) 44)).cell? ⟨kb, 0, none⟩ = some (.slice ka kn kz) := (hb.old _).cell 0
  have hl := hb.lt
  have CC : Hid (Calls Try.prog 60 #[.slice kp km kc, .slice ka kn kz] (w.alloc (.cells (List.toArray [.slice kp km kc, .slice vp vm vc]) 44)) fun e w' => e = .returned (.int .i64 (Lib.compareBytes x.key key)) ∧ w' = w.alloc (.cells (List.toArray [.slice kp km kc, .slice vp vm vc]) 44)) := oCompare _ (hB1.1.below (below_alloc _ _) (Nat.le_refl _)) (hk.below (below_alloc _ _) (Nat.le_refl _))
  unfold geB
  generalize Lib.compareBytes x.key key = cb at *
  clear hB1 hb hk
  by_cases hc : 0 ≤ cb
  · rw [decide_eq_true hc]
    have b3 : (0 : Int) ≤ cb := hc
    go_enter Try.func59, Try.ntmps59
    go_wp2_with fail
    refine CC.out.mono ?_
    rintro e w2 ⟨rfl, rfl⟩
    go_wp2_with fail
    go_ret
    exact ⟨by first | rfl | (simp [hc]; done) | (simp; omega), below_alloc _ _⟩
  · rw [decide_eq_false hc]
    have b3 : ¬ (0 : Int) ≤ cb := hc
    go_enter Try.func59, Try.ntmps59
    go_wp2_with fail
    refine CC.out.mono ?_
    rintro e w2 ⟨rfl, rfl⟩
    go_wp2_with fail
    go_ret
    exact ⟨by first | rfl | (simp [hc]; done) | (simp; omega), below_alloc _ _⟩
set_option maxRecDepth 100000 in
set_option maxHeartbeats 4000000 in
theorem oHoldK (w : World) {A : Nat → Prop} {x : KidS} {vs : List Value} (h : elKd A w x vs) {kb : Nat} {ka : Option Addr} {kn kz : Nat} {key : List UInt8} (hb : Blk w kb [.slice ka kn kz] 26) (hk : Bs w ka kn kz key) : Calls Try.prog 63 #[.agg vs.toArray, .pointer (some ⟨kb, 0, none⟩)] w fun e w' => e = .returned (.bool (gtB key x.key)) ∧ Below w.heap.size w w' := by
  obtain ⟨kp, km, kc, rfl, hB1, hp6, he6⟩ := h
  have c0 : (w.alloc (.cells (List.toArray [.slice kp km kc, .int .i64 x.page, .int .i64 x.epoch]) 46)).cell? ⟨kb, 0, none⟩ = some (.slice ka kn kz) := (hb.old _).cell 0
  have hl := hb.lt
  have CC : Hid (Calls Try.prog 60 #[.slice kp km kc, .slice ka kn kz] (w.alloc (.cells (List.toArray [.slice kp km kc, .int .i64 x.page, .int .i64 x.epoch]) 46)) fun e w' => e = .returned (.int .i64 (Lib.compareBytes x.key key)) ∧ w' = w.alloc (.cells (List.toArray [.slice kp km kc, .int .i64 x.page, .int .i64 x.epoch]) 46)) := oCompare _ (hB1.1.below (below_alloc _ _) (Nat.le_refl _)) (hk.below (below_alloc _ _) (Nat.le_refl _))
  unfold gtB
  generalize Lib.compareBytes x.key key = cb at *
  clear hB1 hb hk
  by_cases hc : 0 < cb
  · rw [decide_eq_true hc]
    have b3 : (0 : Int) < cb := hc
    go_enter Try.func63, Try.ntmps63
    go_wp2_with fail
    refine CC.out.mono ?_
    rintro e w2 ⟨rfl, rfl⟩
    go_wp2_with fail
    go_ret
    exact ⟨by first | rfl | (simp [hc]; done) | (simp; omega), below_alloc _ _⟩
  · rw [decide_eq_false hc]
    have b3 : ¬ (0 : Int) < cb := hc
    go_enter Try.func63, Try.ntmps63
    go_wp2_with fail
    refine CC.out.mono ?_
    rintro e w2 ⟨rfl, rfl⟩
    go_wp2_with fail
    go_ret
    exact ⟨by first | rfl | (simp [hc]; done) | (simp; omega), below_alloc _ _⟩
set_option maxRecDepth 100000 in
set_option maxHeartbeats 4000000 in
theorem oFstCP (w : World) {A : Nat → Prop} {a : Option Addr} {n c : Nat} {l : List PairS} (h : SlP A w a n c l) (hn : n ≤ 100000) {kb hx tb : Nat} {ka : Option Addr} {kn kz : Nat} {key : List UInt8} (hb : Blk w kb [.slice ka kn kz] 26) (hk : Bs w ka kn kz key) (h1 : Blk w hx [.func (.func 59) #[] #[.pointer (some ⟨kb, 0, none⟩)]] 84) (h2 : Blk w tb [.slice a n c] 22) (k : Nat) (hkn : k < n) : Calls Try.prog 81 #[.int .i64 (k : Int), .pointer (some ⟨hx, 0, none⟩), .pointer (some ⟨tb, 0, none⟩)] w fun e w' => e = .returned (.bool (heldAt (fun x => geB key x.key) l k)) ∧ Below w.heap.size w w' := by
  have hln := h.len
  obtain ⟨x, hx'⟩ : ∃ x, l[k]? = some x := ⟨_, List.getElem?_eq_getElem (by omega)⟩
  rw [heldAt_of hx']
  obtain ⟨bb, oo, vs, ea, hlb, hrg, hvl, hel⟩ := h.at (Below.refl _ _) hx'
  subst ea
  have hcall := Try.call59
  have CH : Hid (∀ u, Grows w u → Calls Try.prog 59 #[.agg vs.toArray, .pointer (some ⟨kb, 0, none⟩)] u fun e w' => e = .returned (.bool (geB key x.key)) ∧ Below u.heap.size u w') := fun u hu => oHoldP u (elPr.below hu x vs hel) (hb.below hu hb.lt) (hk.below hu (Nat.le_refl _))
  have X1 : ∀ u, Grows w u → u.cell? ⟨hx, 0, none⟩ = some (.func (.func 59) #[] #[.pointer (some ⟨kb, 0, none⟩)]) := fun u hu => (h1.below hu h1.lt).cell 0
  have X2 : ∀ u, Grows w u → u.cell? ⟨tb, 0, none⟩ = some (.slice (some ⟨bb, oo, none⟩) n c) := fun u hu => (h2.below hu h2.lt).cell 0
  have i1 : (k : Int) < (n : Int) := by omega
  generalize geB key x.key = hv at *
  clear h hel h1 h2 hb hk
  go_enter Try.func81, Try.ntmps81
  go_wp2_with fail
  refine regionG (S := Grows w) (by kernel_rfl) (Below.refl _ w).drew ?_
  refine takeG 0 (some 5) (.func (.func 59) #[] #[.pointer (some ⟨kb, 0, none⟩)]) rfl rfl (by kernel_rfl) (by kernel_rfl) (by kernel_rfl) (fun _ _ _ h => h) (ans_plain (by rfl) (fun w h => by have hc := X1 w h; unfold execOp; go_simp)) ?_
  simp only [Act.put, List.setIfInBounds_toArray, List.set_cons_zero, List.set_cons_succ]
  refine takeG 1 (some 6) (.slice (some ⟨bb, oo, none⟩) n c) rfl rfl (by kernel_rfl) (by kernel_rfl) (by kernel_rfl) (fun _ _ _ h => h) (ans_plain (by rfl) (fun w h => by have hc := X2 w h; unfold execOp; go_simp)) ?_
  simp only [Act.put, List.setIfInBounds_toArray, List.set_cons_zero, List.set_cons_succ]
  refine takeG 2 (some 7) (.int .i64 (k : Int)) rfl rfl (by kernel_rfl) (by kernel_rfl) (by kernel_rfl) (fun _ _ _ h => h) (ans_plain (by rfl) (fun w _ => rfl)) ?_
  simp only [Act.put, List.setIfInBounds_toArray, List.set_cons_zero, List.set_cons_succ]
  refine takeG 3 (some 8) (.pointer (some ⟨bb, oo + k * 2, none⟩)) rfl rfl (by kernel_rfl) (by kernel_rfl) (by kernel_rfl) (fun _ _ _ h => h) (ans_plain (by rfl) (fun w _ => by unfold execOp; go_simp)) ?_
  simp only [Act.put, List.setIfInBounds_toArray, List.set_cons_zero, List.set_cons_succ]
  refine takeG 4 (some 9) (.agg vs.toArray) rfl rfl (by kernel_rfl) (by kernel_rfl) (by kernel_rfl) (fun _ _ _ h => h) (ans_row 44 (.tmp 8) _ 2 rfl (by rfl) bb (oo + k * 2) rfl vs (fun u hu => rangeB hrg hu hlb) Try.underlying44 rfl hvl sizePr) ?_
  simp only [Act.put, List.setIfInBounds_toArray, List.set_cons_zero, List.set_cons_succ]
  refine takeG 5 (some 10) (.bool hv) rfl rfl (by kernel_rfl) (by kernel_rfl) (by kernel_rfl) (fun _ _ _ h => h) (ans_fnV 59 #[.agg vs.toArray, .pointer (some ⟨kb, 0, none⟩)] (by rfl) (fun w => by simp [execOp, resolve, invoke, Act.eval, Deferred.ofValue, hcall]) fun u hu => CH.out u hu) ?_
  simp only [Act.put, List.setIfInBounds_toArray, List.set_cons_zero, List.set_cons_succ]
  refine takeG 6 (some 4) (.bool hv) rfl rfl (by kernel_rfl) (by kernel_rfl) (by kernel_rfl) (fun _ _ _ h => h) (ans_plain (by rfl) (fun w _ => rfl)) ?_
  simp only [Act.put, List.setIfInBounds_toArray, List.set_cons_zero, List.set_cons_succ]
  refine doneG (by kernel_rfl) fun v6 hg_v6 hs_v6 => ?_
  have k6 : Below w.heap.size w v6 := hs_v6
  clear CH
  go_wp2_with fail
  go_ret
  exact ⟨rfl, k6⟩
set_option maxRecDepth 100000 in
set_option maxHeartbeats 4000000 in
theorem oFirstP (w : World) {A : Nat → Prop} {a : Option Addr} {n c : Nat} {l : List PairS} (h : SlP A w a n c l) (hn : n ≤ 100000) (hr : riseB keyP l = true) {kb : Nat} {ka : Option Addr} {kn kz : Nat} {key : List UInt8} (hb : Blk w kb [.slice ka kn kz] 26) (hk : Bs w ka kn kz key) : Calls Try.prog 58 #[.slice a n c, .func (.func 59) #[] #[.pointer (some ⟨kb, 0, none⟩)]] w fun e w' => e = .returned (.int .i64 (fstI (fun x => geB key x.key) l : Nat)) ∧ Below w.heap.size w w' := by
  have hln := h.len
  obtain ⟨V, hV⟩ : ∃ V, V = (w.alloc (.cells #[.slice a n c] 22)).alloc (.cells #[.func (.func 59) #[] #[.pointer (some ⟨kb, 0, none⟩)]] 84) := ⟨_, rfl⟩
  have t1 : Blk V w.heap.size [.slice a n c] 22 := by rw [hV]; exact (Blk.newAt w _ _ w.heap.size rfl _ rfl).old _
  have t2 : Blk V (w.heap.size + 1) [.func (.func 59) #[] #[.pointer (some ⟨kb, 0, none⟩)]] 84 := by rw [hV]; exact Blk.newAt (w.alloc _) _ _ (w.heap.size + 1) (by simp) _ rfl
  have kV : Below w.heap.size w V := by rw [hV]; exact below2 _ _ _
  have CS : Hid (Calls Try.prog 80 #[.int .i64 (n : Int), .func (.func 81) #[] #[.pointer (some ⟨w.heap.size + 1, 0, none⟩), .pointer (some ⟨w.heap.size, 0, none⟩)]] V fun e w' => e = .returned (.int .i64 (fstI (fun x => geB key x.key) l : Nat)) ∧ Below V.heap.size V w') := by
    refine (oSearch V 81 _ _ n (heldAt (fun x => geB key x.key) l) (by omega) Try.call81 (fun i j hij hj hp => ?_) (fun u hu k hkn => ?_)).mono ?_
    · obtain ⟨x, hx⟩ : ∃ x, l[i]? = some x := ⟨_, List.getElem?_eq_getElem (by omega)⟩
      obtain ⟨y, hy⟩ : ∃ y, l[j]? = some y := ⟨_, List.getElem?_eq_getElem (by omega)⟩
      rw [heldAt_of hx] at hp
      rw [heldAt_of hy]
      exact ge_mono (f := keyP) hr hij hx hy hp
    · have ku : Below w.heap.size w u := kV.trans (hu.mono kV.size)
      exact oFstCP u (h.below ku) hn (hb.below ku hb.lt) (hk.below ku (Nat.le_refl _)) (t2.below hu t2.lt) (t1.below hu t1.lt) k hkn
    · rintro e w' ⟨z, rfl, hz, g1, g2, hb'⟩
      refine ⟨?_, hb'⟩
      rw [fstI_eq _ (z := z) (by omega) (fun k x hkz hx => by rw [← heldAt_of (p := fun x => geB key x.key) hx]; exact g1 k hkz) (fun x hx => by rw [← heldAt_of (p := fun x => geB key x.key) hx]; exact g2 z (Nat.le_refl _) (by have := (List.getElem?_eq_some_iff.1 hx).1; omega))]
  have c0 : V.cell? ⟨w.heap.size, 0, none⟩ = some (.slice a n c) := t1.cell 0
  generalize fstI (fun x => geB key x.key) l = z at *
  clear h hb hk t1 t2 hr
  go_enter Try.func58, Try.ntmps58
  go_upto_region 1 with fail
  rw [← hV]
  clear hV
  go_wp2_with fail
  refine CS.out.mono ?_
  rintro e w2 ⟨rfl, hb2⟩
  have k2 : Below w.heap.size w w2 := kV.trans (hb2.mono kV.size)
  clear CS hb2
  go_wp2_with fail
  go_ret
  exact ⟨rfl, k2⟩
set_option maxRecDepth 100000 in
set_option maxHeartbeats 4000000 in
theorem oFstCK (w : World) {A : Nat → Prop} {a : Option Addr} {n c : Nat} {l : List KidS} (h : SlD A w a n c l) (hn : n ≤ 100000) {kb hx tb : Nat} {ka : Option Addr} {kn kz : Nat} {key : List UInt8} (hb : Blk w kb [.slice ka kn kz] 26) (hk : Bs w ka kn kz key) (h1 : Blk w hx [.func (.func 63) #[] #[.pointer (some ⟨kb, 0, none⟩)]] 86) (h2 : Blk w tb [.slice a n c] 23) (k : Nat) (hkn : k < n) : Calls Try.prog 83 #[.int .i64 (k : Int), .pointer (some ⟨hx, 0, none⟩), .pointer (some ⟨tb, 0, none⟩)] w fun e w' => e = .returned (.bool (heldAt (fun x => gtB key x.key) l k)) ∧ Below w.heap.size w w' := by
  have hln := h.len
  obtain ⟨x, hx'⟩ : ∃ x, l[k]? = some x := ⟨_, List.getElem?_eq_getElem (by omega)⟩
  rw [heldAt_of hx']
  obtain ⟨bb, oo, vs, ea, hlb, hrg, hvl, hel⟩ := h.at (Below.refl _ _) hx'
  subst ea
  have hcall := Try.call63
  have CH : Hid (∀ u, Grows w u → Calls Try.prog 63 #[.agg vs.toArray, .pointer (some ⟨kb, 0, none⟩)] u fun e w' => e = .returned (.bool (gtB key x.key)) ∧ Below u.heap.size u w') := fun u hu => oHoldK u (elKd.below hu x vs hel) (hb.below hu hb.lt) (hk.below hu (Nat.le_refl _))
  have X1 : ∀ u, Grows w u → u.cell? ⟨hx, 0, none⟩ = some (.func (.func 63) #[] #[.pointer (some ⟨kb, 0, none⟩)]) := fun u hu => (h1.below hu h1.lt).cell 0
  have X2 : ∀ u, Grows w u → u.cell? ⟨tb, 0, none⟩ = some (.slice (some ⟨bb, oo, none⟩) n c) := fun u hu => (h2.below hu h2.lt).cell 0
  have i1 : (k : Int) < (n : Int) := by omega
  generalize gtB key x.key = hv at *
  clear h hel h1 h2 hb hk
  go_enter Try.func83, Try.ntmps83
  go_wp2_with fail
  refine regionG (S := Grows w) (by kernel_rfl) (Below.refl _ w).drew ?_
  refine takeG 0 (some 5) (.func (.func 63) #[] #[.pointer (some ⟨kb, 0, none⟩)]) rfl rfl (by kernel_rfl) (by kernel_rfl) (by kernel_rfl) (fun _ _ _ h => h) (ans_plain (by rfl) (fun w h => by have hc := X1 w h; unfold execOp; go_simp)) ?_
  simp only [Act.put, List.setIfInBounds_toArray, List.set_cons_zero, List.set_cons_succ]
  refine takeG 1 (some 6) (.slice (some ⟨bb, oo, none⟩) n c) rfl rfl (by kernel_rfl) (by kernel_rfl) (by kernel_rfl) (fun _ _ _ h => h) (ans_plain (by rfl) (fun w h => by have hc := X2 w h; unfold execOp; go_simp)) ?_
  simp only [Act.put, List.setIfInBounds_toArray, List.set_cons_zero, List.set_cons_succ]
  refine takeG 2 (some 7) (.int .i64 (k : Int)) rfl rfl (by kernel_rfl) (by kernel_rfl) (by kernel_rfl) (fun _ _ _ h => h) (ans_plain (by rfl) (fun w _ => rfl)) ?_
  simp only [Act.put, List.setIfInBounds_toArray, List.set_cons_zero, List.set_cons_succ]
  refine takeG 3 (some 8) (.pointer (some ⟨bb, oo + k * 3, none⟩)) rfl rfl (by kernel_rfl) (by kernel_rfl) (by kernel_rfl) (fun _ _ _ h => h) (ans_plain (by rfl) (fun w _ => by unfold execOp; go_simp)) ?_
  simp only [Act.put, List.setIfInBounds_toArray, List.set_cons_zero, List.set_cons_succ]
  refine takeG 4 (some 9) (.agg vs.toArray) rfl rfl (by kernel_rfl) (by kernel_rfl) (by kernel_rfl) (fun _ _ _ h => h) (ans_row 46 (.tmp 8) _ 3 rfl (by rfl) bb (oo + k * 3) rfl vs (fun u hu => rangeB hrg hu hlb) Try.underlying46 rfl hvl sizeKd) ?_
  simp only [Act.put, List.setIfInBounds_toArray, List.set_cons_zero, List.set_cons_succ]
  refine takeG 5 (some 10) (.bool hv) rfl rfl (by kernel_rfl) (by kernel_rfl) (by kernel_rfl) (fun _ _ _ h => h) (ans_fnV 63 #[.agg vs.toArray, .pointer (some ⟨kb, 0, none⟩)] (by rfl) (fun w => by simp [execOp, resolve, invoke, Act.eval, Deferred.ofValue, hcall]) fun u hu => CH.out u hu) ?_
  simp only [Act.put, List.setIfInBounds_toArray, List.set_cons_zero, List.set_cons_succ]
  refine takeG 6 (some 4) (.bool hv) rfl rfl (by kernel_rfl) (by kernel_rfl) (by kernel_rfl) (fun _ _ _ h => h) (ans_plain (by rfl) (fun w _ => rfl)) ?_
  simp only [Act.put, List.setIfInBounds_toArray, List.set_cons_zero, List.set_cons_succ]
  refine doneG (by kernel_rfl) fun v6 hg_v6 hs_v6 => ?_
  have k6 : Below w.heap.size w v6 := hs_v6
  clear CH
  go_wp2_with fail
  go_ret
  exact ⟨rfl, k6⟩
set_option maxRecDepth 100000 in
set_option maxHeartbeats 4000000 in
theorem oFirstK (w : World) {A : Nat → Prop} {a : Option Addr} {n c : Nat} {l : List KidS} (h : SlD A w a n c l) (hn : n ≤ 100000) (hr : riseB keyD l = true) {kb : Nat} {ka : Option Addr} {kn kz : Nat} {key : List UInt8} (hb : Blk w kb [.slice ka kn kz] 26) (hk : Bs w ka kn kz key) : Calls Try.prog 62 #[.slice a n c, .func (.func 63) #[] #[.pointer (some ⟨kb, 0, none⟩)]] w fun e w' => e = .returned (.int .i64 (fstI (fun x => gtB key x.key) l : Nat)) ∧ Below w.heap.size w w' := by
  have hln := h.len
  obtain ⟨V, hV⟩ : ∃ V, V = (w.alloc (.cells #[.slice a n c] 23)).alloc (.cells #[.func (.func 63) #[] #[.pointer (some ⟨kb, 0, none⟩)]] 86) := ⟨_, rfl⟩
  have t1 : Blk V w.heap.size [.slice a n c] 23 := by rw [hV]; exact (Blk.newAt w _ _ w.heap.size rfl _ rfl).old _
  have t2 : Blk V (w.heap.size + 1) [.func (.func 63) #[] #[.pointer (some ⟨kb, 0, none⟩)]] 86 := by rw [hV]; exact Blk.newAt (w.alloc _) _ _ (w.heap.size + 1) (by simp) _ rfl
  have kV : Below w.heap.size w V := by rw [hV]; exact below2 _ _ _
  have CS : Hid (Calls Try.prog 80 #[.int .i64 (n : Int), .func (.func 83) #[] #[.pointer (some ⟨w.heap.size + 1, 0, none⟩), .pointer (some ⟨w.heap.size, 0, none⟩)]] V fun e w' => e = .returned (.int .i64 (fstI (fun x => gtB key x.key) l : Nat)) ∧ Below V.heap.size V w') := by
    refine (oSearch V 83 _ _ n (heldAt (fun x => gtB key x.key) l) (by omega) Try.call83 (fun i j hij hj hp => ?_) (fun u hu k hkn => ?_)).mono ?_
    · obtain ⟨x, hx⟩ : ∃ x, l[i]? = some x := ⟨_, List.getElem?_eq_getElem (by omega)⟩
      obtain ⟨y, hy⟩ : ∃ y, l[j]? = some y := ⟨_, List.getElem?_eq_getElem (by omega)⟩
      rw [heldAt_of hx] at hp
      rw [heldAt_of hy]
      exact gt_mono (f := keyD) hr hij hx hy hp
    · have ku : Below w.heap.size w u := kV.trans (hu.mono kV.size)
      exact oFstCK u (h.below ku) hn (hb.below ku hb.lt) (hk.below ku (Nat.le_refl _)) (t2.below hu t2.lt) (t1.below hu t1.lt) k hkn
    · rintro e w' ⟨z, rfl, hz, g1, g2, hb'⟩
      refine ⟨?_, hb'⟩
      rw [fstI_eq _ (z := z) (by omega) (fun k x hkz hx => by rw [← heldAt_of (p := fun x => gtB key x.key) hx]; exact g1 k hkz) (fun x hx => by rw [← heldAt_of (p := fun x => gtB key x.key) hx]; exact g2 z (Nat.le_refl _) (by have := (List.getElem?_eq_some_iff.1 hx).1; omega))]
  have c0 : V.cell? ⟨w.heap.size, 0, none⟩ = some (.slice a n c) := t1.cell 0
  generalize fstI (fun x => gtB key x.key) l = z at *
  clear h hb hk t1 t2 hr
  go_enter Try.func62, Try.ntmps62
  go_upto_region 1 with fail
  rw [← hV]
  clear hV
  go_wp2_with fail
  refine CS.out.mono ?_
  rintro e w2 ⟨rfl, hb2⟩
  have k2 : Below w.heap.size w w2 := kV.trans (hb2.mono kV.size)
  clear CS hb2
  go_wp2_with fail
  go_ret
  exact ⟨rfl, k2⟩

end Go.Proofs.Ytnmmopneacdgfaa
