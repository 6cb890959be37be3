/-
  Proved: for any two sizes, any three small numbers and any two rows of bytes the statement ChunkWhole of layer 13 answers true and leaves its arguments as they were. Conditions beside the statement's own: none.
-/
import Derived.Test.YtfknplcnfpincaaRows
import Derived.Test.YtfknplcnfpincaaG24
import Derived.Below
import Derived.Deep.DeepCutAuto
import Derived.Deep.CutBlock
import Derived.ChangeOld
namespace Go.Proofs.Ytfknplcnfpincaa
namespace ChunkWholeLaw
open Go.ChangeShapes Go.WideShapes Go.ChangeAt Go.RowKit
open Go.ChangeMaps (open_string shut_string)
set_option linter.unusedVariables false

theorem own : ownKnob Try.prog.godebug = none := by kernel_rfl
theorem laidOut : laidOutB Try.prog = true := by kernel_rfl

set_option maxRecDepth 100000 in
set_option maxHeartbeats 4000000 in
theorem walk (a0 : Int) (a1 : Int) (a2 : Int) (a3 : Int) (a4 : Int) (a5 : Option Addr) (len5 cap5 : Nat) (l5 : List UInt8) (a6 : Option Addr) (len6 cap6 : Nat) (l6 : List UInt8) (w : World) (w0 : (Lit.int .u16 a0).wf = true) (w1 : (Lit.int .u16 a1).wf = true) (w2 : (Lit.int .u8 a2).wf = true) (w3 : (Lit.int .u8 a3).wf = true) (w4 : (Lit.int .u8 a4).wf = true) (w5 : Bs w a5 len5 cap5 l5) (w6 : Bs w a6 len6 cap6 l6) :
    Calls Try.prog 5 #[.int .u16 a0, .int .u16 a1, .int .u8 a2, .int .u8 a3, .int .u8 a4, .slice a5 len5 cap5, .slice a6 len6 cap6] w fun e w' => e = .returned (.bool true) ∧ Below w.heap.size w w' := by
  have b0 := bounds_u16 w0
  have b1 := bounds_u16 w1
  have b2 := bounds_u8 w2
  have b3 := bounds_u8 w3
  have b4 := bounds_u8 w4
  obtain ⟨sz, rfl⟩ : ∃ n : Nat, a0 = n := ⟨a0.toNat, by omega⟩
  obtain ⟨sy, rfl⟩ : ∃ n : Nat, a1 = n := ⟨a1.toNat, by omega⟩
  obtain ⟨iv, rfl⟩ : ∃ n : Nat, a2 = n := ⟨a2.toNat, by omega⟩
  obtain ⟨av, rfl⟩ : ∃ n : Nat, a3 = n := ⟨a3.toNat, by omega⟩
  obtain ⟨ke, rfl⟩ : ∃ n : Nat, a4 = n := ⟨a4.toNat, by omega⟩
  have hsz : sz ≤ 65535 := by omega
  have hsy : sy ≤ 65535 := by omega
  have hiv : iv ≤ 255 := by omega
  have hav : av ≤ 255 := by omega
  have hke : ke ≤ 255 := by omega
  have HW : Hid (Bs w a5 len5 cap5 l5) := w5
  have HY : Hid (Bs w a6 len6 cap6 l6) := w6
  have HW5 : Hid (l5.length = len5) := w5.len
  have hm5 := w5.max
  have hm6 := w6.max
  clear w0 w1 w2 w3 w4 w5 w6 b0 b1 b2 b3 b4
  by_cases c1 : (60 : Int) < (len5 : Int)
  · go_enter Try.func5, Try.ntmps5
    go_wp2_with fail
    refine (lWorks13 w).mono ?_
    rintro e wz ⟨rfl, hbz⟩
    go_wp2_with fail
    go_ret
    exact ⟨rfl, hbz⟩
  by_cases c2 : (60 : Int) < (len6 : Int)
  · go_enter Try.func5, Try.ntmps5
    go_wp2_with fail
    refine (lWorks13 w).mono ?_
    rintro e wz ⟨rfl, hbz⟩
    go_wp2_with fail
    go_ret
    exact ⟨rfl, hbz⟩
  have hl5 : len5 ≤ 60 := by omega
  have hl6 : len6 ≤ 60 := by omega
  obtain ⟨n, hn⟩ : ∃ n, n = sz % 1600 := ⟨_, rfl⟩
  have hnm : (sz : Int).tmod 1600 = (n : Int) := by rw [hn]; exact tmod_nat sz 1600
  have hnl : n ≤ 1599 := by omega
  obtain ⟨m, hm⟩ : ∃ n, n = sy % 1600 := ⟨_, rfl⟩
  have hmm : (sy : Int).tmod 1600 = (m : Int) := by rw [hm]; exact tmod_nat sy 1600
  have hml : m ≤ 1599 := by omega
  obtain ⟨K1, hk1⟩ : ∃ x, x = ke % 3 := ⟨_, rfl⟩
  have hk1m : (ke : Int).tmod 3 = (K1 : Int) := by rw [hk1]; exact tmod_nat ke 3
  obtain ⟨K3, hk3⟩ : ∃ x, x = ke / 3 := ⟨_, rfl⟩
  have hk3m : (ke : Int).tdiv 3 = (K3 : Int) := by rw [hk3]; exact tdiv_nat ke 3
  obtain ⟨K2, hk2⟩ : ∃ x, x = K3 % 3 := ⟨_, rfl⟩
  have hk2m : (K3 : Int).tmod 3 = (K2 : Int) := by rw [hk2]; exact tmod_nat K3 3
  have hK1l : K1 ≤ 2 := by omega
  have hK2l : K2 ≤ 2 := by omega
  have hK3l : K3 ≤ 85 := by omega
  have wK3 : IntKind.u8.wrap (K3 : Int) = (K3 : Int) := by rw [IntKind.wrap_u8]; omega
  have wK2 : IntKind.u8.wrap (K2 : Int) = (K2 : Int) := by rw [IntKind.wrap_u8]; omega
  have hcl := cnt_le (n := n) (by omega)
  have hcp := cnt_pos n
  have hdl := cnt_le (n := m) (by omega)
  have hdp := cnt_pos m
  have hC0 : ¬ (cnt n : Int) = 0 := by omega
  have hD0 : ¬ (cnt m : Int) = 0 := by omega
  obtain ⟨q, hq⟩ : ∃ x, x = iv % cnt n := ⟨_, rfl⟩
  have hqm : (iv : Int).tmod (cnt n : Int) = (q : Int) := by rw [hq]; exact tmod_nat iv (cnt n)
  have hqC : q < cnt n := by rw [hq]; exact Nat.mod_lt _ (by omega)
  obtain ⟨p, hp⟩ : ∃ x, x = av % cnt m := ⟨_, rfl⟩
  have hpm : (av : Int).tmod (cnt m : Int) = (p : Int) := by rw [hp]; exact tmod_nat av (cnt m)
  have hpD : p < cnt m := by rw [hp]; exact Nat.mod_lt _ (by omega)
  obtain ⟨C1, hC1⟩ : ∃ x, cnt n = x + 1 := ⟨cnt n - 1, by omega⟩
  obtain ⟨D1, hD1⟩ : ∃ x, cnt m = x + 1 := ⟨cnt m - 1, by omega⟩
  have sC1 : (cnt n : Int) - 1 = (C1 : Int) := by omega
  have sD1 : (cnt m : Int) - 1 = (D1 : Int) := by omega
  have HC1 : Hid (cnt n = C1 + 1 ∧ cnt m = D1 + 1) := ⟨hC1, hD1⟩
  clear hn hm hk1 hk2 hk3 hq hp hC1 hD1
  have HLL : Hid ((longL l5 n).length = n) := longL_length _ _
  obtain ⟨t, ht⟩ : ∃ t, t = longL l5 n := ⟨_, rfl⟩
  have CL : Hid (∀ u, Bs u a5 len5 cap5 l5 → Calls Try.prog 9 #[.slice a5 len5 cap5, .int .i64 (n : Int)] u (Gives u t)) := fun u h => by rw [ht]; exact lLong u h n (by omega) (by omega)
  rw [← ht] at HLL
  clear ht
  have HOK : Hid (chS (SeaS.new true) (keyC K1) l5 t (cnt n) (cnt n)).Ok := chS_ok (SeaS.Ok.new true) _ _ _ _ _ (by show 0 + 0 + _ + _ ≤ _; omega)
  have HBA : Hid ((chB (SeaS.new true) (keyC K1) l5 t (cnt n) (cnt n))[q]? = some (pad (chM (SeaS.new true) (keyC K1) l5 t (cnt n) q))) := chB_at hqC
  have HBL : Hid ((chB (SeaS.new true) (keyC K1) l5 t (cnt n) (cnt n)).length = cnt n) := chB_length _ _ _ _ _ _
  have HPB : Hid ((pad (chM (SeaS.new true) (keyC K1) l5 t (cnt n) q)).length = 512) := pad_length (by rw [chM_length (keyC_length K1)]; have := plen_le t.length q; omega)
  have CO : Hid (∀ (u : World) (U : Nat → Prop) (r : Nat) (M : SeaM) (ak aw ab : Option Addr) (ck cw cb : Nat), Se U u r (chS (SeaS.new true) (keyC K1) l5 t (cnt n) (cnt n)) M → Bs u ak 32 ck (keyC K2) → Bs u aw len6 cw l6 → Bs u ab 512 cb (pad (chM (SeaS.new true) (keyC K1) l5 t (cnt n) q)) → Calls Try.prog 17 #[.pointer (some ⟨r, 0, none⟩), .slice ak 32 ck, .slice aw len6 cw, .int .i64 (m : Int), .int .i64 (p : Int), .slice ab 512 cb] u (WholeC U r (chS (SeaS.new true) (keyC K1) l5 t (cnt n) (cnt n)) M (sameW n m q p K1 K2 l5 l6) u)) := fun u U r M ak aw ab ck cw cb h1 h2 h3 h4 => by
    have := whole_open u (U := U) (r := r) (M := M) (K1 := K1) (K2 := K2) (by omega) (by omega) (x := l5) (y := l6) (t := t) (by rw [HW5.out]; exact hl5) (by rw [HLL.out]; omega) (m := m) (q := q) (p := p) (by omega) (by rw [HLL.out]; exact hqC) hpD (ak := ak) (aw := aw) (ab := ab) (ck := ck) (nw := len6) (cw := cw) (cb := cb)
    rw [HLL.out] at this
    exact this h1 h2 h3 h4 hl6
  have CSL : Hid (∀ (u : World) (U : Nat → Prop) (r : Nat) (M : SeaM) (ak aw at' : Option Addr) (ck cw ct : Nat), Se U u r (SeaS.new true) M → BA (fun j => ¬ U j) u ak 32 ck (keyC K1) → BA (fun j => ¬ U j) u aw len5 cw l5 → BA (fun j => ¬ U j) u at' n ct t → Calls Try.prog 10 #[.pointer (some ⟨r, 0, none⟩), .slice ak 32 ck, .slice aw len5 cw, .slice at' n ct] u (SealsC U r (chS (SeaS.new true) (keyC K1) l5 t (cnt n) (cnt n)) M (chB (SeaS.new true) (keyC K1) l5 t (cnt n) (cnt n)) u)) := fun u U r M ak aw at' ck cw ct h1 h2 h3 h4 => oSeal13 u h1 (SeaS.Ok.new true) h2 h3 h4 hl5 (by omega) (by decide)
  obtain ⟨Z, hZ⟩ : ∃ Z, Z = chS (SeaS.new true) (keyC K1) l5 t (cnt n) (cnt n) := ⟨_, rfl⟩
  obtain ⟨LS, hLS⟩ : ∃ LS, LS = chB (SeaS.new true) (keyC K1) l5 t (cnt n) (cnt n) := ⟨_, rfl⟩
  obtain ⟨pb, hpb⟩ : ∃ pb, pb = pad (chM (SeaS.new true) (keyC K1) l5 t (cnt n) q) := ⟨_, rfl⟩
  obtain ⟨SM, hSM⟩ : ∃ SM, SM = sameW n m q p K1 K2 l5 l6 := ⟨_, rfl⟩
  have HSM : Hid (SM = sameW n m q p K1 K2 l5 l6) := hSM
  rw [← hZ] at HOK CSL CO
  rw [← hLS] at HBL CSL HBA
  rw [← hpb] at HBA HPB CO
  rw [← hSM] at CO
  clear hZ hLS hpb hSM
  go_enter Try.func5, Try.ntmps5
  go_wp2_with fail
  refine (oSNew true w).mono ?_
  rintro e v1 ⟨s, U, M, rfl, hs1, hU1, hb1⟩
  have T1 : Hid (StaS w v1 s U (SeaS.new true) M) := StaS.first (Below.refl _ w) hs1 hU1 hb1
  clear hs1 hU1 hb1
  go_wp2_with fail
  refine (lKey13 v1 K1 (by omega)).mono ?_
  rintro e v2 ⟨g3, rfl, _, o3, hb3⟩
  have T2 : Hid (StaS w v2 s U (SeaS.new true) M) := T1.out.grow hb3
  have K2' : Hid (BA (fun j => ¬ U j) v2 (some ⟨g3, 0, none⟩) 32 32 (keyC K1)) := o3.no T1.out.se.lt
  clear T1 o3 hb3
  go_wp2_with fail
  refine (CL.out v2 (HW.out.below T2.out.bel (Nat.le_refl _))).mono ?_
  rintro e v3 ⟨at', mt, ct, rfl, ot, hbt⟩
  have lmt := ot.toBs.len
  rw [HLL.out] at lmt
  subst lmt
  have T3 : Hid (StaS w v3 s U (SeaS.new true) M) := T2.out.grow hbt
  have TX3 : Hid (BA (fun j => ¬ U j) v3 at' n ct t) := ot.no T2.out.se.lt
  have KB3 : Hid (BA (fun j => ¬ U j) v3 (some ⟨g3, 0, none⟩) 32 32 (keyC K1)) := K2'.out.below' hbt
  clear T2 ot hbt CL K2'
  go_wp2_with fail
  refine (CSL.out v3 U s M _ _ _ _ _ _ T3.out.se KB3.out (T3.out.arg HW.out) TX3.out).mono ?_
  rintro e v4 ⟨la, ln, lc, rfl, hBB, hse4, kp4⟩
  have lln := hBB.len
  rw [HBL.out] at lln
  subst lln
  have T4 : Hid (StaS w v4 s U Z M) := T3.out.after hse4 HOK.out kp4
  have L4 : Hid (BB (fun j => ¬ U j) v4 la (cnt n) lc LS) := hBB.mono fun j _ hj hu => by have := T3.out.se.lt j hu; omega
  clear T3 KB3 TX3 hBB hse4 kp4 CSL
  obtain ⟨lb, lo', p1, m1, q1, hla, hlb, hAb, hcell, hB1⟩ := L4.out.at2 HBA.out
  subst hla
  have lm1 := hB1.1.len
  rw [HPB.out] at lm1
  subst lm1
  have P4 : Hid (BA (fun j => ¬ U j) v4 p1 512 q1 pb) := hB1
  have GC : Hid (∀ u, Kp U v4 u → u.cell? ⟨lb, lo' + q, none⟩ = some (.slice p1 512 q1)) := fun u hu => by
    rw [World.cell?_of_block (w := v4) (hu.block lb hlb hAb)]
    exact hcell
  have hqC' : (q : Int) < (cnt n : Int) := by omega
  clear hB1 hcell hlb hAb L4 HBA
  go_wp2_with fail
  refine (oCount v4 m (by omega)).mono ?_
  rintro e v5 ⟨rfl, rfl⟩
  go_wp2_with fail
  refine regionG (S := Kp U v4) (by kernel_rfl) (Kp.of_below (Below.refl _ v4).drew) ?_
  refine takeG 0 (some 77) (.pointer (some ⟨s, 0, none⟩)) rfl rfl (by kernel_rfl) (by kernel_rfl) (by kernel_rfl) (fun _ _ _ h => h) (ans_plain (by rfl) (fun w _ => rfl)) ?_
  simp only [Act.put, List.setIfInBounds_toArray, List.set_cons_zero, List.set_cons_succ]
  refine takeG 1 (some 78) (.int .u8 (ke : Int)) rfl rfl (by kernel_rfl) (by kernel_rfl) (by kernel_rfl) (fun _ _ _ h => h) (ans_plain (by rfl) (fun w _ => rfl)) ?_
  simp only [Act.put, List.setIfInBounds_toArray, List.set_cons_zero, List.set_cons_succ]
  refine takeG 2 (some 79) (.int .u8 (K3 : Int)) rfl rfl (by kernel_rfl) (by kernel_rfl) (by kernel_rfl) (fun _ _ _ h => h) (ans_plain (by rfl) (fun w _ => by unfold execOp; go_simp)) ?_
  simp only [Act.put, List.setIfInBounds_toArray, List.set_cons_zero, List.set_cons_succ]
  refine takeG 3 (some 80) (.int .u8 (K2 : Int)) rfl rfl (by kernel_rfl) (by kernel_rfl) (by kernel_rfl) (fun _ _ _ h => h) (ans_plain (by rfl) (fun w _ => by unfold execOp; go_simp)) ?_
  simp only [Act.put, List.setIfInBounds_toArray, List.set_cons_zero, List.set_cons_succ]
  refine takeG 5 (some 82) (.slice a6 len6 cap6) rfl rfl (by kernel_rfl) (by kernel_rfl) (by kernel_rfl) (fun _ _ _ h => h) (ans_plain (by rfl) (fun w _ => rfl)) ?_
  simp only [Act.put, List.setIfInBounds_toArray, List.set_cons_zero, List.set_cons_succ]
  refine takeG 6 (some 83) (.int .i64 (m : Int)) rfl rfl (by kernel_rfl) (by kernel_rfl) (by kernel_rfl) (fun _ _ _ h => h) (ans_plain (by rfl) (fun w _ => rfl)) ?_
  simp only [Act.put, List.setIfInBounds_toArray, List.set_cons_zero, List.set_cons_succ]
  refine takeG 7 (some 84) (.int .i64 (p : Int)) rfl rfl (by kernel_rfl) (by kernel_rfl) (by kernel_rfl) (fun _ _ _ h => h) (ans_plain (by rfl) (fun w _ => rfl)) ?_
  simp only [Act.put, List.setIfInBounds_toArray, List.set_cons_zero, List.set_cons_succ]
  refine takeG 8 (some 85) (.slice (some ⟨lb, lo', none⟩) (cnt n) lc) rfl rfl (by kernel_rfl) (by kernel_rfl) (by kernel_rfl) (fun _ _ _ h => h) (ans_plain (by rfl) (fun w _ => rfl)) ?_
  simp only [Act.put, List.setIfInBounds_toArray, List.set_cons_zero, List.set_cons_succ]
  refine takeG 9 (some 86) (.int .i64 (q : Int)) rfl rfl (by kernel_rfl) (by kernel_rfl) (by kernel_rfl) (fun _ _ _ h => h) (ans_plain (by rfl) (fun w _ => rfl)) ?_
  simp only [Act.put, List.setIfInBounds_toArray, List.set_cons_zero, List.set_cons_succ]
  refine takeG 10 (some 87) (.pointer (some ⟨lb, lo' + q, none⟩)) rfl rfl (by kernel_rfl) (by kernel_rfl) (by kernel_rfl) (fun _ _ _ h => h) (ans_plain (by rfl) (fun w _ => by unfold execOp; go_simp)) ?_
  simp only [Act.put, List.setIfInBounds_toArray, List.set_cons_zero, List.set_cons_succ]
  refine takeG 11 (some 88) (.slice p1 512 q1) rfl rfl (by kernel_rfl) (by kernel_rfl) (by kernel_rfl) (fun _ _ _ h => h) (ans_plain (by rfl) (fun w h => by have hc := GC.out w h; have hlt := lt_of_cell hc; unfold execOp; go_simp)) ?_
  simp only [Act.put, List.setIfInBounds_toArray, List.set_cons_zero, List.set_cons_succ]
  refine callG 4 (some 81) 11 #[.tmp 80] #[5] #[.int .u8 (K2 : Int)] rfl rfl rfl (by rfl) (by rfl) (by kernel_rfl) Try.call11 fun u1 hg1 hs1 => ?_
  refine (lKey13 u1 K2 (by omega)).mono ?_
  rintro e u2 ⟨gk, rfl, _, ok, hbk⟩
  have Q2 : Below v4.heap.size v4 u2 := (Grows.ofDrew hg1).trans (hbk.mono (Below.size (Grows.ofDrew hg1)))
  refine ⟨_, rfl, hs1.trans (Kp.of_below hbk), ?_⟩
  simp only [Act.put, List.setIfInBounds_toArray, List.set_cons_zero, List.set_cons_succ]
  refine callG 12 (some 89) 17 #[.tmp 77, .tmp 81, .tmp 82, .tmp 83, .tmp 84, .tmp 88] #[25, 22, 22, 3, 3, 22] #[.pointer (some ⟨s, 0, none⟩), .slice (some ⟨gk, 0, none⟩) 32 32, .slice a6 len6 cap6, .int .i64 (m : Int), .int .i64 (p : Int), .slice p1 512 q1] rfl rfl rfl (by rfl) (by rfl) (by kernel_rfl) Try.call17 fun u3 hg3 hs3 => ?_
  have Q3 : Below v4.heap.size v4 u3 := Q2.trans (Below.mono hg3 Q2.size)
  have T3 := T4.out.grow Q3
  refine (CO.out u3 U s M _ _ _ _ _ _ T3.se (ok.toBs.below hg3 (Nat.le_refl _)) (HY.out.below T3.bel (Nat.le_refl _)) ((P4.out.kp hs3 fun j hj => hj).1)).mono ?_
  rintro e u4 ⟨ob, mb, cb, cd, rfl, hcd, seB, kpB⟩
  refine ⟨_, rfl, hs3.trans kpB, ?_⟩
  simp only [Act.put, List.setIfInBounds_toArray, List.set_cons_zero, List.set_cons_succ]
  refine takeG 13 (some 76) (.tuple #[.slice ob mb cb, .int .i64 cd]) rfl rfl (by kernel_rfl) (by kernel_rfl) (by kernel_rfl) (fun _ _ _ h => h) (ans_plain (by rfl) (fun w _ => rfl)) ?_
  simp only [Act.put, List.setIfInBounds_toArray, List.set_cons_zero, List.set_cons_succ]
  refine takeG 14 (some 90) (.slice ob mb cb) rfl rfl (by kernel_rfl) (by kernel_rfl) (by kernel_rfl) (fun _ _ _ h => h) (ans_plain (by rfl) (fun w _ => by unfold execOp; go_simp)) ?_
  simp only [Act.put, List.setIfInBounds_toArray, List.set_cons_zero, List.set_cons_succ]
  refine takeG 15 (some 91) (.int .i64 cd) rfl rfl (by kernel_rfl) (by kernel_rfl) (by kernel_rfl) (fun _ _ _ h => h) (ans_plain (by rfl) (fun w _ => by unfold execOp; go_simp)) ?_
  simp only [Act.put, List.setIfInBounds_toArray, List.set_cons_zero, List.set_cons_succ]
  refine takeG 16 (some 22) (.slice ob mb cb) rfl rfl (by kernel_rfl) (by kernel_rfl) (by kernel_rfl) (fun _ _ _ h => h) (ans_plain (by rfl) (fun w _ => rfl)) ?_
  simp only [Act.put, List.setIfInBounds_toArray, List.set_cons_zero, List.set_cons_succ]
  refine takeG 17 (some 23) (.int .i64 cd) rfl rfl (by kernel_rfl) (by kernel_rfl) (by kernel_rfl) (fun _ _ _ h => h) (ans_plain (by rfl) (fun w _ => rfl)) ?_
  simp only [Act.put, List.setIfInBounds_toArray, List.set_cons_zero, List.set_cons_succ]
  refine doneG (by kernel_rfl) fun u5 hg5 hs5 => ?_
  have Q5 : Hid (Below w.heap.size w u5) := ((T3.after seB HOK.out kpB).grow hg5).bel
  have HCD : Hid (cd = 0 ∧ SM ∨ cd = 6 ∧ ¬ SM) := hcd
  clear seB kpB hg5 hs5 T3 Q3 Q2 hs3 hg3 hs1 hg1 hbk ok T4 P4 GC hcd CO
  go_wp2_with fail
  refine (oPart u5 n q (by omega) (by omega)).mono ?_
  rintro e u6 ⟨rfl, rfl⟩
  obtain ⟨A, hA⟩ : ∃ A, A = lo n q := ⟨_, rfl⟩
  obtain ⟨B, hB⟩ : ∃ A, A = hi n q := ⟨_, rfl⟩
  rw [← hA, ← hB]
  have hAB : A ≤ B := by rw [hA, hB]; exact lo_le n q
  have hBl : B ≤ n := by rw [hB]; exact hi_le n q
  obtain ⟨X, hX⟩ : ∃ X, X = plen n q := ⟨_, rfl⟩
  have sX : (B : Int) - (A : Int) = (X : Int) := by have h := lo_hi n q; rw [← hA, ← hB, ← hX] at h; omega
  have hXl : X ≤ 496 := by rw [hX]; exact plen_le n q
  have HX : Hid (X = plen n q) := hX
  clear hA hB hX
  go_wp2_with fail
  refine (oPart u5 m p (by omega) (by omega)).mono ?_
  rintro e u6 ⟨rfl, rfl⟩
  obtain ⟨A2, hA⟩ : ∃ A, A = lo m p := ⟨_, rfl⟩
  obtain ⟨B2, hB⟩ : ∃ A, A = hi m p := ⟨_, rfl⟩
  rw [← hA, ← hB]
  have hAB2 : A2 ≤ B2 := by rw [hA, hB]; exact lo_le m p
  have hB2l : B2 ≤ m := by rw [hB]; exact hi_le m p
  obtain ⟨Y, hY⟩ : ∃ X, X = plen m p := ⟨_, rfl⟩
  have sY : (B2 : Int) - (A2 : Int) = (Y : Int) := by have h := lo_hi m p; rw [← hA, ← hB, ← hY] at h; omega
  have hYl : Y ≤ 496 := by rw [hY]; exact plen_le m p
  have HYY : Hid (Y = plen m p) := hY
  clear hA hB hY
  have FNO : Hid (¬ sameW n m q p K1 K2 l5 l6 → cd = 6) := fun h => by rcases HCD.out with ⟨_, h2⟩ | ⟨h1, _⟩; exact absurd (HSM.out ▸ h2) h; exact h1
  have FYES : Hid (sameW n m q p K1 K2 l5 l6 → cd = 0) := fun h => by rcases HCD.out with ⟨h1, _⟩ | ⟨_, h2⟩; exact h1; exact absurd (HSM.out ▸ h) h2
  clear HCD
  go_upto_region 15 with fail
  by_cases e1 : q = p
  · subst e1
    by_cases e2 : X = Y
    · have e2' : (X : Int) = (Y : Int) := by omega
      subst e2
      by_cases e3 : q = C1
      · have HQ1 : Hid (q + 1 = cnt n) := by show _ = _; have := HC1.out; omega
        have E3 : Hid (q = C1) := e3
        have e3' : (q : Int) = (C1 : Int) := by omega
        by_cases e6 : q = D1
        · have e6' : (q : Int) = (D1 : Int) := by omega
          have HDD : Hid (decide (q + 1 = cnt n) = decide (q + 1 = cnt m)) := by show _ = _; rw [decide_eq_decide]; have := HC1.out; omega
          subst e3
          obtain rfl : q = D1 := e6
          clear e3' e6'
          by_cases e4 : K1 = K2
          · subst e4
            by_cases e5 : l5 = l6
            · subst e5
              have CSM : Hid (Calls Try.prog 19 #[.slice a5 len5 cap5, .slice a6 len6 cap6] u5 fun e w' => e = .returned (.bool true) ∧ ∃ k, w' = u5.drewN k) := by
                have := rSame u5 (HW.out.below Q5.out (Nat.le_refl _)) (HY.out.below Q5.out (Nat.le_refl _))
                rwa [decide_eq_true rfl] at this
              obtain rfl : cd = 0 := FYES.out ⟨rfl, by rw [← HX.out, ← HYY.out], HDD.out, rfl, rfl⟩
              clear FNO FYES
              go_wp2_with fail
              refine (oCount u5 m (by omega)).mono ?_
              rintro e u6 ⟨rfl, rfl⟩
              go_wp2_with fail
              refine CSM.out.mono ?_
              rintro e u6 ⟨rfl, kk, hu6⟩
              have Q6 : Hid (Below w.heap.size w u6) := by rw [hu6]; exact below_drN Q5.out kk
              clear hu6 CSM Q5
              go_wp2_with fail
              refine (lWorks13 u6).mono ?_
              rintro e wz ⟨rfl, hbz⟩
              go_wp2_with fail
              go_ret
              exact ⟨rfl, Q6.out.trans (hbz.mono Q6.out.size)⟩
            · have CSM : Hid (Calls Try.prog 19 #[.slice a5 len5 cap5, .slice a6 len6 cap6] u5 fun e w' => e = .returned (.bool false) ∧ ∃ k, w' = u5.drewN k) := by
                have := rSame u5 (HW.out.below Q5.out (Nat.le_refl _)) (HY.out.below Q5.out (Nat.le_refl _))
                rwa [decide_eq_false e5] at this
              obtain rfl : cd = 6 := FNO.out (fun h => e5 h.2.2.2.2)
              clear FNO FYES
              go_wp2_with fail
              refine (oCount u5 m (by omega)).mono ?_
              rintro e u6 ⟨rfl, rfl⟩
              go_wp2_with fail
              refine CSM.out.mono ?_
              rintro e u6 ⟨rfl, kk, hu6⟩
              have Q6 : Hid (Below w.heap.size w u6) := by rw [hu6]; exact below_drN Q5.out kk
              clear hu6 CSM Q5
              go_wp2_with fail
              refine (lWorks13 u6).mono ?_
              rintro e wz ⟨rfl, hbz⟩
              go_wp2_with fail
              go_ret
              exact ⟨rfl, Q6.out.trans (hbz.mono Q6.out.size)⟩
          · have e4' : ¬ (K1 : Int) = (K2 : Int) := by omega
            obtain rfl : cd = 6 := FNO.out (fun h => e4 h.2.2.2.1)
            clear FNO FYES
            go_wp2_with fail
            refine (oCount u5 m (by omega)).mono ?_
            rintro e u6 ⟨rfl, rfl⟩
            go_wp2_with fail
            refine (lWorks13 u5).mono ?_
            rintro e wz ⟨rfl, hbz⟩
            go_wp2_with fail
            go_ret
            exact ⟨rfl, Q5.out.trans (hbz.mono Q5.out.size)⟩
        · have e6' : ¬ (q : Int) = (D1 : Int) := by omega
          subst e3
          clear e3'
          obtain rfl : cd = 6 := FNO.out (fun h => by have h3 := h.2.2.1; rw [decide_eq_decide] at h3; have := HC1.out; omega)
          clear FNO FYES
          go_wp2_with fail
          refine (oCount u5 m (by omega)).mono ?_
          rintro e u6 ⟨rfl, rfl⟩
          go_wp2_with fail
          refine (lWorks13 u5).mono ?_
          rintro e wz ⟨rfl, hbz⟩
          go_wp2_with fail
          go_ret
          exact ⟨rfl, Q5.out.trans (hbz.mono Q5.out.size)⟩
      · have e3' : ¬ (q : Int) = (C1 : Int) := by omega
        by_cases e6 : q = D1
        · subst e6
          obtain rfl : cd = 6 := FNO.out (fun h => by have h3 := h.2.2.1; rw [decide_eq_decide] at h3; have := HC1.out; omega)
          clear FNO FYES
          go_wp2_with fail
          refine (oCount u5 m (by omega)).mono ?_
          rintro e u6 ⟨rfl, rfl⟩
          go_wp2_with fail
          refine (lWorks13 u5).mono ?_
          rintro e wz ⟨rfl, hbz⟩
          go_wp2_with fail
          go_ret
          exact ⟨rfl, Q5.out.trans (hbz.mono Q5.out.size)⟩
        · have e6' : ¬ (q : Int) = (D1 : Int) := by omega
          have HDD : Hid (decide (q + 1 = cnt n) = decide (q + 1 = cnt m)) := by show _ = _; rw [decide_eq_decide]; have := HC1.out; omega
          have i3 : ((q : Int) == (C1 : Int)) = false := by rw [beq_eq_false_iff_ne]; exact e3'
          have i6 : ((q : Int) == (D1 : Int)) = false := by rw [beq_eq_false_iff_ne]; exact e6'
          have n3 : (q == C1) = false := by rw [beq_eq_false_iff_ne]; exact e3
          have n6 : (q == D1) = false := by rw [beq_eq_false_iff_ne]; exact e6
          have c36 : (((q : Int) == (C1 : Int)) == ((q : Int) == (D1 : Int))) = true := by rw [i3, i6]; rfl
          have d36 : ((q == C1) == (q == D1)) = true := by rw [n3, n6]; rfl
          by_cases e4 : K1 = K2
          · subst e4
            by_cases e5 : l5 = l6
            · subst e5
              have CSM : Hid (Calls Try.prog 19 #[.slice a5 len5 cap5, .slice a6 len6 cap6] u5 fun e w' => e = .returned (.bool true) ∧ ∃ k, w' = u5.drewN k) := by
                have := rSame u5 (HW.out.below Q5.out (Nat.le_refl _)) (HY.out.below Q5.out (Nat.le_refl _))
                rwa [decide_eq_true rfl] at this
              obtain rfl : cd = 0 := FYES.out ⟨rfl, by rw [← HX.out, ← HYY.out], HDD.out, rfl, rfl⟩
              clear FNO FYES
              go_wp2_with fail
              refine (oCount u5 m (by omega)).mono ?_
              rintro e u6 ⟨rfl, rfl⟩
              go_wp2_with fail
              refine CSM.out.mono ?_
              rintro e u6 ⟨rfl, kk, hu6⟩
              have Q6 : Hid (Below w.heap.size w u6) := by rw [hu6]; exact below_drN Q5.out kk
              clear hu6 CSM Q5
              go_wp2_with fail
              refine (lWorks13 u6).mono ?_
              rintro e wz ⟨rfl, hbz⟩
              go_wp2_with fail
              go_ret
              exact ⟨rfl, Q6.out.trans (hbz.mono Q6.out.size)⟩
            · have CSM : Hid (Calls Try.prog 19 #[.slice a5 len5 cap5, .slice a6 len6 cap6] u5 fun e w' => e = .returned (.bool false) ∧ ∃ k, w' = u5.drewN k) := by
                have := rSame u5 (HW.out.below Q5.out (Nat.le_refl _)) (HY.out.below Q5.out (Nat.le_refl _))
                rwa [decide_eq_false e5] at this
              obtain rfl : cd = 6 := FNO.out (fun h => e5 h.2.2.2.2)
              clear FNO FYES
              go_wp2_with fail
              refine (oCount u5 m (by omega)).mono ?_
              rintro e u6 ⟨rfl, rfl⟩
              go_wp2_with fail
              refine CSM.out.mono ?_
              rintro e u6 ⟨rfl, kk, hu6⟩
              have Q6 : Hid (Below w.heap.size w u6) := by rw [hu6]; exact below_drN Q5.out kk
              clear hu6 CSM Q5
              go_wp2_with fail
              refine (lWorks13 u6).mono ?_
              rintro e wz ⟨rfl, hbz⟩
              go_wp2_with fail
              go_ret
              exact ⟨rfl, Q6.out.trans (hbz.mono Q6.out.size)⟩
          · have e4' : ¬ (K1 : Int) = (K2 : Int) := by omega
            obtain rfl : cd = 6 := FNO.out (fun h => e4 h.2.2.2.1)
            clear FNO FYES
            go_wp2_with fail
            refine (oCount u5 m (by omega)).mono ?_
            rintro e u6 ⟨rfl, rfl⟩
            go_wp2_with fail
            refine (lWorks13 u5).mono ?_
            rintro e wz ⟨rfl, hbz⟩
            go_wp2_with fail
            go_ret
            exact ⟨rfl, Q5.out.trans (hbz.mono Q5.out.size)⟩
    · have e2' : ¬ (X : Int) = (Y : Int) := by omega
      obtain rfl : cd = 6 := FNO.out (fun h => e2 (by rw [HX.out, HYY.out]; exact h.2.1))
      clear FNO FYES
      go_wp2_with fail
      refine (lWorks13 u5).mono ?_
      rintro e wz ⟨rfl, hbz⟩
      go_wp2_with fail
      go_ret
      exact ⟨rfl, Q5.out.trans (hbz.mono Q5.out.size)⟩
  · have e1' : ¬ (q : Int) = (p : Int) := by omega
    obtain rfl : cd = 6 := FNO.out (fun h => e1 h.1)
    clear FNO FYES
    go_wp2_with fail
    refine (lWorks13 u5).mono ?_
    rintro e wz ⟨rfl, hbz⟩
    go_wp2_with fail
    go_ret
    exact ⟨rfl, Q5.out.trans (hbz.mono Q5.out.size)⟩

set_option maxRecDepth 100000 in
theorem lifted (os : Os) (started : os.Started) (H : Type) (enc : TypeId × Value → H) :
    ReturnsInHanded {} Try.checked os 5 .any (Rows.chunkWholeSpec.pre6 enc Try.prog Try.f5 Rows.chunkWholeRow.domain false) (Rows.chunkWholeSpec.post enc Try.prog Try.f5 false true false false) := by
  refine returnsInHanded_of_change (C := Try.checked) own started (by kernel_rfl) Try.func5
    (ChangeSpec.witness6 (enc := enc) (C := Try.checked) false ⟨#[], #[.int .u16 0, .int .u16 0, .int .u8 0, .int .u8 0, .int .u8 0, .slice none 0 0, .slice none 0 0], []⟩ 8 (by kernel_rfl) (by kernel_rfl) (by kernel_rfl) (by kernel_rfl)) ?_
  intro W base args ds gs before hval0 hW hcnd _
  have hval : ∀ (j : Nat) t v, Try.f5.params[j]? = some t → args[j]? = some v → Value.okWide Try.prog W .any base t v := hval0
  have hW' := hW
  obtain ⟨p, q, hA0, hV, rfl, hfz, hnd⟩ := hW
  have hA : DataW.TrodAll enc Try.prog W 0 (fun _ => true) true Try.f5.params.toList args.toList ds p := hA0
  rw [Try.params5] at hA hval
  obtain ⟨v0, vs0, d0, ds0, p0, q0, hargs, rfl, rfl, h0, r0⟩ := trodAll_cons hA
  obtain ⟨v1, vs1, d1, ds1, p1, q1, rfl, rfl, rfl, h1, r1⟩ := trodAll_cons r0
  obtain ⟨v2, vs2, d2, ds2, p2, q2, rfl, rfl, rfl, h2, r2⟩ := trodAll_cons r1
  obtain ⟨v3, vs3, d3, ds3, p3, q3, rfl, rfl, rfl, h3, r3⟩ := trodAll_cons r2
  obtain ⟨v4, vs4, d4, ds4, p4, q4, rfl, rfl, rfl, h4, r4⟩ := trodAll_cons r3
  obtain ⟨v5, vs5, d5, ds5, p5, q5, rfl, rfl, rfl, h5, r5⟩ := trodAll_cons r4
  obtain ⟨v6, vs6, d6, ds6, p6, q6, rfl, rfl, rfl, h6, r6⟩ := trodAll_cons r5
  obtain ⟨rfl, rfl, rfl⟩ := trodAll_nil r6
  obtain rfl : args = #[v0, v1, v2, v3, v4, v5, v6] := by cases args; simp_all
  obtain ⟨rfl, rfl⟩ := trodVars_none hV
  obtain ⟨a0, rfl, rfl, rfl, w0⟩ := open_int Try.underlying23 (hval 0 23 v0 rfl rfl) h0
  obtain ⟨a1, rfl, rfl, rfl, w1⟩ := open_int Try.underlying23 (hval 1 23 v1 rfl rfl) h1
  obtain ⟨a2, rfl, rfl, rfl, w2⟩ := open_int Try.underlying5 (hval 2 5 v2 rfl rfl) h2
  obtain ⟨a3, rfl, rfl, rfl, w3⟩ := open_int Try.underlying5 (hval 3 5 v3 rfl rfl) h3
  obtain ⟨a4, rfl, rfl, rfl, w4⟩ := open_int Try.underlying5 (hval 4 5 v4 rfl rfl) h4
  obtain ⟨a5, len5, cap5, rfl⟩ := okWide_slice Try.underlying22 (hval 5 22 v5 rfl rfl)
  have k5 := h5
  have lt5 : ∀ x ∈ p5, x.block < W.heap.size := by obtain ⟨m, hm⟩ := k5; exact DataW.trod_lt m _ _ _ hm
  obtain ⟨l5, w5⟩ : ∃ l, Bs W a5 len5 cap5 l := by
    obtain ⟨fuel, hf⟩ := h5
    exact Bs.of_trod hf
  obtain ⟨a6, len6, cap6, rfl⟩ := okWide_slice Try.underlying22 (hval 6 22 v6 rfl rfl)
  have k6 := h6
  have lt6 : ∀ x ∈ p6, x.block < W.heap.size := by obtain ⟨m, hm⟩ := k6; exact DataW.trod_lt m _ _ _ hm
  obtain ⟨l6, w6⟩ : ∃ l, Bs W a6 len6 cap6 l := by
    obtain ⟨fuel, hf⟩ := h6
    exact Bs.of_trod hf
  clear hA0 hval0
  refine (walk a0 a1 a2 a3 a4 a5 len5 cap5 l5 a6 len6 cap6 l6 W w0 w1 w2 w3 w4 w5 w6).mono fun e W' ⟨he, bel⟩ => ?_
  subst he
  exact ⟨_, rfl, _, _, _, [], _, [], hW', trodAll_mk1 (shut_bool Try.underlying4 _), (trodAll_cons_mk (shut_int Try.underlying23 w0) (trodAll_cons_mk (shut_int Try.underlying23 w1) (trodAll_cons_mk (shut_int Try.underlying5 w2) (trodAll_cons_mk (shut_int Try.underlying5 w3) (trodAll_cons_mk (shut_int Try.underlying5 w4) (trodAll_cons_mk (Below.trod laidOut (by kernel_rfl) (of_decide_eq_true (by kernel_rfl)) k5 bel lt5) (trodAll_cons_mk (Below.trod laidOut (by kernel_rfl) (of_decide_eq_true (by kernel_rfl)) k6 bel lt6) trodAll_mk0))))))), rfl, bel.frame _, fun h => by cases h⟩

theorem over : Rows.chunkWholeRow.holds Try.pinned (OpenSpec.ofChange Rows.chunkWholeSpec) :=
  OpenClaim.holds_of_wide 5 Try.f5 rfl rfl rfl rfl rfl rfl rfl ⟨rfl, rfl, rfl, rfl, rfl⟩ rfl rfl rfl rfl rfl (by kernel_rfl) Try.func5 (by kernel_rfl)
    (of_decide_eq_true (by kernel_rfl)) (by unfold Func.isWrapper; first | (rw [if_pos (by decide +kernel)]; kernel_rfl) | (rw [if_neg (by decide +kernel)]; exact ⟨rfl, rfl⟩))
    (fun os started H enc _ => lifted os started H enc)
end ChunkWholeLaw

/-- The statement. -/
theorem chunkWhole_holds : Rows.ChunkWholeSaid := ChunkWholeLaw.over
#print axioms chunkWhole_holds
end Go.Proofs.Ytfknplcnfpincaa
