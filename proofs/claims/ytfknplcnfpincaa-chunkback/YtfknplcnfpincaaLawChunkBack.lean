/-
  Proved: for either kind of sealer, any row of bytes, any size and any two numbers the statement ChunkBack of layer 13 answers true and leaves its arguments as they were. Conditions beside the statement's own: none.
-/
import Derived.Test.YtfknplcnfpincaaRows
import Derived.Test.YtfknplcnfpincaaG24
import Derived.Below
import Derived.Deep.DeepCutAuto
import Derived.Deep.CutBlock
import Derived.ChangeOld
namespace Go.Proofs.Ytfknplcnfpincaa
namespace ChunkBackLaw
open Go.ChangeShapes Go.WideShapes Go.ChangeAt Go.RowKit
open Go.ChangeMaps (open_string shut_string)
set_option linter.unusedVariables false

theorem own : ownKnob Try.prog.godebug = none := by kernel_rfl
theorem laidOut : laidOutB Try.prog = true := by kernel_rfl

set_option maxRecDepth 100000 in
set_option maxHeartbeats 4000000 in
theorem walk (a0 : Bool) (a1 : Option Addr) (len1 cap1 : Nat) (l1 : List UInt8) (a2 : Int) (a3 : Int) (a4 : Int) (w : World) (w1 : Bs w a1 len1 cap1 l1) (w2 : (Lit.int .u16 a2).wf = true) (w3 : (Lit.int .i64 a3).wf = true) (w4 : (Lit.int .i64 a4).wf = true) :
    Calls Try.prog 4 #[.bool a0, .slice a1 len1 cap1, .int .u16 a2, .int .i64 a3, .int .i64 a4] w fun e w' => e = .returned (.bool true) ∧ Below w.heap.size w w' := by
  have b2 := bounds_u16 w2
  have b3 := bounds_i64 w3
  have b4 := bounds_i64 w4
  obtain ⟨sz, rfl⟩ : ∃ n : Nat, a2 = n := ⟨a2.toNat, by omega⟩
  have hsz : sz ≤ 65535 := by omega
  have HH : Hid (Bs w a1 len1 cap1 l1) := w1
  have hm1 := w1.max
  clear w1 w2 w3 w4 b2
  by_cases c1 : (60 : Int) < (len1 : Int)
  · go_enter Try.func4, Try.ntmps4
    go_wp2_with fail
    refine (lWorks13 w).mono ?_
    rintro e wz ⟨rfl, hbz⟩
    go_wp2_with fail
    go_ret
    exact ⟨rfl, hbz⟩
  have hl1 : len1 ≤ 60 := by omega
  obtain ⟨n, hn⟩ : ∃ n, n = sz % 1600 := ⟨_, rfl⟩
  have hnm : (sz : Int).tmod 1600 = (n : Int) := by rw [hn]; exact tmod_nat sz 1600
  have hnl : n ≤ 1599 := by omega
  clear hn
  have HLL : Hid ((longL l1 n).length = n) := longL_length _ _
  obtain ⟨t, ht⟩ : ∃ t, t = longL l1 n := ⟨_, rfl⟩
  have CL : Hid (∀ u, Bs u a1 len1 cap1 l1 → Calls Try.prog 9 #[.slice a1 len1 cap1, .int .i64 (n : Int)] u (Gives u t)) := fun u h => by rw [ht]; exact lLong u h n (by omega) (by omega)
  rw [← ht] at HLL
  clear ht
  have CK : Hid (∀ u, Calls Try.prog 11 #[.int .u8 3] u (KeysC u 3)) := fun u => lKey13 u 3 (by omega)
  have hcl := cnt_le (n := n) (by omega)
  have hcp := cnt_pos n
  have HOK : Hid (chS (SeaS.new a0) (keyC 3) l1 t (cnt n) (cnt n)).Ok := chS_ok (SeaS.Ok.new a0) _ _ _ _ _ (by cases a0 <;> (show 0 + 0 + _ + _ ≤ _; omega))
  have HOP : Hid (∀ j, j < cnt n → (chS (SeaS.new a0) (keyC 3) l1 t (cnt n) (cnt n)).opens (keyC 3) (nonL 0 j) (bes l1 j (decide (j + 1 = cnt n))) (chM (SeaS.new a0) (keyC 3) l1 t (cnt n) j) = some (piece t j)) := fun j hj => chS_opens (SeaS.Ok.new a0) (keyC_length 3) l1 t (cnt n) hj (by cases a0 <;> (show 0 + 0 + _ + _ ≤ _; omega))
  have HOD : Hid (∀ j, j < cnt n → (chS (SeaS.new a0) (keyC 3) l1 t (cnt n) (cnt n)).opened (keyC 3) (nonL 0 j) (bes l1 j (decide (j + 1 = cnt n))) (chM (SeaS.new a0) (keyC 3) l1 t (cnt n) j) = chS (SeaS.new a0) (keyC 3) l1 t (cnt n) (cnt n)) := fun j hj => chS_opened rfl (keyC 3) l1 t (cnt n) hj
  have HML : Hid (∀ j, (chM (SeaS.new a0) (keyC 3) l1 t (cnt n) j).length = plen n j + 16) := fun j => by rw [chM_length (keyC_length 3), HLL.out]
  have HBA : Hid (∀ j, j < cnt n → (chB (SeaS.new a0) (keyC 3) l1 t (cnt n) (cnt n))[j]? = some (pad (chM (SeaS.new a0) (keyC 3) l1 t (cnt n) j))) := fun j hj => chB_at hj
  have HBL : Hid ((chB (SeaS.new a0) (keyC 3) l1 t (cnt n) (cnt n)).length = cnt n) := chB_length _ _ _ _ _ _
  have CO : Hid (∀ (u : World) (U : Nat → Prop) (r : Nat) (M : SeaM) (ak aw ab : Option Addr) (ck cw cb : Nat) (j : Nat), j < cnt n → Se U u r (chS (SeaS.new a0) (keyC 3) l1 t (cnt n) (cnt n)) M → Bs u ak 32 ck (keyC 3) → Bs u aw len1 cw l1 → Bs u ab 512 cb (pad (chM (SeaS.new a0) (keyC 3) l1 t (cnt n) j)) → Calls Try.prog 17 #[.pointer (some ⟨r, 0, none⟩), .slice ak 32 ck, .slice aw len1 cw, .int .i64 (n : Int), .int .i64 (j : Int), .slice ab 512 cb] u (OpensS U r (chS (SeaS.new a0) (keyC 3) l1 t (cnt n) (cnt n)) M (some (piece t j)) u)) := fun u U r M ak aw ab ck cw cb j hj h1 h2 h3 h4 => by
    obtain ⟨z1, z2⟩ := pad_full (m := plen n j) (HML.out j) (plen_le n j)
    have := (oOpen13 u h1 h2 h3 h4 hl1 n j (by omega) hj).2 z1
    rwa [z2, HOD.out j hj, HOP.out j hj] at this
  have CSL : Hid (∀ (u : World) (U : Nat → Prop) (r : Nat) (M : SeaM) (ak aw at' : Option Addr) (ck cw ct : Nat), Se U u r (SeaS.new a0) M → BA (fun j => ¬ U j) u ak 32 ck (keyC 3) → BA (fun j => ¬ U j) u aw len1 cw l1 → BA (fun j => ¬ U j) u at' n ct t → Calls Try.prog 10 #[.pointer (some ⟨r, 0, none⟩), .slice ak 32 ck, .slice aw len1 cw, .slice at' n ct] u (SealsC U r (chS (SeaS.new a0) (keyC 3) l1 t (cnt n) (cnt n)) M (chB (SeaS.new a0) (keyC 3) l1 t (cnt n) (cnt n)) u)) := fun u U r M ak aw at' ck cw ct h1 h2 h3 h4 => oSeal13 u h1 (SeaS.Ok.new a0) h2 h3 h4 hl1 (by omega) (by cases a0 <;> decide)
  have HPB : Hid (∀ j, (pad (chM (SeaS.new a0) (keyC 3) l1 t (cnt n) j)).length = 512) := fun j => pad_length (by rw [HML.out]; have := plen_le n j; omega)
  obtain ⟨Z, hZ⟩ : ∃ Z, Z = chS (SeaS.new a0) (keyC 3) l1 t (cnt n) (cnt n) := ⟨_, rfl⟩
  obtain ⟨LS, hLS⟩ : ∃ LS, LS = chB (SeaS.new a0) (keyC 3) l1 t (cnt n) (cnt n) := ⟨_, rfl⟩
  obtain ⟨pb, hpb⟩ : ∃ pb : Nat → List UInt8, pb = fun j => pad (chM (SeaS.new a0) (keyC 3) l1 t (cnt n) j) := ⟨_, rfl⟩
  have CO' : Hid (∀ (u : World) (U : Nat → Prop) (r : Nat) (M : SeaM) (ak aw ab : Option Addr) (ck cw cb : Nat) (j : Nat), j < cnt n → Se U u r Z M → Bs u ak 32 ck (keyC 3) → Bs u aw len1 cw l1 → Bs u ab 512 cb (pb j) → Calls Try.prog 17 #[.pointer (some ⟨r, 0, none⟩), .slice ak 32 ck, .slice aw len1 cw, .int .i64 (n : Int), .int .i64 (j : Int), .slice ab 512 cb] u (OpensS U r Z M (some (piece t j)) u)) := by rw [hZ, hpb]; exact CO
  have HPB' : Hid (∀ j, (pb j).length = 512) := by rw [hpb]; exact HPB
  have HBA' : Hid (∀ j, j < cnt n → LS[j]? = some (pb j)) := by rw [hpb, hLS]; exact HBA
  rw [← hZ] at HOK CSL
  rw [← hLS] at HBL CSL
  clear hZ hLS hpb CO HPB HBA HOP HOD HML
  by_cases hcv : 0 ≤ a3 ∧ a3 < a4 ∧ a4 ≤ (n : Int)
  · obtain ⟨A, rfl⟩ : ∃ A : Nat, a3 = A := ⟨a3.toNat, by omega⟩
    obtain ⟨B, rfl⟩ : ∃ B : Nat, a4 = B := ⟨a4.toNat, by omega⟩
    have hAB : A < B := by omega
    have hBn : B ≤ n := by omega
    have CV : Hid (∀ u, Calls Try.prog 15 #[.int .i64 (n : Int), .int .i64 (A : Int), .int .i64 (B : Int)] u fun e w' => e = .returned (.tuple #[.int .i64 (cov0 A : Int), .int .i64 (covN A B : Int)]) ∧ u = w') := fun u => (oCover u n A B (by omega) (by omega) (by omega) (by omega) (by omega)).2 A B rfl rfl hAB hBn
    have CR : Hid (∀ u, Calls Try.prog 16 #[.int .i64 (n : Int), .int .i64 (A : Int), .int .i64 (B : Int)] u fun e w' => e = .returned (.tuple #[.int .i64 (cov0 A : Int), .int .i64 (covN A B : Int)]) ∧ u = w') := fun u => (rCover u n A B (by omega) (by omega) (by omega) (by omega) (by omega)).2 A B rfl rfl hAB hBn
    have HCI := cov_in hAB hBn
    have HCT : Hid (cutL (pcs t (cov0 A) (covN A B)) (cov0 A) (A : Int) (B : Int) = (t.drop A).take (B - A)) := pcs_cut hAB (by rw [HLL.out]; exact hBn)
    obtain ⟨f0, hf0⟩ : ∃ f, f = cov0 A := ⟨_, rfl⟩
    obtain ⟨m0, hm0⟩ : ∃ f, f = covN A B := ⟨_, rfl⟩
    rw [← hf0, ← hm0] at CV CR HCI HCT
    clear hf0 hm0 hcv
    have HIN : Hid (f0 + m0 ≤ cnt n) := HCI.1
    have h1m : 1 ≤ m0 := HCI.2
    have hfl : f0 ≤ 10 := by have := HCI.1; omega
    have hml : m0 ≤ 10 := by have := HCI.1; omega
    obtain ⟨R, hR⟩ : ∃ R, R = cnt n - f0 := ⟨_, rfl⟩
    have sR : (cnt n : Int) - (f0 : Int) = (R : Int) := by have := HCI.1; omega
    have hRl : R ≤ 10 := by omega
    have t1 : ¬ (m0 : Int) < 0 := by omega
    have t2 : ¬ (f0 : Int) < 0 := by omega
    have t3 : ¬ (R : Int) < (m0 : Int) := by have := HCI.1; omega
    have t4 : ¬ (m0 : Int) = 0 := by omega
    obtain ⟨E, hE⟩ : ∃ E, E = f0 + m0 := ⟨_, rfl⟩
    have HE : Hid (E = f0 + m0) := hE
    have sE : (f0 : Int) + (m0 : Int) = (E : Int) := by omega
    have hEl : E ≤ 20 := by omega
    clear hR HCI hE
    go_enter Try.func4, Try.ntmps4
    go_wp2_with fail
    refine (oSNew a0 w).mono ?_
    rintro e v1 ⟨s, U, M, rfl, hs1, hU1, hb1⟩
    have T1 : Hid (StaS w v1 s U (SeaS.new a0) M) := StaS.first (Below.refl _ w) hs1 hU1 hb1
    clear hs1 hU1 hb1
    go_wp2_with fail
    refine (CL.out v1 (HH.out.below T1.out.bel (Nat.le_refl _))).mono ?_
    rintro e v2 ⟨at', mt, ct, rfl, ot, hbt⟩
    have lmt := ot.toBs.len
    rw [HLL.out] at lmt
    subst lmt
    have T2 : Hid (StaS w v2 s U (SeaS.new a0) M) := T1.out.grow hbt
    have TX2 : Hid (BA (fun j => ¬ U j) v2 at' n ct t) := ot.no T1.out.se.lt
    clear T1 ot hbt CL
    go_wp2_with fail
    refine (CK.out v2).mono ?_
    rintro e v3 ⟨g3, rfl, _, o3, hb3⟩
    have T3 : Hid (StaS w v3 s U (SeaS.new a0) M) := T2.out.grow hb3
    have K3 : Hid (BA (fun j => ¬ U j) v3 (some ⟨g3, 0, none⟩) 32 32 (keyC 3)) := o3.no T2.out.se.lt
    have TX3 : Hid (BA (fun j => ¬ U j) v3 at' n ct t) := TX2.out.below' hb3
    clear T2 TX2 o3 hb3
    go_wp2_with fail
    refine (CSL.out v3 U s M _ _ _ _ _ _ T3.out.se K3.out (T3.out.arg HH.out) TX3.out).mono ?_
    rintro e v4 ⟨la, ln, lc, rfl, hBB, hse4, kp4⟩
    have lln := hBB.len
    rw [HBL.out] at lln
    subst lln
    have T4 : Hid (StaS w v4 s U Z M) := T3.out.after hse4 HOK.out kp4
    have TX4 : Hid (BA (fun j => ¬ U j) v4 at' n ct t) := TX3.out.kp kp4 fun j hj => hj
    have L4 : Hid (BB (fun j => ¬ U j) v4 la (cnt n) lc LS) := hBB.mono fun j _ hj hu => by have := T3.out.se.lt j hu; omega
    clear T3 K3 TX3 hBB hse4 kp4 CSL
    go_wp2_with fail
    refine (CV.out v4).mono ?_
    rintro e v5 ⟨rfl, rfl⟩
    go_wp2_with fail
    refine (CR.out v4).mono ?_
    rintro e v5 ⟨rfl, rfl⟩
    clear CV CR
    go_wp2_with fail
    have e86 : decide (R < m0) = false := decide_eq_false (by omega)
    have e89 : ((m0 : Int) == 0) = false := by rw [beq_eq_false_iff_ne]; omega
    rw [e86, e89, Bool.or_false]
    clear e86 e89
    go_loopw [20, 21] (fun pv iv wr => ∃ (q J : Nat) (pa : Option Addr) (pn pc : Nat), q ≤ m0 ∧ Hid (J = f0 + q) ∧ iv = .int .i64 (J : Int) ∧ pv = .slice pa pn pc ∧ J ≤ 20 ∧ Hid (StaS w wr s U Z M) ∧ Hid (Kp U v4 wr) ∧ Hid (OwP U wr v4.heap.size (.slice pa pn pc) (pcs t f0 q))) (fun _ iv _ => E - (intOf iv).toNat)
    case atStart => exact ⟨0, f0, none, 0, 0, Nat.zero_le _, rfl, rfl, rfl, by omega, T4, Kp.refl _ _, OwS.nil _ _ _ _ _⟩
    case round =>
      obtain ⟨q, J, pa, pn, pc, hq, HJ, rfl, rfl, hJl, TR, KR, OR⟩ := hrel
      by_cases hlt : J < E
      · have i0 : (J : Int) < (E : Int) := by omega
        have hJC : J < cnt n := by have h1 := HE.out; have h2 := HIN.out; omega
        have hqm : q < m0 := by have h1 := HE.out; have h2 := HJ.out; omega
        have hLR := L4.out.kp KR.out (fun j hj => hj)
        obtain ⟨lb, lo', p1, m1, q1, hla, hlb, hAb, hcell, hB1⟩ := hLR.at2 (HBA'.out J hJC)
        subst hla
        have lm1 := hB1.1.len
        rw [HPB'.out] at lm1
        subst lm1
        have P6 : Hid (BA (fun j => ¬ U j) wr p1 512 q1 (pb J)) := hB1
        have GC : Hid (∀ u, Kp U wr u → u.cell? ⟨lb, lo' + J, none⟩ = some (.slice p1 512 q1)) := fun u hu => by
          rw [World.cell?_of_block (w := wr) (hu.block lb hlb hAb)]
          exact hcell
        have TXR : Hid (BA (fun j => ¬ U j) wr at' n ct t) := TX4.out.kp KR.out fun j hj => hj
        have j0C : (J : Int) < (cnt n : Int) := by omega
        clear hLR hB1 hcell hlb hAb
        go_wp2_with fail
        refine regionG (S := Kp U wr) (by kernel_rfl) (Kp.of_below (Below.refl _ wr).drew) ?_
        refine takeG 0 (some 114) (.pointer (some ⟨s, 0, none⟩)) rfl rfl (by kernel_rfl) (by kernel_rfl) (by kernel_rfl) (fun _ _ _ h => h) (ans_plain (by rfl) (fun w _ => rfl)) ?_
        simp only [Act.put, List.setIfInBounds_toArray, List.set_cons_zero, List.set_cons_succ]
        refine takeG 2 (some 116) (.slice a1 len1 cap1) rfl rfl (by kernel_rfl) (by kernel_rfl) (by kernel_rfl) (fun _ _ _ h => h) (ans_plain (by rfl) (fun w _ => rfl)) ?_
        simp only [Act.put, List.setIfInBounds_toArray, List.set_cons_zero, List.set_cons_succ]
        refine takeG 3 (some 117) (.int .i64 (n : Int)) rfl rfl (by kernel_rfl) (by kernel_rfl) (by kernel_rfl) (fun _ _ _ h => h) (ans_plain (by rfl) (fun w _ => rfl)) ?_
        simp only [Act.put, List.setIfInBounds_toArray, List.set_cons_zero, List.set_cons_succ]
        refine takeG 4 (some 118) (.int .i64 (J : Int)) rfl rfl (by kernel_rfl) (by kernel_rfl) (by kernel_rfl) (fun _ _ _ h => h) (ans_plain (by rfl) (fun w _ => rfl)) ?_
        simp only [Act.put, List.setIfInBounds_toArray, List.set_cons_zero, List.set_cons_succ]
        refine takeG 5 (some 119) (.slice (some ⟨lb, lo', none⟩) (cnt n) lc) rfl rfl (by kernel_rfl) (by kernel_rfl) (by kernel_rfl) (fun _ _ _ h => h) (ans_plain (by rfl) (fun w _ => rfl)) ?_
        simp only [Act.put, List.setIfInBounds_toArray, List.set_cons_zero, List.set_cons_succ]
        refine takeG 6 (some 120) (.int .i64 (J : Int)) rfl rfl (by kernel_rfl) (by kernel_rfl) (by kernel_rfl) (fun _ _ _ h => h) (ans_plain (by rfl) (fun w _ => rfl)) ?_
        simp only [Act.put, List.setIfInBounds_toArray, List.set_cons_zero, List.set_cons_succ]
        refine takeG 7 (some 121) (.pointer (some ⟨lb, lo' + J, none⟩)) rfl rfl (by kernel_rfl) (by kernel_rfl) (by kernel_rfl) (fun _ _ _ h => h) (ans_plain (by rfl) (fun w _ => by unfold execOp; go_simp)) ?_
        simp only [Act.put, List.setIfInBounds_toArray, List.set_cons_zero, List.set_cons_succ]
        refine takeG 8 (some 122) (.slice p1 512 q1) rfl rfl (by kernel_rfl) (by kernel_rfl) (by kernel_rfl) (fun _ _ _ h => h) (ans_plain (by rfl) (fun w h => by have hc := GC.out w h; have hlt := lt_of_cell hc; unfold execOp; go_simp)) ?_
        simp only [Act.put, List.setIfInBounds_toArray, List.set_cons_zero, List.set_cons_succ]
        refine callG 1 (some 115) 11 #[.const (.int .u8 3)] #[5] #[.int .u8 3] rfl rfl rfl (by rfl) (by rfl) (by kernel_rfl) Try.call11 fun u1 hg1 hs1 => ?_
        refine (CK.out u1).mono ?_
        rintro e u2 ⟨gk, rfl, _, ok, hbk⟩
        have Q2 : Below wr.heap.size wr u2 := (Grows.ofDrew hg1).trans (hbk.mono (Below.size (Grows.ofDrew hg1)))
        refine ⟨_, rfl, hs1.trans (Kp.of_below hbk), ?_⟩
        simp only [Act.put, List.setIfInBounds_toArray, List.set_cons_zero, List.set_cons_succ]
        refine callG 9 (some 123) 17 #[.tmp 114, .tmp 115, .tmp 116, .tmp 117, .tmp 118, .tmp 122] #[25, 22, 22, 3, 3, 22] #[.pointer (some ⟨s, 0, none⟩), .slice (some ⟨gk, 0, none⟩) 32 32, .slice a1 len1 cap1, .int .i64 (n : Int), .int .i64 (J : Int), .slice p1 512 q1] rfl rfl rfl (by rfl) (by rfl) (by kernel_rfl) Try.call17 fun u3 hg3 hs3 => ?_
        have Q3 : Below wr.heap.size wr u3 := Q2.trans (Below.mono hg3 Q2.size)
        have T3 := TR.out.grow Q3
        refine (CO'.out u3 U s M _ _ _ _ _ _ J hJC T3.se (ok.toBs.below hg3 (Nat.le_refl _)) (HH.out.below T3.bel (Nat.le_refl _)) ((P6.out.kp hs3 fun j hj => hj).1)).mono ?_
        rintro e u4 ⟨ob, mb, cb, rfl, oB, seB, kpB⟩
        refine ⟨_, rfl, hs3.trans kpB, ?_⟩
        simp only [Act.put, List.setIfInBounds_toArray, List.set_cons_zero, List.set_cons_succ]
        simp only [Option.isSome_some, if_true]
        refine takeG 10 (some 113) (.tuple #[.slice ob mb cb, .int .i64 0]) rfl rfl (by kernel_rfl) (by kernel_rfl) (by kernel_rfl) (fun _ _ _ h => h) (ans_plain (by rfl) (fun w _ => rfl)) ?_
        simp only [Act.put, List.setIfInBounds_toArray, List.set_cons_zero, List.set_cons_succ]
        refine takeG 11 (some 124) (.slice ob mb cb) rfl rfl (by kernel_rfl) (by kernel_rfl) (by kernel_rfl) (fun _ _ _ h => h) (ans_plain (by rfl) (fun w _ => by unfold execOp; go_simp)) ?_
        simp only [Act.put, List.setIfInBounds_toArray, List.set_cons_zero, List.set_cons_succ]
        refine takeG 12 (some 125) (.int .i64 0) rfl rfl (by kernel_rfl) (by kernel_rfl) (by kernel_rfl) (fun _ _ _ h => h) (ans_plain (by rfl) (fun w _ => by unfold execOp; go_simp)) ?_
        simp only [Act.put, List.setIfInBounds_toArray, List.set_cons_zero, List.set_cons_succ]
        refine takeG 13 (some 22) (.slice ob mb cb) rfl rfl (by kernel_rfl) (by kernel_rfl) (by kernel_rfl) (fun _ _ _ h => h) (ans_plain (by rfl) (fun w _ => rfl)) ?_
        simp only [Act.put, List.setIfInBounds_toArray, List.set_cons_zero, List.set_cons_succ]
        refine takeG 14 (some 23) (.int .i64 0) rfl rfl (by kernel_rfl) (by kernel_rfl) (by kernel_rfl) (fun _ _ _ h => h) (ans_plain (by rfl) (fun w _ => rfl)) ?_
        simp only [Act.put, List.setIfInBounds_toArray, List.set_cons_zero, List.set_cons_succ]
        refine doneG (by kernel_rfl) fun u5 hg5 hs5 => ?_
        have T5 : Hid (StaS w u5 s U Z M) := (T3.after seB HOK.out kpB).grow hg5
        have KR5 : Hid (Kp U v4 u5) := KR.out.trans hs5
        have PP5 : Hid (BA (fun j => wr.heap.size ≤ j) u5 ob mb cb (piece t J)) := ((oB.below' hg5).mono' fun j _ hj => Nat.le_trans Q3.size hj)
        have O5 : Hid (OwP U u5 v4.heap.size (.slice pa pn pc) (pcs t f0 q)) := OR.out.kp hs5 T4.out.se.lt
        have TX5 : Hid (BA (fun j => ¬ U j) u5 at' n ct t) := TXR.out.kp hs5 fun j hj => hj
        have HSW : Hid (wr.heap.size ≤ u5.heap.size) := hs5.size
        have HLO : Hid (∀ j, (Value.slice pa pn pc).ownBlock = some j → j < wr.heap.size) := fun j hj => (OwS.lt OR.out j hj).2
        have HLU : Hid (∀ j, U j → j < wr.heap.size) := TR.out.se.lt
        clear oB seB kpB hg5 hs5 T3 Q3 Q2 hs3 hg3 hs1 hg1 hbk ok TR KR OR TXR P6 GC
        go_wp2_with fail
        refine (oPart u5 n J (by omega) (by omega)).mono ?_
        rintro e u6 ⟨rfl, rfl⟩
        obtain ⟨P, hP⟩ : ∃ P, P = lo n J := ⟨_, rfl⟩
        obtain ⟨Q, hQ⟩ : ∃ Q, Q = hi n J := ⟨_, rfl⟩
        have hPQ : P ≤ Q := by rw [hP, hQ]; exact lo_le n J
        have hQn : Q ≤ n := by rw [hQ]; exact hi_le n J
        have hPC : (t.drop P).take (Q - P) = piece t J := by
          rw [hP, hQ]
          have := piece_cut t J
          rwa [HLL.out] at this
        rw [← hP, ← hQ]
        obtain ⟨ca, cc', hcut, hcb⟩ := BA.cut2 TX5.out.1 P Q hPQ hQn
        have SB5 : Hid (Bs u5 ca (Q - P) cc' (piece t J)) := by
          have := (hcb _ u5 TX5.out).1
          rwa [hPC] at this
        obtain ⟨D, hD⟩ : ∃ D, D = Q - P := ⟨_, rfl⟩
        rw [← hD] at SB5 hcut
        have x1 : ¬ (P : Int) < 0 := by omega
        have x2 : ¬ (Q : Int) < (P : Int) := by omega
        have x3 : ¬ (n : Int) < (Q : Int) := by omega
        have CSM : Hid (Calls Try.prog 19 #[.slice ob mb cb, .slice ca D cc'] u5 fun e w' => e = .returned (.bool true) ∧ ∃ k, w' = u5.drewN k) := by
          have := rSame u5 PP5.out.1 SB5.out
          rwa [decide_eq_true rfl] at this
        clear hP hQ hPC hcb hD SB5
        go_wp2_with fail
        refine CSM.out.mono ?_
        rintro e u6 ⟨rfl, kk, hu6⟩
        have B6 : Below u5.heap.size u5 u6 := by rw [hu6]; exact below_drewN' u5 kk
        have T6 : Hid (StaS w u6 s U Z M) := T5.out.grow B6
        have KR6 : Hid (Kp U v4 u6) := KR5.out.trans (Kp.of_below B6)
        have PP6 : Hid (BA (fun j => wr.heap.size ≤ j) u6 ob mb cb (piece t J)) := PP5.out.below' B6
        have O6 : Hid (OwP U u6 v4.heap.size (.slice pa pn pc) (pcs t f0 q)) := O5.out.grow B6
        have HS6 : Hid (wr.heap.size ≤ u6.heap.size) := Nat.le_trans HSW.out B6.size
        clear hu6 B6 T5 KR5 PP5 O5 TX5 CSM hcut HSW x1 x2 x3
        have bA : Below u6.heap.size u6 (u6.alloc (.cells #[.slice ob mb cb] 22)) := below_alloc u6 _
        have RG : Hid ((u6.alloc (.cells #[.slice ob mb cb] 22)).rangeAt u6.heap.size 0 [.slice ob mb cb]) := (Blk.new u6 #[.slice ob mb cb] 22).whole
        have YA : Hid (BA (fun j => ¬ U j ∧ (Value.slice pa pn pc).ownBlock ≠ some j) (u6.alloc (.cells #[.slice ob mb cb] 22)) ob mb cb (piece t J)) := (PP6.out.below' bA).mono' fun j _ hj => ⟨fun hu => by have := HLU.out j hu; omega, fun e => by have := HLO.out j e; omega⟩
        have OA : Hid (OwP U (u6.alloc (.cells #[.slice ob mb cb] 22)) v4.heap.size (.slice pa pn pc) (pcs t f0 q)) := O6.out.grow bA
        have TA : Hid (StaS w (u6.alloc (.cells #[.slice ob mb cb] 22)) s U Z M) := T6.out.grow bA
        have KA : Hid (Kp U v4 (u6.alloc (.cells #[.slice ob mb cb] 22))) := KR6.out.trans (Kp.of_below bA)
        have HZA : Hid ((pcs t f0 q).length + 1 ≤ 1000000) := by show _ ≤ _; rw [pcs_length]; omega
        have HBS : Hid (v4.heap.size ≤ (u6.alloc (.cells #[.slice ob mb cb] 22)).heap.size) := KA.out.size
        have HOB : Hid (∀ j, (Value.slice pa pn pc).ownBlock = some j → v4.heap.size ≤ j) := fun j hj => (OwS.lt OA.out j hj).1
        clear bA T6 KR6 PP6 O6
        go_wp2_with (at_builtin; refine wpList_appP (U := U) (u6.alloc (.cells #[.slice ob mb cb] 22)) rfl (.tmp 157) (.tmp 159) rfl v4.heap.size (.slice pa pn pc) (pcs t f0 q) rfl OA.out u6.heap.size 1 (piece t J) ob mb cb rfl RG.out YA.out HZA.out HBS.out ?_; intro v10 w10 o10 hg10; have O10 : Hid (OwP U w10 v4.heap.size v10 (pcs t f0 (q + 1))) := (by rw [pcs_succ, ← HJ.out]; exact o10); have G10 : Hid ((u6.alloc (.cells #[.slice ob mb cb] 22)).grownBy w10 (Value.slice pa pn pc).ownBlock) := hg10; clear o10 hg10)
        obtain ⟨oa2, on2, oc2, hv, _⟩ := OwS.shape O10.out
        subst hv
        have kpA : Kp (fun j => (Value.slice pa pn pc).ownBlock = some j) (u6.alloc (.cells #[.slice ob mb cb] 22)) w10 := ⟨G10.out.os, G10.out.tape, G10.out.output, G10.out.size, fun j hj hn => G10.out.block j hj fun e => hn e.symm⟩
        have T10 : Hid (StaS w w10 s U Z M) := TA.out.kp kpA (fun j hu e => by have := T4.out.se.lt j hu; have := HOB.out j e; omega) fun j e => Nat.le_trans T4.out.bel.size (HOB.out j e)
        have K10 : Hid (Kp U v4 w10) := KA.out.newer kpA fun j e => HOB.out j e
        clear kpA G10 HOB HBS HZA TA KA OA YA RG HLU HLO HS6
        go_wp2_with fail
        go_roundw
        case rel => exact ⟨q + 1, J + 1, oa2, on2, oc2, by omega, by show _ = _; have := HJ.out; omega, by go_num, rfl, by omega, T10, K10, O10⟩
        case measure => simp [intOf]; omega
      · have i0 : ¬ (J : Int) < (E : Int) := by omega
        obtain rfl : q = m0 := by have h1 := HE.out; have h2 := HJ.out; omega
        have TXR : Hid (BA (fun j => ¬ U j) wr at' n ct t) := TX4.out.kp KR.out fun j hj => hj
        obtain ⟨ca, cc', hcut, hcb⟩ := BA.cut2 TXR.out.1 A B (by omega) hBn
        have SBR : Hid (Bs wr ca (B - A) cc' ((t.drop A).take (B - A))) := (hcb _ wr TXR.out).1
        have HCU : Hid (∀ u, Grows wr u → Calls Try.prog 20 #[.slice pa pn pc, .int .i64 (f0 : Int), .int .i64 (A : Int), .int .i64 (B : Int)] u (Gives u ((t.drop A).take (B - A)))) := fun u hu => by
          have hb := OR.out.bss
          have hl := hb.len
          rw [pcs_length] at hl
          have := oCut13 u (hb.below hu (Nat.le_refl _)) (pcs_tot (by rw [HLL.out]; omega) f0 q) (by omega) f0 (by omega) A B (by omega) (by omega) (by omega) (by omega)
          rwa [HCT.out] at this
        obtain ⟨D, hD⟩ : ∃ D, D = B - A := ⟨_, rfl⟩
        rw [← hD] at SBR hcut HCU
        have QR : Hid (Below w.heap.size w wr) := TR.out.bel
        clear hcb hD TXR TR KR OR
        go_wp2_with fail
        refine regionG (S := Grows wr) (by kernel_rfl) (Below.refl _ wr).drew ?_
        refine takeG 0 (some 161) (.slice pa pn pc) rfl rfl (by kernel_rfl) (by kernel_rfl) (by kernel_rfl) (fun _ _ _ h => h) (ans_plain (by rfl) (fun w _ => rfl)) ?_
        simp only [Act.put, List.setIfInBounds_toArray, List.set_cons_zero, List.set_cons_succ]
        refine takeG 1 (some 162) (.int .i64 (f0 : Int)) rfl rfl (by kernel_rfl) (by kernel_rfl) (by kernel_rfl) (fun _ _ _ h => h) (ans_plain (by rfl) (fun w _ => rfl)) ?_
        simp only [Act.put, List.setIfInBounds_toArray, List.set_cons_zero, List.set_cons_succ]
        refine takeG 2 (some 163) (.int .i64 (A : Int)) rfl rfl (by kernel_rfl) (by kernel_rfl) (by kernel_rfl) (fun _ _ _ h => h) (ans_plain (by rfl) (fun w _ => rfl)) ?_
        simp only [Act.put, List.setIfInBounds_toArray, List.set_cons_zero, List.set_cons_succ]
        refine takeG 3 (some 164) (.int .i64 (B : Int)) rfl rfl (by kernel_rfl) (by kernel_rfl) (by kernel_rfl) (fun _ _ _ h => h) (ans_plain (by rfl) (fun w _ => rfl)) ?_
        simp only [Act.put, List.setIfInBounds_toArray, List.set_cons_zero, List.set_cons_succ]
        refine takeG 5 (some 166) (.slice at' n ct) rfl rfl (by kernel_rfl) (by kernel_rfl) (by kernel_rfl) (fun _ _ _ h => h) (ans_plain (by rfl) (fun w _ => rfl)) ?_
        simp only [Act.put, List.setIfInBounds_toArray, List.set_cons_zero, List.set_cons_succ]
        refine takeG 6 (some 167) (.int .i64 (A : Int)) rfl rfl (by kernel_rfl) (by kernel_rfl) (by kernel_rfl) (fun _ _ _ h => h) (ans_plain (by rfl) (fun w _ => rfl)) ?_
        simp only [Act.put, List.setIfInBounds_toArray, List.set_cons_zero, List.set_cons_succ]
        refine takeG 7 (some 168) (.int .i64 (B : Int)) rfl rfl (by kernel_rfl) (by kernel_rfl) (by kernel_rfl) (fun _ _ _ h => h) (ans_plain (by rfl) (fun w _ => rfl)) ?_
        simp only [Act.put, List.setIfInBounds_toArray, List.set_cons_zero, List.set_cons_succ]
        refine takeG 8 (some 169) (.slice ca D cc') rfl rfl (by kernel_rfl) (by kernel_rfl) (by kernel_rfl) (fun _ _ _ h => h) (ans_plain (by rfl) (fun w _ => by have hc := hcut w; unfold execOp; go_simp)) ?_
        simp only [Act.put, List.setIfInBounds_toArray, List.set_cons_zero, List.set_cons_succ]
        refine callG 4 (some 165) 20 #[.tmp 161, .tmp 162, .tmp 163, .tmp 164] #[28, 3, 3, 3] #[.slice pa pn pc, .int .i64 (f0 : Int), .int .i64 (A : Int), .int .i64 (B : Int)] rfl rfl rfl (by rfl) (by rfl) (by kernel_rfl) Try.call20 fun u1 hg1 hs1 => ?_
        refine (HCU.out u1 hs1).mono ?_
        rintro e u2 ⟨za, zm, zc, rfl, oz, hbz⟩
        have hs2 : Grows wr u2 := Grows.trans hs1 hbz
        refine ⟨_, rfl, hs2, ?_⟩
        simp only [Act.put, List.setIfInBounds_toArray, List.set_cons_zero, List.set_cons_succ]
        refine callG 9 (some 170) 19 #[.tmp 165, .tmp 169] #[22, 22] #[.slice za zm zc, .slice ca D cc'] rfl rfl rfl (by rfl) (by rfl) (by kernel_rfl) Try.call19 fun u3 hg3 hs3 => ?_
        refine (rSame u3 (oz.toBs.below hg3 (Nat.le_refl _)) (SBR.out.below hs3 (Nat.le_refl _))).mono ?_
        rintro e u4 ⟨rfl, kk, hu4⟩
        rw [decide_eq_true rfl]
        have hs4 : Grows wr u4 := by rw [hu4]; exact below_drN hs3 kk
        refine ⟨_, rfl, hs4, ?_⟩
        simp only [Act.put, List.setIfInBounds_toArray, List.set_cons_zero, List.set_cons_succ]
        refine takeG 10 (some 171) (.bool true) rfl rfl (by kernel_rfl) (by kernel_rfl) (by kernel_rfl) (fun _ _ _ h => h) (ans_plain (by rfl) (fun w _ => rfl)) ?_
        simp only [Act.put, List.setIfInBounds_toArray, List.set_cons_zero, List.set_cons_succ]
        refine takeG 11 (some 172) (.bool true) rfl rfl (by kernel_rfl) (by kernel_rfl) (by kernel_rfl) (fun _ _ _ h => h) (ans_fn 7 #[] #[] #[] rfl (by rfl) (by rfl) Try.call7 fun u h => lWorks13 u) ?_
        simp only [Act.put, List.setIfInBounds_toArray, List.set_cons_zero, List.set_cons_succ]
        refine takeG 12 (some 173) (.bool true) rfl rfl (by kernel_rfl) (by kernel_rfl) (by kernel_rfl) (fun _ _ _ h => h) (ans_plain (by rfl) (fun w _ => by unfold execOp; go_simp)) ?_
        simp only [Act.put, List.setIfInBounds_toArray, List.set_cons_zero, List.set_cons_succ]
        refine takeG 13 (some 10) (.bool true) rfl rfl (by kernel_rfl) (by kernel_rfl) (by kernel_rfl) (fun _ _ _ h => h) (ans_plain (by rfl) (fun w _ => rfl)) ?_
        simp only [Act.put, List.setIfInBounds_toArray, List.set_cons_zero, List.set_cons_succ]
        refine doneG (by kernel_rfl) fun u5 hg5 hs5 => ?_
        have Q5 : Hid (Below w.heap.size w u5) := QR.out.trans (Below.mono hs5 QR.out.size)
        clear hs5 hg5 hs4 hu4 hs3 hg3 hs2 hs1 hg1 oz hbz
        go_wp2_with fail
        go_ret
        exact ⟨rfl, Q5.out⟩
  · have CV : Hid (∀ u, Calls Try.prog 15 #[.int .i64 (n : Int), .int .i64 a3, .int .i64 a4] u fun e w' => e = .returned (.tuple #[.int .i64 0, .int .i64 0]) ∧ u = w') := fun u => (oCover u n a3 a4 (by omega) (by omega) (by omega) (by omega) (by omega)).1 hcv
    have CR : Hid (∀ u, Calls Try.prog 16 #[.int .i64 (n : Int), .int .i64 a3, .int .i64 a4] u fun e w' => e = .returned (.tuple #[.int .i64 0, .int .i64 0]) ∧ u = w') := fun u => (rCover u n a3 a4 (by omega) (by omega) (by omega) (by omega) (by omega)).1 hcv
    have t3 : ¬ (cnt n : Int) < 0 := by omega
    go_enter Try.func4, Try.ntmps4
    go_wp2_with fail
    refine (oSNew a0 w).mono ?_
    rintro e v1 ⟨s, U, M, rfl, hs1, hU1, hb1⟩
    have T1 : Hid (StaS w v1 s U (SeaS.new a0) M) := StaS.first (Below.refl _ w) hs1 hU1 hb1
    clear hs1 hU1 hb1
    go_wp2_with fail
    refine (CL.out v1 (HH.out.below T1.out.bel (Nat.le_refl _))).mono ?_
    rintro e v2 ⟨at', mt, ct, rfl, ot, hbt⟩
    have lmt := ot.toBs.len
    rw [HLL.out] at lmt
    subst lmt
    have T2 : Hid (StaS w v2 s U (SeaS.new a0) M) := T1.out.grow hbt
    have TX2 : Hid (BA (fun j => ¬ U j) v2 at' n ct t) := ot.no T1.out.se.lt
    clear T1 ot hbt CL
    go_wp2_with fail
    refine (CK.out v2).mono ?_
    rintro e v3 ⟨g3, rfl, _, o3, hb3⟩
    have T3 : Hid (StaS w v3 s U (SeaS.new a0) M) := T2.out.grow hb3
    have K3 : Hid (BA (fun j => ¬ U j) v3 (some ⟨g3, 0, none⟩) 32 32 (keyC 3)) := o3.no T2.out.se.lt
    have TX3 : Hid (BA (fun j => ¬ U j) v3 at' n ct t) := TX2.out.below' hb3
    clear T2 TX2 o3 hb3
    go_wp2_with fail
    refine (CSL.out v3 U s M _ _ _ _ _ _ T3.out.se K3.out (T3.out.arg HH.out) TX3.out).mono ?_
    rintro e v4 ⟨la, ln, lc, rfl, hBB, hse4, kp4⟩
    have lln := hBB.len
    rw [HBL.out] at lln
    subst lln
    have T4 : Hid (StaS w v4 s U Z M) := T3.out.after hse4 HOK.out kp4
    have TX4 : Hid (BA (fun j => ¬ U j) v4 at' n ct t) := TX3.out.kp kp4 fun j hj => hj
    have L4 : Hid (BB (fun j => ¬ U j) v4 la (cnt n) lc LS) := hBB.mono fun j _ hj hu => by have := T3.out.se.lt j hu; omega
    clear T3 K3 TX3 hBB hse4 kp4 CSL
    go_wp2_with fail
    refine (CV.out v4).mono ?_
    rintro e v5 ⟨rfl, rfl⟩
    go_wp2_with fail
    refine (CR.out v4).mono ?_
    rintro e v5 ⟨rfl, rfl⟩
    have Q4 : Hid (Below w.heap.size w v4) := T4.out.bel
    clear CV CR T4 TX4 L4
    by_cases k1 : a3 < 0
    · clear hcv
      go_wp2_with fail
      refine (lWorks13 v4).mono ?_
      rintro e wz ⟨rfl, hbz⟩
      go_wp2_with fail
      go_ret
      exact ⟨rfl, Q4.out.trans (hbz.mono Q4.out.size)⟩
    by_cases k2 : a4 ≤ a3
    · clear hcv
      go_wp2_with fail
      refine (lWorks13 v4).mono ?_
      rintro e wz ⟨rfl, hbz⟩
      go_wp2_with fail
      go_ret
      exact ⟨rfl, Q4.out.trans (hbz.mono Q4.out.size)⟩
    have k3 : (n : Int) < a4 := by omega
    clear hcv
    go_wp2_with fail
    refine (lWorks13 v4).mono ?_
    rintro e wz ⟨rfl, hbz⟩
    go_wp2_with fail
    go_ret
    exact ⟨rfl, Q4.out.trans (hbz.mono Q4.out.size)⟩

set_option maxRecDepth 100000 in
theorem lifted (os : Os) (started : os.Started) (H : Type) (enc : TypeId × Value → H) :
    ReturnsInHanded {} Try.checked os 4 .any (Rows.chunkBackSpec.pre6 enc Try.prog Try.f4 Rows.chunkBackRow.domain false) (Rows.chunkBackSpec.post enc Try.prog Try.f4 false true false false) := by
  refine returnsInHanded_of_change (C := Try.checked) own started (by kernel_rfl) Try.func4
    (ChangeSpec.witness6 (enc := enc) (C := Try.checked) false ⟨#[], #[.bool false, .slice none 0 0, .int .u16 0, .int .i64 0, .int .i64 0], []⟩ 8 (by kernel_rfl) (by kernel_rfl) (by kernel_rfl) (by kernel_rfl)) ?_
  intro W base args ds gs before hval0 hW hcnd _
  have hval : ∀ (j : Nat) t v, Try.f4.params[j]? = some t → args[j]? = some v → Value.okWide Try.prog W .any base t v := hval0
  have hW' := hW
  obtain ⟨p, q, hA0, hV, rfl, hfz, hnd⟩ := hW
  have hA : DataW.TrodAll enc Try.prog W 0 (fun _ => true) true Try.f4.params.toList args.toList ds p := hA0
  rw [Try.params4] at hA hval
  obtain ⟨v0, vs0, d0, ds0, p0, q0, hargs, rfl, rfl, h0, r0⟩ := trodAll_cons hA
  obtain ⟨v1, vs1, d1, ds1, p1, q1, rfl, rfl, rfl, h1, r1⟩ := trodAll_cons r0
  obtain ⟨v2, vs2, d2, ds2, p2, q2, rfl, rfl, rfl, h2, r2⟩ := trodAll_cons r1
  obtain ⟨v3, vs3, d3, ds3, p3, q3, rfl, rfl, rfl, h3, r3⟩ := trodAll_cons r2
  obtain ⟨v4, vs4, d4, ds4, p4, q4, rfl, rfl, rfl, h4, r4⟩ := trodAll_cons r3
  obtain ⟨rfl, rfl, rfl⟩ := trodAll_nil r4
  obtain rfl : args = #[v0, v1, v2, v3, v4] := by cases args; simp_all
  obtain ⟨rfl, rfl⟩ := trodVars_none hV
  obtain ⟨a0, rfl, rfl, rfl⟩ := open_bool Try.underlying4 (hval 0 4 v0 rfl rfl) h0
  obtain ⟨a1, len1, cap1, rfl⟩ := okWide_slice Try.underlying22 (hval 1 22 v1 rfl rfl)
  have k1 := h1
  have lt1 : ∀ x ∈ p1, x.block < W.heap.size := by obtain ⟨m, hm⟩ := k1; exact DataW.trod_lt m _ _ _ hm
  obtain ⟨l1, w1⟩ : ∃ l, Bs W a1 len1 cap1 l := by
    obtain ⟨fuel, hf⟩ := h1
    exact Bs.of_trod hf
  obtain ⟨a2, rfl, rfl, rfl, w2⟩ := open_int Try.underlying23 (hval 2 23 v2 rfl rfl) h2
  obtain ⟨a3, rfl, rfl, rfl, w3⟩ := open_int Try.underlying3 (hval 3 3 v3 rfl rfl) h3
  obtain ⟨a4, rfl, rfl, rfl, w4⟩ := open_int Try.underlying3 (hval 4 3 v4 rfl rfl) h4
  clear hA0 hval0
  refine (walk a0 a1 len1 cap1 l1 a2 a3 a4 W w1 w2 w3 w4).mono fun e W' ⟨he, bel⟩ => ?_
  subst he
  exact ⟨_, rfl, _, _, _, [], _, [], hW', trodAll_mk1 (shut_bool Try.underlying4 _), (trodAll_cons_mk (shut_bool Try.underlying4 a0) (trodAll_cons_mk (Below.trod laidOut (by kernel_rfl) (of_decide_eq_true (by kernel_rfl)) k1 bel lt1) (trodAll_cons_mk (shut_int Try.underlying23 w2) (trodAll_cons_mk (shut_int Try.underlying3 w3) (trodAll_cons_mk (shut_int Try.underlying3 w4) trodAll_mk0))))), rfl, bel.frame _, fun h => by cases h⟩

theorem over : Rows.chunkBackRow.holds Try.pinned (OpenSpec.ofChange Rows.chunkBackSpec) :=
  OpenClaim.holds_of_wide 4 Try.f4 rfl rfl rfl rfl rfl rfl rfl ⟨rfl, rfl, rfl, rfl, rfl⟩ rfl rfl rfl rfl rfl (by kernel_rfl) Try.func4 (by kernel_rfl)
    (of_decide_eq_true (by kernel_rfl)) (by unfold Func.isWrapper; first | (rw [if_pos (by decide +kernel)]; kernel_rfl) | (rw [if_neg (by decide +kernel)]; exact ⟨rfl, rfl⟩))
    (fun os started H enc _ => lifted os started H enc)
end ChunkBackLaw

/-- The statement. -/
theorem chunkBack_holds : Rows.ChunkBackSaid := ChunkBackLaw.over
#print axioms chunkBack_holds
end Go.Proofs.Ytfknplcnfpincaa
