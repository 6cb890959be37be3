/-
  2 texts in one. No statement of the seat is proved here.
-/
import Derived.Test.YtfknplcnfpincaaGreatG22

/-
  Contracts of layer 13's program's Open. Conditions: what a text is of at most 60 bytes.
-/
namespace Go.Proofs.YtfknplcnfpincaaGreat
open Go.RowKit
set_option linter.unusedVariables false

/-- Is there such a piece? -/
def inR (say i : Int) : Prop := 0 ≤ say ∧ say ≤ 1048576 ∧ 0 ≤ i ∧ i < (cnt say.toNat : Int)
set_option maxRecDepth 100000 in
set_option maxHeartbeats 1000000 in
theorem oOpenR (w : World) {r : Nat} {ak aw ab : Option Addr} {nk ck nw cw nb cb : Nat} (say i : Int) (s0 : -9223372036854775808 ≤ say) (s1 : say ≤ 9223372036854775807) (i0 : -9223372036854775808 ≤ i) (i1 : i ≤ 9223372036854775807) (lr : r < w.heap.size) (hn : ¬ inR say i) :
    Calls Tryz.prog 11 #[.pointer (some ⟨r, 0, none⟩), .slice ak nk ck, .slice aw nw cw, .int .i64 say, .int .i64 i, .slice ab nb cb] w fun e w' => e = .returned (.tuple #[.slice none 0 0, .int .i64 2]) ∧ w = w' := by
  unfold inR at hn
  by_cases h1 : say < 0
  · clear hn
    go_enter Tryz.func11, Tryz.ntmps11
    go_wp2_with fail
    go_ret2
    exact ⟨rfl, rfl⟩
  by_cases h2 : (1048576 : Int) < say
  · clear hn
    go_enter Tryz.func11, Tryz.ntmps11
    go_wp2_with fail
    go_ret2
    exact ⟨rfl, rfl⟩
  by_cases h3 : i < 0
  · clear hn
    go_enter Tryz.func11, Tryz.ntmps11
    go_wp2_with fail
    go_ret2
    exact ⟨rfl, rfl⟩
  obtain ⟨n, rfl⟩ : ∃ n : Nat, say = n := ⟨say.toNat, by omega⟩
  rw [Int.toNat_natCast] at hn
  have CC : Hid (∀ u, Calls Tryz.prog 16 #[.int .i64 (n : Int)] u fun e w' => e = .returned (.int .i64 (cnt n : Int)) ∧ u = w') := fun u => oCount u n (by omega)
  have h4 : (cnt n : Int) ≤ i := by omega
  clear hn
  go_enter Tryz.func11, Tryz.ntmps11
  go_wp2_with fail
  refine (CC.out w).mono ?_
  rintro e w1 ⟨rfl, rfl⟩
  go_wp2_with fail
  go_ret2
  exact ⟨rfl, rfl⟩
set_option maxRecDepth 100000 in
set_option maxHeartbeats 1000000 in
theorem oOpenS (w : World) {r : Nat} {ak aw ab : Option Addr} {nk ck nw cw nb cb : Nat} (n i : Nat) (hn : n ≤ 1048576) (hi : i < cnt n) (lr : r < w.heap.size) (hb : nb ≤ 1000000) (h512 : ¬ nb = 512) :
    Calls Tryz.prog 11 #[.pointer (some ⟨r, 0, none⟩), .slice ak nk ck, .slice aw nw cw, .int .i64 (n : Int), .int .i64 (i : Int), .slice ab nb cb] w fun e w' => e = .returned (.tuple #[.slice none 0 0, .int .i64 17]) ∧ w = w' := by
  have CC : Hid (∀ u, Calls Tryz.prog 16 #[.int .i64 (n : Int)] u fun e w' => e = .returned (.int .i64 (cnt n : Int)) ∧ u = w') := fun u => oCount u n (by omega)
  have h1 : ¬ (n : Int) < 0 := by omega
  have h2 : ¬ (1048576 : Int) < (n : Int) := by omega
  have h3 : ¬ (i : Int) < 0 := by omega
  have h4 : ¬ (cnt n : Int) ≤ (i : Int) := by omega
  have h5 : ¬ (nb : Int) = 512 := by omega
  clear hi h512
  go_enter Tryz.func11, Tryz.ntmps11
  go_wp2_with fail
  refine (CC.out w).mono ?_
  rintro e w1 ⟨rfl, rfl⟩
  go_wp2_with fail
  go_ret2
  exact ⟨rfl, rfl⟩

set_option maxRecDepth 100000 in
set_option maxHeartbeats 4000000 in
theorem oOpen13 (w : World) {U : Nat → Prop} {r : Nat} {S : SeaS} {M : SeaM} (h : Se U w r S M) {k what blk : List UInt8} {ak aw ab : Option Addr} {ck nw cw cb : Nat} (bk : Bs w ak 32 ck k) (bw : Bs w aw nw cw what) (bb : Bs w ab 512 cb blk) (zw : nw ≤ 60) (n i : Nat) (hn : n ≤ 1048576) (hi : i < cnt n) :
    (zer (blk.drop (plen n i + 16)) = false → Calls Tryz.prog 11 #[.pointer (some ⟨r, 0, none⟩), .slice ak 32 ck, .slice aw nw cw, .int .i64 (n : Int), .int .i64 (i : Int), .slice ab 512 cb] w fun e w' => e = .returned (.tuple #[.slice none 0 0, .int .i64 6]) ∧ w = w') ∧
    (zer (blk.drop (plen n i + 16)) = true → Calls Tryz.prog 11 #[.pointer (some ⟨r, 0, none⟩), .slice ak 32 ck, .slice aw nw cw, .int .i64 (n : Int), .int .i64 (i : Int), .slice ab 512 cb] w (OpensS U r (S.opened k (nonL 0 i) (bes what i (decide (i + 1 = cnt n))) (blk.take (plen n i + 16))) M (S.opens k (nonL 0 i) (bes what i (decide (i + 1 = cnt n))) (blk.take (plen n i + 16))) w)) := by
  have HS : Hid (Se U w r S M) := h
  have lr := h.blk.lt
  have HK : Hid (Bs w ak 32 ck k) := bk
  have HW : Hid (Bs w aw nw cw what) := bw
  have HB : Hid (Bs w ab 512 cb blk) := bb
  have HWL : Hid (what.length = nw) := bw.len
  have CC : Hid (∀ u, Calls Tryz.prog 16 #[.int .i64 (n : Int)] u fun e w' => e = .returned (.int .i64 (cnt n : Int)) ∧ u = w') := fun u => oCount u n (by omega)
  have hcs := cnt_small (n := n) (by omega)
  have CP : Hid (∀ u, Calls Tryz.prog 15 #[.int .i64 (n : Int), .int .i64 (i : Int)] u fun e w' => e = .returned (.tuple #[.int .i64 (lo n i : Int), .int .i64 (Go.Proofs.YtfknplcnfpincaaGreat.hi n i : Int)]) ∧ u = w') := fun u => oPart u n i (by omega) (by omega)
  have CB : Hid (∀ u, Bs u aw nw cw what → Calls Tryz.prog 22 #[.slice aw nw cw, .int .i64 (n : Int), .int .i64 (i : Int)] u (Gives u (bes what i (decide (i + 1 = cnt n))))) := fun u hb => oBeside u hb zw n i (by omega) (by omega)
  have h1 : ¬ (n : Int) < 0 := by omega
  have h2 : ¬ (1048576 : Int) < (n : Int) := by omega
  have h3 : ¬ (i : Int) < 0 := by omega
  have h4 : ¬ (cnt n : Int) ≤ (i : Int) := by omega
  have hil : i ≤ 10000 := by omega
  obtain ⟨L, hL⟩ : ∃ L, L = lo n i := ⟨_, rfl⟩
  obtain ⟨H, hH⟩ : ∃ H, H = Go.Proofs.YtfknplcnfpincaaGreat.hi n i := ⟨_, rfl⟩
  obtain ⟨P, hP⟩ : ∃ P, P = plen n i := ⟨_, rfl⟩
  obtain ⟨E, hE⟩ : ∃ E, E = P + 16 := ⟨_, rfl⟩
  obtain ⟨bs, hbs⟩ : ∃ b, b = bes what i (decide (i + 1 = cnt n)) := ⟨_, rfl⟩
  have hBL : bs.length = nw + 26 := by rw [hbs, bes_length, HWL.out]
  have hLH : L ≤ H := by rw [hL, hH]; exact lo_le n i
  have hHn : H ≤ n := by rw [hH]; exact hi_le n i
  have hPL : H - L = P := by rw [hL, hH, hP]; exact lo_hi n i
  have hp6 : P ≤ 496 := by rw [hP]; exact plen_le n i
  have a1 : (H : Int) - (L : Int) = (P : Int) := by omega
  have a2 : (P : Int) + 16 = (E : Int) := by omega
  have hEl : E ≤ 512 := by omega
  rw [← hbs, ← hP, ← hE]
  rw [← hL, ← hH] at CP
  rw [← hbs] at CB
  obtain ⟨a', c', hcut, hcb, _⟩ := Bs.cutLow bb E hEl
  obtain ⟨hcut2, hcb2⟩ := Bs.cutHigh bb E hEl
  have Z1 : Hid (Bs w a' (512 - E) c' (blk.drop E)) := hcb w bb
  have T1 : Hid (∀ u, Bs u ab 512 cb blk → Bs u ab E cb (blk.take E)) := fun u hu => hcb2 u hu
  have HLn : H ≤ 1048576 := by omega
  have HLl : L ≤ 1048576 := by omega
  obtain ⟨R, hR⟩ : ∃ R, R = 512 - E := ⟨_, rfl⟩
  rw [← hR] at hcut Z1
  have CZ : Hid (∀ u, Below w.heap.size w u → Calls Tryz.prog 30 #[.slice a' R c'] u fun e w' => e = .returned (.bool (zer (blk.drop E))) ∧ u = w') := fun u hu => oNoughts u (Z1.out.below hu (Nat.le_refl _))
  clear h bk bw bb hi hL hH hP hE hbs hPL hcb hcb2 hR hLH hHn Z1
  constructor
  · intro hz
    rw [hz] at CZ
    clear hz
    go_enter Tryz.func11, Tryz.ntmps11
    go_wp2_with fail
    refine (CC.out w).mono ?_
    rintro e w1 ⟨rfl, rfl⟩
    go_wp2_with fail
    refine (CP.out w).mono ?_
    rintro e w1 ⟨rfl, rfl⟩
    go_wp2_with fail
    refine (CZ.out w (Below.refl _ w)).mono ?_
    rintro e w1 ⟨rfl, rfl⟩
    go_wp2_with fail
    go_ret2
    exact ⟨rfl, rfl⟩
  · intro hz
    rw [hz] at CZ
    clear hz
    go_enter Tryz.func11, Tryz.ntmps11
    go_wp2_with fail
    refine (CC.out w).mono ?_
    rintro e w1 ⟨rfl, rfl⟩
    go_wp2_with fail
    refine (CP.out w).mono ?_
    rintro e w1 ⟨rfl, rfl⟩
    go_wp2_with fail
    refine (CZ.out w (Below.refl _ w)).mono ?_
    rintro e w1 ⟨rfl, rfl⟩
    go_wp2_with fail
    refine regionG (S := Kp U w) (by kernel_rfl) (Kp.of_below (Below.refl _ w).drew) ?_
    refine takeG 0 (some 53) (.pointer (some ⟨r, 0, none⟩)) rfl rfl (by kernel_rfl) (by kernel_rfl) (by kernel_rfl) (fun _ _ _ h => h) (ans_plain (by rfl) (fun w _ => rfl)) ?_
    simp only [Act.put, List.setIfInBounds_toArray, List.set_cons_zero, List.set_cons_succ]
    refine takeG 1 (some 54) (.slice ak 32 ck) rfl rfl (by kernel_rfl) (by kernel_rfl) (by kernel_rfl) (fun _ _ _ h => h) (ans_plain (by rfl) (fun w _ => rfl)) ?_
    simp only [Act.put, List.setIfInBounds_toArray, List.set_cons_zero, List.set_cons_succ]
    refine takeG 2 (some 55) (.int .i64 (i : Int)) rfl rfl (by kernel_rfl) (by kernel_rfl) (by kernel_rfl) (fun _ _ _ h => h) (ans_plain (by rfl) (fun w _ => rfl)) ?_
    simp only [Act.put, List.setIfInBounds_toArray, List.set_cons_zero, List.set_cons_succ]
    refine takeG 4 (some 57) (.slice aw nw cw) rfl rfl (by kernel_rfl) (by kernel_rfl) (by kernel_rfl) (fun _ _ _ h => h) (ans_plain (by rfl) (fun w _ => rfl)) ?_
    simp only [Act.put, List.setIfInBounds_toArray, List.set_cons_zero, List.set_cons_succ]
    refine takeG 5 (some 58) (.int .i64 (n : Int)) rfl rfl (by kernel_rfl) (by kernel_rfl) (by kernel_rfl) (fun _ _ _ h => h) (ans_plain (by rfl) (fun w _ => rfl)) ?_
    simp only [Act.put, List.setIfInBounds_toArray, List.set_cons_zero, List.set_cons_succ]
    refine takeG 6 (some 59) (.int .i64 (i : Int)) rfl rfl (by kernel_rfl) (by kernel_rfl) (by kernel_rfl) (fun _ _ _ h => h) (ans_plain (by rfl) (fun w _ => rfl)) ?_
    simp only [Act.put, List.setIfInBounds_toArray, List.set_cons_zero, List.set_cons_succ]
    refine takeG 8 (some 61) (.slice ab 512 cb) rfl rfl (by kernel_rfl) (by kernel_rfl) (by kernel_rfl) (fun _ _ _ h => h) (ans_plain (by rfl) (fun w _ => rfl)) ?_
    simp only [Act.put, List.setIfInBounds_toArray, List.set_cons_zero, List.set_cons_succ]
    refine takeG 9 (some 62) (.int .i64 (E : Int)) rfl rfl (by kernel_rfl) (by kernel_rfl) (by kernel_rfl) (fun _ _ _ h => h) (ans_plain (by rfl) (fun w _ => rfl)) ?_
    simp only [Act.put, List.setIfInBounds_toArray, List.set_cons_zero, List.set_cons_succ]
    refine takeG 10 (some 63) (.slice ab E cb) rfl rfl (by kernel_rfl) (by kernel_rfl) (by kernel_rfl) (fun _ _ _ h => h) (ans_plain (by rfl) (fun w _ => by have hc := hcut2 w; unfold execOp; go_simp)) ?_
    simp only [Act.put, List.setIfInBounds_toArray, List.set_cons_zero, List.set_cons_succ]
    refine callG 3 (some 56) 21 #[.tmp 55] #[3] #[.int .i64 (i : Int)] rfl rfl rfl (by rfl) (by rfl) (by kernel_rfl) Tryz.call21 fun v4 hg4 hs4 => ?_
    refine (oNonce13 v4 i (by omega)).mono ?_
    rintro e v5 ⟨an, mn, cn, rfl, on, hbn⟩
    have lmn := on.toBs.len
    rw [nonL_length] at lmn
    subst lmn
    have hq4 : Below w.heap.size w v4 := Grows.ofDrew hg4
    have hq5 : Below w.heap.size w v5 := hq4.trans (hbn.mono hq4.size)
    have N5 := on.toBs
    refine ⟨_, rfl, hs4.trans (Kp.of_below hbn), ?_⟩
    simp only [Act.put, List.setIfInBounds_toArray, List.set_cons_zero, List.set_cons_succ]
    refine callG 7 (some 60) 22 #[.tmp 57, .tmp 58, .tmp 59] #[22, 3, 3] #[.slice aw nw cw, .int .i64 (n : Int), .int .i64 (i : Int)] rfl rfl rfl (by rfl) (by rfl) (by kernel_rfl) Tryz.call22 fun v6 hg6 hs6 => ?_
    have hq6 : Below w.heap.size w v6 := hq5.trans (Below.mono hg6 hq5.size)
    refine (CB.out v6 (HW.out.below hq6 (Nat.le_refl _))).mono ?_
    rintro e v7 ⟨ab7, mb, cb7, rfl, ob, hbb⟩
    have lmb := ob.toBs.len
    rw [hBL] at lmb
    have hq7 : Below w.heap.size w v7 := hq6.trans (hbb.mono hq6.size)
    have N7 := (N5.below hg6 (Nat.le_refl _)).below hbb (Nat.le_refl _)
    refine ⟨_, rfl, hs6.trans (Kp.of_below hbb), ?_⟩
    simp only [Act.put, List.setIfInBounds_toArray, List.set_cons_zero, List.set_cons_succ]
    refine callG 11 (some 64) 31 #[.tmp 53, .tmp 54, .tmp 56, .tmp 60, .tmp 63] #[25, 22, 22, 22, 22] #[.pointer (some ⟨r, 0, none⟩), .slice ak 32 ck, .slice an 12 cn, .slice ab7 mb cb7, .slice ab E cb] rfl rfl rfl (by rfl) (by rfl) (by kernel_rfl) Tryz.call31 fun v8 hg8 hs8 => ?_
    have hq8 : Below w.heap.size w v8 := hq7.trans (Below.mono hg8 hq7.size)
    refine (oSOpen v8 (HS.out.grow hq8) (HK.out.below hq8 (Nat.le_refl _)) (N7.below hg8 (Nat.le_refl _)) (ob.toBs.below hg8 (Nat.le_refl _)) (T1.out v8 (HB.out.below hq8 (Nat.le_refl _))) (by omega) (by omega)).mono ?_
    rintro e v9 ⟨as', ms, cs', rfl, oS, seS, kpS⟩
    obtain ⟨O, hO⟩ : ∃ O, O = S.opens k (nonL 0 i) bs (blk.take E) := ⟨_, rfl⟩
    rw [← hO] at oS ⊢
    obtain ⟨cd, hcd⟩ : ∃ cd : Int, cd = (if O.isSome then 0 else 6) := ⟨_, rfl⟩
    rw [← hcd]
    refine ⟨_, rfl, hs8.trans kpS, ?_⟩
    simp only [Act.put, List.setIfInBounds_toArray, List.set_cons_zero, List.set_cons_succ]
    refine takeG 12 (some 65) (.slice as' ms cs') rfl rfl (by kernel_rfl) (by kernel_rfl) (by kernel_rfl) (fun _ _ _ h => h) (ans_plain (by rfl) (fun w _ => by unfold execOp; go_simp)) ?_
    simp only [Act.put, List.setIfInBounds_toArray, List.set_cons_zero, List.set_cons_succ]
    refine takeG 13 (some 66) (.int .i64 cd) rfl rfl (by kernel_rfl) (by kernel_rfl) (by kernel_rfl) (fun _ _ _ h => h) (ans_plain (by rfl) (fun w _ => by unfold execOp; go_simp)) ?_
    simp only [Act.put, List.setIfInBounds_toArray, List.set_cons_zero, List.set_cons_succ]
    refine takeG 14 (some 12) (.slice as' ms cs') rfl rfl (by kernel_rfl) (by kernel_rfl) (by kernel_rfl) (fun _ _ _ h => h) (ans_plain (by rfl) (fun w _ => rfl)) ?_
    simp only [Act.put, List.setIfInBounds_toArray, List.set_cons_zero, List.set_cons_succ]
    refine takeG 15 (some 13) (.int .i64 cd) rfl rfl (by kernel_rfl) (by kernel_rfl) (by kernel_rfl) (fun _ _ _ h => h) (ans_plain (by rfl) (fun w _ => rfl)) ?_
    simp only [Act.put, List.setIfInBounds_toArray, List.set_cons_zero, List.set_cons_succ]
    refine doneG (by kernel_rfl) fun v10 hg10 hs10 => ?_
    have R10 : Hid (OpensS U r (S.opened k (nonL 0 i) bs (blk.take E)) M O w (.returned (.tuple #[.slice as' ms cs', .int .i64 cd])) v10) := ⟨as', ms, cs', by rw [hcd], (oS.below' hg10).mono' (fun j _ hj => Nat.le_trans hq8.size hj), seS.grow hg10, ((Kp.of_below hq8).trans kpS).trans (Kp.of_below hg10)⟩
    clear oS seS kpS hg10 hs10 hg8 hs8 hq8 hq7 hq6 hq5 hq4 hg6 hs6 hg4 hs4 N5 N7 ob on hbb hbn hcut hcut2 hcd
    go_wp2_with fail
    go_ret2
    rw [← hO]
    exact R10.out

end Go.Proofs.YtfknplcnfpincaaGreat

/-
  The contract of layer 12's reference's Open; what Seal and Open answer where a key or a nonce has another size. Conditions: what stands beside and what is opened of at most 600 bytes, a book of at most a thousand things.
-/
namespace Go.Proofs.YtfknplcnfpincaaGreat
open Go.RowKit
set_option linter.unusedVariables false

set_option maxRecDepth 100000 in
set_option maxHeartbeats 2000000 in
theorem rSeal12Not (w : World) {A : Nat → Prop} {S : SeaS} {d : Du} (h : RS A w S d) {ak an ab at' : Option Addr} {nk ck nn cn nb cb nt ct : Nat} (zk : nk ≤ 1000000) (hn : ¬ nk = 32) :
    Calls Tryz.prog 25 #[rsV S d, .slice ak nk ck, .slice an nn cn, .slice ab nb cb, .slice at' nt ct] w fun e w' => e = .returned (.tuple #[rsV S d, .slice none 0 0, .int .i64 17]) ∧ Below w.heap.size w w' := by
  have h1 : ((nk : Int) != 32) = true := by simp; omega
  obtain ⟨ba, bn, bc, ca, cn', cc⟩ := d
  obtain ⟨si, sb, sk, sq, sr, sf⟩ := S
  show Calls Tryz.prog _ #[.agg #[.bool si, .slice ba bn bc, .slice ca cn' cc, .int .u64 (sq : Int), .bool sr, .bool sf], _, _, _, _] w _
  go_enter Tryz.func25, Tryz.ntmps25
  go_wp2_with fail
  have bN : Blk ((w.alloc (.cells #[.bool si, .slice ba bn bc, .slice ca cn' cc, .int .u64 (sq : Int), .bool sr, .bool sf] 37)).alloc (.cells #[.bool si, .slice ba bn bc, .slice ca cn' cc, .int .u64 (sq : Int), .bool sr, .bool sf] 37)) (w.heap.size + 1) [.bool si, .slice ba bn bc, .slice ca cn' cc, .int .u64 (sq : Int), .bool sr, .bool sf] 37 := Blk.newAt (w.alloc (.cells #[.bool si, .slice ba bn bc, .slice ca cn' cc, .int .u64 (sq : Int), .bool sr, .bool sf] 37)) _ _ _ (by simp) _ rfl
  have qN : Below w.heap.size w ((w.alloc (.cells #[.bool si, .slice ba bn bc, .slice ca cn' cc, .int .u64 (sq : Int), .bool sr, .bool sf] 37)).alloc (.cells #[.bool si, .slice ba bn bc, .slice ca cn' cc, .int .u64 (sq : Int), .bool sr, .bool sf] 37)) := (below_alloc w (.cells #[.bool si, .slice ba bn bc, .slice ca cn' cc, .int .u64 (sq : Int), .bool sr, .bool sf] 37)).trans ((below_alloc (w.alloc (.cells #[.bool si, .slice ba bn bc, .slice ca cn' cc, .int .u64 (sq : Int), .bool sr, .bool sf] 37)) (.cells #[.bool si, .slice ba bn bc, .slice ca cn' cc, .int .u64 (sq : Int), .bool sr, .bool sf] 37)).mono (by simp))
  generalize (w.alloc (.cells #[.bool si, .slice ba bn bc, .slice ca cn' cc, .int .u64 (sq : Int), .bool sr, .bool sf] 37)).alloc (.cells #[.bool si, .slice ba bn bc, .slice ca cn' cc, .int .u64 (sq : Int), .bool sr, .bool sf] 37) = wN at *
  generalize w.heap.size + 1 = xN at *
  refine bodyPost_ret (v := .tuple #[.agg #[.bool si, .slice ba bn bc, .slice ca cn' cc, .int .u64 (sq : Int), .bool sr, .bool sf], .slice none 0 0, .int .i64 17]) (resCTT12 Tryz.results25 _ _ xN _ rfl (run_loadVar_row _ xN 37 37 _ (0, 0) _ bN Tryz.underlying37 rfl sizeRS) _ _ rfl rfl) rfl ?_
  exact ⟨rfl, qN⟩
set_option maxRecDepth 100000 in
set_option maxHeartbeats 2000000 in
theorem rOpen12Not (w : World) {A : Nat → Prop} {S : SeaS} {d : Du} (h : RS A w S d) {ak an ab at' : Option Addr} {nk ck nn cn nb cb nt ct : Nat} (zk : nk ≤ 1000000) (hn : ¬ nk = 32) :
    Calls Tryz.prog 32 #[rsV S d, .slice ak nk ck, .slice an nn cn, .slice ab nb cb, .slice at' nt ct] w fun e w' => e = .returned (.tuple #[rsV S d, .slice none 0 0, .int .i64 17]) ∧ Below w.heap.size w w' := by
  have h1 : ((nk : Int) != 32) = true := by simp; omega
  obtain ⟨ba, bn, bc, ca, cn', cc⟩ := d
  obtain ⟨si, sb, sk, sq, sr, sf⟩ := S
  show Calls Tryz.prog _ #[.agg #[.bool si, .slice ba bn bc, .slice ca cn' cc, .int .u64 (sq : Int), .bool sr, .bool sf], _, _, _, _] w _
  go_enter Tryz.func32, Tryz.ntmps32
  go_wp2_with fail
  have bN : Blk ((w.alloc (.cells #[.bool si, .slice ba bn bc, .slice ca cn' cc, .int .u64 (sq : Int), .bool sr, .bool sf] 37)).alloc (.cells #[.bool si, .slice ba bn bc, .slice ca cn' cc, .int .u64 (sq : Int), .bool sr, .bool sf] 37)) (w.heap.size + 1) [.bool si, .slice ba bn bc, .slice ca cn' cc, .int .u64 (sq : Int), .bool sr, .bool sf] 37 := Blk.newAt (w.alloc (.cells #[.bool si, .slice ba bn bc, .slice ca cn' cc, .int .u64 (sq : Int), .bool sr, .bool sf] 37)) _ _ _ (by simp) _ rfl
  have qN : Below w.heap.size w ((w.alloc (.cells #[.bool si, .slice ba bn bc, .slice ca cn' cc, .int .u64 (sq : Int), .bool sr, .bool sf] 37)).alloc (.cells #[.bool si, .slice ba bn bc, .slice ca cn' cc, .int .u64 (sq : Int), .bool sr, .bool sf] 37)) := (below_alloc w (.cells #[.bool si, .slice ba bn bc, .slice ca cn' cc, .int .u64 (sq : Int), .bool sr, .bool sf] 37)).trans ((below_alloc (w.alloc (.cells #[.bool si, .slice ba bn bc, .slice ca cn' cc, .int .u64 (sq : Int), .bool sr, .bool sf] 37)) (.cells #[.bool si, .slice ba bn bc, .slice ca cn' cc, .int .u64 (sq : Int), .bool sr, .bool sf] 37)).mono (by simp))
  generalize (w.alloc (.cells #[.bool si, .slice ba bn bc, .slice ca cn' cc, .int .u64 (sq : Int), .bool sr, .bool sf] 37)).alloc (.cells #[.bool si, .slice ba bn bc, .slice ca cn' cc, .int .u64 (sq : Int), .bool sr, .bool sf] 37) = wN at *
  generalize w.heap.size + 1 = xN at *
  refine bodyPost_ret (v := .tuple #[.agg #[.bool si, .slice ba bn bc, .slice ca cn' cc, .int .u64 (sq : Int), .bool sr, .bool sf], .slice none 0 0, .int .i64 17]) (resCTT12 Tryz.results32 _ _ xN _ rfl (run_loadVar_row _ xN 37 37 _ (0, 0) _ bN Tryz.underlying37 rfl sizeRS) _ _ rfl rfl) rfl ?_
  exact ⟨rfl, qN⟩
/-- What Open answers. -/
def OpensR (A : Nat → Prop) (S' : SeaS) (d : Du) (l : Option (List UInt8)) (w : World) (e : Ending) (w' : World) : Prop := ∃ a m c, e = .returned (.tuple #[rsV S' d, .slice a m c, .int .i64 (if l.isSome then 0 else 6)]) ∧ RS A w' S' d ∧ BA A w' a m c (l.getD []) ∧ Below w.heap.size w w'

set_option maxRecDepth 100000 in
set_option maxHeartbeats 1500000 in
theorem rOpen12 (w : World) {A : Nat → Prop} (hA : ∀ j, w.heap.size ≤ j → A j) {S : SeaS} {d : Du} (h : RS A w S d) {k n b s : List UInt8} {ak an ab as' : Option Addr} {ck cn nb cb ns cs' : Nat} (hk : Bs w ak 32 ck k) (hn : Bs w an 12 cn n) (hb : Bs w ab nb cb b) (hs : Bs w as' ns cs' s) (zb : nb ≤ 600) (zs : ns ≤ 600) (hz : S.book.length ≤ 1000) :
    Calls Tryz.prog 32 #[rsV S d, .slice ak 32 ck, .slice an 12 cn, .slice ab nb cb, .slice as' ns cs'] w (OpensR A (S.opened k n b s) d (S.opens k n b s) w) := by
  have HR : Hid (RS A w S d) := h
  have HK : Hid (Bs w ak 32 ck k) := hk
  have HN : Hid (Bs w an 12 cn n) := hn
  have HB : Hid (Bs w ab nb cb b) := hb
  have HC : Hid (Bs w as' ns cs' s) := hs
  have HAA : Hid (∀ j, w.heap.size ≤ j → A j) := hA
  have HZ : Hid (S.book.length ≤ 1000) := hz
  have HSL : Hid (s.length = ns) := hs.len
  have HKL : Hid ((keyF k).length = 240) := keyF_length hk.len
  have HKN : Hid (∀ u, Below w.heap.size w u → Calls Tryz.prog 50 #[rsV S d, .slice ak 32 ck, .slice an 12 cn, .slice ab nb cb, .slice as' ns cs'] u (Knows (Off A (w.heap.size + 1)) (S.known k n b s) u)) := fun u hu => rKnown12 u ((h.off (by omega)).grow hu) (hk.below hu (Nat.le_refl _)) (hn.below hu (Nat.le_refl _)) (hb.below hu (Nat.le_refl _)) (hs.below hu (Nat.le_refl _)) hz
  have HOI : Hid (S.ideal = true → S.opened k n b s = S ∧ S.opens k n b s = S.known k n b s) := fun hi => ⟨SeaS.opened_ideal hi k n b s, by unfold SeaS.opens; rw [if_pos hi]⟩
  have HOR : Hid (S.ideal = false → S.opened k n b s = { S with forged := S.forged || ((opensL k n b s).isSome && !(S.known k n b s).isSome) } ∧ S.opens k n b s = opensL k n b s) := fun hi => ⟨SeaS.opened_real hi k n b s, by unfold SeaS.opens; rw [if_neg (by rw [hi]; decide)]⟩
  clear h hk hn hb hs hA hz
  obtain ⟨kn, hkn⟩ : ∃ kn, kn = S.known k n b s := ⟨_, rfl⟩
  rw [← hkn] at HKN HOI HOR
  clear hkn
  obtain ⟨ba, bn, bc, ca, cn', cc⟩ := d
  obtain ⟨si, sb, sk, sq, sr, sf⟩ := S
  dsimp only at HZ HOI HOR
  have HKN' : Hid (∀ u, Below w.heap.size w u → Calls Tryz.prog 50 #[.agg #[.bool si, .slice ba bn bc, .slice ca cn' cc, .int .u64 (sq : Int), .bool sr, .bool sf], .slice ak 32 ck, .slice an 12 cn, .slice ab nb cb, .slice as' ns cs'] u (Knows (Off A (w.heap.size + 1)) kn u)) := HKN.out
  clear HKN
  show Calls Tryz.prog _ #[.agg #[.bool si, .slice ba bn bc, .slice ca cn' cc, .int .u64 (sq : Int), .bool sr, .bool sf], _, _, _, _] w _
  have q1 : Below w.heap.size w ((w.alloc (.cells #[.bool si, .slice ba bn bc, .slice ca cn' cc, .int .u64 (sq : Int), .bool sr, .bool sf] 37)).alloc (.cells #[.bool false, .slice none 0 0, .slice none 0 0, .int .u64 0, .bool false, .bool false] 37)) := (below_alloc w _).trans ((below_alloc _ _).mono (by simp))
  have B5 : Blk ((w.alloc (.cells #[.bool si, .slice ba bn bc, .slice ca cn' cc, .int .u64 (sq : Int), .bool sr, .bool sf] 37)).alloc (.cells #[.bool false, .slice none 0 0, .slice none 0 0, .int .u64 0, .bool false, .bool false] 37)) w.heap.size [.bool si, .slice ba bn bc, .slice ca cn' cc, .int .u64 (sq : Int), .bool sr, .bool sf] 37 := (Blk.new w _ _).old _
  have B10 : Blk ((w.alloc (.cells #[.bool si, .slice ba bn bc, .slice ca cn' cc, .int .u64 (sq : Int), .bool sr, .bool sf] 37)).alloc (.cells #[.bool false, .slice none 0 0, .slice none 0 0, .int .u64 0, .bool false, .bool false] 37)) (w.heap.size + 1) [.bool false, .slice none 0 0, .slice none 0 0, .int .u64 0, .bool false, .bool false] 37 := Blk.newAt (w.alloc (.cells #[.bool si, .slice ba bn bc, .slice ca cn' cc, .int .u64 (sq : Int), .bool sr, .bool sf] 37)) _ _ _ (by simp) _ rfl
  go_enter Tryz.func32, Tryz.ntmps32
  go_upto_region 3 with fail
  obtain ⟨x5, hx5⟩ : ∃ x, x = w.heap.size := ⟨_, rfl⟩
  obtain ⟨x10, hx10⟩ : ∃ x, x = w.heap.size + 1 := ⟨_, rfl⟩
  rw [← hx10] at B10 HKN' ⊢
  rw [← hx5] at B5 ⊢
  have hxx : x5 < x10 ∧ w.heap.size ≤ x5 := by omega
  clear hx5 hx10
  generalize (w.alloc (.cells #[.bool si, .slice ba bn bc, .slice ca cn' cc, .int .u64 (sq : Int), .bool sr, .bool sf] 37)).alloc (.cells #[.bool false, .slice none 0 0, .slice none 0 0, .int .u64 0, .bool false, .bool false] 37) = w1 at *
  go_wp2_with ((with_reducible refine at_ld 37 ?_); (refine ld 37 (.tmp 5) 6 sizeRS _ Tryz.underlying37 rfl x5 0 [.bool si, .slice ba bn bc, .slice ca cn' cc, .int .u64 (sq : Int), .bool sr, .bool sf] rfl B5.whole rfl ?_))
  refine (HKN'.out w1 q1).mono ?_
  rintro e w2 ⟨at', mt, ct, rfl, bt', hb2⟩
  have Q2 : Hid (Below w.heap.size w w2) := q1.trans (hb2.mono q1.size)
  have B52 : Hid (Blk w2 x5 [.bool si, .slice ba bn bc, .slice ca cn' cc, .int .u64 (sq : Int), .bool sr, .bool sf] 37) := B5.below hb2 B5.lt
  have B102 : Hid (Blk w2 x10 [.bool false, .slice none 0 0, .slice none 0 0, .int .u64 0, .bool false, .bool false] 37) := B10.below hb2 B10.lt
  have BT : Hid (BA (Off A x10) w2 at' mt ct (kn.getD [])) := bt'
  clear B5 B10 q1 hb2 bt' HKN'
  have c50 : w2.cell? ⟨x5, 0, none⟩ = some (.bool si) := B52.out.cell 0
  have l5 := B52.out.lt
  cases si with
  | true =>
    obtain ⟨ho1, ho2⟩ := HOI.out rfl
    have HO : Hid (SeaS.opened ⟨true, sb, sk, sq, sr, sf⟩ k n b s = ⟨true, sb, sk, sq, sr, sf⟩ ∧ SeaS.opens ⟨true, sb, sk, sq, sr, sf⟩ k n b s = kn) := ⟨ho1, ho2⟩
    clear ho1 ho2 HOI HOR
    have FIN : Hid (∀ w8 a m c, Blk w8 x10 [.bool true, .slice ba bn bc, .slice ca cn' cc, .int .u64 (sq : Int), .bool sr, .bool sf] 37 → Kp (fun j => j = x10) w2 w8 → BA (Off A x10) w2 a m c (kn.getD []) → ∀ e, e = .returned (.tuple #[.agg ([.bool true, .slice ba bn bc, .slice ca cn' cc, .int .u64 (sq : Int), .bool sr, .bool sf] : List Value).toArray, .slice a m c, .int .i64 (if kn.isSome then 0 else 6)]) → OpensR A (SeaS.opened ⟨true, sb, sk, sq, sr, sf⟩ k n b s) ⟨ba, bn, bc, ca, cn', cc⟩ (SeaS.opens ⟨true, sb, sk, sq, sr, sf⟩ k n b s) w e w8) := fun w8 a m c hB hk hba e he => by
      have Q8 : Below w.heap.size w w8 := Kp.new Q2.out hk fun j hj => by omega
      rw [HO.out.1, HO.out.2]
      exact ⟨a, m, c, he, HR.out.grow Q8, (hba.kp hk fun j hj e => hj.2 e).mono' fun j _ hj => hj.1, Q8⟩
    cases kn with
    | none =>
      go_wp2_with (first
        | ((with_reducible refine at_ld 37 ?_); (refine ld 37 (.tmp 5) 6 sizeRS _ Tryz.underlying37 rfl x5 0 [.bool true, .slice ba bn bc, .slice ca cn' cc, .int .u64 (sq : Int), .bool sr, .bool sf] rfl B52.out.whole rfl ?_))
        | ((with_reducible refine at_st 37 ?_); (refine st' 37 (.tmp 10) (.tmp 41) 6 sizeRS x10 0 [.bool true, .slice ba bn bc, .slice ca cn' cc, .int .u64 (sq : Int), .bool sr, .bool sf] rfl (rsLL_one _ _ _ _ _ _ _ _ _ _) (B102.out.there 0 6 (by simp)) rfl rfl ?_); intro w8 hw8
           have B8 : Hid (Blk w8 x10 [.bool true, .slice ba bn bc, .slice ca cn' cc, .int .u64 (sq : Int), .bool sr, .bool sf] 37) := by rw [hw8]; exact B102.out.setsW _ rfl
           have K8 : Hid (Kp (fun j => j = x10) w2 w8) := by rw [hw8]; exact Kp.sets w2 x10 _ 0
           clear hw8))
      refine bodyPost_ret (v := .tuple #[.agg ([.bool true, .slice ba bn bc, .slice ca cn' cc, .int .u64 (sq : Int), .bool sr, .bool sf] : List Value).toArray, .slice none 0 0, .int .i64 6]) (resCTT12 Tryz.results32 _ _ x10 _ rfl (run_loadVar_row _ x10 37 37 _ (0, 0) _ B8.out Tryz.underlying37 rfl sizeRS) _ _ rfl rfl) rfl ?_
      exact FIN.out w8 none 0 0 B8.out K8.out (BA.nil _ _) _ rfl
    | some tx =>
      go_wp2_with (first
        | ((with_reducible refine at_ld 37 ?_); (refine ld 37 (.tmp 5) 6 sizeRS _ Tryz.underlying37 rfl x5 0 [.bool true, .slice ba bn bc, .slice ca cn' cc, .int .u64 (sq : Int), .bool sr, .bool sf] rfl B52.out.whole rfl ?_))
        | ((with_reducible refine at_st 37 ?_); (refine st' 37 (.tmp 10) (.tmp 39) 6 sizeRS x10 0 [.bool true, .slice ba bn bc, .slice ca cn' cc, .int .u64 (sq : Int), .bool sr, .bool sf] rfl (rsLL_one _ _ _ _ _ _ _ _ _ _) (B102.out.there 0 6 (by simp)) rfl rfl ?_); intro w8 hw8
           have B8 : Hid (Blk w8 x10 [.bool true, .slice ba bn bc, .slice ca cn' cc, .int .u64 (sq : Int), .bool sr, .bool sf] 37) := by rw [hw8]; exact B102.out.setsW _ rfl
           have K8 : Hid (Kp (fun j => j = x10) w2 w8) := by rw [hw8]; exact Kp.sets w2 x10 _ 0
           clear hw8))
      refine bodyPost_ret (v := .tuple #[.agg ([.bool true, .slice ba bn bc, .slice ca cn' cc, .int .u64 (sq : Int), .bool sr, .bool sf] : List Value).toArray, .slice at' mt ct, .int .i64 0]) (resCTT12 Tryz.results32 _ _ x10 _ rfl (run_loadVar_row _ x10 37 37 _ (0, 0) _ B8.out Tryz.underlying37 rfl sizeRS) _ _ rfl rfl) rfl ?_
      exact FIN.out w8 at' mt ct B8.out K8.out BT.out _ rfl
  | false =>
    obtain ⟨ho1, ho2⟩ := HOR.out rfl
    have HO : Hid (SeaS.opened ⟨false, sb, sk, sq, sr, sf⟩ k n b s = ⟨false, sb, sk, sq, sr, sf || ((opensL k n b s).isSome && !kn.isSome)⟩ ∧ SeaS.opens ⟨false, sb, sk, sq, sr, sf⟩ k n b s = opensL k n b s) := ⟨ho1, ho2⟩
    clear ho1 ho2 HOI HOR BT
    have FIN : Hid (∀ O, O = opensL k n b s → ∀ w8 a m c, Blk w8 x10 [.bool false, .slice ba bn bc, .slice ca cn' cc, .int .u64 (sq : Int), .bool sr, .bool (sf || (O.isSome && !kn.isSome))] 37 → Below w.heap.size w w8 → BA A w8 a m c (O.getD []) → ∀ e, e = .returned (.tuple #[.agg #[.bool false, .slice ba bn bc, .slice ca cn' cc, .int .u64 (sq : Int), .bool sr, .bool (sf || (O.isSome && !kn.isSome))], .slice a m c, .int .i64 (if O.isSome then 0 else 6)]) → OpensR A (SeaS.opened ⟨false, sb, sk, sq, sr, sf⟩ k n b s) ⟨ba, bn, bc, ca, cn', cc⟩ (SeaS.opens ⟨false, sb, sk, sq, sr, sf⟩ k n b s) w e w8) := fun O hO w8 a m c hB hk hba e he => by
      rw [HO.out.1, HO.out.2, ← hO]
      exact ⟨a, m, c, he, ⟨(HR.out.grow hk).book, (HR.out.grow hk).kids⟩, hba, hk⟩
    have CNK := rNewK w2 (HK.out.below Q2.out (Nat.le_refl _))
    go_wp2_with fail
    refine CNK.mono ?_
    rintro e w3 ⟨k1, k2, k3, y1, y2, y3, rfl, hKR, hb3⟩
    have Q3 : Below w.heap.size w w3 := Q2.out.trans (hb3.mono Q2.out.size)
    clear CNK
    obtain ⟨O, hO⟩ : ∃ O, O = opensL k n b s := ⟨_, rfl⟩
    have CO : Hid (Calls Tryz.prog 51 #[kv k1 k2 k3 y1 y2 y3, .slice an 12 cn, .slice ab nb cb, .slice as' ns cs'] w3 fun e w' => ∃ a m c, e = .returned (.tuple #[.slice a m c, .int .i64 (if O.isSome then 0 else if ns < 16 then 3 else 6)]) ∧ Own w' w3.heap.size (.slice a m c) (O.getD []) ∧ Below w3.heap.size w3 w') := by
      by_cases h16 : ns < 16
      · have hON : O = none := by rw [hO]; unfold opensL; rw [if_neg (by rw [HSL.out]; omega)]
        refine (rOpenShort w3 rfl h16).mono ?_
        rintro e w' ⟨rfl, hb'⟩
        rw [hON]
        exact ⟨none, 0, 0, by rw [if_pos h16]; rfl, Own.nil _ _, hb'⟩
      · refine (rOpen w3 hKR HKL.out (HN.out.below Q3 (Nat.le_refl _)) (HB.out.below Q3 (Nat.le_refl _)) (HC.out.below Q3 (Nat.le_refl _)) (by omega) (by omega) (by omega)).mono ?_
        have hON : O = if decide (tagL (keyF k) n b (s.take (ns - 16)) = s.drop (ns - 16)) then some (strL (keyF k) n (s.take (ns - 16))) else none := by
          rw [hO]
          unfold opensL
          rw [if_pos (by rw [HSL.out]; omega), HSL.out]
          by_cases hc : tagL (keyF k) n b (s.take (ns - 16)) = s.drop (ns - 16)
          · rw [if_pos hc, decide_eq_true hc]
            rfl
          · rw [if_neg hc, decide_eq_false hc]
            rfl
        intro e w'
        unfold OpensC
        cases hd : decide (tagL (keyF k) n b (s.take (ns - 16)) = s.drop (ns - 16)) with
        | true =>
          rw [hd] at hON
          rw [hON]
          rintro ⟨a, m, c, rfl, ho, hb'⟩
          exact ⟨a, m, c, rfl, ho, hb'⟩
        | false =>
          rw [hd] at hON
          rw [hON]
          rintro ⟨rfl, hb'⟩
          exact ⟨none, 0, 0, by rw [if_neg h16]; rfl, Own.nil _ _, hb'⟩
    have HOO : Hid (O = opensL k n b s) := hO
    clear hO
    have B53 : Hid (Blk w3 x5 (rsLL false ba bn bc ca cn' cc sq sr sf) 37) := B52.out.below hb3 B52.out.lt
    have B103 : Hid (Blk w3 x10 [.bool false, .slice none 0 0, .slice none 0 0, .int .u64 0, .bool false, .bool false] 37) := B102.out.below hb3 B102.out.lt
    clear hKR hb3 c50 l5 B52 B102 Q2
    go_wp2_with fail
    refine CO.out.mono ?_
    rintro e w4 ⟨ax, mx, cx, rfl, ox, hb4⟩
    have Q4 : Hid (Below w.heap.size w w4) := Q3.trans (hb4.mono Q3.size)
    have B54 : Hid (Blk w4 x5 (rsLL false ba bn bc ca cn' cc sq sr sf) 37) := B53.out.below hb4 B53.out.lt
    have B104 : Hid (Blk w4 x10 [.bool false, .slice none 0 0, .slice none 0 0, .int .u64 0, .bool false, .bool false] 37) := B103.out.below hb4 B103.out.lt
    have hx103 : x10 < w3.heap.size := B103.out.lt
    have XX : Hid (BA (fun j => w3.heap.size ≤ j) w4 ax mx cx (O.getD [])) := ox.ba
    clear CO ox hb4 B53 B103
    cases O with
    | none =>
      have hcode : ((if (none : Option (List UInt8)).isSome then (0 : Int) else if ns < 16 then 3 else 6) != 0) = true := by
        by_cases h16 : ns < 16 <;> simp [h16]
      obtain ⟨cd, hcd⟩ : ∃ cd : Int, cd = (if (none : Option (List UInt8)).isSome then (0 : Int) else if ns < 16 then 3 else 6) := ⟨_, rfl⟩
      rw [← hcd] at hcode ⊢
      clear hcd XX
      go_wp2_with (first
        | ((with_reducible refine at_ld 37 ?_); (refine ld 37 (.tmp 5) 6 sizeRS _ Tryz.underlying37 rfl x5 0 (rsLL false ba bn bc ca cn' cc sq sr sf) rfl B54.out.whole rfl ?_))
        | ((with_reducible refine at_st 37 ?_); (refine st' 37 (.tmp 10) (.tmp 53) 6 sizeRS x10 0 (rsLL false ba bn bc ca cn' cc sq sr sf) rfl (rsLL_one _ _ _ _ _ _ _ _ _ _) (B104.out.there 0 6 (by simp)) rfl rfl ?_); intro w8 hw8
           have B8 : Hid (Blk w8 x10 (rsLL false ba bn bc ca cn' cc sq sr sf) 37) := by rw [hw8]; exact B104.out.setsW _ rfl
           have K8 : Hid (Kp (fun j => j = x10) w4 w8) := by rw [hw8]; exact Kp.sets w4 x10 _ 0
           clear hw8))
      refine bodyPost_ret (v := .tuple #[.agg ((rsLL false ba bn bc ca cn' cc sq sr sf) : List Value).toArray, .slice none 0 0, .int .i64 6]) (resCTT12 Tryz.results32 _ _ x10 _ rfl (run_loadVar_row _ x10 37 37 _ (0, 0) _ B8.out Tryz.underlying37 rfl sizeRS) _ _ rfl rfl) rfl ?_
      have hb9 : Blk w8 x10 [.bool false, .slice ba bn bc, .slice ca cn' cc, .int .u64 (sq : Int), .bool sr, .bool (sf || ((none : Option (List UInt8)).isSome && !kn.isSome))] 37 := by rw [show (sf || ((none : Option (List UInt8)).isSome && !kn.isSome)) = sf from by simp]; exact B8.out
      refine FIN.out none HOO.out w8 none 0 0 hb9 (Kp.new Q4.out K8.out fun j hj => by omega) (BA.nil _ _) _ ?_
      rw [show (sf || ((none : Option (List UInt8)).isSome && !kn.isSome)) = sf from by simp]
      rfl
    | some tx =>
      simp only [Option.isSome_some, if_true]
      have B54c : w4.cell? ⟨x5, 5, none⟩ = some (.bool sf) := B54.out.cell 5
      have l54 := B54.out.lt
      obtain ⟨kb, hkb⟩ : ∃ kb, kb = kn.isSome := ⟨_, rfl⟩
      have HKB : Hid (kb = kn.isSome) := hkb
      rw [← hkb]
      clear hkb
      have e0 : w4.cell? ⟨x5, 0, none⟩ = some (.bool false) := B54.out.cell 0
      have e1 : w4.cell? ⟨x5, 1, none⟩ = some (.slice ba bn bc) := B54.out.cell 1
      have e2 : w4.cell? ⟨x5, 2, none⟩ = some (.slice ca cn' cc) := B54.out.cell 2
      have e3 : w4.cell? ⟨x5, 3, none⟩ = some (.int .u64 (sq : Int)) := B54.out.cell 3
      have e4 : w4.cell? ⟨x5, 4, none⟩ = some (.bool sr) := B54.out.cell 4
      obtain ⟨fg, hfg⟩ : ∃ fg, fg = (sf || !kb) := ⟨_, rfl⟩
      have HFG : Hid (fg = (sf || !kb)) := hfg
      clear hfg
      cases sf with
      | true =>
        go_upto_region 13 with fail
        have q5 : Below w4.heap.size w4 (w4.alloc (.cells #[.bool false, .slice ba bn bc, .slice ca cn' cc, .int .u64 (sq : Int), .bool sr, .bool true] 37)) := below_alloc w4 _
        have B17 : Blk (w4.alloc (.cells #[.bool false, .slice ba bn bc, .slice ca cn' cc, .int .u64 (sq : Int), .bool sr, .bool true] 37)) w4.heap.size [.bool false, .slice ba bn bc, .slice ca cn' cc, .int .u64 (sq : Int), .bool sr, .bool true] 37 := Blk.new w4 _ _
        obtain ⟨x17, hx17⟩ : ∃ x, x = w4.heap.size := ⟨_, rfl⟩
        rw [← hx17] at B17 ⊢
        have hx1017 : x10 < x17 := by have := B104.out.lt; omega
        clear hx17
        generalize (w4.alloc (.cells #[.bool false, .slice ba bn bc, .slice ca cn' cc, .int .u64 (sq : Int), .bool sr, .bool true] 37)) = w5 at *
        have B105 := B104.out.below q5 B104.out.lt
        have Q5 : Hid (Below w.heap.size w w5) := Q4.out.trans (q5.mono Q4.out.size)
        have X5 : Hid (BA (fun j => w3.heap.size ≤ j) w5 ax mx cx tx) := XX.out.below' q5
        clear e0 e1 e2 e3 e4 B54c l54
        go_wp2_with (first
          | ((with_reducible refine at_ld 37 ?_); (refine ld 37 (.tmp 17) 6 sizeRS _ Tryz.underlying37 rfl x17 0 (rsLL false ba bn bc ca cn' cc sq sr true) rfl B17.whole rfl ?_))
          | ((with_reducible refine at_st 37 ?_); (refine st' 37 (.tmp 10) (.tmp 62) 6 sizeRS x10 0 (rsLL false ba bn bc ca cn' cc sq sr true) rfl (rsLL_one _ _ _ _ _ _ _ _ _ _) (B105.there 0 6 (by simp)) rfl rfl ?_); intro w8 hw8
             have B8 : Hid (Blk w8 x10 (rsLL false ba bn bc ca cn' cc sq sr true) 37) := by rw [hw8]; exact B105.setsW _ rfl
             have K8 : Hid (Kp (fun j => j = x10) w5 w8) := by rw [hw8]; exact Kp.sets w5 x10 _ 0
             clear hw8))
        refine bodyPost_ret (v := .tuple #[.agg (rsLL false ba bn bc ca cn' cc sq sr true).toArray, .slice ax mx cx, .int .i64 0]) (resCTT12 Tryz.results32 _ _ x10 _ rfl (run_loadVar_row _ x10 37 37 _ (0, 0) _ B8.out Tryz.underlying37 rfl sizeRS) _ _ rfl rfl) rfl ?_
        have hvv : (true || ((some tx).isSome && !kn.isSome)) = true := by rw [← HKB.out]; simp
        refine FIN.out (some tx) HOO.out w8 ax mx cx (by rw [hvv]; exact B8.out) (Kp.new Q5.out K8.out fun j hj => by omega) ((X5.out.kp K8.out fun j hj e => by omega).mono' fun j _ hj => HAA.out j (by have := Q3.size; omega)) _ ?_
        rw [hvv]
        rfl
      | false =>
        cases kb with
        | true =>
          go_upto_region 13 with fail
          have q5 : Below w4.heap.size w4 (w4.alloc (.cells #[.bool false, .slice ba bn bc, .slice ca cn' cc, .int .u64 (sq : Int), .bool sr, .bool false] 37)) := below_alloc w4 _
          have B17 : Blk (w4.alloc (.cells #[.bool false, .slice ba bn bc, .slice ca cn' cc, .int .u64 (sq : Int), .bool sr, .bool false] 37)) w4.heap.size [.bool false, .slice ba bn bc, .slice ca cn' cc, .int .u64 (sq : Int), .bool sr, .bool false] 37 := Blk.new w4 _ _
          obtain ⟨x17, hx17⟩ : ∃ x, x = w4.heap.size := ⟨_, rfl⟩
          rw [← hx17] at B17 ⊢
          have hx1017 : x10 < x17 := by have := B104.out.lt; omega
          clear hx17
          generalize (w4.alloc (.cells #[.bool false, .slice ba bn bc, .slice ca cn' cc, .int .u64 (sq : Int), .bool sr, .bool false] 37)) = w5 at *
          have B105 := B104.out.below q5 B104.out.lt
          have Q5 : Hid (Below w.heap.size w w5) := Q4.out.trans (q5.mono Q4.out.size)
          have X5 : Hid (BA (fun j => w3.heap.size ≤ j) w5 ax mx cx tx) := XX.out.below' q5
          clear e0 e1 e2 e3 e4 B54c l54
          go_wp2_with (first
            | ((with_reducible refine at_ld 37 ?_); (refine ld 37 (.tmp 17) 6 sizeRS _ Tryz.underlying37 rfl x17 0 (rsLL false ba bn bc ca cn' cc sq sr false) rfl B17.whole rfl ?_))
            | ((with_reducible refine at_st 37 ?_); (refine st' 37 (.tmp 10) (.tmp 62) 6 sizeRS x10 0 (rsLL false ba bn bc ca cn' cc sq sr false) rfl (rsLL_one _ _ _ _ _ _ _ _ _ _) (B105.there 0 6 (by simp)) rfl rfl ?_); intro w8 hw8
               have B8 : Hid (Blk w8 x10 (rsLL false ba bn bc ca cn' cc sq sr false) 37) := by rw [hw8]; exact B105.setsW _ rfl
               have K8 : Hid (Kp (fun j => j = x10) w5 w8) := by rw [hw8]; exact Kp.sets w5 x10 _ 0
               clear hw8))
          refine bodyPost_ret (v := .tuple #[.agg (rsLL false ba bn bc ca cn' cc sq sr false).toArray, .slice ax mx cx, .int .i64 0]) (resCTT12 Tryz.results32 _ _ x10 _ rfl (run_loadVar_row _ x10 37 37 _ (0, 0) _ B8.out Tryz.underlying37 rfl sizeRS) _ _ rfl rfl) rfl ?_
          have hvv : (false || ((some tx).isSome && !kn.isSome)) = false := by rw [← HKB.out]; simp
          refine FIN.out (some tx) HOO.out w8 ax mx cx (by rw [hvv]; exact B8.out) (Kp.new Q5.out K8.out fun j hj => by omega) ((X5.out.kp K8.out fun j hj e => by omega).mono' fun j _ hj => HAA.out j (by have := Q3.size; omega)) _ ?_
          rw [hvv]
          rfl
        | false =>
          go_upto_region 13 with fail
          have q5 : Below w4.heap.size w4 (w4.alloc (.cells #[.bool false, .slice ba bn bc, .slice ca cn' cc, .int .u64 (sq : Int), .bool sr, .bool true] 37)) := below_alloc w4 _
          have B17 : Blk (w4.alloc (.cells #[.bool false, .slice ba bn bc, .slice ca cn' cc, .int .u64 (sq : Int), .bool sr, .bool true] 37)) w4.heap.size [.bool false, .slice ba bn bc, .slice ca cn' cc, .int .u64 (sq : Int), .bool sr, .bool true] 37 := Blk.new w4 _ _
          obtain ⟨x17, hx17⟩ : ∃ x, x = w4.heap.size := ⟨_, rfl⟩
          rw [← hx17] at B17 ⊢
          have hx1017 : x10 < x17 := by have := B104.out.lt; omega
          clear hx17
          generalize (w4.alloc (.cells #[.bool false, .slice ba bn bc, .slice ca cn' cc, .int .u64 (sq : Int), .bool sr, .bool true] 37)) = w5 at *
          have B105 := B104.out.below q5 B104.out.lt
          have Q5 : Hid (Below w.heap.size w w5) := Q4.out.trans (q5.mono Q4.out.size)
          have X5 : Hid (BA (fun j => w3.heap.size ≤ j) w5 ax mx cx tx) := XX.out.below' q5
          clear e0 e1 e2 e3 e4 B54c l54
          go_wp2_with (first
            | ((with_reducible refine at_ld 37 ?_); (refine ld 37 (.tmp 17) 6 sizeRS _ Tryz.underlying37 rfl x17 0 (rsLL false ba bn bc ca cn' cc sq sr true) rfl B17.whole rfl ?_))
            | ((with_reducible refine at_st 37 ?_); (refine st' 37 (.tmp 10) (.tmp 62) 6 sizeRS x10 0 (rsLL false ba bn bc ca cn' cc sq sr true) rfl (rsLL_one _ _ _ _ _ _ _ _ _ _) (B105.there 0 6 (by simp)) rfl rfl ?_); intro w8 hw8
               have B8 : Hid (Blk w8 x10 (rsLL false ba bn bc ca cn' cc sq sr true) 37) := by rw [hw8]; exact B105.setsW _ rfl
               have K8 : Hid (Kp (fun j => j = x10) w5 w8) := by rw [hw8]; exact Kp.sets w5 x10 _ 0
               clear hw8))
          refine bodyPost_ret (v := .tuple #[.agg (rsLL false ba bn bc ca cn' cc sq sr true).toArray, .slice ax mx cx, .int .i64 0]) (resCTT12 Tryz.results32 _ _ x10 _ rfl (run_loadVar_row _ x10 37 37 _ (0, 0) _ B8.out Tryz.underlying37 rfl sizeRS) _ _ rfl rfl) rfl ?_
          have hvv : (false || ((some tx).isSome && !kn.isSome)) = true := by rw [← HKB.out]; simp
          refine FIN.out (some tx) HOO.out w8 ax mx cx (by rw [hvv]; exact B8.out) (Kp.new Q5.out K8.out fun j hj => by omega) ((X5.out.kp K8.out fun j hj e => by omega).mono' fun j _ hj => HAA.out j (by have := Q3.size; omega)) _ ?_
          rw [hvv]
          rfl

end Go.Proofs.YtfknplcnfpincaaGreat
