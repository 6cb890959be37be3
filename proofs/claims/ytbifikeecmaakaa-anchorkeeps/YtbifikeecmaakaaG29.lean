/-
  3 texts in one. No statement of the seat is proved here.
-/
import Derived.Test.YtbifikeecmaakaaG28

/-
  The smoke of layer 14's statements: it answers true. No condition.
-/
namespace Go.Proofs.Ytbifikeecmaakaa
open Go.RowKit

def z32 : List UInt8 := List.replicate 32 0
def wA : AncS := ⟨0, 0, 0, -1, 0, 0, z32, []⟩
def wK1 : KepS := (kep0.save wA).1
def wK2 : KepS := wK1.give.1
def wK3 : KepS := (wK2.commit 1 3 2).1
def wK4 : KepS := wK3.clean.1
theorem wE1 : (kep0.save wA).2 = 0 ∧ wK1.last = ⟨1, 0, 0, -1, 0, 0, z32, []⟩ ∧ wK1.c.p.live ∧ wK1.c.fit 1 := by
  have hl : kep0.c.p.live := ⟨by show (-1 : Int) < 0; omega, rfl⟩
  obtain ⟨h1, h2, h3⟩ := save_live hl wA
  have hc : chkA (nextA kep0 wA) = 0 := by decide +kernel
  exact ⟨h2.2 hc, h3 hc, h1, KepS.fit_save CelS.fit_new wA⟩
theorem wE2 : wK1.give = (wK2, 1, 0) ∧ wK2.last = ⟨2, 0, 1, -1, 0, 0, z32, []⟩ ∧ wK2.c.p.live ∧ wK2.c.fit 2 := by
  obtain ⟨_, e, hl, hf⟩ := wE1
  obtain ⟨h1, h2, h3⟩ := save_live hl wK1.given
  have hn : nextA wK1 wK1.given = ⟨2, 0, 1, -1, 0, 0, z32, []⟩ := by unfold nextA KepS.given; rw [e]; rfl
  have hc : chkA (nextA wK1 wK1.given) = 0 := by rw [hn]; decide +kernel
  have hg : wK1.give = ((wK1.save wK1.given).1, 1, 0) := by
    unfold KepS.give
    rw [if_neg (by unfold KepS.has; rw [e]; decide), if_neg (by rw [h2.2 hc]; decide), e]
    rfl
  have e2 : wK2 = (wK1.save wK1.given).1 := by unfold wK2; rw [hg]
  rw [e2]
  exact ⟨hg, by rw [h3 hc, hn], h1, KepS.fit_save hf _⟩
theorem wE3 : (wK2.commit 1 3 2).2 = 0 ∧ wK3.last = ⟨3, 1, 1, 3, 1, 2, z32, []⟩ ∧ wK3.c.p.live ∧ wK3.c.fit 3 := by
  obtain ⟨_, e, hl, hf⟩ := wE2
  obtain ⟨h1, h2, h3⟩ := save_live hl (wK2.committed 1 3 2)
  have hn : nextA wK2 (wK2.committed 1 3 2) = ⟨3, 1, 1, 3, 1, 2, z32, []⟩ := by unfold nextA KepS.committed; rw [e]; rfl
  have hc : chkA (nextA wK2 (wK2.committed 1 3 2)) = 0 := by rw [hn]; decide +kernel
  have hg : wK2.commit 1 3 2 = wK2.save (wK2.committed 1 3 2) := by
    unfold KepS.commit
    rw [if_neg (by unfold KepS.has; rw [e]; decide)]
  have e2 : wK3 = (wK2.save (wK2.committed 1 3 2)).1 := by unfold wK3; rw [hg]
  rw [e2, hg]
  exact ⟨h2.2 hc, by rw [h3 hc, hn], h1, KepS.fit_save hf _⟩
theorem wE3b : wK3.commit 1 3 2 = (wK3, 15) := by
  obtain ⟨_, e, _, _⟩ := wE3
  unfold KepS.commit
  rw [if_pos (by rw [e]; decide)]
theorem wE4 : wK3.clean.2 = 0 ∧ wK4.last = ⟨4, 1, 1, 3, 1, 0, z32, []⟩ := by
  obtain ⟨_, e, hl, _⟩ := wE3
  obtain ⟨_, h2, h3⟩ := save_live hl wK3.cleaned
  have hn : nextA wK3 wK3.cleaned = ⟨4, 1, 1, 3, 1, 0, z32, []⟩ := by unfold nextA KepS.cleaned; rw [e]; rfl
  have hc : chkA (nextA wK3 wK3.cleaned) = 0 := by rw [hn]; decide +kernel
  have hg : wK3.clean = wK3.save wK3.cleaned := by
    unfold KepS.clean
    rw [if_neg (by unfold KepS.has; rw [e]; decide)]
  have e2 : wK4 = (wK3.save wK3.cleaned).1 := by unfold wK4; rw [hg]
  rw [e2, hg]
  exact ⟨h2.2 hc, by rw [h3 hc, hn]⟩
def wL : AncS := ⟨4, 1, 1, 3, 1, 0, z32, []⟩
theorem wL_chk : chkA wL = 0 := by decide +kernel

set_option maxRecDepth 100000 in
set_option maxHeartbeats 4000000 in
theorem lWorks14 (w : World) : Calls Try.prog 8 #[] w fun e w' => e = .returned (.bool true) ∧ Below w.heap.size w w' := by
  go_enter Try.func8, Try.ntmps8
  go_wp2_with fail
  refine (oPNew w).mono ?_
  rintro e v1 ⟨r, rfl, hr, hp, hb1⟩
  go_wp2_with fail
  refine (oCNew v1 hp).mono ?_
  rintro e v2 ⟨c, U, F, rfl, hd, hU, hb2⟩
  have S0 : Hid (StaC w v2 c r U F (CelS.new PowS.new)) := StaC.first hb1 hr hd hU hb2
  clear hd hU hb2 hb1 hp hr
  go_wp2_with fail
  refine (oKOpen v2 S0.out.ck.norm CelS.fit_new (by omega) rfl).mono ?_
  rintro e v3 ⟨k, p, q, rfl, hk, kk, hb3⟩
  have S1 : Hid (StaK w v3 k c r kep0 p q) := by
    have := StaK.first S0.out hk kk hb3
    rw [openA_cnew] at this
    exact this
  clear S0 hk kk hb3
  go_wp2_with fail
  refine (oKOpenNil v3).mono ?_
  rintro e v3' ⟨rfl, rfl⟩
  go_wp2_with fail
  refine (oKLast v3 S1.out.kk).mono ?_
  rintro e v4 ⟨p4, q4, rfl, an4, hb4⟩
  rw [show kep0.has = false from rfl]
  have S2 : Hid (StaK w v4 k c r kep0 p q) := S1.out.grow hb4
  clear S1 an4 hb4
  obtain ⟨g5, hg5⟩ : ∃ g5, g5 = v4.heap.size := ⟨_, rfl⟩
  have z5 : Blk (v4.alloc (.cells #[.int .i64 0, .int .i64 0, .int .i64 0, .int .i64 0, .int .i64 0, .int .i64 0, .slice none 0 0, .slice none 0 0] 25)) g5 zanc 25 := Blk.newAt v4 _ _ g5 hg5.symm _ rfl
  have k5 : Below v4.heap.size v4 (v4.alloc (.cells #[.int .i64 0, .int .i64 0, .int .i64 0, .int .i64 0, .int .i64 0, .int .i64 0, .slice none 0 0, .slice none 0 0] 25)) := below_alloc _ _
  unfold anV
  go_wp2_with (first
    | ((with_reducible refine at_st 25 ?_); (refine st' 25 (.tmp 8) (.tmp 46) 8 sizeAn v4.heap.size 0 (anc kep0.last p4 q4) rfl (anc_one _ _ _) (by rw [← hg5]; exact z5.there 0 8 (by simp [zanc])) rfl rfl ?_); intro v5 hv5; have k5' : Below v4.heap.size v4 v5 := (by rw [hv5]; exact below_sets (Nat.le_refl _) _ k5 0); clear hv5)
    | (at_make; refine wpList_mkn _ rfl _ _ rfl v5.heap.size 32 32 rfl rfl rfl (by omega) (Nat.le_refl _) ?_; intro g6 v6 hg6 hgl6 hown6 hb6))
  have S3 : Hid (StaK w v6 k c r kep0 p q) := (S2.out.grow k5').grow hb6
  have CS : Hid (Calls Try.prog 26 #[.pointer (some ⟨k, 0, none⟩), .agg (anc wA ⟨some ⟨g6, 0, none⟩, 32, 32⟩ t0).toArray] v6 (SaveR v6 k c r kep0 wA)) := oKSave v6 S3.out.kk CelS.fit_new (by omega) (A := fun j => v5.heap.size ≤ j) (a := wA) (p' := ⟨some ⟨g6, 0, none⟩, 32, 32⟩) (q' := t0) ⟨(hown6.b5 (A := fun j => v5.heap.size ≤ j) (fun j hj _ => hj)).ba, Sl.nil _ _ _ _, i64_0, i64_0, i64_0, ⟨by decide, by decide⟩, i64_0, i64_0⟩ (fun j hj hu => by have := (S2.out.grow k5').kk.lt j hu; omega)
  clear S2 k5 k5' z5 hown6 hb6 hg6 hgl6
  refine CS.out.mono ?_
  rintro e v7 ⟨p7, q7, rfl, kk7, kp7⟩
  rw [wE1.1]
  have S4 : Hid (StaK w v7 k c r wK1 p7 q7) := S3.out.after kk7 kp7
  clear S3 CS kk7 kp7
  go_wp2_with fail
  refine (oKGive v7 S4.out.kk wE1.2.2.2 (by omega)).mono ?_
  rintro e v8 ⟨p8, q8, rfl, kk8, kp8⟩
  rw [wE2.1] at kk8 ⊢
  have S5 : Hid (StaK w v8 k c r wK2 p8 q8) := S4.out.after kk8 kp8
  clear S4 kk8 kp8
  go_wp2_with fail
  refine (oKCommit v8 S5.out.kk wE2.2.2.2 (by omega) 1 3 2 ⟨by decide, by decide⟩ ⟨by decide, by decide⟩ ⟨by decide, by decide⟩).mono ?_
  rintro e v9 ⟨p9, q9, rfl, kk9, kp9⟩
  rw [wE3.1]
  have S6 : Hid (StaK w v9 k c r wK3 p9 q9) := S5.out.after kk9 kp9
  clear S5 kk9 kp9
  go_wp2_with fail
  refine (oKCommit v9 S6.out.kk wE3.2.2.2 (by omega) 1 3 2 ⟨by decide, by decide⟩ ⟨by decide, by decide⟩ ⟨by decide, by decide⟩).mono ?_
  rintro e x1 ⟨pa, qa, rfl, kka, kpa⟩
  rw [wE3b] at kka ⊢
  have S7 : Hid (StaK w x1 k c r wK3 pa qa) := S6.out.after kka kpa
  clear S6 kka kpa
  go_wp2_with fail
  refine (oKClean x1 S7.out.kk wE3.2.2.2 (by omega)).mono ?_
  rintro e x2 ⟨pb, qb, rfl, kkb, kpb⟩
  rw [wE4.1]
  have S8 : Hid (StaK w x2 k c r wK4 pb qb) := S7.out.after kkb kpb
  clear S7 kkb kpb
  go_wp2_with fail
  refine (oKLast x2 S8.out.kk).mono ?_
  rintro e x3 ⟨pc, qc, rfl, an3, hb3⟩
  rw [show wK4.has = true from by unfold KepS.has; rw [wE4.2]; rfl, show wK4.last = wL from wE4.2]
  rw [show wK4.last = wL from wE4.2] at an3
  have B3 : Hid (Below w.heap.size w x3) := (S8.out.grow hb3).bel
  clear S8 hb3
  obtain ⟨g, hg⟩ : ∃ g, g = x3.heap.size := ⟨_, rfl⟩
  have zg : Blk (x3.alloc (.cells #[.int .i64 0, .int .i64 0, .int .i64 0, .int .i64 0, .int .i64 0, .int .i64 0, .slice none 0 0, .slice none 0 0] 25)) g zanc 25 := Blk.newAt x3 _ _ g hg.symm _ rfl
  have kg : Below x3.heap.size x3 (x3.alloc (.cells #[.int .i64 0, .int .i64 0, .int .i64 0, .int .i64 0, .int .i64 0, .int .i64 0, .slice none 0 0, .slice none 0 0] 25)) := below_alloc _ _
  unfold anV
  go_wp2_with (first
    | ((with_reducible refine at_st 25 ?_); (refine st' 25 (.tmp 16) (.tmp 68) 8 sizeAn x3.heap.size 0 (anc wL pc qc) rfl (anc_one _ _ _) (by rw [← hg]; exact zg.there 0 8 (by simp [zanc])) rfl rfl ?_); intro x4 hx4; have b4 : Blk x4 g (anc wL pc qc) 25 := (by rw [hx4, ← hg]; exact zg.setsW _ rfl); have k4 : Below x3.heap.size x3 x4 := (by rw [hx4]; exact below_sets (Nat.le_refl _) _ kg 0); clear hx4)
    | ((with_reducible refine at_ld 25 ?_); (refine ld 25 (.tmp 16) 8 sizeAn _ Try.underlying25 rfl x3.heap.size 0 (anc wL pc qc) rfl (by rw [← hg]; exact b4.whole) rfl ?_)))
  rw [← hg]
  have an4 := an3.below k4
  have B4 : Hid (Below w.heap.size w x4) := B3.out.trans (k4.mono B3.out.size)
  clear an3 k4 zg kg hg B3
  refine (oPutA x4 an4).mono ?_
  rintro e x5 ⟨s5, m5, c5, rfl, ow5, hb5⟩
  rw [wL_chk]
  rw [wL_chk, if_pos rfl] at ow5
  have an5 := an4.below hb5
  have b5 := b4.below hb5 b4.lt
  have B5 : Hid (Below w.heap.size w x5) := B4.out.trans (hb5.mono B4.out.size)
  have hm5 : m5 ≤ 100000 := by have := ow5.toBs.len; have := ancL_le wL_chk; omega
  clear an4 b4 B4 hb5
  go_wp2_with fail
  refine (oGetA x5 ow5.toBs hm5).mono ?_
  rintro e x6 ⟨p6, q6, rfl, an6, hb6⟩
  have hgt : getA (ancL wL) = (wL, 0) := by have := getA_back wL_chk []; rwa [List.append_nil] at this
  rw [hgt] at an6 ⊢
  have an6x := an5.below hb6
  have b6 := b5.below hb6 b5.lt
  have B6 : Hid (Below w.heap.size w x6) := B5.out.trans (hb6.mono B5.out.size)
  clear an5 b5 B5 hb6 ow5 hgt hm5
  dsimp only at an6
  dsimp only
  obtain ⟨gy, hgy⟩ : ∃ gy, gy = x6.heap.size := ⟨_, rfl⟩
  have zy : Blk (x6.alloc (.cells #[.int .i64 0, .int .i64 0, .int .i64 0, .int .i64 0, .int .i64 0, .int .i64 0, .slice none 0 0, .slice none 0 0] 25)) gy zanc 25 := Blk.newAt x6 _ _ gy hgy.symm _ rfl
  have ky : Below x6.heap.size x6 (x6.alloc (.cells #[.int .i64 0, .int .i64 0, .int .i64 0, .int .i64 0, .int .i64 0, .int .i64 0, .slice none 0 0, .slice none 0 0] 25)) := below_alloc _ _
  unfold anV
  go_wp2_with ((with_reducible refine at_st 25 ?_); (refine st' 25 (.tmp 20) (.tmp 78) 8 sizeAn x6.heap.size 0 (anc wL p6 q6) rfl (anc_one _ _ _) (by rw [← hgy]; exact zy.there 0 8 (by simp [zanc])) rfl rfl ?_); intro x7 hx7; have b7 : Blk x7 gy (anc wL p6 q6) 25 := (by rw [hx7, ← hgy]; exact zy.setsW _ rfl); have k7 : Below x6.heap.size x6 x7 := (by rw [hx7]; exact below_sets (Nat.le_refl _) _ ky 0); clear hx7; have bg7 := b6.below k7 b6.lt)
  rw [← hgy]
  have E3 : ∀ u, Grows x7 u → u.cell? ⟨g, 3, none⟩ = some (.int .i64 3) := fun u h => (bg7.below h bg7.lt).cell 3
  have E0 : ∀ u, Grows x7 u → u.cell? ⟨g, 0, none⟩ = some (.int .i64 4) := fun u h => (bg7.below h bg7.lt).cell 0
  have E5 : ∀ u, Grows x7 u → u.cell? ⟨g, 5, none⟩ = some (.int .i64 0) := fun u h => (bg7.below h bg7.lt).cell 5
  have AX7 : Hid (Anc (fun _ => True) x7 wL pc qc) := an6x.below k7
  have AY7 : Hid (Anc (fun j => x5.heap.size ≤ j) x7 wL p6 q6) := an6.below k7
  have CSa : Hid (∀ u, Grows x7 u → Calls Try.prog 17 #[.agg (anc wL pc qc).toArray, .agg (anc wL p6 q6).toArray] u fun e w' => e = .returned (.bool true) ∧ Below u.heap.size u w') := fun u h => by
    have := oSameA u (AX7.out.below h) (AY7.out.below h)
    rw [sameA_refl] at this
    exact this
  have CCh : Hid (∀ u, Grows x7 u → Calls Try.prog 14 #[.agg (anc wL pc qc).toArray] u fun e w' => e = .returned (.int .i64 0) ∧ Below u.heap.size u w') := fun u h => by
    have := oCheckA u (AX7.out.below h)
    rw [wL_chk] at this
    exact this
  have CCp : Hid (∀ u, Grows x7 u → Calls Try.prog 18 #[.agg (anc wL pc qc).toArray] u fun e w' => ∃ p' q', e = .returned (anV wL p' q') ∧ Anc (fun j => True ∨ u.heap.size ≤ j) w' wL p' q' ∧ Below u.heap.size u w') := fun u h => oCopyA u (AX7.out.below h) (by rw [← AX7.out.ml]; decide) (by rw [← AX7.out.kl]; decide) (fun x hx => by cases hx)
  have B7 : Hid (Below w.heap.size w x7) := B6.out.trans (k7.mono B6.out.size)
  clear an6 an6x B6 zy ky k7 b6 hgy
  refine regionG (S := Grows x7) (by kernel_rfl) (Below.refl _ x7).drew ?_
  refine takeG 0 (some 80) (.int .i64 0) rfl rfl (by kernel_rfl) (by kernel_rfl) (by kernel_rfl) (fun _ _ _ h => h) (ans_plain (by rfl) (fun w _ => rfl)) ?_
  simp only [Act.put, List.setIfInBounds_toArray, List.set_cons_zero, List.set_cons_succ]
  refine takeG 1 (some 81) (.bool true) rfl rfl (by kernel_rfl) (by kernel_rfl) (by kernel_rfl) (fun _ _ _ h => h) (ans_plain (by rfl) (fun w _ => by unfold execOp; go_simp)) ?_
  simp only [Act.put, List.setIfInBounds_toArray, List.set_cons_zero, List.set_cons_succ]
  refine takeG 2 (some 82) (.bool true) rfl rfl (by kernel_rfl) (by kernel_rfl) (by kernel_rfl) (fun _ _ _ h => h) (ans_plain (by rfl) (fun w _ => rfl)) ?_
  simp only [Act.put, List.setIfInBounds_toArray, List.set_cons_zero, List.set_cons_succ]
  refine takeG 3 (some 83) (.int .i64 1) rfl rfl (by kernel_rfl) (by kernel_rfl) (by kernel_rfl) (fun _ _ _ h => h) (ans_plain (by rfl) (fun w _ => rfl)) ?_
  simp only [Act.put, List.setIfInBounds_toArray, List.set_cons_zero, List.set_cons_succ]
  refine takeG 4 (some 84) (.bool true) rfl rfl (by kernel_rfl) (by kernel_rfl) (by kernel_rfl) (fun _ _ _ h => h) (ans_plain (by rfl) (fun w _ => by unfold execOp; go_simp)) ?_
  simp only [Act.put, List.setIfInBounds_toArray, List.set_cons_zero, List.set_cons_succ]
  refine takeG 5 (some 85) (.bool true) rfl rfl (by kernel_rfl) (by kernel_rfl) (by kernel_rfl) (fun _ _ _ h => h) (ans_plain (by rfl) (fun w _ => by unfold execOp; go_simp)) ?_
  simp only [Act.put, List.setIfInBounds_toArray, List.set_cons_zero, List.set_cons_succ]
  refine takeG 6 (some 86) (.bool true) rfl rfl (by kernel_rfl) (by kernel_rfl) (by kernel_rfl) (fun _ _ _ h => h) (ans_plain (by rfl) (fun w _ => rfl)) ?_
  simp only [Act.put, List.setIfInBounds_toArray, List.set_cons_zero, List.set_cons_succ]
  refine takeG 7 (some 87) (.bool false) rfl rfl (by kernel_rfl) (by kernel_rfl) (by kernel_rfl) (fun _ _ _ h => h) (ans_plain (by rfl) (fun w _ => rfl)) ?_
  simp only [Act.put, List.setIfInBounds_toArray, List.set_cons_zero, List.set_cons_succ]
  refine takeG 8 (some 88) (.bool true) rfl rfl (by kernel_rfl) (by kernel_rfl) (by kernel_rfl) (fun _ _ _ h => h) (ans_plain (by rfl) (fun w _ => by unfold execOp; go_simp)) ?_
  simp only [Act.put, List.setIfInBounds_toArray, List.set_cons_zero, List.set_cons_succ]
  refine takeG 9 (some 89) (.bool true) rfl rfl (by kernel_rfl) (by kernel_rfl) (by kernel_rfl) (fun _ _ _ h => h) (ans_plain (by rfl) (fun w _ => by unfold execOp; go_simp)) ?_
  simp only [Act.put, List.setIfInBounds_toArray, List.set_cons_zero, List.set_cons_succ]
  refine takeG 10 (some 90) (.bool true) rfl rfl (by kernel_rfl) (by kernel_rfl) (by kernel_rfl) (fun _ _ _ h => h) (ans_plain (by rfl) (fun w _ => rfl)) ?_
  simp only [Act.put, List.setIfInBounds_toArray, List.set_cons_zero, List.set_cons_succ]
  refine takeG 11 (some 91) (.int .i64 0) rfl rfl (by kernel_rfl) (by kernel_rfl) (by kernel_rfl) (fun _ _ _ h => h) (ans_plain (by rfl) (fun w _ => rfl)) ?_
  simp only [Act.put, List.setIfInBounds_toArray, List.set_cons_zero, List.set_cons_succ]
  refine takeG 12 (some 92) (.bool true) rfl rfl (by kernel_rfl) (by kernel_rfl) (by kernel_rfl) (fun _ _ _ h => h) (ans_plain (by rfl) (fun w _ => by unfold execOp; go_simp)) ?_
  simp only [Act.put, List.setIfInBounds_toArray, List.set_cons_zero, List.set_cons_succ]
  refine takeG 13 (some 93) (.bool true) rfl rfl (by kernel_rfl) (by kernel_rfl) (by kernel_rfl) (fun _ _ _ h => h) (ans_plain (by rfl) (fun w _ => by unfold execOp; go_simp)) ?_
  simp only [Act.put, List.setIfInBounds_toArray, List.set_cons_zero, List.set_cons_succ]
  refine takeG 14 (some 94) (.bool true) rfl rfl (by kernel_rfl) (by kernel_rfl) (by kernel_rfl) (fun _ _ _ h => h) (ans_plain (by rfl) (fun w _ => rfl)) ?_
  simp only [Act.put, List.setIfInBounds_toArray, List.set_cons_zero, List.set_cons_succ]
  refine takeG 15 (some 95) (.int .i64 1) rfl rfl (by kernel_rfl) (by kernel_rfl) (by kernel_rfl) (fun _ _ _ h => h) (ans_plain (by rfl) (fun w _ => rfl)) ?_
  simp only [Act.put, List.setIfInBounds_toArray, List.set_cons_zero, List.set_cons_succ]
  refine takeG 16 (some 96) (.bool true) rfl rfl (by kernel_rfl) (by kernel_rfl) (by kernel_rfl) (fun _ _ _ h => h) (ans_plain (by rfl) (fun w _ => by unfold execOp; go_simp)) ?_
  simp only [Act.put, List.setIfInBounds_toArray, List.set_cons_zero, List.set_cons_succ]
  refine takeG 17 (some 97) (.bool true) rfl rfl (by kernel_rfl) (by kernel_rfl) (by kernel_rfl) (fun _ _ _ h => h) (ans_plain (by rfl) (fun w _ => by unfold execOp; go_simp)) ?_
  simp only [Act.put, List.setIfInBounds_toArray, List.set_cons_zero, List.set_cons_succ]
  refine takeG 18 (some 98) (.bool true) rfl rfl (by kernel_rfl) (by kernel_rfl) (by kernel_rfl) (fun _ _ _ h => h) (ans_plain (by rfl) (fun w _ => rfl)) ?_
  simp only [Act.put, List.setIfInBounds_toArray, List.set_cons_zero, List.set_cons_succ]
  refine takeG 19 (some 99) (.int .i64 0) rfl rfl (by kernel_rfl) (by kernel_rfl) (by kernel_rfl) (fun _ _ _ h => h) (ans_plain (by rfl) (fun w _ => rfl)) ?_
  simp only [Act.put, List.setIfInBounds_toArray, List.set_cons_zero, List.set_cons_succ]
  refine takeG 20 (some 100) (.bool true) rfl rfl (by kernel_rfl) (by kernel_rfl) (by kernel_rfl) (fun _ _ _ h => h) (ans_plain (by rfl) (fun w _ => by unfold execOp; go_simp)) ?_
  simp only [Act.put, List.setIfInBounds_toArray, List.set_cons_zero, List.set_cons_succ]
  refine takeG 21 (some 101) (.bool true) rfl rfl (by kernel_rfl) (by kernel_rfl) (by kernel_rfl) (fun _ _ _ h => h) (ans_plain (by rfl) (fun w _ => by unfold execOp; go_simp)) ?_
  simp only [Act.put, List.setIfInBounds_toArray, List.set_cons_zero, List.set_cons_succ]
  refine takeG 22 (some 102) (.bool true) rfl rfl (by kernel_rfl) (by kernel_rfl) (by kernel_rfl) (fun _ _ _ h => h) (ans_plain (by rfl) (fun w _ => rfl)) ?_
  simp only [Act.put, List.setIfInBounds_toArray, List.set_cons_zero, List.set_cons_succ]
  refine takeG 23 (some 103) (.int .i64 0) rfl rfl (by kernel_rfl) (by kernel_rfl) (by kernel_rfl) (fun _ _ _ h => h) (ans_plain (by rfl) (fun w _ => rfl)) ?_
  simp only [Act.put, List.setIfInBounds_toArray, List.set_cons_zero, List.set_cons_succ]
  refine takeG 24 (some 104) (.bool true) rfl rfl (by kernel_rfl) (by kernel_rfl) (by kernel_rfl) (fun _ _ _ h => h) (ans_plain (by rfl) (fun w _ => by unfold execOp; go_simp)) ?_
  simp only [Act.put, List.setIfInBounds_toArray, List.set_cons_zero, List.set_cons_succ]
  refine takeG 25 (some 105) (.bool true) rfl rfl (by kernel_rfl) (by kernel_rfl) (by kernel_rfl) (fun _ _ _ h => h) (ans_plain (by rfl) (fun w _ => by unfold execOp; go_simp)) ?_
  simp only [Act.put, List.setIfInBounds_toArray, List.set_cons_zero, List.set_cons_succ]
  refine takeG 26 (some 106) (.bool true) rfl rfl (by kernel_rfl) (by kernel_rfl) (by kernel_rfl) (fun _ _ _ h => h) (ans_plain (by rfl) (fun w _ => rfl)) ?_
  simp only [Act.put, List.setIfInBounds_toArray, List.set_cons_zero, List.set_cons_succ]
  refine takeG 27 (some 107) (.int .i64 15) rfl rfl (by kernel_rfl) (by kernel_rfl) (by kernel_rfl) (fun _ _ _ h => h) (ans_plain (by rfl) (fun w _ => rfl)) ?_
  simp only [Act.put, List.setIfInBounds_toArray, List.set_cons_zero, List.set_cons_succ]
  refine takeG 28 (some 108) (.bool true) rfl rfl (by kernel_rfl) (by kernel_rfl) (by kernel_rfl) (fun _ _ _ h => h) (ans_plain (by rfl) (fun w _ => by unfold execOp; go_simp)) ?_
  simp only [Act.put, List.setIfInBounds_toArray, List.set_cons_zero, List.set_cons_succ]
  refine takeG 29 (some 109) (.bool true) rfl rfl (by kernel_rfl) (by kernel_rfl) (by kernel_rfl) (fun _ _ _ h => h) (ans_plain (by rfl) (fun w _ => by unfold execOp; go_simp)) ?_
  simp only [Act.put, List.setIfInBounds_toArray, List.set_cons_zero, List.set_cons_succ]
  refine takeG 30 (some 110) (.bool true) rfl rfl (by kernel_rfl) (by kernel_rfl) (by kernel_rfl) (fun _ _ _ h => h) (ans_plain (by rfl) (fun w _ => rfl)) ?_
  simp only [Act.put, List.setIfInBounds_toArray, List.set_cons_zero, List.set_cons_succ]
  refine takeG 31 (some 111) (.int .i64 0) rfl rfl (by kernel_rfl) (by kernel_rfl) (by kernel_rfl) (fun _ _ _ h => h) (ans_plain (by rfl) (fun w _ => rfl)) ?_
  simp only [Act.put, List.setIfInBounds_toArray, List.set_cons_zero, List.set_cons_succ]
  refine takeG 32 (some 112) (.bool true) rfl rfl (by kernel_rfl) (by kernel_rfl) (by kernel_rfl) (fun _ _ _ h => h) (ans_plain (by rfl) (fun w _ => by unfold execOp; go_simp)) ?_
  simp only [Act.put, List.setIfInBounds_toArray, List.set_cons_zero, List.set_cons_succ]
  refine takeG 33 (some 113) (.bool true) rfl rfl (by kernel_rfl) (by kernel_rfl) (by kernel_rfl) (fun _ _ _ h => h) (ans_plain (by rfl) (fun w _ => by unfold execOp; go_simp)) ?_
  simp only [Act.put, List.setIfInBounds_toArray, List.set_cons_zero, List.set_cons_succ]
  refine takeG 34 (some 114) (.bool true) rfl rfl (by kernel_rfl) (by kernel_rfl) (by kernel_rfl) (fun _ _ _ h => h) (ans_plain (by rfl) (fun w _ => rfl)) ?_
  simp only [Act.put, List.setIfInBounds_toArray, List.set_cons_zero, List.set_cons_succ]
  refine takeG 35 (some 115) (.bool true) rfl rfl (by kernel_rfl) (by kernel_rfl) (by kernel_rfl) (fun _ _ _ h => h) (ans_plain (by rfl) (fun w _ => rfl)) ?_
  simp only [Act.put, List.setIfInBounds_toArray, List.set_cons_zero, List.set_cons_succ]
  refine takeG 36 (some 116) (.bool true) rfl rfl (by kernel_rfl) (by kernel_rfl) (by kernel_rfl) (fun _ _ _ h => h) (ans_plain (by rfl) (fun w _ => by unfold execOp; go_simp)) ?_
  simp only [Act.put, List.setIfInBounds_toArray, List.set_cons_zero, List.set_cons_succ]
  refine takeG 37 (some 117) (.bool true) rfl rfl (by kernel_rfl) (by kernel_rfl) (by kernel_rfl) (fun _ _ _ h => h) (ans_plain (by rfl) (fun w _ => rfl)) ?_
  simp only [Act.put, List.setIfInBounds_toArray, List.set_cons_zero, List.set_cons_succ]
  refine takeG 38 (some 118) (.pointer (some ⟨g, 3, none⟩)) rfl rfl (by kernel_rfl) (by kernel_rfl) (by kernel_rfl) (fun _ _ _ h => h) (ans_plain (by rfl) (fun w _ => by unfold execOp; go_simp)) ?_
  simp only [Act.put, List.setIfInBounds_toArray, List.set_cons_zero, List.set_cons_succ]
  refine takeG 39 (some 119) (.int .i64 3) rfl rfl (by kernel_rfl) (by kernel_rfl) (by kernel_rfl) (fun _ _ _ h => h) (ans_plain (by rfl) (fun w h => by have hc := E3 w h; unfold execOp; go_simp)) ?_
  simp only [Act.put, List.setIfInBounds_toArray, List.set_cons_zero, List.set_cons_succ]
  refine takeG 40 (some 120) (.bool true) rfl rfl (by kernel_rfl) (by kernel_rfl) (by kernel_rfl) (fun _ _ _ h => h) (ans_plain (by rfl) (fun w _ => by unfold execOp; go_simp)) ?_
  simp only [Act.put, List.setIfInBounds_toArray, List.set_cons_zero, List.set_cons_succ]
  refine takeG 41 (some 121) (.bool true) rfl rfl (by kernel_rfl) (by kernel_rfl) (by kernel_rfl) (fun _ _ _ h => h) (ans_plain (by rfl) (fun w _ => by unfold execOp; go_simp)) ?_
  simp only [Act.put, List.setIfInBounds_toArray, List.set_cons_zero, List.set_cons_succ]
  refine takeG 42 (some 122) (.bool true) rfl rfl (by kernel_rfl) (by kernel_rfl) (by kernel_rfl) (fun _ _ _ h => h) (ans_plain (by rfl) (fun w _ => rfl)) ?_
  simp only [Act.put, List.setIfInBounds_toArray, List.set_cons_zero, List.set_cons_succ]
  refine takeG 43 (some 123) (.pointer (some ⟨g, 0, none⟩)) rfl rfl (by kernel_rfl) (by kernel_rfl) (by kernel_rfl) (fun _ _ _ h => h) (ans_plain (by rfl) (fun w _ => by unfold execOp; go_simp)) ?_
  simp only [Act.put, List.setIfInBounds_toArray, List.set_cons_zero, List.set_cons_succ]
  refine takeG 44 (some 124) (.int .i64 4) rfl rfl (by kernel_rfl) (by kernel_rfl) (by kernel_rfl) (fun _ _ _ h => h) (ans_plain (by rfl) (fun w h => by have hc := E0 w h; unfold execOp; go_simp)) ?_
  simp only [Act.put, List.setIfInBounds_toArray, List.set_cons_zero, List.set_cons_succ]
  refine takeG 45 (some 125) (.bool true) rfl rfl (by kernel_rfl) (by kernel_rfl) (by kernel_rfl) (fun _ _ _ h => h) (ans_plain (by rfl) (fun w _ => by unfold execOp; go_simp)) ?_
  simp only [Act.put, List.setIfInBounds_toArray, List.set_cons_zero, List.set_cons_succ]
  refine takeG 46 (some 126) (.bool true) rfl rfl (by kernel_rfl) (by kernel_rfl) (by kernel_rfl) (fun _ _ _ h => h) (ans_plain (by rfl) (fun w _ => by unfold execOp; go_simp)) ?_
  simp only [Act.put, List.setIfInBounds_toArray, List.set_cons_zero, List.set_cons_succ]
  refine takeG 47 (some 127) (.bool true) rfl rfl (by kernel_rfl) (by kernel_rfl) (by kernel_rfl) (fun _ _ _ h => h) (ans_plain (by rfl) (fun w _ => rfl)) ?_
  simp only [Act.put, List.setIfInBounds_toArray, List.set_cons_zero, List.set_cons_succ]
  refine takeG 48 (some 128) (.pointer (some ⟨g, 5, none⟩)) rfl rfl (by kernel_rfl) (by kernel_rfl) (by kernel_rfl) (fun _ _ _ h => h) (ans_plain (by rfl) (fun w _ => by unfold execOp; go_simp)) ?_
  simp only [Act.put, List.setIfInBounds_toArray, List.set_cons_zero, List.set_cons_succ]
  refine takeG 49 (some 129) (.int .i64 0) rfl rfl (by kernel_rfl) (by kernel_rfl) (by kernel_rfl) (fun _ _ _ h => h) (ans_plain (by rfl) (fun w h => by have hc := E5 w h; unfold execOp; go_simp)) ?_
  simp only [Act.put, List.setIfInBounds_toArray, List.set_cons_zero, List.set_cons_succ]
  refine takeG 50 (some 130) (.bool true) rfl rfl (by kernel_rfl) (by kernel_rfl) (by kernel_rfl) (fun _ _ _ h => h) (ans_plain (by rfl) (fun w _ => by unfold execOp; go_simp)) ?_
  simp only [Act.put, List.setIfInBounds_toArray, List.set_cons_zero, List.set_cons_succ]
  refine takeG 51 (some 131) (.bool true) rfl rfl (by kernel_rfl) (by kernel_rfl) (by kernel_rfl) (fun _ _ _ h => h) (ans_plain (by rfl) (fun w _ => by unfold execOp; go_simp)) ?_
  simp only [Act.put, List.setIfInBounds_toArray, List.set_cons_zero, List.set_cons_succ]
  refine takeG 52 (some 132) (.bool true) rfl rfl (by kernel_rfl) (by kernel_rfl) (by kernel_rfl) (fun _ _ _ h => h) (ans_plain (by rfl) (fun w _ => rfl)) ?_
  simp only [Act.put, List.setIfInBounds_toArray, List.set_cons_zero, List.set_cons_succ]
  refine takeG 53 (some 133) (.int .i64 0) rfl rfl (by kernel_rfl) (by kernel_rfl) (by kernel_rfl) (fun _ _ _ h => h) (ans_plain (by rfl) (fun w _ => rfl)) ?_
  simp only [Act.put, List.setIfInBounds_toArray, List.set_cons_zero, List.set_cons_succ]
  refine takeG 54 (some 134) (.bool true) rfl rfl (by kernel_rfl) (by kernel_rfl) (by kernel_rfl) (fun _ _ _ h => h) (ans_plain (by rfl) (fun w _ => by unfold execOp; go_simp)) ?_
  simp only [Act.put, List.setIfInBounds_toArray, List.set_cons_zero, List.set_cons_succ]
  refine takeG 55 (some 135) (.bool true) rfl rfl (by kernel_rfl) (by kernel_rfl) (by kernel_rfl) (fun _ _ _ h => h) (ans_plain (by rfl) (fun w _ => by unfold execOp; go_simp)) ?_
  simp only [Act.put, List.setIfInBounds_toArray, List.set_cons_zero, List.set_cons_succ]
  refine takeG 56 (some 136) (.bool true) rfl rfl (by kernel_rfl) (by kernel_rfl) (by kernel_rfl) (fun _ _ _ h => h) (ans_plain (by rfl) (fun w _ => rfl)) ?_
  simp only [Act.put, List.setIfInBounds_toArray, List.set_cons_zero, List.set_cons_succ]
  refine takeG 57 (some 137) (.int .i64 0) rfl rfl (by kernel_rfl) (by kernel_rfl) (by kernel_rfl) (fun _ _ _ h => h) (ans_plain (by rfl) (fun w _ => rfl)) ?_
  simp only [Act.put, List.setIfInBounds_toArray, List.set_cons_zero, List.set_cons_succ]
  refine takeG 58 (some 138) (.bool true) rfl rfl (by kernel_rfl) (by kernel_rfl) (by kernel_rfl) (fun _ _ _ h => h) (ans_plain (by rfl) (fun w _ => by unfold execOp; go_simp)) ?_
  simp only [Act.put, List.setIfInBounds_toArray, List.set_cons_zero, List.set_cons_succ]
  refine takeG 59 (some 139) (.bool true) rfl rfl (by kernel_rfl) (by kernel_rfl) (by kernel_rfl) (fun _ _ _ h => h) (ans_plain (by rfl) (fun w _ => by unfold execOp; go_simp)) ?_
  simp only [Act.put, List.setIfInBounds_toArray, List.set_cons_zero, List.set_cons_succ]
  refine takeG 60 (some 140) (.bool true) rfl rfl (by kernel_rfl) (by kernel_rfl) (by kernel_rfl) (fun _ _ _ h => h) (ans_plain (by rfl) (fun w _ => rfl)) ?_
  simp only [Act.put, List.setIfInBounds_toArray, List.set_cons_zero, List.set_cons_succ]
  refine takeG 61 (some 141) (.agg (anc wL pc qc).toArray) rfl rfl (by kernel_rfl) (by kernel_rfl) (by kernel_rfl) (fun _ _ _ h => h) (ans_row 25 (.tmp 16) _ 8 rfl (by rfl) g 0 rfl (anc wL pc qc) (fun u hu => (bg7.below hu bg7.lt).whole) Try.underlying25 rfl rfl sizeAn) ?_
  simp only [Act.put, List.setIfInBounds_toArray, List.set_cons_zero, List.set_cons_succ]
  refine takeG 62 (some 142) (.agg (anc wL p6 q6).toArray) rfl rfl (by kernel_rfl) (by kernel_rfl) (by kernel_rfl) (fun _ _ _ h => h) (ans_row 25 (.tmp 20) _ 8 rfl (by rfl) gy 0 rfl (anc wL p6 q6) (fun u hu => (b7.below hu b7.lt).whole) Try.underlying25 rfl rfl sizeAn) ?_
  simp only [Act.put, List.setIfInBounds_toArray, List.set_cons_zero, List.set_cons_succ]
  refine takeG 63 (some 143) (.bool true) rfl rfl (by kernel_rfl) (by kernel_rfl) (by kernel_rfl) (fun _ _ _ h => h) (ans_fn 17 #[.tmp 141, .tmp 142] #[25, 25] #[.agg (anc wL pc qc).toArray, .agg (anc wL p6 q6).toArray] rfl (by rfl) (by rfl) Try.call17 fun u h => CSa.out u h) ?_
  simp only [Act.put, List.setIfInBounds_toArray, List.set_cons_zero, List.set_cons_succ]
  refine takeG 64 (some 144) (.bool true) rfl rfl (by kernel_rfl) (by kernel_rfl) (by kernel_rfl) (fun _ _ _ h => h) (ans_plain (by rfl) (fun w _ => by unfold execOp; go_simp)) ?_
  simp only [Act.put, List.setIfInBounds_toArray, List.set_cons_zero, List.set_cons_succ]
  refine takeG 65 (some 145) (.bool true) rfl rfl (by kernel_rfl) (by kernel_rfl) (by kernel_rfl) (fun _ _ _ h => h) (ans_plain (by rfl) (fun w _ => rfl)) ?_
  simp only [Act.put, List.setIfInBounds_toArray, List.set_cons_zero, List.set_cons_succ]
  refine takeG 66 (some 146) (.agg (anc wL pc qc).toArray) rfl rfl (by kernel_rfl) (by kernel_rfl) (by kernel_rfl) (fun _ _ _ h => h) (ans_row 25 (.tmp 16) _ 8 rfl (by rfl) g 0 rfl (anc wL pc qc) (fun u hu => (bg7.below hu bg7.lt).whole) Try.underlying25 rfl rfl sizeAn) ?_
  simp only [Act.put, List.setIfInBounds_toArray, List.set_cons_zero, List.set_cons_succ]
  refine takeG 67 (some 147) (.int .i64 0) rfl rfl (by kernel_rfl) (by kernel_rfl) (by kernel_rfl) (fun _ _ _ h => h) (ans_fn 14 #[.tmp 146] #[25] #[.agg (anc wL pc qc).toArray] rfl (by rfl) (by rfl) Try.call14 fun u h => CCh.out u h) ?_
  simp only [Act.put, List.setIfInBounds_toArray, List.set_cons_zero, List.set_cons_succ]
  refine takeG 68 (some 148) (.bool true) rfl rfl (by kernel_rfl) (by kernel_rfl) (by kernel_rfl) (fun _ _ _ h => h) (ans_plain (by rfl) (fun w _ => by unfold execOp; go_simp)) ?_
  simp only [Act.put, List.setIfInBounds_toArray, List.set_cons_zero, List.set_cons_succ]
  refine takeG 69 (some 149) (.bool true) rfl rfl (by kernel_rfl) (by kernel_rfl) (by kernel_rfl) (fun _ _ _ h => h) (ans_plain (by rfl) (fun w _ => by unfold execOp; go_simp)) ?_
  simp only [Act.put, List.setIfInBounds_toArray, List.set_cons_zero, List.set_cons_succ]
  refine takeG 70 (some 150) (.bool true) rfl rfl (by kernel_rfl) (by kernel_rfl) (by kernel_rfl) (fun _ _ _ h => h) (ans_plain (by rfl) (fun w _ => rfl)) ?_
  simp only [Act.put, List.setIfInBounds_toArray, List.set_cons_zero, List.set_cons_succ]
  refine takeG 71 (some 151) (.agg (anc wL pc qc).toArray) rfl rfl (by kernel_rfl) (by kernel_rfl) (by kernel_rfl) (fun _ _ _ h => h) (ans_row 25 (.tmp 16) _ 8 rfl (by rfl) g 0 rfl (anc wL pc qc) (fun u hu => (bg7.below hu bg7.lt).whole) Try.underlying25 rfl rfl sizeAn) ?_
  simp only [Act.put, List.setIfInBounds_toArray, List.set_cons_zero, List.set_cons_succ]
  refine takeG 73 (some 153) (.agg (anc wL pc qc).toArray) rfl rfl (by kernel_rfl) (by kernel_rfl) (by kernel_rfl) (fun _ _ _ h => h) (ans_row 25 (.tmp 16) _ 8 rfl (by rfl) g 0 rfl (anc wL pc qc) (fun u hu => (bg7.below hu bg7.lt).whole) Try.underlying25 rfl rfl sizeAn) ?_
  simp only [Act.put, List.setIfInBounds_toArray, List.set_cons_zero, List.set_cons_succ]
  refine callG 72 (some 152) 18 #[.tmp 151] #[25] #[.agg (anc wL pc qc).toArray] rfl rfl rfl (by rfl) (by rfl) (by kernel_rfl) Try.call18 fun y1 hg1 hs1 => ?_
  refine (CCp.out y1 hs1).mono ?_
  rintro e y2 ⟨pz, qz, rfl, anz, hbz⟩
  refine ⟨_, rfl, Grows.trans hs1 hbz, ?_⟩
  unfold anV
  simp only [Act.put, List.setIfInBounds_toArray, List.set_cons_zero, List.set_cons_succ]
  refine callG 74 (some 154) 17 #[.tmp 152, .tmp 153] #[25, 25] #[.agg (anc wL pz qz).toArray, .agg (anc wL pc qc).toArray] rfl rfl rfl (by rfl) (by rfl) (by kernel_rfl) Try.call17 fun y3 hg3 hs3 => ?_
  refine (oSameA y3 (anz.below hg3) (AX7.out.below hs3)).mono ?_
  rintro e y4 ⟨rfl, hb4⟩
  rw [sameA_refl]
  refine ⟨_, rfl, Grows.trans hs3 hb4, ?_⟩
  simp only [Act.put, List.setIfInBounds_toArray, List.set_cons_zero, List.set_cons_succ]
  refine takeG 75 (some 155) (.bool true) rfl rfl (by kernel_rfl) (by kernel_rfl) (by kernel_rfl) (fun _ _ _ h => h) (ans_plain (by rfl) (fun w _ => by unfold execOp; go_simp)) ?_
  simp only [Act.put, List.setIfInBounds_toArray, List.set_cons_zero, List.set_cons_succ]
  refine takeG 76 (some 0) (.bool true) rfl rfl (by kernel_rfl) (by kernel_rfl) (by kernel_rfl) (fun _ _ _ h => h) (ans_plain (by rfl) (fun w _ => rfl)) ?_
  simp only [Act.put, List.setIfInBounds_toArray, List.set_cons_zero]
  refine doneG (by kernel_rfl) fun y5 hg5 hs5 => ?_
  have B9 : Hid (Below w.heap.size w y5) := B7.out.trans (Below.mono hs5 B7.out.size)
  clear B7 hg5 hs5 hb4 hg3 hs3 anz hbz hg1 hs1
  go_wp2_with fail
  go_ret
  exact ⟨rfl, B9.out⟩

end Go.Proofs.Ytbifikeecmaakaa

/-
  Layer 14's fourth statement: what stays while epochs are given, committed, cleaned, the power goes and comes ('RiK', plain; 'RiI', in memory); a make that waits for a test. No condition.
-/
namespace Go.Proofs.Ytbifikeecmaakaa
open Go.RowKit

/-- An operation that waits for a test, where the test says yes. -/
theorem wpList_unguard {ops : Array Oper} {rest : List Oper} {o : Oper} {a : Act} {Q : Exit → Act → World → Prop} {w : World} (hw : Region.wanted o (yielded ops a.tmps) = true) (h : wpList Try.prog ops Q ({ o with guard := none } :: rest) a w) : wpList Try.prog ops Q (o :: rest) a w := by
  unfold wpList at h ⊢
  rw [if_pos hw]
  rw [if_pos (by rfl)] at h
  obtain ⟨d, op, ty, ps, af, gd⟩ := o
  exact h
theorem wpList_mkg {ops : Array Oper} {rest : List Oper} {o : Oper} {a : Act} {Q : Exit → Act → World → Prop} (w : World) (hw : Region.wanted o (yielded ops a.tmps) = true) (l c : Operand)
    (ho : o.op = Op.makeSlice 22 l c) (base n : Nat) (C : Int) (hl : a.eval l = .int .i64 C) (hc : a.eval c = .int .i64 C) (hC : C = n) (hz : n ≤ 2147483647) (hbase : base ≤ w.heap.size)
    (h : ∀ g w', base ≤ g → g < w'.heap.size → Own w' base (.slice (some ⟨g, 0, none⟩) n n) (List.replicate n 0) → Below base w w' → wpList Try.prog ops Q rest (a.put o.dst (.slice (some ⟨g, 0, none⟩) n n)) w') : wpList Try.prog ops Q (o :: rest) a w :=
  wpList_unguard hw (wpList_mkn (o := { o with guard := none }) w rfl l c ho base n C hl hc hC hz hbase h)

/-- Neither what was given nor what counts falls. -/
def RR (x y : AncS) : Prop := x.given ≤ y.given ∧ x.epoch ≤ y.epoch
structure RiK (K : KepS) (L N : Int) : Prop where
  jk : Jk RR K
  ch : chkA K.last = 0
  lg : L ≤ K.last.given
  ce : N ≤ K.last.epoch
theorem RiK.has {K : KepS} {L N : Int} (h : RiK K L N) : K.has = true := by
  have := (chkA_ok h.ch).1.1.1
  exact decide_eq_true (by omega)
theorem save_last (K : KepS) (a : AncS) : (K.save a).1.last = K.last ∧ (K.save a).2 ≠ 0 ∨ (K.save a).1.last = nextA K a ∧ chkA (nextA K a) = 0 ∧ (K.save a).2 = 0 := by
  unfold KepS.save
  split
  · rename_i h
    exact Or.inl ⟨rfl, h⟩
  · rename_i h
    split
    · rename_i h2
      exact Or.inl ⟨rfl, h2⟩
    · exact Or.inr ⟨rfl, Classical.not_not.1 h, rfl⟩
theorem RiK.save {K : KepS} {L N : Int} (h : RiK K L N) (hl : K.c.l.length = 4) (a : AncS) (h1 : K.last.given ≤ a.given) (h2 : K.last.epoch ≤ a.epoch) : RiK (K.save a).1 L N := by
  have hj := h.jk.save hl a (fun _ _ => ⟨h1, h2⟩)
  have h3 := h.lg
  have h4 := h.ce
  rcases save_last K a with ⟨e, _⟩ | ⟨e, hc, _⟩
  · exact ⟨hj, by rw [e]; exact h.ch, by rw [e]; exact h3, by rw [e]; exact h4⟩
  · exact ⟨hj, by rw [e]; exact hc, by rw [e]; show L ≤ a.given; omega, by rw [e]; show N ≤ a.epoch; omega⟩
theorem RiK.give {K : KepS} {L N : Int} (h : RiK K L N) (hl : K.c.l.length = 4) : RiK K.give.1 L N ∧ (K.give.2.2 = 0 → L < K.give.2.1 ∧ RiK K.give.1 K.give.2.1 N) := by
  have hs := h.save hl K.given (by show K.last.given ≤ K.last.given + 1; omega) (Int.le_refl _)
  have h3 := h.lg
  unfold KepS.give
  rw [if_neg (by rw [h.has]; simp)]
  split
  · rename_i h2
    exact ⟨hs, fun e => absurd e h2⟩
  · rename_i h2
    refine ⟨hs, fun _ => ⟨by show L < K.last.given + 1; omega, hs.jk, hs.ch, ?_, hs.ce⟩⟩
    rcases save_last K K.given with ⟨_, e⟩ | ⟨e, _, _⟩
    · exact absurd (Classical.not_not.1 h2) e
    · show K.last.given + 1 ≤ (K.save K.given).1.last.given
      rw [e]
      exact Int.le_refl _
theorem RiK.commit {K : KepS} {L N : Int} (h : RiK K L N) (hl : K.c.l.length = 4) (e r p : Int) : RiK (K.commit e r p).1 L N := by
  unfold KepS.commit
  split
  · exact h
  · rename_i h2
    exact h.save hl _ (Int.le_refl _) (by show K.last.epoch ≤ e; omega)
theorem RiK.clean {K : KepS} {L N : Int} (h : RiK K L N) (hl : K.c.l.length = 4) : RiK K.clean.1 L N := by
  unfold KepS.clean
  split
  · exact h
  · exact h.save hl _ (Int.le_refl _) (Int.le_refl _)
theorem RiK.fuse {K : KepS} {L N : Int} (h : RiK K L N) (n : Int) (d : Bool) : RiK ⟨{ K.c with p := K.c.p.set n d }, K.last⟩ L N := ⟨h.jk.fuse n d, h.ch, h.lg, h.ce⟩
theorem RiK.open {K : KepS} {L N : Int} (h : RiK K L N) (P : PowS) : RiK ⟨{ K.c with p := P }, openA { K.c with p := P }⟩ L N := by
  obtain ⟨hj, ho⟩ := h.jk.open P
  have h3 := h.lg
  have h4 := h.ce
  rcases ho with e | ⟨hc, hr⟩
  · exact ⟨hj, by show chkA (openA _) = 0; rw [e]; exact h.ch, by show L ≤ (openA _).given; rw [e]; exact h3, by show N ≤ (openA _).epoch; rw [e]; exact h4⟩
  · exact ⟨hj, hc, by show L ≤ (openA _).given; have := hr.1; omega, by show N ≤ (openA _).epoch; have := hr.2; omega⟩
theorem RiK.at {K : KepS} {L N : Int} (h : RiK K L N) : RiK K L K.last.epoch := ⟨h.jk, h.ch, h.lg, Int.le_refl _⟩
theorem KepS.fit_give {K : KepS} {m : Nat} (h : K.c.fit m) : K.give.1.c.fit (m + 1) := by
  unfold KepS.give
  split
  · exact h.mono (by omega)
  · split
    · exact KepS.fit_save h _
    · exact KepS.fit_save h _
theorem KepS.fit_commit {K : KepS} {m : Nat} (h : K.c.fit m) (e r p : Int) : (K.commit e r p).1.c.fit (m + 1) := by
  unfold KepS.commit
  split
  · exact h.mono (by omega)
  · exact KepS.fit_save h _
theorem KepS.fit_clean {K : KepS} {m : Nat} (h : K.c.fit m) : K.clean.1.c.fit (m + 1) := by
  unfold KepS.clean
  split
  · exact h.mono (by omega)
  · exact KepS.fit_save h _
theorem RiK_first : RiK wK1 0 0 := by
  obtain ⟨_, e, _, _⟩ := wE1
  have hj : Jk RR wK1 := (Jk_new RR).save rfl wA (fun _ _ => ⟨by decide, by decide⟩)
  exact ⟨hj, by rw [e]; decide +kernel, by rw [e]; decide, by rw [e]; decide⟩

/-- In the loop of the fourth statement. -/
structure RiI (w wr : World) (j k c r : Nat) (K : KepS) (p q : Tri) (L N : Int) : Prop where
  st : StaK w wr k c r K p q
  ri : RiK K L N
  ft : K.c.fit (j + 1)
theorem RiI.grow {w wr w' : World} {j k c r : Nat} {K : KepS} {p q : Tri} {L N : Int} (h : RiI w wr j k c r K p q L N) (hb : Below wr.heap.size wr w') : RiI w w' j k c r K p q L N := ⟨h.st.grow hb, h.ri, h.ft⟩
theorem RiI.more {w wr : World} {j k c r : Nat} {K : KepS} {p q : Tri} {L N : Int} (h : RiI w wr j k c r K p q L N) : RiI w wr (j + 1) k c r K p q L N := ⟨h.st, h.ri, h.ft.mono (by omega)⟩
def zOp14 : List Value := [.int .i64 0, .int .i64 0, .int .i64 0, .int .i64 0, .int .i64 0, .int .i64 0, .int .i64 0, .slice none 0 0, .slice none 0 0, .int .i64 0, .int .i64 0, .int .i64 0, .int .i64 0, .bool false]
theorem sizeO14 : (Try.prog.info? 59).map (·.size) = some 14 := by kernel_rfl

end Go.Proofs.Ytbifikeecmaakaa

/-
  The contract of layer 14's program: Last, and where what it hands back lies. No condition.
-/
namespace Go.Proofs.Ytbifikeecmaakaa
open Go.RowKit

/-- What Last hands back. -/
def LastF (A : Nat → Prop) (w : World) (K : KepS) (e : Ending) (w' : World) : Prop := ∃ p q, e = .returned (.tuple #[anV K.last p q, .bool K.has]) ∧ Anc (fun j => A j ∧ j < w.heap.size ∨ w.heap.size < j) w' K.last p q ∧ Below w.heap.size w w'
set_option maxRecDepth 100000 in
set_option maxHeartbeats 1000000 in
theorem oKLastF (w : World) {k c r : Nat} {K : KepS} {p q : Tri} (h : Kk w k c r K p q) {A : Nat → Prop} (hA : Anc A w K.last p q) : Calls Try.prog 37 #[.pointer (some ⟨k, 0, none⟩)] w (LastF A w K) := by
  obtain ⟨W0, hW0⟩ : ∃ W0, W0 = w.alloc (.cells #[.int .i64 0, .int .i64 0, .int .i64 0, .int .i64 0, .int .i64 0, .int .i64 0, .slice none 0 0, .slice none 0 0] 25) := ⟨_, rfl⟩
  have z0 : Blk W0 w.heap.size zanc 25 := by rw [hW0]; exact Blk.newAt w _ _ w.heap.size rfl _ rfl
  have k0 : Below w.heap.size w W0 := by rw [hW0]; exact below_alloc _ _
  have h0 := h.grow k0
  have rg : W0.rangeAt k 1 (anc K.last p q) := h0.b.range 1 _ (fun j v hj => by rw [Nat.add_comm, List.getElem?_cons_succ]; exact hj)
  have hl := h0.b.lt
  obtain ⟨sm1, sm2, sm3⟩ := h.ok.small
  have s0 : W0.heap.size = w.heap.size + 1 := by rw [hW0]; simp
  have anA : Anc (fun j => A j ∧ j < w.heap.size) W0 K.last p q := (hA.mono fun j hj ha => ⟨ha, hj⟩).below k0
  have CC : Hid (Calls Try.prog 18 #[.agg (anc K.last p q).toArray] W0 fun e w' => ∃ p' q', e = .returned (anV K.last p' q') ∧ Anc (fun j => (A j ∧ j < w.heap.size) ∨ W0.heap.size ≤ j) w' K.last p' q' ∧ Below W0.heap.size W0 w') := oCopyA W0 anA (by rw [← h0.an.ml]; omega) (by rw [← h0.an.kl]; omega) (fun x hx => by have := sm3 x hx; omega)
  have CN : Hid (∀ u, Below W0.heap.size W0 u → Calls Try.prog 60 #[.pointer (some ⟨k, 0, none⟩)] u fun e w' => e = .returned (.bool K.has) ∧ u = w') := fun u hu => oKCounts u (h0.grow hu)
  unfold LastF
  generalize K.has = hs at *
  generalize K.last = la at *
  clear h h0 hA sm1 sm2 sm3 anA
  have HS0 : Hid (W0.heap.size = w.heap.size + 1) := s0
  clear s0
  go_enter Try.func37, Try.ntmps37
  go_wp2_with ((with_reducible refine at_ld 25 ?_); (refine ld 25 (.tmp 6) 8 sizeAn _ Try.underlying25 rfl k 1 (anc la p q) rfl (by rw [← hW0]; exact rg) rfl ?_))
  rw [← hW0]
  clear hW0
  refine CC.out.mono ?_
  rintro e w1 ⟨p1, q1, rfl, an1, hb1⟩
  have z1 := z0.below hb1 z0.lt
  have k1 : Below w.heap.size w w1 := k0.trans (hb1.mono k0.size)
  have an2 : Anc (fun j => A j ∧ j < w.heap.size ∨ w.heap.size < j) w1 la p1 q1 := an1.mono fun j _ hj => by
    have := HS0.out
    rcases hj with hj | hj
    · exact Or.inl hj
    · exact Or.inr (by omega)
  go_wp2_with fail
  refine (CN.out w1 hb1).mono ?_
  rintro e w2 ⟨rfl, rfl⟩
  unfold anV
  clear CC CN an1 hb1 z0 k0 rg
  go_wp2_with ((with_reducible refine at_st 25 ?_); (refine st' 25 (.tmp 2) (.tmp 8) 8 sizeAn w.heap.size 0 (anc la p1 q1) rfl (anc_one _ _ _) (z1.there 0 8 (by simp [zanc])) rfl rfl ?_); intro w8 hw8; have b8 : Blk w8 w.heap.size (anc la p1 q1) 25 := (by rw [hw8]; exact z1.setsW _ rfl); have k8 : Below w.heap.size w w8 := (by rw [hw8]; exact below_sets (Nat.le_refl _) _ k1 0); have g8 : w1.grownBy w8 (some w.heap.size) := (by rw [hw8]; exact but_cells' _ _ _ _); clear hw8)
  have an8 : Anc (fun j => A j ∧ j < w.heap.size ∨ w.heap.size < j) w8 la p1 q1 := an2.keep g8.size fun j hj ha => g8.block j hj (fun e => by
    have := Option.some.inj e
    rcases ha with ha | ha <;> omega)
  exact bodyPost_ret (v := .tuple #[anV la p1 q1, .bool hs]) (resCT Try.results37 _ _ w.heap.size _ rfl (run_loadVar_row w8 w.heap.size 25 25 _ (0, 0) _ b8 Try.underlying25 rfl sizeAn) _ rfl) rfl ⟨p1, q1, rfl, an8, k8⟩

end Go.Proofs.Ytbifikeecmaakaa
