/-
  8 texts in one. No statement of the seat is proved here.
-/
import Derived.Test.YtlenmkhmkommcaaGreatJ25

/-
  The contract of layer 16's reference's Same: whether images are the same. Condition: at most a million of them.
-/
namespace Go.Proofs.YtlenmkhmkommcaaGreat
open Go.RowKit
set_option linter.unusedVariables false

theorem Imgs.two {A : Nat → Prop} {w : World} {a : Option Addr} {n c : Nat} {l : List Chg} (h : Imgs A w a n c l) {s : Nat} {x : Chg} (hx : l[s]? = some x) : ∃ b o p m q, a = some ⟨b, o, none⟩ ∧ b < w.heap.size ∧ w.cell? ⟨b, o + s * 2, none⟩ = some (.int .i64 x.1) ∧ w.cell? ⟨b, o + s * 2 + 1, none⟩ = some (.slice p m q) ∧ Bs w p m q x.2 := by
  obtain ⟨b, o, p, m, q, ha, hlt, _, hrg, hb, _⟩ := h.at hx
  exact ⟨b, o, p, m, q, ha, hlt, by have := hrg 0 _ rfl; rwa [Nat.add_zero] at this, hrg 1 _ rfl, hb.bs⟩

set_option maxRecDepth 100000 in
set_option maxHeartbeats 8000000 in
theorem rSame16 (w : World) {A A2 : Nat → Prop} {a : Option Addr} {n c : Nat} {l : List Chg} (h : Imgs A w a n c l) {a2 : Option Addr} {n2 c2 : Nat} {l2 : List Chg} (h2 : Imgs A2 w a2 n2 c2 l2) (hz : n ≤ 1000000) (hz2 : n2 ≤ 1000000) :
    Calls Tryz.prog 26 #[.slice a n c, .slice a2 n2 c2] w fun e w' => e = .returned (.bool (decide (l = l2))) ∧ Below w.heap.size w w' := by
  have HL : Hid (l.length = n) := Sl.len h
  have HL2 : Hid (l2.length = n2) := Sl.len h2
  have HS : Hid (∀ u, Below w.heap.size w u → Imgs A u a n c l) := fun u hu => h.grow hu
  have HS2 : Hid (∀ u, Below w.heap.size w u → Imgs A2 u a2 n2 c2 l2) := fun u hu => h2.grow hu
  clear h h2
  by_cases hne : n = n2
  · subst hne
    have j0 : ((n : Int) != (n : Int)) = false := by simp
    obtain ⟨P, hP⟩ : ∃ P : Bool, P = decide (l = l2) := ⟨_, rfl⟩
    have HP : Hid (P = decide (l = l2)) := hP
    rw [← hP]
    clear hP
    go_enter Tryz.func26, Tryz.ntmps26
    go_wp2_with fail
    go_loopw [5] (fun i wr => ∃ k : Nat, k ≤ n ∧ i = .int .i64 (k : Int) ∧ Hid (l.take k = l2.take k) ∧ Below w.heap.size w wr) (fun i _ => n - (intOf i).toNat)
    case atStart => exact ⟨0, Nat.zero_le _, rfl, by show _ = _; simp, Below.refl _ _⟩
    case round =>
      obtain ⟨k, hk, rfl, HI, kw⟩ := hrel
      by_cases hlt : k < n
      · have i0 : (k : Int) < (n : Int) := by omega
        have i3 : (0 : Int) ≤ (k : Int) := by omega
        obtain ⟨x, hx⟩ : ∃ x, l[k]? = some x := ⟨_, List.getElem?_eq_getElem (by rw [HL.out]; exact hlt)⟩
        obtain ⟨y, hy⟩ : ∃ y, l2[k]? = some y := ⟨_, List.getElem?_eq_getElem (by rw [HL2.out]; exact hlt)⟩
        obtain ⟨b, o, p, m, q, ha, hlb, x0, x1, hB⟩ := (HS.out wr kw).two hx
        obtain ⟨b2, o2, p2, m2, q2, ha2, hlb2, y0, y1, hB2⟩ := (HS2.out wr kw).two hy
        obtain ⟨xa, xb⟩ := x
        obtain ⟨ya, yb⟩ := y
        dsimp only at x0 x1 hB y0 y1 hB2
        have HNE : Hid (¬ (xa, xb) = (ya, yb) → P = false) := fun hn => by rw [HP.out]; exact decide_eq_false (fun e => hn (by rw [e, hy] at hx; exact (Option.some.inj hx).symm))
        have HEQ : Hid ((xa, xb) = (ya, yb) → l.take (k + 1) = l2.take (k + 1)) := fun e => take_more HI.out hx hy e
        clear hx hy
        subst ha ha2
        have X0 : ∀ u, Grows wr u → u.cell? ⟨b, o + k * 2, none⟩ = some (.int .i64 xa) := fun u h => (Below.cell h (p := ⟨b, o + k * 2, none⟩) hlb).trans x0
        have X1 : ∀ u, Grows wr u → u.cell? ⟨b, o + k * 2 + 1, none⟩ = some (.slice p m q) := fun u h => (Below.cell h (p := ⟨b, o + k * 2 + 1, none⟩) hlb).trans x1
        have Y0 : ∀ u, Grows wr u → u.cell? ⟨b2, o2 + k * 2, none⟩ = some (.int .i64 ya) := fun u h => (Below.cell h (p := ⟨b2, o2 + k * 2, none⟩) hlb2).trans y0
        have Y1 : ∀ u, Grows wr u → u.cell? ⟨b2, o2 + k * 2 + 1, none⟩ = some (.slice p2 m2 q2) := fun u h => (Below.cell h (p := ⟨b2, o2 + k * 2 + 1, none⟩) hlb2).trans y1
        clear x0 x1 y0 y1 HP
        by_cases h0 : xa = ya
        · subst h0
          have j1 : (xa != xa) = false := by simp
          have CSM : Hid (∀ u, Grows wr u → Calls Tryz.prog 29 #[.slice p m q, .slice p2 m2 q2] u fun e w' => e = .returned (.bool (decide (xb = yb))) ∧ Below u.heap.size u w') := fun u h => (rSame u (hB.below h (Nat.le_refl _)) (hB2.below h (Nat.le_refl _))).mono (by rintro e w' ⟨rfl, k, rfl⟩; exact ⟨rfl, below_drewN' u k⟩)
          obtain ⟨sb, hsb⟩ : ∃ sb : Bool, sb = !(decide (xb = yb)) := ⟨_, rfl⟩
          go_wp2_with fail
          refine regionG (S := Grows wr) (by kernel_rfl) (Below.refl _ wr).drew ?_
          refine takeG 0 (some 17) (.slice (some ⟨b, o, none⟩) n c) rfl rfl (by kernel_rfl) (by kernel_rfl) (by kernel_rfl) (fun _ _ _ h => h) (ans_plain (by rfl) (fun w _ => rfl)) ?_
          simp only [Act.put, List.setIfInBounds_toArray, List.set_cons_zero, List.set_cons_succ]
          refine takeG 1 (some 18) (.int .i64 (k : Int)) rfl rfl (by kernel_rfl) (by kernel_rfl) (by kernel_rfl) (fun _ _ _ h => h) (ans_plain (by rfl) (fun w _ => rfl)) ?_
          simp only [Act.put, List.setIfInBounds_toArray, List.set_cons_zero, List.set_cons_succ]
          refine takeG 2 (some 19) (.pointer (some ⟨b, o + k * 2, none⟩)) rfl rfl (by kernel_rfl) (by kernel_rfl) (by kernel_rfl) (fun _ _ _ h => h) (ans_plain (by rfl) (fun w _ => by unfold execOp; go_simp)) ?_
          simp only [Act.put, List.setIfInBounds_toArray, List.set_cons_zero, List.set_cons_succ]
          refine takeG 3 (some 20) (.pointer (some ⟨b, o + k * 2, none⟩)) rfl rfl (by kernel_rfl) (by kernel_rfl) (by kernel_rfl) (fun _ _ _ h => h) (ans_plain (by rfl) (fun w _ => by unfold execOp; go_simp)) ?_
          simp only [Act.put, List.setIfInBounds_toArray, List.set_cons_zero, List.set_cons_succ]
          refine takeG 4 (some 21) (.int .i64 xa) rfl rfl (by kernel_rfl) (by kernel_rfl) (by kernel_rfl) (fun _ _ _ h => h) (ans_plain (by rfl) (fun w h => by have hc := X0 w h; unfold execOp; go_simp)) ?_
          simp only [Act.put, List.setIfInBounds_toArray, List.set_cons_zero, List.set_cons_succ]
          refine takeG 5 (some 22) (.slice (some ⟨b2, o2, none⟩) n c2) rfl rfl (by kernel_rfl) (by kernel_rfl) (by kernel_rfl) (fun _ _ _ h => h) (ans_plain (by rfl) (fun w _ => rfl)) ?_
          simp only [Act.put, List.setIfInBounds_toArray, List.set_cons_zero, List.set_cons_succ]
          refine takeG 6 (some 23) (.int .i64 (k : Int)) rfl rfl (by kernel_rfl) (by kernel_rfl) (by kernel_rfl) (fun _ _ _ h => h) (ans_plain (by rfl) (fun w _ => rfl)) ?_
          simp only [Act.put, List.setIfInBounds_toArray, List.set_cons_zero, List.set_cons_succ]
          refine takeG 7 (some 24) (.pointer (some ⟨b2, o2 + k * 2, none⟩)) rfl rfl (by kernel_rfl) (by kernel_rfl) (by kernel_rfl) (fun _ _ _ h => h) (ans_plain (by rfl) (fun w _ => by unfold execOp; go_simp)) ?_
          simp only [Act.put, List.setIfInBounds_toArray, List.set_cons_zero, List.set_cons_succ]
          refine takeG 8 (some 25) (.pointer (some ⟨b2, o2 + k * 2, none⟩)) rfl rfl (by kernel_rfl) (by kernel_rfl) (by kernel_rfl) (fun _ _ _ h => h) (ans_plain (by rfl) (fun w _ => by unfold execOp; go_simp)) ?_
          simp only [Act.put, List.setIfInBounds_toArray, List.set_cons_zero, List.set_cons_succ]
          refine takeG 9 (some 26) (.int .i64 xa) rfl rfl (by kernel_rfl) (by kernel_rfl) (by kernel_rfl) (fun _ _ _ h => h) (ans_plain (by rfl) (fun w h => by have hc := Y0 w h; unfold execOp; go_simp)) ?_
          simp only [Act.put, List.setIfInBounds_toArray, List.set_cons_zero, List.set_cons_succ]
          refine takeG 10 (some 27) (.bool false) rfl rfl (by kernel_rfl) (by kernel_rfl) (by kernel_rfl) (fun _ _ _ h => h) (ans_plain (by rfl) (fun w _ => by unfold execOp; go_simp)) ?_
          simp only [Act.put, List.setIfInBounds_toArray, List.set_cons_zero, List.set_cons_succ]
          refine takeG 11 (some 28) (.bool false) rfl rfl (by kernel_rfl) (by kernel_rfl) (by kernel_rfl) (fun _ _ _ h => h) (ans_plain (by rfl) (fun w _ => rfl)) ?_
          simp only [Act.put, List.setIfInBounds_toArray, List.set_cons_zero, List.set_cons_succ]
          refine takeG 12 (some 29) (.slice (some ⟨b, o, none⟩) n c) rfl rfl (by kernel_rfl) (by kernel_rfl) (by kernel_rfl) (fun _ _ _ h => h) (ans_plain (by rfl) (fun w _ => rfl)) ?_
          simp only [Act.put, List.setIfInBounds_toArray, List.set_cons_zero, List.set_cons_succ]
          refine takeG 13 (some 30) (.int .i64 (k : Int)) rfl rfl (by kernel_rfl) (by kernel_rfl) (by kernel_rfl) (fun _ _ _ h => h) (ans_plain (by rfl) (fun w _ => rfl)) ?_
          simp only [Act.put, List.setIfInBounds_toArray, List.set_cons_zero, List.set_cons_succ]
          refine takeG 14 (some 31) (.pointer (some ⟨b, o + k * 2, none⟩)) rfl rfl (by kernel_rfl) (by kernel_rfl) (by kernel_rfl) (fun _ _ _ h => h) (ans_plain (by rfl) (fun w _ => by unfold execOp; go_simp)) ?_
          simp only [Act.put, List.setIfInBounds_toArray, List.set_cons_zero, List.set_cons_succ]
          refine takeG 15 (some 32) (.pointer (some ⟨b, o + k * 2 + 1, none⟩)) rfl rfl (by kernel_rfl) (by kernel_rfl) (by kernel_rfl) (fun _ _ _ h => h) (ans_plain (by rfl) (fun w _ => by unfold execOp; go_simp)) ?_
          simp only [Act.put, List.setIfInBounds_toArray, List.set_cons_zero, List.set_cons_succ]
          refine takeG 16 (some 33) (.slice p m q) rfl rfl (by kernel_rfl) (by kernel_rfl) (by kernel_rfl) (fun _ _ _ h => h) (ans_plain (by rfl) (fun w h => by have hc := X1 w h; unfold execOp; go_simp)) ?_
          simp only [Act.put, List.setIfInBounds_toArray, List.set_cons_zero, List.set_cons_succ]
          refine takeG 17 (some 34) (.slice (some ⟨b2, o2, none⟩) n c2) rfl rfl (by kernel_rfl) (by kernel_rfl) (by kernel_rfl) (fun _ _ _ h => h) (ans_plain (by rfl) (fun w _ => rfl)) ?_
          simp only [Act.put, List.setIfInBounds_toArray, List.set_cons_zero, List.set_cons_succ]
          refine takeG 18 (some 35) (.int .i64 (k : Int)) rfl rfl (by kernel_rfl) (by kernel_rfl) (by kernel_rfl) (fun _ _ _ h => h) (ans_plain (by rfl) (fun w _ => rfl)) ?_
          simp only [Act.put, List.setIfInBounds_toArray, List.set_cons_zero, List.set_cons_succ]
          refine takeG 19 (some 36) (.pointer (some ⟨b2, o2 + k * 2, none⟩)) rfl rfl (by kernel_rfl) (by kernel_rfl) (by kernel_rfl) (fun _ _ _ h => h) (ans_plain (by rfl) (fun w _ => by unfold execOp; go_simp)) ?_
          simp only [Act.put, List.setIfInBounds_toArray, List.set_cons_zero, List.set_cons_succ]
          refine takeG 20 (some 37) (.pointer (some ⟨b2, o2 + k * 2 + 1, none⟩)) rfl rfl (by kernel_rfl) (by kernel_rfl) (by kernel_rfl) (fun _ _ _ h => h) (ans_plain (by rfl) (fun w _ => by unfold execOp; go_simp)) ?_
          simp only [Act.put, List.setIfInBounds_toArray, List.set_cons_zero, List.set_cons_succ]
          refine takeG 21 (some 38) (.slice p2 m2 q2) rfl rfl (by kernel_rfl) (by kernel_rfl) (by kernel_rfl) (fun _ _ _ h => h) (ans_plain (by rfl) (fun w h => by have hc := Y1 w h; unfold execOp; go_simp)) ?_
          simp only [Act.put, List.setIfInBounds_toArray, List.set_cons_zero, List.set_cons_succ]
          refine takeG 22 (some 39) (.bool (decide (xb = yb))) rfl rfl (by kernel_rfl) (by kernel_rfl) (by kernel_rfl) (fun _ _ _ h => h) (ans_fn 29 #[.tmp 33, .tmp 38] #[26, 26] #[.slice p m q, .slice p2 m2 q2] rfl (by rfl) (by rfl) Tryz.call29 fun u h => CSM.out u h) ?_
          simp only [Act.put, List.setIfInBounds_toArray, List.set_cons_zero, List.set_cons_succ]
          refine takeG 23 (some 40) (.bool sb) rfl rfl (by kernel_rfl) (by kernel_rfl) (by kernel_rfl) (fun _ _ _ h => h) (ans_plain (by rfl) (fun w _ => by unfold execOp; go_simp)) ?_
          simp only [Act.put, List.setIfInBounds_toArray, List.set_cons_zero, List.set_cons_succ]
          refine takeG 24 (some 41) (.bool sb) rfl rfl (by kernel_rfl) (by kernel_rfl) (by kernel_rfl) (fun _ _ _ h => h) (ans_plain (by rfl) (fun w _ => by unfold execOp; go_simp)) ?_
          simp only [Act.put, List.setIfInBounds_toArray, List.set_cons_zero, List.set_cons_succ]
          refine doneG (by kernel_rfl) fun u5 hg_u5 hs_u5 => ?_
          have k5 := kw.trans (Below.mono hs_u5 kw.size)
          clear X0 X1 Y0 Y1 hB hB2 hlb hlb2 hs_u5 hg_u5 kw
          by_cases h2 : xb = yb
          · subst h2
            have HN : Hid (l.take (k + 1) = l2.take (k + 1)) := HEQ.out rfl
            rw [decide_eq_true rfl] at hsb
            subst hsb
            go_wp2_with fail
            go_roundw
            case rel => exact ⟨k + 1, by omega, by go_num, HN, k5⟩
            case measure => simp [intOf]; omega
          · have HBAD : Hid (P = false) := HNE.out (fun e => h2 (by injection e))
            rw [decide_eq_false h2] at hsb
            subst hsb
            go_wp2_with fail
            go_ret
            rw [HBAD.out]
            exact ⟨rfl, k5⟩
        · have j1 : (xa != ya) = true := by simp [h0]
          have HBAD : Hid (P = false) := HNE.out (fun e => h0 (by injection e))
          go_wp2_with fail
          refine regionG (S := Grows wr) (by kernel_rfl) (Below.refl _ wr).drew ?_
          refine takeG 0 (some 17) (.slice (some ⟨b, o, none⟩) n c) rfl rfl (by kernel_rfl) (by kernel_rfl) (by kernel_rfl) (fun _ _ _ h => h) (ans_plain (by rfl) (fun w _ => rfl)) ?_
          simp only [Act.put, List.setIfInBounds_toArray, List.set_cons_zero, List.set_cons_succ]
          refine takeG 1 (some 18) (.int .i64 (k : Int)) rfl rfl (by kernel_rfl) (by kernel_rfl) (by kernel_rfl) (fun _ _ _ h => h) (ans_plain (by rfl) (fun w _ => rfl)) ?_
          simp only [Act.put, List.setIfInBounds_toArray, List.set_cons_zero, List.set_cons_succ]
          refine takeG 2 (some 19) (.pointer (some ⟨b, o + k * 2, none⟩)) rfl rfl (by kernel_rfl) (by kernel_rfl) (by kernel_rfl) (fun _ _ _ h => h) (ans_plain (by rfl) (fun w _ => by unfold execOp; go_simp)) ?_
          simp only [Act.put, List.setIfInBounds_toArray, List.set_cons_zero, List.set_cons_succ]
          refine takeG 3 (some 20) (.pointer (some ⟨b, o + k * 2, none⟩)) rfl rfl (by kernel_rfl) (by kernel_rfl) (by kernel_rfl) (fun _ _ _ h => h) (ans_plain (by rfl) (fun w _ => by unfold execOp; go_simp)) ?_
          simp only [Act.put, List.setIfInBounds_toArray, List.set_cons_zero, List.set_cons_succ]
          refine takeG 4 (some 21) (.int .i64 xa) rfl rfl (by kernel_rfl) (by kernel_rfl) (by kernel_rfl) (fun _ _ _ h => h) (ans_plain (by rfl) (fun w h => by have hc := X0 w h; unfold execOp; go_simp)) ?_
          simp only [Act.put, List.setIfInBounds_toArray, List.set_cons_zero, List.set_cons_succ]
          refine takeG 5 (some 22) (.slice (some ⟨b2, o2, none⟩) n c2) rfl rfl (by kernel_rfl) (by kernel_rfl) (by kernel_rfl) (fun _ _ _ h => h) (ans_plain (by rfl) (fun w _ => rfl)) ?_
          simp only [Act.put, List.setIfInBounds_toArray, List.set_cons_zero, List.set_cons_succ]
          refine takeG 6 (some 23) (.int .i64 (k : Int)) rfl rfl (by kernel_rfl) (by kernel_rfl) (by kernel_rfl) (fun _ _ _ h => h) (ans_plain (by rfl) (fun w _ => rfl)) ?_
          simp only [Act.put, List.setIfInBounds_toArray, List.set_cons_zero, List.set_cons_succ]
          refine takeG 7 (some 24) (.pointer (some ⟨b2, o2 + k * 2, none⟩)) rfl rfl (by kernel_rfl) (by kernel_rfl) (by kernel_rfl) (fun _ _ _ h => h) (ans_plain (by rfl) (fun w _ => by unfold execOp; go_simp)) ?_
          simp only [Act.put, List.setIfInBounds_toArray, List.set_cons_zero, List.set_cons_succ]
          refine takeG 8 (some 25) (.pointer (some ⟨b2, o2 + k * 2, none⟩)) rfl rfl (by kernel_rfl) (by kernel_rfl) (by kernel_rfl) (fun _ _ _ h => h) (ans_plain (by rfl) (fun w _ => by unfold execOp; go_simp)) ?_
          simp only [Act.put, List.setIfInBounds_toArray, List.set_cons_zero, List.set_cons_succ]
          refine takeG 9 (some 26) (.int .i64 ya) rfl rfl (by kernel_rfl) (by kernel_rfl) (by kernel_rfl) (fun _ _ _ h => h) (ans_plain (by rfl) (fun w h => by have hc := Y0 w h; unfold execOp; go_simp)) ?_
          simp only [Act.put, List.setIfInBounds_toArray, List.set_cons_zero, List.set_cons_succ]
          refine takeG 10 (some 27) (.bool true) rfl rfl (by kernel_rfl) (by kernel_rfl) (by kernel_rfl) (fun _ _ _ h => h) (ans_plain (by rfl) (fun w _ => by unfold execOp; go_simp)) ?_
          simp only [Act.put, List.setIfInBounds_toArray, List.set_cons_zero, List.set_cons_succ]
          refine takeG 11 (some 28) (.bool true) rfl rfl (by kernel_rfl) (by kernel_rfl) (by kernel_rfl) (fun _ _ _ h => h) (ans_plain (by rfl) (fun w _ => rfl)) ?_
          simp only [Act.put, List.setIfInBounds_toArray, List.set_cons_zero, List.set_cons_succ]
          refine takeG 12 (some 29) (undef) rfl rfl (by kernel_rfl) (by kernel_rfl) (by kernel_rfl) (fun _ _ _ h => h) (Or.inr ⟨by rfl, rfl⟩) ?_
          simp only [Act.put, List.setIfInBounds_toArray, List.set_cons_zero, List.set_cons_succ]
          refine takeG 13 (some 30) (undef) rfl rfl (by kernel_rfl) (by kernel_rfl) (by kernel_rfl) (fun _ _ _ h => h) (Or.inr ⟨by rfl, rfl⟩) ?_
          simp only [Act.put, List.setIfInBounds_toArray, List.set_cons_zero, List.set_cons_succ]
          refine takeG 14 (some 31) (undef) rfl rfl (by kernel_rfl) (by kernel_rfl) (by kernel_rfl) (fun _ _ _ h => h) (Or.inr ⟨by rfl, rfl⟩) ?_
          simp only [Act.put, List.setIfInBounds_toArray, List.set_cons_zero, List.set_cons_succ]
          refine takeG 15 (some 32) (undef) rfl rfl (by kernel_rfl) (by kernel_rfl) (by kernel_rfl) (fun _ _ _ h => h) (Or.inr ⟨by rfl, rfl⟩) ?_
          simp only [Act.put, List.setIfInBounds_toArray, List.set_cons_zero, List.set_cons_succ]
          refine takeG 16 (some 33) (undef) rfl rfl (by kernel_rfl) (by kernel_rfl) (by kernel_rfl) (fun _ _ _ h => h) (Or.inr ⟨by rfl, rfl⟩) ?_
          simp only [Act.put, List.setIfInBounds_toArray, List.set_cons_zero, List.set_cons_succ]
          refine takeG 17 (some 34) (undef) rfl rfl (by kernel_rfl) (by kernel_rfl) (by kernel_rfl) (fun _ _ _ h => h) (Or.inr ⟨by rfl, rfl⟩) ?_
          simp only [Act.put, List.setIfInBounds_toArray, List.set_cons_zero, List.set_cons_succ]
          refine takeG 18 (some 35) (undef) rfl rfl (by kernel_rfl) (by kernel_rfl) (by kernel_rfl) (fun _ _ _ h => h) (Or.inr ⟨by rfl, rfl⟩) ?_
          simp only [Act.put, List.setIfInBounds_toArray, List.set_cons_zero, List.set_cons_succ]
          refine takeG 19 (some 36) (undef) rfl rfl (by kernel_rfl) (by kernel_rfl) (by kernel_rfl) (fun _ _ _ h => h) (Or.inr ⟨by rfl, rfl⟩) ?_
          simp only [Act.put, List.setIfInBounds_toArray, List.set_cons_zero, List.set_cons_succ]
          refine takeG 20 (some 37) (undef) rfl rfl (by kernel_rfl) (by kernel_rfl) (by kernel_rfl) (fun _ _ _ h => h) (Or.inr ⟨by rfl, rfl⟩) ?_
          simp only [Act.put, List.setIfInBounds_toArray, List.set_cons_zero, List.set_cons_succ]
          refine takeG 21 (some 38) (undef) rfl rfl (by kernel_rfl) (by kernel_rfl) (by kernel_rfl) (fun _ _ _ h => h) (Or.inr ⟨by rfl, rfl⟩) ?_
          simp only [Act.put, List.setIfInBounds_toArray, List.set_cons_zero, List.set_cons_succ]
          refine takeG 22 (some 39) (undef) rfl rfl (by kernel_rfl) (by kernel_rfl) (by kernel_rfl) (fun _ _ _ h => h) (Or.inr ⟨by rfl, rfl⟩) ?_
          simp only [Act.put, List.setIfInBounds_toArray, List.set_cons_zero, List.set_cons_succ]
          refine takeG 23 (some 40) (undef) rfl rfl (by kernel_rfl) (by kernel_rfl) (by kernel_rfl) (fun _ _ _ h => h) (Or.inr ⟨by rfl, rfl⟩) ?_
          simp only [Act.put, List.setIfInBounds_toArray, List.set_cons_zero, List.set_cons_succ]
          refine takeG 24 (some 41) (.bool true) rfl rfl (by kernel_rfl) (by kernel_rfl) (by kernel_rfl) (fun _ _ _ h => h) (ans_plain (by rfl) (fun w _ => by unfold execOp; go_simp)) ?_
          simp only [Act.put, List.setIfInBounds_toArray, List.set_cons_zero, List.set_cons_succ]
          refine doneG (by kernel_rfl) fun u5 hg_u5 hs_u5 => ?_
          have k5 := kw.trans (Below.mono hs_u5 kw.size)
          clear X0 X1 Y0 Y1 hB hB2 hlb hlb2 hs_u5 hg_u5 kw
          go_wp2_with fail
          go_ret
          rw [HBAD.out]
          exact ⟨rfl, k5⟩
      · obtain rfl : k = n := by omega
        have i0 : ¬ (k : Int) < (k : Int) := by omega
        have HT : Hid (P = true) := by show _ = _; rw [HP.out]; apply decide_eq_true; have := HI.out; rw [List.take_of_length_le (by rw [HL.out]; exact Nat.le_refl _), List.take_of_length_le (by rw [HL2.out]; exact Nat.le_refl _)] at this; exact this
        clear HI HP
        go_wp2_with fail
        go_ret
        rw [HT.out]
        exact ⟨rfl, kw⟩
  · have hd : decide (l = l2) = false := decide_eq_false (fun e => hne (by rw [← HL.out, ← HL2.out, e]))
    have j0 : ((n : Int) != (n2 : Int)) = true := by simp; omega
    rw [hd]
    clear hd
    go_enter Tryz.func26, Tryz.ntmps26
    go_wp2_with fail
    go_ret
    exact ⟨rfl, Below.refl _ _⟩

end Go.Proofs.YtlenmkhmkommcaaGreat

/-
  Bytes laid for a call, and bytes that lie where neither of two sealers does. No condition; no statement of the seat is proved here.
-/
namespace Go.Proofs.YtlenmkhmkommcaaGreat
open Go.RowKit
set_option linter.unusedVariables false

theorem Own.both {A : Nat → Prop} {w : World} {base : Nat} {p : Option Addr} {m q : Nat} {l : List UInt8} (h : Own w base (.slice p m q) l) (hA : ∀ j, base ≤ j → A j) : BA A w p m q l := h.ba.mono' fun j _ hj => hA j hj
/-- Where neither of two sealers lies. -/
def AA (U1 U2 : Nat → Prop) : Nat → Prop := fun j => ¬ U1 j ∧ ¬ U2 j
theorem BA.n1 {U1 U2 : Nat → Prop} {w : World} {p : Option Addr} {m q : Nat} {l : List UInt8} (h : BA (AA U1 U2) w p m q l) : BA (fun j => ¬ U1 j) w p m q l := h.mono' fun _ _ h => h.1
theorem BA.n2 {U1 U2 : Nat → Prop} {w : World} {p : Option Addr} {m q : Nat} {l : List UInt8} (h : BA (AA U1 U2) w p m q l) : BA (fun j => ¬ U2 j) w p m q l := h.mono' fun _ _ h => h.2
theorem BA.k1 {U1 U2 : Nat → Prop} {w w' : World} {p : Option Addr} {m q : Nat} {l : List UInt8} (h : BA (AA U1 U2) w p m q l) (k : Kp U1 w w') : BA (AA U1 U2) w' p m q l := h.kp k fun j hj => hj.1
theorem BA.k2 {U1 U2 : Nat → Prop} {w w' : World} {p : Option Addr} {m q : Nat} {l : List UInt8} (h : BA (AA U1 U2) w p m q l) (k : Kp U2 w w') : BA (AA U1 U2) w' p m q l := h.kp k fun j hj => hj.2
theorem Grows.ofDrew {w u : World} (h : Grows w.drew u) : Below w.heap.size w u := (Below.refl _ w).drew.trans h

end Go.Proofs.YtlenmkhmkommcaaGreat

/-
  Contracts of layer 13's program: Count, Part, Cover, nonce, beside, filled, noughts. Conditions: sizes of at most 2^21 bytes; what a text is of at most 60.
-/
namespace Go.Proofs.YtlenmkhmkommcaaGreat
open Go.RowKit
set_option linter.unusedVariables false

/-- From which byte, up to which one. -/
def lo (n i : Nat) : Nat := min (496 * i) n
def hi (n i : Nat) : Nat := min (496 * i + 496) n
/-- The first piece that has bytes from one up to another one, and how many do. -/
def cov0 (a : Nat) : Nat := a / 496
def covN (a b : Nat) : Nat := (b - 1) / 496 - a / 496 + 1
/-- Are all of them noughts? -/
def zer (l : List UInt8) : Bool := l.all fun x => x == 0
end Go.Proofs.YtlenmkhmkommcaaGreat

/-
  The contract of layer 13's program's beside. Conditions: sizes of at most 4000000; what a text is of at most 60 bytes.
-/
namespace Go.Proofs.YtlenmkhmkommcaaGreat
open Go.RowKit
set_option linter.unusedVariables false

theorem Bss.four {w : World} {a1 a2 a3 a4 : Option Addr} {n1 c1 n2 c2 n3 c3 n4 c4 : Nat} {l1 l2 l3 l4 : List UInt8} (h1 : Bs w a1 n1 c1 l1) (h2 : Bs w a2 n2 c2 l2) (h3 : Bs w a3 n3 c3 l3) (h4 : Bs w a4 n4 c4 l4) :
    Bss (w.alloc (.cells #[.slice a1 n1 c1, .slice a2 n2 c2, .slice a3 n3 c3, .slice a4 n4 c4] 26)) (some ⟨w.heap.size, 0, none⟩) 4 4 [l1, l2, l3, l4] := by
  refine ⟨rfl, Nat.le_refl _, by unfold maxLen; omega, fun i hi => ?_⟩
  match i, hi with
  | 0, _ => exact ⟨w.heap.size, 0, a1, n1, c1, rfl, by rw [cell_new]; rfl, h1.below (below_alloc _ _) (Nat.le_refl _)⟩
  | 1, _ => exact ⟨w.heap.size, 0, a2, n2, c2, rfl, by rw [cell_new]; rfl, h2.below (below_alloc _ _) (Nat.le_refl _)⟩
  | 2, _ => exact ⟨w.heap.size, 0, a3, n3, c3, rfl, by rw [cell_new]; rfl, h3.below (below_alloc _ _) (Nat.le_refl _)⟩
  | 3, _ => exact ⟨w.heap.size, 0, a4, n4, c4, rfl, by rw [cell_new]; rfl, h4.below (below_alloc _ _) (Nat.le_refl _)⟩
end Go.Proofs.YtlenmkhmkommcaaGreat

/-
  Slices of rows of bytes that a call made itself: literals of one row, storing such a slice into a field, how they outlast what is written. No condition; no statement of the seat is proved here.
-/
namespace Go.Proofs.YtlenmkhmkommcaaGreat
open Go.RowKit

theorem OwB.grown {A : Nat → Prop} {e : TypeId} {w w' : World} {base r : Nat} {v : Value} {l : List (List UInt8)} (h : OwS (elB A) 1 e w base v l) (g : w.grownBy w' (some r)) (hr : r < base) (h5 : ∀ cur f, w.heap[r]? ≠ some (.cells cur 5 f)) : OwS (elB A) 1 e w' base v l :=
  h.keep (elB.grown g (fun j cur f hj => by obtain rfl := Option.some.inj hj; exact h5 cur f)) (fun j hj => g.block j (h.lt j hj).2 (fun e => by have := (h.lt j hj).1; have := Option.some.inj e; omega))
theorem OwB.below {A : Nat → Prop} {e : TypeId} {w w' : World} {base : Nat} {v : Value} {l : List (List UInt8)} (h : OwS (elB A) 1 e w base v l) (g : Below w.heap.size w w') : OwS (elB A) 1 e w' base v l :=
  h.keep (elB.keep fun j hj _ => g.block j hj) (fun j hj => g.block j (h.lt j hj).2)

end Go.Proofs.YtlenmkhmkommcaaGreat

/-
  An element of a slice of slices of the call's own, replaced. No condition; no statement of the seat is proved here.
-/
namespace Go.Proofs.YtlenmkhmkommcaaGreat
open Go.RowKit

theorem flat1_set : ∀ {rows : List (List Value)} (_ : ∀ vs ∈ rows, vs.length = 1) (k : Nat) (u : Value), (rows.set k [u]).flatten = rows.flatten.set k u
  | [], _, k, u => by simp
  | r :: rows, h, 0, u => by
    obtain ⟨x, rfl⟩ := List.length_eq_one_iff.1 (h r (by simp))
    simp
  | r :: rows, h, k + 1, u => by
    obtain ⟨x, rfl⟩ := List.length_eq_one_iff.1 (h r (by simp))
    have hx : ∀ vs ∈ rows, vs.length = 1 := fun v hv => h v (List.mem_cons_of_mem _ hv)
    have := flat1_set hx k u
    simpa using this
theorem Rel2.set {α β : Type} {R : α → β → Prop} : ∀ {l : List α} {m : List β}, Rel2 R l m → ∀ (k : Nat) {x : α} {y : β}, R x y → Rel2 R (l.set k x) (m.set k y)
  | [], [], _, k, x, y, _ => by simp [Rel2]
  | _ :: _, _ :: _, h, 0, x, y, hr => ⟨hr, h.2⟩
  | _ :: _, _ :: _, h, k + 1, x, y, hr => ⟨h.1, Rel2.set h.2 k hr⟩
  | [], _ :: _, h, _, _, _, _ => h.elim
  | _ :: _, [], h, _, _, _, _ => h.elim
/-- out.L[k] = s. -/
theorem OwB.set {A : Nat → Prop} {e : TypeId} {w : World} {base : Nat} {a : Option Addr} {n c : Nat} {l : List (List UInt8)} (h : OwS (elB A) 1 e w base (.slice a n c) l) (he : e ≠ 5) {k : Nat} (hk : k < l.length) :
    ∃ g, a = some ⟨g, 0, none⟩ ∧ base ≤ g ∧ g < w.heap.size ∧ (∃ u, w.cell? ⟨g, k, none⟩ = some u) ∧ w.frozen? ⟨g, k, none⟩ = false ∧
      ∀ {p : Option Addr} {m q : Nat} {x : List UInt8}, B5 A w p m q x → OwS (elB A) 1 e (w.setCell ⟨g, k, none⟩ (.slice p m q)) base (.slice a n c) (l.set k x) := by
  have h5 := OwS.not5 h he
  obtain ⟨rows, hr, h1, h2⟩ := h
  rcases h2 with ⟨hv, h0⟩ | ⟨g, cap, cur, hv, hg, hh, hn, hm, hc, ht⟩
  · omega
  · simp only [Value.slice.injEq] at hv
    obtain ⟨rfl, rfl, rfl⟩ := hv
    have hlt : g < w.heap.size := (Array.getElem?_eq_some_iff.1 hh).1
    have hks : k < cur.size := by rw [hc]; omega
    refine ⟨g, rfl, hg, hlt, ⟨cur[k], ?_⟩, ?_, fun {p m q x} hx => ?_⟩
    · rw [cell_of_row w g k _ e (0, 0) hh]
      simp [hks]
    · simp [World.frozen?, hh]
    · have hgb := but_set w g k (.slice p m q)
      have hel := elB.grown (A := A) hgb (fun j cur f hj => h5 j cur f (by rw [← hj]; rfl))
      refine ⟨rows.set k [.slice p m q], ?_, ?_, ?_⟩
      · exact Rel2.set (hr.mono fun y vs ⟨a1, a2, a3⟩ => ⟨a1, a2, hel y vs a3⟩) k ⟨rfl, by intro v hv; simp at hv; subst hv; rfl, p, m, q, rfl, hx.grown hgb (fun j cur f hj => h5 j cur f (by rw [← hj]; rfl))⟩
      · rw [flat1_set (rel_lens hr), List.length_set, List.length_set]
        exact h1
      · refine Or.inr ⟨g, c, cur.setIfInBounds k (.slice p m q), by rw [List.length_set], hg, ?_, by rw [List.length_set]; exact hn, hm, by simpa using hc, ?_⟩
        · rw [setCell_eq_setRow w g k _ e (0, 0) _ hh, setRow_heap w g _ _ e (0, 0) hh]
        · rw [flat1_set (rel_lens hr), List.length_set, ← ht]
          rw [Array.toList_setIfInBounds, List.take_set]

theorem OwB.mono {A A' : Nat → Prop} {e : TypeId} {w : World} {base : Nat} {v : Value} {l : List (List UInt8)} (h : OwS (elB A) 1 e w base v l) (hA : ∀ j, j < w.heap.size → A j → A' j) : OwS (elB A') 1 e w base v l := by
  obtain ⟨rows, hr, ho⟩ := h
  exact ⟨rows, hr.mono fun x vs ⟨a1, a2, p, m, q, e, hb⟩ => ⟨a1, a2, p, m, q, e, hb.mono hA⟩, ho⟩

end Go.Proofs.YtlenmkhmkommcaaGreat

/-
  'make' of a slice whose elements' cells are all alike: a block of them. No condition; no statement of the seat is proved here.
-/
namespace Go.Proofs.YtlenmkhmkommcaaGreat
open Go.RowKit

end Go.Proofs.YtlenmkhmkommcaaGreat

/-
  The contract of layer 13's program's Seal. Conditions: a text of at most 2000 bytes, what it is of at most 60; a book that is not too long.
-/
namespace Go.Proofs.YtlenmkhmkommcaaGreat
open Go.RowKit
set_option linter.unusedVariables false

/-- 'b[i:j]' of bytes that lie in A. -/
theorem BA.cut2 {w0 : World} {a : Option Addr} {n c : Nat} {l : List UInt8} (h : Bs w0 a n c l) (i j : Nat) (hij : i ≤ j) (hj : j ≤ n) :
    ∃ a' c', (∀ w, Sem.run Tryz.prog (Instr.slice 26 (.slice a n c) (some (.int .i64 (i : Int))) (some (.int .i64 (j : Int))) none) w = .ok (.slice a' (j - i) c') w) ∧
      (∀ A w, BA A w a n c l → BA A w a' (j - i) c' ((l.drop i).take (j - i))) := by
  have hcap := h.cap
  refine ⟨if c = i then a else a.map (fun x => x.add (i * 1)), c - i, ?_, ?_⟩
  · intro w
    rw [run_slice_lh w 26 a n c under23 .i64 .i64 (i : Int) (j : Int) (by omega) (by omega) (by omega), sizeOf5]
    simp only [Result.andThen, sliced, Int.toNat_natCast]
  · rintro A w ⟨hb, hA⟩
    refine ⟨⟨by simp [hb.len]; omega, by omega, Nat.le_trans (Nat.sub_le _ _) hb.2.2.1, ?_, ?_⟩, fun hm => ?_⟩
    · intro he
      by_cases hck : c = i
      · omega
      · rw [if_neg hck] at he
        simp at he
        have := hb.2.2.2.1 he
        omega
    · intro k hk
      obtain ⟨b, o, ha, hc⟩ := hb.2.2.2.2 (i + k) (by omega)
      subst ha
      refine ⟨b, o + i, ?_, ?_⟩
      · rw [if_neg (by omega)]
        simp only [Option.map_some, Nat.mul_one]
        exact congrArg some (add_none b o i)
      · rw [bt_take hk, bt_drop, show o + i + k = o + (i + k) from by omega]
        exact hc
    · obtain ⟨x, hx, hAx, hlt⟩ := hA (by omega)
      obtain ⟨b, o, ha, hc⟩ := hb.2.2.2.2 i (by omega)
      rw [hx] at ha
      obtain rfl := Option.some.inj ha
      subst hx
      refine ⟨⟨b, o + i, none⟩, ?_, hAx, hlt⟩
      rw [if_neg (by omega)]
      simp only [Option.map_some, Nat.mul_one]
      exact congrArg some (add_none b o i)
/-- 'make([][]byte, n)'. -/
theorem OwB.made {A : Nat → Prop} {w : World} {g base n : Nat} {e : TypeId} (h : Blk w g (List.replicate n (.slice none 0 0)) e) (hb : base ≤ g) (hn : n ≤ 1000000) : OwS (elB A) 1 e w base (.slice (some ⟨g, 0, none⟩) n n) (List.replicate n []) := by
  have hf : ∀ n : Nat, (List.replicate n [(.slice none 0 0 : Value)]).flatten = List.replicate n (.slice none 0 0) := fun n => by
    induction n with
    | zero => rfl
    | succ n ih => rw [List.replicate_succ, List.flatten_cons, ih, List.replicate_succ]; rfl
  have hr : ∀ n : Nat, Rel2 (Row (elB A) 1 w) (List.replicate n []) (List.replicate n [(.slice none 0 0 : Value)]) := fun n => by
    induction n with
    | zero => exact trivial
    | succ n ih =>
      rw [List.replicate_succ, List.replicate_succ]
      exact ⟨⟨rfl, by intro v hv; simp at hv; subst hv; rfl, none, 0, 0, rfl, B5.nil A w⟩, ih⟩
  refine ⟨List.replicate n [.slice none 0 0], hr n, ?_⟩
  rw [hf, List.length_replicate]
  refine ⟨by rw [List.length_replicate, Nat.mul_one], Or.inr ⟨g, n, (List.replicate n (Value.slice none 0 0)).toArray, rfl, hb, h, Nat.le_refl _, by unfold maxLen; omega, by simp, ?_⟩⟩
  rw [List.take_of_length_le (by simp)]
theorem OwB.kp {A F : Nat → Prop} {e : TypeId} {w w' : World} {base : Nat} {v : Value} {l : List (List UInt8)} (h : OwS (elB A) 1 e w base v l) (k : Kp F w w') (hF : ∀ j, F j → j < base) (hA : ∀ j, A j → ¬ F j) : OwS (elB A) 1 e w' base v l :=
  h.keep (elB.keep fun j hj ha => k.block j hj (hA j ha)) (fun j hj => k.block j (h.lt j hj).2 fun hf => by have := (h.lt j hj).1; have := hF j hf; omega)
/-- Blocks in memory of A. -/
def BB (A : Nat → Prop) (w : World) (a : Option Addr) (n c : Nat) (ls : List (List UInt8)) : Prop := Sl (elB A) 1 A w a n c ls
theorem BB.keep {A : Nat → Prop} {w w' : World} {a : Option Addr} {n c : Nat} {ls : List (List UInt8)} (h : BB A w a n c ls) (hs : w.heap.size ≤ w'.heap.size) (hk : ∀ j, j < w.heap.size → A j → w'.heap[j]? = w.heap[j]?) : BB A w' a n c ls := Sl.keep h hs (elB.keep hk) hk
theorem BB.grow {A : Nat → Prop} {w w' : World} {a : Option Addr} {n c : Nat} {ls : List (List UInt8)} (h : BB A w a n c ls) (hb : Below w.heap.size w w') : BB A w' a n c ls := h.keep hb.size fun j hj _ => hb.block j hj
theorem BB.kp {A F : Nat → Prop} {w w' : World} {a : Option Addr} {n c : Nat} {ls : List (List UInt8)} (h : BB A w a n c ls) (k : Kp F w w') (hA : ∀ j, A j → ¬ F j) : BB A w' a n c ls := h.keep k.size fun j hj ha => k.block j hj (hA j ha)
theorem BB.mono {A A' : Nat → Prop} {w : World} {a : Option Addr} {n c : Nat} {ls : List (List UInt8)} (h : BB A w a n c ls) (hA : ∀ j, j < w.heap.size → A j → A' j) : BB A' w a n c ls := Sl.mono h (fun _ _ ⟨p, m, q, e, hb⟩ => ⟨p, m, q, e, hb.mono hA⟩) hA
theorem BB.len {A : Nat → Prop} {w : World} {a : Option Addr} {n c : Nat} {ls : List (List UInt8)} (h : BB A w a n c ls) : ls.length = n := Sl.len h
/-- One of them. -/
theorem BB.at {A : Nat → Prop} {w : World} {a : Option Addr} {n c : Nat} {ls : List (List UInt8)} (h : BB A w a n c ls) {s : Nat} {x : List UInt8} (hx : ls[s]? = some x) : ∃ b o p m q, a = some ⟨b, o, none⟩ ∧ b < w.heap.size ∧ w.cell? ⟨b, o + s, none⟩ = some (.slice p m q) ∧ BA A w p m q x := by
  obtain ⟨b, o, p, m, q, ha, hlt, hc, hb, h5⟩ := Sl.bytes h hx
  refine ⟨b, o, p, m, q, ha, hlt, hc, hb, fun hm => ?_⟩
  obtain ⟨y, cur, f, hp, hA, hh⟩ := h5 hm
  exact ⟨y, hp, hA, (Array.getElem?_eq_some_iff.1 hh).1⟩
/-- What Seal answers. -/
def SealsC (U : Nat → Prop) (r : Nat) (S' : SeaS) (M : SeaM) (ls : List (List UInt8)) (w : World) (e : Ending) (w' : World) : Prop := ∃ a n c, e = .returned (.tuple #[.slice a n c, .int .i64 0]) ∧ BB (fun j => w.heap.size ≤ j) w' a n c ls ∧ Se U w' r S' M ∧ Kp U w w'

end Go.Proofs.YtlenmkhmkommcaaGreat
