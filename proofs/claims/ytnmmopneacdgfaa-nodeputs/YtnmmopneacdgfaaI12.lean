/-
  4 texts in one. No statement of the seat is proved here.
-/
import Derived.Test.YtnmmopneacdgfaaI11
import Derived.Deep.DeepCutAuto
/-
  Contracts of layer 18's program: Find, Way. Condition: rising keys; at most a hundred thousand things.
-/
namespace Go.Proofs.Ytnmmopneacdgfaa
open Go.RowKit
set_option linter.unusedVariables false
def foundAt (l : List PairS) (z : Nat) (key : List UInt8) : Bool := match l[z]? with
  | some x => decide (x.key = key)
  | none => false
def findN (n : NodeS) (key : List UInt8) : Nat × Bool := (fstI (fun x => geB key x.key) n.pairs, foundAt n.pairs (fstI (fun x => geB key x.key) n.pairs) key)
theorem foundAt_some {l : List PairS} {z : Nat} {key : List UInt8} {x : PairS} (h : l[z]? = some x) : foundAt l z key = decide (x.key = key) := by
  unfold foundAt
  rw [h]
theorem foundAt_none {l : List PairS} {z : Nat} {key : List UInt8} (h : l[z]? = none) : foundAt l z key = false := by
  unfold foundAt
  rw [h]
def wayN (n : NodeS) (key : List UInt8) : Nat := fstI (fun x => gtB key x.key) n.kids - 1
set_option maxRecDepth 100000 in
set_option maxHeartbeats 4000000 in
theorem oFindN (w : World) {A : Nat → Prop} {n : NodeS} {p q : Tri} (h : Nd A w n p q) (hn : n.pairs.length ≤ 100000) (hr : riseB keyP n.pairs = true) {ka : Option Addr} {kn kz : Nat} {key : List UInt8} (hk : Bs w ka kn kz key) : Calls Try.prog 19 #[ndv n p q, .slice ka kn kz] w fun e w' => e = .returned (.tuple #[.int .i64 ((findN n key).1 : Nat), .bool (findN n key).2]) ∧ Below w.heap.size w w' := by
  have l1 := h.lp
  have hps := h.ps
  unfold findN
  dsimp only
  have hz := fstI_le (fun x : PairS => geB key x.key) n.pairs
  obtain ⟨lf, ps, ks⟩ := n
  obtain ⟨pa, pn, pc⟩ := p
  obtain ⟨qa, qn, qc⟩ := q
  dsimp only at *
  unfold ndv ndc
  dsimp only
  obtain ⟨V, hV⟩ : ∃ V, V = (w.alloc (.cells (List.toArray [.bool lf, .slice pa pn pc, .slice qa qn qc]) 25)).alloc (.cells #[.slice ka kn kz] 26) := ⟨_, rfl⟩
  have t1 : Blk V w.heap.size [.bool lf, .slice pa pn pc, .slice qa qn qc] 25 := by rw [hV]; exact (Blk.newAt w _ _ w.heap.size rfl _ rfl).old _
  have t2 : Blk V (w.heap.size + 1) [.slice ka kn kz] 26 := by rw [hV]; exact Blk.newAt (w.alloc _) _ _ (w.heap.size + 1) (by simp) _ rfl
  have kV : Below w.heap.size w V := by rw [hV]; exact below2 _ _ _
  have CF : Hid (Calls Try.prog 58 #[.slice pa pn pc, .func (.func 59) #[] #[.pointer (some ⟨w.heap.size + 1, 0, none⟩)]] V fun e w' => e = .returned (.int .i64 (fstI (fun x => geB key x.key) ps : Nat)) ∧ Below V.heap.size V w') := oFirstP V (hps.below kV) (by omega) hr t2 (hk.below kV (Nat.le_refl _))
  have c1 : V.cell? ⟨w.heap.size, 1, none⟩ = some (.slice pa pn pc) := t1.cell 1
  have hW : ∀ u, Grows V u → Below w.heap.size w u := fun u hu => kV.trans (Below.mono hu kV.size)
  have XK : ∀ u, Grows V u → Bs u ka kn kz key := fun u hu => hk.below (hW u hu) (Nat.le_refl _)
  have HX : Hid (∀ z x, ps[z]? = some x → ∃ b o kp km kc vp vm vc, pa = some ⟨b, o, none⟩ ∧ b < w.heap.size ∧ w.rangeAt b (o + z * 2) [.slice kp km kc, .slice vp vm vc] ∧ Bs w kp km kc x.key) := fun z x hx => by
    obtain ⟨b, o, vs, e1, e2, e3, e4, kp, km, kc, vp, vm, vc, rfl, e5, e6⟩ := hps.at (Below.refl _ _) hx
    exact ⟨b, o, kp, km, kc, vp, vm, vc, e1, e2, e3, e5.1⟩
  clear hps h hk hr
  generalize fstI (fun x => geB key x.key) ps = z at *
  by_cases hlt : z < pn
  · obtain ⟨x, hx⟩ : ∃ x, ps[z]? = some x := ⟨_, List.getElem?_eq_getElem (by omega)⟩
    rw [foundAt_some hx]
    obtain ⟨eq, heq⟩ : ∃ eq, decide (x.key = key) = eq := ⟨_, rfl⟩
    rw [heq]
    have HQ : Hid (decide (x.key = key) = eq) := heq
    clear heq
    obtain ⟨b, o, kp, km, kc, vp, vm, vc, ea, hlb, hrg, hB⟩ := HX.out z x hx
    subst ea
    have i0 : (z : Int) < (pn : Int) := by omega
    go_enter Try.func19, Try.ntmps19
    go_upto_region 1 with fail
    rw [← hV]
    clear hV
    go_wp2_with fail
    refine CF.out.mono ?_
    rintro e V1 ⟨rfl, g1⟩
    have g1 : Grows V V1 := g1
    have X1 : ∀ u, Grows V1 u → u.cell? ⟨w.heap.size, 1, none⟩ = some (.slice (some ⟨b, o, none⟩) pn pc) := fun u hu => (t1.below (Grows.trans g1 hu) t1.lt).cell 1
    have X2 : ∀ u, Grows V1 u → u.cell? ⟨w.heap.size + 1, 0, none⟩ = some (.slice ka kn kz) := fun u hu => (t2.below (Grows.trans g1 hu) t2.lt).cell 0
    have X3 : ∀ u, Grows V1 u → u.cell? ⟨b, o + z * 2, none⟩ = some (.slice kp km kc) := fun u hu => by have := rangeB hrg (hW u (Grows.trans g1 hu)) hlb 0 _ rfl; rwa [Nat.add_zero] at this
    have CE : Hid (∀ u, Grows V1 u → Calls Try.prog 61 #[.slice kp km kc, .slice ka kn kz] u fun e w' => e = .returned (.bool eq) ∧ Below u.heap.size u w') := fun u hu => (oEqualBy u (hB.below (hW u (Grows.trans g1 hu)) (Nat.le_refl _)) (XK u (Grows.trans g1 hu))).mono (by rintro e w' ⟨rfl, rfl⟩; exact ⟨by rw [HQ.out], Below.refl _ _⟩)
    clear CF c1 HX hx hB
    go_wp2_with fail
    refine regionG (S := Grows V1) (by kernel_rfl) (Below.refl _ V1).drew ?_
    refine takeG 0 (some 11) (.int .i64 (z : Int)) rfl rfl (by kernel_rfl) (by kernel_rfl) (by kernel_rfl) (fun _ _ _ h => h) (ans_plain (by rfl) (fun w _ => rfl)) ?_
    simp only [Act.put, List.setIfInBounds_toArray, List.set_cons_zero, List.set_cons_succ]
    refine takeG 1 (some 12) (.int .i64 (z : Int)) rfl rfl (by kernel_rfl) (by kernel_rfl) (by kernel_rfl) (fun _ _ _ h => h) (ans_plain (by rfl) (fun w _ => rfl)) ?_
    simp only [Act.put, List.setIfInBounds_toArray, List.set_cons_zero, List.set_cons_succ]
    refine takeG 2 (some 13) (.pointer (some ⟨w.heap.size, 1, none⟩)) rfl rfl (by kernel_rfl) (by kernel_rfl) (by kernel_rfl) (fun _ _ _ h => h) (ans_plain (by rfl) (fun w _ => by unfold execOp; go_simp)) ?_
    simp only [Act.put, List.setIfInBounds_toArray, List.set_cons_zero, List.set_cons_succ]
    refine takeG 3 (some 14) (.slice (some ⟨b, o, none⟩) pn pc) rfl rfl (by kernel_rfl) (by kernel_rfl) (by kernel_rfl) (fun _ _ _ h => h) (ans_plain (by rfl) (fun w h => by have hc := X1 w h; unfold execOp; go_simp)) ?_
    simp only [Act.put, List.setIfInBounds_toArray, List.set_cons_zero, List.set_cons_succ]
    refine takeG 4 (some 15) (.int .i64 (pn : Int)) rfl rfl (by kernel_rfl) (by kernel_rfl) (by kernel_rfl) (fun _ _ _ h => h) (ans_plain (by rfl) (fun w _ => by unfold execOp; go_simp)) ?_
    simp only [Act.put, List.setIfInBounds_toArray, List.set_cons_zero, List.set_cons_succ]
    refine takeG 5 (some 16) (.bool true) rfl rfl (by kernel_rfl) (by kernel_rfl) (by kernel_rfl) (fun _ _ _ h => h) (ans_plain (by rfl) (fun w _ => by unfold execOp; go_simp)) ?_
    simp only [Act.put, List.setIfInBounds_toArray, List.set_cons_zero, List.set_cons_succ]
    refine takeG 6 (some 17) (.bool true) rfl rfl (by kernel_rfl) (by kernel_rfl) (by kernel_rfl) (fun _ _ _ h => h) (ans_plain (by rfl) (fun w _ => rfl)) ?_
    simp only [Act.put, List.setIfInBounds_toArray, List.set_cons_zero, List.set_cons_succ]
    refine takeG 7 (some 18) (.pointer (some ⟨w.heap.size, 1, none⟩)) rfl rfl (by kernel_rfl) (by kernel_rfl) (by kernel_rfl) (fun _ _ _ h => h) (ans_plain (by rfl) (fun w _ => by unfold execOp; go_simp)) ?_
    simp only [Act.put, List.setIfInBounds_toArray, List.set_cons_zero, List.set_cons_succ]
    refine takeG 8 (some 19) (.slice (some ⟨b, o, none⟩) pn pc) rfl rfl (by kernel_rfl) (by kernel_rfl) (by kernel_rfl) (fun _ _ _ h => h) (ans_plain (by rfl) (fun w h => by have hc := X1 w h; unfold execOp; go_simp)) ?_
    simp only [Act.put, List.setIfInBounds_toArray, List.set_cons_zero, List.set_cons_succ]
    refine takeG 9 (some 20) (.int .i64 (z : Int)) rfl rfl (by kernel_rfl) (by kernel_rfl) (by kernel_rfl) (fun _ _ _ h => h) (ans_plain (by rfl) (fun w _ => rfl)) ?_
    simp only [Act.put, List.setIfInBounds_toArray, List.set_cons_zero, List.set_cons_succ]
    refine takeG 10 (some 21) (.pointer (some ⟨b, o + z * 2, none⟩)) rfl rfl (by kernel_rfl) (by kernel_rfl) (by kernel_rfl) (fun _ _ _ h => h) (ans_plain (by rfl) (fun w _ => by unfold execOp; go_simp)) ?_
    simp only [Act.put, List.setIfInBounds_toArray, List.set_cons_zero, List.set_cons_succ]
    refine takeG 11 (some 22) (.pointer (some ⟨b, o + z * 2, none⟩)) rfl rfl (by kernel_rfl) (by kernel_rfl) (by kernel_rfl) (fun _ _ _ h => h) (ans_plain (by rfl) (fun w _ => by unfold execOp; go_simp)) ?_
    simp only [Act.put, List.setIfInBounds_toArray, List.set_cons_zero, List.set_cons_succ]
    refine takeG 12 (some 23) (.slice kp km kc) rfl rfl (by kernel_rfl) (by kernel_rfl) (by kernel_rfl) (fun _ _ _ h => h) (ans_plain (by rfl) (fun w h => by have hc := X3 w h; unfold execOp; go_simp)) ?_
    simp only [Act.put, List.setIfInBounds_toArray, List.set_cons_zero, List.set_cons_succ]
    refine takeG 13 (some 24) (.slice ka kn kz) rfl rfl (by kernel_rfl) (by kernel_rfl) (by kernel_rfl) (fun _ _ _ h => h) (ans_plain (by rfl) (fun w h => by have hc := X2 w h; unfold execOp; go_simp)) ?_
    simp only [Act.put, List.setIfInBounds_toArray, List.set_cons_zero, List.set_cons_succ]
    refine takeG 14 (some 25) (.bool eq) rfl rfl (by kernel_rfl) (by kernel_rfl) (by kernel_rfl) (fun _ _ _ h => h) (ans_fn 61 #[.tmp 23, .tmp 24] #[26, 26] #[.slice kp km kc, .slice ka kn kz] rfl (by rfl) (by rfl) Try.call61 fun u hu => CE.out u hu) ?_
    simp only [Act.put, List.setIfInBounds_toArray, List.set_cons_zero, List.set_cons_succ]
    refine takeG 15 (some 26) (.bool eq) rfl rfl (by kernel_rfl) (by kernel_rfl) (by kernel_rfl) (fun _ _ _ h => h) (ans_plain (by rfl) (fun w _ => by unfold execOp; go_simp)) ?_
    simp only [Act.put, List.setIfInBounds_toArray, List.set_cons_zero, List.set_cons_succ]
    refine takeG 16 (some 4) (.int .i64 (z : Int)) rfl rfl (by kernel_rfl) (by kernel_rfl) (by kernel_rfl) (fun _ _ _ h => h) (ans_plain (by rfl) (fun w _ => rfl)) ?_
    simp only [Act.put, List.setIfInBounds_toArray, List.set_cons_zero, List.set_cons_succ]
    refine takeG 17 (some 5) (.bool eq) rfl rfl (by kernel_rfl) (by kernel_rfl) (by kernel_rfl) (fun _ _ _ h => h) (ans_plain (by rfl) (fun w _ => rfl)) ?_
    simp only [Act.put, List.setIfInBounds_toArray, List.set_cons_zero, List.set_cons_succ]
    refine doneG (by kernel_rfl) fun v6 hg_v6 hs_v6 => ?_
    have k6 : Below w.heap.size w v6 := hW v6 (Grows.trans g1 hs_v6)
    clear CE
    go_wp2_with fail
    go_ret2
    exact ⟨rfl, k6⟩
  · rw [foundAt_none (List.getElem?_eq_none (by omega))]
    have i0 : ¬ (z : Int) < (pn : Int) := by omega
    go_enter Try.func19, Try.ntmps19
    go_upto_region 1 with fail
    rw [← hV]
    clear hV
    go_wp2_with fail
    refine CF.out.mono ?_
    rintro e V1 ⟨rfl, g1⟩
    have g1 : Grows V V1 := g1
    have X1 : ∀ u, Grows V1 u → u.cell? ⟨w.heap.size, 1, none⟩ = some (.slice pa pn pc) := fun u hu => (t1.below (Grows.trans g1 hu) t1.lt).cell 1
    clear CF c1 HX
    go_wp2_with fail
    refine regionG (S := Grows V1) (by kernel_rfl) (Below.refl _ V1).drew ?_
    refine takeG 0 (some 11) (.int .i64 (z : Int)) rfl rfl (by kernel_rfl) (by kernel_rfl) (by kernel_rfl) (fun _ _ _ h => h) (ans_plain (by rfl) (fun w _ => rfl)) ?_
    simp only [Act.put, List.setIfInBounds_toArray, List.set_cons_zero, List.set_cons_succ]
    refine takeG 1 (some 12) (.int .i64 (z : Int)) rfl rfl (by kernel_rfl) (by kernel_rfl) (by kernel_rfl) (fun _ _ _ h => h) (ans_plain (by rfl) (fun w _ => rfl)) ?_
    simp only [Act.put, List.setIfInBounds_toArray, List.set_cons_zero, List.set_cons_succ]
    refine takeG 2 (some 13) (.pointer (some ⟨w.heap.size, 1, none⟩)) rfl rfl (by kernel_rfl) (by kernel_rfl) (by kernel_rfl) (fun _ _ _ h => h) (ans_plain (by rfl) (fun w _ => by unfold execOp; go_simp)) ?_
    simp only [Act.put, List.setIfInBounds_toArray, List.set_cons_zero, List.set_cons_succ]
    refine takeG 3 (some 14) (.slice pa pn pc) rfl rfl (by kernel_rfl) (by kernel_rfl) (by kernel_rfl) (fun _ _ _ h => h) (ans_plain (by rfl) (fun w h => by have hc := X1 w h; unfold execOp; go_simp)) ?_
    simp only [Act.put, List.setIfInBounds_toArray, List.set_cons_zero, List.set_cons_succ]
    refine takeG 4 (some 15) (.int .i64 (pn : Int)) rfl rfl (by kernel_rfl) (by kernel_rfl) (by kernel_rfl) (fun _ _ _ h => h) (ans_plain (by rfl) (fun w _ => by unfold execOp; go_simp)) ?_
    simp only [Act.put, List.setIfInBounds_toArray, List.set_cons_zero, List.set_cons_succ]
    refine takeG 5 (some 16) (.bool false) rfl rfl (by kernel_rfl) (by kernel_rfl) (by kernel_rfl) (fun _ _ _ h => h) (ans_plain (by rfl) (fun w _ => by unfold execOp; go_simp)) ?_
    simp only [Act.put, List.setIfInBounds_toArray, List.set_cons_zero, List.set_cons_succ]
    refine takeG 6 (some 17) (.bool false) rfl rfl (by kernel_rfl) (by kernel_rfl) (by kernel_rfl) (fun _ _ _ h => h) (ans_plain (by rfl) (fun w _ => rfl)) ?_
    simp only [Act.put, List.setIfInBounds_toArray, List.set_cons_zero, List.set_cons_succ]
    refine takeG 7 (some 18) (undef) rfl rfl (by kernel_rfl) (by kernel_rfl) (by kernel_rfl) (fun _ _ _ h => h) (Or.inr ⟨by rfl, rfl⟩) ?_
    simp only [Act.put, List.setIfInBounds_toArray, List.set_cons_zero, List.set_cons_succ]
    refine takeG 8 (some 19) (undef) rfl rfl (by kernel_rfl) (by kernel_rfl) (by kernel_rfl) (fun _ _ _ h => h) (Or.inr ⟨by rfl, rfl⟩) ?_
    simp only [Act.put, List.setIfInBounds_toArray, List.set_cons_zero, List.set_cons_succ]
    refine takeG 9 (some 20) (undef) rfl rfl (by kernel_rfl) (by kernel_rfl) (by kernel_rfl) (fun _ _ _ h => h) (Or.inr ⟨by rfl, rfl⟩) ?_
    simp only [Act.put, List.setIfInBounds_toArray, List.set_cons_zero, List.set_cons_succ]
    refine takeG 10 (some 21) (undef) rfl rfl (by kernel_rfl) (by kernel_rfl) (by kernel_rfl) (fun _ _ _ h => h) (Or.inr ⟨by rfl, rfl⟩) ?_
    simp only [Act.put, List.setIfInBounds_toArray, List.set_cons_zero, List.set_cons_succ]
    refine takeG 11 (some 22) (undef) rfl rfl (by kernel_rfl) (by kernel_rfl) (by kernel_rfl) (fun _ _ _ h => h) (Or.inr ⟨by rfl, rfl⟩) ?_
    simp only [Act.put, List.setIfInBounds_toArray, List.set_cons_zero, List.set_cons_succ]
    refine takeG 12 (some 23) (undef) rfl rfl (by kernel_rfl) (by kernel_rfl) (by kernel_rfl) (fun _ _ _ h => h) (Or.inr ⟨by rfl, rfl⟩) ?_
    simp only [Act.put, List.setIfInBounds_toArray, List.set_cons_zero, List.set_cons_succ]
    refine takeG 13 (some 24) (undef) rfl rfl (by kernel_rfl) (by kernel_rfl) (by kernel_rfl) (fun _ _ _ h => h) (Or.inr ⟨by rfl, rfl⟩) ?_
    simp only [Act.put, List.setIfInBounds_toArray, List.set_cons_zero, List.set_cons_succ]
    refine takeG 14 (some 25) (undef) rfl rfl (by kernel_rfl) (by kernel_rfl) (by kernel_rfl) (fun _ _ _ h => h) (Or.inr ⟨by rfl, rfl⟩) ?_
    simp only [Act.put, List.setIfInBounds_toArray, List.set_cons_zero, List.set_cons_succ]
    refine takeG 15 (some 26) (.bool false) rfl rfl (by kernel_rfl) (by kernel_rfl) (by kernel_rfl) (fun _ _ _ h => h) (ans_plain (by rfl) (fun w _ => by unfold execOp; go_simp)) ?_
    simp only [Act.put, List.setIfInBounds_toArray, List.set_cons_zero, List.set_cons_succ]
    refine takeG 16 (some 4) (.int .i64 (z : Int)) rfl rfl (by kernel_rfl) (by kernel_rfl) (by kernel_rfl) (fun _ _ _ h => h) (ans_plain (by rfl) (fun w _ => rfl)) ?_
    simp only [Act.put, List.setIfInBounds_toArray, List.set_cons_zero, List.set_cons_succ]
    refine takeG 17 (some 5) (.bool false) rfl rfl (by kernel_rfl) (by kernel_rfl) (by kernel_rfl) (fun _ _ _ h => h) (ans_plain (by rfl) (fun w _ => rfl)) ?_
    simp only [Act.put, List.setIfInBounds_toArray, List.set_cons_zero, List.set_cons_succ]
    refine doneG (by kernel_rfl) fun v6 hg_v6 hs_v6 => ?_
    have k6 : Below w.heap.size w v6 := hW v6 (Grows.trans g1 hs_v6)
    go_wp2_with fail
    go_ret2
    exact ⟨rfl, k6⟩
set_option maxRecDepth 100000 in
set_option maxHeartbeats 4000000 in
theorem oWayN (w : World) {A : Nat → Prop} {n : NodeS} {p q : Tri} (h : Nd A w n p q) (hn : n.kids.length ≤ 100000) (hr : riseB keyD n.kids = true) {ka : Option Addr} {kn kz : Nat} {key : List UInt8} (hk : Bs w ka kn kz key) : Calls Try.prog 21 #[ndv n p q, .slice ka kn kz] w fun e w' => e = .returned (.int .i64 (wayN n key : Nat)) ∧ Below w.heap.size w w' := by
  have l1 := h.lk
  have hks := h.ks
  unfold wayN
  have hz := fstI_le (fun x : KidS => gtB key x.key) n.kids
  obtain ⟨lf, ps, ks⟩ := n
  obtain ⟨pa, pn, pc⟩ := p
  obtain ⟨qa, qn, qc⟩ := q
  dsimp only at *
  unfold ndv ndc
  dsimp only
  obtain ⟨V, hV⟩ : ∃ V, V = (w.alloc (.cells (List.toArray [.bool lf, .slice pa pn pc, .slice qa qn qc]) 25)).alloc (.cells #[.slice ka kn kz] 26) := ⟨_, rfl⟩
  have t1 : Blk V w.heap.size [.bool lf, .slice pa pn pc, .slice qa qn qc] 25 := by rw [hV]; exact (Blk.newAt w _ _ w.heap.size rfl _ rfl).old _
  have t2 : Blk V (w.heap.size + 1) [.slice ka kn kz] 26 := by rw [hV]; exact Blk.newAt (w.alloc _) _ _ (w.heap.size + 1) (by simp) _ rfl
  have kV : Below w.heap.size w V := by rw [hV]; exact below2 _ _ _
  have CF : Hid (Calls Try.prog 62 #[.slice qa qn qc, .func (.func 63) #[] #[.pointer (some ⟨w.heap.size + 1, 0, none⟩)]] V fun e w' => e = .returned (.int .i64 (fstI (fun x => gtB key x.key) ks : Nat)) ∧ Below V.heap.size V w') := oFirstK V (hks.below kV) (by omega) hr t2 (hk.below kV (Nat.le_refl _))
  have c1 : V.cell? ⟨w.heap.size, 2, none⟩ = some (.slice qa qn qc) := t1.cell 2
  have hW : ∀ u, Grows V u → Below w.heap.size w u := fun u hu => kV.trans (Below.mono hu kV.size)
  clear hks h hk hr t1 t2
  generalize fstI (fun x => gtB key x.key) ks = z at *
  by_cases h0 : z = 0
  · subst h0
    go_enter Try.func21, Try.ntmps21
    go_upto_region 1 with fail
    rw [← hV]
    clear hV
    go_wp2_with fail
    refine CF.out.mono ?_
    rintro e V1 ⟨rfl, g1⟩
    have k6 := hW V1 g1
    clear CF
    go_wp2_with fail
    go_ret
    exact ⟨by first | rfl | simp | (simp; omega), k6⟩
  · obtain ⟨y, rfl⟩ : ∃ y, z = y + 1 := ⟨z - 1, by omega⟩
    have i1 : ((y + 1 : Nat) : Int) - 1 = (y : Int) := by omega
    have i2 : IntKind.i64.wrap (((y + 1 : Nat) : Int) - 1) = (y : Int) := by rw [IntKind.wrap_i64]; omega
    have i3 : IntKind.i64.wrap (y : Int) = (y : Int) := by rw [IntKind.wrap_i64]; omega
    have i4 : ¬ (y : Int) < 0 := by omega
    go_enter Try.func21, Try.ntmps21
    go_upto_region 1 with fail
    rw [← hV]
    clear hV
    go_wp2_with fail
    refine CF.out.mono ?_
    rintro e V1 ⟨rfl, g1⟩
    have k6 := hW V1 g1
    clear CF
    go_wp2_with fail
    go_ret
    exact ⟨by first | rfl | simp | (simp; omega), k6⟩

end Go.Proofs.Ytnmmopneacdgfaa

/-
  Contracts of layer 18's program: where a node is parted. Condition: keys and values of at most a thousand bytes, at most a hundred thousand things.
-/
namespace Go.Proofs.Ytnmmopneacdgfaa
open Go.RowKit
set_option linter.unusedVariables false
/-- The greater of both parts, where the first i things go ahead. -/
def greatL {α : Type} (f : α → Nat) (l : List α) (i : Nat) : Nat := if totL f (l.take i) < totL f l - totL f (l.take i) then totL f l - totL f (l.take i) else totL f (l.take i)
/-- The place, and how great the greater part is there, behind the first i places. -/
def prtL {α : Type} (f : α → Nat) (l : List α) : Nat → Nat × Nat
  | 0 => (0, 0)
  | k + 1 => if (prtL f l k).1 = 0 ∨ greatL f l (k + 1) < (prtL f l k).2 then (k + 1, greatL f l (k + 1)) else prtL f l k
def partI {α : Type} (f : α → Nat) (l : List α) : Nat := (prtL f l (l.length - 1)).1
set_option maxRecDepth 100000 in
set_option maxHeartbeats 4000000 in
theorem oPrtP (w : World) {A : Nat → Prop} {a : Option Addr} {n c : Nat} {l : List PairS} (h : SlP A w a n c l) (hs : ∀ x ∈ l, x.key.length ≤ 1000 ∧ x.value.length ≤ 1000) (hn : n ≤ 100000) : Calls Try.prog 64 #[.slice a n c, .func (.func 54) #[] #[]] w fun e w' => e = .returned (.int .i64 (partI psz l : Nat)) ∧ Below w.heap.size w w' := by
  have hln : l.length = n := h.len
  have hB : ∀ k x, l[k]? = some x → psz x ≤ 3000 := fun k x hx => by have := hs x (List.mem_of_getElem? hx); unfold psz; omega
  have hTT := totL_le psz (b := 3000) (l := l) fun x hx => by have := hs x hx; unfold psz; omega
  have HS : Hid (SlP A w a n c l) := h
  have CF : Hid (∀ (u : World) k x vs, l[k]? = some x → elPr A u x vs → Calls Try.prog 54 #[.agg vs.toArray] u fun e w' => e = .returned (.int .i64 (psz x : Nat)) ∧ Below u.heap.size u w') := fun u k x vs hx hv => oSzP u hv (hs x (List.mem_of_getElem? hx))
  have CT : Hid (Calls Try.prog 53 #[.slice a n c, .func (.func 54) #[] #[]] w fun e w' => e = .returned (.int .i64 (totL psz l : Nat)) ∧ Below w.heap.size w w') := oTotP w h hs hn
  have HR : Hid (∀ k, prtL psz l (k + 1) = if (prtL psz l k).1 = 0 ∨ greatL psz l (k + 1) < (prtL psz l k).2 then (k + 1, greatL psz l (k + 1)) else prtL psz l k) := fun k => rfl
  have HG : Hid (∀ i, greatL psz l i = if totL psz (l.take i) < totL psz l - totL psz (l.take i) then totL psz l - totL psz (l.take i) else totL psz (l.take i)) := fun i => rfl
  have HTT : Hid (∀ i, totL psz (l.take i) + totL psz (l.drop i) = totL psz l) := totL_parts psz l
  unfold partI
  generalize totL psz l = T at *
  clear h hs
  go_enter Try.func64, Try.ntmps64
  go_wp2_with fail
  refine CT.out.mono ?_
  rintro e w1 ⟨rfl, hb1⟩
  clear CT
  go_wp2_with fail
  go_loopw [5, 6, 7, 8, 9] (fun a5 a6 a7 a8 i wr => ∃ k : Nat, k + 1 ≤ n + 1 ∧ (k + 1 ≤ n ∨ k = 0) ∧ i = .int .i64 ((k : Int) + 1) ∧ (∃ t m : Nat, a5 = .int .i64 (t : Int) ∧ a6 = .int .i64 (m : Int) ∧ Hid (prtL psz l k = (t, m)) ∧ t ≤ k) ∧ (∃ x y : Nat, a7 = .int .i64 (x : Int) ∧ a8 = .int .i64 (y : Int) ∧ Hid (totL psz (l.take k) = x) ∧ x + y = T) ∧ Below w.heap.size w wr) (fun _ _ _ _ i _ => n + 1 - (intOf i).toNat)
  case atStart => exact ⟨0, by omega, Or.inr rfl, rfl, ⟨0, 0, rfl, rfl, rfl, Nat.le_refl _⟩, ⟨0, T, rfl, rfl, rfl, by omega⟩, hb1⟩
  case round =>
    obtain ⟨k, hk, hk0, rfl, ⟨t, m, rfl, rfl, HP, ht⟩, ⟨xa, ya, rfl, rfl, HX, hxy⟩, hb⟩ := hrel
    by_cases hlt : k + 1 < n
    · have i0 : (k : Int) + 1 < (n : Int) := by omega
      have i1 : (k : Int) < (n : Int) := by omega
      have i2 : IntKind.i64.wrap ((k : Int) + 1 - 1) = (k : Int) := by rw [IntKind.wrap_i64]; omega
      have i3 : IntKind.i64.wrap ((k : Int) + 1 + 1) = ((k + 1 : Nat) : Int) + 1 := by rw [IntKind.wrap_i64]; omega
      have i5 : IntKind.i64.wrap (k : Int) = (k : Int) := by rw [IntKind.wrap_i64]; omega
      have i6 : ¬ (k : Int) + 1 < 0 := by omega
      obtain ⟨x, hx⟩ : ∃ x, l[k]? = some x := ⟨_, List.getElem?_eq_getElem (by omega)⟩
      have hp := hB k x hx
      have hs1 := totL_snoc psz hx
      obtain ⟨b, o, vs, ea, hlb, hrg, hvl, hel⟩ := HS.out.at hb hx
      have hel0 := hel
      obtain ⟨kp, km, kc, vp, vm, vc, rfl, hB1, hB2⟩ := hel
      subst ea
      have hK : Hid (∀ u, Below wr.heap.size wr u → Calls Try.prog 54 #[.agg (List.toArray [.slice kp km kc, .slice vp vm vc])] u fun e w' => e = .returned (.int .i64 (psz x : Nat)) ∧ Below u.heap.size u w') := fun u hu => CF.out u k x _ hx (elPr.below hu x _ hel0)
      have hgk := HG.out (k + 1)
      have hrk := HR.out k
      rw [HP.out] at hrk
      dsimp only at hrk
      rw [HX.out] at hs1
      have hzT : psz x ≤ ya := by
        have : totL psz (l.take (k + 1)) ≤ T := by
          have e := HTT.out (k + 1)
          omega
        omega
      rw [hs1] at hgk
      obtain ⟨xb, hxb⟩ : ∃ v, v = xa + psz x := ⟨_, rfl⟩
      obtain ⟨yb, hyb⟩ : ∃ v, v = ya - psz x := ⟨_, rfl⟩
      rw [← hxb] at hs1 hgk
      rw [show T - xb = yb from by omega] at hgk
      generalize psz x = z at *
      have j1 : IntKind.i64.wrap ((xa : Int) + (z : Int)) = (xb : Int) := by rw [IntKind.wrap_i64]; omega
      have j2 : IntKind.i64.wrap ((ya : Int) - (z : Int)) = (yb : Int) := by rw [IntKind.wrap_i64]; omega
      have hxyb : xb + yb = T := by omega
      have HX2 : Hid (totL psz (l.take (k + 1)) = xb) := hs1
      clear hs1 hel0 HX HP hB1 hxb hyb hx hzT HS CF hvl
      generalize greatL psz l (k + 1) = G at *
      by_cases hm : xb < yb
      · have m1 : (xb : Int) < (yb : Int) := by omega
        rw [if_pos hm] at hgk
        rw [hgk] at hrk
        clear hgk
        by_cases h0 : t = 0
        · subst h0
          have HQ : Hid (prtL psz l (k + 1) = (k + 1, yb)) := by show _ = _; rw [hrk, if_pos (Or.inl rfl)]
          clear hrk
          go_wp2_with ((with_reducible refine at_ld 44 ?_); (refine ld 44 (.tmp 25) 2 sizePr _ Try.underlying44 rfl b (o + k * 2) [.slice kp km kc, .slice vp vm vc] rfl hrg rfl ?_))
          refine (hK.out wr (Below.refl _ _)).mono ?_
          rintro e v6 ⟨rfl, hb6⟩
          have k7 : Below w.heap.size w v6 := hb.trans (hb6.mono hb.size)
          clear hK hb6 hrg hb
          go_wp2_with fail
          go_roundw
          case rel => exact ⟨k + 1, by omega, Or.inl (by omega), by first | rfl | go_num, ⟨k + 1, yb, by first | rfl | go_num, rfl, HQ, by omega⟩, ⟨xb, yb, rfl, rfl, HX2, hxyb⟩, k7⟩
          case measure => simp [intOf]; omega
        · by_cases h1 : yb < m
          · have q1 : ((t : Int) == 0) = false := by simp [h0]
            have q0 : ¬ (t : Int) = 0 := by omega
            have q2 : (yb : Int) < (m : Int) := by omega
            have HQ : Hid (prtL psz l (k + 1) = (k + 1, yb)) := by show _ = _; rw [hrk, if_pos (Or.inr h1)]
            clear hrk h0 h1
            go_wp2_with ((with_reducible refine at_ld 44 ?_); (refine ld 44 (.tmp 25) 2 sizePr _ Try.underlying44 rfl b (o + k * 2) [.slice kp km kc, .slice vp vm vc] rfl hrg rfl ?_))
            refine (hK.out wr (Below.refl _ _)).mono ?_
            rintro e v6 ⟨rfl, hb6⟩
            have k7 : Below w.heap.size w v6 := hb.trans (hb6.mono hb.size)
            clear hK hb6 hrg hb
            go_wp2_with fail
            go_roundw
            case rel => exact ⟨k + 1, by omega, Or.inl (by omega), by first | rfl | go_num, ⟨k + 1, yb, by first | rfl | go_num, rfl, HQ, by omega⟩, ⟨xb, yb, rfl, rfl, HX2, hxyb⟩, k7⟩
            case measure => simp [intOf]; omega
          · have q1 : ((t : Int) == 0) = false := by simp [h0]
            have q0 : ¬ (t : Int) = 0 := by omega
            have q2 : ¬ (yb : Int) < (m : Int) := by omega
            have HQ : Hid (prtL psz l (k + 1) = (t, m)) := by show _ = _; rw [hrk, if_neg (fun hh => hh.elim h0 h1)]
            clear hrk h0 h1
            go_wp2_with ((with_reducible refine at_ld 44 ?_); (refine ld 44 (.tmp 25) 2 sizePr _ Try.underlying44 rfl b (o + k * 2) [.slice kp km kc, .slice vp vm vc] rfl hrg rfl ?_))
            refine (hK.out wr (Below.refl _ _)).mono ?_
            rintro e v6 ⟨rfl, hb6⟩
            have k7 : Below w.heap.size w v6 := hb.trans (hb6.mono hb.size)
            clear hK hb6 hrg hb
            go_wp2_with fail
            go_roundw
            case rel => exact ⟨k + 1, by omega, Or.inl (by omega), by first | rfl | go_num, ⟨t, m, by first | rfl | go_num, rfl, HQ, by omega⟩, ⟨xb, yb, rfl, rfl, HX2, hxyb⟩, k7⟩
            case measure => simp [intOf]; omega
      · have m1 : ¬ (xb : Int) < (yb : Int) := by omega
        rw [if_neg hm] at hgk
        rw [hgk] at hrk
        clear hgk
        by_cases h0 : t = 0
        · subst h0
          have HQ : Hid (prtL psz l (k + 1) = (k + 1, xb)) := by show _ = _; rw [hrk, if_pos (Or.inl rfl)]
          clear hrk
          go_wp2_with ((with_reducible refine at_ld 44 ?_); (refine ld 44 (.tmp 25) 2 sizePr _ Try.underlying44 rfl b (o + k * 2) [.slice kp km kc, .slice vp vm vc] rfl hrg rfl ?_))
          refine (hK.out wr (Below.refl _ _)).mono ?_
          rintro e v6 ⟨rfl, hb6⟩
          have k7 : Below w.heap.size w v6 := hb.trans (hb6.mono hb.size)
          clear hK hb6 hrg hb
          go_wp2_with fail
          go_roundw
          case rel => exact ⟨k + 1, by omega, Or.inl (by omega), by first | rfl | go_num, ⟨k + 1, xb, by first | rfl | go_num, rfl, HQ, by omega⟩, ⟨xb, yb, rfl, rfl, HX2, hxyb⟩, k7⟩
          case measure => simp [intOf]; omega
        · by_cases h1 : xb < m
          · have q1 : ((t : Int) == 0) = false := by simp [h0]
            have q0 : ¬ (t : Int) = 0 := by omega
            have q2 : (xb : Int) < (m : Int) := by omega
            have HQ : Hid (prtL psz l (k + 1) = (k + 1, xb)) := by show _ = _; rw [hrk, if_pos (Or.inr h1)]
            clear hrk h0 h1
            go_wp2_with ((with_reducible refine at_ld 44 ?_); (refine ld 44 (.tmp 25) 2 sizePr _ Try.underlying44 rfl b (o + k * 2) [.slice kp km kc, .slice vp vm vc] rfl hrg rfl ?_))
            refine (hK.out wr (Below.refl _ _)).mono ?_
            rintro e v6 ⟨rfl, hb6⟩
            have k7 : Below w.heap.size w v6 := hb.trans (hb6.mono hb.size)
            clear hK hb6 hrg hb
            go_wp2_with fail
            go_roundw
            case rel => exact ⟨k + 1, by omega, Or.inl (by omega), by first | rfl | go_num, ⟨k + 1, xb, by first | rfl | go_num, rfl, HQ, by omega⟩, ⟨xb, yb, rfl, rfl, HX2, hxyb⟩, k7⟩
            case measure => simp [intOf]; omega
          · have q1 : ((t : Int) == 0) = false := by simp [h0]
            have q0 : ¬ (t : Int) = 0 := by omega
            have q2 : ¬ (xb : Int) < (m : Int) := by omega
            have HQ : Hid (prtL psz l (k + 1) = (t, m)) := by show _ = _; rw [hrk, if_neg (fun hh => hh.elim h0 h1)]
            clear hrk h0 h1
            go_wp2_with ((with_reducible refine at_ld 44 ?_); (refine ld 44 (.tmp 25) 2 sizePr _ Try.underlying44 rfl b (o + k * 2) [.slice kp km kc, .slice vp vm vc] rfl hrg rfl ?_))
            refine (hK.out wr (Below.refl _ _)).mono ?_
            rintro e v6 ⟨rfl, hb6⟩
            have k7 : Below w.heap.size w v6 := hb.trans (hb6.mono hb.size)
            clear hK hb6 hrg hb
            go_wp2_with fail
            go_roundw
            case rel => exact ⟨k + 1, by omega, Or.inl (by omega), by first | rfl | go_num, ⟨t, m, by first | rfl | go_num, rfl, HQ, by omega⟩, ⟨xb, yb, rfl, rfl, HX2, hxyb⟩, k7⟩
            case measure => simp [intOf]; omega
    · have i0 : ¬ (k : Int) + 1 < (n : Int) := by omega
      have HN : Hid ((prtL psz l (n - 1)).1 = t) := by
        have e : n - 1 = k := by omega
        show _ = _
        rw [e, HP.out]
      clear HP HX HG HR CF HS HTT
      go_wp2_with fail
      go_ret
      exact ⟨by rw [HN.out]; rfl, hb⟩
set_option maxRecDepth 100000 in
set_option maxHeartbeats 4000000 in
theorem oPrtK (w : World) {A : Nat → Prop} {a : Option Addr} {n c : Nat} {l : List KidS} (h : SlD A w a n c l) (hs : ∀ x ∈ l, x.key.length ≤ 1000) (hn : n ≤ 100000) : Calls Try.prog 65 #[.slice a n c, .func (.func 56) #[] #[]] w fun e w' => e = .returned (.int .i64 (partI ksz l : Nat)) ∧ Below w.heap.size w w' := by
  have hln : l.length = n := h.len
  have hB : ∀ k x, l[k]? = some x → ksz x ≤ 3000 := fun k x hx => by have := hs x (List.mem_of_getElem? hx); unfold ksz; omega
  have hTT := totL_le ksz (b := 3000) (l := l) fun x hx => by have := hs x hx; unfold ksz; omega
  have HS : Hid (SlD A w a n c l) := h
  have CF : Hid (∀ (u : World) k x vs, l[k]? = some x → elKd A u x vs → Calls Try.prog 56 #[.agg vs.toArray] u fun e w' => e = .returned (.int .i64 (ksz x : Nat)) ∧ Below u.heap.size u w') := fun u k x vs hx hv => oSzK u hv (hs x (List.mem_of_getElem? hx))
  have CT : Hid (Calls Try.prog 55 #[.slice a n c, .func (.func 56) #[] #[]] w fun e w' => e = .returned (.int .i64 (totL ksz l : Nat)) ∧ Below w.heap.size w w') := oTotK w h hs hn
  have HR : Hid (∀ k, prtL ksz l (k + 1) = if (prtL ksz l k).1 = 0 ∨ greatL ksz l (k + 1) < (prtL ksz l k).2 then (k + 1, greatL ksz l (k + 1)) else prtL ksz l k) := fun k => rfl
  have HG : Hid (∀ i, greatL ksz l i = if totL ksz (l.take i) < totL ksz l - totL ksz (l.take i) then totL ksz l - totL ksz (l.take i) else totL ksz (l.take i)) := fun i => rfl
  have HTT : Hid (∀ i, totL ksz (l.take i) + totL ksz (l.drop i) = totL ksz l) := totL_parts ksz l
  unfold partI
  generalize totL ksz l = T at *
  clear h hs
  go_enter Try.func65, Try.ntmps65
  go_wp2_with fail
  refine CT.out.mono ?_
  rintro e w1 ⟨rfl, hb1⟩
  clear CT
  go_wp2_with fail
  go_loopw [5, 6, 7, 8, 9] (fun a5 a6 a7 a8 i wr => ∃ k : Nat, k + 1 ≤ n + 1 ∧ (k + 1 ≤ n ∨ k = 0) ∧ i = .int .i64 ((k : Int) + 1) ∧ (∃ t m : Nat, a5 = .int .i64 (t : Int) ∧ a6 = .int .i64 (m : Int) ∧ Hid (prtL ksz l k = (t, m)) ∧ t ≤ k) ∧ (∃ x y : Nat, a7 = .int .i64 (x : Int) ∧ a8 = .int .i64 (y : Int) ∧ Hid (totL ksz (l.take k) = x) ∧ x + y = T) ∧ Below w.heap.size w wr) (fun _ _ _ _ i _ => n + 1 - (intOf i).toNat)
  case atStart => exact ⟨0, by omega, Or.inr rfl, rfl, ⟨0, 0, rfl, rfl, rfl, Nat.le_refl _⟩, ⟨0, T, rfl, rfl, rfl, by omega⟩, hb1⟩
  case round =>
    obtain ⟨k, hk, hk0, rfl, ⟨t, m, rfl, rfl, HP, ht⟩, ⟨xa, ya, rfl, rfl, HX, hxy⟩, hb⟩ := hrel
    by_cases hlt : k + 1 < n
    · have i0 : (k : Int) + 1 < (n : Int) := by omega
      have i1 : (k : Int) < (n : Int) := by omega
      have i2 : IntKind.i64.wrap ((k : Int) + 1 - 1) = (k : Int) := by rw [IntKind.wrap_i64]; omega
      have i3 : IntKind.i64.wrap ((k : Int) + 1 + 1) = ((k + 1 : Nat) : Int) + 1 := by rw [IntKind.wrap_i64]; omega
      have i5 : IntKind.i64.wrap (k : Int) = (k : Int) := by rw [IntKind.wrap_i64]; omega
      have i6 : ¬ (k : Int) + 1 < 0 := by omega
      obtain ⟨x, hx⟩ : ∃ x, l[k]? = some x := ⟨_, List.getElem?_eq_getElem (by omega)⟩
      have hp := hB k x hx
      have hs1 := totL_snoc ksz hx
      obtain ⟨b, o, vs, ea, hlb, hrg, hvl, hel⟩ := HS.out.at hb hx
      have hel0 := hel
      obtain ⟨kp, km, kc, rfl, hB1, hp6, he6⟩ := hel
      subst ea
      have hK : Hid (∀ u, Below wr.heap.size wr u → Calls Try.prog 56 #[.agg (List.toArray [.slice kp km kc, .int .i64 x.page, .int .i64 x.epoch])] u fun e w' => e = .returned (.int .i64 (ksz x : Nat)) ∧ Below u.heap.size u w') := fun u hu => CF.out u k x _ hx (elKd.below hu x _ hel0)
      have hgk := HG.out (k + 1)
      have hrk := HR.out k
      rw [HP.out] at hrk
      dsimp only at hrk
      rw [HX.out] at hs1
      have hzT : ksz x ≤ ya := by
        have : totL ksz (l.take (k + 1)) ≤ T := by
          have e := HTT.out (k + 1)
          omega
        omega
      rw [hs1] at hgk
      obtain ⟨xb, hxb⟩ : ∃ v, v = xa + ksz x := ⟨_, rfl⟩
      obtain ⟨yb, hyb⟩ : ∃ v, v = ya - ksz x := ⟨_, rfl⟩
      rw [← hxb] at hs1 hgk
      rw [show T - xb = yb from by omega] at hgk
      generalize ksz x = z at *
      have j1 : IntKind.i64.wrap ((xa : Int) + (z : Int)) = (xb : Int) := by rw [IntKind.wrap_i64]; omega
      have j2 : IntKind.i64.wrap ((ya : Int) - (z : Int)) = (yb : Int) := by rw [IntKind.wrap_i64]; omega
      have hxyb : xb + yb = T := by omega
      have HX2 : Hid (totL ksz (l.take (k + 1)) = xb) := hs1
      clear hs1 hel0 HX HP hB1 hxb hyb hx hzT HS CF hvl
      generalize greatL ksz l (k + 1) = G at *
      by_cases hm : xb < yb
      · have m1 : (xb : Int) < (yb : Int) := by omega
        rw [if_pos hm] at hgk
        rw [hgk] at hrk
        clear hgk
        by_cases h0 : t = 0
        · subst h0
          have HQ : Hid (prtL ksz l (k + 1) = (k + 1, yb)) := by show _ = _; rw [hrk, if_pos (Or.inl rfl)]
          clear hrk
          go_wp2_with ((with_reducible refine at_ld 46 ?_); (refine ld 46 (.tmp 25) 3 sizeKd _ Try.underlying46 rfl b (o + k * 3) [.slice kp km kc, .int .i64 x.page, .int .i64 x.epoch] rfl hrg rfl ?_))
          refine (hK.out wr (Below.refl _ _)).mono ?_
          rintro e v6 ⟨rfl, hb6⟩
          have k7 : Below w.heap.size w v6 := hb.trans (hb6.mono hb.size)
          clear hK hb6 hrg hb
          go_wp2_with fail
          go_roundw
          case rel => exact ⟨k + 1, by omega, Or.inl (by omega), by first | rfl | go_num, ⟨k + 1, yb, by first | rfl | go_num, rfl, HQ, by omega⟩, ⟨xb, yb, rfl, rfl, HX2, hxyb⟩, k7⟩
          case measure => simp [intOf]; omega
        · by_cases h1 : yb < m
          · have q1 : ((t : Int) == 0) = false := by simp [h0]
            have q0 : ¬ (t : Int) = 0 := by omega
            have q2 : (yb : Int) < (m : Int) := by omega
            have HQ : Hid (prtL ksz l (k + 1) = (k + 1, yb)) := by show _ = _; rw [hrk, if_pos (Or.inr h1)]
            clear hrk h0 h1
            go_wp2_with ((with_reducible refine at_ld 46 ?_); (refine ld 46 (.tmp 25) 3 sizeKd _ Try.underlying46 rfl b (o + k * 3) [.slice kp km kc, .int .i64 x.page, .int .i64 x.epoch] rfl hrg rfl ?_))
            refine (hK.out wr (Below.refl _ _)).mono ?_
            rintro e v6 ⟨rfl, hb6⟩
            have k7 : Below w.heap.size w v6 := hb.trans (hb6.mono hb.size)
            clear hK hb6 hrg hb
            go_wp2_with fail
            go_roundw
            case rel => exact ⟨k + 1, by omega, Or.inl (by omega), by first | rfl | go_num, ⟨k + 1, yb, by first | rfl | go_num, rfl, HQ, by omega⟩, ⟨xb, yb, rfl, rfl, HX2, hxyb⟩, k7⟩
            case measure => simp [intOf]; omega
          · have q1 : ((t : Int) == 0) = false := by simp [h0]
            have q0 : ¬ (t : Int) = 0 := by omega
            have q2 : ¬ (yb : Int) < (m : Int) := by omega
            have HQ : Hid (prtL ksz l (k + 1) = (t, m)) := by show _ = _; rw [hrk, if_neg (fun hh => hh.elim h0 h1)]
            clear hrk h0 h1
            go_wp2_with ((with_reducible refine at_ld 46 ?_); (refine ld 46 (.tmp 25) 3 sizeKd _ Try.underlying46 rfl b (o + k * 3) [.slice kp km kc, .int .i64 x.page, .int .i64 x.epoch] rfl hrg rfl ?_))
            refine (hK.out wr (Below.refl _ _)).mono ?_
            rintro e v6 ⟨rfl, hb6⟩
            have k7 : Below w.heap.size w v6 := hb.trans (hb6.mono hb.size)
            clear hK hb6 hrg hb
            go_wp2_with fail
            go_roundw
            case rel => exact ⟨k + 1, by omega, Or.inl (by omega), by first | rfl | go_num, ⟨t, m, by first | rfl | go_num, rfl, HQ, by omega⟩, ⟨xb, yb, rfl, rfl, HX2, hxyb⟩, k7⟩
            case measure => simp [intOf]; omega
      · have m1 : ¬ (xb : Int) < (yb : Int) := by omega
        rw [if_neg hm] at hgk
        rw [hgk] at hrk
        clear hgk
        by_cases h0 : t = 0
        · subst h0
          have HQ : Hid (prtL ksz l (k + 1) = (k + 1, xb)) := by show _ = _; rw [hrk, if_pos (Or.inl rfl)]
          clear hrk
          go_wp2_with ((with_reducible refine at_ld 46 ?_); (refine ld 46 (.tmp 25) 3 sizeKd _ Try.underlying46 rfl b (o + k * 3) [.slice kp km kc, .int .i64 x.page, .int .i64 x.epoch] rfl hrg rfl ?_))
          refine (hK.out wr (Below.refl _ _)).mono ?_
          rintro e v6 ⟨rfl, hb6⟩
          have k7 : Below w.heap.size w v6 := hb.trans (hb6.mono hb.size)
          clear hK hb6 hrg hb
          go_wp2_with fail
          go_roundw
          case rel => exact ⟨k + 1, by omega, Or.inl (by omega), by first | rfl | go_num, ⟨k + 1, xb, by first | rfl | go_num, rfl, HQ, by omega⟩, ⟨xb, yb, rfl, rfl, HX2, hxyb⟩, k7⟩
          case measure => simp [intOf]; omega
        · by_cases h1 : xb < m
          · have q1 : ((t : Int) == 0) = false := by simp [h0]
            have q0 : ¬ (t : Int) = 0 := by omega
            have q2 : (xb : Int) < (m : Int) := by omega
            have HQ : Hid (prtL ksz l (k + 1) = (k + 1, xb)) := by show _ = _; rw [hrk, if_pos (Or.inr h1)]
            clear hrk h0 h1
            go_wp2_with ((with_reducible refine at_ld 46 ?_); (refine ld 46 (.tmp 25) 3 sizeKd _ Try.underlying46 rfl b (o + k * 3) [.slice kp km kc, .int .i64 x.page, .int .i64 x.epoch] rfl hrg rfl ?_))
            refine (hK.out wr (Below.refl _ _)).mono ?_
            rintro e v6 ⟨rfl, hb6⟩
            have k7 : Below w.heap.size w v6 := hb.trans (hb6.mono hb.size)
            clear hK hb6 hrg hb
            go_wp2_with fail
            go_roundw
            case rel => exact ⟨k + 1, by omega, Or.inl (by omega), by first | rfl | go_num, ⟨k + 1, xb, by first | rfl | go_num, rfl, HQ, by omega⟩, ⟨xb, yb, rfl, rfl, HX2, hxyb⟩, k7⟩
            case measure => simp [intOf]; omega
          · have q1 : ((t : Int) == 0) = false := by simp [h0]
            have q0 : ¬ (t : Int) = 0 := by omega
            have q2 : ¬ (xb : Int) < (m : Int) := by omega
            have HQ : Hid (prtL ksz l (k + 1) = (t, m)) := by show _ = _; rw [hrk, if_neg (fun hh => hh.elim h0 h1)]
            clear hrk h0 h1
            go_wp2_with ((with_reducible refine at_ld 46 ?_); (refine ld 46 (.tmp 25) 3 sizeKd _ Try.underlying46 rfl b (o + k * 3) [.slice kp km kc, .int .i64 x.page, .int .i64 x.epoch] rfl hrg rfl ?_))
            refine (hK.out wr (Below.refl _ _)).mono ?_
            rintro e v6 ⟨rfl, hb6⟩
            have k7 : Below w.heap.size w v6 := hb.trans (hb6.mono hb.size)
            clear hK hb6 hrg hb
            go_wp2_with fail
            go_roundw
            case rel => exact ⟨k + 1, by omega, Or.inl (by omega), by first | rfl | go_num, ⟨t, m, by first | rfl | go_num, rfl, HQ, by omega⟩, ⟨xb, yb, rfl, rfl, HX2, hxyb⟩, k7⟩
            case measure => simp [intOf]; omega
    · have i0 : ¬ (k : Int) + 1 < (n : Int) := by omega
      have HN : Hid ((prtL ksz l (n - 1)).1 = t) := by
        have e : n - 1 = k := by omega
        show _ = _
        rw [e, HP.out]
      clear HP HX HG HR CF HS HTT
      go_wp2_with fail
      go_ret
      exact ⟨by rw [HN.out]; rfl, hb⟩

end Go.Proofs.Ytnmmopneacdgfaa

/-
  The contract of bytes.Clone. Condition: at most a million bytes.
-/
namespace Go.Proofs.Ytnmmopneacdgfaa
open Go.RowKit

theorem eqNilB (w : World) : Sem.run Try.prog (binOp .eql 26 (.slice none 0 0) (.slice none 0 0)) w = .ok (.bool true) w := by kernel_rfl
theorem eqSomeB (w : World) (x : Addr) (n c : Nat) : Sem.run Try.prog (binOp .eql 26 (.slice (some x) n c) (.slice none 0 0)) w = .ok (.bool false) w := by kernel_rfl
theorem Own.lit0 (w : World) : Own (w.alloc (.cells #[] 5)) w.heap.size (.slice (some ⟨w.heap.size, 0, none⟩) 0 0) [] := by
  unfold Own
  exact World.ownsRow_lit w #[] 0 (Nat.le_refl _) (by unfold maxLen; omega) (by simp)
set_option maxRecDepth 100000 in
theorem oCloneB (w : World) {a : Option Addr} {n c : Nat} {l : List UInt8} (h : Bs w a n c l) (hn : n ≤ 1000000) : Calls Try.prog 84 #[.slice a n c] w (Gives w l) := by
  cases a with
  | none =>
    have hc := h.2.2.2.1 rfl
    have hcap := h.cap
    obtain rfl : n = 0 := by omega
    subst hc
    obtain rfl : l = [] := List.length_eq_zero_iff.1 h.len
    clear h
    have hq := eqNilB
    go_enter Try.func84, Try.ntmps84
    go_wp2_with fail
    go_ret
    exact ⟨none, 0, 0, rfl, Own.nil _ _, Below.refl _ _⟩
  | some x =>
    have hl := h.len
    have H : Hid (Bs (w.alloc (.cells #[] 5)) (some x) n c l) := h.below (below_alloc _ _) (Nat.le_refl _)
    have H0 : Hid (Own (w.alloc (.cells #[] 5)) w.heap.size (.slice (some ⟨w.heap.size, 0, none⟩) 0 0) []) := Own.lit0 w
    clear h
    have hq := eqSomeB
    go_enter Try.func84, Try.ntmps84
    go_wp2_with (at_builtin; refine wpList_app _ rfl (.tmp 5) (.tmp 6) rfl w.heap.size _ [] rfl H0.out (some x) n c l rfl H.out (by simp; omega) (by simp) ?_; intro v1 w1 o1 b1; obtain ⟨a1, m1, c1, rfl⟩ : ∃ a1 m1 c1, v1 = .slice a1 m1 c1 := (by obtain ⟨a1, c1, e1, _⟩ := o1.bs; exact ⟨_, _, _, e1⟩))
    go_ret
    rw [List.nil_append] at o1
    exact ⟨a1, m1, c1, rfl, o1, (below_alloc _ _).trans b1⟩

end Go.Proofs.Ytnmmopneacdgfaa

/-
  Contracts of layer 18's program: a pair, a kid copied. Condition: keys and values of at most a million bytes.
-/
namespace Go.Proofs.Ytnmmopneacdgfaa
open Go.RowKit
set_option linter.unusedVariables false
theorem Kp.newBelow {w u u' : World} {g : Nat} (h : Below w.heap.size w u) (k : Kp (fun j => j = g) u u') (hg : w.heap.size ≤ g) : Below w.heap.size w u' :=
  ⟨k.os.trans h.os, k.tape.trans h.tape, k.output.trans h.output, Nat.le_trans h.size k.size, fun j hj => (k.block j (Nat.lt_of_lt_of_le hj h.size) (fun e => by omega)).trans (h.block j hj)⟩
theorem B5.turn' {A : Nat → Prop} {w w' : World} {p : Option Addr} {m q : Nat} {b : List UInt8} {r : Nat} (h : B5 A w p m q b) (k : w.grownBy w' (some r)) (hr : ¬ A r) : B5 A w' p m q b :=
  h.keep fun j _ _ ha hh => k.block j (Array.getElem?_eq_some_iff.1 hh).1 (fun e => hr (by rw [← Option.some.inj e]; exact ha))
set_option maxRecDepth 100000 in
set_option maxHeartbeats 4000000 in
theorem oCpP (w : World) {A : Nat → Prop} {x : PairS} {vs : List Value} (h : elPr A w x vs) (hk : x.key.length ≤ 1000 ∧ x.value.length ≤ 1000) : Calls Try.prog 67 #[.agg vs.toArray] w fun e w' => ∃ kp km kc vp vm vc, e = .returned (.agg (List.toArray [.slice kp km kc, .slice vp vm vc])) ∧ elPr5 (fun j => w.heap.size ≤ j) w' x [.slice kp km kc, .slice vp vm vc] ∧ Below w.heap.size w w' := by
  obtain ⟨kp, km, kc, vp, vm, vc, rfl, hB1, hB2⟩ := h
  have e1 : x.key.length = km := hB1.1.len
  have e2 : x.value.length = vm := hB2.1.len
  obtain ⟨V, hV⟩ : ∃ V, V = (w.alloc (.cells #[.slice kp km kc, .slice vp vm vc] 44)).alloc (.cells #[.slice none 0 0, .slice none 0 0] 44) := ⟨_, rfl⟩
  have t1 : Blk V w.heap.size [.slice kp km kc, .slice vp vm vc] 44 := by rw [hV]; exact (Blk.newAt w _ _ w.heap.size rfl _ rfl).old _
  have t2 : Blk V (w.heap.size + 1) [.slice none 0 0, .slice none 0 0] 44 := by rw [hV]; exact Blk.newAt (w.alloc _) _ _ (w.heap.size + 1) (by simp) _ rfl
  have kV : Below w.heap.size w V := by rw [hV]; exact below2 _ _ _
  have sV : V.heap.size = w.heap.size + 2 := by rw [hV]; simp
  have X0 : ∀ u, Grows V u → u.cell? ⟨w.heap.size, 0, none⟩ = some (.slice kp km kc) := fun u hu => (t1.below hu t1.lt).cell 0
  have X1 : ∀ u, Grows V u → u.cell? ⟨w.heap.size, 1, none⟩ = some (.slice vp vm vc) := fun u hu => (t1.below hu t1.lt).cell 1
  have YK : ∀ u, Grows V u → Bs u kp km kc x.key := fun u hu => hB1.1.below (kV.trans (Below.mono hu kV.size)) (Nat.le_refl _)
  have YV : ∀ u, Grows V u → Bs u vp vm vc x.value := fun u hu => hB2.1.below (kV.trans (Below.mono hu kV.size)) (Nat.le_refl _)
  clear hB1 hB2
  go_enter Try.func67, Try.ntmps67
  go_upto_region 1 with fail
  rw [← hV]
  clear hV
  refine regionE 7 (S := Grows V) (by kernel_rfl) (Below.refl _ V).drew ?_
  refine takeT 0 (some 3) (.pointer (some ⟨w.heap.size, 0, none⟩)) rfl rfl (by kernel_rfl) (fun _ _ _ h => h) (ans_plain (by rfl) (fun w _ => by unfold execOp; go_simp)) ?_
  simp only [Act.put, List.setIfInBounds_toArray, List.set_cons_zero, List.set_cons_succ]
  refine takeT 1 (some 4) (.slice kp km kc) rfl rfl (by kernel_rfl) (fun _ _ _ h => h) (ans_plain (by rfl) (fun w h => by have hc := X0 w h; unfold execOp; go_simp)) ?_
  simp only [Act.put, List.setIfInBounds_toArray, List.set_cons_zero, List.set_cons_succ]
  refine takeT 3 (some 6) (.pointer (some ⟨w.heap.size, 1, none⟩)) rfl rfl (by kernel_rfl) (fun _ _ _ h => h) (ans_plain (by rfl) (fun w _ => by unfold execOp; go_simp)) ?_
  simp only [Act.put, List.setIfInBounds_toArray, List.set_cons_zero, List.set_cons_succ]
  refine takeT 4 (some 7) (.slice vp vm vc) rfl rfl (by kernel_rfl) (fun _ _ _ h => h) (ans_plain (by rfl) (fun w h => by have hc := X1 w h; unfold execOp; go_simp)) ?_
  simp only [Act.put, List.setIfInBounds_toArray, List.set_cons_zero, List.set_cons_succ]
  refine callE 2 (some 5) 84 #[.tmp 4] #[26] #[.slice kp km kc] rfl rfl rfl (by rfl) (by rfl) (by kernel_rfl) (by kernel_rfl) Try.call84 fun u1 hg1 hs1 => ?_
  refine (oCloneB u1 (YK u1 hs1) (by omega)).mono ?_
  rintro e v1 ⟨a1, m1, c1, rfl, o1, hb1⟩
  refine ⟨_, rfl, Grows.trans hs1 hb1, ?_⟩
  simp only [Act.put, List.setIfInBounds_toArray, List.set_cons_zero, List.set_cons_succ]
  refine callE 5 (some 8) 84 #[.tmp 7] #[26] #[.slice vp vm vc] rfl rfl rfl (by rfl) (by rfl) (by kernel_rfl) (by kernel_rfl) Try.call84 fun u2 hg2 hs2 => ?_
  refine (oCloneB u2 (YV u2 hs2) (by omega)).mono ?_
  rintro e v2 ⟨a2, m2, c2, rfl, o2, hb2⟩
  refine ⟨_, rfl, Grows.trans hs2 hb2, ?_⟩
  simp only [Act.put, List.setIfInBounds_toArray, List.set_cons_zero, List.set_cons_succ]
  refine takeT 6 (some 9) (.agg (List.toArray [.slice a1 m1 c1, .slice a2 m2 c2])) rfl rfl (by kernel_rfl) (fun _ _ _ h => h) (ans_plain (by rfl) (fun w _ => by unfold execOp; go_simp)) ?_
  simp only [Act.put, List.setIfInBounds_toArray, List.set_cons_zero, List.set_cons_succ]
  refine lastE (by kernel_rfl) (by kernel_rfl) (by kernel_rfl) (by kernel_rfl) fun u8 hg8 hs8 => ?_
  have P1 : B5 (fun j => w.heap.size + 2 ≤ j) u8 a1 m1 c1 x.key := ((o1.b5 (A := fun j => w.heap.size + 2 ≤ j) (fun j hj _ => by have := Below.size hs1; omega)).below hg2).below hb2 |>.below hg8
  have P2 : B5 (fun j => w.heap.size + 2 ≤ j) u8 a2 m2 c2 x.value := (o2.b5 (A := fun j => w.heap.size + 2 ≤ j) (fun j hj _ => by have := Below.size hs2; omega)).below hg8
  refine opStR 7 44 (.tmp 2) (.tmp 9) 2 rfl rfl rfl rfl (w.heap.size + 1) zPr [.slice a1 m1 c1, .slice a2 m2 c2] 44 (t2.below hs8 t2.lt) rfl rfl (by intro u hu; simp only [List.mem_cons, List.not_mem_nil, or_false] at hu; rcases hu with rfl | rfl <;> rfl) sizePr rfl rfl ?_
  intro u9 hb9 hk9 w3 hg3
  have b3 := hb9.below hg3 hb9.lt
  have k9 : Below w.heap.size w w3 := (Kp.newBelow (kV.trans (Below.mono hs8 kV.size)) hk9 (Nat.le_succ _)).trans (Below.mono hg3 (Kp.newBelow (kV.trans (Below.mono hs8 kV.size)) hk9 (Nat.le_succ _)).size)
  have Q1 := ((P1.kp hk9 (fun j hj e => by omega)).below hg3).mono (A' := fun j => w.heap.size ≤ j) (fun j _ hj => by omega)
  have Q2 := ((P2.kp hk9 (fun j hj e => by omega)).below hg3).mono (A' := fun j => w.heap.size ≤ j) (fun j _ hj => by omega)
  clear P1 P2 hk9 hg3 hb9 hs8 hg8 hb2 o2 hs2 hg2 hb1 o1 hs1 hg1 X0 X1 YK YV t1 t2
  go_wp2_with fail
  exact bodyPost_ret (v := .agg (List.toArray [.slice a1 m1 c1, .slice a2 m2 c2])) (results_cell_row Try.results67 _ _ (w.heap.size + 1) 44 (List.toArray [.slice a1 m1 c1, .slice a2 m2 c2]) (0, 0) _ rfl b3 Try.underlying44 rfl sizePr) rfl ⟨a1, m1, c1, a2, m2, c2, rfl, ⟨a1, m1, c1, a2, m2, c2, rfl, Q1, Q2⟩, k9⟩
set_option maxRecDepth 100000 in
set_option maxHeartbeats 4000000 in
theorem oCpK (w : World) {A : Nat → Prop} {x : KidS} {vs : List Value} (h : elKd A w x vs) (hk : x.key.length ≤ 1000) : Calls Try.prog 69 #[.agg vs.toArray] w fun e w' => ∃ kp km kc, e = .returned (.agg (List.toArray [.slice kp km kc, .int .i64 x.page, .int .i64 x.epoch])) ∧ elKd5 (fun j => w.heap.size ≤ j) w' x [.slice kp km kc, .int .i64 x.page, .int .i64 x.epoch] ∧ Below w.heap.size w w' := by
  obtain ⟨kp, km, kc, rfl, hB1, hp6, he6⟩ := h
  have e1 : x.key.length = km := hB1.1.len
  have HI6 : Hid (i64 x.page ∧ i64 x.epoch) := ⟨hp6, he6⟩
  clear hp6 he6
  obtain ⟨V, hV⟩ : ∃ V, V = (w.alloc (.cells #[.slice kp km kc, .int .i64 x.page, .int .i64 x.epoch] 46)).alloc (.cells #[.slice none 0 0, .int .i64 0, .int .i64 0] 46) := ⟨_, rfl⟩
  have t1 : Blk V w.heap.size [.slice kp km kc, .int .i64 x.page, .int .i64 x.epoch] 46 := by rw [hV]; exact (Blk.newAt w _ _ w.heap.size rfl _ rfl).old _
  have t2 : Blk V (w.heap.size + 1) [.slice none 0 0, .int .i64 0, .int .i64 0] 46 := by rw [hV]; exact Blk.newAt (w.alloc _) _ _ (w.heap.size + 1) (by simp) _ rfl
  have kV : Below w.heap.size w V := by rw [hV]; exact below2 _ _ _
  have sV : V.heap.size = w.heap.size + 2 := by rw [hV]; simp
  have c0 : V.cell? ⟨w.heap.size, 0, none⟩ = some (.slice kp km kc) := t1.cell 0
  have CC : Hid (Calls Try.prog 84 #[.slice kp km kc] V (Gives V x.key)) := oCloneB V (hB1.1.below kV (Nat.le_refl _)) (by omega)
  clear hB1
  go_enter Try.func69, Try.ntmps69
  go_upto_region 1 with fail
  rw [← hV]
  clear hV
  go_wp2_with fail
  refine CC.out.mono ?_
  rintro e v1 ⟨a1, m1, c1, rfl, o1, hb1⟩
  have t1b := t1.below hb1 t1.lt
  have t2b := t2.below hb1 t2.lt
  have k1 : Below w.heap.size w v1 := kV.trans (hb1.mono kV.size)
  have P1 : B5 (fun j => w.heap.size + 2 ≤ j) v1 a1 m1 c1 x.key := o1.b5 (A := fun j => w.heap.size + 2 ≤ j) (fun j hj _ => by omega)
  have c1' : v1.cell? ⟨w.heap.size, 0, none⟩ = some (.slice kp km kc) := t1b.cell 0
  have f1' := t1b.free 0
  have t1c : Blk (v1.setCell ⟨w.heap.size, 0, none⟩ (.slice a1 m1 c1)) w.heap.size [.slice a1 m1 c1, .int .i64 x.page, .int .i64 x.epoch] 46 := t1b.setC 0 _
  have t2c : Blk (v1.setCell ⟨w.heap.size, 0, none⟩ (.slice a1 m1 c1)) (w.heap.size + 1) [.slice none 0 0, .int .i64 0, .int .i64 0] 46 := t2b.setO (by simp) _
  have g2 := but_set v1 w.heap.size 0 (.slice a1 m1 c1)
  have P2 := P1.turn' g2 (by simp)
  have k2 : Below w.heap.size w (v1.setCell ⟨w.heap.size, 0, none⟩ (.slice a1 m1 c1)) := below_of_but k1 g2 (Nat.le_refl _) k1.size
  clear CC o1 hb1 t1 t2 t1b t2b P1 g2 k1 c0
  go_wp2_with (first | ((with_reducible refine at_ld 46 ?_); (refine ld 46 (.tmp 1) 3 sizeKd _ Try.underlying46 rfl w.heap.size 0 [.slice a1 m1 c1, .int .i64 x.page, .int .i64 x.epoch] rfl t1c.whole rfl ?_)) | ((with_reducible refine at_st 46 ?_); (refine st' 46 (.tmp 2) (.tmp 7) 3 sizeKd (w.heap.size + 1) 0 [.slice a1 m1 c1, .int .i64 x.page, .int .i64 x.epoch] rfl (by intro u hu; simp only [List.mem_cons, List.not_mem_nil, or_false] at hu; rcases hu with rfl | rfl | rfl <;> rfl) (t2c.there 0 3 (by simp)) rfl rfl ?_); intro v5 hv5; have b5 : Blk v5 (w.heap.size + 1) [.slice a1 m1 c1, .int .i64 x.page, .int .i64 x.epoch] 46 := (by rw [hv5]; exact t2c.setsW _ rfl); have g5 : (v1.setCell ⟨w.heap.size, 0, none⟩ (.slice a1 m1 c1)).grownBy v5 (some (w.heap.size + 1)) := (by rw [hv5]; exact but_cells' _ _ _ _); clear hv5))
  have P5 := (P2.turn' g5 (by simp)).mono (A' := fun j => w.heap.size ≤ j) (fun j _ hj => by omega)
  have k5 : Below w.heap.size w v5 := below_of_but k2 g5 (Nat.le_succ _) k2.size
  exact bodyPost_ret (v := .agg (List.toArray [.slice a1 m1 c1, .int .i64 x.page, .int .i64 x.epoch])) (results_cell_row Try.results69 _ _ (w.heap.size + 1) 46 (List.toArray [.slice a1 m1 c1, .int .i64 x.page, .int .i64 x.epoch]) (0, 0) _ rfl b5 Try.underlying46 rfl sizeKd) rfl ⟨a1, m1, c1, rfl, ⟨a1, m1, c1, rfl, P5, HI6.out.1, HI6.out.2⟩, k5⟩

end Go.Proofs.Ytnmmopneacdgfaa
