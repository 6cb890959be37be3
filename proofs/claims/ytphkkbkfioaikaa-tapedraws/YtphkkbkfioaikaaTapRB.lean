/-
  The contract of layer 11's reference's Draw. Conditions: at most 1000 keys.
-/
import Derived.Test.YtphkkbkfioaikaaTapRA
import Derived.Test.YtphkkbkfioaikaaTapPB
import Derived.Test.YtphkkbkfioaikaaGrowT
namespace Go.Proofs.Ytphkkbkfioaikaa
open Go.RowKit

theorem resCTT {fn : Func} {p t u : Tmp} {ty : TypeId} (h : fn.results = #[.cell p ty, .tmp t, .tmp u]) (tmps : Array Value) (w : World) (g : Nat) (cs : Array Value) (hp : tmps.getD p undef = .pointer (some ⟨g, 0, none⟩)) (hl : (loadVar ty ⟨g, 0, none⟩).run Try.prog w = .ok (.agg cs) w) (x y : Value) (hx : tmps.getD t undef = x) (hy : tmps.getD u undef = y) : (results fn tmps).run Try.prog w = .ok (.tuple #[.agg cs, x, y]) w := by
  have hp' : tmps[p]?.getD undef = .pointer (some ⟨g, 0, none⟩) := by simpa using hp
  have hx' : tmps[t]?.getD undef = x := by simpa using hx
  have hy' : tmps[u]?.getD undef = y := by simpa using hy
  simp [results, h, hp', hx', hy', asAddr, hl]

set_option maxRecDepth 100000 in
set_option maxHeartbeats 4000000 in
theorem rTDraw (w : World) {A : Nat → Prop} {T : TapS} {q : Tri} (h : RT A w T.l q) (hn : T.l.length ≤ 1000) (hx : T.next ≤ T.l.length) :
    Calls Try.prog 12 #[tcV T q] w fun e w' => ∃ p m c, e = .returned (.tuple #[tcV T.draw.1 q, .slice p m c, .int .i64 T.draw.2.2]) ∧ B5 A w' p m c T.draw.2.1 ∧ Below w.heap.size w w' := by
  obtain ⟨l, n⟩ := T
  obtain ⟨la, ln, lc⟩ := q
  have hl : l.length = ln := Sl.len h
  have hcap := Sl.cap h
  dsimp only at hn hx
  have bC : Blk ((w.alloc (.cells #[.slice la ln lc, .int .i64 (n : Int)] 28)).alloc (.cells #[.slice none 0 0, .int .i64 0] 28)) w.heap.size [.slice la ln lc, .int .i64 (n : Int)] 28 := (Blk.newAt w _ _ w.heap.size rfl _ rfl).old _
  have bR : Blk ((w.alloc (.cells #[.slice la ln lc, .int .i64 (n : Int)] 28)).alloc (.cells #[.slice none 0 0, .int .i64 0] 28)) (w.heap.size + 1) [.slice none 0 0, .int .i64 0] 28 := Blk.newAt (w.alloc _) _ _ (w.heap.size + 1) (by simp) _ rfl
  have k0 : Below w.heap.size w ((w.alloc (.cells #[.slice la ln lc, .int .i64 (n : Int)] 28)).alloc (.cells #[.slice none 0 0, .int .i64 0] 28)) := below2 _ _ _
  have HR : Hid (RT A w l ⟨la, ln, lc⟩) := h
  unfold tcV tcC
  dsimp only
  by_cases hm : n < l.length
  · rw [TapS.draw_more (T := ⟨l, n⟩) hm]
    dsimp only
    have e1 : l[n]? = some (l.getD n []) := by rw [List.getD_eq_getElem?_getD, List.getElem?_eq_getElem hm]; rfl
    obtain ⟨b, o, p, m, c, rfl, hb, hc, h5⟩ := Sl.bytes h e1
    have i3 : (n : Int) < (ln : Int) := by omega
    have i4 : (ln : Int) ≤ 1000 := by omega
    have HB5 : Hid (B5 A w p m c (l.getD n [])) := h5
    generalize l.getD n [] = S at *
    clear h h5 e1 hm hcap hx HR
    go_enter Try.func12, Try.ntmps12
    go_wp2_with fail
    obtain ⟨W2, hW2⟩ : ∃ W2, W2 = ((w.alloc (.cells #[.slice (some ⟨b, o, none⟩) ln lc, .int .i64 (n : Int)] 28)).alloc (.cells #[.slice none 0 0, .int .i64 0] 28)) := ⟨_, rfl⟩
    rw [← hW2] at bC bR k0 ⊢
    clear hW2
    have hw1 : IntKind.i64.wrap ((n : Int) + 1) = (n : Int) + 1 := by rw [IntKind.wrap_i64]; omega
    obtain ⟨S', hS'⟩ : ∃ S' : World → Prop, S' = fun u => Below (w.heap.size + 1) W2 u ∧ ∃ vs, vs.length = 2 ∧ Blk u (w.heap.size + 1) vs 28 := ⟨_, rfl⟩
    have HS : Hid (∀ u, S' u ↔ Below (w.heap.size + 1) W2 u ∧ ∃ vs, vs.length = 2 ∧ Blk u (w.heap.size + 1) vs 28) := fun u => by rw [hS']
    clear hS'
    have hsz2 : w.heap.size + 1 < W2.heap.size := bR.lt
    have F0 : ∀ u, S' u → u.cell? ⟨w.heap.size, 0, none⟩ = some (.slice (some ⟨b, o, none⟩) ln lc) := fun u h => (bC.below ((HS.out u).1 h).1 (by omega)).cell 0
    have F1 : ∀ u, S' u → u.cell? ⟨w.heap.size, 1, none⟩ = some (.int .i64 (n : Int)) := fun u h => (bC.below ((HS.out u).1 h).1 (by omega)).cell 1
    have F2 : ∀ u, S' u → u.cell? ⟨b, o + n, none⟩ = some (.slice p m c) := fun u h => by
      rw [Below.cell ((HS.out u).1 h).1 (p := ⟨b, o + n, none⟩) (by show b < _; omega), Below.cell k0 (p := ⟨b, o + n, none⟩) hb]
      exact hc
    refine regionG (S := S') (by kernel_rfl) ((HS.out _).2 ⟨(Below.refl _ W2).drew, _, rfl, bR.below (Below.refl _ W2).drew bR.lt⟩) ?_
    refine takeG 0 (some 12) (.pointer (some ⟨w.heap.size, 0, none⟩)) rfl rfl (by kernel_rfl) (by kernel_rfl) (by kernel_rfl) (fun _ _ _ h => h) (ans_plain (by rfl) (fun w _ => by unfold execOp; go_simp)) ?_
    simp only [Act.put, List.setIfInBounds_toArray, List.set_cons_zero, List.set_cons_succ]
    refine takeG 1 (some 13) (.slice (some ⟨b, o, none⟩) ln lc) rfl rfl (by kernel_rfl) (by kernel_rfl) (by kernel_rfl) (fun _ _ _ h => h) (ans_plain (by rfl) (fun w h => by have hc := F0 w h; unfold execOp; go_simp)) ?_
    simp only [Act.put, List.setIfInBounds_toArray, List.set_cons_zero, List.set_cons_succ]
    refine takeG 2 (some 14) (.pointer (some ⟨w.heap.size, 1, none⟩)) rfl rfl (by kernel_rfl) (by kernel_rfl) (by kernel_rfl) (fun _ _ _ h => h) (ans_plain (by rfl) (fun w _ => by unfold execOp; go_simp)) ?_
    simp only [Act.put, List.setIfInBounds_toArray, List.set_cons_zero, List.set_cons_succ]
    refine takeG 3 (some 15) (.int .i64 (n : Int)) rfl rfl (by kernel_rfl) (by kernel_rfl) (by kernel_rfl) (fun _ _ _ h => h) (ans_plain (by rfl) (fun w h => by have hc := F1 w h; unfold execOp; go_simp)) ?_
    simp only [Act.put, List.setIfInBounds_toArray, List.set_cons_zero, List.set_cons_succ]
    refine takeG 4 (some 16) (.int .i64 ((n : Int) + 1)) rfl rfl (by kernel_rfl) (by kernel_rfl) (by kernel_rfl) (fun _ _ _ h => h) (ans_plain (by rfl) (fun w _ => by unfold execOp; go_simp)) ?_
    simp only [Act.put, List.setIfInBounds_toArray, List.set_cons_zero, List.set_cons_succ]
    refine takeG 5 (some 17) (.agg #[.slice (some ⟨b, o, none⟩) ln lc, .int .i64 ((n : Int) + 1)]) rfl rfl (by kernel_rfl) (by kernel_rfl) (by kernel_rfl) (fun _ _ _ h => h) (ans_plain (by rfl) (fun w _ => by unfold execOp; go_simp)) ?_
    simp only [Act.put, List.setIfInBounds_toArray, List.set_cons_zero, List.set_cons_succ]
    refine takeG 6 (some 18) (.pointer (some ⟨w.heap.size, 0, none⟩)) rfl rfl (by kernel_rfl) (by kernel_rfl) (by kernel_rfl) (fun _ _ _ h => h) (ans_plain (by rfl) (fun w _ => by unfold execOp; go_simp)) ?_
    simp only [Act.put, List.setIfInBounds_toArray, List.set_cons_zero, List.set_cons_succ]
    refine takeG 7 (some 19) (.slice (some ⟨b, o, none⟩) ln lc) rfl rfl (by kernel_rfl) (by kernel_rfl) (by kernel_rfl) (fun _ _ _ h => h) (ans_plain (by rfl) (fun w h => by have hc := F0 w h; unfold execOp; go_simp)) ?_
    simp only [Act.put, List.setIfInBounds_toArray, List.set_cons_zero, List.set_cons_succ]
    refine takeG 8 (some 20) (.pointer (some ⟨w.heap.size, 1, none⟩)) rfl rfl (by kernel_rfl) (by kernel_rfl) (by kernel_rfl) (fun _ _ _ h => h) (ans_plain (by rfl) (fun w _ => by unfold execOp; go_simp)) ?_
    simp only [Act.put, List.setIfInBounds_toArray, List.set_cons_zero, List.set_cons_succ]
    refine takeG 9 (some 21) (.int .i64 (n : Int)) rfl rfl (by kernel_rfl) (by kernel_rfl) (by kernel_rfl) (fun _ _ _ h => h) (ans_plain (by rfl) (fun w h => by have hc := F1 w h; unfold execOp; go_simp)) ?_
    simp only [Act.put, List.setIfInBounds_toArray, List.set_cons_zero, List.set_cons_succ]
    refine takeG 10 (some 22) (.pointer (some ⟨b, o + n, none⟩)) rfl rfl (by kernel_rfl) (by kernel_rfl) (by kernel_rfl) (fun _ _ _ h => h) (ans_plain (by rfl) (fun w _ => by unfold execOp; go_simp)) ?_
    simp only [Act.put, List.setIfInBounds_toArray, List.set_cons_zero, List.set_cons_succ]
    refine takeG 11 (some 23) (.slice p m c) rfl rfl (by kernel_rfl) (by kernel_rfl) (by kernel_rfl) (fun _ _ _ h => h) (ans_plain (by rfl) (fun w h => by have hc := F2 w h; unfold execOp; go_simp)) ?_
    simp only [Act.put, List.setIfInBounds_toArray, List.set_cons_zero, List.set_cons_succ]
    refine oneG 12 (by kernel_rfl) fun u7 hg7 hs7 => ?_
    obtain ⟨hb7, vs7, hv7, bR7⟩ := (HS.out u7).1 hs7
    refine opStR 12 28 (.tmp 2) (.tmp 17) 2 rfl rfl rfl rfl (w.heap.size + 1) _ [.slice (some ⟨b, o, none⟩) ln lc, .int .i64 ((n : Int) + 1)] 28 bR7 hv7 (by simp) (by intro v hv; simp at hv; rcases hv with rfl | rfl <;> rfl) size28 rfl rfl ?_
    intro u8 b8 k8
    have hb8 : Below (w.heap.size + 1) W2 u8 := hb7.trans (Kp.below (B := w.heap.size + 1) k8 (Nat.le_trans (Nat.le_of_lt hsz2) hb7.size) fun j hj e => by omega)
    refine ⟨(HS.out _).2 ⟨hb8, _, rfl, b8⟩, ?_⟩
    refine takeG 13 (some 3) (.slice p m c) rfl rfl (by kernel_rfl) (by kernel_rfl) (by kernel_rfl) (fun _ _ _ h => h) (ans_plain (by rfl) (fun w _ => rfl)) ?_
    simp only [Act.put, List.setIfInBounds_toArray, List.set_cons_zero, List.set_cons_succ]
    refine takeG 14 (some 4) (.int .i64 0) rfl rfl (by kernel_rfl) (by kernel_rfl) (by kernel_rfl) (fun _ _ _ h => h) (ans_plain (by rfl) (fun w _ => rfl)) ?_
    simp only [Act.put, List.setIfInBounds_toArray, List.set_cons_zero, List.set_cons_succ]
    refine doneG (by kernel_rfl) fun u9 hg9 hs9 => ?_
    have b9 := b8.below hg9 b8.lt
    have k9 : Below w.heap.size w u9 := k0.trans (((HS.out u9).1 hs9).1.mono (by omega))
    have HK9 : Hid (Below w.heap.size w u9) := k9
    have HB9 : Hid (Blk u9 (w.heap.size + 1) [.slice (some ⟨b, o, none⟩) ln lc, .int .i64 ((n : Int) + 1)] 28) := b9
    clear F0 F1 F2 bR7 k8 hg9 b8 hs7 hg7 k0 bC bR k9 hs9 hb8 hb7 HS b9
    go_wp2_with fail
    have HV : Hid (B5 A u9 p m c S) := HB5.out.below HK9.out
    have e9 : ((n + 1 : Nat) : Int) = (n : Int) + 1 := by omega
    refine bodyPost_ret (v := .tuple #[.agg #[.slice (some ⟨b, o, none⟩) ln lc, .int .i64 ((n : Int) + 1)], .slice p m c, .int .i64 0]) (resCTT Try.results12 _ _ (w.heap.size + 1) _ rfl (run_loadVar_row u9 (w.heap.size + 1) 28 28 _ (0, 0) _ HB9.out Try.underlying28 rfl size28) _ _ rfl rfl) rfl ⟨p, m, c, ?_, HV.out, HK9.out⟩
    rw [e9]
  · rw [TapS.draw_none (T := ⟨l, n⟩) hm]
    dsimp only
    have i3 : ¬ (n : Int) < (ln : Int) := by omega
    clear h hm hcap hx
    go_enter Try.func12, Try.ntmps12
    have bN : Blk ((w.alloc (.cells #[.slice la ln lc, .int .i64 (n : Int)] 28)).alloc (.cells #[.slice la ln lc, .int .i64 (n : Int)] 28)) (w.heap.size + 1) [.slice la ln lc, .int .i64 (n : Int)] 28 := Blk.newAt (w.alloc _) _ _ (w.heap.size + 1) (by simp) _ rfl
    go_wp2_with fail
    exact bodyPost_ret (v := .tuple #[.agg #[.slice la ln lc, .int .i64 (n : Int)], .slice none 0 0, .int .i64 8]) (resCTT Try.results12 _ _ (w.heap.size + 1) _ rfl (run_loadVar_row _ (w.heap.size + 1) 28 28 _ (0, 0) _ bN Try.underlying28 rfl size28) _ _ rfl rfl) rfl ⟨none, 0, 0, rfl, B5.nil _ _, below2 _ _ _⟩

end Go.Proofs.Ytphkkbkfioaikaa
