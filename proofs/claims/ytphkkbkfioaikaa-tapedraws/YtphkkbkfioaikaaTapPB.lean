/-
  The contract of layer 11's program's Draw. Conditions: at most 1000 keys.
-/
import Derived.Test.YtphkkbkfioaikaaTapPA
import Derived.Test.YtphkkbkfioaikaaGrowS
import Derived.Test.YtphkkbkfioaikaaAllocs
import Derived.Test.YtphkkbkfioaikaaJoinOne
namespace Go.Proofs.Ytphkkbkfioaikaa
open Go.RowKit

def zKey : Array Value := Array.replicate 32 (.int .u8 0)
theorem sizeKey : (Try.prog.info? 48).map (·.size) = some 32 := by kernel_rfl
theorem zKey_ne : ¬ zKey = #[] := by
  intro h
  have := congrArg Array.size h
  simp [zKey] at this
theorem makesKey {ops : Array Oper} {i : Nat} {d : Tmp} {tp : TypeId} {pos : String} {aft : Array Edge} (hi : ops[i]? = some { dst := some d, op := .alloc 48, type := tp, pos := pos, after := aft, guard := none }) : Makes Try.prog ops i d zKey 48 :=
  ⟨_, hi, rfl, rfl, fun ρ w => by unfold execOp; go_simp; rfl⟩
theorem TapS.draw_more {T : TapS} (h : T.next < T.l.length) : T.draw = ({ T with next := T.next + 1 }, T.l.getD T.next [], 0) := by
  unfold TapS.draw
  rw [if_pos h]
theorem TapS.draw_none {T : TapS} (h : ¬ T.next < T.l.length) : T.draw = (T, [], 8) := by
  unfold TapS.draw
  rw [if_neg h]

set_option maxRecDepth 100000 in
set_option maxHeartbeats 1000000 in
theorem oTDraw (w : World) {t kb : Nat} {T : TapS} (h : Tp w t kb T) :
    Calls Try.prog 13 #[.pointer (some ⟨t, 0, none⟩)] w fun e w' => ∃ p m q, e = .returned (.tuple #[.slice p m q, .int .i64 T.draw.2.2]) ∧ Own w' w.heap.size (.slice p m q) T.draw.2.1 ∧ Tp w' t kb T.draw.1 ∧ Kp (fun j => j = t) w w' := by
  have CL := oTLeft w h
  have h1 := h.n
  have h2 := h.x
  by_cases hm : T.next < T.l.length
  · rw [TapS.draw_more hm]
    dsimp only
    have HT : Hid (Tp w t kb T) := h
    have hd0 : ¬ ((T.l.length : Int) - (T.next : Int)) = 0 := by omega
    have HSL : Hid ((cs (T.l.getD T.next [])).length = 32) := by show _ = _; rw [cs_length]; exact key_len h.s hm
    have HK : Hid (∀ j v, (cs (T.l.getD T.next []))[j]? = some v → (cs T.l.flatten)[T.next * 32 + j]? = some v) := key_cells h.s hm
    obtain ⟨N, hN⟩ : ∃ N, N = T.l.length := ⟨_, rfl⟩
    obtain ⟨n, hn⟩ : ∃ n, n = T.next := ⟨_, rfl⟩
    obtain ⟨S, hS⟩ : ∃ S, S = T.l.getD T.next [] := ⟨_, rfl⟩
    rw [← hS] at HSL HK ⊢
    rw [← hn, ← hN] at CL
    rw [← hn, ← hN] at hd0
    have HN : Hid (N = T.l.length ∧ n = T.next) := ⟨hN, hn⟩
    have hnN : n < N := by omega
    have hN1 : N ≤ 1000 := by omega
    have hi1 : (n : Int) < (N : Int) := by omega
    have hlt := h.b.lt
    clear h hm h1 h2 hS hN hn
    go_enter Try.func13, Try.ntmps13
    go_wp2_with fail
    refine CL.mono ?_
    rintro e w1 ⟨rfl, hb1⟩
    have HT1 : Hid (Tp w1 t kb T) := HT.out.grow hb1
    generalize (N : Int) - (n : Int) = d at *
    go_wp2_with fail
    have F0 : ∀ u, Grows w1 u → u.cell? ⟨t, 0, none⟩ = some (.slice (some ⟨kb, 0, none⟩) N N) := fun u h => by rw [(HT1.out.b.grows h).cell, HN.out.1]; rfl
    have F1 : ∀ u, Grows w1 u → u.cell? ⟨t, 1, none⟩ = some (.int .i64 (n : Int)) := fun u h => by rw [(HT1.out.b.grows h).cell, HN.out.2]; rfl
    have FK : ∀ u, Grows w1 u → u.rangeAt kb (n * 32) (cs S) := fun u h j v hv => by rw [(HT1.out.k.grows h).cell, HN.out.2]; exact HK.out j v hv
    refine regionG (S := Grows w1) (by kernel_rfl) (Below.refl _ w1).drew ?_
    refine takeG 0 (some 8) (.pointer (some ⟨t, 0, none⟩)) rfl rfl (by kernel_rfl) (by kernel_rfl) (by kernel_rfl) (fun _ _ _ h => h) (ans_plain (by rfl) (fun w _ => rfl)) ?_
    simp only [Act.put, List.setIfInBounds_toArray, List.set_cons_zero, List.set_cons_succ]
    refine takeG 1 (some 9) (.pointer (some ⟨t, 0, none⟩)) rfl rfl (by kernel_rfl) (by kernel_rfl) (by kernel_rfl) (fun _ _ _ h => h) (ans_plain (by rfl) (fun w _ => by unfold execOp; go_simp)) ?_
    simp only [Act.put, List.setIfInBounds_toArray, List.set_cons_zero, List.set_cons_succ]
    refine takeG 2 (some 10) (.pointer (some ⟨t, 0, none⟩)) rfl rfl (by kernel_rfl) (by kernel_rfl) (by kernel_rfl) (fun _ _ _ h => h) (ans_plain (by rfl) (fun w _ => by unfold execOp; go_simp)) ?_
    simp only [Act.put, List.setIfInBounds_toArray, List.set_cons_zero, List.set_cons_succ]
    refine takeG 3 (some 11) (.slice (some ⟨kb, 0, none⟩) N N) rfl rfl (by kernel_rfl) (by kernel_rfl) (by kernel_rfl) (fun _ _ _ h => h) (ans_plain (by rfl) (fun w h => by have hc := F0 w h; unfold execOp; go_simp)) ?_
    simp only [Act.put, List.setIfInBounds_toArray, List.set_cons_zero, List.set_cons_succ]
    refine takeG 4 (some 12) (.pointer (some ⟨t, 0, none⟩)) rfl rfl (by kernel_rfl) (by kernel_rfl) (by kernel_rfl) (fun _ _ _ h => h) (ans_plain (by rfl) (fun w _ => rfl)) ?_
    simp only [Act.put, List.setIfInBounds_toArray, List.set_cons_zero, List.set_cons_succ]
    refine takeG 5 (some 13) (.pointer (some ⟨t, 0, none⟩)) rfl rfl (by kernel_rfl) (by kernel_rfl) (by kernel_rfl) (fun _ _ _ h => h) (ans_plain (by rfl) (fun w _ => by unfold execOp; go_simp)) ?_
    simp only [Act.put, List.setIfInBounds_toArray, List.set_cons_zero, List.set_cons_succ]
    refine takeG 6 (some 14) (.pointer (some ⟨t, 1, none⟩)) rfl rfl (by kernel_rfl) (by kernel_rfl) (by kernel_rfl) (fun _ _ _ h => h) (ans_plain (by rfl) (fun w _ => by unfold execOp; go_simp)) ?_
    simp only [Act.put, List.setIfInBounds_toArray, List.set_cons_zero, List.set_cons_succ]
    refine takeG 7 (some 15) (.int .i64 (n : Int)) rfl rfl (by kernel_rfl) (by kernel_rfl) (by kernel_rfl) (fun _ _ _ h => h) (ans_plain (by rfl) (fun w h => by have hc := F1 w h; unfold execOp; go_simp)) ?_
    simp only [Act.put, List.setIfInBounds_toArray, List.set_cons_zero, List.set_cons_succ]
    refine takeG 8 (some 16) (.pointer (some ⟨kb, n * 32, none⟩)) rfl rfl (by kernel_rfl) (by kernel_rfl) (by kernel_rfl) (fun _ _ _ h => h) (ans_plain (by rfl) (fun w _ => by unfold execOp; go_simp)) ?_
    simp only [Act.put, List.setIfInBounds_toArray, List.set_cons_zero, List.set_cons_succ]
    refine takeG 9 (some 17) (.agg (cs S).toArray) rfl rfl (by kernel_rfl) (by kernel_rfl) (by kernel_rfl) (fun _ _ _ h => h) (ans_row 48 (.tmp 16) _ 32 rfl (by rfl) kb (n * 32) rfl (cs S) FK Try.underlying48 rfl HSL.out sizeKey) ?_
    simp only [Act.put, List.setIfInBounds_toArray, List.set_cons_zero, List.set_cons_succ]
    refine alloc1 (fun _ _ => Grows.trans) 10 4 (makesKey rfl) (by kernel_rfl) fun g w2 hg2 hs2 hB2 hg => ?_
    simp only [Act.put, List.setIfInBounds_toArray, List.set_cons_zero, List.set_cons_succ]
    refine oneG 11 (by kernel_rfl) fun w3 hg3 hs3 => ?_
    refine opStR 11 48 (.tmp 4) (.tmp 17) 32 rfl rfl rfl rfl g _ (cs S) 48 (hB2.grows hg3) (by simp [zKey]) HSL.out cs_one sizeKey rfl rfl ?_
    intro w4 hB4 k4
    have hgw1 : w1.heap.size ≤ g := hg
    have hs4 : Grows w1 w4 := Below.trans hs3 (Kp.below (B := w1.heap.size) k4 (Below.size hs3) fun j hj e => by omega)
    refine ⟨hs4, doneG (by kernel_rfl) fun w5 hg5 hs5 => ?_⟩
    have hT5 := HT1.out.grow hs5
    have hB5 := hB4.grows hg5
    have HT5 : Hid (Tp w5 t kb T) := hT5
    have HB5 : Hid (Blk w5 g (cs S) 48) := hB5
    have hl5 := hT5.b.lt
    have c1 : w5.cell? ⟨t, 1, none⟩ = some (.int .i64 (n : Int)) := F1 w5 hs5
    have f1 := hT5.b.free 1
    have hk5 : Kp (fun j => j = t) w w5 := Kp.of_below (hb1.trans (Below.mono hs5 hb1.size))
    clear F0 F1 FK hg5 hs5 hs4 k4 hB4 hs3 hg3 hB2 hs2 hg2 HT1 HK hT5 hB5
    have hall := allKey
    have HT6 : Hid (Tp (w5.setCell ⟨t, 1, none⟩ (.int .i64 ((n : Int) + 1))) t kb { l := T.l, next := T.next + 1 }) := by
      have h5 := HT5.out
      refine ⟨h5.ne, ?_, h5.k.setO (fun e => h5.ne e.symm) _, h5.s, h5.n, by have := HN.out; show T.next + 1 ≤ T.l.length; omega⟩
      have e : (((T.next + 1 : Nat)) : Int) = (n : Int) + 1 := by have := HN.out.2; omega
      show Blk _ t [.slice (some ⟨kb, 0, none⟩) T.l.length T.l.length, .int .i64 ((T.next + 1 : Nat) : Int)] _
      rw [e]
      exact h5.b.setC 1 (.int .i64 ((n : Int) + 1))
    have HB6 : Hid (Blk (w5.setCell ⟨t, 1, none⟩ (.int .i64 ((n : Int) + 1))) g (cs S) 48) := HB5.out.setO (by have := hb1.size; show ¬ g = t; omega) _
    have hk6 : Kp (fun j => j = t) w (w5.setCell ⟨t, 1, none⟩ (.int .i64 ((n : Int) + 1))) := hk5.trans (Kp.of_grown (but_set w5 t 1 _))
    have hn1 : (n : Int) + 1 ≤ 2000 := by omega
    have CJ : Hid (Calls Try.prog 22 #[.slice (some ⟨w5.heap.size, 0, none⟩) 1 1] ((w5.setCell ⟨t, 1, none⟩ (.int .i64 ((n : Int) + 1))).alloc (.cells #[.slice (some ⟨g, 0, none⟩) 32 32] 31)) (Gives (w5.setCell ⟨t, 1, none⟩ (.int .i64 ((n : Int) + 1))) S)) := by
      have hSl : S.length = 32 := by have := HSL.out; rwa [cs_length] at this
      have hbs : Bs (w5.setCell ⟨t, 1, none⟩ (.int .i64 ((n : Int) + 1))) (some ⟨g, 0, none⟩) 32 32 S := by
        refine ⟨hSl, Nat.le_refl _, by unfold maxLen; omega, by simp, fun j hj => ⟨g, 0, rfl, ?_⟩⟩
        rw [HB6.out.cell, Nat.zero_add]
        exact cs_get (by omega)
      have := oJoinOne _ hbs (by omega)
      rwa [show (w5.setCell ⟨t, 1, none⟩ (.int .i64 ((n : Int) + 1))).heap.size = w5.heap.size from by simp [World.setCell]] at this
    clear HT5 HB5 hk5 CL
    go_wp2_with fail
    refine CJ.out.mono ?_
    rintro e w7 ⟨a7, m7, c7, rfl, o7, hb7⟩
    have hk6' : Kp (fun j => j = t) w w7 := hk6.trans (Kp.of_below hb7)
    have HO7 : Hid (Own w7 w.heap.size (.slice a7 m7 c7) S) := o7.mono hk6.size
    have HT7 : Hid (Tp w7 t kb { l := T.l, next := T.next + 1 }) := HT6.out.grow hb7
    clear hk6 HT6 hb7 o7
    go_wp2_with fail
    go_ret2
    exact ⟨a7, m7, c7, rfl, HO7.out, HT7.out, hk6'⟩
  · rw [TapS.draw_none hm]
    dsimp only
    have hd0 : ((T.l.length : Int) - (T.next : Int)) = 0 := by omega
    rw [hd0] at CL
    have HT : Hid (Tp w t kb T) := h
    clear h hm h1 h2 hd0
    go_enter Try.func13, Try.ntmps13
    go_wp2_with fail
    refine CL.mono ?_
    rintro e w1 ⟨rfl, hb1⟩
    go_wp2_with fail
    go_ret2
    exact ⟨none, 0, 0, rfl, Own.nil _ _, HT.out.grow hb1, Kp.of_below hb1⟩

end Go.Proofs.Ytphkkbkfioaikaa
