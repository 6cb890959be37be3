/-
  1 texts in one. No statement of the seat is proved here.
-/
import Derived.Test.YtnmmopneacdgfaaH17

/-
  Contract of layer 18's reference: part, of a piece that is not empty. Condition: at most a hundred thousand things.
-/
namespace Go.Proofs.Ytnmmopneacdgfaa
open Go.RowKit
set_option linter.unusedVariables false
theorem opAppS18 {α : Type} (el : World → α → List Value → Prop) (sz by_ : Nat) (t e : TypeId) (z : Value) (ht : Try.prog.underlying t = some (.slice e)) (hi : (Try.prog.info? e).map (fun i => (i.zero, i.size, i.bytes)) = some (some z, sz, by_)) (hzs : z.cells.size = sz) (hsz : 0 < sz) (hby : by_ ≤ 1000)
    {ops : Array Oper} {i : Nat} {oi : Oper} {a : Act} {Q : Exit → Act → World → Prop} {K : Act → World → Prop} (w : World) (hii : ops[i]? = some oi) (hgd : oi.guard = none) (d : Option Tmp) (hd : oi.dst = d) (s x : Operand)
    (ho : oi.op = Op.call { callee := Callee.builtin Builtin.append, args := #[s, x], argTypes := #[t, t] }) (base : Nat) (v : Value) (l : List α) (hs : a.eval s = v) (hown : OwS el sz e w base v l)
    (A : Nat → Prop) (ao : Option Addr) (m c : Nat) (news : List α) (hx : a.eval x = .slice ao m c) (hsrc : Sl el sz A w ao m c news) (hm : 0 < m) (hz : l.length + news.length ≤ 1000000) (hbase : base ≤ w.heap.size)
    (hel : ∀ w' x vs, w.grownBy w' v.ownBlock → el w x vs → el w' x vs)
    (h : ∀ v' w', OwS el sz e w' base v' (l ++ news) → w.grownBy w' v.ownBlock → K (a.put d v') w') : wpOp Try.prog ops Q i K a w := by
  subst hd
  obtain ⟨i0, hi, hz0, hz1, hz2⟩ := info_parts hi
  obtain ⟨rows, hr, howr⟩ := hown
  obtain ⟨rows2, hr2, hl2, hn2, hc2, ha2, hb2⟩ := hsrc
  obtain ⟨b, o', rfl, hlt, hA, hrg⟩ := hb2 hm
  have hfl := flatC_len (rel_lens hr2)
  have hrl := hr2.len
  unfold wpOp
  simp only [hii]
  rw [if_pos (by simp [Region.wanted, hgd])]
  left
  refine wp_append_own w s x t ho base e i0 z sz by_ ht hi hz0 hz1 hz2 hzs hsz v _ _ hs howr ⟨b, o', none⟩ m c rows2.flatten hx (by rw [hfl, ← hrl, hl2]) (fun j u hj => by rw [add_none]; exact hrg j u hj) (rel_ones hr2) (by unfold maxLen; omega) (by have := Nat.mul_le_mul (show l.length + m ≤ 1000000 by omega) hby; omega) hbase ?_
  intro v' w' ho' hg _
  refine h v' w' ⟨rows ++ rows2, ?_, ?_⟩ hg
  · exact (hr.mono fun y vs ⟨a1, a2, a3⟩ => ⟨a1, a2, hel w' y vs hg a3⟩).append (hr2.mono fun y vs ⟨a1, a2, a3⟩ => ⟨a1, a2, hel w' y vs hg a3⟩)
  · rw [List.flatten_append, List.length_append, hl2]
    exact ho'
theorem opStP18 {ops : Array Oper} {Q : Exit → Act → World → Prop} {i : Nat} {oi : Oper} (hi : ops[i]? = some oi) (hd : oi.dst = none) (hg : oi.guard = none) (x y : Operand) (ho : oi.op = .store 22 x y) {K : Act → World → Prop} {a : Act} {w : World} (g o : Nat) (hx : a.eval x = .pointer (some ⟨g, o, none⟩)) (s : Option Addr) (n c : Nat) (hy : a.eval y = .slice s n c) (vs : List Value) (t : TypeId) (hb : Blk w g vs t) (ho2 : o < vs.length)
    (k : K a (w.setCell ⟨g, o, none⟩ (.slice s n c))) : wpOp Try.prog ops Q i K a w := by
  have hc := hb.cell o
  rw [List.getElem?_eq_getElem ho2] at hc
  have hf := hb.free o
  have hl := hb.lt
  have hK : Hid _ := k
  clear k
  unfold wpOp
  simp only [hi]
  rw [if_pos (by simp [Region.wanted, hg])]
  left
  unfold Oper.wp execOp
  simp only [ho, hx, hy]
  go_simp
  exact hK.out
theorem opStK18 {ops : Array Oper} {Q : Exit → Act → World → Prop} {i : Nat} {oi : Oper} (hi : ops[i]? = some oi) (hd : oi.dst = none) (hg : oi.guard = none) (x y : Operand) (ho : oi.op = .store 23 x y) {K : Act → World → Prop} {a : Act} {w : World} (g o : Nat) (hx : a.eval x = .pointer (some ⟨g, o, none⟩)) (s : Option Addr) (n c : Nat) (hy : a.eval y = .slice s n c) (vs : List Value) (t : TypeId) (hb : Blk w g vs t) (ho2 : o < vs.length)
    (k : K a (w.setCell ⟨g, o, none⟩ (.slice s n c))) : wpOp Try.prog ops Q i K a w := by
  have hc := hb.cell o
  rw [List.getElem?_eq_getElem ho2] at hc
  have hf := hb.free o
  have hl := hb.lt
  have hK : Hid _ := k
  clear k
  unfold wpOp
  simp only [hi]
  rw [if_pos (by simp [Region.wanted, hg])]
  left
  unfold Oper.wp execOp
  simp only [ho, hx, hy]
  go_simp
  exact hK.out
theorem ans_cut18 {ops : Array Oper} {S : World → Prop} {oi : Oper} {a : Act} (T : TypeId) (x y z : Operand) (hT : Try.prog.underlying T = some (.slice (Try.prog.elem T))) (ho : oi.op = .slice T x (some y) (some z) none) (hw : Region.wanted oi (yielded ops a.tmps) = true) (u v v2 r : Value) (hx : a.eval x = u) (hy : a.eval y = v) (hz : a.eval z = v2) (hr : ∀ w, Sem.run Try.prog (Instr.slice T u (some v) (some v2) none) w = .ok r w) : Ans Try.prog ops S oi r a := by
  refine ans_plain hw fun w _ => ?_
  have h1 := hr w
  simp [execOp, ho, hx, hy, hz, run_sliceAt_slice _ _ _ _ _ _ hT, h1, Result.andThen]
theorem grown_none {w w' : World} (g : w.grownBy w' none) : Below w.heap.size w w' := ⟨g.os, g.tape, g.output, g.size, fun j hj => g.block j hj (by simp)⟩
def A18 (w : World) (A : Nat → Prop) (j : Nat) : Prop := ((A j ∧ j < w.heap.size) ∨ w.heap.size ≤ j) ∧ j ≠ w.heap.size + 1 ∧ j ≠ w.heap.size + 1 + 1
def cutN (n : NodeS) (i j : Nat) : NodeS := if n.leaf then ⟨true, (n.pairs.drop i).take (j - i), []⟩ else ⟨false, [], (n.kids.drop i).take (j - i)⟩
set_option maxRecDepth 100000 in
set_option maxHeartbeats 4000000 in
theorem rPrtN (w : World) {A : Nat → Prop} {n : NodeS} {p q : Tri} (h : Nd A w n p q) {i j : Nat} (hij : i < j) (hj0 : j ≤ if n.leaf then n.pairs.length else n.kids.length) (hn0 : n.pairs.length ≤ 100000) (hn1 : n.kids.length ≤ 100000) : Calls Try.prog 70 #[ndv n p q, .int .i64 (i : Int), .int .i64 (j : Int)] w fun e w' => ∃ p' q', e = .returned (ndv (cutN n i j) p' q') ∧ Nd (fun j => (A j ∧ j < w.heap.size) ∨ w.heap.size ≤ j) w' (cutN n i j) p' q' ∧ Below w.heap.size w w' := by
  have l1 := h.lp
  have l2 := h.lk
  replace h := h.mono (A' := A18 w A) (fun j hj a => ⟨Or.inl ⟨a, hj⟩, by omega, by omega⟩)
  have hps := h.ps
  have hks := h.ks
  clear h
  obtain ⟨lf, ps, ks⟩ := n
  obtain ⟨pa, pn, pc⟩ := p
  obtain ⟨qa, qn, qc⟩ := q
  dsimp only at *
  unfold cutN ndv ndc
  dsimp only
  obtain ⟨V, hV⟩ : ∃ V, V = (w.alloc (.cells (List.toArray [.bool lf, .slice pa pn pc, .slice qa qn qc]) 25)).alloc (.cells #[.bool false, .slice none 0 0, .slice none 0 0] 25) := ⟨_, rfl⟩
  have t3 : Blk V w.heap.size [.bool lf, .slice pa pn pc, .slice qa qn qc] 25 := by rw [hV]; exact (Blk.newAt w _ _ w.heap.size rfl _ rfl).old _
  have t6 : Blk V (w.heap.size + 1) [.bool false, .slice none 0 0, .slice none 0 0] 25 := by rw [hV]; exact Blk.newAt (w.alloc _) _ _ (w.heap.size + 1) (by simp) _ rfl
  have k2 : Below w.heap.size w V := by rw [hV]; exact below2 _ _ _
  have sV : V.heap.size = w.heap.size + 1 + 1 := by rw [hV]; simp
  have c0 : V.cell? ⟨w.heap.size, 0, none⟩ = some (.bool lf) := t3.cell 0
  go_enter Try.func70, Try.ntmps70
  go_upto_region 1 with fail
  rw [← hV]
  clear hV
  go_wp2_with ((with_reducible refine at_st 25 ?_); (with_reducible refine Hid.out ?_))
  unfold Hid
  obtain ⟨U, hU⟩ : ∃ U, U = V.alloc (.cells #[.bool false, .slice none 0 0, .slice none 0 0] 25) := ⟨_, rfl⟩
  rw [← hU]
  have tU : Blk U (w.heap.size + 1 + 1) [.bool false, .slice none 0 0, .slice none 0 0] 25 := by rw [hU]; exact Blk.newAt V _ _ _ sV _ rfl
  refine st' 25 (.tmp 7) (.tmp 10) 3 sizeNd (w.heap.size + 1 + 1) 0 [.bool lf, .slice none 0 0, .slice none 0 0] rfl (ndc_one ⟨lf, [], []⟩ ⟨none, 0, 0⟩ ⟨none, 0, 0⟩) (tU.there 0 3 (by decide)) rfl rfl ?_
  intro W2 hW
  have kU : Below V.heap.size V W2 := by rw [hW, hU]; exact below_sets (by omega) _ (below_alloc _ _) 0
  have sW : W2.heap.size = w.heap.size + 1 + 1 + 1 := by rw [hW, size_sets, hU]; simp [sV]
  have t7 : Blk W2 (w.heap.size + 1 + 1) [.bool lf, .slice none 0 0, .slice none 0 0] 25 := by rw [hW]; exact Blk.setsW tU _ rfl
  clear hW tU hU c0
  replace t3 := t3.below kU t3.lt
  replace t6 := t6.below kU t6.lt
  replace k2 := k2.trans (kU.mono k2.size)
  have c0 : W2.cell? ⟨w.heap.size, 0, none⟩ = some (.bool lf) := t3.cell 0
  clear kU sV
  cases lf
  · have hj : j ≤ qn := by simpa [l2] using hj0
    have hcap := (Sl.cap hks).1
    have HS : Hid (SlD (A18 w A) w qa qn qc ks) := hks
    have Y7 : ∀ u, Grows W2 u → u.cell? ⟨w.heap.size + 1 + 1, 2, none⟩ = some (.slice none 0 0) := fun u hu => (t7.below hu t7.lt).cell 2
    have Y3 : ∀ u, Grows W2 u → u.cell? ⟨w.heap.size, 2, none⟩ = some (.slice qa qn qc) := fun u hu => (t3.below hu t3.lt).cell 2
    clear hps hks
    go_wp2_with fail
    refine regionE 9 (S := Grows W2) (by kernel_rfl) (Below.refl _ W2).drew ?_
    refine takeT 0 (some 22) (.pointer (some ⟨(w.heap.size + 1 + 1), 2, none⟩)) rfl rfl (by kernel_rfl) (fun _ _ _ h => h) (ans_plain (by rfl) (fun w _ => by unfold execOp; go_simp)) ?_
    simp only [Act.put, List.setIfInBounds_toArray, List.set_cons_zero, List.set_cons_succ]
    refine takeT 1 (some 23) (.slice none 0 0) rfl rfl (by kernel_rfl) (fun _ _ _ h => h) (ans_plain (by rfl) (fun w h => by have hc := Y7 w h; unfold execOp; go_simp)) ?_
    simp only [Act.put, List.setIfInBounds_toArray, List.set_cons_zero, List.set_cons_succ]
    refine takeT 2 (some 24) (.pointer (some ⟨w.heap.size, 2, none⟩)) rfl rfl (by kernel_rfl) (fun _ _ _ h => h) (ans_plain (by rfl) (fun w _ => by unfold execOp; go_simp)) ?_
    simp only [Act.put, List.setIfInBounds_toArray, List.set_cons_zero, List.set_cons_succ]
    refine takeT 3 (some 25) (.slice qa qn qc) rfl rfl (by kernel_rfl) (fun _ _ _ h => h) (ans_plain (by rfl) (fun w h => by have hc := Y3 w h; unfold execOp; go_simp)) ?_
    simp only [Act.put, List.setIfInBounds_toArray, List.set_cons_zero, List.set_cons_succ]
    refine takeT 4 (some 26) (.int .i64 (i : Int)) rfl rfl (by kernel_rfl) (fun _ _ _ h => h) (ans_plain (by rfl) (fun w _ => rfl)) ?_
    simp only [Act.put, List.setIfInBounds_toArray, List.set_cons_zero, List.set_cons_succ]
    refine takeT 5 (some 27) (.int .i64 (j : Int)) rfl rfl (by kernel_rfl) (fun _ _ _ h => h) (ans_plain (by rfl) (fun w _ => rfl)) ?_
    simp only [Act.put, List.setIfInBounds_toArray, List.set_cons_zero, List.set_cons_succ]
    refine takeT 6 (some 28) (.slice (cutA qa qc i 3) (j - i) (qc - i)) rfl rfl (by kernel_rfl) (fun _ _ _ h => h) (ans_cut18 23 (.tmp 25) (.tmp 26) (.tmp 27) Try.underlying23 rfl (by rfl) _ _ _ _ rfl rfl rfl (fun w => cut2K (Nat.le_of_lt hij) hj hcap w)) ?_
    simp only [Act.put, List.setIfInBounds_toArray, List.set_cons_zero, List.set_cons_succ]
    refine oneE 7 (by kernel_rfl) (by kernel_rfl) fun u1 hg1 hs1 => ?_
    have src := (HS.out.below (Below.trans k2 (Below.mono hs1 k2.size))).cut (Nat.le_of_lt hij) hj
    have hsl := Sl.len src
    refine opAppS18 (elKd (A18 w A)) 3 40 23 46 _ Try.underlying23 infoKd rfl (by decide) (by decide) u1 rfl rfl (some 29) rfl (.tmp 23) (.tmp 28) rfl u1.heap.size (.slice none 0 0) [] rfl (OwS.nil _ _ _ _ _) (A18 w A) (cutA qa qc i 3) (j - i) (qc - i) _ rfl src (by omega) (by rw [hsl]; simp; omega) (Nat.le_refl _) (fun w' x vs g => elKd.below (grown_none g) x vs) ?_
    intro v2 u2 o2 g2
    obtain ⟨a2, m2, c2, rfl, hm2⟩ := o2.shape
    have g2 : Below u1.heap.size u1 u2 := grown_none g2
    rw [List.nil_append] at o2
    refine ⟨Grows.trans hs1 g2, ?_⟩
    simp only [Act.put, List.setIfInBounds_toArray, List.set_cons_zero, List.set_cons_succ]
    refine takeT 8 (some 30) (.pointer (some ⟨(w.heap.size + 1 + 1), 2, none⟩)) rfl rfl (by kernel_rfl) (fun _ _ _ h => h) (ans_plain (by rfl) (fun w _ => by unfold execOp; go_simp)) ?_
    simp only [Act.put, List.setIfInBounds_toArray, List.set_cons_zero, List.set_cons_succ]
    refine lastE (by kernel_rfl) (by kernel_rfl) (by kernel_rfl) (by kernel_rfl) fun u3 hg3 hs3 => ?_
    have hz3 : w.heap.size + 1 + 1 + 1 ≤ u1.heap.size := by rw [← sW]; exact Below.size hs1
    have o3 : Sl (elKd (A18 w A)) 3 (A18 w A) u2 a2 m2 c2 _ := OwS.sl3 o2 (fun j hj _ => ⟨Or.inr (by omega), by omega, by omega⟩)
    have N3 : Nd (A18 w A) u2 ⟨false, [], (ks.drop i).take (j - i)⟩ T0 ⟨a2, m2, c2⟩ := ⟨Sl.nil _ _ _ _, o3⟩
    replace N3 := N3.below hg3
    have k3 : Below w.heap.size w u3 := k2.trans (Below.mono hs3 k2.size)
    have h6 := t6.below hs3 t6.lt
    have bl7 := t7.below hs3 t7.lt
    refine opStK18 rfl rfl rfl (.tmp 30) (.tmp 29) rfl (w.heap.size + 1 + 1) 2 rfl a2 m2 c2 rfl _ 25 bl7 (by decide) ?_
    intro w3 hw3
    have bl8 : Blk (u3.setCell ⟨(w.heap.size + 1 + 1), 2, none⟩ (.slice a2 m2 c2)) (w.heap.size + 1 + 1) [.bool false, .slice none 0 0, .slice a2 m2 c2] 25 := bl7.setC 2 _
    have g4 := but_set u3 (w.heap.size + 1 + 1) 2 (.slice a2 m2 c2)
    have bl9 := bl8.below hw3 bl8.lt
    have N5 := (N3.keep g4.size (fun j hj ha => g4.block j hj (fun e => ha.2.2 (Option.some.inj e)))).below hw3
    have k4 := below_of_but k3 g4 (by omega) k3.size
    have k5 := k4.trans (Below.mono hw3 k4.size)
    have h7 : Blk (u3.setCell ⟨(w.heap.size + 1 + 1), 2, none⟩ (.slice a2 m2 c2)) (w.heap.size + 1) [.bool false, .slice none 0 0, .slice none 0 0] 25 := h6.setO (by simp) _
    replace h7 := h7.below hw3 h7.lt
    clear g4 bl8 bl7 h6 N3 k3 k4 hg3 hs3 o3 o2 g2 src hs1 hg1 t3 t6 t7 HS Y3 Y7 k2 hw3 hsl hm2 c0 sW hcap
    go_wp2_with (first | ((with_reducible refine at_ld 25 ?_); (refine ld 25 (.tmp 7) 3 sizeNd _ Try.underlying25 rfl (w.heap.size + 1 + 1) 0 [.bool false, .slice none 0 0, .slice a2 m2 c2] rfl bl9.whole rfl ?_)) | ((with_reducible refine at_st 25 ?_); (with_reducible refine Hid.out ?_)))
    unfold Hid
    refine st' 25 (.tmp 6) (.tmp 31) 3 sizeNd (w.heap.size + 1) 0 [.bool false, .slice none 0 0, .slice a2 m2 c2] rfl (ndc_one ⟨false, [], (ks.drop i).take (j - i)⟩ T0 ⟨a2, m2, c2⟩) (h7.there 0 3 (by decide)) rfl rfl ?_
    intro w6 hw6
    have b6 : Blk w6 (w.heap.size + 1) [.bool false, .slice none 0 0, .slice a2 m2 c2] 25 := by rw [hw6]; exact Blk.setsW h7 _ rfl
    have g6 : w3.grownBy w6 (some (w.heap.size + 1)) := by rw [hw6]; exact but_cells' _ _ _ _
    have N6 := (N5.keep g6.size (fun j hj ha => g6.block j hj (fun e => ha.2.1 (Option.some.inj e)))).mono (fun _ _ hj => hj.1)
    have k6 := below_of_but k5 g6 (by omega) k5.size
    clear hw6 g6 N5 k5 h7 bl9
    go_wp2_with fail
    exact bodyPost_ret (v := .agg (List.toArray [.bool false, .slice none 0 0, .slice a2 m2 c2])) (results_cell_row Try.results70 _ _ (w.heap.size + 1) 25 (List.toArray [.bool false, .slice none 0 0, .slice a2 m2 c2]) (0, 0) _ rfl b6 Try.underlying25 rfl sizeNd) rfl ⟨T0, ⟨a2, m2, c2⟩, rfl, N6, k6⟩
  · have hj : j ≤ pn := by simpa [l1] using hj0
    have hcap := (Sl.cap hps).1
    have HS : Hid (SlP (A18 w A) w pa pn pc ps) := hps
    have Y7 : ∀ u, Grows W2 u → u.cell? ⟨w.heap.size + 1 + 1, 1, none⟩ = some (.slice none 0 0) := fun u hu => (t7.below hu t7.lt).cell 1
    have Y3 : ∀ u, Grows W2 u → u.cell? ⟨w.heap.size, 1, none⟩ = some (.slice pa pn pc) := fun u hu => (t3.below hu t3.lt).cell 1
    clear hps hks
    go_wp2_with fail
    refine regionE 9 (S := Grows W2) (by kernel_rfl) (Below.refl _ W2).drew ?_
    refine takeT 0 (some 13) (.pointer (some ⟨(w.heap.size + 1 + 1), 1, none⟩)) rfl rfl (by kernel_rfl) (fun _ _ _ h => h) (ans_plain (by rfl) (fun w _ => by unfold execOp; go_simp)) ?_
    simp only [Act.put, List.setIfInBounds_toArray, List.set_cons_zero, List.set_cons_succ]
    refine takeT 1 (some 14) (.slice none 0 0) rfl rfl (by kernel_rfl) (fun _ _ _ h => h) (ans_plain (by rfl) (fun w h => by have hc := Y7 w h; unfold execOp; go_simp)) ?_
    simp only [Act.put, List.setIfInBounds_toArray, List.set_cons_zero, List.set_cons_succ]
    refine takeT 2 (some 15) (.pointer (some ⟨w.heap.size, 1, none⟩)) rfl rfl (by kernel_rfl) (fun _ _ _ h => h) (ans_plain (by rfl) (fun w _ => by unfold execOp; go_simp)) ?_
    simp only [Act.put, List.setIfInBounds_toArray, List.set_cons_zero, List.set_cons_succ]
    refine takeT 3 (some 16) (.slice pa pn pc) rfl rfl (by kernel_rfl) (fun _ _ _ h => h) (ans_plain (by rfl) (fun w h => by have hc := Y3 w h; unfold execOp; go_simp)) ?_
    simp only [Act.put, List.setIfInBounds_toArray, List.set_cons_zero, List.set_cons_succ]
    refine takeT 4 (some 17) (.int .i64 (i : Int)) rfl rfl (by kernel_rfl) (fun _ _ _ h => h) (ans_plain (by rfl) (fun w _ => rfl)) ?_
    simp only [Act.put, List.setIfInBounds_toArray, List.set_cons_zero, List.set_cons_succ]
    refine takeT 5 (some 18) (.int .i64 (j : Int)) rfl rfl (by kernel_rfl) (fun _ _ _ h => h) (ans_plain (by rfl) (fun w _ => rfl)) ?_
    simp only [Act.put, List.setIfInBounds_toArray, List.set_cons_zero, List.set_cons_succ]
    refine takeT 6 (some 19) (.slice (cutA pa pc i 2) (j - i) (pc - i)) rfl rfl (by kernel_rfl) (fun _ _ _ h => h) (ans_cut18 22 (.tmp 16) (.tmp 17) (.tmp 18) Try.underlying22 rfl (by rfl) _ _ _ _ rfl rfl rfl (fun w => cut2P (Nat.le_of_lt hij) hj hcap w)) ?_
    simp only [Act.put, List.setIfInBounds_toArray, List.set_cons_zero, List.set_cons_succ]
    refine oneE 7 (by kernel_rfl) (by kernel_rfl) fun u1 hg1 hs1 => ?_
    have src := (HS.out.below (Below.trans k2 (Below.mono hs1 k2.size))).cut (Nat.le_of_lt hij) hj
    have hsl := Sl.len src
    refine opAppS18 (elPr (A18 w A)) 2 48 22 44 _ Try.underlying22 infoPr rfl (by decide) (by decide) u1 rfl rfl (some 20) rfl (.tmp 14) (.tmp 19) rfl u1.heap.size (.slice none 0 0) [] rfl (OwS.nil _ _ _ _ _) (A18 w A) (cutA pa pc i 2) (j - i) (pc - i) _ rfl src (by omega) (by rw [hsl]; simp; omega) (Nat.le_refl _) (fun w' x vs g => elPr.below (grown_none g) x vs) ?_
    intro v2 u2 o2 g2
    obtain ⟨a2, m2, c2, rfl, hm2⟩ := o2.shape
    have g2 : Below u1.heap.size u1 u2 := grown_none g2
    rw [List.nil_append] at o2
    refine ⟨Grows.trans hs1 g2, ?_⟩
    simp only [Act.put, List.setIfInBounds_toArray, List.set_cons_zero, List.set_cons_succ]
    refine takeT 8 (some 21) (.pointer (some ⟨(w.heap.size + 1 + 1), 1, none⟩)) rfl rfl (by kernel_rfl) (fun _ _ _ h => h) (ans_plain (by rfl) (fun w _ => by unfold execOp; go_simp)) ?_
    simp only [Act.put, List.setIfInBounds_toArray, List.set_cons_zero, List.set_cons_succ]
    refine lastE (by kernel_rfl) (by kernel_rfl) (by kernel_rfl) (by kernel_rfl) fun u3 hg3 hs3 => ?_
    have hz3 : w.heap.size + 1 + 1 + 1 ≤ u1.heap.size := by rw [← sW]; exact Below.size hs1
    have o3 : Sl (elPr (A18 w A)) 2 (A18 w A) u2 a2 m2 c2 _ := OwS.sl3 o2 (fun j hj _ => ⟨Or.inr (by omega), by omega, by omega⟩)
    have N3 : Nd (A18 w A) u2 ⟨true, (ps.drop i).take (j - i), []⟩ ⟨a2, m2, c2⟩ T0 := ⟨o3, Sl.nil _ _ _ _⟩
    replace N3 := N3.below hg3
    have k3 : Below w.heap.size w u3 := k2.trans (Below.mono hs3 k2.size)
    have h6 := t6.below hs3 t6.lt
    have bl7 := t7.below hs3 t7.lt
    refine opStP18 rfl rfl rfl (.tmp 21) (.tmp 20) rfl (w.heap.size + 1 + 1) 1 rfl a2 m2 c2 rfl _ 25 bl7 (by decide) ?_
    intro w3 hw3
    have bl8 : Blk (u3.setCell ⟨(w.heap.size + 1 + 1), 1, none⟩ (.slice a2 m2 c2)) (w.heap.size + 1 + 1) [.bool true, .slice a2 m2 c2, .slice none 0 0] 25 := bl7.setC 1 _
    have g4 := but_set u3 (w.heap.size + 1 + 1) 1 (.slice a2 m2 c2)
    have bl9 := bl8.below hw3 bl8.lt
    have N5 := (N3.keep g4.size (fun j hj ha => g4.block j hj (fun e => ha.2.2 (Option.some.inj e)))).below hw3
    have k4 := below_of_but k3 g4 (by omega) k3.size
    have k5 := k4.trans (Below.mono hw3 k4.size)
    have h7 : Blk (u3.setCell ⟨(w.heap.size + 1 + 1), 1, none⟩ (.slice a2 m2 c2)) (w.heap.size + 1) [.bool false, .slice none 0 0, .slice none 0 0] 25 := h6.setO (by simp) _
    replace h7 := h7.below hw3 h7.lt
    clear g4 bl8 bl7 h6 N3 k3 k4 hg3 hs3 o3 o2 g2 src hs1 hg1 t3 t6 t7 HS Y3 Y7 k2 hw3 hsl hm2 c0 sW hcap
    go_wp2_with (first | ((with_reducible refine at_ld 25 ?_); (refine ld 25 (.tmp 7) 3 sizeNd _ Try.underlying25 rfl (w.heap.size + 1 + 1) 0 [.bool true, .slice a2 m2 c2, .slice none 0 0] rfl bl9.whole rfl ?_)) | ((with_reducible refine at_st 25 ?_); (with_reducible refine Hid.out ?_)))
    unfold Hid
    refine st' 25 (.tmp 6) (.tmp 31) 3 sizeNd (w.heap.size + 1) 0 [.bool true, .slice a2 m2 c2, .slice none 0 0] rfl (ndc_one ⟨true, (ps.drop i).take (j - i), []⟩ ⟨a2, m2, c2⟩ T0) (h7.there 0 3 (by decide)) rfl rfl ?_
    intro w6 hw6
    have b6 : Blk w6 (w.heap.size + 1) [.bool true, .slice a2 m2 c2, .slice none 0 0] 25 := by rw [hw6]; exact Blk.setsW h7 _ rfl
    have g6 : w3.grownBy w6 (some (w.heap.size + 1)) := by rw [hw6]; exact but_cells' _ _ _ _
    have N6 := (N5.keep g6.size (fun j hj ha => g6.block j hj (fun e => ha.2.1 (Option.some.inj e)))).mono (fun _ _ hj => hj.1)
    have k6 := below_of_but k5 g6 (by omega) k5.size
    clear hw6 g6 N5 k5 h7 bl9
    go_wp2_with fail
    exact bodyPost_ret (v := .agg (List.toArray [.bool true, .slice a2 m2 c2, .slice none 0 0])) (results_cell_row Try.results70 _ _ (w.heap.size + 1) 25 (List.toArray [.bool true, .slice a2 m2 c2, .slice none 0 0]) (0, 0) _ rfl b6 Try.underlying25 rfl sizeNd) rfl ⟨⟨a2, m2, c2⟩, T0, rfl, N6, k6⟩

end Go.Proofs.Ytnmmopneacdgfaa
