/-
  2 texts in one. No statement of the seat is proved here.
-/
import Derived.Test.YtlenmkhmkommcaaGreatJ3

/-
  The contracts of layer 9's reference's New, Plot, see and answer. Conditions: lists of at most a million.
-/
namespace Go.Proofs.YtlenmkhmkommcaaGreat
open Go.RowKit

theorem infoT : (Tryz.prog.info? 114).map (fun i => (i.zero, i.size, i.bytes)) = some (some (.agg #[.int .i64 0, .int .i64 0, .slice none 0 0]), 3, 40) := by kernel_rfl
theorem ne93 : 114 ≠ 5 := by decide
theorem OwT.grown {A : Nat → Prop} {e : TypeId} {w w' : World} {base r : Nat} {v : Value} {l : List Tch} (h : OwS (elT A) 3 e w base v l) (g : w.grownBy w' (some r)) (hr : r < base) (h5 : ∀ cur f, w.heap[r]? ≠ some (.cells cur 5 f)) : OwS (elT A) 3 e w' base v l :=
  h.keep (elT.grown g (fun j cur f hj => by obtain rfl := Option.some.inj hj; exact h5 cur f)) (fun j hj => g.block j (h.lt j hj).2 (fun e => by have := (h.lt j hj).1; have := Option.some.inj e; omega))
theorem OwT.below {A : Nat → Prop} {e : TypeId} {w w' : World} {base : Nat} {v : Value} {l : List Tch} (h : OwS (elT A) 3 e w base v l) (g : Below w.heap.size w w') : OwS (elT A) 3 e w' base v l :=
  h.keep (elT.keep fun j hj _ => g.block j hj) (fun j hj => g.block j (h.lt j hj).2)
theorem below4 (w : World) (o p q r : Obj) : Below w.heap.size w ((((w.alloc o).alloc p).alloc q).alloc r) := (below3 _ _ _ _).alloc (by simp; omega) _

theorem rAnswer (w : World) (b : Bool) : Calls Tryz.prog 80 #[.bool b] w fun e w' => e = .returned (.int .i64 (if b then 0 else 5)) ∧ w = w' := by
  cases b with
  | true =>
    go_enter Tryz.func80, Tryz.ntmps80
    go_wp2_with fail
    go_ret
    exact ⟨rfl, rfl⟩
  | false =>
    go_enter Tryz.func80, Tryz.ntmps80
    go_wp2_with fail
    go_ret
    exact ⟨rfl, rfl⟩

def q0 : Quad := ⟨none, 0, 0, none, 0, 0, none, 0, 0, none, 0, 0⟩
theorem RD.new (A : Nat → Prop) (w : World) (p : PowS) (n : Int) : RD A w (DskS.new p n) q0 := ⟨Sl.nil _ _ _ _, Sl.nil _ _ _ _, Sl.nil _ _ _ _, Sl.nil _ _ _ _⟩
set_option maxRecDepth 100000 in
theorem rDNew (w : World) (p : PowS) (n : Int) (h : 1 ≤ n ∧ n ≤ 4096) : Calls Tryz.prog 10 #[pv p, .int .i64 n] w fun e w' => e = .returned (.tuple #[dv (DskS.new p n) q0, .int .i64 0]) ∧ Below w.heap.size w w' := by
  obtain ⟨ps, pf, pd, pg⟩ := p
  unfold pv
  dsimp only
  have i1 : ¬ n < 1 := by omega
  have i2 : ¬ (4096 : Int) < n := by omega
  go_enter Tryz.func10, Tryz.ntmps10
  go_wp2_with fail
  exact bodyPost_ret (v := .tuple #[dv (DskS.new ⟨ps, pf, pd, pg⟩ n) q0, .int .i64 0]) (by simp [results, Tryz.results10, go_sem, dv, dc, DskS.new, q0]) rfl ⟨rfl, below2 _ _ _⟩
set_option maxRecDepth 100000 in
set_option maxHeartbeats 4000000 in
theorem rSee (w : World) {A : Nat → Prop} {D : DskS} {q : Quad} (h : RD A w D q) (hA : ∀ j, w.heap.size ≤ j → A j) (k at_ : Int) (hk : i64 k) (hat : i64 at_) {p : Option Addr} {m c : Nat} {b : List UInt8} (hB : B5 A w p m c b) (hz : D.seen.length + 1 ≤ 1000000) :
    Calls Tryz.prog 79 #[dv D q, .agg #[.int .i64 k, .int .i64 at_, .slice p m c]] w fun e w' => ∃ q', e = .returned (dv (D.see (k, at_, b)) q') ∧ RD A w' (D.see (k, at_, b)) q' ∧ Below w.heap.size w w' := by
  obtain ⟨sa, sn, sc, la, ln, lc, ta, tn, tc, pa, pn, pq⟩ := q
  obtain ⟨⟨ps, pf, pd, pg⟩, n, safe, loose, seen, plot, steps⟩ := D
  have HR : Hid (RD A w ⟨⟨ps, pf, pd, pg⟩, n, safe, loose, seen, plot, steps⟩ ⟨sa, sn, sc, la, ln, lc, ta, tn, tc, pa, pn, pq⟩) := h
  have HB : Hid (B5 A w p m c b) := hB
  clear h hB
  unfold dv dc DskS.see
  dsimp only at hz ⊢
  have hsn : seen.length = tn := HR.out.seen.len
  obtain ⟨D', hD'⟩ : ∃ D' : DskS, D' = ⟨⟨ps, pf, pd, pg⟩, n, safe, loose, seen ++ [(k, at_, b)], plot, steps⟩ := ⟨_, rfl⟩
  have HD : Hid (D' = ⟨⟨ps, pf, pd, pg⟩, n, safe, loose, seen ++ [(k, at_, b)], plot, steps⟩) := hD'
  clear hD'
  go_enter Tryz.func79, Tryz.ntmps79
  go_wp2_with (first
    | (at_builtin; refine wpList_slapp (elT A) 3 40 40 114 _ Tryz.underlying40 infoT rfl (by decide) (by decide) _ rfl (.tmp 9) (.tmp 11) rfl (w.heap.size + 4) (.slice none 0 0) [] rfl (OwS.nil _ _ _ _ _) A ta tn tc seen rfl (HR.out.below (below4 w _ _ _ _)).seen (by simp; omega) (by simp) (fun w' x vs hg hx => elT.grown hg (fun j cur f hj => by simp [Value.ownBlock] at hj) x vs hx) ?_; intro v1 w1 ho1 hg1; obtain ⟨a1, n1, c1, rfl, hn1⟩ := ho1.shape; rw [List.nil_append] at ho1; have hb1 : Below (w.heap.size + 4) _ w1 := (Below.refl _ _).grown hg1 (by simp) (fun k hk => by simp [Value.ownBlock] at hk); have b5 := (Blk.newAt (((w.alloc _).alloc _).alloc _) _ 42 (w.heap.size + 1 + 1 + 1) (by simp) _ rfl).below hb1 (by omega); have b4 := ((Blk.newAt ((w.alloc _).alloc _) _ 42 (w.heap.size + 1 + 1) (by simp) _ rfl).old _).below hb1 (by omega); have b3 := (((Blk.newAt (w.alloc _) _ 114 (w.heap.size + 1) (by simp) _ rfl).old _).old _).below hb1 (by omega); have k1 : Below w.heap.size w w1 := (below4 w _ _ _ _).trans (hb1.mono (by omega)); have c5 : w1.cell? ⟨w.heap.size + 1 + 1 + 1, 7, none⟩ = some (.slice none 0 0) := b5.cell 7; have z5 := b5.free 7; have l5 := b5.lt; have t0 : w1.cell? ⟨w.heap.size + 1, 0, none⟩ = some (.int .i64 k) := b3.cell 0; have t1 : w1.cell? ⟨w.heap.size + 1, 1, none⟩ = some (.int .i64 at_) := b3.cell 1; have t2 : w1.cell? ⟨w.heap.size + 1, 2, none⟩ = some (.slice p m c) := b3.cell 2; have kX : Below w.heap.size w ((w1.setCell ⟨w.heap.size + 1 + 1 + 1, 7, none⟩ (.slice a1 n1 c1)).alloc (.cells #[.int .i64 k, .int .i64 at_, .slice p m c] 114)) := (k1.setCell (by show w.heap.size ≤ w.heap.size + 1 + 1 + 1; omega) _).alloc (by have := k1.size; simp [World.setCell]; omega) _; have oX := OwT.below (OwT.grown ho1 (but_set w1 (w.heap.size + 1 + 1 + 1) 7 (.slice a1 n1 c1)) (by omega) (b5.not5 ne40)) (below_alloc (w1.setCell ⟨w.heap.size + 1 + 1 + 1, 7, none⟩ (.slice a1 n1 c1)) (.cells #[.int .i64 k, .int .i64 at_, .slice p m c] 114)); have b5X : Blk ((w1.setCell ⟨w.heap.size + 1 + 1 + 1, 7, none⟩ (.slice a1 n1 c1)).alloc (.cells #[.int .i64 k, .int .i64 at_, .slice p m c] 114)) (w.heap.size + 1 + 1 + 1) (dc ⟨⟨ps, pf, pd, pg⟩, n, safe, loose, seen, plot, steps⟩ ⟨sa, sn, sc, la, ln, lc, a1, n1, c1, pa, pn, pq⟩) 42 := (b5.setC 7 _).old _; have b4X : Blk ((w1.setCell ⟨w.heap.size + 1 + 1 + 1, 7, none⟩ (.slice a1 n1 c1)).alloc (.cells #[.int .i64 k, .int .i64 at_, .slice p m c] 114)) (w.heap.size + 1 + 1) z40 42 := (b4.setO (by simp) _).old _; have sX : w1.heap.size ≤ ((w1.setCell ⟨w.heap.size + 1 + 1 + 1, 7, none⟩ (.slice a1 n1 c1)).alloc (.cells #[.int .i64 k, .int .i64 at_, .slice p m c] 114)).heap.size := by simp [World.setCell])
    | (at_builtin; go_must (refine wpList_slapp (elT A) 3 40 40 114 _ Tryz.underlying40 infoT rfl (by decide) (by decide) ((w1.setCell ⟨w.heap.size + 1 + 1 + 1, 7, none⟩ (.slice a1 n1 c1)).alloc (.cells #[.int .i64 k, .int .i64 at_, .slice p m c] 114)) rfl (.tmp 15) (.tmp 17) rfl (w.heap.size + 4) (.slice a1 n1 c1) seen rfl oX A (some ⟨w1.heap.size, 0, none⟩) 1 1 [(k, at_, b)] rfl (Sl.one (Blk.newAt (w1.setCell ⟨w.heap.size + 1 + 1 + 1, 7, none⟩ (.slice a1 n1 c1)) _ 114 w1.heap.size (by simp [World.setCell]) _ rfl) ⟨rfl, by intro u hu; simp at hu; rcases hu with rfl | rfl | rfl <;> rfl, ⟨p, m, c, rfl, HB.out.below kX, hk, hat⟩⟩ (hA _ k1.size)) (by simp; omega) (Nat.le_trans (by omega) sX) (fun w' x vs hg hx => elT.grown hg (oX.not5 ne93) x vs hx) ?_); intro v2 w2 ho2 hg2; obtain ⟨a2, n2, c2, rfl, hn2⟩ := ho2.shape; have hb2 : Below (w.heap.size + 4) ((w1.setCell ⟨w.heap.size + 1 + 1 + 1, 7, none⟩ (.slice a1 n1 c1)).alloc (.cells #[.int .i64 k, .int .i64 at_, .slice p m c] 114)) w2 := (Below.refl _ _).grown hg2 (Nat.le_trans (by omega) sX) (fun k hk => (oX.lt k hk).1); have b5Y := b5X.below hb2 (by omega); have b4Y := b4X.below hb2 (by omega); have k2 : Below w.heap.size w w2 := kX.trans (hb2.mono (by omega)); have c6 : w2.cell? ⟨w.heap.size + 1 + 1 + 1, 7, none⟩ = some (.slice a1 n1 c1) := b5Y.cell 7; have z6 := b5Y.free 7; have l6 := b5Y.lt; obtain ⟨q', hq'⟩ : ∃ q' : Quad, q' = ⟨sa, sn, sc, la, ln, lc, a2, n2, c2, pa, pn, pq⟩ := ⟨_, rfl⟩; have HQ : Hid (q' = ⟨sa, sn, sc, la, ln, lc, a2, n2, c2, pa, pn, pq⟩) := hq'; have bF : Blk (w2.setCell ⟨w.heap.size + 1 + 1 + 1, 7, none⟩ (.slice a2 n2 c2)) (w.heap.size + 1 + 1 + 1) (dc D' q') 42 := (by rw [HD.out, hq']; exact b5Y.setC 7 _); clear hq'; have b4F : Blk (w2.setCell ⟨w.heap.size + 1 + 1 + 1, 7, none⟩ (.slice a2 n2 c2)) (w.heap.size + 1 + 1) z40 42 := b4Y.setO (by simp) _)
    | (with_reducible refine at_ld 42 ?_; (refine ld 42 (.tmp 5) 10 size40 _ Tryz.underlying42 rfl (w.heap.size + 1 + 1 + 1) 0 (dc D' q') rfl bF.whole rfl ?_))
    | (with_reducible refine at_st 42 ?_; (refine st' 42 (.tmp 4) (.tmp 20) 10 size40 (w.heap.size + 1 + 1) 0 (dc D' q') rfl (dc_one _ _) (b4F.there 0 10 (by simp [z40])) rfl rfl ?_); intro w8 hw8))
  have kF : Below w.heap.size w (w2.setCell ⟨w.heap.size + 1 + 1 + 1, 7, none⟩ (.slice a2 n2 c2)) := k2.setCell (by show w.heap.size ≤ w.heap.size + 1 + 1 + 1; omega) _
  have oF := OwT.grown ho2 (but_set w2 (w.heap.size + 1 + 1 + 1) 7 (.slice a2 n2 c2)) (by omega) (b5Y.not5 ne40)
  have b8 : Blk w8 (w.heap.size + 1 + 1) (dc D' q') 42 := by rw [hw8]; exact b4F.setsW _ rfl
  have k8 : Below w.heap.size w w8 := by rw [hw8]; exact below_sets (by omega) _ kF 0
  have o8 := OwT.grown (w' := w8) oF (by rw [hw8]; exact but_cells _ _ _ _) (show w.heap.size + 1 + 1 < w.heap.size + 4 by omega) (b4F.not5 ne40)
  have hr := HR.out.below k8
  have hrd : RD A w8 D' q' := by rw [HD.out, HQ.out]; exact ⟨hr.safe, hr.loose, o8.sl3 (fun j hj _ => hA j (by omega)), hr.plot⟩
  rw [← hw8]
  exact bodyPost_ret (v := dv D' q') (results_cell_row Tryz.results79 _ _ (w.heap.size + 1 + 1) 42 (dc D' q').toArray (0, 0) _ rfl b8 Tryz.underlying42 rfl size40) rfl ⟨q', by rw [HD.out]; rfl, by rw [HD.out] at hrd; exact hrd, k8⟩

end Go.Proofs.YtlenmkhmkommcaaGreat

/-
  The contract of layer 9's reference's Poke, where it does nothing. Conditions: numbers of the language.
-/
namespace Go.Proofs.YtlenmkhmkommcaaGreat
open Go.RowKit

def xv (x : Pok) (p : Option Addr) (m c : Nat) : Value := .agg #[.int .i64 x.on, .int .i64 x.at_, .int .i64 x.kind, .slice p m c, .int .i64 x.num]

set_option maxRecDepth 100000 in
set_option maxHeartbeats 4000000 in
theorem rPokeIdle (w : World) {A : Nat → Prop} {D : DskS} {q : Quad} (h : RD A w D q) (x : Pok) (p : Option Addr) (m c : Nat) (hid : D.idle x) :
    Calls Tryz.prog 23 #[dv D q, xv x p m c] w fun e w' => ∃ q', e = .returned (dv (D.poke x) q') ∧ RD A w' (D.poke x) q' ∧ Below w.heap.size w w' := by
  have hp : D.poke x = D := by unfold DskS.poke; rw [if_pos hid]
  rw [hp]
  clear hp
  obtain ⟨on, at_, kind, bytes, num⟩ := x
  have HR : Hid (∀ u, Below w.heap.size w u → RD A u D q) := fun u hu => h.below hu
  have HE : Hid (∃ Dd : DskS, Dd = D) := ⟨D, rfl⟩
  unfold DskS.idle at hid
  unfold xv
  dsimp only at hid ⊢
  have hdv : dv D q = .agg #[.int .i64 (D.p.steps : Int), .int .i64 D.p.fuse, .bool D.p.done, .bool D.p.down, .int .i64 D.n, .slice q.sa q.sn q.sc, .slice q.la q.ln q.lc, .slice q.ta q.tn q.tc, .slice q.pa q.pn q.pq, .int .i64 (D.steps : Int)] := rfl
  have HV : Hid (∃ v, v = dv D q) := ⟨_, rfl⟩
  clear h
  have key : ∀ u, Below w.heap.size w u → ∃ q', Ending.returned (dv D q) = .returned (dv D q') ∧ RD A u D q' ∧ Below w.heap.size w u := fun u hu => ⟨q, rfl, HR.out u hu, hu⟩
  have KEY : Hid (∀ u, Below w.heap.size w u → ∃ q', Ending.returned (dv D q) = .returned (dv D q') ∧ RD A u D q' ∧ Below w.heap.size w u) := key
  clear key
  obtain ⟨P, hP⟩ : ∃ P : Ending → World → Prop, P = fun e w' => ∃ q', e = .returned (dv D q') ∧ RD A w' D q' ∧ Below w.heap.size w w' := ⟨_, rfl⟩
  have KEYP : Hid (∀ u, Below w.heap.size w u → P (.returned (dv D q)) u) := by rw [hP]; exact KEY.out
  rw [← hP]
  clear hP KEY HR HE HV
  rw [hdv] at KEYP ⊢
  clear hdv
  generalize D.p.steps = ps at *
  generalize D.p.fuse = pf at *
  generalize D.p.done = pd at *
  generalize D.p.down = pg at *
  generalize D.n = n at *
  generalize D.steps = steps at *
  obtain ⟨sa, sn, sc, la, ln, lc, ta, tn, tc, pa, pn, pq⟩ := q
  dsimp only at KEYP ⊢
  by_cases h1 : at_ < 0
  · clear hid
    go_enter Tryz.func23, Tryz.ntmps23
    go_wp2_with fail
    exact bodyPost_ret (by simp [results, Tryz.results23, go_sem]) rfl (KEYP.out _ (below3 _ _ _ _))
  by_cases h2 : n ≤ at_
  · clear hid
    go_enter Tryz.func23, Tryz.ntmps23
    go_wp2_with fail
    exact bodyPost_ret (by simp [results, Tryz.results23, go_sem]) rfl (KEYP.out _ (below3 _ _ _ _))
  by_cases h3 : kind < 0
  · clear hid
    go_enter Tryz.func23, Tryz.ntmps23
    go_wp2_with fail
    exact bodyPost_ret (by simp [results, Tryz.results23, go_sem]) rfl (KEYP.out _ (below3 _ _ _ _))
  by_cases h4 : 2 < kind
  · clear hid
    go_enter Tryz.func23, Tryz.ntmps23
    go_wp2_with fail
    exact bodyPost_ret (by simp [results, Tryz.results23, go_sem]) rfl (KEYP.out _ (below3 _ _ _ _))
  by_cases h5 : 0 < kind ∧ num < 0
  · clear hid
    obtain ⟨h5a, h5b⟩ := h5
    go_enter Tryz.func23, Tryz.ntmps23
    go_wp2_with fail
    exact bodyPost_ret (by simp [results, Tryz.results23, go_sem]) rfl (KEYP.out _ (below3 _ _ _ _))
  have h6 : kind = 1 ∧ n ≤ num := by
    rcases hid with h | h | h | h | h | h
    · exact absurd h h1
    · exact absurd h h2
    · exact absurd h h3
    · exact absurd h h4
    · exact absurd h h5
    · exact h
  obtain ⟨rfl, h6b⟩ := h6
  have h5b : ¬ num < 0 := fun h => h5 ⟨by omega, h⟩
  clear hid h5
  go_enter Tryz.func23, Tryz.ntmps23
  go_wp2_with fail
  exact bodyPost_ret (by simp [results, Tryz.results23, go_sem]) rfl (KEYP.out _ (below3 _ _ _ _))

end Go.Proofs.YtlenmkhmkommcaaGreat
