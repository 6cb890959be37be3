/-
  3 texts in one. No statement of the seat is proved here.
-/
import Derived.Test.YtfdilgnlfademaaG3

/-
  The contract of layer 9's reference's settle. Conditions: lists of at most a million.
-/
namespace Go.Proofs.Ytfdilgnlfademaa
open Go.RowKit

theorem infoC : (Try.prog.info? 91).map (fun i => (i.zero, i.size, i.bytes)) = some (some (.agg #[.int .i64 0, .slice none 0 0]), 2, 32) := by kernel_rfl
theorem size40 : (Try.prog.info? 40).map (·.size) = some 10 := by kernel_rfl
/-- A literal of one change, the one that may come up. -/
theorem opBSC {ops : Array Oper} {Q : Exit → Act → World → Prop} {i : Nat} {oi : Oper} (d : Option Tmp) (hi : ops[i]? = some oi) (hd : oi.dst = d) (hg : oi.guard = none) (x : Operand) (ho : oi.op = .buildSlice 37 1 #[(0, x)]) {K : Act → World → Prop} {a : Act} {w : World} (u v : Value) (hx : a.eval x = .agg #[u, v])
    (k : K (a.put d (.slice (some ⟨w.heap.size, 0, none⟩) 1 1)) (w.alloc (.cells #[u, v] 91))) : wpOp Try.prog ops Q i K a w := by
  subst hd
  have hK : Hid _ := k
  clear k
  unfold wpOp
  simp only [hi]
  rw [if_pos (by simp [Region.wanted, hg])]
  left
  unfold Oper.wp execOp
  simp only [ho, List.map_toArray, List.map_cons, List.map_nil, hx]
  go_simp
  exact hK.out
/-- A slice of changes stored into a field, the one that may come up. -/
theorem opStC {ops : Array Oper} {Q : Exit → Act → World → Prop} {i : Nat} {oi : Oper} (hi : ops[i]? = some oi) (hd : oi.dst = none) (hg : oi.guard = none) (x y : Operand) (ho : oi.op = .store 37 x y) {K : Act → World → Prop} {a : Act} {w : World} (g o : Nat) (hx : a.eval x = .pointer (some ⟨g, o, none⟩)) (s : Option Addr) (n c : Nat) (hy : a.eval y = .slice s n c) (vs : List Value) (t : TypeId) (hb : Blk w g vs t) (ho2 : o < vs.length)
    (k : K a (w.setCell ⟨g, o, none⟩ (.slice s n c))) : wpOp Try.prog ops Q i K a w := by
  have hc := hb.cell o
  rw [List.getElem?_eq_getElem ho2] at hc
  have hf := hb.free o
  have hl := hb.lt
  have hK : Hid _ := k
  clear k
  unfold wpOp
  simp only [hi]
  rw [if_pos (by simp [Region.wanted, hg])]
  left
  unfold Oper.wp execOp
  simp only [ho, hx, hy]
  go_simp
  exact hK.out
/-- A disk's zero. -/
def z40 : List Value := [.int .i64 0, .int .i64 0, .bool false, .bool false, .int .i64 0, .slice none 0 0, .slice none 0 0, .slice none 0 0, .slice none 0 0, .int .i64 0]
theorem ne5 : 91 ≠ 5 := by decide

theorem OwC.grown {A : Nat → Prop} {e : TypeId} {w w' : World} {base r : Nat} {v : Value} {l : List Chg} (h : OwS (elC A) 2 e w base v l) (g : w.grownBy w' (some r)) (hr : r < base) (h5 : ∀ cur f, w.heap[r]? ≠ some (.cells cur 5 f)) : OwS (elC A) 2 e w' base v l :=
  h.keep (elC.grown g (fun j cur f hj => by obtain rfl := Option.some.inj hj; exact h5 cur f)) (fun j hj => g.block j (h.lt j hj).2 (fun e => by have := (h.lt j hj).1; have := Option.some.inj e; omega))
theorem OwC.below {A : Nat → Prop} {e : TypeId} {w w' : World} {base : Nat} {v : Value} {l : List Chg} (h : OwS (elC A) 2 e w base v l) (g : Below w.heap.size w w') : OwS (elC A) 2 e w' base v l :=
  h.keep (elC.keep fun j hj _ => g.block j hj) (fun j hj => g.block j (h.lt j hj).2)
theorem Blk.not5 {w : World} {g : Nat} {vs : List Value} {t : TypeId} (h : Blk w g vs t) (ht : t ≠ 5) : ∀ cur f, w.heap[g]? ≠ some (.cells cur 5 f) := fun cur f hh => by
  rw [show w.heap[g]? = _ from h] at hh
  simp only [Option.some.injEq, Obj.cells.injEq] at hh
  exact ht hh.2.1
theorem but_cells (g : Nat) : ∀ (us : List Value) (w : World) (o : Nat), w.grownBy (w.setCells g o us) (some g)
  | [], _, _ => World.grownBy.refl _ _
  | u :: us, w, o => but_trans (but_set w g o u) (but_cells g us _ (o + 1))
theorem ne40 : 40 ≠ 5 := by decide

set_option maxRecDepth 100000 in
set_option maxHeartbeats 4000000 in
theorem rSettle (w : World) {A : Nat → Prop} {D : DskS} {q : Quad} (h : RD A w D q) (hA : ∀ j, w.heap.size ≤ j → A j) (at_ : Int) (hat : i64 at_) {a : Option Addr} {m c : Nat} {b : List UInt8} (hB : Bs w a m c b) (hz : D.safe.length + 1 ≤ 1000000) :
    Calls Try.prog 53 #[dv D q, .int .i64 at_, .slice a m c] w fun e w' => ∃ q', e = .returned (dv (D.settle at_ b) q') ∧ RD A w' (D.settle at_ b) q' ∧ Below w.heap.size w w' := by
  obtain ⟨sa, sn, sc, la, ln, lc, ta, tn, tc, pa, pn, pq⟩ := q
  obtain ⟨⟨ps, pf, pd, pg⟩, n, safe, loose, seen, plot, steps⟩ := D
  have HR : Hid (RD A w ⟨⟨ps, pf, pd, pg⟩, n, safe, loose, seen, plot, steps⟩ ⟨sa, sn, sc, la, ln, lc, ta, tn, tc, pa, pn, pq⟩) := h
  have HB : Hid (Bs w a m c b) := hB
  clear h hB
  unfold dv dc DskS.settle
  dsimp only at hz ⊢
  have hsn : safe.length = sn := HR.out.safe.len
  go_enter Try.func53, Try.ntmps53
  go_wp2_with (at_builtin; go_must (refine wpList_slapp (elC A) 2 32 37 91 _ Try.underlying37 infoC rfl (by decide) (by decide) _ rfl (.tmp 11) (.tmp 13) rfl (w.heap.size + 3) (.slice none 0 0) [] rfl (OwS.nil _ _ _ _ _) A sa sn sc safe rfl (HR.out.below (below3 w _ _ _)).safe (by simp; omega) (by simp) (fun w' x vs hg hx => elC.grown hg (fun j cur f hj => by simp [Value.ownBlock] at hj) x vs hx) ?_); intro v1 w1 ho1 hg1; obtain ⟨a1, n1, c1, rfl, hn1⟩ := ho1.shape; rw [List.nil_append] at ho1; have hb1 : Below (w.heap.size + 3) _ w1 := (Below.refl _ _).grown hg1 (by simp) (fun k hk => by simp [Value.ownBlock] at hk); have b1 := (Blk.newAt ((w.alloc _).alloc _) _ 40 (w.heap.size + 1 + 1) (by simp) _ rfl).below hb1 (by omega); have b6 := ((Blk.newAt (w.alloc _) _ 40 (w.heap.size + 1) (by simp) _ rfl).old _).below hb1 (by omega); have k1 : Below w.heap.size w w1 := (below3 w _ _ _).trans (hb1.mono (by omega)); have c5 : w1.cell? ⟨w.heap.size + 1 + 1, 5, none⟩ = some (.slice none 0 0) := b1.cell 5; have z5 := b1.free 5; have l7 := b1.lt)
  obtain ⟨W, hW⟩ : ∃ W, W = w1.setCell ⟨w.heap.size + 1 + 1, 5, none⟩ (.slice a1 n1 c1) := ⟨_, rfl⟩
  rw [← hW]
  have b7 : Blk W (w.heap.size + 1 + 1) (dc ⟨⟨ps, pf, pd, pg⟩, n, safe, loose, seen, plot, steps⟩ ⟨a1, n1, c1, la, ln, lc, ta, tn, tc, pa, pn, pq⟩) 40 := by rw [hW]; exact b1.setC 5 _
  have b6W : Blk W (w.heap.size + 1) z40 40 := by rw [hW]; exact b6.setO (by simp) _
  have kW : Below w.heap.size w W := by rw [hW]; exact k1.setCell (by show w.heap.size ≤ w.heap.size + 1 + 1; omega) _
  have gW : w1.grownBy W (some (w.heap.size + 1 + 1)) := by rw [hW]; exact but_set _ _ _ _
  have hz7 : ∀ j cur f, some (w.heap.size + 1 + 1) = some j → w1.heap[j]? ≠ some (.cells cur 5 f) := fun j cur f hj hh => by obtain rfl := Option.some.inj hj; rw [show w1.heap[w.heap.size + 1 + 1]? = _ from b1] at hh; simp at hh
  have oW : OwS (elC A) 2 91 W (w.heap.size + 3) (.slice a1 n1 c1) safe := ho1.keep (elC.grown gW hz7) (fun j hj => gW.block j (ho1.lt j hj).2 (fun e => by have := (ho1.lt j hj).1; have := Option.some.inj e; omega))
  have F5 : ∀ u, Grows W u → u.cell? ⟨w.heap.size + 1 + 1, 5, none⟩ = some (.slice a1 n1 c1) := fun u h => (b7.below h b7.lt).cell 5
  clear hW hz7 gW hg1 hb1 b1 b6 k1 c5 z5 l7 ho1
  go_wp2_with fail
  refine regionE 7 (S := Grows W) (by kernel_rfl) (Below.refl _ W).drew ?_
  refine takeT 0 (some 16) (.pointer (some ⟨w.heap.size + 1 + 1, 5, none⟩)) rfl rfl (by kernel_rfl) (fun _ _ _ h => h) (ans_plain (by rfl) (fun w _ => by unfold execOp; go_simp)) ?_
  simp only [Act.put, List.setIfInBounds_toArray, List.set_cons_zero, List.set_cons_succ]
  refine takeT 1 (some 17) (.slice a1 n1 c1) rfl rfl (by kernel_rfl) (fun _ _ _ h => h) (ans_plain (by rfl) (fun w h => by have hc := F5 w h; unfold execOp; go_simp)) ?_
  simp only [Act.put, List.setIfInBounds_toArray, List.set_cons_zero, List.set_cons_succ]
  refine takeT 2 (some 18) (.int .i64 at_) rfl rfl (by kernel_rfl) (fun _ _ _ h => h) (ans_plain (by rfl) (fun w _ => rfl)) ?_
  simp only [Act.put, List.setIfInBounds_toArray, List.set_cons_zero, List.set_cons_succ]
  refine takeT 3 (some 19) (.slice a m c) rfl rfl (by kernel_rfl) (fun _ _ _ h => h) (ans_plain (by rfl) (fun w _ => rfl)) ?_
  simp only [Act.put, List.setIfInBounds_toArray, List.set_cons_zero, List.set_cons_succ]
  refine callE 4 (some 20) 61 #[.tmp 19] #[26] #[.slice a m c] rfl rfl rfl (by rfl) (by rfl) (by kernel_rfl) (by kernel_rfl) Try.call61 fun u1 hg1 hs1 => ?_
  refine (rFit u1 (HB.out.below (kW.trans (Below.mono hs1 kW.size)) (Nat.le_refl _))).mono ?_
  rintro e u2 ⟨p2, m2, c2, rfl, o2, hb2⟩
  have hs2 : Grows W u2 := Grows.trans hs1 hb2
  refine ⟨_, rfl, hs2, ?_⟩
  simp only [Act.put, List.setIfInBounds_toArray, List.set_cons_zero, List.set_cons_succ]
  refine takeT 5 (some 21) (.agg #[.int .i64 at_, .slice p2 m2 c2]) rfl rfl (by kernel_rfl) (fun _ _ _ h => h) (ans_plain (by rfl) (fun w _ => by unfold execOp; go_simp)) ?_
  simp only [Act.put, List.setIfInBounds_toArray, List.set_cons_zero, List.set_cons_succ]
  refine oneE 6 (by kernel_rfl) (by kernel_rfl) fun u3 hg3 hs3 => ?_
  refine opBSC (some 22) rfl rfl rfl (.tmp 21) rfl (.int .i64 at_) (.slice p2 m2 c2) rfl ⟨Grows.trans hs3 (below_alloc _ _), ?_⟩
  simp only [Act.put, List.setIfInBounds_toArray, List.set_cons_zero, List.set_cons_succ]
  refine goE (by kernel_rfl) (by kernel_rfl) (by kernel_rfl) fun u4 hg4 hs4 => ?_
  refine opApp1 (elC A) 2 32 37 91 _ Try.underlying37 infoC rfl (by decide) (by decide) u4 rfl rfl (some 23) rfl (.tmp 17) (.tmp 22) rfl (w.heap.size + 3) (.slice a1 n1 c1) safe rfl (oW.keep (elC.keep fun j hj _ => Below.block hs4 j hj) (fun j hj => Below.block hs4 j (oW.lt j hj).2)) u3.heap.size 1 (at_, fitB b) [.int .i64 at_, .slice p2 m2 c2] rfl ((Blk.newAt u3 #[.int .i64 at_, .slice p2 m2 c2] 91 u3.heap.size rfl _ rfl).below hg4 (by simp)).whole ⟨rfl, by intro u hu; simp at hu; rcases hu with rfl | rfl <;> rfl, ?_⟩ hz ?_ ?_ ?_
  · exact ⟨p2, m2, c2, rfl, (o2.b5 (A := A) (fun j hj _ => hA j (Nat.le_trans (Nat.le_trans kW.size (Below.size hs1)) hj))).below (Grows.trans hg3 (Grows.trans (below_alloc _ _) hg4)), hat⟩
  · have := b7.lt
    have := Below.size hs4
    omega
  · exact fun w' x vs hg hx => elC.grown hg ((oW.keep (elC.keep fun j hj _ => Below.block hs4 j hj) (fun j hj => Below.block hs4 j (oW.lt j hj).2)).not5 ne5) x vs hx
  intro v5 u5 o5 g5
  obtain ⟨a5, n5, c5, rfl, hn5⟩ := o5.shape
  simp only [Act.put, List.setIfInBounds_toArray, List.set_cons_zero, List.set_cons_succ]
  have q5 : Below (w.heap.size + 3) u4 u5 := (Below.refl _ _).grown g5 (by have := b7.lt; have := Below.size hs4; omega) (fun k hk => (oW.lt k hk).1)
  refine takeP 8 (some 24) (.pointer (some ⟨w.heap.size + 1 + 1, 5, none⟩)) rfl rfl (by kernel_rfl) (fun _ _ _ h => h) (by rfl) (fun w => by unfold execOp; go_simp) ?_
  simp only [Act.put, List.setIfInBounds_toArray, List.set_cons_zero, List.set_cons_succ]
  refine thenE 9 (by kernel_rfl) (by kernel_rfl) fun u6 hg6 => ?_
  have b7' := ((b7.below hs4 b7.lt).below q5 (by omega)).below hg6 (by have := ((b7.below hs4 b7.lt).below q5 (by omega)).lt; exact this)
  have b6' := ((b6W.below hs4 b6W.lt).below q5 (by omega)).below hg6 (by have := ((b6W.below hs4 b6W.lt).below q5 (by omega)).lt; exact this)
  refine opStC rfl rfl rfl (.tmp 24) (.tmp 23) rfl (w.heap.size + 1 + 1) 5 rfl a5 n5 c5 rfl _ _ b7' (by simp [dc]) (endE (by kernel_rfl) fun u7 hg7 => ?_)
  obtain ⟨D', hD'⟩ : ∃ D' : DskS, D' = ⟨⟨ps, pf, pd, pg⟩, n, safe ++ [(at_, fitB b)], loose, seen, plot, steps⟩ := ⟨_, rfl⟩
  obtain ⟨q', hq'⟩ : ∃ q' : Quad, q' = ⟨a5, n5, c5, la, ln, lc, ta, tn, tc, pa, pn, pq⟩ := ⟨_, rfl⟩
  have oU := OwC.below (OwC.grown (OwC.below o5 hg6) (but_set u6 (w.heap.size + 1 + 1) 5 (.slice a5 n5 c5)) (by omega) (b7'.not5 ne40)) hg7
  have bU : Blk (u6.setCell ⟨w.heap.size + 1 + 1, 5, none⟩ (.slice a5 n5 c5)) (w.heap.size + 1 + 1) (dc D' q') 40 := by rw [hD', hq']; exact b7'.setC 5 _
  have b7U := bU.below hg7 bU.lt
  have b6V : Blk (u6.setCell ⟨w.heap.size + 1 + 1, 5, none⟩ (.slice a5 n5 c5)) (w.heap.size + 1) z40 40 := b6'.setO (by simp) _
  have b6U := b6V.below hg7 b6V.lt
  have k4 := kW.trans (Below.mono hs4 kW.size)
  have k5 := k4.trans (q5.mono (by omega))
  have k6 := k5.trans (Below.mono hg6 k5.size)
  have k6b : Below w.heap.size w (u6.setCell ⟨w.heap.size + 1 + 1, 5, none⟩ (.slice a5 n5 c5)) := k6.setCell (by show w.heap.size ≤ w.heap.size + 1 + 1; omega) _
  have k7 := k6b.trans (Below.mono hg7 k6b.size)
  have HRF : Hid (∀ u, Below w.heap.size w u → OwS (elC A) 2 91 u (w.heap.size + 3) (.slice a5 n5 c5) (safe ++ [(at_, fitB b)]) → RD A u D' q') := fun u hu ho => by
    have hr := HR.out.below hu
    rw [hD', hq']
    exact ⟨ho.sl3 (fun j hj _ => hA j (by omega)), hr.loose, hr.seen, hr.plot⟩
  have HD' : Hid (D' = ⟨⟨ps, pf, pd, pg⟩, n, safe ++ [(at_, fitB b)], loose, seen, plot, steps⟩) := hD'
  clear k4 k5 k6 k6b hg7 bU b6V b7' b6' hg6 q5 g5 o5 hs4 hg4 hs3 hg3 hs2 hb2 o2 hs1 hg1 oW kW b6W b7 F5 hD' hq'
  have HL : Hid ((dc D' q').length = 10) := dc_length _ _
  go_wp2_with (first
    | (with_reducible refine at_ld 40 ?_; refine ld 40 (.tmp 7) 10 size40 _ Try.underlying40 rfl (w.heap.size + 1 + 1) 0 _ HL.out b7U.whole rfl ?_)
    | (with_reducible refine at_st 40 ?_; refine st' 40 (.tmp 6) (.tmp 25) 10 size40 (w.heap.size + 1) 0 (dc D' q') HL.out (dc_one D' q') (b6U.there 0 10 (by simp [z40])) rfl rfl ?_; intro w8 hw8))
  have b8 : Blk w8 (w.heap.size + 1) (dc D' q') 40 := by rw [hw8]; exact b6U.setsW _ rfl
  have k8 : Below w.heap.size w w8 := by rw [hw8]; exact below_sets (by omega) _ k7 0
  have o8 := OwC.grown (w' := w8) oU (by rw [hw8]; exact but_cells _ _ _ _) (show w.heap.size + 1 < w.heap.size + 3 by omega) (b6U.not5 ne40)
  have hrd := HRF.out w8 k8 o8
  rw [HD'.out] at hrd
  exact bodyPost_ret (v := dv D' q') (results_cell_row Try.results53 _ _ (w.heap.size + 1) 40 (dc D' q').toArray (0, 0) _ rfl b8 Try.underlying40 rfl size40) rfl ⟨q', by rw [HD'.out]; rfl, hrd, k8⟩

end Go.Proofs.Ytfdilgnlfademaa

/-
  The contracts of layer 9's reference's New, Plot, see and answer. Conditions: lists of at most a million.
-/
namespace Go.Proofs.Ytfdilgnlfademaa
open Go.RowKit

theorem infoT : (Try.prog.info? 88).map (fun i => (i.zero, i.size, i.bytes)) = some (some (.agg #[.int .i64 0, .int .i64 0, .slice none 0 0]), 3, 40) := by kernel_rfl
theorem ne93 : 88 ≠ 5 := by decide
theorem OwT.grown {A : Nat → Prop} {e : TypeId} {w w' : World} {base r : Nat} {v : Value} {l : List Tch} (h : OwS (elT A) 3 e w base v l) (g : w.grownBy w' (some r)) (hr : r < base) (h5 : ∀ cur f, w.heap[r]? ≠ some (.cells cur 5 f)) : OwS (elT A) 3 e w' base v l :=
  h.keep (elT.grown g (fun j cur f hj => by obtain rfl := Option.some.inj hj; exact h5 cur f)) (fun j hj => g.block j (h.lt j hj).2 (fun e => by have := (h.lt j hj).1; have := Option.some.inj e; omega))
theorem OwT.below {A : Nat → Prop} {e : TypeId} {w w' : World} {base : Nat} {v : Value} {l : List Tch} (h : OwS (elT A) 3 e w base v l) (g : Below w.heap.size w w') : OwS (elT A) 3 e w' base v l :=
  h.keep (elT.keep fun j hj _ => g.block j hj) (fun j hj => g.block j (h.lt j hj).2)
/-- A slice of one struct out of a literal. -/
theorem Sl.one {α : Type} {el : World → α → List Value → Prop} {sz : Nat} {A : Nat → Prop} {w : World} {g : Nat} {vs : List Value} {t : TypeId} {x : α} (hb : Blk w g vs t) (hr : Row el sz w x vs) (hA : A g) : Sl el sz A w (some ⟨g, 0, none⟩) 1 1 [x] :=
  ⟨[vs], ⟨hr, trivial⟩, rfl, Nat.le_refl _, by unfold maxLen; omega, fun e => by simp at e, fun _ => ⟨g, 0, rfl, hb.lt, hA, by simpa using hb.whole⟩⟩

theorem below4 (w : World) (o p q r : Obj) : Below w.heap.size w ((((w.alloc o).alloc p).alloc q).alloc r) := (below3 _ _ _ _).alloc (by simp; omega) _

theorem rAnswer (w : World) (b : Bool) : Calls Try.prog 52 #[.bool b] w fun e w' => e = .returned (.int .i64 (if b then 0 else 5)) ∧ w = w' := by
  cases b with
  | true =>
    go_enter Try.func52, Try.ntmps52
    go_wp2_with fail
    go_ret
    exact ⟨rfl, rfl⟩
  | false =>
    go_enter Try.func52, Try.ntmps52
    go_wp2_with fail
    go_ret
    exact ⟨rfl, rfl⟩

def q0 : Quad := ⟨none, 0, 0, none, 0, 0, none, 0, 0, none, 0, 0⟩
theorem RD.new (A : Nat → Prop) (w : World) (p : PowS) (n : Int) : RD A w (DskS.new p n) q0 := ⟨Sl.nil _ _ _ _, Sl.nil _ _ _ _, Sl.nil _ _ _ _, Sl.nil _ _ _ _⟩
set_option maxRecDepth 100000 in
theorem rDNew (w : World) (p : PowS) (n : Int) (h : 1 ≤ n ∧ n ≤ 4096) : Calls Try.prog 10 #[pv p, .int .i64 n] w fun e w' => e = .returned (.tuple #[dv (DskS.new p n) q0, .int .i64 0]) ∧ Below w.heap.size w w' := by
  obtain ⟨ps, pf, pd, pg⟩ := p
  unfold pv
  dsimp only
  have i1 : ¬ n < 1 := by omega
  have i2 : ¬ (4096 : Int) < n := by omega
  go_enter Try.func10, Try.ntmps10
  go_wp2_with fail
  exact bodyPost_ret (v := .tuple #[dv (DskS.new ⟨ps, pf, pd, pg⟩ n) q0, .int .i64 0]) (by simp [results, Try.results10, go_sem, dv, dc, DskS.new, q0]) rfl ⟨rfl, below2 _ _ _⟩
set_option maxRecDepth 100000 in
theorem rDNewNot (w : World) (p : PowS) (n : Int) (h : ¬ (1 ≤ n ∧ n ≤ 4096)) : Calls Try.prog 10 #[pv p, .int .i64 n] w fun e w' => e = .returned (.tuple #[.agg z40.toArray, .int .i64 2]) ∧ Below w.heap.size w w' := by
  obtain ⟨ps, pf, pd, pg⟩ := p
  unfold pv
  dsimp only
  by_cases i1 : n < 1
  · clear h
    go_enter Try.func10, Try.ntmps10
    go_wp2_with fail
    exact bodyPost_ret (v := .tuple #[.agg z40.toArray, .int .i64 2]) (by simp [results, Try.results10, go_sem, z40]) rfl ⟨rfl, below2 _ _ _⟩
  · have i2 : (4096 : Int) < n := by omega
    clear h
    go_enter Try.func10, Try.ntmps10
    go_wp2_with fail
    exact bodyPost_ret (v := .tuple #[.agg z40.toArray, .int .i64 2]) (by simp [results, Try.results10, go_sem, z40]) rfl ⟨rfl, below2 _ _ _⟩
set_option maxRecDepth 100000 in
theorem rDPlot (w : World) {A : Nat → Prop} {D : DskS} {q : Quad} (h : RD A w D q) {a : Option Addr} {m c : Nat} {l : List Pok} (hl : Sl (elP A) 5 A w a m c l) :
    Calls Try.prog 13 #[dv D q, .slice a m c] w fun e w' => ∃ q', e = .returned (dv { D with plot := l } q') ∧ RD A w' { D with plot := l } q' ∧ Below w.heap.size w w' := by
  obtain ⟨sa, sn, sc, la, ln, lc, ta, tn, tc, pa, pn, pq⟩ := q
  obtain ⟨⟨ps, pf, pd, pg⟩, n, safe, loose, seen, plot, steps⟩ := D
  have HR : Hid (RD A w ⟨⟨ps, pf, pd, pg⟩, n, safe, loose, seen, plot, steps⟩ ⟨sa, sn, sc, la, ln, lc, ta, tn, tc, pa, pn, pq⟩) := h
  have HP : Hid (Sl (elP A) 5 A w a m c l) := hl
  clear h hl
  unfold dv dc
  dsimp only
  go_enter Try.func13, Try.ntmps13
  go_wp2_with fail
  have key : ∀ u, Below w.heap.size w u → RD A u ⟨⟨ps, pf, pd, pg⟩, n, safe, loose, seen, l, steps⟩ ⟨sa, sn, sc, la, ln, lc, ta, tn, tc, a, m, c⟩ := fun u hb => by
    have hr := HR.out.below hb
    exact ⟨hr.safe, hr.loose, hr.seen, HP.out.keep hb.size (elP.keep hb.size fun j hj _ => hb.block j hj) (fun j hj _ => hb.block j hj)⟩
  exact bodyPost_ret (v := dv ⟨⟨ps, pf, pd, pg⟩, n, safe, loose, seen, l, steps⟩ ⟨sa, sn, sc, la, ln, lc, ta, tn, tc, a, m, c⟩) (by simp [results, Try.results13, go_sem, dv, dc]) rfl ⟨⟨sa, sn, sc, la, ln, lc, ta, tn, tc, a, m, c⟩, rfl, key _ (below3 _ _ _ _), below3 _ _ _ _⟩

set_option maxRecDepth 100000 in
set_option maxHeartbeats 4000000 in
theorem rSee (w : World) {A : Nat → Prop} {D : DskS} {q : Quad} (h : RD A w D q) (hA : ∀ j, w.heap.size ≤ j → A j) (k at_ : Int) (hk : i64 k) (hat : i64 at_) {p : Option Addr} {m c : Nat} {b : List UInt8} (hB : B5 A w p m c b) (hz : D.seen.length + 1 ≤ 1000000) :
    Calls Try.prog 51 #[dv D q, .agg #[.int .i64 k, .int .i64 at_, .slice p m c]] w fun e w' => ∃ q', e = .returned (dv (D.see (k, at_, b)) q') ∧ RD A w' (D.see (k, at_, b)) q' ∧ Below w.heap.size w w' := by
  obtain ⟨sa, sn, sc, la, ln, lc, ta, tn, tc, pa, pn, pq⟩ := q
  obtain ⟨⟨ps, pf, pd, pg⟩, n, safe, loose, seen, plot, steps⟩ := D
  have HR : Hid (RD A w ⟨⟨ps, pf, pd, pg⟩, n, safe, loose, seen, plot, steps⟩ ⟨sa, sn, sc, la, ln, lc, ta, tn, tc, pa, pn, pq⟩) := h
  have HB : Hid (B5 A w p m c b) := hB
  clear h hB
  unfold dv dc DskS.see
  dsimp only at hz ⊢
  have hsn : seen.length = tn := HR.out.seen.len
  obtain ⟨D', hD'⟩ : ∃ D' : DskS, D' = ⟨⟨ps, pf, pd, pg⟩, n, safe, loose, seen ++ [(k, at_, b)], plot, steps⟩ := ⟨_, rfl⟩
  have HD : Hid (D' = ⟨⟨ps, pf, pd, pg⟩, n, safe, loose, seen ++ [(k, at_, b)], plot, steps⟩) := hD'
  clear hD'
  go_enter Try.func51, Try.ntmps51
  go_wp2_with (first
    | (at_builtin; refine wpList_slapp (elT A) 3 40 38 88 _ Try.underlying38 infoT rfl (by decide) (by decide) _ rfl (.tmp 9) (.tmp 11) rfl (w.heap.size + 4) (.slice none 0 0) [] rfl (OwS.nil _ _ _ _ _) A ta tn tc seen rfl (HR.out.below (below4 w _ _ _ _)).seen (by simp; omega) (by simp) (fun w' x vs hg hx => elT.grown hg (fun j cur f hj => by simp [Value.ownBlock] at hj) x vs hx) ?_; intro v1 w1 ho1 hg1; obtain ⟨a1, n1, c1, rfl, hn1⟩ := ho1.shape; rw [List.nil_append] at ho1; have hb1 : Below (w.heap.size + 4) _ w1 := (Below.refl _ _).grown hg1 (by simp) (fun k hk => by simp [Value.ownBlock] at hk); have b5 := (Blk.newAt (((w.alloc _).alloc _).alloc _) _ 40 (w.heap.size + 1 + 1 + 1) (by simp) _ rfl).below hb1 (by omega); have b4 := ((Blk.newAt ((w.alloc _).alloc _) _ 40 (w.heap.size + 1 + 1) (by simp) _ rfl).old _).below hb1 (by omega); have b3 := (((Blk.newAt (w.alloc _) _ 88 (w.heap.size + 1) (by simp) _ rfl).old _).old _).below hb1 (by omega); have k1 : Below w.heap.size w w1 := (below4 w _ _ _ _).trans (hb1.mono (by omega)); have c5 : w1.cell? ⟨w.heap.size + 1 + 1 + 1, 7, none⟩ = some (.slice none 0 0) := b5.cell 7; have z5 := b5.free 7; have l5 := b5.lt; have t0 : w1.cell? ⟨w.heap.size + 1, 0, none⟩ = some (.int .i64 k) := b3.cell 0; have t1 : w1.cell? ⟨w.heap.size + 1, 1, none⟩ = some (.int .i64 at_) := b3.cell 1; have t2 : w1.cell? ⟨w.heap.size + 1, 2, none⟩ = some (.slice p m c) := b3.cell 2; have kX : Below w.heap.size w ((w1.setCell ⟨w.heap.size + 1 + 1 + 1, 7, none⟩ (.slice a1 n1 c1)).alloc (.cells #[.int .i64 k, .int .i64 at_, .slice p m c] 88)) := (k1.setCell (by show w.heap.size ≤ w.heap.size + 1 + 1 + 1; omega) _).alloc (by have := k1.size; simp [World.setCell]; omega) _; have oX := OwT.below (OwT.grown ho1 (but_set w1 (w.heap.size + 1 + 1 + 1) 7 (.slice a1 n1 c1)) (by omega) (b5.not5 ne40)) (below_alloc (w1.setCell ⟨w.heap.size + 1 + 1 + 1, 7, none⟩ (.slice a1 n1 c1)) (.cells #[.int .i64 k, .int .i64 at_, .slice p m c] 88)); have b5X : Blk ((w1.setCell ⟨w.heap.size + 1 + 1 + 1, 7, none⟩ (.slice a1 n1 c1)).alloc (.cells #[.int .i64 k, .int .i64 at_, .slice p m c] 88)) (w.heap.size + 1 + 1 + 1) (dc ⟨⟨ps, pf, pd, pg⟩, n, safe, loose, seen, plot, steps⟩ ⟨sa, sn, sc, la, ln, lc, a1, n1, c1, pa, pn, pq⟩) 40 := (b5.setC 7 _).old _; have b4X : Blk ((w1.setCell ⟨w.heap.size + 1 + 1 + 1, 7, none⟩ (.slice a1 n1 c1)).alloc (.cells #[.int .i64 k, .int .i64 at_, .slice p m c] 88)) (w.heap.size + 1 + 1) z40 40 := (b4.setO (by simp) _).old _; have sX : w1.heap.size ≤ ((w1.setCell ⟨w.heap.size + 1 + 1 + 1, 7, none⟩ (.slice a1 n1 c1)).alloc (.cells #[.int .i64 k, .int .i64 at_, .slice p m c] 88)).heap.size := by simp [World.setCell])
    | (at_builtin; go_must (refine wpList_slapp (elT A) 3 40 38 88 _ Try.underlying38 infoT rfl (by decide) (by decide) ((w1.setCell ⟨w.heap.size + 1 + 1 + 1, 7, none⟩ (.slice a1 n1 c1)).alloc (.cells #[.int .i64 k, .int .i64 at_, .slice p m c] 88)) rfl (.tmp 15) (.tmp 17) rfl (w.heap.size + 4) (.slice a1 n1 c1) seen rfl oX A (some ⟨w1.heap.size, 0, none⟩) 1 1 [(k, at_, b)] rfl (Sl.one (Blk.newAt (w1.setCell ⟨w.heap.size + 1 + 1 + 1, 7, none⟩ (.slice a1 n1 c1)) _ 88 w1.heap.size (by simp [World.setCell]) _ rfl) ⟨rfl, by intro u hu; simp at hu; rcases hu with rfl | rfl | rfl <;> rfl, ⟨p, m, c, rfl, HB.out.below kX, hk, hat⟩⟩ (hA _ k1.size)) (by simp; omega) (Nat.le_trans (by omega) sX) (fun w' x vs hg hx => elT.grown hg (oX.not5 ne93) x vs hx) ?_); intro v2 w2 ho2 hg2; obtain ⟨a2, n2, c2, rfl, hn2⟩ := ho2.shape; have hb2 : Below (w.heap.size + 4) ((w1.setCell ⟨w.heap.size + 1 + 1 + 1, 7, none⟩ (.slice a1 n1 c1)).alloc (.cells #[.int .i64 k, .int .i64 at_, .slice p m c] 88)) w2 := (Below.refl _ _).grown hg2 (Nat.le_trans (by omega) sX) (fun k hk => (oX.lt k hk).1); have b5Y := b5X.below hb2 (by omega); have b4Y := b4X.below hb2 (by omega); have k2 : Below w.heap.size w w2 := kX.trans (hb2.mono (by omega)); have c6 : w2.cell? ⟨w.heap.size + 1 + 1 + 1, 7, none⟩ = some (.slice a1 n1 c1) := b5Y.cell 7; have z6 := b5Y.free 7; have l6 := b5Y.lt; obtain ⟨q', hq'⟩ : ∃ q' : Quad, q' = ⟨sa, sn, sc, la, ln, lc, a2, n2, c2, pa, pn, pq⟩ := ⟨_, rfl⟩; have HQ : Hid (q' = ⟨sa, sn, sc, la, ln, lc, a2, n2, c2, pa, pn, pq⟩) := hq'; have bF : Blk (w2.setCell ⟨w.heap.size + 1 + 1 + 1, 7, none⟩ (.slice a2 n2 c2)) (w.heap.size + 1 + 1 + 1) (dc D' q') 40 := (by rw [HD.out, hq']; exact b5Y.setC 7 _); clear hq'; have b4F : Blk (w2.setCell ⟨w.heap.size + 1 + 1 + 1, 7, none⟩ (.slice a2 n2 c2)) (w.heap.size + 1 + 1) z40 40 := b4Y.setO (by simp) _)
    | (with_reducible refine at_ld 40 ?_; (refine ld 40 (.tmp 5) 10 size40 _ Try.underlying40 rfl (w.heap.size + 1 + 1 + 1) 0 (dc D' q') rfl bF.whole rfl ?_))
    | (with_reducible refine at_st 40 ?_; (refine st' 40 (.tmp 4) (.tmp 20) 10 size40 (w.heap.size + 1 + 1) 0 (dc D' q') rfl (dc_one _ _) (b4F.there 0 10 (by simp [z40])) rfl rfl ?_); intro w8 hw8))
  have kF : Below w.heap.size w (w2.setCell ⟨w.heap.size + 1 + 1 + 1, 7, none⟩ (.slice a2 n2 c2)) := k2.setCell (by show w.heap.size ≤ w.heap.size + 1 + 1 + 1; omega) _
  have oF := OwT.grown ho2 (but_set w2 (w.heap.size + 1 + 1 + 1) 7 (.slice a2 n2 c2)) (by omega) (b5Y.not5 ne40)
  have b8 : Blk w8 (w.heap.size + 1 + 1) (dc D' q') 40 := by rw [hw8]; exact b4F.setsW _ rfl
  have k8 : Below w.heap.size w w8 := by rw [hw8]; exact below_sets (by omega) _ kF 0
  have o8 := OwT.grown (w' := w8) oF (by rw [hw8]; exact but_cells _ _ _ _) (show w.heap.size + 1 + 1 < w.heap.size + 4 by omega) (b4F.not5 ne40)
  have hr := HR.out.below k8
  have hrd : RD A w8 D' q' := by rw [HD.out, HQ.out]; exact ⟨hr.safe, hr.loose, o8.sl3 (fun j hj _ => hA j (by omega)), hr.plot⟩
  rw [← hw8]
  exact bodyPost_ret (v := dv D' q') (results_cell_row Try.results51 _ _ (w.heap.size + 1 + 1) 40 (dc D' q').toArray (0, 0) _ rfl b8 Try.underlying40 rfl size40) rfl ⟨q', by rw [HD.out]; rfl, by rw [HD.out] at hrd; exact hrd, k8⟩

end Go.Proofs.Ytfdilgnlfademaa

/-
  The contract of layer 9's reference's Poke, where it does nothing. Conditions: numbers of the language.
-/
namespace Go.Proofs.Ytfdilgnlfademaa
open Go.RowKit

def xv (x : Pok) (p : Option Addr) (m c : Nat) : Value := .agg #[.int .i64 x.on, .int .i64 x.at_, .int .i64 x.kind, .slice p m c, .int .i64 x.num]

set_option maxRecDepth 100000 in
set_option maxHeartbeats 4000000 in
theorem rPokeIdle (w : World) {A : Nat → Prop} {D : DskS} {q : Quad} (h : RD A w D q) (x : Pok) (p : Option Addr) (m c : Nat) (hid : D.idle x) :
    Calls Try.prog 36 #[dv D q, xv x p m c] w fun e w' => ∃ q', e = .returned (dv (D.poke x) q') ∧ RD A w' (D.poke x) q' ∧ Below w.heap.size w w' := by
  have hp : D.poke x = D := by unfold DskS.poke; rw [if_pos hid]
  rw [hp]
  clear hp
  obtain ⟨on, at_, kind, bytes, num⟩ := x
  have HR : Hid (∀ u, Below w.heap.size w u → RD A u D q) := fun u hu => h.below hu
  have HE : Hid (∃ Dd : DskS, Dd = D) := ⟨D, rfl⟩
  unfold DskS.idle at hid
  unfold xv
  dsimp only at hid ⊢
  have hdv : dv D q = .agg #[.int .i64 (D.p.steps : Int), .int .i64 D.p.fuse, .bool D.p.done, .bool D.p.down, .int .i64 D.n, .slice q.sa q.sn q.sc, .slice q.la q.ln q.lc, .slice q.ta q.tn q.tc, .slice q.pa q.pn q.pq, .int .i64 (D.steps : Int)] := rfl
  have HV : Hid (∃ v, v = dv D q) := ⟨_, rfl⟩
  clear h
  have key : ∀ u, Below w.heap.size w u → ∃ q', Ending.returned (dv D q) = .returned (dv D q') ∧ RD A u D q' ∧ Below w.heap.size w u := fun u hu => ⟨q, rfl, HR.out u hu, hu⟩
  have KEY : Hid (∀ u, Below w.heap.size w u → ∃ q', Ending.returned (dv D q) = .returned (dv D q') ∧ RD A u D q' ∧ Below w.heap.size w u) := key
  clear key
  obtain ⟨P, hP⟩ : ∃ P : Ending → World → Prop, P = fun e w' => ∃ q', e = .returned (dv D q') ∧ RD A w' D q' ∧ Below w.heap.size w w' := ⟨_, rfl⟩
  have KEYP : Hid (∀ u, Below w.heap.size w u → P (.returned (dv D q)) u) := by rw [hP]; exact KEY.out
  rw [← hP]
  clear hP KEY HR HE HV
  rw [hdv] at KEYP ⊢
  clear hdv
  generalize D.p.steps = ps at *
  generalize D.p.fuse = pf at *
  generalize D.p.done = pd at *
  generalize D.p.down = pg at *
  generalize D.n = n at *
  generalize D.steps = steps at *
  obtain ⟨sa, sn, sc, la, ln, lc, ta, tn, tc, pa, pn, pq⟩ := q
  dsimp only at KEYP ⊢
  by_cases h1 : at_ < 0
  · clear hid
    go_enter Try.func36, Try.ntmps36
    go_wp2_with fail
    exact bodyPost_ret (by simp [results, Try.results36, go_sem]) rfl (KEYP.out _ (below3 _ _ _ _))
  by_cases h2 : n ≤ at_
  · clear hid
    go_enter Try.func36, Try.ntmps36
    go_wp2_with fail
    exact bodyPost_ret (by simp [results, Try.results36, go_sem]) rfl (KEYP.out _ (below3 _ _ _ _))
  by_cases h3 : kind < 0
  · clear hid
    go_enter Try.func36, Try.ntmps36
    go_wp2_with fail
    exact bodyPost_ret (by simp [results, Try.results36, go_sem]) rfl (KEYP.out _ (below3 _ _ _ _))
  by_cases h4 : 2 < kind
  · clear hid
    go_enter Try.func36, Try.ntmps36
    go_wp2_with fail
    exact bodyPost_ret (by simp [results, Try.results36, go_sem]) rfl (KEYP.out _ (below3 _ _ _ _))
  by_cases h5 : 0 < kind ∧ num < 0
  · clear hid
    obtain ⟨h5a, h5b⟩ := h5
    go_enter Try.func36, Try.ntmps36
    go_wp2_with fail
    exact bodyPost_ret (by simp [results, Try.results36, go_sem]) rfl (KEYP.out _ (below3 _ _ _ _))
  have h6 : kind = 1 ∧ n ≤ num := by
    rcases hid with h | h | h | h | h | h
    · exact absurd h h1
    · exact absurd h h2
    · exact absurd h h3
    · exact absurd h h4
    · exact absurd h h5
    · exact h
  obtain ⟨rfl, h6b⟩ := h6
  have h5b : ¬ num < 0 := fun h => h5 ⟨by omega, h⟩
  clear hid h5
  go_enter Try.func36, Try.ntmps36
  go_wp2_with fail
  exact bodyPost_ret (by simp [results, Try.results36, go_sem]) rfl (KEYP.out _ (below3 _ _ _ _))

end Go.Proofs.Ytfdilgnlfademaa
