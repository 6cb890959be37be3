/-
  1 texts in one. No statement of the seat is proved here.
-/
import Derived.Test.YtnmmopneacdgfaaI13
import Derived.Deep.DeepCutAuto
/-
  The contract of layer 18's program: Split. Condition: a node of at most a hundred thousand things, keys and values of at most a thousand bytes.
-/
namespace Go.Proofs.Ytnmmopneacdgfaa
open Go.RowKit
set_option linter.unusedVariables false
def splitN (n : NodeS) : NodeS × NodeS × Bool :=
  if partI psz n.pairs = 0 ∧ partI ksz n.kids = 0 then (zeroN, zeroN, false)
  else (⟨n.leaf, n.pairs.take (partI psz n.pairs), n.kids.take (partI ksz n.kids)⟩, ⟨n.leaf, n.pairs.drop (partI psz n.pairs), n.kids.drop (partI ksz n.kids)⟩, true)
theorem prtL_le {α : Type} (f : α → Nat) (l : List α) : ∀ k, (prtL f l k).1 ≤ k
  | 0 => Nat.le_refl _
  | k + 1 => by
    unfold prtL
    split
    · exact Nat.le_refl _
    · exact Nat.le_succ_of_le (prtL_le f l k)
theorem partI_le {α : Type} (f : α → Nat) (l : List α) : partI f l ≤ l.length := Nat.le_trans (prtL_le f l _) (Nat.sub_le _ _)
theorem resCCT {fn : Func} {p q t : Tmp} {ty : TypeId} (h : fn.results = #[.cell p ty, .cell q ty, .tmp t]) (tmps : Array Value) (w : World) (g g' : Nat) (cs cs' : Array Value) (hp : tmps.getD p undef = .pointer (some ⟨g, 0, none⟩)) (hq : tmps.getD q undef = .pointer (some ⟨g', 0, none⟩)) (hl : (loadVar ty ⟨g, 0, none⟩).run Try.prog w = .ok (.agg cs) w) (hl' : (loadVar ty ⟨g', 0, none⟩).run Try.prog w = .ok (.agg cs') w) (x : Value) (hx : tmps.getD t undef = x) : (results fn tmps).run Try.prog w = .ok (.tuple #[.agg cs, .agg cs', x]) w := by
  have hp' : tmps[p]?.getD undef = .pointer (some ⟨g, 0, none⟩) := by simpa using hp
  have hq' : tmps[q]?.getD undef = .pointer (some ⟨g', 0, none⟩) := by simpa using hq
  have hx' : tmps[t]?.getD undef = x := by simpa using hx
  simp [results, h, hp', hq', hx', asAddr, hl, hl']
/-- What the answers of a copying region are: pairs, kids, a variable. -/
def CopA (B : Nat) (ps : List PairS) (ks : List KidS) (i : Nat) (v : Value) (w : World) : Prop :=
  if i = 6 then ∃ a m c, v = .slice a m c ∧ OwS (elPr5 fun j => B ≤ j) 2 44 w B (.slice a m c) ps
  else if i = 11 then ∃ a m c, v = .slice a m c ∧ OwS (elKd5 fun j => B ≤ j) 3 46 w B (.slice a m c) ks
  else ∃ g, v = .pointer (some ⟨g, 0, none⟩) ∧ B ≤ g ∧ Blk w g [.bool false, .slice none 0 0, .slice none 0 0] 25
theorem CopA.st (B : Nat) (ps : List PairS) (ks : List KidS) : ∀ i v w w', CopA B ps ks i v w → Grows w w' → CopA B ps ks i v w' := by
  intro i v w w' h hg
  have hb : Below w.heap.size w w' := hg
  unfold CopA at *
  split
  · rename_i e
    rw [if_pos e] at h
    obtain ⟨a, m, c, rfl, ho⟩ := h
    exact ⟨a, m, c, rfl, OwS.keep ho (elPr5.keep fun j cur f _ hh => hb.block j (Array.getElem?_eq_some_iff.1 hh).1) (fun j hj => hb.block j (ho.lt j hj).2)⟩
  · rename_i e
    rw [if_neg e] at h
    split
    · rename_i e2
      rw [if_pos e2] at h
      obtain ⟨a, m, c, rfl, ho⟩ := h
      exact ⟨a, m, c, rfl, OwS.keep ho (elKd5.keep fun j cur f _ hh => hb.block j (Array.getElem?_eq_some_iff.1 hh).1) (fun j hj => hb.block j (ho.lt j hj).2)⟩
    · rename_i e2
      rw [if_neg e2] at h
      obtain ⟨g, rfl, h1, h2⟩ := h
      exact ⟨g, rfl, h1, h2.below hb h2.lt⟩
theorem CopA.pairs {B : Nat} {ps : List PairS} {ks : List KidS} {a : Option Addr} {m c : Nat} {w : World} (h : OwS (elPr5 fun j => B ≤ j) 2 44 w B (.slice a m c) ps) : CopA B ps ks 6 (.slice a m c) w := by
  unfold CopA
  rw [if_pos rfl]
  exact ⟨a, m, c, rfl, h⟩
theorem CopA.kids {B : Nat} {ps : List PairS} {ks : List KidS} {a : Option Addr} {m c : Nat} {w : World} (h : OwS (elKd5 fun j => B ≤ j) 3 46 w B (.slice a m c) ks) : CopA B ps ks 11 (.slice a m c) w := by
  unfold CopA
  rw [if_neg (by decide), if_pos rfl]
  exact ⟨a, m, c, rfl, h⟩
theorem CopA.of6 {B : Nat} {ps : List PairS} {ks : List KidS} {v : Value} {w : World} (h : CopA B ps ks 6 v w) : ∃ a m c, v = .slice a m c ∧ OwS (elPr5 fun j => B ≤ j) 2 44 w B (.slice a m c) ps := by
  unfold CopA at h
  rwa [if_pos rfl] at h
theorem CopA.of11 {B : Nat} {ps : List PairS} {ks : List KidS} {v : Value} {w : World} (h : CopA B ps ks 11 v w) : ∃ a m c, v = .slice a m c ∧ OwS (elKd5 fun j => B ≤ j) 3 46 w B (.slice a m c) ks := by
  unfold CopA at h
  rwa [if_neg (by decide), if_pos rfl] at h
theorem CopA.of13 {B : Nat} {ps : List PairS} {ks : List KidS} {i : Nat} {v : Value} {w : World} (h6 : i ≠ 6) (h11 : i ≠ 11) (h : CopA B ps ks i v w) : ∃ g, v = .pointer (some ⟨g, 0, none⟩) ∧ B ≤ g ∧ Blk w g [.bool false, .slice none 0 0, .slice none 0 0] 25 := by
  unfold CopA at h
  rwa [if_neg h6, if_neg h11] at h
theorem OwP5.grows {A : Nat → Prop} {e : TypeId} {w w' : World} {base : Nat} {v : Value} {l : List PairS} (h : OwS (elPr5 A) 2 e w base v l) (hb : Below w.heap.size w w') : OwS (elPr5 A) 2 e w' base v l :=
  OwS.keep h (elPr5.keep fun j cur f _ hh => hb.block j (Array.getElem?_eq_some_iff.1 hh).1) (fun j hj => hb.block j (h.lt j hj).2)
theorem OwD5.grows {A : Nat → Prop} {e : TypeId} {w w' : World} {base : Nat} {v : Value} {l : List KidS} (h : OwS (elKd5 A) 3 e w base v l) (hb : Below w.heap.size w w') : OwS (elKd5 A) 3 e w' base v l :=
  OwS.keep h (elKd5.keep fun j cur f _ hh => hb.block j (Array.getElem?_eq_some_iff.1 hh).1) (fun j hj => hb.block j (h.lt j hj).2)
theorem OwP5.kpF {B : Nat} {e : TypeId} {F : Nat → Prop} {w w' : World} {v : Value} {l : List PairS} (h : OwS (elPr5 fun j => B ≤ j) 2 e w B v l) (k : Kp F w w') (hF : ∀ j, B ≤ j → ¬ F j) : OwS (elPr5 fun j => B ≤ j) 2 e w' B v l :=
  OwS.keep h (elPr5.keep fun j cur f ha hh => k.block j (Array.getElem?_eq_some_iff.1 hh).1 (hF j ha)) (fun j hj => k.block j (h.lt j hj).2 (hF j (h.lt j hj).1))
theorem OwD5.kpF {B : Nat} {e : TypeId} {F : Nat → Prop} {w w' : World} {v : Value} {l : List KidS} (h : OwS (elKd5 fun j => B ≤ j) 3 e w B v l) (k : Kp F w w') (hF : ∀ j, B ≤ j → ¬ F j) : OwS (elKd5 fun j => B ≤ j) 3 e w' B v l :=
  OwS.keep h (elKd5.keep fun j cur f ha hh => k.block j (Array.getElem?_eq_some_iff.1 hh).1 (hF j ha)) (fun j hj => k.block j (h.lt j hj).2 (hF j (h.lt j hj).1))
/-- A piece of a slice, in a region that draws. -/
theorem ans_hiT {ops : Array Oper} {S : World → Prop} {oi : Oper} {a : Act} (T : TypeId) (x y : Operand) (hT : Try.prog.underlying T = some (.slice (Try.prog.elem T))) (ho : oi.op = .slice T x none (some y) none) (hw : Region.wanted oi (yielded ops a.tmps) = true) (u v r : Value) (hx : a.eval x = u) (hy : a.eval y = v) (hr : ∀ w, Sem.run Try.prog (Instr.slice T u none (some v) none) w = .ok r w) : Ans Try.prog ops S oi r a := by
  refine ans_plain hw fun w _ => ?_
  have h1 := hr w
  simp [execOp, ho, hx, hy, run_sliceAt_slice _ _ _ _ _ _ hT, h1, Result.andThen]
theorem ans_loT {ops : Array Oper} {S : World → Prop} {oi : Oper} {a : Act} (T : TypeId) (x y : Operand) (hT : Try.prog.underlying T = some (.slice (Try.prog.elem T))) (ho : oi.op = .slice T x (some y) none none) (hw : Region.wanted oi (yielded ops a.tmps) = true) (u v r : Value) (hx : a.eval x = u) (hy : a.eval y = v) (hr : ∀ w, Sem.run Try.prog (Instr.slice T u (some v) none none) w = .ok r w) : Ans Try.prog ops S oi r a := by
  refine ans_plain hw fun w _ => ?_
  have h1 := hr w
  simp [execOp, ho, hx, hy, run_sliceAt_slice _ _ _ _ _ _ hT, h1, Result.andThen]
theorem CopA.alloc {ops : Array Oper} {Q : Exit → Act → World → Prop} {W : World} {B : Nat} {ps : List PairS} {ks : List KidS} (i : Nat) (d : Tmp) (h6 : i ≠ 6) (h11 : i ≠ 11) (hB : B ≤ W.heap.size) {oi : Oper} {a : Act} (hi : ops[i]? = some oi) (hd : oi.dst = some d) (hg : oi.guard = none) (ho : oi.op = .alloc 25) : Mk Try.prog ops Q (Grows W) i d (CopA B ps ks i) a := by
  intro K w hs k
  have hm : Makes Try.prog ops i d #[.bool false, .slice none 0 0, .slice none 0 0] 25 := ⟨oi, hi, hd, hg, fun ρ w => by unfold execOp; simp only [ho]; go_simp⟩
  refine hm.op (k _ _ ?_ (Grows.alloc _ _) (Grows.trans hs (Grows.alloc _ _)))
  unfold CopA
  rw [if_neg h6, if_neg h11]
  exact ⟨w.heap.size, rfl, Nat.le_trans hB (Below.size hs), Blk.new w _ _⟩
set_option maxRecDepth 100000 in
set_option maxHeartbeats 4000000 in
theorem oSplitN (w : World) {A : Nat → Prop} {n : NodeS} {p q : Tri} (h : Nd A w n p q) (hl : Lit n) : Calls Try.prog 23 #[ndv n p q] w fun e w' => ∃ p1 q1 p2 q2, e = .returned (.tuple #[ndv (splitN n).1 p1 q1, ndv (splitN n).2.1 p2 q2, .bool (splitN n).2.2]) ∧ Nd (fun j => w.heap.size ≤ j) w' (splitN n).1 p1 q1 ∧ Nd (fun j => w.heap.size ≤ j) w' (splitN n).2.1 p2 q2 ∧ Below w.heap.size w w' := by
  have hps := hl.ps
  have hks := hl.ks
  have hpl := hl.p
  have hkl := hl.k
  have l1 := h.lp
  have l2 := h.lk
  have hcp := Sl.cap h.ps
  have hck := Sl.cap h.ks
  have hpi := partI_le psz n.pairs
  have hki := partI_le ksz n.kids
  unfold splitN
  obtain ⟨lf, ps, ks⟩ := n
  obtain ⟨pa, pn, pc⟩ := p
  obtain ⟨qa, qn, qc⟩ := q
  dsimp only at *
  obtain ⟨V, hV⟩ : ∃ V, V = ((w.alloc (.cells (List.toArray [.bool lf, .slice pa pn pc, .slice qa qn qc]) 25)).alloc (.cells #[.bool false, .slice none 0 0, .slice none 0 0] 25)).alloc (.cells #[.bool false, .slice none 0 0, .slice none 0 0] 25) := ⟨_, rfl⟩
  have t0 : Blk V w.heap.size [.bool lf, .slice pa pn pc, .slice qa qn qc] 25 := by rw [hV]; exact ((Blk.newAt w _ _ w.heap.size rfl _ rfl).old _).old _
  have t1 : Blk V (w.heap.size + 1) [.bool false, .slice none 0 0, .slice none 0 0] 25 := by rw [hV]; exact (Blk.newAt (w.alloc _) _ _ (w.heap.size + 1) (by simp) _ rfl).old _
  have t2 : Blk V (w.heap.size + 2) [.bool false, .slice none 0 0, .slice none 0 0] 25 := by rw [hV]; exact Blk.newAt ((w.alloc _).alloc _) _ _ (w.heap.size + 2) (by simp) _ rfl
  have kV : Below w.heap.size w V := by rw [hV]; exact (below2 _ _ _).alloc (by simp; omega) _
  have sV : V.heap.size = w.heap.size + 3 := by rw [hV]; simp
  have hW : ∀ u, Grows V u → Below w.heap.size w u := fun u hu => kV.trans (Below.mono hu kV.size)
  have HN : Hid (∀ u, Grows V u → Nd A u ⟨lf, ps, ks⟩ ⟨pa, pn, pc⟩ ⟨qa, qn, qc⟩) := fun u hu => h.below (hW u hu)
  have P1 : Hid (∀ u, Grows V u → Calls Try.prog 64 #[.slice pa pn pc, .func (.func 54) #[] #[]] u fun e w' => e = .returned (.int .i64 (partI psz ps : Nat)) ∧ Below u.heap.size u w') := fun u hu => oPrtP u (h.ps.below (hW u hu)) hpl (by omega)
  have P2 : Hid (∀ u, Grows V u → Calls Try.prog 65 #[.slice qa qn qc, .func (.func 56) #[] #[]] u fun e w' => e = .returned (.int .i64 (partI ksz ks : Nat)) ∧ Below u.heap.size u w') := fun u hu => oPrtK u (h.ks.below (hW u hu)) hkl (by omega)
  clear h hl
  generalize partI psz ps = pi at *
  generalize partI ksz ks = ki at *
  unfold ndv ndc
  dsimp only
  have X1 : ∀ u, Grows V u → u.cell? ⟨w.heap.size, 1, none⟩ = some (.slice pa pn pc) := fun u hu => (t0.below hu t0.lt).cell 1
  have X2 : ∀ u, Grows V u → u.cell? ⟨w.heap.size, 2, none⟩ = some (.slice qa qn qc) := fun u hu => (t0.below hu t0.lt).cell 2
  by_cases h0 : pi = 0 ∧ ki = 0
  · obtain ⟨rfl, rfl⟩ := h0
    rw [if_pos ⟨rfl, rfl⟩]
    dsimp only
    go_enter Try.func23, Try.ntmps23
    go_upto_region 1 with fail
    rw [← hV]
    clear hV
    go_wp2_with fail
    refine regionG (S := Grows V) (by kernel_rfl) (Below.refl _ V).drew ?_
    refine takeG 0 (some 9) (.pointer (some ⟨w.heap.size, 1, none⟩)) rfl rfl (by kernel_rfl) (by kernel_rfl) (by kernel_rfl) (fun _ _ _ h => h) (ans_plain (by rfl) (fun w _ => by unfold execOp; go_simp)) ?_
    simp only [Act.put, List.setIfInBounds_toArray, List.set_cons_zero, List.set_cons_succ]
    refine takeG 1 (some 10) (.slice pa pn pc) rfl rfl (by kernel_rfl) (by kernel_rfl) (by kernel_rfl) (fun _ _ _ h => h) (ans_plain (by rfl) (fun w h => by have hc := X1 w h; unfold execOp; go_simp)) ?_
    simp only [Act.put, List.setIfInBounds_toArray, List.set_cons_zero, List.set_cons_succ]
    refine takeG 2 (some 11) (.int .i64 0) rfl rfl (by kernel_rfl) (by kernel_rfl) (by kernel_rfl) (fun _ _ _ h => h) (ans_fn 64 #[.tmp 10, .func 54] #[22, 78] #[.slice pa pn pc, .func (.func 54) #[] #[]] rfl (by rfl) (by rfl) Try.call64 fun u hu => P1.out u hu) ?_
    simp only [Act.put, List.setIfInBounds_toArray, List.set_cons_zero, List.set_cons_succ]
    refine takeG 3 (some 12) (.pointer (some ⟨w.heap.size, 2, none⟩)) rfl rfl (by kernel_rfl) (by kernel_rfl) (by kernel_rfl) (fun _ _ _ h => h) (ans_plain (by rfl) (fun w _ => by unfold execOp; go_simp)) ?_
    simp only [Act.put, List.setIfInBounds_toArray, List.set_cons_zero, List.set_cons_succ]
    refine takeG 4 (some 13) (.slice qa qn qc) rfl rfl (by kernel_rfl) (by kernel_rfl) (by kernel_rfl) (fun _ _ _ h => h) (ans_plain (by rfl) (fun w h => by have hc := X2 w h; unfold execOp; go_simp)) ?_
    simp only [Act.put, List.setIfInBounds_toArray, List.set_cons_zero, List.set_cons_succ]
    refine takeG 5 (some 14) (.int .i64 0) rfl rfl (by kernel_rfl) (by kernel_rfl) (by kernel_rfl) (fun _ _ _ h => h) (ans_fn 65 #[.tmp 13, .func 56] #[23, 80] #[.slice qa qn qc, .func (.func 56) #[] #[]] rfl (by rfl) (by rfl) Try.call65 fun u hu => P2.out u hu) ?_
    simp only [Act.put, List.setIfInBounds_toArray, List.set_cons_zero, List.set_cons_succ]
    refine takeG 6 (some 5) (.int .i64 0) rfl rfl (by kernel_rfl) (by kernel_rfl) (by kernel_rfl) (fun _ _ _ h => h) (ans_plain (by rfl) (fun w _ => rfl)) ?_
    simp only [Act.put, List.setIfInBounds_toArray, List.set_cons_zero, List.set_cons_succ]
    refine takeG 7 (some 6) (.int .i64 0) rfl rfl (by kernel_rfl) (by kernel_rfl) (by kernel_rfl) (fun _ _ _ h => h) (ans_plain (by rfl) (fun w _ => rfl)) ?_
    simp only [Act.put, List.setIfInBounds_toArray, List.set_cons_zero, List.set_cons_succ]
    refine doneG (by kernel_rfl) fun V1 hg_V1 hs_V1 => ?_
    have k1 : Below w.heap.size w V1 := hW V1 hs_V1
    have b1 := t1.below hs_V1 t1.lt
    have b2 := t2.below hs_V1 t2.lt
    clear P1 P2 HN X1 X2 t0 t1 t2
    go_wp2_with ((with_reducible refine at_st 25 ?_); (first | (refine st' 25 (.tmp 2) (.tmp 21) 3 sizeNd (w.heap.size + 1) 0 zNd rfl (by intro u hu; simp only [zNd, List.mem_cons, List.not_mem_nil, or_false] at hu; rcases hu with rfl | rfl | rfl <;> rfl) (b1.there 0 3 (by simp)) rfl rfl ?_; intro v5 hv5; have b5 : Blk v5 (w.heap.size + 1) zNd 25 := (by rw [hv5]; exact b1.setsW _ rfl); have k5 : Below w.heap.size w v5 := (by rw [hv5]; exact below_sets (Nat.le_succ _) _ k1 0); have g5 : V1.grownBy v5 (some (w.heap.size + 1)) := (by rw [hv5]; exact but_cells' _ _ _ _); have b2b : Blk v5 (w.heap.size + 2) [.bool false, .slice none 0 0, .slice none 0 0] 25 := b2.turn g5 (by omega); clear hv5) | (refine st' 25 (.tmp 3) (.tmp 22) 3 sizeNd (w.heap.size + 2) 0 zNd rfl (by intro u hu; simp only [zNd, List.mem_cons, List.not_mem_nil, or_false] at hu; rcases hu with rfl | rfl | rfl <;> rfl) (b2b.there 0 3 (by simp)) rfl rfl ?_; intro v6 hv6; have b6 : Blk v6 (w.heap.size + 2) zNd 25 := (by rw [hv6]; exact b2b.setsW _ rfl); have k6 : Below w.heap.size w v6 := (by rw [hv6]; exact below_sets (by omega) _ k5 0); have g6 : v5.grownBy v6 (some (w.heap.size + 2)) := (by rw [hv6]; exact but_cells' _ _ _ _); have b5b : Blk v6 (w.heap.size + 1) zNd 25 := b5.turn g6 (by omega); clear hv6)))
    refine bodyPost_ret (v := .tuple #[.agg zNd.toArray, .agg zNd.toArray, .bool false]) (resCCT Try.results23 _ _ (w.heap.size + 1) (w.heap.size + 2) _ _ rfl rfl (run_loadVar_row v6 (w.heap.size + 1) 25 25 _ (0, 0) _ b5b Try.underlying25 rfl sizeNd) (run_loadVar_row v6 (w.heap.size + 2) 25 25 _ (0, 0) _ b6 Try.underlying25 rfl sizeNd) _ rfl) rfl ?_
    exact ⟨T0, T0, T0, T0, rfl, Nd.zero _ _, Nd.zero _ _, k6⟩
  · rw [if_neg h0]
    dsimp only
    have X0 : ∀ u, Grows V u → u.cell? ⟨w.heap.size, 0, none⟩ = some (.bool lf) := fun u hu => (t0.below hu t0.lt).cell 0
    by_cases hp0 : pi = 0
    · subst hp0
      have q1 : ((ki : Int) == 0) = false := by simp; omega
      have q2 : ¬ ki = 0 := by omega
      go_enter Try.func23, Try.ntmps23
      go_upto_region 1 with fail
      rw [← hV]
      clear hV
      go_wp2_with fail
      refine regionG (S := Grows V) (by kernel_rfl) (Below.refl _ V).drew ?_
      refine takeG 0 (some 9) (.pointer (some ⟨w.heap.size, 1, none⟩)) rfl rfl (by kernel_rfl) (by kernel_rfl) (by kernel_rfl) (fun _ _ _ h => h) (ans_plain (by rfl) (fun w _ => by unfold execOp; go_simp)) ?_
      simp only [Act.put, List.setIfInBounds_toArray, List.set_cons_zero, List.set_cons_succ]
      refine takeG 1 (some 10) (.slice pa pn pc) rfl rfl (by kernel_rfl) (by kernel_rfl) (by kernel_rfl) (fun _ _ _ h => h) (ans_plain (by rfl) (fun w h => by have hc := X1 w h; unfold execOp; go_simp)) ?_
      simp only [Act.put, List.setIfInBounds_toArray, List.set_cons_zero, List.set_cons_succ]
      refine takeG 2 (some 11) (.int .i64 0) rfl rfl (by kernel_rfl) (by kernel_rfl) (by kernel_rfl) (fun _ _ _ h => h) (ans_fn 64 #[.tmp 10, .func 54] #[22, 78] #[.slice pa pn pc, .func (.func 54) #[] #[]] rfl (by rfl) (by rfl) Try.call64 fun u hu => P1.out u hu) ?_
      simp only [Act.put, List.setIfInBounds_toArray, List.set_cons_zero, List.set_cons_succ]
      refine takeG 3 (some 12) (.pointer (some ⟨w.heap.size, 2, none⟩)) rfl rfl (by kernel_rfl) (by kernel_rfl) (by kernel_rfl) (fun _ _ _ h => h) (ans_plain (by rfl) (fun w _ => by unfold execOp; go_simp)) ?_
      simp only [Act.put, List.setIfInBounds_toArray, List.set_cons_zero, List.set_cons_succ]
      refine takeG 4 (some 13) (.slice qa qn qc) rfl rfl (by kernel_rfl) (by kernel_rfl) (by kernel_rfl) (fun _ _ _ h => h) (ans_plain (by rfl) (fun w h => by have hc := X2 w h; unfold execOp; go_simp)) ?_
      simp only [Act.put, List.setIfInBounds_toArray, List.set_cons_zero, List.set_cons_succ]
      refine takeG 5 (some 14) (.int .i64 (ki : Int)) rfl rfl (by kernel_rfl) (by kernel_rfl) (by kernel_rfl) (fun _ _ _ h => h) (ans_fn 65 #[.tmp 13, .func 56] #[23, 80] #[.slice qa qn qc, .func (.func 56) #[] #[]] rfl (by rfl) (by rfl) Try.call65 fun u hu => P2.out u hu) ?_
      simp only [Act.put, List.setIfInBounds_toArray, List.set_cons_zero, List.set_cons_succ]
      refine takeG 6 (some 5) (.int .i64 0) rfl rfl (by kernel_rfl) (by kernel_rfl) (by kernel_rfl) (fun _ _ _ h => h) (ans_plain (by rfl) (fun w _ => rfl)) ?_
      simp only [Act.put, List.setIfInBounds_toArray, List.set_cons_zero, List.set_cons_succ]
      refine takeG 7 (some 6) (.int .i64 (ki : Int)) rfl rfl (by kernel_rfl) (by kernel_rfl) (by kernel_rfl) (fun _ _ _ h => h) (ans_plain (by rfl) (fun w _ => rfl)) ?_
      simp only [Act.put, List.setIfInBounds_toArray, List.set_cons_zero, List.set_cons_succ]
      refine doneG (by kernel_rfl) fun V1 hg_V1 hs_V1 => ?_
      go_wp2_with fail
      have gV4 : Grows V V1 := hs_V1
      have Y0 : ∀ u, Grows V1 u → u.cell? ⟨w.heap.size, 0, none⟩ = some (.bool lf) := fun u hu => X0 u (Grows.trans gV4 hu)
      have Y1 : ∀ u, Grows V1 u → u.cell? ⟨w.heap.size, 1, none⟩ = some (.slice pa pn pc) := fun u hu => X1 u (Grows.trans gV4 hu)
      have Y2 : ∀ u, Grows V1 u → u.cell? ⟨w.heap.size, 2, none⟩ = some (.slice qa qn qc) := fun u hu => X2 u (Grows.trans gV4 hu)
      have MP : Hid (∀ u, Grows V1 u → Calls Try.prog 66 #[.slice pa 0 pc, .func (.func 67) #[] #[]] u fun e w' => ∃ v, e = .returned v ∧ CopA V1.heap.size (ps.take 0) (ks.take ki) 6 v w' ∧ Below u.heap.size u w') := fun u hu => (oCpdP u (((HN.out u (Grows.trans gV4 hu)).ps).hi (i := 0) (show 0 ≤ pn by omega)) (fun x hx => hpl x (List.mem_of_mem_take hx)) (show 0 ≤ 100000 by omega)).mono (by rintro e w' ⟨a, m, c, rfl, ho, hb⟩; exact ⟨_, rfl, CopA.pairs (OwS.mono5P ho (Below.size hu)), hb⟩)
      have MK : Hid (∀ u, Grows V1 u → Calls Try.prog 68 #[.slice qa ki qc, .func (.func 69) #[] #[]] u fun e w' => ∃ v, e = .returned v ∧ CopA V1.heap.size (ps.take 0) (ks.take ki) 11 v w' ∧ Below u.heap.size u w') := fun u hu => (oCpdK u (((HN.out u (Grows.trans gV4 hu)).ks).hi (i := ki) (show ki ≤ qn by omega)) (fun x hx => hkl x (List.mem_of_mem_take hx)) (show ki ≤ 100000 by omega)).mono (by rintro e w' ⟨a, m, c, rfl, ho, hb⟩; exact ⟨_, rfl, CopA.kids (OwS.mono5K ho (Below.size hu)), hb⟩)
      refine regionG (S := Grows V1) (by kernel_rfl) (Below.refl _ V1).drew ?_
      refine takeG 0 (some 23) (.pointer (some ⟨w.heap.size, 0, none⟩)) rfl rfl (by kernel_rfl) (by kernel_rfl) (by kernel_rfl) (fun _ _ _ h => h) (ans_plain (by rfl) (fun w _ => by unfold execOp; go_simp)) ?_
      simp only [Act.put, List.setIfInBounds_toArray, List.set_cons_zero, List.set_cons_succ]
      refine takeG 1 (some 24) (.bool lf) rfl rfl (by kernel_rfl) (by kernel_rfl) (by kernel_rfl) (fun _ _ _ h => h) (ans_plain (by rfl) (fun w h => by have hc := Y0 w h; unfold execOp; go_simp)) ?_
      simp only [Act.put, List.setIfInBounds_toArray, List.set_cons_zero, List.set_cons_succ]
      refine takeG 2 (some 25) (.pointer (some ⟨w.heap.size, 1, none⟩)) rfl rfl (by kernel_rfl) (by kernel_rfl) (by kernel_rfl) (fun _ _ _ h => h) (ans_plain (by rfl) (fun w _ => by unfold execOp; go_simp)) ?_
      simp only [Act.put, List.setIfInBounds_toArray, List.set_cons_zero, List.set_cons_succ]
      refine takeG 3 (some 26) (.slice pa pn pc) rfl rfl (by kernel_rfl) (by kernel_rfl) (by kernel_rfl) (fun _ _ _ h => h) (ans_plain (by rfl) (fun w h => by have hc := Y1 w h; unfold execOp; go_simp)) ?_
      simp only [Act.put, List.setIfInBounds_toArray, List.set_cons_zero, List.set_cons_succ]
      refine takeG 4 (some 27) (.int .i64 0) rfl rfl (by kernel_rfl) (by kernel_rfl) (by kernel_rfl) (fun _ _ _ h => h) (ans_plain (by rfl) (fun w _ => rfl)) ?_
      simp only [Act.put, List.setIfInBounds_toArray, List.set_cons_zero, List.set_cons_succ]
      refine takeG 5 (some 28) (.slice pa 0 pc) rfl rfl (by kernel_rfl) (by kernel_rfl) (by kernel_rfl) (fun _ _ _ h => h) (ans_hiT 22 (.tmp 26) (.tmp 27) underPr rfl (by rfl) (.slice pa pn pc) (.int .i64 0) _ rfl rfl (by have := @cutHiP pa pn pc 0 (by omega) (by omega); simpa using this)) ?_
      simp only [Act.put, List.setIfInBounds_toArray, List.set_cons_zero, List.set_cons_succ]
      refine takeG 7 (some 30) (.pointer (some ⟨w.heap.size, 2, none⟩)) rfl rfl (by kernel_rfl) (by kernel_rfl) (by kernel_rfl) (fun _ _ _ h => h) (ans_plain (by rfl) (fun w _ => by unfold execOp; go_simp)) ?_
      simp only [Act.put, List.setIfInBounds_toArray, List.set_cons_zero, List.set_cons_succ]
      refine takeG 8 (some 31) (.slice qa qn qc) rfl rfl (by kernel_rfl) (by kernel_rfl) (by kernel_rfl) (fun _ _ _ h => h) (ans_plain (by rfl) (fun w h => by have hc := Y2 w h; unfold execOp; go_simp)) ?_
      simp only [Act.put, List.setIfInBounds_toArray, List.set_cons_zero, List.set_cons_succ]
      refine takeG 9 (some 32) (.int .i64 (ki : Int)) rfl rfl (by kernel_rfl) (by kernel_rfl) (by kernel_rfl) (fun _ _ _ h => h) (ans_plain (by rfl) (fun w _ => rfl)) ?_
      simp only [Act.put, List.setIfInBounds_toArray, List.set_cons_zero, List.set_cons_succ]
      refine takeG 10 (some 33) (.slice qa ki qc) rfl rfl (by kernel_rfl) (by kernel_rfl) (by kernel_rfl) (fun _ _ _ h => h) (ans_hiT 23 (.tmp 31) (.tmp 32) underKd rfl (by rfl) (.slice qa qn qc) (.int .i64 (ki : Int)) _ rfl rfl (fun u => cutHiK (by omega) (by omega) u)) ?_
      simp only [Act.put, List.setIfInBounds_toArray, List.set_cons_zero, List.set_cons_succ]
      refine bothP (S := Grows V1) (fun i => if i = 6 then 29 else if i = 11 then 34 else if i = 12 then 35 else 7) (CopA V1.heap.size (ps.take 0) (ks.take ki)) (fun u => { tmps := #[.agg (List.toArray [.bool lf, .slice pa pn pc, .slice qa qn qc]), .pointer (some ⟨w.heap.size, 0, none⟩), .pointer (some ⟨w.heap.size + 1, 0, none⟩), .pointer (some ⟨w.heap.size + 1 + 1, 0, none⟩), .bool false, .int .i64 0, .int .i64 (ki : Int), u 13, undef, .pointer (some ⟨w.heap.size, 1, none⟩), .slice pa pn pc, .int .i64 0, .pointer (some ⟨w.heap.size, 2, none⟩), .slice qa qn qc, .int .i64 (ki : Int), .int .i64 0, .bool true, .bool true, .int .i64 (ki : Int), .bool false, .bool false, undef, undef, .pointer (some ⟨w.heap.size, 0, none⟩), .bool lf, .pointer (some ⟨w.heap.size, 1, none⟩), .slice pa pn pc, .int .i64 0, .slice pa 0 pc, u 6, .pointer (some ⟨w.heap.size, 2, none⟩), .slice qa qn qc, .int .i64 (ki : Int), .slice qa ki qc, u 11, u 12, undef, undef, undef, undef, undef, undef, undef, undef, undef, undef, undef, undef, undef, undef, undef], defers := [] }) (fun _ => undef) [6, 11, 12, 13] [12] (fun i => if i = 12 then [6, 11] else []) (fun _ u => .agg #[.bool lf, u 6, u 11]) (by decide) 3 rfl (CopA.st _ _ _) ?_ ?_ ?_ ?_ (by decide) (by decide) (by kernel_rfl) (fun z wz hAz hBz hgz hsz => ?_)
      · intro i hi u v; simp only [List.mem_cons, List.not_mem_nil, or_false] at hi; rcases hi with rfl | rfl | rfl | rfl <;> rfl
      · intro i hi hip u; simp only [List.mem_cons, List.not_mem_nil, or_false] at hi hip; rcases hi with rfl | rfl | rfl | rfl
        · exact mkCall (W := V1) 6 29 66 #[.tmp 28, .func 67] #[22, 88] #[.slice pa 0 pc, .func (.func 67) #[] #[]] _ rfl rfl rfl (by rfl) (by rfl) Try.call66 fun u hu => MP.out u hu
        · exact mkCall (W := V1) 11 34 68 #[.tmp 33, .func 69] #[23, 90] #[.slice qa ki qc, .func (.func 69) #[] #[]] _ rfl rfl rfl (by rfl) (by rfl) Try.call68 fun u hu => MK.out u hu
        · exact absurd rfl hip
        · exact CopA.alloc 13 7 (by decide) (by decide) (Nat.le_refl _) rfl rfl rfl rfl
      · intro i hi hip u hj; simp only [List.mem_cons, List.not_mem_nil, or_false] at hip; subst hip
        obtain ⟨_, h6⟩ := hj 6 (by simp); obtain ⟨_, h11⟩ := hj 11 (by simp)
        obtain ⟨_, _, _, e6, _⟩ := CopA.of6 h6; obtain ⟨_, _, _, e11, _⟩ := CopA.of11 h11
        simp only [e6, e11]
        exact mkPlain rfl rfl (by rfl) (fun w _ => by unfold execOp; go_simp)
      · intro i hip u j v hj; simp only [List.mem_cons, List.not_mem_nil, or_false] at hip; subst hip
        have hj6 : ¬ 6 = j := fun e => hj (by subst e; simp)
        have hj11 : ¬ 11 = j := fun e => hj (by subst e; simp)
        simp [updU, hj6, hj11]
      obtain ⟨a46, m46, c46, e6, O6⟩ := CopA.of6 (hAz 6 (by simp) (by simp))
      obtain ⟨a47, m47, c47, e11, O11⟩ := CopA.of11 (hAz 11 (by simp) (by simp))
      obtain ⟨gx4, e13, hgB, b13⟩ := CopA.of13 (i := 13) (by decide) (by decide) (hAz 13 (by simp) (by simp))
      have e12 := hBz 12 (by simp)
      rw [e6, e11] at e12
      simp only [e6, e11, e12, e13]
      refine oneG 14 (by kernel_rfl) fun u8 hg8 hs8 => ?_
      refine opStR 14 25 (.tmp 7) (.tmp 35) 3 rfl rfl rfl rfl gx4 [.bool false, .slice none 0 0, .slice none 0 0] [.bool lf, .slice a46 m46 c46, .slice a47 m47 c47] 25 (b13.below hg8 b13.lt) rfl rfl (by intro u hu; simp only [List.mem_cons, List.not_mem_nil, or_false] at hu; rcases hu with rfl | rfl | rfl <;> rfl) sizeNd rfl rfl ?_
      intro u9 hb9 hk9
      refine ⟨Kp.newBelow hs8 hk9 hgB, ?_⟩
      refine doneG (by kernel_rfl) fun V4 hgD hsD => ?_
      have B4 := hb9.below hgD hb9.lt
      have hwB : w.heap.size + 3 ≤ V1.heap.size := by have := Below.size gV4; omega
      have Q46 : OwS (elPr5 fun j => w.heap.size + 3 ≤ j) 2 44 V4 (w.heap.size + 3) (.slice a46 m46 c46) (ps.take 0) := OwP5.grows (OwP5.past (OwP5.grows (OwS.mono5P O6 hwB) hg8) (b13.below hg8 b13.lt) (Kp.grown hk9) neNd5 neNdPr) hgD
      have Q47 : OwS (elKd5 fun j => w.heap.size + 3 ≤ j) 3 46 V4 (w.heap.size + 3) (.slice a47 m47 c47) (ks.take ki) := OwD5.grows (OwD5.past (OwD5.grows (OwS.mono5K O11 hwB) hg8) (b13.below hg8 b13.lt) (Kp.grown hk9) neNd5 neNdKd) hgD
      have gV5 : Grows V V4 := Grows.trans gV4 hsD
      have hgx4 : w.heap.size + 3 ≤ gx4 := Nat.le_trans hwB hgB
      clear MP MK O6 O11 b13 hb9 hk9 hgD hsD hg8 hs8 hAz hgz hsz e6 e11 e12 e13 hBz Y0 Y1 Y2 hwB hgB
      go_wp2_with fail
      have Y0 : ∀ u, Grows V4 u → u.cell? ⟨w.heap.size, 0, none⟩ = some (.bool lf) := fun u hu => X0 u (Grows.trans gV5 hu)
      have Y1 : ∀ u, Grows V4 u → u.cell? ⟨w.heap.size, 1, none⟩ = some (.slice pa pn pc) := fun u hu => X1 u (Grows.trans gV5 hu)
      have Y2 : ∀ u, Grows V4 u → u.cell? ⟨w.heap.size, 2, none⟩ = some (.slice qa qn qc) := fun u hu => X2 u (Grows.trans gV5 hu)
      have MP : Hid (∀ u, Grows V4 u → Calls Try.prog 66 #[.slice (cutA pa pc 0 2) (pn - 0) (pc - 0), .func (.func 67) #[] #[]] u fun e w' => ∃ v, e = .returned v ∧ CopA V4.heap.size (ps.drop 0) (ks.drop ki) 6 v w' ∧ Below u.heap.size u w') := fun u hu => (oCpdP u (((HN.out u (Grows.trans gV5 hu)).ps).lo (i := 0) (show 0 ≤ pn by omega)) (fun x hx => hpl x (List.mem_of_mem_drop hx)) (show pn - 0 ≤ 100000 by omega)).mono (by rintro e w' ⟨a, m, c, rfl, ho, hb⟩; exact ⟨_, rfl, CopA.pairs (OwS.mono5P ho (Below.size hu)), hb⟩)
      have MK : Hid (∀ u, Grows V4 u → Calls Try.prog 68 #[.slice (cutA qa qc ki 3) (qn - ki) (qc - ki), .func (.func 69) #[] #[]] u fun e w' => ∃ v, e = .returned v ∧ CopA V4.heap.size (ps.drop 0) (ks.drop ki) 11 v w' ∧ Below u.heap.size u w') := fun u hu => (oCpdK u (((HN.out u (Grows.trans gV5 hu)).ks).lo (i := ki) (show ki ≤ qn by omega)) (fun x hx => hkl x (List.mem_of_mem_drop hx)) (show qn - ki ≤ 100000 by omega)).mono (by rintro e w' ⟨a, m, c, rfl, ho, hb⟩; exact ⟨_, rfl, CopA.kids (OwS.mono5K ho (Below.size hu)), hb⟩)
      refine regionG (S := Grows V4) (by kernel_rfl) (Below.refl _ V4).drew ?_
      refine takeG 0 (some 36) (.pointer (some ⟨w.heap.size, 0, none⟩)) rfl rfl (by kernel_rfl) (by kernel_rfl) (by kernel_rfl) (fun _ _ _ h => h) (ans_plain (by rfl) (fun w _ => by unfold execOp; go_simp)) ?_
      simp only [Act.put, List.setIfInBounds_toArray, List.set_cons_zero, List.set_cons_succ]
      refine takeG 1 (some 37) (.bool lf) rfl rfl (by kernel_rfl) (by kernel_rfl) (by kernel_rfl) (fun _ _ _ h => h) (ans_plain (by rfl) (fun w h => by have hc := Y0 w h; unfold execOp; go_simp)) ?_
      simp only [Act.put, List.setIfInBounds_toArray, List.set_cons_zero, List.set_cons_succ]
      refine takeG 2 (some 38) (.pointer (some ⟨w.heap.size, 1, none⟩)) rfl rfl (by kernel_rfl) (by kernel_rfl) (by kernel_rfl) (fun _ _ _ h => h) (ans_plain (by rfl) (fun w _ => by unfold execOp; go_simp)) ?_
      simp only [Act.put, List.setIfInBounds_toArray, List.set_cons_zero, List.set_cons_succ]
      refine takeG 3 (some 39) (.slice pa pn pc) rfl rfl (by kernel_rfl) (by kernel_rfl) (by kernel_rfl) (fun _ _ _ h => h) (ans_plain (by rfl) (fun w h => by have hc := Y1 w h; unfold execOp; go_simp)) ?_
      simp only [Act.put, List.setIfInBounds_toArray, List.set_cons_zero, List.set_cons_succ]
      refine takeG 4 (some 40) (.int .i64 0) rfl rfl (by kernel_rfl) (by kernel_rfl) (by kernel_rfl) (fun _ _ _ h => h) (ans_plain (by rfl) (fun w _ => rfl)) ?_
      simp only [Act.put, List.setIfInBounds_toArray, List.set_cons_zero, List.set_cons_succ]
      refine takeG 5 (some 41) (.slice (cutA pa pc 0 2) (pn - 0) (pc - 0)) rfl rfl (by kernel_rfl) (by kernel_rfl) (by kernel_rfl) (fun _ _ _ h => h) (ans_loT 22 (.tmp 39) (.tmp 40) underPr rfl (by rfl) (.slice pa pn pc) (.int .i64 0) _ rfl rfl (by have := @cutLoP pa pn pc 0 (by omega) (by omega); simpa using this)) ?_
      simp only [Act.put, List.setIfInBounds_toArray, List.set_cons_zero, List.set_cons_succ]
      refine takeG 7 (some 43) (.pointer (some ⟨w.heap.size, 2, none⟩)) rfl rfl (by kernel_rfl) (by kernel_rfl) (by kernel_rfl) (fun _ _ _ h => h) (ans_plain (by rfl) (fun w _ => by unfold execOp; go_simp)) ?_
      simp only [Act.put, List.setIfInBounds_toArray, List.set_cons_zero, List.set_cons_succ]
      refine takeG 8 (some 44) (.slice qa qn qc) rfl rfl (by kernel_rfl) (by kernel_rfl) (by kernel_rfl) (fun _ _ _ h => h) (ans_plain (by rfl) (fun w h => by have hc := Y2 w h; unfold execOp; go_simp)) ?_
      simp only [Act.put, List.setIfInBounds_toArray, List.set_cons_zero, List.set_cons_succ]
      refine takeG 9 (some 45) (.int .i64 (ki : Int)) rfl rfl (by kernel_rfl) (by kernel_rfl) (by kernel_rfl) (fun _ _ _ h => h) (ans_plain (by rfl) (fun w _ => rfl)) ?_
      simp only [Act.put, List.setIfInBounds_toArray, List.set_cons_zero, List.set_cons_succ]
      refine takeG 10 (some 46) (.slice (cutA qa qc ki 3) (qn - ki) (qc - ki)) rfl rfl (by kernel_rfl) (by kernel_rfl) (by kernel_rfl) (fun _ _ _ h => h) (ans_loT 23 (.tmp 44) (.tmp 45) underKd rfl (by rfl) (.slice qa qn qc) (.int .i64 (ki : Int)) _ rfl rfl (fun u => cutLoK (by omega) (by omega) u)) ?_
      simp only [Act.put, List.setIfInBounds_toArray, List.set_cons_zero, List.set_cons_succ]
      refine bothP (S := Grows V4) (fun i => if i = 6 then 42 else if i = 11 then 47 else if i = 12 then 48 else 8) (CopA V4.heap.size (ps.drop 0) (ks.drop ki)) (fun u => { tmps := #[.agg (List.toArray [.bool lf, .slice pa pn pc, .slice qa qn qc]), .pointer (some ⟨w.heap.size, 0, none⟩), .pointer (some ⟨w.heap.size + 1, 0, none⟩), .pointer (some ⟨w.heap.size + 1 + 1, 0, none⟩), .bool false, .int .i64 0, .int .i64 (ki : Int), .pointer (some ⟨gx4, 0, none⟩), u 13, .pointer (some ⟨w.heap.size, 1, none⟩), .slice pa pn pc, .int .i64 0, .pointer (some ⟨w.heap.size, 2, none⟩), .slice qa qn qc, .int .i64 (ki : Int), .int .i64 0, .bool true, .bool true, .int .i64 (ki : Int), .bool false, .bool false, undef, undef, .pointer (some ⟨w.heap.size, 0, none⟩), .bool lf, .pointer (some ⟨w.heap.size, 1, none⟩), .slice pa pn pc, .int .i64 0, .slice pa 0 pc, .slice a46 m46 c46, .pointer (some ⟨w.heap.size, 2, none⟩), .slice qa qn qc, .int .i64 (ki : Int), .slice qa ki qc, .slice a47 m47 c47, .agg (List.toArray [.bool lf, .slice a46 m46 c46, .slice a47 m47 c47]), .pointer (some ⟨w.heap.size, 0, none⟩), .bool lf, .pointer (some ⟨w.heap.size, 1, none⟩), .slice pa pn pc, .int .i64 0, .slice (cutA pa pc 0 2) (pn - 0) (pc - 0), u 6, .pointer (some ⟨w.heap.size, 2, none⟩), .slice qa qn qc, .int .i64 (ki : Int), .slice (cutA qa qc ki 3) (qn - ki) (qc - ki), u 11, u 12, undef, undef], defers := [] }) (fun _ => undef) [6, 11, 12, 13] [12] (fun i => if i = 12 then [6, 11] else []) (fun _ u => .agg #[.bool lf, u 6, u 11]) (by decide) 3 rfl (CopA.st _ _ _) ?_ ?_ ?_ ?_ (by decide) (by decide) (by kernel_rfl) (fun z wz hAz hBz hgz hsz => ?_)
      · intro i hi u v; simp only [List.mem_cons, List.not_mem_nil, or_false] at hi; rcases hi with rfl | rfl | rfl | rfl <;> rfl
      · intro i hi hip u; simp only [List.mem_cons, List.not_mem_nil, or_false] at hi hip; rcases hi with rfl | rfl | rfl | rfl
        · exact mkCall (W := V4) 6 42 66 #[.tmp 41, .func 67] #[22, 88] #[.slice (cutA pa pc 0 2) (pn - 0) (pc - 0), .func (.func 67) #[] #[]] _ rfl rfl rfl (by rfl) (by rfl) Try.call66 fun u hu => MP.out u hu
        · exact mkCall (W := V4) 11 47 68 #[.tmp 46, .func 69] #[23, 90] #[.slice (cutA qa qc ki 3) (qn - ki) (qc - ki), .func (.func 69) #[] #[]] _ rfl rfl rfl (by rfl) (by rfl) Try.call68 fun u hu => MK.out u hu
        · exact absurd rfl hip
        · exact CopA.alloc 13 8 (by decide) (by decide) (Nat.le_refl _) rfl rfl rfl rfl
      · intro i hi hip u hj; simp only [List.mem_cons, List.not_mem_nil, or_false] at hip; subst hip
        obtain ⟨_, h6⟩ := hj 6 (by simp); obtain ⟨_, h11⟩ := hj 11 (by simp)
        obtain ⟨_, _, _, e6, _⟩ := CopA.of6 h6; obtain ⟨_, _, _, e11, _⟩ := CopA.of11 h11
        simp only [e6, e11]
        exact mkPlain rfl rfl (by rfl) (fun w _ => by unfold execOp; go_simp)
      · intro i hip u j v hj; simp only [List.mem_cons, List.not_mem_nil, or_false] at hip; subst hip
        have hj6 : ¬ 6 = j := fun e => hj (by subst e; simp)
        have hj11 : ¬ 11 = j := fun e => hj (by subst e; simp)
        simp [updU, hj6, hj11]
      obtain ⟨a56, m56, c56, e6, O6⟩ := CopA.of6 (hAz 6 (by simp) (by simp))
      obtain ⟨a57, m57, c57, e11, O11⟩ := CopA.of11 (hAz 11 (by simp) (by simp))
      obtain ⟨gx5, e13, hgB, b13⟩ := CopA.of13 (i := 13) (by decide) (by decide) (hAz 13 (by simp) (by simp))
      have e12 := hBz 12 (by simp)
      rw [e6, e11] at e12
      simp only [e6, e11, e12, e13]
      refine oneG 14 (by kernel_rfl) fun u8 hg8 hs8 => ?_
      refine opStR 14 25 (.tmp 8) (.tmp 48) 3 rfl rfl rfl rfl gx5 [.bool false, .slice none 0 0, .slice none 0 0] [.bool lf, .slice a56 m56 c56, .slice a57 m57 c57] 25 (b13.below hg8 b13.lt) rfl rfl (by intro u hu; simp only [List.mem_cons, List.not_mem_nil, or_false] at hu; rcases hu with rfl | rfl | rfl <;> rfl) sizeNd rfl rfl ?_
      intro u9 hb9 hk9
      refine ⟨Kp.newBelow hs8 hk9 hgB, ?_⟩
      refine doneG (by kernel_rfl) fun V5 hgD hsD => ?_
      have B5 := hb9.below hgD hb9.lt
      have hwB : w.heap.size + 3 ≤ V4.heap.size := by have := Below.size gV5; omega
      have Q56 : OwS (elPr5 fun j => w.heap.size + 3 ≤ j) 2 44 V5 (w.heap.size + 3) (.slice a56 m56 c56) (ps.drop 0) := OwP5.grows (OwP5.past (OwP5.grows (OwS.mono5P O6 hwB) hg8) (b13.below hg8 b13.lt) (Kp.grown hk9) neNd5 neNdPr) hgD
      have Q57 : OwS (elKd5 fun j => w.heap.size + 3 ≤ j) 3 46 V5 (w.heap.size + 3) (.slice a57 m57 c57) (ks.drop ki) := OwD5.grows (OwD5.past (OwD5.grows (OwS.mono5K O11 hwB) hg8) (b13.below hg8 b13.lt) (Kp.grown hk9) neNd5 neNdKd) hgD
      have gV6 : Grows V V5 := Grows.trans gV5 hsD
      have hgx5 : w.heap.size + 3 ≤ gx5 := Nat.le_trans hwB hgB
      have B4b := B4.below hsD B4.lt
      have Q46b := OwP5.grows Q46 hsD
      have Q47b := OwD5.grows Q47 hsD
      clear B4 Q46 Q47
      clear MP MK O6 O11 b13 hb9 hk9 hgD hsD hg8 hs8 hAz hgz hsz e6 e11 e12 e13 hBz Y0 Y1 Y2 hwB hgB
      go_wp2_with fail
      have b1 := t1.below gV6 t1.lt
      have b2 := t2.below gV6 t2.lt
      refine regionG (S := Kp (fun j => j = w.heap.size + 1 ∨ j = w.heap.size + 2) V5) (by kernel_rfl) ((Kp.refl _ V5).drew 1) ?_
      refine takeG 0 (some 49) (.agg (List.toArray [.bool lf, .slice a46 m46 c46, .slice a47 m47 c47])) rfl rfl (by kernel_rfl) (by kernel_rfl) (by kernel_rfl) (fun _ _ _ h => h) (ans_row 25 (.tmp 7) _ 3 rfl (by rfl) gx4 0 rfl [.bool lf, .slice a46 m46 c46, .slice a47 m47 c47] (fun u hu => (hu.blk B4b (by omega)).whole) Try.underlying25 rfl rfl sizeNd) ?_
      simp only [Act.put, List.setIfInBounds_toArray, List.set_cons_zero, List.set_cons_succ]
      refine takeG 1 (some 50) (.agg (List.toArray [.bool lf, .slice a56 m56 c56, .slice a57 m57 c57])) rfl rfl (by kernel_rfl) (by kernel_rfl) (by kernel_rfl) (fun _ _ _ h => h) (ans_row 25 (.tmp 8) _ 3 rfl (by rfl) gx5 0 rfl [.bool lf, .slice a56 m56 c56, .slice a57 m57 c57] (fun u hu => (hu.blk B5 (by omega)).whole) Try.underlying25 rfl rfl sizeNd) ?_
      simp only [Act.put, List.setIfInBounds_toArray, List.set_cons_zero, List.set_cons_succ]
      refine oneG 2 (by kernel_rfl) fun u1 hg1 hs1 => ?_
      have d1 := b1.below (Below.trans (below_drewN' V5 1) hg1) b1.lt
      have d2 := b2.below (Below.trans (below_drewN' V5 1) hg1) b2.lt
      refine opStR 2 25 (.tmp 2) (.tmp 49) 3 rfl rfl rfl rfl (w.heap.size + 1) [.bool false, .slice none 0 0, .slice none 0 0] [.bool lf, .slice a46 m46 c46, .slice a47 m47 c47] 25 d1 rfl rfl (by intro u hu; simp only [List.mem_cons, List.not_mem_nil, or_false] at hu; rcases hu with rfl | rfl | rfl <;> rfl) sizeNd rfl rfl ?_
      intro u2 f1 hk2
      have d2b := hk2.blk d2 (by omega)
      have hs2 := hs1.trans (hk2.mono (G := (fun j => j = w.heap.size + 1 ∨ j = w.heap.size + 2)) fun j _ e => Or.inl e)
      refine ⟨hs2, ?_⟩
      refine oneG 3 (by kernel_rfl) fun u3 hg3 hs3 => ?_
      have d2c := d2b.below hg3 d2b.lt
      have f1b := f1.below hg3 f1.lt
      refine opStR 3 25 (.tmp 3) (.tmp 50) 3 rfl rfl rfl rfl (w.heap.size + 2) [.bool false, .slice none 0 0, .slice none 0 0] [.bool lf, .slice a56 m56 c56, .slice a57 m57 c57] 25 d2c rfl rfl (by intro u hu; simp only [List.mem_cons, List.not_mem_nil, or_false] at hu; rcases hu with rfl | rfl | rfl <;> rfl) sizeNd rfl rfl ?_
      intro u4 f2 hk4
      have f1c := hk4.blk f1b (by omega)
      have hs4 := hs3.trans (hk4.mono (G := (fun j => j = w.heap.size + 1 ∨ j = w.heap.size + 2)) fun j _ e => Or.inr e)
      refine ⟨hs4, ?_⟩
      refine takeG 4 (some 4) (.bool true) rfl rfl (by kernel_rfl) (by kernel_rfl) (by kernel_rfl) (fun _ _ _ h => h) (ans_plain (by rfl) (fun w _ => rfl)) ?_
      simp only [Act.put, List.setIfInBounds_toArray, List.set_cons_zero, List.set_cons_succ]
      refine doneG (by kernel_rfl) fun v6 hg6 hs6 => ?_
      have b6 := f2.below hg6 f2.lt
      have b5b := f1c.below hg6 f1c.lt
      have k6 : Below w.heap.size w v6 := below_kp (hW V5 gV6) hs6 (hW V5 gV6).size (fun j hj e => by rcases e with e | e <;> omega)
      have R46 := OwP5.kpF Q46b hs6 (fun j hj e => by rcases e with e | e <;> omega)
      have R47 := OwD5.kpF Q47b hs6 (fun j hj e => by rcases e with e | e <;> omega)
      have R56 := OwP5.kpF Q56 hs6 (fun j hj e => by rcases e with e | e <;> omega)
      have R57 := OwD5.kpF Q57 hs6 (fun j hj e => by rcases e with e | e <;> omega)
      clear hs6 hg6 hs4 hk4 f1c f1b d2c hs3 hg3 hs2 d2b hk2 d1 d2 hs1 hg1 b1 b2 f1 f2 Q46b Q47b Q56 Q57 B4b B5 HN P1 P2 X0 X1 X2 t0 t1 t2
      go_wp2_with fail
      refine bodyPost_ret (v := .tuple #[.agg (List.toArray [.bool lf, .slice a46 m46 c46, .slice a47 m47 c47]), .agg (List.toArray [.bool lf, .slice a56 m56 c56, .slice a57 m57 c57]), .bool true]) (resCCT Try.results23 _ _ (w.heap.size + 1) (w.heap.size + 2) _ _ rfl rfl (run_loadVar_row v6 (w.heap.size + 1) 25 25 _ (0, 0) _ b5b Try.underlying25 rfl sizeNd) (run_loadVar_row v6 (w.heap.size + 2) 25 25 _ (0, 0) _ b6 Try.underlying25 rfl sizeNd) _ rfl) rfl ?_
      exact ⟨⟨a46, m46, c46⟩, ⟨a47, m47, c47⟩, ⟨a56, m56, c56⟩, ⟨a57, m57, c57⟩, rfl, ⟨(OwS.sl3 R46 (A := fun j => w.heap.size ≤ j) (fun j hj _ => by show w.heap.size ≤ j; omega)).mono (fun x vs hx => elPr.mono (A := fun j => w.heap.size + 3 ≤ j) (fun j _ hj => by have hh : w.heap.size + 3 ≤ j := hj; show w.heap.size ≤ j; omega) x vs (elPr5.elPr x vs hx)) (fun _ _ h => h), (OwS.sl3 R47 (A := fun j => w.heap.size ≤ j) (fun j hj _ => by show w.heap.size ≤ j; omega)).mono (fun x vs hx => elKd.mono (A := fun j => w.heap.size + 3 ≤ j) (fun j _ hj => by have hh : w.heap.size + 3 ≤ j := hj; show w.heap.size ≤ j; omega) x vs (elKd5.elKd x vs hx)) (fun _ _ h => h)⟩, ⟨(OwS.sl3 R56 (A := fun j => w.heap.size ≤ j) (fun j hj _ => by show w.heap.size ≤ j; omega)).mono (fun x vs hx => elPr.mono (A := fun j => w.heap.size + 3 ≤ j) (fun j _ hj => by have hh : w.heap.size + 3 ≤ j := hj; show w.heap.size ≤ j; omega) x vs (elPr5.elPr x vs hx)) (fun _ _ h => h), (OwS.sl3 R57 (A := fun j => w.heap.size ≤ j) (fun j hj _ => by show w.heap.size ≤ j; omega)).mono (fun x vs hx => elKd.mono (A := fun j => w.heap.size + 3 ≤ j) (fun j _ hj => by have hh : w.heap.size + 3 ≤ j := hj; show w.heap.size ≤ j; omega) x vs (elKd5.elKd x vs hx)) (fun _ _ h => h)⟩, k6⟩
    · have q1 : ((pi : Int) == 0) = false := by simp; omega
      go_enter Try.func23, Try.ntmps23
      go_upto_region 1 with fail
      rw [← hV]
      clear hV
      go_wp2_with fail
      refine regionG (S := Grows V) (by kernel_rfl) (Below.refl _ V).drew ?_
      refine takeG 0 (some 9) (.pointer (some ⟨w.heap.size, 1, none⟩)) rfl rfl (by kernel_rfl) (by kernel_rfl) (by kernel_rfl) (fun _ _ _ h => h) (ans_plain (by rfl) (fun w _ => by unfold execOp; go_simp)) ?_
      simp only [Act.put, List.setIfInBounds_toArray, List.set_cons_zero, List.set_cons_succ]
      refine takeG 1 (some 10) (.slice pa pn pc) rfl rfl (by kernel_rfl) (by kernel_rfl) (by kernel_rfl) (fun _ _ _ h => h) (ans_plain (by rfl) (fun w h => by have hc := X1 w h; unfold execOp; go_simp)) ?_
      simp only [Act.put, List.setIfInBounds_toArray, List.set_cons_zero, List.set_cons_succ]
      refine takeG 2 (some 11) (.int .i64 (pi : Int)) rfl rfl (by kernel_rfl) (by kernel_rfl) (by kernel_rfl) (fun _ _ _ h => h) (ans_fn 64 #[.tmp 10, .func 54] #[22, 78] #[.slice pa pn pc, .func (.func 54) #[] #[]] rfl (by rfl) (by rfl) Try.call64 fun u hu => P1.out u hu) ?_
      simp only [Act.put, List.setIfInBounds_toArray, List.set_cons_zero, List.set_cons_succ]
      refine takeG 3 (some 12) (.pointer (some ⟨w.heap.size, 2, none⟩)) rfl rfl (by kernel_rfl) (by kernel_rfl) (by kernel_rfl) (fun _ _ _ h => h) (ans_plain (by rfl) (fun w _ => by unfold execOp; go_simp)) ?_
      simp only [Act.put, List.setIfInBounds_toArray, List.set_cons_zero, List.set_cons_succ]
      refine takeG 4 (some 13) (.slice qa qn qc) rfl rfl (by kernel_rfl) (by kernel_rfl) (by kernel_rfl) (fun _ _ _ h => h) (ans_plain (by rfl) (fun w h => by have hc := X2 w h; unfold execOp; go_simp)) ?_
      simp only [Act.put, List.setIfInBounds_toArray, List.set_cons_zero, List.set_cons_succ]
      refine takeG 5 (some 14) (.int .i64 (ki : Int)) rfl rfl (by kernel_rfl) (by kernel_rfl) (by kernel_rfl) (fun _ _ _ h => h) (ans_fn 65 #[.tmp 13, .func 56] #[23, 80] #[.slice qa qn qc, .func (.func 56) #[] #[]] rfl (by rfl) (by rfl) Try.call65 fun u hu => P2.out u hu) ?_
      simp only [Act.put, List.setIfInBounds_toArray, List.set_cons_zero, List.set_cons_succ]
      refine takeG 6 (some 5) (.int .i64 (pi : Int)) rfl rfl (by kernel_rfl) (by kernel_rfl) (by kernel_rfl) (fun _ _ _ h => h) (ans_plain (by rfl) (fun w _ => rfl)) ?_
      simp only [Act.put, List.setIfInBounds_toArray, List.set_cons_zero, List.set_cons_succ]
      refine takeG 7 (some 6) (.int .i64 (ki : Int)) rfl rfl (by kernel_rfl) (by kernel_rfl) (by kernel_rfl) (fun _ _ _ h => h) (ans_plain (by rfl) (fun w _ => rfl)) ?_
      simp only [Act.put, List.setIfInBounds_toArray, List.set_cons_zero, List.set_cons_succ]
      refine doneG (by kernel_rfl) fun V1 hg_V1 hs_V1 => ?_
      go_wp2_with fail
      have gV4 : Grows V V1 := hs_V1
      have Y0 : ∀ u, Grows V1 u → u.cell? ⟨w.heap.size, 0, none⟩ = some (.bool lf) := fun u hu => X0 u (Grows.trans gV4 hu)
      have Y1 : ∀ u, Grows V1 u → u.cell? ⟨w.heap.size, 1, none⟩ = some (.slice pa pn pc) := fun u hu => X1 u (Grows.trans gV4 hu)
      have Y2 : ∀ u, Grows V1 u → u.cell? ⟨w.heap.size, 2, none⟩ = some (.slice qa qn qc) := fun u hu => X2 u (Grows.trans gV4 hu)
      have MP : Hid (∀ u, Grows V1 u → Calls Try.prog 66 #[.slice pa pi pc, .func (.func 67) #[] #[]] u fun e w' => ∃ v, e = .returned v ∧ CopA V1.heap.size (ps.take pi) (ks.take ki) 6 v w' ∧ Below u.heap.size u w') := fun u hu => (oCpdP u (((HN.out u (Grows.trans gV4 hu)).ps).hi (i := pi) (show pi ≤ pn by omega)) (fun x hx => hpl x (List.mem_of_mem_take hx)) (show pi ≤ 100000 by omega)).mono (by rintro e w' ⟨a, m, c, rfl, ho, hb⟩; exact ⟨_, rfl, CopA.pairs (OwS.mono5P ho (Below.size hu)), hb⟩)
      have MK : Hid (∀ u, Grows V1 u → Calls Try.prog 68 #[.slice qa ki qc, .func (.func 69) #[] #[]] u fun e w' => ∃ v, e = .returned v ∧ CopA V1.heap.size (ps.take pi) (ks.take ki) 11 v w' ∧ Below u.heap.size u w') := fun u hu => (oCpdK u (((HN.out u (Grows.trans gV4 hu)).ks).hi (i := ki) (show ki ≤ qn by omega)) (fun x hx => hkl x (List.mem_of_mem_take hx)) (show ki ≤ 100000 by omega)).mono (by rintro e w' ⟨a, m, c, rfl, ho, hb⟩; exact ⟨_, rfl, CopA.kids (OwS.mono5K ho (Below.size hu)), hb⟩)
      refine regionG (S := Grows V1) (by kernel_rfl) (Below.refl _ V1).drew ?_
      refine takeG 0 (some 23) (.pointer (some ⟨w.heap.size, 0, none⟩)) rfl rfl (by kernel_rfl) (by kernel_rfl) (by kernel_rfl) (fun _ _ _ h => h) (ans_plain (by rfl) (fun w _ => by unfold execOp; go_simp)) ?_
      simp only [Act.put, List.setIfInBounds_toArray, List.set_cons_zero, List.set_cons_succ]
      refine takeG 1 (some 24) (.bool lf) rfl rfl (by kernel_rfl) (by kernel_rfl) (by kernel_rfl) (fun _ _ _ h => h) (ans_plain (by rfl) (fun w h => by have hc := Y0 w h; unfold execOp; go_simp)) ?_
      simp only [Act.put, List.setIfInBounds_toArray, List.set_cons_zero, List.set_cons_succ]
      refine takeG 2 (some 25) (.pointer (some ⟨w.heap.size, 1, none⟩)) rfl rfl (by kernel_rfl) (by kernel_rfl) (by kernel_rfl) (fun _ _ _ h => h) (ans_plain (by rfl) (fun w _ => by unfold execOp; go_simp)) ?_
      simp only [Act.put, List.setIfInBounds_toArray, List.set_cons_zero, List.set_cons_succ]
      refine takeG 3 (some 26) (.slice pa pn pc) rfl rfl (by kernel_rfl) (by kernel_rfl) (by kernel_rfl) (fun _ _ _ h => h) (ans_plain (by rfl) (fun w h => by have hc := Y1 w h; unfold execOp; go_simp)) ?_
      simp only [Act.put, List.setIfInBounds_toArray, List.set_cons_zero, List.set_cons_succ]
      refine takeG 4 (some 27) (.int .i64 (pi : Int)) rfl rfl (by kernel_rfl) (by kernel_rfl) (by kernel_rfl) (fun _ _ _ h => h) (ans_plain (by rfl) (fun w _ => rfl)) ?_
      simp only [Act.put, List.setIfInBounds_toArray, List.set_cons_zero, List.set_cons_succ]
      refine takeG 5 (some 28) (.slice pa pi pc) rfl rfl (by kernel_rfl) (by kernel_rfl) (by kernel_rfl) (fun _ _ _ h => h) (ans_hiT 22 (.tmp 26) (.tmp 27) underPr rfl (by rfl) (.slice pa pn pc) (.int .i64 (pi : Int)) _ rfl rfl (fun u => cutHiP (by omega) (by omega) u)) ?_
      simp only [Act.put, List.setIfInBounds_toArray, List.set_cons_zero, List.set_cons_succ]
      refine takeG 7 (some 30) (.pointer (some ⟨w.heap.size, 2, none⟩)) rfl rfl (by kernel_rfl) (by kernel_rfl) (by kernel_rfl) (fun _ _ _ h => h) (ans_plain (by rfl) (fun w _ => by unfold execOp; go_simp)) ?_
      simp only [Act.put, List.setIfInBounds_toArray, List.set_cons_zero, List.set_cons_succ]
      refine takeG 8 (some 31) (.slice qa qn qc) rfl rfl (by kernel_rfl) (by kernel_rfl) (by kernel_rfl) (fun _ _ _ h => h) (ans_plain (by rfl) (fun w h => by have hc := Y2 w h; unfold execOp; go_simp)) ?_
      simp only [Act.put, List.setIfInBounds_toArray, List.set_cons_zero, List.set_cons_succ]
      refine takeG 9 (some 32) (.int .i64 (ki : Int)) rfl rfl (by kernel_rfl) (by kernel_rfl) (by kernel_rfl) (fun _ _ _ h => h) (ans_plain (by rfl) (fun w _ => rfl)) ?_
      simp only [Act.put, List.setIfInBounds_toArray, List.set_cons_zero, List.set_cons_succ]
      refine takeG 10 (some 33) (.slice qa ki qc) rfl rfl (by kernel_rfl) (by kernel_rfl) (by kernel_rfl) (fun _ _ _ h => h) (ans_hiT 23 (.tmp 31) (.tmp 32) underKd rfl (by rfl) (.slice qa qn qc) (.int .i64 (ki : Int)) _ rfl rfl (fun u => cutHiK (by omega) (by omega) u)) ?_
      simp only [Act.put, List.setIfInBounds_toArray, List.set_cons_zero, List.set_cons_succ]
      refine bothP (S := Grows V1) (fun i => if i = 6 then 29 else if i = 11 then 34 else if i = 12 then 35 else 7) (CopA V1.heap.size (ps.take pi) (ks.take ki)) (fun u => { tmps := #[.agg (List.toArray [.bool lf, .slice pa pn pc, .slice qa qn qc]), .pointer (some ⟨w.heap.size, 0, none⟩), .pointer (some ⟨w.heap.size + 1, 0, none⟩), .pointer (some ⟨w.heap.size + 1 + 1, 0, none⟩), .bool false, .int .i64 (pi : Int), .int .i64 (ki : Int), u 13, undef, .pointer (some ⟨w.heap.size, 1, none⟩), .slice pa pn pc, .int .i64 (pi : Int), .pointer (some ⟨w.heap.size, 2, none⟩), .slice qa qn qc, .int .i64 (ki : Int), .int .i64 (pi : Int), .bool false, .bool false, undef, undef, .bool false, undef, undef, .pointer (some ⟨w.heap.size, 0, none⟩), .bool lf, .pointer (some ⟨w.heap.size, 1, none⟩), .slice pa pn pc, .int .i64 (pi : Int), .slice pa pi pc, u 6, .pointer (some ⟨w.heap.size, 2, none⟩), .slice qa qn qc, .int .i64 (ki : Int), .slice qa ki qc, u 11, u 12, undef, undef, undef, undef, undef, undef, undef, undef, undef, undef, undef, undef, undef, undef, undef], defers := [] }) (fun _ => undef) [6, 11, 12, 13] [12] (fun i => if i = 12 then [6, 11] else []) (fun _ u => .agg #[.bool lf, u 6, u 11]) (by decide) 3 rfl (CopA.st _ _ _) ?_ ?_ ?_ ?_ (by decide) (by decide) (by kernel_rfl) (fun z wz hAz hBz hgz hsz => ?_)
      · intro i hi u v; simp only [List.mem_cons, List.not_mem_nil, or_false] at hi; rcases hi with rfl | rfl | rfl | rfl <;> rfl
      · intro i hi hip u; simp only [List.mem_cons, List.not_mem_nil, or_false] at hi hip; rcases hi with rfl | rfl | rfl | rfl
        · exact mkCall (W := V1) 6 29 66 #[.tmp 28, .func 67] #[22, 88] #[.slice pa pi pc, .func (.func 67) #[] #[]] _ rfl rfl rfl (by rfl) (by rfl) Try.call66 fun u hu => MP.out u hu
        · exact mkCall (W := V1) 11 34 68 #[.tmp 33, .func 69] #[23, 90] #[.slice qa ki qc, .func (.func 69) #[] #[]] _ rfl rfl rfl (by rfl) (by rfl) Try.call68 fun u hu => MK.out u hu
        · exact absurd rfl hip
        · exact CopA.alloc 13 7 (by decide) (by decide) (Nat.le_refl _) rfl rfl rfl rfl
      · intro i hi hip u hj; simp only [List.mem_cons, List.not_mem_nil, or_false] at hip; subst hip
        obtain ⟨_, h6⟩ := hj 6 (by simp); obtain ⟨_, h11⟩ := hj 11 (by simp)
        obtain ⟨_, _, _, e6, _⟩ := CopA.of6 h6; obtain ⟨_, _, _, e11, _⟩ := CopA.of11 h11
        simp only [e6, e11]
        exact mkPlain rfl rfl (by rfl) (fun w _ => by unfold execOp; go_simp)
      · intro i hip u j v hj; simp only [List.mem_cons, List.not_mem_nil, or_false] at hip; subst hip
        have hj6 : ¬ 6 = j := fun e => hj (by subst e; simp)
        have hj11 : ¬ 11 = j := fun e => hj (by subst e; simp)
        simp [updU, hj6, hj11]
      obtain ⟨a46, m46, c46, e6, O6⟩ := CopA.of6 (hAz 6 (by simp) (by simp))
      obtain ⟨a47, m47, c47, e11, O11⟩ := CopA.of11 (hAz 11 (by simp) (by simp))
      obtain ⟨gx4, e13, hgB, b13⟩ := CopA.of13 (i := 13) (by decide) (by decide) (hAz 13 (by simp) (by simp))
      have e12 := hBz 12 (by simp)
      rw [e6, e11] at e12
      simp only [e6, e11, e12, e13]
      refine oneG 14 (by kernel_rfl) fun u8 hg8 hs8 => ?_
      refine opStR 14 25 (.tmp 7) (.tmp 35) 3 rfl rfl rfl rfl gx4 [.bool false, .slice none 0 0, .slice none 0 0] [.bool lf, .slice a46 m46 c46, .slice a47 m47 c47] 25 (b13.below hg8 b13.lt) rfl rfl (by intro u hu; simp only [List.mem_cons, List.not_mem_nil, or_false] at hu; rcases hu with rfl | rfl | rfl <;> rfl) sizeNd rfl rfl ?_
      intro u9 hb9 hk9
      refine ⟨Kp.newBelow hs8 hk9 hgB, ?_⟩
      refine doneG (by kernel_rfl) fun V4 hgD hsD => ?_
      have B4 := hb9.below hgD hb9.lt
      have hwB : w.heap.size + 3 ≤ V1.heap.size := by have := Below.size gV4; omega
      have Q46 : OwS (elPr5 fun j => w.heap.size + 3 ≤ j) 2 44 V4 (w.heap.size + 3) (.slice a46 m46 c46) (ps.take pi) := OwP5.grows (OwP5.past (OwP5.grows (OwS.mono5P O6 hwB) hg8) (b13.below hg8 b13.lt) (Kp.grown hk9) neNd5 neNdPr) hgD
      have Q47 : OwS (elKd5 fun j => w.heap.size + 3 ≤ j) 3 46 V4 (w.heap.size + 3) (.slice a47 m47 c47) (ks.take ki) := OwD5.grows (OwD5.past (OwD5.grows (OwS.mono5K O11 hwB) hg8) (b13.below hg8 b13.lt) (Kp.grown hk9) neNd5 neNdKd) hgD
      have gV5 : Grows V V4 := Grows.trans gV4 hsD
      have hgx4 : w.heap.size + 3 ≤ gx4 := Nat.le_trans hwB hgB
      clear MP MK O6 O11 b13 hb9 hk9 hgD hsD hg8 hs8 hAz hgz hsz e6 e11 e12 e13 hBz Y0 Y1 Y2 hwB hgB
      go_wp2_with fail
      have Y0 : ∀ u, Grows V4 u → u.cell? ⟨w.heap.size, 0, none⟩ = some (.bool lf) := fun u hu => X0 u (Grows.trans gV5 hu)
      have Y1 : ∀ u, Grows V4 u → u.cell? ⟨w.heap.size, 1, none⟩ = some (.slice pa pn pc) := fun u hu => X1 u (Grows.trans gV5 hu)
      have Y2 : ∀ u, Grows V4 u → u.cell? ⟨w.heap.size, 2, none⟩ = some (.slice qa qn qc) := fun u hu => X2 u (Grows.trans gV5 hu)
      have MP : Hid (∀ u, Grows V4 u → Calls Try.prog 66 #[.slice (cutA pa pc pi 2) (pn - pi) (pc - pi), .func (.func 67) #[] #[]] u fun e w' => ∃ v, e = .returned v ∧ CopA V4.heap.size (ps.drop pi) (ks.drop ki) 6 v w' ∧ Below u.heap.size u w') := fun u hu => (oCpdP u (((HN.out u (Grows.trans gV5 hu)).ps).lo (i := pi) (show pi ≤ pn by omega)) (fun x hx => hpl x (List.mem_of_mem_drop hx)) (show pn - pi ≤ 100000 by omega)).mono (by rintro e w' ⟨a, m, c, rfl, ho, hb⟩; exact ⟨_, rfl, CopA.pairs (OwS.mono5P ho (Below.size hu)), hb⟩)
      have MK : Hid (∀ u, Grows V4 u → Calls Try.prog 68 #[.slice (cutA qa qc ki 3) (qn - ki) (qc - ki), .func (.func 69) #[] #[]] u fun e w' => ∃ v, e = .returned v ∧ CopA V4.heap.size (ps.drop pi) (ks.drop ki) 11 v w' ∧ Below u.heap.size u w') := fun u hu => (oCpdK u (((HN.out u (Grows.trans gV5 hu)).ks).lo (i := ki) (show ki ≤ qn by omega)) (fun x hx => hkl x (List.mem_of_mem_drop hx)) (show qn - ki ≤ 100000 by omega)).mono (by rintro e w' ⟨a, m, c, rfl, ho, hb⟩; exact ⟨_, rfl, CopA.kids (OwS.mono5K ho (Below.size hu)), hb⟩)
      refine regionG (S := Grows V4) (by kernel_rfl) (Below.refl _ V4).drew ?_
      refine takeG 0 (some 36) (.pointer (some ⟨w.heap.size, 0, none⟩)) rfl rfl (by kernel_rfl) (by kernel_rfl) (by kernel_rfl) (fun _ _ _ h => h) (ans_plain (by rfl) (fun w _ => by unfold execOp; go_simp)) ?_
      simp only [Act.put, List.setIfInBounds_toArray, List.set_cons_zero, List.set_cons_succ]
      refine takeG 1 (some 37) (.bool lf) rfl rfl (by kernel_rfl) (by kernel_rfl) (by kernel_rfl) (fun _ _ _ h => h) (ans_plain (by rfl) (fun w h => by have hc := Y0 w h; unfold execOp; go_simp)) ?_
      simp only [Act.put, List.setIfInBounds_toArray, List.set_cons_zero, List.set_cons_succ]
      refine takeG 2 (some 38) (.pointer (some ⟨w.heap.size, 1, none⟩)) rfl rfl (by kernel_rfl) (by kernel_rfl) (by kernel_rfl) (fun _ _ _ h => h) (ans_plain (by rfl) (fun w _ => by unfold execOp; go_simp)) ?_
      simp only [Act.put, List.setIfInBounds_toArray, List.set_cons_zero, List.set_cons_succ]
      refine takeG 3 (some 39) (.slice pa pn pc) rfl rfl (by kernel_rfl) (by kernel_rfl) (by kernel_rfl) (fun _ _ _ h => h) (ans_plain (by rfl) (fun w h => by have hc := Y1 w h; unfold execOp; go_simp)) ?_
      simp only [Act.put, List.setIfInBounds_toArray, List.set_cons_zero, List.set_cons_succ]
      refine takeG 4 (some 40) (.int .i64 (pi : Int)) rfl rfl (by kernel_rfl) (by kernel_rfl) (by kernel_rfl) (fun _ _ _ h => h) (ans_plain (by rfl) (fun w _ => rfl)) ?_
      simp only [Act.put, List.setIfInBounds_toArray, List.set_cons_zero, List.set_cons_succ]
      refine takeG 5 (some 41) (.slice (cutA pa pc pi 2) (pn - pi) (pc - pi)) rfl rfl (by kernel_rfl) (by kernel_rfl) (by kernel_rfl) (fun _ _ _ h => h) (ans_loT 22 (.tmp 39) (.tmp 40) underPr rfl (by rfl) (.slice pa pn pc) (.int .i64 (pi : Int)) _ rfl rfl (fun u => cutLoP (by omega) (by omega) u)) ?_
      simp only [Act.put, List.setIfInBounds_toArray, List.set_cons_zero, List.set_cons_succ]
      refine takeG 7 (some 43) (.pointer (some ⟨w.heap.size, 2, none⟩)) rfl rfl (by kernel_rfl) (by kernel_rfl) (by kernel_rfl) (fun _ _ _ h => h) (ans_plain (by rfl) (fun w _ => by unfold execOp; go_simp)) ?_
      simp only [Act.put, List.setIfInBounds_toArray, List.set_cons_zero, List.set_cons_succ]
      refine takeG 8 (some 44) (.slice qa qn qc) rfl rfl (by kernel_rfl) (by kernel_rfl) (by kernel_rfl) (fun _ _ _ h => h) (ans_plain (by rfl) (fun w h => by have hc := Y2 w h; unfold execOp; go_simp)) ?_
      simp only [Act.put, List.setIfInBounds_toArray, List.set_cons_zero, List.set_cons_succ]
      refine takeG 9 (some 45) (.int .i64 (ki : Int)) rfl rfl (by kernel_rfl) (by kernel_rfl) (by kernel_rfl) (fun _ _ _ h => h) (ans_plain (by rfl) (fun w _ => rfl)) ?_
      simp only [Act.put, List.setIfInBounds_toArray, List.set_cons_zero, List.set_cons_succ]
      refine takeG 10 (some 46) (.slice (cutA qa qc ki 3) (qn - ki) (qc - ki)) rfl rfl (by kernel_rfl) (by kernel_rfl) (by kernel_rfl) (fun _ _ _ h => h) (ans_loT 23 (.tmp 44) (.tmp 45) underKd rfl (by rfl) (.slice qa qn qc) (.int .i64 (ki : Int)) _ rfl rfl (fun u => cutLoK (by omega) (by omega) u)) ?_
      simp only [Act.put, List.setIfInBounds_toArray, List.set_cons_zero, List.set_cons_succ]
      refine bothP (S := Grows V4) (fun i => if i = 6 then 42 else if i = 11 then 47 else if i = 12 then 48 else 8) (CopA V4.heap.size (ps.drop pi) (ks.drop ki)) (fun u => { tmps := #[.agg (List.toArray [.bool lf, .slice pa pn pc, .slice qa qn qc]), .pointer (some ⟨w.heap.size, 0, none⟩), .pointer (some ⟨w.heap.size + 1, 0, none⟩), .pointer (some ⟨w.heap.size + 1 + 1, 0, none⟩), .bool false, .int .i64 (pi : Int), .int .i64 (ki : Int), .pointer (some ⟨gx4, 0, none⟩), u 13, .pointer (some ⟨w.heap.size, 1, none⟩), .slice pa pn pc, .int .i64 (pi : Int), .pointer (some ⟨w.heap.size, 2, none⟩), .slice qa qn qc, .int .i64 (ki : Int), .int .i64 (pi : Int), .bool false, .bool false, undef, undef, .bool false, undef, undef, .pointer (some ⟨w.heap.size, 0, none⟩), .bool lf, .pointer (some ⟨w.heap.size, 1, none⟩), .slice pa pn pc, .int .i64 (pi : Int), .slice pa pi pc, .slice a46 m46 c46, .pointer (some ⟨w.heap.size, 2, none⟩), .slice qa qn qc, .int .i64 (ki : Int), .slice qa ki qc, .slice a47 m47 c47, .agg (List.toArray [.bool lf, .slice a46 m46 c46, .slice a47 m47 c47]), .pointer (some ⟨w.heap.size, 0, none⟩), .bool lf, .pointer (some ⟨w.heap.size, 1, none⟩), .slice pa pn pc, .int .i64 (pi : Int), .slice (cutA pa pc pi 2) (pn - pi) (pc - pi), u 6, .pointer (some ⟨w.heap.size, 2, none⟩), .slice qa qn qc, .int .i64 (ki : Int), .slice (cutA qa qc ki 3) (qn - ki) (qc - ki), u 11, u 12, undef, undef], defers := [] }) (fun _ => undef) [6, 11, 12, 13] [12] (fun i => if i = 12 then [6, 11] else []) (fun _ u => .agg #[.bool lf, u 6, u 11]) (by decide) 3 rfl (CopA.st _ _ _) ?_ ?_ ?_ ?_ (by decide) (by decide) (by kernel_rfl) (fun z wz hAz hBz hgz hsz => ?_)
      · intro i hi u v; simp only [List.mem_cons, List.not_mem_nil, or_false] at hi; rcases hi with rfl | rfl | rfl | rfl <;> rfl
      · intro i hi hip u; simp only [List.mem_cons, List.not_mem_nil, or_false] at hi hip; rcases hi with rfl | rfl | rfl | rfl
        · exact mkCall (W := V4) 6 42 66 #[.tmp 41, .func 67] #[22, 88] #[.slice (cutA pa pc pi 2) (pn - pi) (pc - pi), .func (.func 67) #[] #[]] _ rfl rfl rfl (by rfl) (by rfl) Try.call66 fun u hu => MP.out u hu
        · exact mkCall (W := V4) 11 47 68 #[.tmp 46, .func 69] #[23, 90] #[.slice (cutA qa qc ki 3) (qn - ki) (qc - ki), .func (.func 69) #[] #[]] _ rfl rfl rfl (by rfl) (by rfl) Try.call68 fun u hu => MK.out u hu
        · exact absurd rfl hip
        · exact CopA.alloc 13 8 (by decide) (by decide) (Nat.le_refl _) rfl rfl rfl rfl
      · intro i hi hip u hj; simp only [List.mem_cons, List.not_mem_nil, or_false] at hip; subst hip
        obtain ⟨_, h6⟩ := hj 6 (by simp); obtain ⟨_, h11⟩ := hj 11 (by simp)
        obtain ⟨_, _, _, e6, _⟩ := CopA.of6 h6; obtain ⟨_, _, _, e11, _⟩ := CopA.of11 h11
        simp only [e6, e11]
        exact mkPlain rfl rfl (by rfl) (fun w _ => by unfold execOp; go_simp)
      · intro i hip u j v hj; simp only [List.mem_cons, List.not_mem_nil, or_false] at hip; subst hip
        have hj6 : ¬ 6 = j := fun e => hj (by subst e; simp)
        have hj11 : ¬ 11 = j := fun e => hj (by subst e; simp)
        simp [updU, hj6, hj11]
      obtain ⟨a56, m56, c56, e6, O6⟩ := CopA.of6 (hAz 6 (by simp) (by simp))
      obtain ⟨a57, m57, c57, e11, O11⟩ := CopA.of11 (hAz 11 (by simp) (by simp))
      obtain ⟨gx5, e13, hgB, b13⟩ := CopA.of13 (i := 13) (by decide) (by decide) (hAz 13 (by simp) (by simp))
      have e12 := hBz 12 (by simp)
      rw [e6, e11] at e12
      simp only [e6, e11, e12, e13]
      refine oneG 14 (by kernel_rfl) fun u8 hg8 hs8 => ?_
      refine opStR 14 25 (.tmp 8) (.tmp 48) 3 rfl rfl rfl rfl gx5 [.bool false, .slice none 0 0, .slice none 0 0] [.bool lf, .slice a56 m56 c56, .slice a57 m57 c57] 25 (b13.below hg8 b13.lt) rfl rfl (by intro u hu; simp only [List.mem_cons, List.not_mem_nil, or_false] at hu; rcases hu with rfl | rfl | rfl <;> rfl) sizeNd rfl rfl ?_
      intro u9 hb9 hk9
      refine ⟨Kp.newBelow hs8 hk9 hgB, ?_⟩
      refine doneG (by kernel_rfl) fun V5 hgD hsD => ?_
      have B5 := hb9.below hgD hb9.lt
      have hwB : w.heap.size + 3 ≤ V4.heap.size := by have := Below.size gV5; omega
      have Q56 : OwS (elPr5 fun j => w.heap.size + 3 ≤ j) 2 44 V5 (w.heap.size + 3) (.slice a56 m56 c56) (ps.drop pi) := OwP5.grows (OwP5.past (OwP5.grows (OwS.mono5P O6 hwB) hg8) (b13.below hg8 b13.lt) (Kp.grown hk9) neNd5 neNdPr) hgD
      have Q57 : OwS (elKd5 fun j => w.heap.size + 3 ≤ j) 3 46 V5 (w.heap.size + 3) (.slice a57 m57 c57) (ks.drop ki) := OwD5.grows (OwD5.past (OwD5.grows (OwS.mono5K O11 hwB) hg8) (b13.below hg8 b13.lt) (Kp.grown hk9) neNd5 neNdKd) hgD
      have gV6 : Grows V V5 := Grows.trans gV5 hsD
      have hgx5 : w.heap.size + 3 ≤ gx5 := Nat.le_trans hwB hgB
      have B4b := B4.below hsD B4.lt
      have Q46b := OwP5.grows Q46 hsD
      have Q47b := OwD5.grows Q47 hsD
      clear B4 Q46 Q47
      clear MP MK O6 O11 b13 hb9 hk9 hgD hsD hg8 hs8 hAz hgz hsz e6 e11 e12 e13 hBz Y0 Y1 Y2 hwB hgB
      go_wp2_with fail
      have b1 := t1.below gV6 t1.lt
      have b2 := t2.below gV6 t2.lt
      refine regionG (S := Kp (fun j => j = w.heap.size + 1 ∨ j = w.heap.size + 2) V5) (by kernel_rfl) ((Kp.refl _ V5).drew 1) ?_
      refine takeG 0 (some 49) (.agg (List.toArray [.bool lf, .slice a46 m46 c46, .slice a47 m47 c47])) rfl rfl (by kernel_rfl) (by kernel_rfl) (by kernel_rfl) (fun _ _ _ h => h) (ans_row 25 (.tmp 7) _ 3 rfl (by rfl) gx4 0 rfl [.bool lf, .slice a46 m46 c46, .slice a47 m47 c47] (fun u hu => (hu.blk B4b (by omega)).whole) Try.underlying25 rfl rfl sizeNd) ?_
      simp only [Act.put, List.setIfInBounds_toArray, List.set_cons_zero, List.set_cons_succ]
      refine takeG 1 (some 50) (.agg (List.toArray [.bool lf, .slice a56 m56 c56, .slice a57 m57 c57])) rfl rfl (by kernel_rfl) (by kernel_rfl) (by kernel_rfl) (fun _ _ _ h => h) (ans_row 25 (.tmp 8) _ 3 rfl (by rfl) gx5 0 rfl [.bool lf, .slice a56 m56 c56, .slice a57 m57 c57] (fun u hu => (hu.blk B5 (by omega)).whole) Try.underlying25 rfl rfl sizeNd) ?_
      simp only [Act.put, List.setIfInBounds_toArray, List.set_cons_zero, List.set_cons_succ]
      refine oneG 2 (by kernel_rfl) fun u1 hg1 hs1 => ?_
      have d1 := b1.below (Below.trans (below_drewN' V5 1) hg1) b1.lt
      have d2 := b2.below (Below.trans (below_drewN' V5 1) hg1) b2.lt
      refine opStR 2 25 (.tmp 2) (.tmp 49) 3 rfl rfl rfl rfl (w.heap.size + 1) [.bool false, .slice none 0 0, .slice none 0 0] [.bool lf, .slice a46 m46 c46, .slice a47 m47 c47] 25 d1 rfl rfl (by intro u hu; simp only [List.mem_cons, List.not_mem_nil, or_false] at hu; rcases hu with rfl | rfl | rfl <;> rfl) sizeNd rfl rfl ?_
      intro u2 f1 hk2
      have d2b := hk2.blk d2 (by omega)
      have hs2 := hs1.trans (hk2.mono (G := (fun j => j = w.heap.size + 1 ∨ j = w.heap.size + 2)) fun j _ e => Or.inl e)
      refine ⟨hs2, ?_⟩
      refine oneG 3 (by kernel_rfl) fun u3 hg3 hs3 => ?_
      have d2c := d2b.below hg3 d2b.lt
      have f1b := f1.below hg3 f1.lt
      refine opStR 3 25 (.tmp 3) (.tmp 50) 3 rfl rfl rfl rfl (w.heap.size + 2) [.bool false, .slice none 0 0, .slice none 0 0] [.bool lf, .slice a56 m56 c56, .slice a57 m57 c57] 25 d2c rfl rfl (by intro u hu; simp only [List.mem_cons, List.not_mem_nil, or_false] at hu; rcases hu with rfl | rfl | rfl <;> rfl) sizeNd rfl rfl ?_
      intro u4 f2 hk4
      have f1c := hk4.blk f1b (by omega)
      have hs4 := hs3.trans (hk4.mono (G := (fun j => j = w.heap.size + 1 ∨ j = w.heap.size + 2)) fun j _ e => Or.inr e)
      refine ⟨hs4, ?_⟩
      refine takeG 4 (some 4) (.bool true) rfl rfl (by kernel_rfl) (by kernel_rfl) (by kernel_rfl) (fun _ _ _ h => h) (ans_plain (by rfl) (fun w _ => rfl)) ?_
      simp only [Act.put, List.setIfInBounds_toArray, List.set_cons_zero, List.set_cons_succ]
      refine doneG (by kernel_rfl) fun v6 hg6 hs6 => ?_
      have b6 := f2.below hg6 f2.lt
      have b5b := f1c.below hg6 f1c.lt
      have k6 : Below w.heap.size w v6 := below_kp (hW V5 gV6) hs6 (hW V5 gV6).size (fun j hj e => by rcases e with e | e <;> omega)
      have R46 := OwP5.kpF Q46b hs6 (fun j hj e => by rcases e with e | e <;> omega)
      have R47 := OwD5.kpF Q47b hs6 (fun j hj e => by rcases e with e | e <;> omega)
      have R56 := OwP5.kpF Q56 hs6 (fun j hj e => by rcases e with e | e <;> omega)
      have R57 := OwD5.kpF Q57 hs6 (fun j hj e => by rcases e with e | e <;> omega)
      clear hs6 hg6 hs4 hk4 f1c f1b d2c hs3 hg3 hs2 d2b hk2 d1 d2 hs1 hg1 b1 b2 f1 f2 Q46b Q47b Q56 Q57 B4b B5 HN P1 P2 X0 X1 X2 t0 t1 t2
      go_wp2_with fail
      refine bodyPost_ret (v := .tuple #[.agg (List.toArray [.bool lf, .slice a46 m46 c46, .slice a47 m47 c47]), .agg (List.toArray [.bool lf, .slice a56 m56 c56, .slice a57 m57 c57]), .bool true]) (resCCT Try.results23 _ _ (w.heap.size + 1) (w.heap.size + 2) _ _ rfl rfl (run_loadVar_row v6 (w.heap.size + 1) 25 25 _ (0, 0) _ b5b Try.underlying25 rfl sizeNd) (run_loadVar_row v6 (w.heap.size + 2) 25 25 _ (0, 0) _ b6 Try.underlying25 rfl sizeNd) _ rfl) rfl ?_
      exact ⟨⟨a46, m46, c46⟩, ⟨a47, m47, c47⟩, ⟨a56, m56, c56⟩, ⟨a57, m57, c57⟩, rfl, ⟨(OwS.sl3 R46 (A := fun j => w.heap.size ≤ j) (fun j hj _ => by show w.heap.size ≤ j; omega)).mono (fun x vs hx => elPr.mono (A := fun j => w.heap.size + 3 ≤ j) (fun j _ hj => by have hh : w.heap.size + 3 ≤ j := hj; show w.heap.size ≤ j; omega) x vs (elPr5.elPr x vs hx)) (fun _ _ h => h), (OwS.sl3 R47 (A := fun j => w.heap.size ≤ j) (fun j hj _ => by show w.heap.size ≤ j; omega)).mono (fun x vs hx => elKd.mono (A := fun j => w.heap.size + 3 ≤ j) (fun j _ hj => by have hh : w.heap.size + 3 ≤ j := hj; show w.heap.size ≤ j; omega) x vs (elKd5.elKd x vs hx)) (fun _ _ h => h)⟩, ⟨(OwS.sl3 R56 (A := fun j => w.heap.size ≤ j) (fun j hj _ => by show w.heap.size ≤ j; omega)).mono (fun x vs hx => elPr.mono (A := fun j => w.heap.size + 3 ≤ j) (fun j _ hj => by have hh : w.heap.size + 3 ≤ j := hj; show w.heap.size ≤ j; omega) x vs (elPr5.elPr x vs hx)) (fun _ _ h => h), (OwS.sl3 R57 (A := fun j => w.heap.size ≤ j) (fun j hj _ => by show w.heap.size ≤ j; omega)).mono (fun x vs hx => elKd.mono (A := fun j => w.heap.size + 3 ≤ j) (fun j _ hj => by have hh : w.heap.size + 3 ≤ j := hj; show w.heap.size ≤ j; omega) x vs (elKd5.elKd x vs hx)) (fun _ _ h => h)⟩, k6⟩

end Go.Proofs.Ytnmmopneacdgfaa
