/-
  2 texts in one. No statement of the seat is proved here.
-/
import Derived.Test.YtlenmkhmkommcaaGreatJ5

/-
  The contract of layer 9's reference's step. Conditions: lists of at most a million, fewer than 2^40 steps.
-/
namespace Go.Proofs.YtlenmkhmkommcaaGreat
open Go.RowKit
set_option linter.unusedVariables false

theorem poke_len (D : DskS) (x : Pok) : (D.poke x).safe.length ≤ D.safe.length + 1 ∧ (D.poke x).loose.length ≤ D.loose.length ∧ (D.poke x).p = D.p ∧ (D.poke x).steps = D.steps ∧ (D.poke x).n = D.n ∧ (D.poke x).seen = D.seen ∧ (D.poke x).plot = D.plot := by
  unfold DskS.poke
  split
  · exact ⟨by omega, Nat.le_refl _, rfl, rfl, rfl, rfl, rfl⟩
  · refine ⟨?_, List.length_filter_le _ _, rfl, rfl, rfl, rfl, rfl⟩
    show (D.safe ++ [_]).length ≤ _
    simp
theorem pokes_snoc (D : DskS) (s : Nat) (l : List Pok) (x : Pok) : D.pokes s (l ++ [x]) = if x.on = (s : Int) then (D.pokes s l).poke x else D.pokes s l := by
  unfold DskS.pokes
  rw [List.foldl_append]
  rfl
theorem pokes_len (s : Nat) : ∀ (l : List Pok) (D : DskS), (D.pokes s l).safe.length ≤ D.safe.length + l.length ∧ (D.pokes s l).loose.length ≤ D.loose.length ∧ (D.pokes s l).p = D.p ∧ (D.pokes s l).steps = D.steps ∧ (D.pokes s l).n = D.n ∧ (D.pokes s l).seen = D.seen ∧ (D.pokes s l).plot = D.plot
  | [], D => ⟨by simp [DskS.pokes], Nat.le_refl _, rfl, rfl, rfl, rfl, rfl⟩
  | x :: l, D => by
    have e : D.pokes s (x :: l) = (if x.on = (s : Int) then D.poke x else D).pokes s l := rfl
    rw [e]
    obtain ⟨a1, a2, a3, a4, a5, a6, a7⟩ := pokes_len s l (if x.on = (s : Int) then D.poke x else D)
    rw [List.length_cons]
    by_cases hx : x.on = (s : Int)
    · rw [if_pos hx] at a1 a2 a3 a4 a5 a6 a7 ⊢
      obtain ⟨b1, b2, b3, b4, b5, b6, b7⟩ := poke_len D x
      exact ⟨by omega, by omega, a3.trans b3, a4.trans b4, a5.trans b5, a6.trans b6, a7.trans b7⟩
    · rw [if_neg hx] at a1 a2 a3 a4 a5 a6 a7 ⊢
      exact ⟨by omega, a2, a3, a4, a5, a6, a7⟩
theorem Sl.poke {A : Nat → Prop} {w : World} {a : Option Addr} {n c : Nat} {l : List Pok} (h : Sl (elP A) 5 A w a n c l) {s : Nat} {x : Pok} (hx : l[s]? = some x) : ∃ b o p m q, a = some ⟨b, o, none⟩ ∧ b < w.heap.size ∧ w.rangeAt b (o + s * 5) [.int .i64 x.on, .int .i64 x.at_, .int .i64 x.kind, .slice p m q, .int .i64 x.num] ∧ Bs w p m q x.bytes ∧ i64 x.on ∧ i64 x.at_ ∧ i64 x.num := by
  obtain ⟨b, o, vs, ha, hlt, hrg, hl, p, m, q, rfl, hb, h1, h2, h3, h4⟩ := h.at hx
  exact ⟨b, o, p, m, q, ha, hlt, hrg, hb.1, h1, h2, h4⟩
/-- A struct and two values handed back. -/
theorem res3 {fn : Func} {p t u : Tmp} {ty : TypeId} (h : fn.results = #[.cell p ty, .tmp t, .tmp u]) (tmps : Array Value) (w : World) (g : Nat) (cs : Array Value) (hp : tmps.getD p undef = .pointer (some ⟨g, 0, none⟩)) (hl : (loadVar ty ⟨g, 0, none⟩).run Tryz.prog w = .ok (.agg cs) w) (x y : Value) (hx : tmps.getD t undef = x) (hy : tmps.getD u undef = y) : (results fn tmps).run Tryz.prog w = .ok (.tuple #[.agg cs, x, y]) w := by
  have hp' : tmps[p]?.getD undef = .pointer (some ⟨g, 0, none⟩) := by simpa using hp
  have hx' : tmps[t]?.getD undef = x := by simpa using hx
  have hy' : tmps[u]?.getD undef = y := by simpa using hy
  simp [results, h, hp', hx', hy', asAddr, hl]

set_option maxRecDepth 100000 in
set_option maxHeartbeats 8000000 in
theorem rTick (w : World) {A : Nat → Prop} {D : DskS} {q : Quad} (h : RD A w D q) (hA : ∀ j, w.heap.size ≤ j → A j) {mm : Nat} (hf : D.fit mm) (hmm : mm ≤ 5000) :
    Calls Tryz.prog 78 #[dv D q] w fun e w' => ∃ q', e = .returned (.tuple #[dv D.tick q', .bool D.p.ok, .bool D.p.does]) ∧ RD A w' D.tick q' ∧ Below w.heap.size w w' := by
  obtain ⟨B, hB'⟩ : ∃ B : Nat → Prop, B = fun j => A j ∧ ¬ (w.heap.size ≤ j ∧ j ≤ w.heap.size + 1 + 1) := ⟨_, rfl⟩
  have hm : Hid (∀ j, B j → A j) := fun j hj => by rw [hB'] at hj; exact hj.1
  have hn : Hid (∀ j, B j → ¬ (w.heap.size ≤ j ∧ j ≤ w.heap.size + 1 + 1)) := fun j hj => by rw [hB'] at hj; exact hj.2
  have hnew : Hid (∀ j, w.heap.size + 1 + 1 < j → B j) := fun j hj => by rw [hB']; exact ⟨hA j (by omega), by omega⟩
  have hrB : RD B w D q := h.mono fun j hj ha => by rw [hB']; exact ⟨ha, by omega⟩
  clear hB'
  have HPN : Hid (D.plot.length = q.pn) := h.plot.len
  have HSP : Hid (∀ u, Below w.heap.size w u → Sl (elP B) 5 B u q.pa q.pn q.pq D.plot) := fun u hu => (hrB.below hu).plot
  have hpn : q.pn ≤ 20 := by rw [← HPN.out]; exact hf.plot
  obtain ⟨pk, hpk⟩ : ∃ pk : Nat → DskS, pk = fun k => D.pokes D.steps (D.plot.take k) := ⟨_, rfl⟩
  have HP0 : Hid (pk 0 = D) := by rw [hpk]; rfl
  have HPS : Hid (∀ k x, D.plot[k]? = some x → pk (k + 1) = if x.on = (D.steps : Int) then (pk k).poke x else pk k) := fun k x hx => by rw [hpk]; dsimp only; rw [List.take_add_one, hx]; exact pokes_snoc D D.steps _ x
  have HPL : Hid (∀ k, k ≤ 20 → (pk k).safe.length + 1 ≤ 1000000 ∧ (pk k).loose.length ≤ 1000000 ∧ (pk k).p = D.p ∧ (pk k).steps = D.steps) := fun k hk => by
    have := pokes_len D.steps (D.plot.take k) D
    have h1 := List.length_take_le k D.plot
    have h2 := hf.safe
    have h3 := hf.loose
    rw [hpk]
    dsimp only
    exact ⟨by omega, by omega, this.2.2.1, this.2.2.2.1⟩
  have HPE : Hid (pk q.pn = D.pokes D.steps D.plot) := by show _ = _; rw [hpk]; dsimp only; rw [List.take_of_length_le (by rw [HPN.out]; exact Nat.le_refl _)]
  have CP : Hid (∀ u k qk x p m c, k ≤ 20 → w.heap.size + 1 + 1 < u.heap.size → RD B u (pk k) qk → Bs u p m c x.bytes → i64 x.at_ → i64 x.num → Calls Tryz.prog 23 #[dv (pk k) qk, xv x p m c] u fun e w' => ∃ q', e = .returned (dv ((pk k).poke x) q') ∧ RD B w' ((pk k).poke x) q' ∧ Below u.heap.size u w') := fun u k qk x p m c hk hu hr hb h1 h2 => rPoke u hr (fun j hj => hnew.out j (by omega)) x hb h1 h2 (HPL.out k hk).1 (HPL.out k hk).2.1
  have hfp := hf.p
  have hst : D.steps ≤ mm := hf.steps
  have HT : Hid (D.tick = { pk q.pn with p := D.p.next, steps := if D.p.down then D.steps else D.steps + 1 }) := by show _ = _; rw [HPE.out]; rfl
  generalize D.tick = DT at *
  clear hpk HPE hf h
  have b1 : Blk (((w.alloc (.cells #[.int .i64 (D.p.steps : Int), .int .i64 D.p.fuse, .bool D.p.done, .bool D.p.down, .int .i64 D.n, .slice q.sa q.sn q.sc, .slice q.la q.ln q.lc, .slice q.ta q.tn q.tc, .slice q.pa q.pn q.pq, .int .i64 (D.steps : Int)] 42)).alloc (.cells #[.int .i64 0, .int .i64 0, .bool false, .bool false, .int .i64 0, .slice none 0 0, .slice none 0 0, .slice none 0 0, .slice none 0 0, .int .i64 0] 42)).alloc (.cells #[.int .i64 (D.p.steps : Int), .int .i64 D.p.fuse, .bool D.p.done, .bool D.p.down, .int .i64 D.n, .slice q.sa q.sn q.sc, .slice q.la q.ln q.lc, .slice q.ta q.tn q.tc, .slice q.pa q.pn q.pq, .int .i64 (D.steps : Int)] 42)) w.heap.size (dc D q) 42 := ((Blk.newAt w _ _ w.heap.size rfl _ rfl).old _).old _
  have b2 : Blk (((w.alloc (.cells #[.int .i64 (D.p.steps : Int), .int .i64 D.p.fuse, .bool D.p.done, .bool D.p.down, .int .i64 D.n, .slice q.sa q.sn q.sc, .slice q.la q.ln q.lc, .slice q.ta q.tn q.tc, .slice q.pa q.pn q.pq, .int .i64 (D.steps : Int)] 42)).alloc (.cells #[.int .i64 0, .int .i64 0, .bool false, .bool false, .int .i64 0, .slice none 0 0, .slice none 0 0, .slice none 0 0, .slice none 0 0, .int .i64 0] 42)).alloc (.cells #[.int .i64 (D.p.steps : Int), .int .i64 D.p.fuse, .bool D.p.done, .bool D.p.down, .int .i64 D.n, .slice q.sa q.sn q.sc, .slice q.la q.ln q.lc, .slice q.ta q.tn q.tc, .slice q.pa q.pn q.pq, .int .i64 (D.steps : Int)] 42)) (w.heap.size + 1) z40 42 := (Blk.newAt (w.alloc _) _ _ (w.heap.size + 1) (by simp) _ rfl).old _
  have b5 : Blk (((w.alloc (.cells #[.int .i64 (D.p.steps : Int), .int .i64 D.p.fuse, .bool D.p.done, .bool D.p.down, .int .i64 D.n, .slice q.sa q.sn q.sc, .slice q.la q.ln q.lc, .slice q.ta q.tn q.tc, .slice q.pa q.pn q.pq, .int .i64 (D.steps : Int)] 42)).alloc (.cells #[.int .i64 0, .int .i64 0, .bool false, .bool false, .int .i64 0, .slice none 0 0, .slice none 0 0, .slice none 0 0, .slice none 0 0, .int .i64 0] 42)).alloc (.cells #[.int .i64 (D.p.steps : Int), .int .i64 D.p.fuse, .bool D.p.done, .bool D.p.down, .int .i64 D.n, .slice q.sa q.sn q.sc, .slice q.la q.ln q.lc, .slice q.ta q.tn q.tc, .slice q.pa q.pn q.pq, .int .i64 (D.steps : Int)] 42)) (w.heap.size + 1 + 1) (dc D q) 42 := Blk.newAt ((w.alloc _).alloc _) _ _ (w.heap.size + 1 + 1) (by simp) _ rfl
  have kb : Below w.heap.size w (((w.alloc (.cells #[.int .i64 (D.p.steps : Int), .int .i64 D.p.fuse, .bool D.p.done, .bool D.p.down, .int .i64 D.n, .slice q.sa q.sn q.sc, .slice q.la q.ln q.lc, .slice q.ta q.tn q.tc, .slice q.pa q.pn q.pq, .int .i64 (D.steps : Int)] 42)).alloc (.cells #[.int .i64 0, .int .i64 0, .bool false, .bool false, .int .i64 0, .slice none 0 0, .slice none 0 0, .slice none 0 0, .slice none 0 0, .int .i64 0] 42)).alloc (.cells #[.int .i64 (D.p.steps : Int), .int .i64 D.p.fuse, .bool D.p.done, .bool D.p.down, .int .i64 D.n, .slice q.sa q.sn q.sc, .slice q.la q.ln q.lc, .slice q.ta q.tn q.tc, .slice q.pa q.pn q.pq, .int .i64 (D.steps : Int)] 42)) := below3 _ _ _ _
  have hdv : dv D q = .agg #[.int .i64 (D.p.steps : Int), .int .i64 D.p.fuse, .bool D.p.done, .bool D.p.down, .int .i64 D.n, .slice q.sa q.sn q.sc, .slice q.la q.ln q.lc, .slice q.ta q.tn q.tc, .slice q.pa q.pn q.pq, .int .i64 (D.steps : Int)] := rfl
  rw [hdv]
  go_enter Tryz.func78, Tryz.ntmps78
  go_wp2_with fail
  have hr0 := hrB.below kb
  generalize ((w.alloc (.cells #[.int .i64 (D.p.steps : Int), .int .i64 D.p.fuse, .bool D.p.done, .bool D.p.down, .int .i64 D.n, .slice q.sa q.sn q.sc, .slice q.la q.ln q.lc, .slice q.ta q.tn q.tc, .slice q.pa q.pn q.pq, .int .i64 (D.steps : Int)] 42)).alloc (.cells #[.int .i64 0, .int .i64 0, .bool false, .bool false, .int .i64 0, .slice none 0 0, .slice none 0 0, .slice none 0 0, .slice none 0 0, .int .i64 0] 42)).alloc (.cells #[.int .i64 (D.p.steps : Int), .int .i64 D.p.fuse, .bool D.p.done, .bool D.p.down, .int .i64 D.n, .slice q.sa q.sn q.sc, .slice q.la q.ln q.lc, .slice q.ta q.tn q.tc, .slice q.pa q.pn q.pq, .int .i64 (D.steps : Int)] 42) = W0 at *
  clear hrB
  go_loopw [6] (fun i wr => ∃ (k : Nat) (qk : Quad), k ≤ q.pn ∧ i = .int .i64 (k : Int) ∧ Blk wr w.heap.size (dc D q) 42 ∧ Blk wr (w.heap.size + 1) z40 42 ∧ Blk wr (w.heap.size + 1 + 1) (dc (pk k) qk) 42 ∧ RD B wr (pk k) qk ∧ Below w.heap.size w wr) (fun i _ => q.pn - (intOf i).toNat)
  case atStart => exact ⟨0, q, Nat.zero_le _, rfl, b1, b2, by rw [HP0.out]; exact b5, by rw [HP0.out]; exact hr0, kb⟩
  case round =>
    clear b1 b2 b5 kb hr0
    obtain ⟨k, qk, hk, rfl, b1, b2, b5, hr, kw⟩ := hrel
    have l1 := b1.lt
    have l5 := b5.lt
    have f8 : wr.cell? ⟨w.heap.size, 8, none⟩ = some (.slice q.pa q.pn q.pq) := b1.cell 8
    have f9 : wr.cell? ⟨w.heap.size, 9, none⟩ = some (.int .i64 (D.steps : Int)) := b1.cell 9
    by_cases hlt : k < q.pn
    · have i0 : (k : Int) < (q.pn : Int) := by omega
      obtain ⟨x, hx⟩ : ∃ x, D.plot[k]? = some x := ⟨_, List.getElem?_eq_getElem (by rw [HPN.out]; exact hlt)⟩
      obtain ⟨eb, eo, ep, em, eq, hpa, hlb, hrg, hB, hx1, hx2, hx3⟩ := (HSP.out wr kw).poke hx
      have HS := HPS.out k x hx
      have cx : wr.cell? ⟨eb, eo + k * 5, none⟩ = some (.int .i64 x.on) := by have := hrg 0 _ rfl; rwa [Nat.add_zero] at this
      rw [hpa] at f8
      have i3 : (0 : Int) ≤ (k : Int) := by omega
      by_cases hon : x.on = (D.steps : Int)
      · rw [if_pos hon] at HS
        have HSS : Hid (pk (k + 1) = (pk k).poke x) := HS
        clear HS
        have j0 : (x.on == (D.steps : Int)) = true := by simp [hon]
        go_wp2_with fail
        go_quiet (fail)
        go_wp2_with fail
        obtain ⟨W, hW⟩ : ∃ W, W = wr.drewN nq := ⟨_, rfl⟩
        rw [← hW]
        have b1W : Blk W w.heap.size (dc D q) 42 := by rw [hW]; exact b1
        have b2W : Blk W (w.heap.size + 1) z40 42 := by rw [hW]; exact b2
        have b5W : Blk W (w.heap.size + 1 + 1) (dc (pk k) qk) 42 := by rw [hW]; exact b5
        have hrW : RD B W (pk k) qk := by rw [hW]; exact hr.below (below_drewN' wr nq)
        have kW : Below w.heap.size w W := by rw [hW]; exact below_drN kw nq
        have hBW : Bs W ep em eq x.bytes := by rw [hW]; exact hB
        have hlW : eb < W.heap.size := by rw [hW]; exact hlb
        have hgW : W.rangeAt eb (eo + k * 5) [.int .i64 x.on, .int .i64 x.at_, .int .i64 x.kind, .slice ep em eq, .int .i64 x.num] := by rw [hW]; exact hrg
        have F8 : ∀ u, Grows W u → u.cell? ⟨w.heap.size, 8, none⟩ = some (.slice (some ⟨eb, eo, none⟩) q.pn q.pq) := fun u h => by have := (b1W.below h b1W.lt).cell 8; rw [this]; show some (Value.slice q.pa q.pn q.pq) = _; rw [hpa]
        have FR : ∀ u, Grows W u → u.rangeAt eb (eo + k * 5) [.int .i64 x.on, .int .i64 x.at_, .int .i64 x.kind, .slice ep em eq, .int .i64 x.num] := fun u h j v hj => (Below.cell h (p := ⟨eb, eo + k * 5 + j, none⟩) hlW).trans (hgW j v hj)
        clear hW b1 b2 b5 hr kw hB hlb hrg cx f8 f9 l1 l5
        refine regionE 7 (S := Grows W) (by kernel_rfl) (Below.refl _ W).drew ?_
        refine takeT 0 (some 27) (dv (pk k) qk) rfl rfl (by kernel_rfl) (fun _ _ _ h => h) (ans_row 42 (.tmp 5) _ 10 rfl (by rfl) (w.heap.size + 1 + 1) 0 rfl (dc (pk k) qk) (fun w h => (b5W.below h b5W.lt).whole) Tryz.underlying42 rfl rfl size40) ?_
        simp only [Act.put, List.setIfInBounds_toArray, List.set_cons_zero, List.set_cons_succ]
        refine takeT 1 (some 28) (.pointer (some ⟨w.heap.size, 8, none⟩)) rfl rfl (by kernel_rfl) (fun _ _ _ h => h) (ans_plain (by rfl) (fun w _ => by unfold execOp; go_simp)) ?_
        simp only [Act.put, List.setIfInBounds_toArray, List.set_cons_zero, List.set_cons_succ]
        refine takeT 2 (some 29) (.slice (some ⟨eb, eo, none⟩) q.pn q.pq) rfl rfl (by kernel_rfl) (fun _ _ _ h => h) (ans_plain (by rfl) (fun w h => by have hc := F8 w h; unfold execOp; go_simp)) ?_
        simp only [Act.put, List.setIfInBounds_toArray, List.set_cons_zero, List.set_cons_succ]
        refine takeT 3 (some 30) (.int .i64 (k : Int)) rfl rfl (by kernel_rfl) (fun _ _ _ h => h) (ans_plain (by rfl) (fun w _ => rfl)) ?_
        simp only [Act.put, List.setIfInBounds_toArray, List.set_cons_zero, List.set_cons_succ]
        refine takeT 4 (some 31) (.pointer (some ⟨eb, eo + k * 5, none⟩)) rfl rfl (by kernel_rfl) (fun _ _ _ h => h) (ans_plain (by rfl) (fun w _ => by unfold execOp; go_simp)) ?_
        simp only [Act.put, List.setIfInBounds_toArray, List.set_cons_zero, List.set_cons_succ]
        refine takeT 5 (some 32) (xv x ep em eq) rfl rfl (by kernel_rfl) (fun _ _ _ h => h) (ans_row 28 (.tmp 31) _ 5 rfl (by rfl) eb (eo + k * 5) rfl [.int .i64 x.on, .int .i64 x.at_, .int .i64 x.kind, .slice ep em eq, .int .i64 x.num] (fun w h => FR w h) Tryz.underlying28 rfl rfl (by kernel_rfl)) ?_
        simp only [Act.put, List.setIfInBounds_toArray, List.set_cons_zero, List.set_cons_succ]
        refine callE 6 (some 33) 23 #[.tmp 27, .tmp 32] #[42, 28] #[dv (pk k) qk, xv x ep em eq] rfl rfl rfl (by rfl) (by rfl) (by kernel_rfl) (by kernel_rfl) Tryz.call23 fun u1 hg1 hs1 => ?_
        refine (CP.out u1 k qk x ep em eq (by omega) (by have := (b5W.below hs1 b5W.lt).lt; omega) (hrW.below hs1) (hBW.below hs1 (Nat.le_refl _)) hx2 hx3).mono ?_
        rintro e u2 ⟨q2, rfl, hr2, hb2⟩
        have hs2 : Grows W u2 := Grows.trans hs1 hb2
        refine ⟨_, rfl, hs2, ?_⟩
        simp only [Act.put, List.setIfInBounds_toArray, List.set_cons_zero, List.set_cons_succ]
        refine lastE (by kernel_rfl) (by kernel_rfl) (by kernel_rfl) (by kernel_rfl) fun u3 hg3 hs3 => ?_
        refine opStR 7 42 (.tmp 5) (.tmp 33) 10 rfl rfl rfl rfl (w.heap.size + 1 + 1) (dc (pk k) qk) (dc ((pk k).poke x) q2) _ (b5W.below hs3 b5W.lt) rfl rfl (dc_one _ _) size40 rfl rfl fun u4 b4 q4 u5 hg5 => ?_
        have r3 := hr2.below hg3
        have r4 : RD B u4 ((pk k).poke x) q2 := r3.kp q4 (fun j hj e => hn.out j hj (by omega))
        have r5 := r4.below hg5
        have b5Z := b4.below hg5 b4.lt
        have b1X := q4.blk (b1W.below hs3 b1W.lt) (by omega)
        have b1Z := b1X.below hg5 b1X.lt
        have b2X := q4.blk (b2W.below hs3 b2W.lt) (by omega)
        have b2Z := b2X.below hg5 b2X.lt
        have k3 := kW.trans (Below.mono hs3 kW.size)
        have k4 := below_kp k3 q4 k3.size (fun j hj e => by omega)
        have k5 := k4.trans (Below.mono hg5 k4.size)
        rw [← HSS.out] at r5 b5Z
        clear k4 k3 b2X b1X r4 r3 b4 q4 hs3 hg3 hs2 hb2 hr2 hs1 hg1 FR F8 hgW hlW hBW kW hrW b5W b2W b1W hg5
        go_wp2_with fail
        go_roundw
        case rel => exact ⟨k + 1, q2, by omega, by go_num, b1Z, b2Z, b5Z, r5, k5⟩
        case measure => simp [intOf]; omega
      · rw [if_neg hon] at HS
        have HSS : Hid (pk (k + 1) = pk k) := HS
        clear HS
        have j0 : (x.on == (D.steps : Int)) = false := by simp [hon]
        go_wp2_with fail
        go_quiet (fail)
        go_wp2_with fail
        go_roundw
        case rel => exact ⟨k + 1, qk, by omega, by go_num, b1, b2, by rw [HSS.out]; exact b5, by rw [HSS.out]; exact hr.below (below_drewN' wr nq), below_drN kw nq⟩
        case measure => simp [intOf]; omega
    · obtain rfl : k = q.pn := by omega
      have i0 : ¬ (q.pn : Int) < (q.pn : Int) := by omega
      have f0 : wr.cell? ⟨w.heap.size, 0, none⟩ = some (.int .i64 (D.p.steps : Int)) := b1.cell 0
      have f1 : wr.cell? ⟨w.heap.size, 1, none⟩ = some (.int .i64 D.p.fuse) := b1.cell 1
      have f2 : wr.cell? ⟨w.heap.size, 2, none⟩ = some (.bool D.p.done) := b1.cell 2
      have f3 : wr.cell? ⟨w.heap.size, 3, none⟩ = some (.bool D.p.down) := b1.cell 3
      have g9 : wr.cell? ⟨w.heap.size + 1 + 1, 9, none⟩ = some (.int .i64 ((pk q.pn).steps : Int)) := b5.cell 9
      have z9 := b5.free 9
      have hpp := (HPL.out q.pn hpn).2.2
      have hs1 : D.steps + 1 ≤ 5001 := by omega
      obtain ⟨down, hdn⟩ : ∃ down, down = D.p.down := ⟨_, rfl⟩
      rw [← hdn] at f3 HT
      cases down with
      | true =>
        have CPS : Hid (∀ u, Calls Tryz.prog 108 #[.agg #[.int .i64 (D.p.steps : Int), .int .i64 D.p.fuse, .bool D.p.done, .bool true]] u fun e w' => e = .returned (.tuple #[pv D.p.next, .bool D.p.ok, .bool D.p.does]) ∧ Below u.heap.size u w') := fun u => by
          have h1 := rPStep u D.p hfp (by omega)
          have e1 : pv D.p = .agg #[.int .i64 (D.p.steps : Int), .int .i64 D.p.fuse, .bool D.p.done, .bool true] := by unfold pv; rw [← hdn]
          rw [e1] at h1
          exact h1
        obtain ⟨Dm, hDm⟩ : ∃ Dm : DskS, Dm = pk q.pn := ⟨_, rfl⟩
        have HDm : Hid (DT = { Dm with p := D.p.next }) := by show _ = _; rw [HT.out, if_pos rfl, hDm, ← hpp.2]
        have b5m : Blk wr (w.heap.size + 1 + 1) (dc Dm qk) 42 := by rw [hDm]; exact b5
        have hrm : RD B wr Dm qk := by rw [hDm]; exact hr
        have b1m := b1
        have b2m := b2
        have km := kw
        clear hr b5 b1 b2 kw hDm HT hdn
        go_wp2_with fail
        refine (CPS.out _).mono ?_
        rintro e v1 ⟨rfl, hv1⟩
        have b1v := b1m.below hv1 b1m.lt
        have b2v := b2m.below hv1 b2m.lt
        have b5v := b5m.below hv1 b5m.lt
        have rv := hrm.below hv1
        have kv := km.trans (Below.mono hv1 km.size)
        have l5v := b5v.lt
        have g0 : v1.cell? ⟨w.heap.size + 1 + 1, 0, none⟩ = some (.int .i64 (Dm.p.steps : Int)) := b5v.cell 0
        have g1 : v1.cell? ⟨w.heap.size + 1 + 1, 1, none⟩ = some (.int .i64 Dm.p.fuse) := b5v.cell 1
        have g2 : v1.cell? ⟨w.heap.size + 1 + 1, 2, none⟩ = some (.bool Dm.p.done) := b5v.cell 2
        have g3 : v1.cell? ⟨w.heap.size + 1 + 1, 3, none⟩ = some (.bool Dm.p.down) := b5v.cell 3
        have z0 := b5v.free 0
        have z1 := b5v.free 1
        have z2 := b5v.free 2
        have z3 := b5v.free 3
        obtain ⟨S, hS⟩ : ∃ S, S = D.p.next := ⟨_, rfl⟩
        rw [← hS] at HDm CPS ⊢
        have hpvS : pv S = .agg #[.int .i64 (S.steps : Int), .int .i64 S.fuse, .bool S.done, .bool S.down] := rfl
        rw [hpvS]
        clear hS hpvS
        have bF : Blk (((((v1.setCell ⟨w.heap.size + 1 + 1, 0, none⟩ (.int .i64 (S.steps : Int))).setCell ⟨w.heap.size + 1 + 1, 1, none⟩ (.int .i64 S.fuse)).setCell ⟨w.heap.size + 1 + 1, 2, none⟩ (.bool S.done)).setCell ⟨w.heap.size + 1 + 1, 3, none⟩ (.bool S.down)).alloc (.cells #[.int .i64 (S.steps : Int), .int .i64 S.fuse, .bool S.done, .bool S.down] 38)) (w.heap.size + 1 + 1) (dc DT qk) 42 := by rw [HDm.out]; exact ((((b5v.setC 0 _).setC 1 _).setC 2 _).setC 3 _).old _
        have b2F : Blk (((((v1.setCell ⟨w.heap.size + 1 + 1, 0, none⟩ (.int .i64 (S.steps : Int))).setCell ⟨w.heap.size + 1 + 1, 1, none⟩ (.int .i64 S.fuse)).setCell ⟨w.heap.size + 1 + 1, 2, none⟩ (.bool S.done)).setCell ⟨w.heap.size + 1 + 1, 3, none⟩ (.bool S.down)).alloc (.cells #[.int .i64 (S.steps : Int), .int .i64 S.fuse, .bool S.done, .bool S.down] 38)) (w.heap.size + 1) z40 42 := ((((b2v.setO (by simp) _).setO (by simp) _).setO (by simp) _).setO (by simp) _).old _
        have kpF : Kp (fun j => j = w.heap.size + 1 + 1) v1 (((((v1.setCell ⟨w.heap.size + 1 + 1, 0, none⟩ (.int .i64 (S.steps : Int))).setCell ⟨w.heap.size + 1 + 1, 1, none⟩ (.int .i64 S.fuse)).setCell ⟨w.heap.size + 1 + 1, 2, none⟩ (.bool S.done)).setCell ⟨w.heap.size + 1 + 1, 3, none⟩ (.bool S.down)).alloc (.cells #[.int .i64 (S.steps : Int), .int .i64 S.fuse, .bool S.done, .bool S.down] 38)) := ((((Kp.of_grown (but_set _ _ _ _)).trans (Kp.of_grown (but_set _ _ _ _))).trans (Kp.of_grown (but_set _ _ _ _))).trans (Kp.of_grown (but_set _ _ _ _))).alloc _
        have rF := rv.kp kpF (fun j hj e => hn.out j hj (by omega))
        have kF := below_kp kv kpF kv.size (fun j hj e => by omega)
        clear kpF rv kv b5v b2v b1v hv1 b1m b2m b5m hrm km
        go_wp2_with (first
          | ((with_reducible refine at_ld 42 ?_); go_must (refine ld 42 (.tmp 5) 10 size40 _ Tryz.underlying42 rfl (w.heap.size + 1 + 1) 0 (dc DT qk) rfl bF.whole rfl ?_))
          | ((with_reducible refine at_st 42 ?_); go_must (refine st' 42 (.tmp 2) (.tmp 51) 10 size40 (w.heap.size + 1) 0 (dc DT qk) rfl (dc_one _ _) (b2F.there 0 10 (by simp [z40])) rfl rfl ?_); intro w8 hw8))
        have hg8 := but_cells (w.heap.size + 1) (dc DT qk) (((((v1.setCell ⟨w.heap.size + 1 + 1, 0, none⟩ (.int .i64 (S.steps : Int))).setCell ⟨w.heap.size + 1 + 1, 1, none⟩ (.int .i64 S.fuse)).setCell ⟨w.heap.size + 1 + 1, 2, none⟩ (.bool S.done)).setCell ⟨w.heap.size + 1 + 1, 3, none⟩ (.bool S.down)).alloc (.cells #[.int .i64 (S.steps : Int), .int .i64 S.fuse, .bool S.done, .bool S.down] 38)) 0
        rw [← hw8] at hg8
        have b8 : Blk w8 (w.heap.size + 1) (dc DT qk) 42 := by rw [hw8]; exact b2F.setsW _ rfl
        have k8 : Below w.heap.size w w8 := by rw [hw8]; exact below_sets (by omega) _ kF 0
        have r8 := (rF.keep hg8.size (fun j hj hb => hg8.block j hj (fun e => hn.out j hb (by have := Option.some.inj e; omega)))).mono (fun j _ hb => hm.out j hb)
        have r8T : RD A w8 DT qk := by rw [HDm.out]; exact ⟨r8.safe, r8.loose, r8.seen, r8.plot⟩
        first | rw [← hw8] | skip
        exact bodyPost_ret (v := .tuple #[dv DT qk, .bool D.p.ok, .bool D.p.does]) (res3 Tryz.results78 _ _ (w.heap.size + 1) (dc DT qk).toArray rfl (run_loadVar_row w8 (w.heap.size + 1) 42 42 (dc DT qk).toArray (0, 0) _ b8 Tryz.underlying42 rfl size40) _ _ rfl rfl) rfl ⟨qk, rfl, r8T, k8⟩
      | false =>
        have CPS : Hid (∀ u, Calls Tryz.prog 108 #[.agg #[.int .i64 (D.p.steps : Int), .int .i64 D.p.fuse, .bool D.p.done, .bool false]] u fun e w' => e = .returned (.tuple #[pv D.p.next, .bool D.p.ok, .bool D.p.does]) ∧ Below u.heap.size u w') := fun u => by
          have h1 := rPStep u D.p hfp (by omega)
          have e1 : pv D.p = .agg #[.int .i64 (D.p.steps : Int), .int .i64 D.p.fuse, .bool D.p.done, .bool false] := by unfold pv; rw [← hdn]
          rw [e1] at h1
          exact h1
        obtain ⟨W1, hW1⟩ : ∃ W1, W1 = wr.setCell ⟨w.heap.size + 1 + 1, 9, none⟩ (.int .i64 ((D.steps : Int) + 1)) := ⟨_, rfl⟩
        obtain ⟨Dm, hDm⟩ : ∃ Dm : DskS, Dm = { pk q.pn with steps := D.steps + 1 } := ⟨_, rfl⟩
        have HDm : Hid (DT = { Dm with p := D.p.next }) := by show _ = _; rw [HT.out, if_neg (by simp), hDm]
        have kp1 : Kp (fun j => j = w.heap.size + 1 + 1) wr W1 := by rw [hW1]; exact Kp.of_grown (but_set _ _ _ _)
        have b5m : Blk W1 (w.heap.size + 1 + 1) (dc Dm qk) 42 := by rw [hDm, hW1]; exact b5.setC 9 _
        have hrm : RD B W1 Dm qk := (by have h1 := hr.kp kp1 (fun j hj e => hn.out j hj (by omega)); rw [hDm]; exact ⟨h1.safe, h1.loose, h1.seen, h1.plot⟩)
        have b1m := kp1.blk b1 (by omega)
        have b2m := kp1.blk b2 (by omega)
        have km := below_kp kw kp1 kw.size (fun j hj e => by omega)
        clear hr b5 b1 b2 kw hDm HT hdn kp1
        go_wp2_with fail
        rw [← hW1]
        clear hW1 f0 f1 f2 f3 f8 f9 g9 z9
        refine (CPS.out _).mono ?_
        rintro e v1 ⟨rfl, hv1⟩
        have b1v := b1m.below hv1 b1m.lt
        have b2v := b2m.below hv1 b2m.lt
        have b5v := b5m.below hv1 b5m.lt
        have rv := hrm.below hv1
        have kv := km.trans (Below.mono hv1 km.size)
        have l5v := b5v.lt
        have g0 : v1.cell? ⟨w.heap.size + 1 + 1, 0, none⟩ = some (.int .i64 (Dm.p.steps : Int)) := b5v.cell 0
        have g1 : v1.cell? ⟨w.heap.size + 1 + 1, 1, none⟩ = some (.int .i64 Dm.p.fuse) := b5v.cell 1
        have g2 : v1.cell? ⟨w.heap.size + 1 + 1, 2, none⟩ = some (.bool Dm.p.done) := b5v.cell 2
        have g3 : v1.cell? ⟨w.heap.size + 1 + 1, 3, none⟩ = some (.bool Dm.p.down) := b5v.cell 3
        have z0 := b5v.free 0
        have z1 := b5v.free 1
        have z2 := b5v.free 2
        have z3 := b5v.free 3
        obtain ⟨S, hS⟩ : ∃ S, S = D.p.next := ⟨_, rfl⟩
        rw [← hS] at HDm CPS ⊢
        have hpvS : pv S = .agg #[.int .i64 (S.steps : Int), .int .i64 S.fuse, .bool S.done, .bool S.down] := rfl
        rw [hpvS]
        clear hS hpvS
        have bF : Blk (((((v1.setCell ⟨w.heap.size + 1 + 1, 0, none⟩ (.int .i64 (S.steps : Int))).setCell ⟨w.heap.size + 1 + 1, 1, none⟩ (.int .i64 S.fuse)).setCell ⟨w.heap.size + 1 + 1, 2, none⟩ (.bool S.done)).setCell ⟨w.heap.size + 1 + 1, 3, none⟩ (.bool S.down)).alloc (.cells #[.int .i64 (S.steps : Int), .int .i64 S.fuse, .bool S.done, .bool S.down] 38)) (w.heap.size + 1 + 1) (dc DT qk) 42 := by rw [HDm.out]; exact ((((b5v.setC 0 _).setC 1 _).setC 2 _).setC 3 _).old _
        have b2F : Blk (((((v1.setCell ⟨w.heap.size + 1 + 1, 0, none⟩ (.int .i64 (S.steps : Int))).setCell ⟨w.heap.size + 1 + 1, 1, none⟩ (.int .i64 S.fuse)).setCell ⟨w.heap.size + 1 + 1, 2, none⟩ (.bool S.done)).setCell ⟨w.heap.size + 1 + 1, 3, none⟩ (.bool S.down)).alloc (.cells #[.int .i64 (S.steps : Int), .int .i64 S.fuse, .bool S.done, .bool S.down] 38)) (w.heap.size + 1) z40 42 := ((((b2v.setO (by simp) _).setO (by simp) _).setO (by simp) _).setO (by simp) _).old _
        have kpF : Kp (fun j => j = w.heap.size + 1 + 1) v1 (((((v1.setCell ⟨w.heap.size + 1 + 1, 0, none⟩ (.int .i64 (S.steps : Int))).setCell ⟨w.heap.size + 1 + 1, 1, none⟩ (.int .i64 S.fuse)).setCell ⟨w.heap.size + 1 + 1, 2, none⟩ (.bool S.done)).setCell ⟨w.heap.size + 1 + 1, 3, none⟩ (.bool S.down)).alloc (.cells #[.int .i64 (S.steps : Int), .int .i64 S.fuse, .bool S.done, .bool S.down] 38)) := ((((Kp.of_grown (but_set _ _ _ _)).trans (Kp.of_grown (but_set _ _ _ _))).trans (Kp.of_grown (but_set _ _ _ _))).trans (Kp.of_grown (but_set _ _ _ _))).alloc _
        have rF := rv.kp kpF (fun j hj e => hn.out j hj (by omega))
        have kF := below_kp kv kpF kv.size (fun j hj e => by omega)
        clear kpF rv kv b5v b2v b1v hv1 b1m b2m b5m hrm km
        go_wp2_with (first
          | ((with_reducible refine at_ld 42 ?_); go_must (refine ld 42 (.tmp 5) 10 size40 _ Tryz.underlying42 rfl (w.heap.size + 1 + 1) 0 (dc DT qk) rfl bF.whole rfl ?_))
          | ((with_reducible refine at_st 42 ?_); go_must (refine st' 42 (.tmp 2) (.tmp 51) 10 size40 (w.heap.size + 1) 0 (dc DT qk) rfl (dc_one _ _) (b2F.there 0 10 (by simp [z40])) rfl rfl ?_); intro w8 hw8))
        have hg8 := but_cells (w.heap.size + 1) (dc DT qk) (((((v1.setCell ⟨w.heap.size + 1 + 1, 0, none⟩ (.int .i64 (S.steps : Int))).setCell ⟨w.heap.size + 1 + 1, 1, none⟩ (.int .i64 S.fuse)).setCell ⟨w.heap.size + 1 + 1, 2, none⟩ (.bool S.done)).setCell ⟨w.heap.size + 1 + 1, 3, none⟩ (.bool S.down)).alloc (.cells #[.int .i64 (S.steps : Int), .int .i64 S.fuse, .bool S.done, .bool S.down] 38)) 0
        rw [← hw8] at hg8
        have b8 : Blk w8 (w.heap.size + 1) (dc DT qk) 42 := by rw [hw8]; exact b2F.setsW _ rfl
        have k8 : Below w.heap.size w w8 := by rw [hw8]; exact below_sets (by omega) _ kF 0
        have r8 := (rF.keep hg8.size (fun j hj hb => hg8.block j hj (fun e => hn.out j hb (by have := Option.some.inj e; omega)))).mono (fun j _ hb => hm.out j hb)
        have r8T : RD A w8 DT qk := by rw [HDm.out]; exact ⟨r8.safe, r8.loose, r8.seen, r8.plot⟩
        first | rw [← hw8] | skip
        exact bodyPost_ret (v := .tuple #[dv DT qk, .bool D.p.ok, .bool D.p.does]) (res3 Tryz.results78 _ _ (w.heap.size + 1) (dc DT qk).toArray rfl (run_loadVar_row w8 (w.heap.size + 1) 42 42 (dc DT qk).toArray (0, 0) _ b8 Tryz.underlying42 rfl size40) _ _ rfl rfl) rfl ⟨qk, rfl, r8T, k8⟩

end Go.Proofs.YtlenmkhmkommcaaGreat

/-
  The contract of layer 9's reference's Read. Conditions: lists of at most a million, fewer than 2^40 steps.
-/
namespace Go.Proofs.YtlenmkhmkommcaaGreat
open Go.RowKit
set_option linter.unusedVariables false

/-- What a step that was done leaves. -/
def DskS.done (D : DskS) (t : Tch) : DskS := if D.p.does then D.tick.see t else D.tick
def DskS.read (D : DskS) (at_ : Int) : DskS × List UInt8 × Int := if at_ < 0 ∨ D.n ≤ at_ then (D, [], 2) else if D.p.ok then (D.done (0, at_, []), (D.done (0, at_, [])).look at_, 0) else (D.done (0, at_, []), [], 5)
theorem tick_len (D : DskS) : D.tick.safe.length ≤ D.safe.length + D.plot.length ∧ D.tick.loose.length ≤ D.loose.length ∧ D.tick.n = D.n ∧ D.tick.seen = D.seen ∧ D.tick.plot = D.plot := by
  have := pokes_len D.steps D.plot D
  exact ⟨this.1, this.2.1, this.2.2.2.2.1, this.2.2.2.2.2.1, this.2.2.2.2.2.2⟩

set_option maxRecDepth 100000 in
set_option maxHeartbeats 8000000 in
theorem rRead (w : World) {A : Nat → Prop} {D : DskS} {q : Quad} (h : RD A w D q) (hA : ∀ j, w.heap.size ≤ j → A j) {mm : Nat} (hf : D.fit mm) (hmm : mm ≤ 5000) (at_ : Int) (hat : i64 at_) :
    Calls Tryz.prog 62 #[dv D q, .int .i64 at_] w fun e w' => ∃ q' p m c, e = .returned (.tuple #[dv (D.read at_).1 q', .slice p m c, .int .i64 (D.read at_).2.2]) ∧ RD A w' (D.read at_).1 q' ∧ B5 A w' p m c (D.read at_).2.1 ∧ Below w.heap.size w w' := by
  by_cases hrg : at_ < 0 ∨ D.n ≤ at_
  · have e1 : D.read at_ = (D, [], 2) := by unfold DskS.read; rw [if_pos hrg]
    rw [e1]
    dsimp only
    have key : Hid (∀ u, Below w.heap.size w u → ∃ q' p m c, Ending.returned (.tuple #[.agg #[.int .i64 (D.p.steps : Int), .int .i64 D.p.fuse, .bool D.p.done, .bool D.p.down, .int .i64 D.n, .slice q.sa q.sn q.sc, .slice q.la q.ln q.lc, .slice q.ta q.tn q.tc, .slice q.pa q.pn q.pq, .int .i64 (D.steps : Int)], .slice none 0 0, .int .i64 2]) = .returned (.tuple #[dv D q', .slice p m c, .int .i64 2]) ∧ RD A u D q' ∧ B5 A u p m c [] ∧ Below w.heap.size w u) := fun u hu => ⟨q, none, 0, 0, rfl, h.below hu, B5.nil _ _, hu⟩
    have hdv : dv D q = .agg #[.int .i64 (D.p.steps : Int), .int .i64 D.p.fuse, .bool D.p.done, .bool D.p.down, .int .i64 D.n, .slice q.sa q.sn q.sc, .slice q.la q.ln q.lc, .slice q.ta q.tn q.tc, .slice q.pa q.pn q.pq, .int .i64 (D.steps : Int)] := rfl
    obtain ⟨P, hP⟩ : ∃ P : Ending → World → Prop, P = fun e w' => ∃ q' p m c, e = .returned (.tuple #[dv D q', .slice p m c, .int .i64 2]) ∧ RD A w' D q' ∧ B5 A w' p m c [] ∧ Below w.heap.size w w' := ⟨_, rfl⟩
    have KEYP : Hid (∀ u, Below w.heap.size w u → P (.returned (.tuple #[.agg #[.int .i64 (D.p.steps : Int), .int .i64 D.p.fuse, .bool D.p.done, .bool D.p.down, .int .i64 D.n, .slice q.sa q.sn q.sc, .slice q.la q.ln q.lc, .slice q.ta q.tn q.tc, .slice q.pa q.pn q.pq, .int .i64 (D.steps : Int)], .slice none 0 0, .int .i64 2])) u) := by rw [hP]; exact key.out
    rw [← hP, hdv]
    clear hP key h hdv e1 hf
    by_cases h1 : at_ < 0
    · clear hrg
      go_enter Tryz.func62, Tryz.ntmps62
      go_wp2_with fail
      exact bodyPost_ret (by simp [results, Tryz.results62, go_sem]) rfl (KEYP.out _ (below2 _ _ _))
    · have h2 : D.n ≤ at_ := by omega
      clear hrg
      go_enter Tryz.func62, Tryz.ntmps62
      go_wp2_with fail
      exact bodyPost_ret (by simp [results, Tryz.results62, go_sem]) rfl (KEYP.out _ (below2 _ _ _))
  · have n1 : ¬ at_ < 0 := fun h => hrg (Or.inl h)
    have n2 : ¬ D.n ≤ at_ := fun h => hrg (Or.inr h)
    obtain ⟨B, hB'⟩ : ∃ B : Nat → Prop, B = fun j => A j ∧ ¬ (w.heap.size ≤ j ∧ j ≤ w.heap.size + 1) := ⟨_, rfl⟩
    have hm : Hid (∀ j, B j → A j) := fun j hj => by rw [hB'] at hj; exact hj.1
    have hn : Hid (∀ j, B j → ¬ (w.heap.size ≤ j ∧ j ≤ w.heap.size + 1)) := fun j hj => by rw [hB'] at hj; exact hj.2
    have hnew : Hid (∀ j, w.heap.size + 1 < j → B j) := fun j hj => by rw [hB']; exact ⟨hA j (by omega), by omega⟩
    have hrB : RD B w D q := h.mono fun j hj ha => by rw [hB']; exact ⟨ha, by omega⟩
    clear hB' h
    have hlen := tick_len D
    have hl1 := hf.safe
    have hl2 := hf.loose
    have hl3 := hf.seen
    have hl4 := hf.plot
    have HLN : Hid (D.tick.safe.length + 1 ≤ 1000000 ∧ D.tick.loose.length ≤ 1000000 ∧ D.tick.seen.length + 1 ≤ 1000000) := ⟨by omega, by omega, by rw [hlen.2.2.2.1]; omega⟩
    have CT : Hid (∀ u, w.heap.size + 1 < u.heap.size → Below w.heap.size w u → Calls Tryz.prog 78 #[dv D q] u fun e w' => ∃ q', e = .returned (.tuple #[dv D.tick q', .bool D.p.ok, .bool D.p.does]) ∧ RD B w' D.tick q' ∧ Below u.heap.size u w') := fun u hu hb => rTick u (hrB.below hb) (fun j hj => hnew.out j (by omega)) hf hmm
    have e2 : D.read at_ = if D.p.ok then (D.done (0, at_, []), (D.done (0, at_, [])).look at_, 0) else (D.done (0, at_, []), [], 5) := by unfold DskS.read; rw [if_neg hrg]
    obtain ⟨R, hR⟩ : ∃ R, R = D.read at_ := ⟨_, rfl⟩
    rw [← hR]
    rw [e2] at hR
    have HR : Hid (R = if D.p.ok then (D.done (0, at_, []), (D.done (0, at_, [])).look at_, 0) else (D.done (0, at_, []), [], 5)) := hR
    clear hR
    unfold DskS.done at HR
    generalize D.p.ok = ok at *
    generalize D.p.does = does at *
    generalize D.tick = D1 at *
    clear hlen hl1 hl2 hl3 hl4 e2 hrg
    have b1 : Blk ((w.alloc (.cells #[.int .i64 (D.p.steps : Int), .int .i64 D.p.fuse, .bool D.p.done, .bool D.p.down, .int .i64 D.n, .slice q.sa q.sn q.sc, .slice q.la q.ln q.lc, .slice q.ta q.tn q.tc, .slice q.pa q.pn q.pq, .int .i64 (D.steps : Int)] 42)).alloc (.cells #[.int .i64 0, .int .i64 0, .bool false, .bool false, .int .i64 0, .slice none 0 0, .slice none 0 0, .slice none 0 0, .slice none 0 0, .int .i64 0] 42)) w.heap.size (dc D q) 42 := (Blk.newAt w _ _ w.heap.size rfl _ rfl).old _
    have b2 : Blk ((w.alloc (.cells #[.int .i64 (D.p.steps : Int), .int .i64 D.p.fuse, .bool D.p.done, .bool D.p.down, .int .i64 D.n, .slice q.sa q.sn q.sc, .slice q.la q.ln q.lc, .slice q.ta q.tn q.tc, .slice q.pa q.pn q.pq, .int .i64 (D.steps : Int)] 42)).alloc (.cells #[.int .i64 0, .int .i64 0, .bool false, .bool false, .int .i64 0, .slice none 0 0, .slice none 0 0, .slice none 0 0, .slice none 0 0, .int .i64 0] 42)) (w.heap.size + 1) z40 42 := Blk.newAt (w.alloc _) _ _ (w.heap.size + 1) (by simp) _ rfl
    have kb : Below w.heap.size w ((w.alloc (.cells #[.int .i64 (D.p.steps : Int), .int .i64 D.p.fuse, .bool D.p.done, .bool D.p.down, .int .i64 D.n, .slice q.sa q.sn q.sc, .slice q.la q.ln q.lc, .slice q.ta q.tn q.tc, .slice q.pa q.pn q.pq, .int .i64 (D.steps : Int)] 42)).alloc (.cells #[.int .i64 0, .int .i64 0, .bool false, .bool false, .int .i64 0, .slice none 0 0, .slice none 0 0, .slice none 0 0, .slice none 0 0, .int .i64 0] 42)) := below2 _ _ _
    have hdv : dv D q = .agg #[.int .i64 (D.p.steps : Int), .int .i64 D.p.fuse, .bool D.p.done, .bool D.p.down, .int .i64 D.n, .slice q.sa q.sn q.sc, .slice q.la q.ln q.lc, .slice q.ta q.tn q.tc, .slice q.pa q.pn q.pq, .int .i64 (D.steps : Int)] := rfl
    rw [hdv]
    rw [hdv] at CT
    clear hdv hrB hf
    go_enter Tryz.func62, Tryz.ntmps62
    go_wp2_with fail
    refine (CT.out _ b2.lt kb).mono ?_
    rintro e v1 ⟨q1, rfl, hr1, hv1⟩
    have b2v := b2.below hv1 b2.lt
    have kv := kb.trans (Below.mono hv1 kb.size)
    have hg1 := b2v.lt
    clear b1 b2 kb CT hv1
    obtain ⟨g, hg⟩ : ∃ g, g = v1.heap.size := ⟨_, rfl⟩
    have z7 : Blk (v1.alloc (.cells #[.int .i64 0, .int .i64 0, .bool false, .bool false, .int .i64 0, .slice none 0 0, .slice none 0 0, .slice none 0 0, .slice none 0 0, .int .i64 0] 42)) g z40 42 := Blk.newAt v1 _ _ g hg.symm _ rfl
    have k7 : Below v1.heap.size v1 (v1.alloc (.cells #[.int .i64 0, .int .i64 0, .bool false, .bool false, .int .i64 0, .slice none 0 0, .slice none 0 0, .slice none 0 0, .slice none 0 0, .int .i64 0] 42)) := below_alloc _ _
    have b2a := b2v.old (.cells #[.int .i64 0, .int .i64 0, .bool false, .bool false, .int .i64 0, .slice none 0 0, .slice none 0 0, .slice none 0 0, .slice none 0 0, .int .i64 0] 42)
    have hrC : RD (fun j => B j ∧ j ≠ g) v1 D1 q1 := hr1.mono (fun j hj hb => ⟨hb, by omega⟩)
    have hwg : w.heap.size + 1 < g := by omega
    unfold dv
    cases does with
    | true =>
      rw [if_pos rfl] at HR
      go_wp2_with (first
        | ((with_reducible refine at_st 42 ?_); (refine st' 42 (.tmp 7) (.tmp 22) 10 size40 v1.heap.size 0 (dc D1 q1) rfl (dc_one _ _) (by rw [← hg]; exact z7.there 0 10 (by simp [z40])) rfl rfl ?_); intro v3 hv3; have b7 : Blk v3 g (dc D1 q1) 42 := (by rw [hv3, ← hg]; exact z7.setsW _ rfl); have k3 : Below v1.heap.size v1 v3 := (by rw [hv3]; exact below_sets (Nat.le_refl _) _ k7 0); have b2x : Blk v3 (w.heap.size + 1) z40 42 := (by rw [hv3]; exact b2a.setsO (by omega) _ 0); clear hv3)
        | ((with_reducible refine at_ld 42 ?_); (refine ld 42 (.tmp 7) 10 size40 _ Tryz.underlying42 rfl g 0 (dc D1 q1) rfl b7.whole (by rw [hg]; rfl) ?_)))
      have hr3 := hrC.below k3
      have kv3 := kv.trans (k3.mono kv.size)
      have hs3 : g < v3.heap.size := b7.lt
      rw [← hg]
      clear hr1 hrC z7 k7 b2a b2v kv k3 hg hg1
      refine (rSee v3 hr3 (fun j hj => ⟨hnew.out j (by omega), by omega⟩) 0 at_ (by unfold i64; omega) hat (B5.nil _ _) HLN.out.2.2).mono ?_
      rintro e v4 ⟨q2, rfl, hr4, hv4⟩
      have b7v := b7.below hv4 b7.lt
      have b2v := b2x.below hv4 b2x.lt
      have kv4 := kv3.trans (Below.mono hv4 kv3.size)
      clear b7 b2x kv3 hr3 hv4
      obtain ⟨D2, hD2⟩ : ∃ D2, D2 = D1.see (0, at_, []) := ⟨_, rfl⟩
      have HL2 : Hid (D2.safe.length ≤ 1000000 ∧ D2.loose.length ≤ 1000000) := by rw [hD2]; exact ⟨by have := HLN.out.1; show D1.safe.length ≤ _; omega, HLN.out.2.1⟩
      rw [← hD2] at HR
      rw [← hD2] at hr4 ⊢
      clear hD2
      unfold dv
      cases ok with
      | true =>
        have HR2 : Hid (R = (D2, D2.look at_, 0)) := HR
        go_wp2_with ((with_reducible refine at_st 42 ?_); (refine st' 42 (.tmp 7) (.tmp 29) 10 size40 g 0 (dc D2 q2) rfl (dc_one _ _) (b7v.there 0 10 (by simp [dc])) rfl rfl ?_); intro v5 hv5; have b7 : Blk v5 g (dc D2 q2) 42 := (by rw [hv5]; exact b7v.setsW _ rfl); have q5 : Kp (fun j => j = g) v4 v5 := (by rw [hv5]; exact Kp.of_grown (but_cells _ _ _ _)); have b2x : Blk v5 (w.heap.size + 1) z40 42 := q5.blk b2v (by omega); have hrx := hr4.kp q5 (fun j hj e => hj.2 e); have kx := below_kp kv4 q5 kv4.size (fun j hj e => by omega); clear hv5)
        refine regionE 4 (S := Grows v5) (by kernel_rfl) (Below.refl _ v5).drew ?_
        refine takeT 0 (some 33) (dv D2 q2) rfl rfl (by kernel_rfl) (fun _ _ _ h => h) (ans_row 42 (.tmp 7) _ 10 rfl (by rfl) g 0 rfl (dc D2 q2) (fun w h => (b7.below h b7.lt).whole) Tryz.underlying42 rfl rfl size40) ?_
        simp only [Act.put, List.setIfInBounds_toArray, List.set_cons_zero, List.set_cons_succ]
        refine takeT 1 (some 34) (dv D2 q2) rfl rfl (by kernel_rfl) (fun _ _ _ h => h) (ans_row 42 (.tmp 7) _ 10 rfl (by rfl) g 0 rfl (dc D2 q2) (fun w h => (b7.below h b7.lt).whole) Tryz.underlying42 rfl rfl size40) ?_
        simp only [Act.put, List.setIfInBounds_toArray, List.set_cons_zero, List.set_cons_succ]
        refine takeT 2 (some 35) (.int .i64 at_) rfl rfl (by kernel_rfl) (fun _ _ _ h => h) (ans_plain (by rfl) (fun w _ => rfl)) ?_
        simp only [Act.put, List.setIfInBounds_toArray, List.set_cons_zero, List.set_cons_succ]
        refine callE 3 (some 36) 31 #[.tmp 34, .tmp 35] #[42, 3] #[dv D2 q2, .int .i64 at_] rfl rfl rfl (by rfl) (by rfl) (by kernel_rfl) (by kernel_rfl) Tryz.call31 fun u1 hg1 hs1 => ?_
        have hs7 : g < u1.heap.size := (b7.below hs1 b7.lt).lt
        refine (rLook u1 (hrx.below hs1) (fun j hj => ⟨hnew.out j (by omega), by omega⟩) at_ HL2.out.1 HL2.out.2).mono ?_
        rintro e u2 ⟨p2, m2, c2, rfl, hB2, hb2⟩
        have hs2 : Grows v5 u2 := Grows.trans hs1 hb2
        refine ⟨_, rfl, hs2, ?_⟩
        simp only [Act.put, List.setIfInBounds_toArray, List.set_cons_zero, List.set_cons_succ]
        refine goE (by kernel_rfl) (by kernel_rfl) (by kernel_rfl) fun u3 hg3 hs3 => ?_
        refine opStR 4 42 (.tmp 4) (.tmp 33) 10 rfl rfl rfl rfl (w.heap.size + 1) z40 (dc D2 q2) _ (b2x.below hs3 b2x.lt) rfl rfl (dc_one _ _) size40 rfl rfl fun u4 b4 q4 => ?_
        refine takeP 5 (some 5) (.slice p2 m2 c2) rfl rfl (by kernel_rfl) (fun _ _ _ h => h) (by rfl) (fun w => by unfold execOp; go_simp) ?_
        simp only [Act.put, List.setIfInBounds_toArray, List.set_cons_zero, List.set_cons_succ]
        refine takeP 6 (some 6) (.int .i64 0) rfl rfl (by kernel_rfl) (fun _ _ _ h => h) (by rfl) (fun w => by unfold execOp; go_simp) ?_
        simp only [Act.put, List.setIfInBounds_toArray, List.set_cons_zero, List.set_cons_succ]
        refine endE (by kernel_rfl) fun u5 hg5 => ?_
        have r3 := hrx.below hs3
        have r4 := r3.kp q4 (fun j hj e => hn.out j hj.1 (by omega))
        have r5 := (r4.below hg5).mono (fun j _ hb => hm.out j hb.1)
        have b5 := b4.below hg5 b4.lt
        have k3 := kx.trans (Below.mono hs3 kx.size)
        have k4 := below_kp k3 q4 k3.size (fun j hj e => by omega)
        have k5 := k4.trans (Below.mono hg5 k4.size)
        have B5f := (((hB2.below hg3).kp q4 (fun j hj e => hn.out j hj.1 (by omega))).below hg5).mono (fun j _ hb => hm.out j hb.1)
        clear r3 r4 k3 k4 q4 b4 hs3 hg3 hs2 hb2 hB2 hs1 hg1 hg5
        go_wp2_with fail
        exact bodyPost_ret (v := .tuple #[dv D2 q2, .slice p2 m2 c2, .int .i64 0]) (res3 Tryz.results62 _ _ (w.heap.size + 1) (dc D2 q2).toArray rfl (run_loadVar_row u5 (w.heap.size + 1) 42 42 (dc D2 q2).toArray (0, 0) _ b5 Tryz.underlying42 rfl size40) _ _ rfl rfl) rfl ⟨q2, p2, m2, c2, by rw [HR2.out], by rw [HR2.out]; exact r5, by rw [HR2.out]; exact B5f, k5⟩
      | false =>
        have HR2 : Hid (R = (D2, [], 5)) := HR
        go_wp2_with (first
          | ((with_reducible refine at_st 42 ?_); (refine st' 42 (.tmp 7) (.tmp 29) 10 size40 g 0 (dc D2 q2) rfl (dc_one _ _) (b7v.there 0 10 (by simp [dc])) rfl rfl ?_); intro v5 hv5; have b7 : Blk v5 g (dc D2 q2) 42 := (by rw [hv5]; exact b7v.setsW _ rfl); have q5 : Kp (fun j => j = g) v4 v5 := (by rw [hv5]; exact Kp.of_grown (but_cells _ _ _ _)); have b2x : Blk v5 (w.heap.size + 1) z40 42 := q5.blk b2v (by omega); have hrx := hr4.kp q5 (fun j hj e => hj.2 e); have kx := below_kp kv4 q5 kv4.size (fun j hj e => by omega); clear hv5)
          | ((with_reducible refine at_ld 42 ?_); go_must (refine ld 42 (.tmp 7) 10 size40 _ Tryz.underlying42 rfl g 0 (dc D2 q2) rfl b7.whole rfl ?_))
          | ((with_reducible refine at_st 42 ?_); go_must (refine st' 42 (.tmp 4) (.tmp 32) 10 size40 (w.heap.size + 1) 0 (dc D2 q2) rfl (dc_one _ _) (b2x.there 0 10 (by simp [z40])) rfl rfl ?_); intro w8 hw8))
        have hg8 := but_cells (w.heap.size + 1) (dc D2 q2) v5 0
        rw [← hw8] at hg8
        have b8 : Blk w8 (w.heap.size + 1) (dc D2 q2) 42 := by rw [hw8]; exact b2x.setsW _ rfl
        have k8 : Below w.heap.size w w8 := by rw [hw8]; exact below_sets (by omega) _ kx 0
        have r8 := (hrx.keep hg8.size (fun j hj hb => hg8.block j hj (fun e => hn.out j hb.1 (by have := Option.some.inj e; omega)))).mono (fun j _ hb => hm.out j hb.1)
        first | rw [← hw8] | skip
        exact bodyPost_ret (v := .tuple #[dv D2 q2, .slice none 0 0, .int .i64 5]) (res3 Tryz.results62 _ _ (w.heap.size + 1) (dc D2 q2).toArray rfl (run_loadVar_row w8 (w.heap.size + 1) 42 42 (dc D2 q2).toArray (0, 0) _ b8 Tryz.underlying42 rfl size40) _ _ rfl rfl) rfl ⟨q2, none, 0, 0, by rw [HR2.out], by rw [HR2.out]; exact r8, by rw [HR2.out]; exact B5.nil _ _, k8⟩
    | false =>
      rw [if_neg (show ¬ (false = true) by simp)] at HR
      have HL2 : Hid (D1.safe.length ≤ 1000000 ∧ D1.loose.length ≤ 1000000) := ⟨by have := HLN.out.1; omega, HLN.out.2.1⟩
      cases ok with
      | true =>
        have HR2 : Hid (R = (D1, D1.look at_, 0)) := HR
        go_wp2_with ((with_reducible refine at_st 42 ?_); (refine st' 42 (.tmp 7) (.tmp 22) 10 size40 v1.heap.size 0 (dc D1 q1) rfl (dc_one _ _) (by rw [← hg]; exact z7.there 0 10 (by simp [z40])) rfl rfl ?_); intro v3 hv3; have b7 : Blk v3 g (dc D1 q1) 42 := (by rw [hv3, ← hg]; exact z7.setsW _ rfl); have k3 : Below v1.heap.size v1 v3 := (by rw [hv3]; exact below_sets (Nat.le_refl _) _ k7 0); have b2x : Blk v3 (w.heap.size + 1) z40 42 := (by rw [hv3]; exact b2a.setsO (by omega) _ 0); have hrx := hrC.below k3; have kx := kv.trans (k3.mono kv.size); clear hv3)
        rw [← hg]
        refine regionE 4 (S := Grows v3) (by kernel_rfl) (Below.refl _ v3).drew ?_
        refine takeT 0 (some 33) (dv D1 q1) rfl rfl (by kernel_rfl) (fun _ _ _ h => h) (ans_row 42 (.tmp 7) _ 10 rfl (by rfl) g 0 rfl (dc D1 q1) (fun w h => (b7.below h b7.lt).whole) Tryz.underlying42 rfl rfl size40) ?_
        simp only [Act.put, List.setIfInBounds_toArray, List.set_cons_zero, List.set_cons_succ]
        refine takeT 1 (some 34) (dv D1 q1) rfl rfl (by kernel_rfl) (fun _ _ _ h => h) (ans_row 42 (.tmp 7) _ 10 rfl (by rfl) g 0 rfl (dc D1 q1) (fun w h => (b7.below h b7.lt).whole) Tryz.underlying42 rfl rfl size40) ?_
        simp only [Act.put, List.setIfInBounds_toArray, List.set_cons_zero, List.set_cons_succ]
        refine takeT 2 (some 35) (.int .i64 at_) rfl rfl (by kernel_rfl) (fun _ _ _ h => h) (ans_plain (by rfl) (fun w _ => rfl)) ?_
        simp only [Act.put, List.setIfInBounds_toArray, List.set_cons_zero, List.set_cons_succ]
        refine callE 3 (some 36) 31 #[.tmp 34, .tmp 35] #[42, 3] #[dv D1 q1, .int .i64 at_] rfl rfl rfl (by rfl) (by rfl) (by kernel_rfl) (by kernel_rfl) Tryz.call31 fun u1 hg1 hs1 => ?_
        have hs7 : g < u1.heap.size := (b7.below hs1 b7.lt).lt
        refine (rLook u1 (hrx.below hs1) (fun j hj => ⟨hnew.out j (by omega), by omega⟩) at_ HL2.out.1 HL2.out.2).mono ?_
        rintro e u2 ⟨p2, m2, c2, rfl, hB2, hb2⟩
        have hs2 : Grows v3 u2 := Grows.trans hs1 hb2
        refine ⟨_, rfl, hs2, ?_⟩
        simp only [Act.put, List.setIfInBounds_toArray, List.set_cons_zero, List.set_cons_succ]
        refine goE (by kernel_rfl) (by kernel_rfl) (by kernel_rfl) fun u3 hg3 hs3 => ?_
        refine opStR 4 42 (.tmp 4) (.tmp 33) 10 rfl rfl rfl rfl (w.heap.size + 1) z40 (dc D1 q1) _ (b2x.below hs3 b2x.lt) rfl rfl (dc_one _ _) size40 rfl rfl fun u4 b4 q4 => ?_
        refine takeP 5 (some 5) (.slice p2 m2 c2) rfl rfl (by kernel_rfl) (fun _ _ _ h => h) (by rfl) (fun w => by unfold execOp; go_simp) ?_
        simp only [Act.put, List.setIfInBounds_toArray, List.set_cons_zero, List.set_cons_succ]
        refine takeP 6 (some 6) (.int .i64 0) rfl rfl (by kernel_rfl) (fun _ _ _ h => h) (by rfl) (fun w => by unfold execOp; go_simp) ?_
        simp only [Act.put, List.setIfInBounds_toArray, List.set_cons_zero, List.set_cons_succ]
        refine endE (by kernel_rfl) fun u5 hg5 => ?_
        have r3 := hrx.below hs3
        have r4 := r3.kp q4 (fun j hj e => hn.out j hj.1 (by omega))
        have r5 := (r4.below hg5).mono (fun j _ hb => hm.out j hb.1)
        have b5 := b4.below hg5 b4.lt
        have k3 := kx.trans (Below.mono hs3 kx.size)
        have k4 := below_kp k3 q4 k3.size (fun j hj e => by omega)
        have k5 := k4.trans (Below.mono hg5 k4.size)
        have B5f := (((hB2.below hg3).kp q4 (fun j hj e => hn.out j hj.1 (by omega))).below hg5).mono (fun j _ hb => hm.out j hb.1)
        clear r3 r4 k3 k4 q4 b4 hs3 hg3 hs2 hb2 hB2 hs1 hg1 hg5
        go_wp2_with fail
        exact bodyPost_ret (v := .tuple #[dv D1 q1, .slice p2 m2 c2, .int .i64 0]) (res3 Tryz.results62 _ _ (w.heap.size + 1) (dc D1 q1).toArray rfl (run_loadVar_row u5 (w.heap.size + 1) 42 42 (dc D1 q1).toArray (0, 0) _ b5 Tryz.underlying42 rfl size40) _ _ rfl rfl) rfl ⟨q1, p2, m2, c2, by rw [HR2.out], by rw [HR2.out]; exact r5, by rw [HR2.out]; exact B5f, k5⟩
      | false =>
        have HR2 : Hid (R = (D1, [], 5)) := HR
        go_wp2_with (first
          | ((with_reducible refine at_st 42 ?_); (refine st' 42 (.tmp 7) (.tmp 22) 10 size40 v1.heap.size 0 (dc D1 q1) rfl (dc_one _ _) (by rw [← hg]; exact z7.there 0 10 (by simp [z40])) rfl rfl ?_); intro v3 hv3; have b7 : Blk v3 g (dc D1 q1) 42 := (by rw [hv3, ← hg]; exact z7.setsW _ rfl); have k3 : Below v1.heap.size v1 v3 := (by rw [hv3]; exact below_sets (Nat.le_refl _) _ k7 0); have b2x : Blk v3 (w.heap.size + 1) z40 42 := (by rw [hv3]; exact b2a.setsO (by omega) _ 0); have hrx := hrC.below k3; have kx := kv.trans (k3.mono kv.size); clear hv3)
          | ((with_reducible refine at_ld 42 ?_); go_must (refine ld 42 (.tmp 7) 10 size40 _ Tryz.underlying42 rfl g 0 (dc D1 q1) rfl b7.whole (by rw [hg]; rfl) ?_))
          | ((with_reducible refine at_st 42 ?_); go_must (refine st' 42 (.tmp 4) (.tmp 32) 10 size40 (w.heap.size + 1) 0 (dc D1 q1) rfl (dc_one _ _) (b2x.there 0 10 (by simp [z40])) rfl rfl ?_); intro w8 hw8))
        have hg8 := but_cells (w.heap.size + 1) (dc D1 q1) v3 0
        rw [← hw8] at hg8
        have b8 : Blk w8 (w.heap.size + 1) (dc D1 q1) 42 := by rw [hw8]; exact b2x.setsW _ rfl
        have k8 : Below w.heap.size w w8 := by rw [hw8]; exact below_sets (by omega) _ kx 0
        have r8 := (hrx.keep hg8.size (fun j hj hb => hg8.block j hj (fun e => hn.out j hb.1 (by have := Option.some.inj e; omega)))).mono (fun j _ hb => hm.out j hb.1)
        first | rw [← hw8] | skip
        exact bodyPost_ret (v := .tuple #[dv D1 q1, .slice none 0 0, .int .i64 5]) (res3 Tryz.results62 _ _ (w.heap.size + 1) (dc D1 q1).toArray rfl (run_loadVar_row w8 (w.heap.size + 1) 42 42 (dc D1 q1).toArray (0, 0) _ b8 Tryz.underlying42 rfl size40) _ _ rfl rfl) rfl ⟨q1, none, 0, 0, by rw [HR2.out], by rw [HR2.out]; exact r8, by rw [HR2.out]; exact B5.nil _ _, k8⟩

end Go.Proofs.YtlenmkhmkommcaaGreat
