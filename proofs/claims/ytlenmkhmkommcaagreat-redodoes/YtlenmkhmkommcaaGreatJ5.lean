/-
  2 texts in one. No statement of the seat is proved here.
-/
import Derived.Test.YtlenmkhmkommcaaGreatJ4
import Derived.Deep.DeepCutAuto
import Derived.Deep.CutBlock
/-
  The contract of layer 9's reference's Poke, where it does something. Conditions: lists of at most a million.
-/
namespace Go.Proofs.YtlenmkhmkommcaaGreat
open Go.RowKit
set_option linter.unusedVariables false

theorem range2 {w : World} {b o : Nat} {u v : Value} (h0 : w.cell? ⟨b, o, none⟩ = some u) (h1 : w.cell? ⟨b, o + 1, none⟩ = some v) : w.rangeAt b o [u, v] := by
  intro j x hj
  match j, hj with
  | 0, hj => simp at hj; subst hj; exact h0
  | 1, hj => simp at hj; subst hj; exact h1
  | j + 2, hj => simp at hj
/-- What Poke holds in its variables. -/
structure PkB (w wx : World) (D : DskS) (q : Quad) (x : Pok) (p : Option Addr) (m c : Nat) : Prop where
  d : Blk wx w.heap.size (dc D q) 42
  x : Blk wx (w.heap.size + 1) [.int .i64 x.on, .int .i64 x.at_, .int .i64 x.kind, .slice p m c, .int .i64 x.num] 28
  r : Blk wx (w.heap.size + 1 + 1) z40 42
  b : Below w.heap.size w wx
theorem PkB.below {w wx wy : World} {D : DskS} {q : Quad} {x : Pok} {p : Option Addr} {m c : Nat} (h : PkB w wx D q x p m c) (hb : Below wx.heap.size wx wy) : PkB w wy D q x p m c :=
  ⟨h.d.below hb h.d.lt, h.x.below hb h.x.lt, h.r.below hb h.r.lt, h.b.trans (hb.mono h.b.size)⟩

set_option maxRecDepth 100000 in
set_option maxHeartbeats 8000000 in
theorem rPoke0 (w : World) {A : Nat → Prop} {D : DskS} {q : Quad} (h : RD A w D q) (hA : ∀ j, w.heap.size ≤ j → A j) (on at_ : Int) (bytes : List UInt8) (num : Int) {p : Option Addr} {m c : Nat} (hx : Bs w p m c bytes) (hi : i64 at_) (hnum : num ≤ 9223372036854775807) (hid : ¬ D.idle ⟨on, at_, 0, bytes, num⟩) (hz : D.safe.length + 1 ≤ 1000000) (hz2 : D.loose.length ≤ 1000000) :
    Calls Tryz.prog 23 #[dv D q, xv ⟨on, at_, 0, bytes, num⟩ p m c] w fun e w' => ∃ q', e = .returned (dv (D.poke ⟨on, at_, 0, bytes, num⟩) q') ∧ RD A w' (D.poke ⟨on, at_, 0, bytes, num⟩) q' ∧ Below w.heap.size w w' := by
  obtain ⟨D2, hD2⟩ : ∃ D2, D2 = D.poke ⟨on, at_, 0, bytes, num⟩ := ⟨_, rfl⟩
  rw [← hD2]
  unfold DskS.poke at hD2
  rw [if_neg hid] at hD2
  dsimp only at hD2
  have hid2 : 0 ≤ at_ ∧ at_ < D.n ∧ (0 < (0 : Int) → 0 ≤ num) ∧ ((0 : Int) = 1 → num < D.n) := by unfold DskS.idle at hid; dsimp only at hid; omega
  obtain ⟨j1, j2, j5, j6⟩ := hid2
  clear hid
  obtain ⟨B, hB'⟩ : ∃ B : Nat → Prop, B = fun j => A j ∧ j ≠ w.heap.size + 1 + 1 := ⟨_, rfl⟩
  have hm : Hid (∀ j, B j → A j) := fun j hj => by rw [hB'] at hj; exact hj.1
  have hn : Hid (∀ j, B j → j ≠ w.heap.size + 1 + 1) := fun j hj => by rw [hB'] at hj; exact hj.2
  have hnew : Hid (∀ j, w.heap.size + 1 + 1 < j → B j) := fun j hj => by rw [hB']; exact ⟨hA j (by omega), by omega⟩
  have hrB : RD B w D q := h.mono fun j hj ha => by rw [hB']; exact ⟨ha, by omega⟩
  clear hB'
  have HR : Hid (∀ u, Below w.heap.size w u → RD B u D q) := fun u hu => hrB.below hu
  have HLS : Hid (D.loose.length = q.ln) := h.loose.len
  have hbb : D.bytesOf ⟨on, at_, 0, bytes, num⟩ = bytes := rfl
  rw [hbb] at hD2
  clear hbb
  have CTT : Hid (∀ u a m c, Below w.heap.size w u → w.heap.size + 1 + 1 < u.heap.size → Bs u a m c bytes → Calls Tryz.prog 50 #[dv D q, .int .i64 at_, .slice a m c] u fun e w' => ∃ q', e = .returned (dv (D.settle at_ bytes) q') ∧ RD B w' (D.settle at_ bytes) q' ∧ Below u.heap.size u w') := fun u a m c hu hs hb => rSettle u (HR.out u hu) (fun j hj => hnew.out j (by omega)) at_ hi hb hz
  have HX : Hid (∀ u, Below w.heap.size w u → Bs u p m c bytes) := fun u hu => hx.below hu (Nat.le_refl _)
  have HSL : Hid (∀ u, Below w.heap.size w u → Sl (elC B) 2 B u q.la q.ln q.lc D.loose) := fun u hu => (HR.out u hu).loose
  have HD2 : Hid (D2 = { D.settle at_ bytes with loose := D.loose.filter fun c => decide (c.1 ≠ at_) }) := hD2
  clear hD2 h hx
  obtain ⟨D1, hD1⟩ : ∃ D1, D1 = D.settle at_ bytes := ⟨_, rfl⟩
  rw [← hD1] at CTT HD2
  clear hD1
  have b0 : PkB w (((w.alloc (.cells #[.int .i64 (D.p.steps : Int), .int .i64 D.p.fuse, .bool D.p.done, .bool D.p.down, .int .i64 D.n, .slice q.sa q.sn q.sc, .slice q.la q.ln q.lc, .slice q.ta q.tn q.tc, .slice q.pa q.pn q.pq, .int .i64 (D.steps : Int)] 42)).alloc (.cells #[.int .i64 on, .int .i64 at_, .int .i64 0, .slice p m c, .int .i64 num] 28)).alloc (.cells #[.int .i64 0, .int .i64 0, .bool false, .bool false, .int .i64 0, .slice none 0 0, .slice none 0 0, .slice none 0 0, .slice none 0 0, .int .i64 0] 42)) D q ⟨on, at_, 0, bytes, num⟩ p m c :=
    ⟨((Blk.newAt w _ _ w.heap.size rfl _ rfl).old _).old _, (Blk.newAt (w.alloc _) _ _ (w.heap.size + 1) (by simp) _ rfl).old _, Blk.newAt ((w.alloc _).alloc _) _ _ (w.heap.size + 1 + 1) (by simp) _ rfl, below3 _ _ _ _⟩
  have n1 : ¬ at_ < 0 := by omega
  have n2 : ¬ D.n ≤ at_ := by omega
  have hdv : dv D q = .agg #[.int .i64 (D.p.steps : Int), .int .i64 D.p.fuse, .bool D.p.done, .bool D.p.down, .int .i64 D.n, .slice q.sa q.sn q.sc, .slice q.la q.ln q.lc, .slice q.ta q.tn q.tc, .slice q.pa q.pn q.pq, .int .i64 (D.steps : Int)] := rfl
  rw [hdv]
  clear j5 j6
  unfold xv
  dsimp only
  go_enter Tryz.func23, Tryz.ntmps23
  go_wp2_with fail
  have hb1 := b0
  have kB := HX.out _ b0.b
  refine (CTT.out _ _ _ _ hb1.b hb1.r.lt kB).mono ?_
  rintro e v2 ⟨q1, rfl, hr1, hv2⟩
  have hb2 := hb1.below hv2
  have z6B : Blk (v2.alloc (.cells #[.int .i64 0, .int .i64 0, .bool false, .bool false, .int .i64 0, .slice none 0 0, .slice none 0 0, .slice none 0 0, .slice none 0 0, .int .i64 0] 42)) v2.heap.size z40 42 := Blk.newAt v2 _ _ v2.heap.size rfl _ rfl
  have k6 : Below v2.heap.size v2 (v2.alloc (.cells #[.int .i64 0, .int .i64 0, .bool false, .bool false, .int .i64 0, .slice none 0 0, .slice none 0 0, .slice none 0 0, .slice none 0 0, .int .i64 0] 42)) := below_alloc _ _
  clear kB hb1 hv2
  unfold dv
  go_wp2_with ((with_reducible refine at_st 42 ?_); go_must (refine st' 42 (.tmp 6) (.tmp 73) 10 size40 v2.heap.size 0 (dc D1 q1) rfl (dc_one _ _) (z6B.there 0 10 (by simp [z40])) rfl rfl ?_); intro v3 hv3; have b6 : Blk v3 v2.heap.size (dc D1 q1) 42 := (by rw [hv3]; exact z6B.setsW _ rfl); have k3 : Below v2.heap.size v2 v3 := (by rw [hv3]; exact below_sets (Nat.le_refl _) _ k6 0); clear hv3; have c6 : v3.cell? ⟨v2.heap.size, 6, none⟩ = some (.slice q1.la q1.ln q1.lc) := b6.cell 6; have y6 := b6.free 6; have l6 := b6.lt)
  obtain ⟨W, hW⟩ : ∃ W, W = v3.setCell ⟨v2.heap.size, 6, none⟩ (.slice none 0 0) := ⟨_, rfl⟩
  rw [← hW]
  have b6W : Blk W v2.heap.size (dc D1 ⟨q1.sa, q1.sn, q1.sc, none, 0, 0, q1.ta, q1.tn, q1.tc, q1.pa, q1.pn, q1.pq⟩) 42 := by rw [hW]; exact b6.setC 6 _
  have kW : Below v2.heap.size v2 W := by rw [hW]; exact k3.setCell (Nat.le_refl _) _
  clear hW c6 y6 l6 b6 k3 z6B k6
  have hb6 := hb2.below kW
  have HB2 : Hid (PkB w v2 D q ⟨on, at_, 0, bytes, num⟩ p m c) := hb2
  have HR1 : Hid (RD B v2 D1 q1) := hr1
  clear hb2 hr1
  go_loopw [7] (fun i wr => ∃ (k : Nat) (a : Option Addr) (n c' : Nat), k ≤ q.ln ∧ i = .int .i64 (k : Int) ∧ Blk wr v2.heap.size (dc D1 ⟨q1.sa, q1.sn, q1.sc, a, n, c', q1.ta, q1.tn, q1.tc, q1.pa, q1.pn, q1.pq⟩) 42 ∧ OwS (elC B) 2 118 wr (v2.heap.size + 1) (.slice a n c') ((D.loose.take k).filter (fun c => decide (c.1 ≠ at_))) ∧ Below v2.heap.size v2 wr) (fun i _ => q.ln - (intOf i).toNat)
  case atStart => exact ⟨0, none, 0, 0, Nat.zero_le _, rfl, b6W, by simpa using OwS.nil _ _ _ _ _, kW⟩
  case round =>
    clear b6W kW hb6
    obtain ⟨k, a, n, c', hk, rfl, b6, ow, kw⟩ := hrel
    have pb := HB2.out.below kw
    have f0 : wr.cell? ⟨w.heap.size, 6, none⟩ = some (.slice q.la q.ln q.lc) := pb.d.cell 6
    have f1 : wr.cell? ⟨w.heap.size + 1, 1, none⟩ = some (.int .i64 at_) := pb.x.cell 1
    have l0 := pb.d.lt
    have l1 := pb.x.lt
    have l6 := b6.lt
    have hln : q.ln ≤ 1000000 := by have := HLS.out; omega
    by_cases hlt : k < q.ln
    · have i0 : (k : Int) < (q.ln : Int) := by omega
      obtain ⟨y, hy⟩ : ∃ y, D.loose[k]? = some y := ⟨_, List.getElem?_eq_getElem (by rw [HLS.out]; exact hlt)⟩
      obtain ⟨eb, eo, ep, em, eq, hla, hlb, cx, cy, hB, hyi⟩ := (HSL.out wr pb.b).change hy
      rw [hla] at f0
      have i3 : (0 : Int) ≤ (k : Int) := by omega
      obtain ⟨ya, yb⟩ := y
      dsimp only at cx cy hB hyi
      by_cases hya : ya = at_
      · subst hya
        have HF : Hid ((D.loose.take (k + 1)).filter (fun c => decide (c.1 ≠ ya)) = (D.loose.take k).filter (fun c => decide (c.1 ≠ ya))) := by show _ = _; rw [List.take_add_one, hy, List.filter_append]; simp
        have j0 : (ya != ya) = false := by simp
        go_wp2_with fail
        go_quiet (fail)
        go_wp2_with fail
        go_roundw
        case rel => exact ⟨k + 1, a, n, c', by omega, by go_num, b6, by rw [HF.out]; exact ow, below_drN kw nq⟩
        case measure => simp [intOf]; omega
      · have HF : Hid ((D.loose.take (k + 1)).filter (fun c => decide (c.1 ≠ at_)) = (D.loose.take k).filter (fun c => decide (c.1 ≠ at_)) ++ [(ya, yb)]) := by show _ = _; rw [List.take_add_one, hy, List.filter_append]; simp [hya]
        have j0 : (ya != at_) = true := by simp [hya]
        go_wp2_with fail
        go_quiet (fail)
        go_wp2_with fail
        obtain ⟨W, hW⟩ : ∃ W, W = wr.drewN nq := ⟨_, rfl⟩
        rw [← hW]
        have kW : Below v2.heap.size v2 W := by rw [hW]; exact below_drN kw nq
        have b6W : Blk W v2.heap.size (dc D1 ⟨q1.sa, q1.sn, q1.sc, a, n, c', q1.ta, q1.tn, q1.tc, q1.pa, q1.pn, q1.pq⟩) 42 := by rw [hW]; exact b6
        have oW : OwS (elC B) 2 118 W (v2.heap.size + 1) (.slice a n c') ((D.loose.take k).filter (fun c => decide (c.1 ≠ at_))) := by rw [hW]; exact ow
        have pW := HB2.out.below kW
        have hBW : B5 B W ep em eq yb := by rw [hW]; exact hB
        have hlW : eb < W.heap.size := by rw [hW]; exact hlb
        have cxW : W.cell? ⟨eb, eo + k * 2, none⟩ = some (.int .i64 ya) := by rw [hW]; exact cx
        have cyW : W.cell? ⟨eb, eo + k * 2 + 1, none⟩ = some (.slice ep em eq) := by rw [hW]; exact cy
        have F6 : ∀ u, Grows W u → u.cell? ⟨v2.heap.size, 6, none⟩ = some (.slice a n c') := fun u h => (b6W.below h b6W.lt).cell 6
        have F0 : ∀ u, Grows W u → u.cell? ⟨w.heap.size, 6, none⟩ = some (.slice (some ⟨eb, eo, none⟩) q.ln q.lc) := fun u h => by have := (pW.d.below h pW.d.lt).cell 6; rw [this]; show some (Value.slice q.la q.ln q.lc) = _; rw [hla]
        have FR : ∀ u, Grows W u → u.rangeAt eb (eo + k * 2) [.int .i64 ya, .slice ep em eq] := fun u h => range2 ((Below.cell h (p := ⟨eb, eo + k * 2, none⟩) hlW).trans cxW) ((Below.cell h (p := ⟨eb, eo + k * 2 + 1, none⟩) hlW).trans cyW)
        clear hW kw b6 ow pb f0 f1 hB hlb cx cy l0 l1 l6
        refine regionE 8 (S := Grows W) (by kernel_rfl) (Below.refl _ W).drew ?_
        refine takeT 0 (some 91) (.pointer (some ⟨v2.heap.size, 6, none⟩)) rfl rfl (by kernel_rfl) (fun _ _ _ h => h) (ans_plain (by rfl) (fun w _ => by unfold execOp; go_simp)) ?_
        simp only [Act.put, List.setIfInBounds_toArray, List.set_cons_zero, List.set_cons_succ]
        refine takeT 1 (some 92) (.slice a n c') rfl rfl (by kernel_rfl) (fun _ _ _ h => h) (ans_plain (by rfl) (fun w h => by have hc := F6 w h; unfold execOp; go_simp)) ?_
        simp only [Act.put, List.setIfInBounds_toArray, List.set_cons_zero, List.set_cons_succ]
        refine takeT 2 (some 93) (.pointer (some ⟨w.heap.size, 6, none⟩)) rfl rfl (by kernel_rfl) (fun _ _ _ h => h) (ans_plain (by rfl) (fun w _ => by unfold execOp; go_simp)) ?_
        simp only [Act.put, List.setIfInBounds_toArray, List.set_cons_zero, List.set_cons_succ]
        refine takeT 3 (some 94) (.slice (some ⟨eb, eo, none⟩) q.ln q.lc) rfl rfl (by kernel_rfl) (fun _ _ _ h => h) (ans_plain (by rfl) (fun w h => by have hc := F0 w h; unfold execOp; go_simp)) ?_
        simp only [Act.put, List.setIfInBounds_toArray, List.set_cons_zero, List.set_cons_succ]
        refine takeT 4 (some 95) (.int .i64 (k : Int)) rfl rfl (by kernel_rfl) (fun _ _ _ h => h) (ans_plain (by rfl) (fun w _ => rfl)) ?_
        simp only [Act.put, List.setIfInBounds_toArray, List.set_cons_zero, List.set_cons_succ]
        refine takeT 5 (some 96) (.pointer (some ⟨eb, eo + k * 2, none⟩)) rfl rfl (by kernel_rfl) (fun _ _ _ h => h) (ans_plain (by rfl) (fun w _ => by unfold execOp; go_simp)) ?_
        simp only [Act.put, List.setIfInBounds_toArray, List.set_cons_zero, List.set_cons_succ]
        refine takeT 6 (some 97) (.agg #[.int .i64 ya, .slice ep em eq]) rfl rfl (by kernel_rfl) (fun _ _ _ h => h) (ans_row 118 (.tmp 96) _ 2 rfl (by rfl) eb (eo + k * 2) rfl [.int .i64 ya, .slice ep em eq] (fun w h => FR w h) Tryz.underlying118 rfl rfl (by kernel_rfl)) ?_
        simp only [Act.put, List.setIfInBounds_toArray, List.set_cons_zero, List.set_cons_succ]
        refine oneE 7 (by kernel_rfl) (by kernel_rfl) fun u3 hg3 hs3 => ?_
        refine opBSC (some 98) rfl rfl rfl (.tmp 97) rfl (.int .i64 ya) (.slice ep em eq) rfl ⟨Grows.trans hs3 (below_alloc _ _), ?_⟩
        simp only [Act.put, List.setIfInBounds_toArray, List.set_cons_zero, List.set_cons_succ]
        refine goE (by kernel_rfl) (by kernel_rfl) (by kernel_rfl) fun u4 hg4 hs4 => ?_
        have o4 := OwC.below oW hs4
        have h64 : v2.heap.size + 1 ≤ u4.heap.size := by have := b6W.lt; have := Below.size hs4; omega
        refine opApp1 (elC B) 2 32 39 118 _ Tryz.underlying39 infoC rfl (by decide) (by decide) u4 rfl rfl (some 99) rfl (.tmp 92) (.tmp 98) rfl (v2.heap.size + 1) (.slice a n c') _ rfl o4 u3.heap.size 1 (ya, yb) [.int .i64 ya, .slice ep em eq] rfl ((Blk.newAt u3 #[.int .i64 ya, .slice ep em eq] 118 u3.heap.size rfl _ rfl).below hg4 (by simp)).whole ⟨rfl, by intro u hu; simp at hu; rcases hu with rfl | rfl <;> rfl, ⟨ep, em, eq, rfl, hBW.below hs4, hyi⟩⟩ ?_ h64 ?_ ?_
        · have := List.length_filter_le (fun c => decide (c.1 ≠ at_)) (D.loose.take k)
          have := List.length_take_le k D.loose
          have := HLS.out
          omega
        · exact fun w' x vs hg hx => elC.grown hg (o4.not5 ne5) x vs hx
        intro v5 u5 o5 g5
        obtain ⟨a5, n5, c5, rfl, hn5⟩ := o5.shape
        simp only [Act.put, List.setIfInBounds_toArray, List.set_cons_zero, List.set_cons_succ]
        have q5 : Below (v2.heap.size + 1) u4 u5 := (Below.refl _ _).grown g5 h64 (fun k hk => (o4.lt k hk).1)
        refine takeP 9 (some 100) (.pointer (some ⟨v2.heap.size, 6, none⟩)) rfl rfl (by kernel_rfl) (fun _ _ _ h => h) (by rfl) (fun w => by unfold execOp; go_simp) ?_
        simp only [Act.put, List.setIfInBounds_toArray, List.set_cons_zero, List.set_cons_succ]
        refine thenE 10 (by kernel_rfl) (by kernel_rfl) fun u6 hg6 => ?_
        have b6X := (b6W.below hs4 b6W.lt).below q5 (by omega)
        have b6Y := b6X.below hg6 b6X.lt
        have k4 := kW.trans (Below.mono hs4 kW.size)
        have k5 := k4.trans (q5.mono (by omega))
        have k6 := k5.trans (Below.mono hg6 k5.size)
        refine opStC rfl rfl rfl (.tmp 100) (.tmp 99) rfl v2.heap.size 6 rfl a5 n5 c5 rfl _ _ b6Y (by simp [dc]) (endE (by kernel_rfl) fun u7 hg7 => ?_)
        have b6Z : Blk (u6.setCell ⟨v2.heap.size, 6, none⟩ (.slice a5 n5 c5)) v2.heap.size (dc D1 ⟨q1.sa, q1.sn, q1.sc, a5, n5, c5, q1.ta, q1.tn, q1.tc, q1.pa, q1.pn, q1.pq⟩) 42 := b6Y.setC 6 _
        have o7 := OwC.below (OwC.grown (OwC.below o5 hg6) (but_set u6 v2.heap.size 6 (.slice a5 n5 c5)) (by omega) (b6Y.not5 ne40)) hg7
        have b7 := b6Z.below hg7 b6Z.lt
        have k6b : Below v2.heap.size v2 (u6.setCell ⟨v2.heap.size, 6, none⟩ (.slice a5 n5 c5)) := k6.setCell (Nat.le_refl _) _
        have k7 := k6b.trans (Below.mono hg7 k6b.size)
        rw [← HF.out] at o7
        clear k6b k6 k5 k4 b6Z b6Y b6X hg6 q5 g5 o5 o4 hs4 hg4 hs3 hg3 FR F0 F6 cyW cxW hlW hBW pW oW b6W kW hg7
        go_wp2_with fail
        go_roundw
        case rel => exact ⟨k + 1, a5, n5, c5, by omega, by go_num, b7, o7, k7⟩
        case measure => simp [intOf]; omega
    · obtain rfl : k = q.ln := by omega
      have i0 : ¬ (q.ln : Int) < (q.ln : Int) := by omega
      rw [List.take_of_length_le (by rw [HLS.out]; exact Nat.le_refl _)] at ow
      have HL : Hid ((dc D1 ⟨q1.sa, q1.sn, q1.sc, a, n, c', q1.ta, q1.tn, q1.tc, q1.pa, q1.pn, q1.pq⟩).length = 10) := rfl
      obtain ⟨q2, hq2⟩ : ∃ q2 : Quad, q2 = ⟨q1.sa, q1.sn, q1.sc, a, n, c', q1.ta, q1.tn, q1.tc, q1.pa, q1.pn, q1.pq⟩ := ⟨_, rfl⟩
      have HRF : Hid (∀ u, Below v2.heap.size v2 u → OwS (elC B) 2 118 u (v2.heap.size + 1) (.slice a n c') (D.loose.filter (fun c => decide (c.1 ≠ at_))) → RD B u D2 q2) := fun u hu ho => by
        have hr := HR1.out.below hu
        rw [HD2.out, hq2]
        exact ⟨hr.safe, ho.sl3 (fun j hj _ => hnew.out j (by have := HB2.out.r.lt; omega)), hr.seen, hr.plot⟩
      have hdc : dc D1 ⟨q1.sa, q1.sn, q1.sc, a, n, c', q1.ta, q1.tn, q1.tc, q1.pa, q1.pn, q1.pq⟩ = dc D2 q2 := by rw [HD2.out, hq2]; rfl
      rw [hdc] at b6 HL
      clear hdc hq2
      go_wp2_with (first
        | ((with_reducible refine at_ld 42 ?_); go_must (refine ld 42 (.tmp 6) 10 size40 _ Tryz.underlying42 rfl v2.heap.size 0 (dc D2 q2) HL.out b6.whole rfl ?_))
        | ((with_reducible refine at_st 42 ?_); go_must (refine st' 42 (.tmp 4) (.tmp 101) 10 size40 (w.heap.size + 1 + 1) 0 (dc D2 q2) HL.out (dc_one _ _) (pb.r.there 0 10 (by simp [z40])) rfl rfl ?_); intro w8 hw8))
      have b8 : Blk w8 (w.heap.size + 1 + 1) (dc D2 q2) 42 := by rw [hw8]; exact pb.r.setsW _ rfl
      have hr2 : w.heap.size + 1 + 1 < v2.heap.size := HB2.out.r.lt
      have k8 : Below w.heap.size w w8 := by rw [hw8]; exact below_sets (by omega) _ pb.b 0
      have hg8 : wr.grownBy w8 (some (w.heap.size + 1 + 1)) := by rw [hw8]; exact but_cells _ _ _ _
      have hr8 : RD A w8 D2 q2 := ((HRF.out wr kw ow).keep hg8.size (fun j hj hb => hg8.block j hj (fun e => hn.out j hb (Option.some.inj e)))).mono (fun j _ hb => hm.out j hb)
      first | rw [← hw8] | skip
      exact bodyPost_ret (v := dv D2 q2) (results_cell_row Tryz.results23 _ _ (w.heap.size + 1 + 1) 42 (dc D2 q2).toArray (0, 0) _ rfl b8 Tryz.underlying42 rfl size40) rfl ⟨q2, rfl, hr8, k8⟩

set_option maxRecDepth 100000 in
set_option maxHeartbeats 8000000 in
theorem rPoke1 (w : World) {A : Nat → Prop} {D : DskS} {q : Quad} (h : RD A w D q) (hA : ∀ j, w.heap.size ≤ j → A j) (on at_ : Int) (bytes : List UInt8) (num : Int) {p : Option Addr} {m c : Nat} (hx : Bs w p m c bytes) (hi : i64 at_) (hnum : num ≤ 9223372036854775807) (hid : ¬ D.idle ⟨on, at_, 1, bytes, num⟩) (hz : D.safe.length + 1 ≤ 1000000) (hz2 : D.loose.length ≤ 1000000) :
    Calls Tryz.prog 23 #[dv D q, xv ⟨on, at_, 1, bytes, num⟩ p m c] w fun e w' => ∃ q', e = .returned (dv (D.poke ⟨on, at_, 1, bytes, num⟩) q') ∧ RD A w' (D.poke ⟨on, at_, 1, bytes, num⟩) q' ∧ Below w.heap.size w w' := by
  obtain ⟨D2, hD2⟩ : ∃ D2, D2 = D.poke ⟨on, at_, 1, bytes, num⟩ := ⟨_, rfl⟩
  rw [← hD2]
  unfold DskS.poke at hD2
  rw [if_neg hid] at hD2
  dsimp only at hD2
  have hid2 : 0 ≤ at_ ∧ at_ < D.n ∧ (0 < (1 : Int) → 0 ≤ num) ∧ ((1 : Int) = 1 → num < D.n) := by unfold DskS.idle at hid; dsimp only at hid; omega
  obtain ⟨j1, j2, j5, j6⟩ := hid2
  clear hid
  obtain ⟨B, hB'⟩ : ∃ B : Nat → Prop, B = fun j => A j ∧ j ≠ w.heap.size + 1 + 1 := ⟨_, rfl⟩
  have hm : Hid (∀ j, B j → A j) := fun j hj => by rw [hB'] at hj; exact hj.1
  have hn : Hid (∀ j, B j → j ≠ w.heap.size + 1 + 1) := fun j hj => by rw [hB'] at hj; exact hj.2
  have hnew : Hid (∀ j, w.heap.size + 1 + 1 < j → B j) := fun j hj => by rw [hB']; exact ⟨hA j (by omega), by omega⟩
  have hrB : RD B w D q := h.mono fun j hj ha => by rw [hB']; exact ⟨ha, by omega⟩
  clear hB'
  have HR : Hid (∀ u, Below w.heap.size w u → RD B u D q) := fun u hu => hrB.below hu
  have HLS : Hid (D.loose.length = q.ln) := h.loose.len
  have hbb : D.bytesOf ⟨on, at_, 1, bytes, num⟩ = D.look num := rfl
  have CL : Hid (∀ u, Below w.heap.size w u → w.heap.size + 1 + 1 < u.heap.size → Calls Tryz.prog 31 #[dv D q, .int .i64 num] u fun e w' => ∃ p m c, e = .returned (.slice p m c) ∧ Bs w' p m c (D.look num) ∧ Below u.heap.size u w') := fun u hu hs => (rLook u (HR.out u hu) (fun j hj => hnew.out j (by omega)) num (by omega) hz2).mono fun e w' ⟨p, m, c, he, hb, hw⟩ => ⟨p, m, c, he, hb.bs, hw⟩
  rw [hbb] at hD2
  clear hbb
  have CTT : Hid (∀ u a m c, Below w.heap.size w u → w.heap.size + 1 + 1 < u.heap.size → Bs u a m c (D.look num) → Calls Tryz.prog 50 #[dv D q, .int .i64 at_, .slice a m c] u fun e w' => ∃ q', e = .returned (dv (D.settle at_ (D.look num)) q') ∧ RD B w' (D.settle at_ (D.look num)) q' ∧ Below u.heap.size u w') := fun u a m c hu hs hb => rSettle u (HR.out u hu) (fun j hj => hnew.out j (by omega)) at_ hi hb hz
  have HX : Hid (∀ u, Below w.heap.size w u → Bs u p m c bytes) := fun u hu => hx.below hu (Nat.le_refl _)
  have HSL : Hid (∀ u, Below w.heap.size w u → Sl (elC B) 2 B u q.la q.ln q.lc D.loose) := fun u hu => (HR.out u hu).loose
  have HD2 : Hid (D2 = { D.settle at_ (D.look num) with loose := D.loose.filter fun c => decide (c.1 ≠ at_) }) := hD2
  clear hD2 h hx
  obtain ⟨D1, hD1⟩ : ∃ D1, D1 = D.settle at_ (D.look num) := ⟨_, rfl⟩
  rw [← hD1] at CTT HD2
  clear hD1
  have b0 : PkB w (((w.alloc (.cells #[.int .i64 (D.p.steps : Int), .int .i64 D.p.fuse, .bool D.p.done, .bool D.p.down, .int .i64 D.n, .slice q.sa q.sn q.sc, .slice q.la q.ln q.lc, .slice q.ta q.tn q.tc, .slice q.pa q.pn q.pq, .int .i64 (D.steps : Int)] 42)).alloc (.cells #[.int .i64 on, .int .i64 at_, .int .i64 1, .slice p m c, .int .i64 num] 28)).alloc (.cells #[.int .i64 0, .int .i64 0, .bool false, .bool false, .int .i64 0, .slice none 0 0, .slice none 0 0, .slice none 0 0, .slice none 0 0, .int .i64 0] 42)) D q ⟨on, at_, 1, bytes, num⟩ p m c :=
    ⟨((Blk.newAt w _ _ w.heap.size rfl _ rfl).old _).old _, (Blk.newAt (w.alloc _) _ _ (w.heap.size + 1) (by simp) _ rfl).old _, Blk.newAt ((w.alloc _).alloc _) _ _ (w.heap.size + 1 + 1) (by simp) _ rfl, below3 _ _ _ _⟩
  have n1 : ¬ at_ < 0 := by omega
  have n2 : ¬ D.n ≤ at_ := by omega
  have n3 : ¬ num < 0 := by have := j5 (by omega); omega
  have n4 : ¬ D.n ≤ num := by have := j6 rfl; omega
  have hdv : dv D q = .agg #[.int .i64 (D.p.steps : Int), .int .i64 D.p.fuse, .bool D.p.done, .bool D.p.down, .int .i64 D.n, .slice q.sa q.sn q.sc, .slice q.la q.ln q.lc, .slice q.ta q.tn q.tc, .slice q.pa q.pn q.pq, .int .i64 (D.steps : Int)] := rfl
  rw [hdv]
  clear j5 j6
  unfold xv
  dsimp only
  go_enter Tryz.func23, Tryz.ntmps23
  go_wp2_with fail
  refine (CL.out _ b0.b b0.r.lt).mono ?_
  rintro e v1 ⟨p1, m1, c1, rfl, kB, hv1⟩
  have hb1 := b0.below hv1
  clear b0 hv1
  have d1 : v1.cell? ⟨w.heap.size + 1, 1, none⟩ = some (.int .i64 at_) := hb1.x.cell 1
  have d2 : v1.cell? ⟨w.heap.size + 1, 2, none⟩ = some (.int .i64 1) := hb1.x.cell 2
  have lx := hb1.x.lt
  have ld0 := hb1.d.lt
  go_wp2_with (with_reducible refine at_ld 42 ?_; refine ld 42 (.tmp 2) 10 size40 _ Tryz.underlying42 rfl w.heap.size 0 (dc D q) rfl hb1.d.whole rfl ?_)
  refine (CTT.out _ _ _ _ hb1.b hb1.r.lt kB).mono ?_
  rintro e v2 ⟨q1, rfl, hr1, hv2⟩
  have hb2 := hb1.below hv2
  have z6B : Blk (v2.alloc (.cells #[.int .i64 0, .int .i64 0, .bool false, .bool false, .int .i64 0, .slice none 0 0, .slice none 0 0, .slice none 0 0, .slice none 0 0, .int .i64 0] 42)) v2.heap.size z40 42 := Blk.newAt v2 _ _ v2.heap.size rfl _ rfl
  have k6 : Below v2.heap.size v2 (v2.alloc (.cells #[.int .i64 0, .int .i64 0, .bool false, .bool false, .int .i64 0, .slice none 0 0, .slice none 0 0, .slice none 0 0, .slice none 0 0, .int .i64 0] 42)) := below_alloc _ _
  clear kB hb1 hv2
  unfold dv
  go_wp2_with ((with_reducible refine at_st 42 ?_); go_must (refine st' 42 (.tmp 6) (.tmp 73) 10 size40 v2.heap.size 0 (dc D1 q1) rfl (dc_one _ _) (z6B.there 0 10 (by simp [z40])) rfl rfl ?_); intro v3 hv3; have b6 : Blk v3 v2.heap.size (dc D1 q1) 42 := (by rw [hv3]; exact z6B.setsW _ rfl); have k3 : Below v2.heap.size v2 v3 := (by rw [hv3]; exact below_sets (Nat.le_refl _) _ k6 0); clear hv3; have c6 : v3.cell? ⟨v2.heap.size, 6, none⟩ = some (.slice q1.la q1.ln q1.lc) := b6.cell 6; have y6 := b6.free 6; have l6 := b6.lt)
  obtain ⟨W, hW⟩ : ∃ W, W = v3.setCell ⟨v2.heap.size, 6, none⟩ (.slice none 0 0) := ⟨_, rfl⟩
  rw [← hW]
  have b6W : Blk W v2.heap.size (dc D1 ⟨q1.sa, q1.sn, q1.sc, none, 0, 0, q1.ta, q1.tn, q1.tc, q1.pa, q1.pn, q1.pq⟩) 42 := by rw [hW]; exact b6.setC 6 _
  have kW : Below v2.heap.size v2 W := by rw [hW]; exact k3.setCell (Nat.le_refl _) _
  clear hW c6 y6 l6 b6 k3 z6B k6
  have hb6 := hb2.below kW
  have HB2 : Hid (PkB w v2 D q ⟨on, at_, 1, bytes, num⟩ p m c) := hb2
  have HR1 : Hid (RD B v2 D1 q1) := hr1
  clear hb2 hr1
  go_loopw [7] (fun i wr => ∃ (k : Nat) (a : Option Addr) (n c' : Nat), k ≤ q.ln ∧ i = .int .i64 (k : Int) ∧ Blk wr v2.heap.size (dc D1 ⟨q1.sa, q1.sn, q1.sc, a, n, c', q1.ta, q1.tn, q1.tc, q1.pa, q1.pn, q1.pq⟩) 42 ∧ OwS (elC B) 2 118 wr (v2.heap.size + 1) (.slice a n c') ((D.loose.take k).filter (fun c => decide (c.1 ≠ at_))) ∧ Below v2.heap.size v2 wr) (fun i _ => q.ln - (intOf i).toNat)
  case atStart => exact ⟨0, none, 0, 0, Nat.zero_le _, rfl, b6W, by simpa using OwS.nil _ _ _ _ _, kW⟩
  case round =>
    clear b6W kW hb6
    obtain ⟨k, a, n, c', hk, rfl, b6, ow, kw⟩ := hrel
    have pb := HB2.out.below kw
    have f0 : wr.cell? ⟨w.heap.size, 6, none⟩ = some (.slice q.la q.ln q.lc) := pb.d.cell 6
    have f1 : wr.cell? ⟨w.heap.size + 1, 1, none⟩ = some (.int .i64 at_) := pb.x.cell 1
    have l0 := pb.d.lt
    have l1 := pb.x.lt
    have l6 := b6.lt
    have hln : q.ln ≤ 1000000 := by have := HLS.out; omega
    by_cases hlt : k < q.ln
    · have i0 : (k : Int) < (q.ln : Int) := by omega
      obtain ⟨y, hy⟩ : ∃ y, D.loose[k]? = some y := ⟨_, List.getElem?_eq_getElem (by rw [HLS.out]; exact hlt)⟩
      obtain ⟨eb, eo, ep, em, eq, hla, hlb, cx, cy, hB, hyi⟩ := (HSL.out wr pb.b).change hy
      rw [hla] at f0
      have i3 : (0 : Int) ≤ (k : Int) := by omega
      obtain ⟨ya, yb⟩ := y
      dsimp only at cx cy hB hyi
      by_cases hya : ya = at_
      · subst hya
        have HF : Hid ((D.loose.take (k + 1)).filter (fun c => decide (c.1 ≠ ya)) = (D.loose.take k).filter (fun c => decide (c.1 ≠ ya))) := by show _ = _; rw [List.take_add_one, hy, List.filter_append]; simp
        have j0 : (ya != ya) = false := by simp
        go_wp2_with fail
        go_quiet (fail)
        go_wp2_with fail
        go_roundw
        case rel => exact ⟨k + 1, a, n, c', by omega, by go_num, b6, by rw [HF.out]; exact ow, below_drN kw nq⟩
        case measure => simp [intOf]; omega
      · have HF : Hid ((D.loose.take (k + 1)).filter (fun c => decide (c.1 ≠ at_)) = (D.loose.take k).filter (fun c => decide (c.1 ≠ at_)) ++ [(ya, yb)]) := by show _ = _; rw [List.take_add_one, hy, List.filter_append]; simp [hya]
        have j0 : (ya != at_) = true := by simp [hya]
        go_wp2_with fail
        go_quiet (fail)
        go_wp2_with fail
        obtain ⟨W, hW⟩ : ∃ W, W = wr.drewN nq := ⟨_, rfl⟩
        rw [← hW]
        have kW : Below v2.heap.size v2 W := by rw [hW]; exact below_drN kw nq
        have b6W : Blk W v2.heap.size (dc D1 ⟨q1.sa, q1.sn, q1.sc, a, n, c', q1.ta, q1.tn, q1.tc, q1.pa, q1.pn, q1.pq⟩) 42 := by rw [hW]; exact b6
        have oW : OwS (elC B) 2 118 W (v2.heap.size + 1) (.slice a n c') ((D.loose.take k).filter (fun c => decide (c.1 ≠ at_))) := by rw [hW]; exact ow
        have pW := HB2.out.below kW
        have hBW : B5 B W ep em eq yb := by rw [hW]; exact hB
        have hlW : eb < W.heap.size := by rw [hW]; exact hlb
        have cxW : W.cell? ⟨eb, eo + k * 2, none⟩ = some (.int .i64 ya) := by rw [hW]; exact cx
        have cyW : W.cell? ⟨eb, eo + k * 2 + 1, none⟩ = some (.slice ep em eq) := by rw [hW]; exact cy
        have F6 : ∀ u, Grows W u → u.cell? ⟨v2.heap.size, 6, none⟩ = some (.slice a n c') := fun u h => (b6W.below h b6W.lt).cell 6
        have F0 : ∀ u, Grows W u → u.cell? ⟨w.heap.size, 6, none⟩ = some (.slice (some ⟨eb, eo, none⟩) q.ln q.lc) := fun u h => by have := (pW.d.below h pW.d.lt).cell 6; rw [this]; show some (Value.slice q.la q.ln q.lc) = _; rw [hla]
        have FR : ∀ u, Grows W u → u.rangeAt eb (eo + k * 2) [.int .i64 ya, .slice ep em eq] := fun u h => range2 ((Below.cell h (p := ⟨eb, eo + k * 2, none⟩) hlW).trans cxW) ((Below.cell h (p := ⟨eb, eo + k * 2 + 1, none⟩) hlW).trans cyW)
        clear hW kw b6 ow pb f0 f1 hB hlb cx cy l0 l1 l6
        refine regionE 8 (S := Grows W) (by kernel_rfl) (Below.refl _ W).drew ?_
        refine takeT 0 (some 91) (.pointer (some ⟨v2.heap.size, 6, none⟩)) rfl rfl (by kernel_rfl) (fun _ _ _ h => h) (ans_plain (by rfl) (fun w _ => by unfold execOp; go_simp)) ?_
        simp only [Act.put, List.setIfInBounds_toArray, List.set_cons_zero, List.set_cons_succ]
        refine takeT 1 (some 92) (.slice a n c') rfl rfl (by kernel_rfl) (fun _ _ _ h => h) (ans_plain (by rfl) (fun w h => by have hc := F6 w h; unfold execOp; go_simp)) ?_
        simp only [Act.put, List.setIfInBounds_toArray, List.set_cons_zero, List.set_cons_succ]
        refine takeT 2 (some 93) (.pointer (some ⟨w.heap.size, 6, none⟩)) rfl rfl (by kernel_rfl) (fun _ _ _ h => h) (ans_plain (by rfl) (fun w _ => by unfold execOp; go_simp)) ?_
        simp only [Act.put, List.setIfInBounds_toArray, List.set_cons_zero, List.set_cons_succ]
        refine takeT 3 (some 94) (.slice (some ⟨eb, eo, none⟩) q.ln q.lc) rfl rfl (by kernel_rfl) (fun _ _ _ h => h) (ans_plain (by rfl) (fun w h => by have hc := F0 w h; unfold execOp; go_simp)) ?_
        simp only [Act.put, List.setIfInBounds_toArray, List.set_cons_zero, List.set_cons_succ]
        refine takeT 4 (some 95) (.int .i64 (k : Int)) rfl rfl (by kernel_rfl) (fun _ _ _ h => h) (ans_plain (by rfl) (fun w _ => rfl)) ?_
        simp only [Act.put, List.setIfInBounds_toArray, List.set_cons_zero, List.set_cons_succ]
        refine takeT 5 (some 96) (.pointer (some ⟨eb, eo + k * 2, none⟩)) rfl rfl (by kernel_rfl) (fun _ _ _ h => h) (ans_plain (by rfl) (fun w _ => by unfold execOp; go_simp)) ?_
        simp only [Act.put, List.setIfInBounds_toArray, List.set_cons_zero, List.set_cons_succ]
        refine takeT 6 (some 97) (.agg #[.int .i64 ya, .slice ep em eq]) rfl rfl (by kernel_rfl) (fun _ _ _ h => h) (ans_row 118 (.tmp 96) _ 2 rfl (by rfl) eb (eo + k * 2) rfl [.int .i64 ya, .slice ep em eq] (fun w h => FR w h) Tryz.underlying118 rfl rfl (by kernel_rfl)) ?_
        simp only [Act.put, List.setIfInBounds_toArray, List.set_cons_zero, List.set_cons_succ]
        refine oneE 7 (by kernel_rfl) (by kernel_rfl) fun u3 hg3 hs3 => ?_
        refine opBSC (some 98) rfl rfl rfl (.tmp 97) rfl (.int .i64 ya) (.slice ep em eq) rfl ⟨Grows.trans hs3 (below_alloc _ _), ?_⟩
        simp only [Act.put, List.setIfInBounds_toArray, List.set_cons_zero, List.set_cons_succ]
        refine goE (by kernel_rfl) (by kernel_rfl) (by kernel_rfl) fun u4 hg4 hs4 => ?_
        have o4 := OwC.below oW hs4
        have h64 : v2.heap.size + 1 ≤ u4.heap.size := by have := b6W.lt; have := Below.size hs4; omega
        refine opApp1 (elC B) 2 32 39 118 _ Tryz.underlying39 infoC rfl (by decide) (by decide) u4 rfl rfl (some 99) rfl (.tmp 92) (.tmp 98) rfl (v2.heap.size + 1) (.slice a n c') _ rfl o4 u3.heap.size 1 (ya, yb) [.int .i64 ya, .slice ep em eq] rfl ((Blk.newAt u3 #[.int .i64 ya, .slice ep em eq] 118 u3.heap.size rfl _ rfl).below hg4 (by simp)).whole ⟨rfl, by intro u hu; simp at hu; rcases hu with rfl | rfl <;> rfl, ⟨ep, em, eq, rfl, hBW.below hs4, hyi⟩⟩ ?_ h64 ?_ ?_
        · have := List.length_filter_le (fun c => decide (c.1 ≠ at_)) (D.loose.take k)
          have := List.length_take_le k D.loose
          have := HLS.out
          omega
        · exact fun w' x vs hg hx => elC.grown hg (o4.not5 ne5) x vs hx
        intro v5 u5 o5 g5
        obtain ⟨a5, n5, c5, rfl, hn5⟩ := o5.shape
        simp only [Act.put, List.setIfInBounds_toArray, List.set_cons_zero, List.set_cons_succ]
        have q5 : Below (v2.heap.size + 1) u4 u5 := (Below.refl _ _).grown g5 h64 (fun k hk => (o4.lt k hk).1)
        refine takeP 9 (some 100) (.pointer (some ⟨v2.heap.size, 6, none⟩)) rfl rfl (by kernel_rfl) (fun _ _ _ h => h) (by rfl) (fun w => by unfold execOp; go_simp) ?_
        simp only [Act.put, List.setIfInBounds_toArray, List.set_cons_zero, List.set_cons_succ]
        refine thenE 10 (by kernel_rfl) (by kernel_rfl) fun u6 hg6 => ?_
        have b6X := (b6W.below hs4 b6W.lt).below q5 (by omega)
        have b6Y := b6X.below hg6 b6X.lt
        have k4 := kW.trans (Below.mono hs4 kW.size)
        have k5 := k4.trans (q5.mono (by omega))
        have k6 := k5.trans (Below.mono hg6 k5.size)
        refine opStC rfl rfl rfl (.tmp 100) (.tmp 99) rfl v2.heap.size 6 rfl a5 n5 c5 rfl _ _ b6Y (by simp [dc]) (endE (by kernel_rfl) fun u7 hg7 => ?_)
        have b6Z : Blk (u6.setCell ⟨v2.heap.size, 6, none⟩ (.slice a5 n5 c5)) v2.heap.size (dc D1 ⟨q1.sa, q1.sn, q1.sc, a5, n5, c5, q1.ta, q1.tn, q1.tc, q1.pa, q1.pn, q1.pq⟩) 42 := b6Y.setC 6 _
        have o7 := OwC.below (OwC.grown (OwC.below o5 hg6) (but_set u6 v2.heap.size 6 (.slice a5 n5 c5)) (by omega) (b6Y.not5 ne40)) hg7
        have b7 := b6Z.below hg7 b6Z.lt
        have k6b : Below v2.heap.size v2 (u6.setCell ⟨v2.heap.size, 6, none⟩ (.slice a5 n5 c5)) := k6.setCell (Nat.le_refl _) _
        have k7 := k6b.trans (Below.mono hg7 k6b.size)
        rw [← HF.out] at o7
        clear k6b k6 k5 k4 b6Z b6Y b6X hg6 q5 g5 o5 o4 hs4 hg4 hs3 hg3 FR F0 F6 cyW cxW hlW hBW pW oW b6W kW hg7
        go_wp2_with fail
        go_roundw
        case rel => exact ⟨k + 1, a5, n5, c5, by omega, by go_num, b7, o7, k7⟩
        case measure => simp [intOf]; omega
    · obtain rfl : k = q.ln := by omega
      have i0 : ¬ (q.ln : Int) < (q.ln : Int) := by omega
      rw [List.take_of_length_le (by rw [HLS.out]; exact Nat.le_refl _)] at ow
      have HL : Hid ((dc D1 ⟨q1.sa, q1.sn, q1.sc, a, n, c', q1.ta, q1.tn, q1.tc, q1.pa, q1.pn, q1.pq⟩).length = 10) := rfl
      obtain ⟨q2, hq2⟩ : ∃ q2 : Quad, q2 = ⟨q1.sa, q1.sn, q1.sc, a, n, c', q1.ta, q1.tn, q1.tc, q1.pa, q1.pn, q1.pq⟩ := ⟨_, rfl⟩
      have HRF : Hid (∀ u, Below v2.heap.size v2 u → OwS (elC B) 2 118 u (v2.heap.size + 1) (.slice a n c') (D.loose.filter (fun c => decide (c.1 ≠ at_))) → RD B u D2 q2) := fun u hu ho => by
        have hr := HR1.out.below hu
        rw [HD2.out, hq2]
        exact ⟨hr.safe, ho.sl3 (fun j hj _ => hnew.out j (by have := HB2.out.r.lt; omega)), hr.seen, hr.plot⟩
      have hdc : dc D1 ⟨q1.sa, q1.sn, q1.sc, a, n, c', q1.ta, q1.tn, q1.tc, q1.pa, q1.pn, q1.pq⟩ = dc D2 q2 := by rw [HD2.out, hq2]; rfl
      rw [hdc] at b6 HL
      clear hdc hq2
      go_wp2_with (first
        | ((with_reducible refine at_ld 42 ?_); go_must (refine ld 42 (.tmp 6) 10 size40 _ Tryz.underlying42 rfl v2.heap.size 0 (dc D2 q2) HL.out b6.whole rfl ?_))
        | ((with_reducible refine at_st 42 ?_); go_must (refine st' 42 (.tmp 4) (.tmp 101) 10 size40 (w.heap.size + 1 + 1) 0 (dc D2 q2) HL.out (dc_one _ _) (pb.r.there 0 10 (by simp [z40])) rfl rfl ?_); intro w8 hw8))
      have b8 : Blk w8 (w.heap.size + 1 + 1) (dc D2 q2) 42 := by rw [hw8]; exact pb.r.setsW _ rfl
      have hr2 : w.heap.size + 1 + 1 < v2.heap.size := HB2.out.r.lt
      have k8 : Below w.heap.size w w8 := by rw [hw8]; exact below_sets (by omega) _ pb.b 0
      have hg8 : wr.grownBy w8 (some (w.heap.size + 1 + 1)) := by rw [hw8]; exact but_cells _ _ _ _
      have hr8 : RD A w8 D2 q2 := ((HRF.out wr kw ow).keep hg8.size (fun j hj hb => hg8.block j hj (fun e => hn.out j hb (Option.some.inj e)))).mono (fun j _ hb => hm.out j hb)
      first | rw [← hw8] | skip
      exact bodyPost_ret (v := dv D2 q2) (results_cell_row Tryz.results23 _ _ (w.heap.size + 1 + 1) 42 (dc D2 q2).toArray (0, 0) _ rfl b8 Tryz.underlying42 rfl size40) rfl ⟨q2, rfl, hr8, k8⟩

set_option maxRecDepth 100000 in
set_option maxHeartbeats 8000000 in
theorem rPoke2 (w : World) {A : Nat → Prop} {D : DskS} {q : Quad} (h : RD A w D q) (hA : ∀ j, w.heap.size ≤ j → A j) (on at_ : Int) (bytes : List UInt8) (num : Int) {p : Option Addr} {m c : Nat} (hx : Bs w p m c bytes) (hi : i64 at_) (hnum : num ≤ 9223372036854775807) (hid : ¬ D.idle ⟨on, at_, 2, bytes, num⟩) (hz : D.safe.length + 1 ≤ 1000000) (hz2 : D.loose.length ≤ 1000000) :
    Calls Tryz.prog 23 #[dv D q, xv ⟨on, at_, 2, bytes, num⟩ p m c] w fun e w' => ∃ q', e = .returned (dv (D.poke ⟨on, at_, 2, bytes, num⟩) q') ∧ RD A w' (D.poke ⟨on, at_, 2, bytes, num⟩) q' ∧ Below w.heap.size w w' := by
  obtain ⟨D2, hD2⟩ : ∃ D2, D2 = D.poke ⟨on, at_, 2, bytes, num⟩ := ⟨_, rfl⟩
  rw [← hD2]
  unfold DskS.poke at hD2
  rw [if_neg hid] at hD2
  dsimp only at hD2
  have hid2 : 0 ≤ at_ ∧ at_ < D.n ∧ (0 < (2 : Int) → 0 ≤ num) ∧ ((2 : Int) = 1 → num < D.n) := by unfold DskS.idle at hid; dsimp only at hid; omega
  obtain ⟨j1, j2, j5, j6⟩ := hid2
  clear hid
  obtain ⟨B, hB'⟩ : ∃ B : Nat → Prop, B = fun j => A j ∧ j ≠ w.heap.size + 1 + 1 := ⟨_, rfl⟩
  have hm : Hid (∀ j, B j → A j) := fun j hj => by rw [hB'] at hj; exact hj.1
  have hn : Hid (∀ j, B j → j ≠ w.heap.size + 1 + 1) := fun j hj => by rw [hB'] at hj; exact hj.2
  have hnew : Hid (∀ j, w.heap.size + 1 + 1 < j → B j) := fun j hj => by rw [hB']; exact ⟨hA j (by omega), by omega⟩
  have hrB : RD B w D q := h.mono fun j hj ha => by rw [hB']; exact ⟨ha, by omega⟩
  clear hB'
  have HR : Hid (∀ u, Below w.heap.size w u → RD B u D q) := fun u hu => hrB.below hu
  have HLS : Hid (D.loose.length = q.ln) := h.loose.len
  have hbb : D.bytesOf ⟨on, at_, 2, bytes, num⟩ = D.ago at_ num.toNat := rfl
  have CL : Hid (∀ u, Below w.heap.size w u → w.heap.size + 1 + 1 < u.heap.size → Calls Tryz.prog 55 #[dv D q, .int .i64 at_, .int .i64 num] u fun e w' => ∃ p m c, e = .returned (.slice p m c) ∧ Bs w' p m c (D.ago at_ num.toNat) ∧ Below u.heap.size u w') := fun u hu hs => by
    have hn0 := j5 (by omega)
    have := rSafe u (HR.out u hu) (fun j hj => hnew.out j (by omega)) at_ num.toNat (by omega) (by omega)
    rw [show ((num.toNat : Nat) : Int) = num from by omega] at this
    exact this.mono fun e w' ⟨p, m, c, he, hb, hw⟩ => ⟨p, m, c, he, hb.bs, hw⟩
  rw [hbb] at hD2
  clear hbb
  have CTT : Hid (∀ u a m c, Below w.heap.size w u → w.heap.size + 1 + 1 < u.heap.size → Bs u a m c (D.ago at_ num.toNat) → Calls Tryz.prog 50 #[dv D q, .int .i64 at_, .slice a m c] u fun e w' => ∃ q', e = .returned (dv (D.settle at_ (D.ago at_ num.toNat)) q') ∧ RD B w' (D.settle at_ (D.ago at_ num.toNat)) q' ∧ Below u.heap.size u w') := fun u a m c hu hs hb => rSettle u (HR.out u hu) (fun j hj => hnew.out j (by omega)) at_ hi hb hz
  have HX : Hid (∀ u, Below w.heap.size w u → Bs u p m c bytes) := fun u hu => hx.below hu (Nat.le_refl _)
  have HSL : Hid (∀ u, Below w.heap.size w u → Sl (elC B) 2 B u q.la q.ln q.lc D.loose) := fun u hu => (HR.out u hu).loose
  have HD2 : Hid (D2 = { D.settle at_ (D.ago at_ num.toNat) with loose := D.loose.filter fun c => decide (c.1 ≠ at_) }) := hD2
  clear hD2 h hx
  obtain ⟨D1, hD1⟩ : ∃ D1, D1 = D.settle at_ (D.ago at_ num.toNat) := ⟨_, rfl⟩
  rw [← hD1] at CTT HD2
  clear hD1
  have b0 : PkB w (((w.alloc (.cells #[.int .i64 (D.p.steps : Int), .int .i64 D.p.fuse, .bool D.p.done, .bool D.p.down, .int .i64 D.n, .slice q.sa q.sn q.sc, .slice q.la q.ln q.lc, .slice q.ta q.tn q.tc, .slice q.pa q.pn q.pq, .int .i64 (D.steps : Int)] 42)).alloc (.cells #[.int .i64 on, .int .i64 at_, .int .i64 2, .slice p m c, .int .i64 num] 28)).alloc (.cells #[.int .i64 0, .int .i64 0, .bool false, .bool false, .int .i64 0, .slice none 0 0, .slice none 0 0, .slice none 0 0, .slice none 0 0, .int .i64 0] 42)) D q ⟨on, at_, 2, bytes, num⟩ p m c :=
    ⟨((Blk.newAt w _ _ w.heap.size rfl _ rfl).old _).old _, (Blk.newAt (w.alloc _) _ _ (w.heap.size + 1) (by simp) _ rfl).old _, Blk.newAt ((w.alloc _).alloc _) _ _ (w.heap.size + 1 + 1) (by simp) _ rfl, below3 _ _ _ _⟩
  have n1 : ¬ at_ < 0 := by omega
  have n2 : ¬ D.n ≤ at_ := by omega
  have n3 : ¬ num < 0 := by have := j5 (by omega); omega
  have hdv : dv D q = .agg #[.int .i64 (D.p.steps : Int), .int .i64 D.p.fuse, .bool D.p.done, .bool D.p.down, .int .i64 D.n, .slice q.sa q.sn q.sc, .slice q.la q.ln q.lc, .slice q.ta q.tn q.tc, .slice q.pa q.pn q.pq, .int .i64 (D.steps : Int)] := rfl
  rw [hdv]
  clear j5 j6
  unfold xv
  dsimp only
  go_enter Tryz.func23, Tryz.ntmps23
  go_wp2_with fail
  refine (CL.out _ b0.b b0.r.lt).mono ?_
  rintro e v1 ⟨p1, m1, c1, rfl, kB, hv1⟩
  have hb1 := b0.below hv1
  clear b0 hv1
  have d1 : v1.cell? ⟨w.heap.size + 1, 1, none⟩ = some (.int .i64 at_) := hb1.x.cell 1
  have d2 : v1.cell? ⟨w.heap.size + 1, 2, none⟩ = some (.int .i64 2) := hb1.x.cell 2
  have lx := hb1.x.lt
  have ld0 := hb1.d.lt
  go_wp2_with (with_reducible refine at_ld 42 ?_; refine ld 42 (.tmp 2) 10 size40 _ Tryz.underlying42 rfl w.heap.size 0 (dc D q) rfl hb1.d.whole rfl ?_)
  refine (CTT.out _ _ _ _ hb1.b hb1.r.lt kB).mono ?_
  rintro e v2 ⟨q1, rfl, hr1, hv2⟩
  have hb2 := hb1.below hv2
  have z6B : Blk (v2.alloc (.cells #[.int .i64 0, .int .i64 0, .bool false, .bool false, .int .i64 0, .slice none 0 0, .slice none 0 0, .slice none 0 0, .slice none 0 0, .int .i64 0] 42)) v2.heap.size z40 42 := Blk.newAt v2 _ _ v2.heap.size rfl _ rfl
  have k6 : Below v2.heap.size v2 (v2.alloc (.cells #[.int .i64 0, .int .i64 0, .bool false, .bool false, .int .i64 0, .slice none 0 0, .slice none 0 0, .slice none 0 0, .slice none 0 0, .int .i64 0] 42)) := below_alloc _ _
  clear kB hb1 hv2
  unfold dv
  go_wp2_with ((with_reducible refine at_st 42 ?_); go_must (refine st' 42 (.tmp 6) (.tmp 73) 10 size40 v2.heap.size 0 (dc D1 q1) rfl (dc_one _ _) (z6B.there 0 10 (by simp [z40])) rfl rfl ?_); intro v3 hv3; have b6 : Blk v3 v2.heap.size (dc D1 q1) 42 := (by rw [hv3]; exact z6B.setsW _ rfl); have k3 : Below v2.heap.size v2 v3 := (by rw [hv3]; exact below_sets (Nat.le_refl _) _ k6 0); clear hv3; have c6 : v3.cell? ⟨v2.heap.size, 6, none⟩ = some (.slice q1.la q1.ln q1.lc) := b6.cell 6; have y6 := b6.free 6; have l6 := b6.lt)
  obtain ⟨W, hW⟩ : ∃ W, W = v3.setCell ⟨v2.heap.size, 6, none⟩ (.slice none 0 0) := ⟨_, rfl⟩
  rw [← hW]
  have b6W : Blk W v2.heap.size (dc D1 ⟨q1.sa, q1.sn, q1.sc, none, 0, 0, q1.ta, q1.tn, q1.tc, q1.pa, q1.pn, q1.pq⟩) 42 := by rw [hW]; exact b6.setC 6 _
  have kW : Below v2.heap.size v2 W := by rw [hW]; exact k3.setCell (Nat.le_refl _) _
  clear hW c6 y6 l6 b6 k3 z6B k6
  have hb6 := hb2.below kW
  have HB2 : Hid (PkB w v2 D q ⟨on, at_, 2, bytes, num⟩ p m c) := hb2
  have HR1 : Hid (RD B v2 D1 q1) := hr1
  clear hb2 hr1
  go_loopw [7] (fun i wr => ∃ (k : Nat) (a : Option Addr) (n c' : Nat), k ≤ q.ln ∧ i = .int .i64 (k : Int) ∧ Blk wr v2.heap.size (dc D1 ⟨q1.sa, q1.sn, q1.sc, a, n, c', q1.ta, q1.tn, q1.tc, q1.pa, q1.pn, q1.pq⟩) 42 ∧ OwS (elC B) 2 118 wr (v2.heap.size + 1) (.slice a n c') ((D.loose.take k).filter (fun c => decide (c.1 ≠ at_))) ∧ Below v2.heap.size v2 wr) (fun i _ => q.ln - (intOf i).toNat)
  case atStart => exact ⟨0, none, 0, 0, Nat.zero_le _, rfl, b6W, by simpa using OwS.nil _ _ _ _ _, kW⟩
  case round =>
    clear b6W kW hb6
    obtain ⟨k, a, n, c', hk, rfl, b6, ow, kw⟩ := hrel
    have pb := HB2.out.below kw
    have f0 : wr.cell? ⟨w.heap.size, 6, none⟩ = some (.slice q.la q.ln q.lc) := pb.d.cell 6
    have f1 : wr.cell? ⟨w.heap.size + 1, 1, none⟩ = some (.int .i64 at_) := pb.x.cell 1
    have l0 := pb.d.lt
    have l1 := pb.x.lt
    have l6 := b6.lt
    have hln : q.ln ≤ 1000000 := by have := HLS.out; omega
    by_cases hlt : k < q.ln
    · have i0 : (k : Int) < (q.ln : Int) := by omega
      obtain ⟨y, hy⟩ : ∃ y, D.loose[k]? = some y := ⟨_, List.getElem?_eq_getElem (by rw [HLS.out]; exact hlt)⟩
      obtain ⟨eb, eo, ep, em, eq, hla, hlb, cx, cy, hB, hyi⟩ := (HSL.out wr pb.b).change hy
      rw [hla] at f0
      have i3 : (0 : Int) ≤ (k : Int) := by omega
      obtain ⟨ya, yb⟩ := y
      dsimp only at cx cy hB hyi
      by_cases hya : ya = at_
      · subst hya
        have HF : Hid ((D.loose.take (k + 1)).filter (fun c => decide (c.1 ≠ ya)) = (D.loose.take k).filter (fun c => decide (c.1 ≠ ya))) := by show _ = _; rw [List.take_add_one, hy, List.filter_append]; simp
        have j0 : (ya != ya) = false := by simp
        go_wp2_with fail
        go_quiet (fail)
        go_wp2_with fail
        go_roundw
        case rel => exact ⟨k + 1, a, n, c', by omega, by go_num, b6, by rw [HF.out]; exact ow, below_drN kw nq⟩
        case measure => simp [intOf]; omega
      · have HF : Hid ((D.loose.take (k + 1)).filter (fun c => decide (c.1 ≠ at_)) = (D.loose.take k).filter (fun c => decide (c.1 ≠ at_)) ++ [(ya, yb)]) := by show _ = _; rw [List.take_add_one, hy, List.filter_append]; simp [hya]
        have j0 : (ya != at_) = true := by simp [hya]
        go_wp2_with fail
        go_quiet (fail)
        go_wp2_with fail
        obtain ⟨W, hW⟩ : ∃ W, W = wr.drewN nq := ⟨_, rfl⟩
        rw [← hW]
        have kW : Below v2.heap.size v2 W := by rw [hW]; exact below_drN kw nq
        have b6W : Blk W v2.heap.size (dc D1 ⟨q1.sa, q1.sn, q1.sc, a, n, c', q1.ta, q1.tn, q1.tc, q1.pa, q1.pn, q1.pq⟩) 42 := by rw [hW]; exact b6
        have oW : OwS (elC B) 2 118 W (v2.heap.size + 1) (.slice a n c') ((D.loose.take k).filter (fun c => decide (c.1 ≠ at_))) := by rw [hW]; exact ow
        have pW := HB2.out.below kW
        have hBW : B5 B W ep em eq yb := by rw [hW]; exact hB
        have hlW : eb < W.heap.size := by rw [hW]; exact hlb
        have cxW : W.cell? ⟨eb, eo + k * 2, none⟩ = some (.int .i64 ya) := by rw [hW]; exact cx
        have cyW : W.cell? ⟨eb, eo + k * 2 + 1, none⟩ = some (.slice ep em eq) := by rw [hW]; exact cy
        have F6 : ∀ u, Grows W u → u.cell? ⟨v2.heap.size, 6, none⟩ = some (.slice a n c') := fun u h => (b6W.below h b6W.lt).cell 6
        have F0 : ∀ u, Grows W u → u.cell? ⟨w.heap.size, 6, none⟩ = some (.slice (some ⟨eb, eo, none⟩) q.ln q.lc) := fun u h => by have := (pW.d.below h pW.d.lt).cell 6; rw [this]; show some (Value.slice q.la q.ln q.lc) = _; rw [hla]
        have FR : ∀ u, Grows W u → u.rangeAt eb (eo + k * 2) [.int .i64 ya, .slice ep em eq] := fun u h => range2 ((Below.cell h (p := ⟨eb, eo + k * 2, none⟩) hlW).trans cxW) ((Below.cell h (p := ⟨eb, eo + k * 2 + 1, none⟩) hlW).trans cyW)
        clear hW kw b6 ow pb f0 f1 hB hlb cx cy l0 l1 l6
        refine regionE 8 (S := Grows W) (by kernel_rfl) (Below.refl _ W).drew ?_
        refine takeT 0 (some 91) (.pointer (some ⟨v2.heap.size, 6, none⟩)) rfl rfl (by kernel_rfl) (fun _ _ _ h => h) (ans_plain (by rfl) (fun w _ => by unfold execOp; go_simp)) ?_
        simp only [Act.put, List.setIfInBounds_toArray, List.set_cons_zero, List.set_cons_succ]
        refine takeT 1 (some 92) (.slice a n c') rfl rfl (by kernel_rfl) (fun _ _ _ h => h) (ans_plain (by rfl) (fun w h => by have hc := F6 w h; unfold execOp; go_simp)) ?_
        simp only [Act.put, List.setIfInBounds_toArray, List.set_cons_zero, List.set_cons_succ]
        refine takeT 2 (some 93) (.pointer (some ⟨w.heap.size, 6, none⟩)) rfl rfl (by kernel_rfl) (fun _ _ _ h => h) (ans_plain (by rfl) (fun w _ => by unfold execOp; go_simp)) ?_
        simp only [Act.put, List.setIfInBounds_toArray, List.set_cons_zero, List.set_cons_succ]
        refine takeT 3 (some 94) (.slice (some ⟨eb, eo, none⟩) q.ln q.lc) rfl rfl (by kernel_rfl) (fun _ _ _ h => h) (ans_plain (by rfl) (fun w h => by have hc := F0 w h; unfold execOp; go_simp)) ?_
        simp only [Act.put, List.setIfInBounds_toArray, List.set_cons_zero, List.set_cons_succ]
        refine takeT 4 (some 95) (.int .i64 (k : Int)) rfl rfl (by kernel_rfl) (fun _ _ _ h => h) (ans_plain (by rfl) (fun w _ => rfl)) ?_
        simp only [Act.put, List.setIfInBounds_toArray, List.set_cons_zero, List.set_cons_succ]
        refine takeT 5 (some 96) (.pointer (some ⟨eb, eo + k * 2, none⟩)) rfl rfl (by kernel_rfl) (fun _ _ _ h => h) (ans_plain (by rfl) (fun w _ => by unfold execOp; go_simp)) ?_
        simp only [Act.put, List.setIfInBounds_toArray, List.set_cons_zero, List.set_cons_succ]
        refine takeT 6 (some 97) (.agg #[.int .i64 ya, .slice ep em eq]) rfl rfl (by kernel_rfl) (fun _ _ _ h => h) (ans_row 118 (.tmp 96) _ 2 rfl (by rfl) eb (eo + k * 2) rfl [.int .i64 ya, .slice ep em eq] (fun w h => FR w h) Tryz.underlying118 rfl rfl (by kernel_rfl)) ?_
        simp only [Act.put, List.setIfInBounds_toArray, List.set_cons_zero, List.set_cons_succ]
        refine oneE 7 (by kernel_rfl) (by kernel_rfl) fun u3 hg3 hs3 => ?_
        refine opBSC (some 98) rfl rfl rfl (.tmp 97) rfl (.int .i64 ya) (.slice ep em eq) rfl ⟨Grows.trans hs3 (below_alloc _ _), ?_⟩
        simp only [Act.put, List.setIfInBounds_toArray, List.set_cons_zero, List.set_cons_succ]
        refine goE (by kernel_rfl) (by kernel_rfl) (by kernel_rfl) fun u4 hg4 hs4 => ?_
        have o4 := OwC.below oW hs4
        have h64 : v2.heap.size + 1 ≤ u4.heap.size := by have := b6W.lt; have := Below.size hs4; omega
        refine opApp1 (elC B) 2 32 39 118 _ Tryz.underlying39 infoC rfl (by decide) (by decide) u4 rfl rfl (some 99) rfl (.tmp 92) (.tmp 98) rfl (v2.heap.size + 1) (.slice a n c') _ rfl o4 u3.heap.size 1 (ya, yb) [.int .i64 ya, .slice ep em eq] rfl ((Blk.newAt u3 #[.int .i64 ya, .slice ep em eq] 118 u3.heap.size rfl _ rfl).below hg4 (by simp)).whole ⟨rfl, by intro u hu; simp at hu; rcases hu with rfl | rfl <;> rfl, ⟨ep, em, eq, rfl, hBW.below hs4, hyi⟩⟩ ?_ h64 ?_ ?_
        · have := List.length_filter_le (fun c => decide (c.1 ≠ at_)) (D.loose.take k)
          have := List.length_take_le k D.loose
          have := HLS.out
          omega
        · exact fun w' x vs hg hx => elC.grown hg (o4.not5 ne5) x vs hx
        intro v5 u5 o5 g5
        obtain ⟨a5, n5, c5, rfl, hn5⟩ := o5.shape
        simp only [Act.put, List.setIfInBounds_toArray, List.set_cons_zero, List.set_cons_succ]
        have q5 : Below (v2.heap.size + 1) u4 u5 := (Below.refl _ _).grown g5 h64 (fun k hk => (o4.lt k hk).1)
        refine takeP 9 (some 100) (.pointer (some ⟨v2.heap.size, 6, none⟩)) rfl rfl (by kernel_rfl) (fun _ _ _ h => h) (by rfl) (fun w => by unfold execOp; go_simp) ?_
        simp only [Act.put, List.setIfInBounds_toArray, List.set_cons_zero, List.set_cons_succ]
        refine thenE 10 (by kernel_rfl) (by kernel_rfl) fun u6 hg6 => ?_
        have b6X := (b6W.below hs4 b6W.lt).below q5 (by omega)
        have b6Y := b6X.below hg6 b6X.lt
        have k4 := kW.trans (Below.mono hs4 kW.size)
        have k5 := k4.trans (q5.mono (by omega))
        have k6 := k5.trans (Below.mono hg6 k5.size)
        refine opStC rfl rfl rfl (.tmp 100) (.tmp 99) rfl v2.heap.size 6 rfl a5 n5 c5 rfl _ _ b6Y (by simp [dc]) (endE (by kernel_rfl) fun u7 hg7 => ?_)
        have b6Z : Blk (u6.setCell ⟨v2.heap.size, 6, none⟩ (.slice a5 n5 c5)) v2.heap.size (dc D1 ⟨q1.sa, q1.sn, q1.sc, a5, n5, c5, q1.ta, q1.tn, q1.tc, q1.pa, q1.pn, q1.pq⟩) 42 := b6Y.setC 6 _
        have o7 := OwC.below (OwC.grown (OwC.below o5 hg6) (but_set u6 v2.heap.size 6 (.slice a5 n5 c5)) (by omega) (b6Y.not5 ne40)) hg7
        have b7 := b6Z.below hg7 b6Z.lt
        have k6b : Below v2.heap.size v2 (u6.setCell ⟨v2.heap.size, 6, none⟩ (.slice a5 n5 c5)) := k6.setCell (Nat.le_refl _) _
        have k7 := k6b.trans (Below.mono hg7 k6b.size)
        rw [← HF.out] at o7
        clear k6b k6 k5 k4 b6Z b6Y b6X hg6 q5 g5 o5 o4 hs4 hg4 hs3 hg3 FR F0 F6 cyW cxW hlW hBW pW oW b6W kW hg7
        go_wp2_with fail
        go_roundw
        case rel => exact ⟨k + 1, a5, n5, c5, by omega, by go_num, b7, o7, k7⟩
        case measure => simp [intOf]; omega
    · obtain rfl : k = q.ln := by omega
      have i0 : ¬ (q.ln : Int) < (q.ln : Int) := by omega
      rw [List.take_of_length_le (by rw [HLS.out]; exact Nat.le_refl _)] at ow
      have HL : Hid ((dc D1 ⟨q1.sa, q1.sn, q1.sc, a, n, c', q1.ta, q1.tn, q1.tc, q1.pa, q1.pn, q1.pq⟩).length = 10) := rfl
      obtain ⟨q2, hq2⟩ : ∃ q2 : Quad, q2 = ⟨q1.sa, q1.sn, q1.sc, a, n, c', q1.ta, q1.tn, q1.tc, q1.pa, q1.pn, q1.pq⟩ := ⟨_, rfl⟩
      have HRF : Hid (∀ u, Below v2.heap.size v2 u → OwS (elC B) 2 118 u (v2.heap.size + 1) (.slice a n c') (D.loose.filter (fun c => decide (c.1 ≠ at_))) → RD B u D2 q2) := fun u hu ho => by
        have hr := HR1.out.below hu
        rw [HD2.out, hq2]
        exact ⟨hr.safe, ho.sl3 (fun j hj _ => hnew.out j (by have := HB2.out.r.lt; omega)), hr.seen, hr.plot⟩
      have hdc : dc D1 ⟨q1.sa, q1.sn, q1.sc, a, n, c', q1.ta, q1.tn, q1.tc, q1.pa, q1.pn, q1.pq⟩ = dc D2 q2 := by rw [HD2.out, hq2]; rfl
      rw [hdc] at b6 HL
      clear hdc hq2
      go_wp2_with (first
        | ((with_reducible refine at_ld 42 ?_); go_must (refine ld 42 (.tmp 6) 10 size40 _ Tryz.underlying42 rfl v2.heap.size 0 (dc D2 q2) HL.out b6.whole rfl ?_))
        | ((with_reducible refine at_st 42 ?_); go_must (refine st' 42 (.tmp 4) (.tmp 101) 10 size40 (w.heap.size + 1 + 1) 0 (dc D2 q2) HL.out (dc_one _ _) (pb.r.there 0 10 (by simp [z40])) rfl rfl ?_); intro w8 hw8))
      have b8 : Blk w8 (w.heap.size + 1 + 1) (dc D2 q2) 42 := by rw [hw8]; exact pb.r.setsW _ rfl
      have hr2 : w.heap.size + 1 + 1 < v2.heap.size := HB2.out.r.lt
      have k8 : Below w.heap.size w w8 := by rw [hw8]; exact below_sets (by omega) _ pb.b 0
      have hg8 : wr.grownBy w8 (some (w.heap.size + 1 + 1)) := by rw [hw8]; exact but_cells _ _ _ _
      have hr8 : RD A w8 D2 q2 := ((HRF.out wr kw ow).keep hg8.size (fun j hj hb => hg8.block j hj (fun e => hn.out j hb (Option.some.inj e)))).mono (fun j _ hb => hm.out j hb)
      first | rw [← hw8] | skip
      exact bodyPost_ret (v := dv D2 q2) (results_cell_row Tryz.results23 _ _ (w.heap.size + 1 + 1) 42 (dc D2 q2).toArray (0, 0) _ rfl b8 Tryz.underlying42 rfl size40) rfl ⟨q2, rfl, hr8, k8⟩

/-- Poke. -/
theorem rPoke (w : World) {A : Nat → Prop} {D : DskS} {q : Quad} (h : RD A w D q) (hA : ∀ j, w.heap.size ≤ j → A j) (x : Pok) {p : Option Addr} {m c : Nat} (hx : Bs w p m c x.bytes) (hi : i64 x.at_) (hnum : i64 x.num) (hz : D.safe.length + 1 ≤ 1000000) (hz2 : D.loose.length ≤ 1000000) :
    Calls Tryz.prog 23 #[dv D q, xv x p m c] w fun e w' => ∃ q', e = .returned (dv (D.poke x) q') ∧ RD A w' (D.poke x) q' ∧ Below w.heap.size w w' := by
  by_cases hid : D.idle x
  · exact rPokeIdle w h x p m c hid
  · obtain ⟨on, at_, kind, bytes, num⟩ := x
    have hk : kind = 0 ∨ kind = 1 ∨ kind = 2 := by unfold DskS.idle at hid; dsimp only at hid; omega
    rcases hk with rfl | rfl | rfl
    · exact rPoke0 w h hA on at_ bytes num hx hi hnum.2 hid hz hz2
    · exact rPoke1 w h hA on at_ bytes num hx hi hnum.2 hid hz hz2
    · exact rPoke2 w h hA on at_ bytes num hx hi hnum.2 hid hz hz2

end Go.Proofs.YtlenmkhmkommcaaGreat

/-
  The contracts of layer 8's reference. Conditions: fewer than 2^40 steps, numbers of the language.
-/
namespace Go.Proofs.YtlenmkhmkommcaaGreat
open Go.RowKit

set_option maxRecDepth 100000 in
theorem rPNew (w : World) : Calls Tryz.prog 11 #[] w fun e w' => e = .returned (pv PowS.new) ∧ Below w.heap.size w w' := by
  go_enter Tryz.func11, Tryz.ntmps11
  go_wp2_with fail
  exact bodyPost_ret (v := pv PowS.new) (by simp [results, Tryz.results11, go_sem, pv, PowS.new]) rfl ⟨rfl, below_alloc _ _⟩

set_option maxRecDepth 100000 in
theorem rPBack (w : World) (S : PowS) : Calls Tryz.prog 21 #[pv S] w fun e w' => e = .returned (pv S.back) ∧ Below w.heap.size w w' := by
  obtain ⟨n, f, d, g⟩ := S
  unfold pv PowS.back
  dsimp only
  go_enter Tryz.func21, Tryz.ntmps21
  go_wp2_with fail
  exact bodyPost_ret (v := .agg #[.int .i64 (n : Int), .int .i64 (-1), .bool false, .bool false]) (by simp [results, Tryz.results21, go_sem]) rfl ⟨rfl, below2 _ _ _⟩

set_option maxRecDepth 100000 in
theorem rPFuse (w : World) (S : PowS) (m : Int) (b : Bool) : Calls Tryz.prog 14 #[pv S, .int .i64 m, .bool b] w fun e w' => e = .returned (pv (S.set m b)) ∧ Below w.heap.size w w' := by
  obtain ⟨n, f, d, g⟩ := S
  unfold pv PowS.set
  dsimp only
  by_cases hm : m < 0
  · rw [if_pos hm]
    go_enter Tryz.func14, Tryz.ntmps14
    go_wp2_with fail
    exact bodyPost_ret (v := .agg #[.int .i64 (n : Int), .int .i64 (-1), .bool b, .bool g]) (by simp [results, Tryz.results14, go_sem]) rfl ⟨rfl, below3 _ _ _ _⟩
  · rw [if_neg hm]
    go_enter Tryz.func14, Tryz.ntmps14
    go_wp2_with fail
    exact bodyPost_ret (v := .agg #[.int .i64 (n : Int), .int .i64 m, .bool b, .bool g]) (by simp [results, Tryz.results14, go_sem]) rfl ⟨rfl, below3 _ _ _ _⟩

set_option maxRecDepth 100000 in
set_option maxHeartbeats 1000000 in
theorem rPStep (w : World) (S : PowS) {m : Nat} (h : S.fit m) (hm : m ≤ 1099511627776) : Calls Tryz.prog 108 #[pv S] w fun e w' => e = .returned (.tuple #[pv S.next, .bool S.ok, .bool S.does]) ∧ Below w.heap.size w w' := by
  obtain ⟨n, f, d, g⟩ := S
  obtain ⟨h1, h2, h3⟩ := h
  dsimp only at h1 h2 h3
  unfold pv PowS.next PowS.ok PowS.does
  dsimp only
  cases g with
  | true =>
    clear h1 h2 h3
    go_enter Tryz.func108, Tryz.ntmps108
    go_wp2_with fail
    exact bodyPost_ret (v := .tuple #[.agg #[.int .i64 (n : Int), .int .i64 f, .bool d, .bool true], .bool false, .bool false]) (by simp [results, Tryz.results108, go_sem]) rfl ⟨rfl, below2 _ _ _⟩
  | false =>
    by_cases hf : f < 0
    · have e0 : decide (f = 0) = false := decide_eq_false (by omega)
      rw [if_neg (by simp), if_pos hf, e0]
      clear h2 h3
      go_enter Tryz.func108, Tryz.ntmps108
      go_wp2_with fail
      exact bodyPost_ret (v := .tuple #[.agg #[.int .i64 ((n + 1 : Nat) : Int), .int .i64 f, .bool d, .bool false], .bool true, .bool true]) (by simp [results, Tryz.results108, go_sem]) rfl ⟨rfl, below3 _ _ _ _⟩
    · rw [if_neg (by simp), if_neg hf]
      by_cases h0 : f = 0
      · subst h0
        clear hf h2 h3
        go_enter Tryz.func108, Tryz.ntmps108
        go_wp2_with fail
        go_region
        all_goals
          go_wp2_with fail
          exact bodyPost_ret (v := .tuple #[.agg #[.int .i64 ((n + 1 : Nat) : Int), .int .i64 (-1), .bool d, .bool true], .bool false, .bool d]) (by simp [results, Tryz.results108, go_sem]) rfl ⟨by simp, (below3 _ _ _ _).drew⟩
      · have e0 : decide (f = 0) = false := decide_eq_false h0
        have e1 : (f == 0) = false := by simp [h0]
        rw [e0]
        clear h2
        go_enter Tryz.func108, Tryz.ntmps108
        go_wp2_with fail
        exact bodyPost_ret (v := .tuple #[.agg #[.int .i64 ((n + 1 : Nat) : Int), .int .i64 (f - 1), .bool d, .bool false], .bool true, .bool true]) (by simp [results, Tryz.results108, go_sem]) rfl ⟨rfl, below3 _ _ _ _⟩

end Go.Proofs.YtlenmkhmkommcaaGreat
