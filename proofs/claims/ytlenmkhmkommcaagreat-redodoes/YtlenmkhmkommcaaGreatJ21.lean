/-
  2 texts in one. No statement of the seat is proved here.
-/
import Derived.Test.YtlenmkhmkommcaaGreatJ20

/-
  The contract of layer 9's program's do: what is atomic in a step. Conditions: lists of at most a million.
-/
namespace Go.Proofs.YtlenmkhmkommcaaGreat
open Go.RowKit
set_option linter.unusedVariables false

/-- A literal of one touch, the one that may come up. -/
theorem opBST {ops : Array Oper} {Q : Exit → Act → World → Prop} {i : Nat} {oi : Oper} (d : Option Tmp) (hi : ops[i]? = some oi) (hd : oi.dst = d) (hg : oi.guard = none) (x : Operand) (ho : oi.op = .buildSlice 40 1 #[(0, x)]) {K : Act → World → Prop} {a : Act} {w : World} (u v s : Value) (hx : a.eval x = .agg #[u, v, s])
    (k : K (a.put d (.slice (some ⟨w.heap.size, 0, none⟩) 1 1)) (w.alloc (.cells #[u, v, s] 114))) : wpOp Tryz.prog ops Q i K a w := by
  subst hd
  have hK : Hid _ := k
  clear k
  unfold wpOp
  simp only [hi]
  rw [if_pos (by simp [Region.wanted, hg])]
  left
  unfold Oper.wp execOp
  simp only [ho, List.map_toArray, List.map_cons, List.map_nil, hx]
  go_simp
  exact hK.out
/-- A slice of touches stored into a field, the one that may come up. -/
theorem opStT {ops : Array Oper} {Q : Exit → Act → World → Prop} {i : Nat} {oi : Oper} (hi : ops[i]? = some oi) (hd : oi.dst = none) (hg : oi.guard = none) (x y : Operand) (ho : oi.op = .store 40 x y) {K : Act → World → Prop} {a : Act} {w : World} (g o : Nat) (hx : a.eval x = .pointer (some ⟨g, o, none⟩)) (s : Option Addr) (n c : Nat) (hy : a.eval y = .slice s n c) (vs : List Value) (t : TypeId) (hb : Blk w g vs t) (ho2 : o < vs.length)
    (k : K a (w.setCell ⟨g, o, none⟩ (.slice s n c))) : wpOp Tryz.prog ops Q i K a w := by
  have hc := hb.cell o
  rw [List.getElem?_eq_getElem ho2] at hc
  have hf := hb.free o
  have hl := hb.lt
  have hK : Hid _ := k
  clear k
  unfold wpOp
  simp only [hi]
  rw [if_pos (by simp [Region.wanted, hg])]
  left
  unfold Oper.wp execOp
  simp only [ho, hx, hy]
  go_simp
  exact hK.out
/-- What a step did. -/
def DskS.act2 (D : DskS) (t : Tch) : DskS := (if t.1 = 1 then { D with loose := D.loose ++ [(t.2.1, t.2.2)] } else if t.1 = 2 then { D.plus D.loose with loose := [] } else D).see t
theorem kp_sum {w u4 u5 u6 u7 u8 : World} {v : Value} {d : Nat} (k4 : Below w.heap.size w u4) (g5 : u4.grownBy u5 v.ownBlock) (hg6 : Grows u5 u6) (k7 : Kp (fun j => j = d) u6 u7) (hg8 : Grows u7 u8) : Kp (fun j => v.ownBlock = some j ∨ j = d) w u8 :=
  ((((Kp.of_below k4).trans (⟨g5.os, g5.tape, g5.output, g5.size, fun j hj hn => g5.block j hj fun e => hn (Or.inl e.symm)⟩)).trans (Kp.of_below hg6)).trans (k7.mono fun j _ e => Or.inr e)).trans (Kp.of_below hg8)

set_option maxRecDepth 100000 in
set_option maxHeartbeats 8000000 in
theorem oDoT (w : World) {U : Nat → Prop} {d r : Nat} {D : DskS} {M : Mm} (h : Dm U w d r D M) (hz : D.safe.length + D.loose.length + 1 ≤ 1000000) (hz3 : D.seen.length + 1 ≤ 1000000) (tk ta : Int) (tb : List UInt8) (hi1 : i64 tk) (hi2 : i64 ta) {p : Option Addr} {m q : Nat} (hb : B5 U w p m q tb) (hl : tk = 1 → tb.length = 512) (hl3 : tb.length ≤ 512) :
    Calls Tryz.prog 118 #[.pointer (some ⟨d, 0, none⟩), .agg #[.int .i64 tk, .int .i64 ta, .slice p m q]] w fun e w' => e = .returned (.tuple #[]) ∧ Dn U w d r (D.act2 (tk, ta, tb)) w' := by
  have k1 : Below w.heap.size w (w.alloc (.cells #[.int .i64 tk, .int .i64 ta, .slice p m q] 114)) := below_alloc _ _
  have b1 : Blk (w.alloc (.cells #[.int .i64 tk, .int .i64 ta, .slice p m q] 114)) w.heap.size [.int .i64 tk, .int .i64 ta, .slice p m q] 114 := Blk.newAt w _ _ w.heap.size rfl _ rfl
  have h1 := h.below k1
  have h51 := hb.below k1
  have ng : ¬ U w.heap.size := fun hu => by have := h.lt _ hu; omega
  obtain ⟨g0, hg0⟩ : ∃ g0, g0 = w.heap.size := ⟨_, rfl⟩
  obtain ⟨W1, hW1⟩ : ∃ W1, W1 = (w.alloc (.cells #[.int .i64 tk, .int .i64 ta, .slice p m q] 114)) := ⟨_, rfl⟩
  have HW1 : Hid (W1 = (w.alloc (.cells #[.int .i64 tk, .int .i64 ta, .slice p m q] 114))) := hW1
  have HG0 : Hid (g0 = w.heap.size) := hg0
  have hgs : g0 < W1.heap.size := by rw [hW1, hg0]; simp
  rw [← hW1] at k1 b1 h1 h51
  rw [← hg0] at b1 ng
  have y0 : W1.cell? ⟨g0, 0, none⟩ = some (.int .i64 tk) := b1.cell 0
  obtain ⟨P, hP⟩ : ∃ P : World → Prop, P = Dn U w d r (D.act2 (tk, ta, tb)) := ⟨_, rfl⟩
  show Calls _ _ _ _ fun e w' => e = .returned (.tuple #[]) ∧ Dn U w d r (D.act2 (tk, ta, tb)) w'
  rw [← hP]
  have PRE : Hid (∀ UV V u8, Kp (Wr U W1) W1 V → Next W1 U UV → Dn UV V d r (D.act2 (tk, ta, tb)) u8 → P u8) := fun UV V u8 kk nn hh => by rw [hP]; exact Dn.behind k1 (Dn.more kk nn hh)
  have HZ : Hid (D.safe.length + D.loose.length + 1 ≤ 1000000) := hz
  have HZ3 : Hid (D.seen.length + 1 ≤ 1000000) := hz3
  have HL : Hid (tk = 1 → tb.length = 512) := hl
  have HL3 : Hid (tb.length ≤ 512) := hl3
  clear hP hz hz3 hl hl3 h hb k1 hW1 hg0
  by_cases h1k : tk = 1
  · subst h1k
    have HTL : Hid (tb.length = 512) := HL.out rfl
    have HZW : Hid ((D.loose.map t3).length + 1 ≤ 1000000) := by show _ ≤ _; rw [List.length_map]; have := HZ.out; omega
    go_enter Tryz.func118, Tryz.ntmps118
    go_wp2_with fail
    rw [← HW1.out, ← HG0.out]
    go_wp2_with fail
    have hdr : ∀ j, (Value.slice M.wa M.wn M.wc).ownBlock = some j → j ≠ d := fun j hj e => by subst e; exact absurd ((h1.wait.row.ty _ hj).one h1.blk.ty) (by decide)
    have hgr : ∀ j, (Value.slice M.wa M.wn M.wc).ownBlock = some j → j ≠ g0 := fun j hj e => by subst e; exact ng (h1.wait.at_ _ hj)
    have F4 : ∀ u, Kp (fun j => (Value.slice M.wa M.wn M.wc).ownBlock = some j) W1 u → u.cell? ⟨d, 4, none⟩ = some (.slice M.wa M.wn M.wc) := fun u k => (k.blk h1.blk fun e => hdr d e rfl).cell 4
    have FB : ∀ u, Kp (fun j => (Value.slice M.wa M.wn M.wc).ownBlock = some j) W1 u → u.rangeAt g0 0 [.int .i64 1, .int .i64 ta, .slice p m q] := fun u k => (k.blk b1 fun e => hgr _ e rfl).whole
    refine regionE 10 (S := Kp (fun j => (Value.slice M.wa M.wn M.wc).ownBlock = some j) W1) (by kernel_rfl) (Kp.of_below (Below.refl _ W1).drew) ?_
    refine takeT 0 (some 8) (.pointer (some ⟨d, 0, none⟩)) rfl rfl (by kernel_rfl) (fun _ _ _ h => h) (ans_plain (by rfl) (fun w _ => rfl)) ?_
    simp only [Act.put, List.setIfInBounds_toArray, List.set_cons_zero, List.set_cons_succ]
    refine takeT 1 (some 9) (.pointer (some ⟨d, 0, none⟩)) rfl rfl (by kernel_rfl) (fun _ _ _ h => h) (ans_plain (by rfl) (fun w _ => rfl)) ?_
    simp only [Act.put, List.setIfInBounds_toArray, List.set_cons_zero, List.set_cons_succ]
    refine takeT 2 (some 10) (.pointer (some ⟨d, 0, none⟩)) rfl rfl (by kernel_rfl) (fun _ _ _ h => h) (ans_plain (by rfl) (fun w _ => by unfold execOp; go_simp)) ?_
    simp only [Act.put, List.setIfInBounds_toArray, List.set_cons_zero, List.set_cons_succ]
    refine takeT 3 (some 11) (.pointer (some ⟨d, 4, none⟩)) rfl rfl (by kernel_rfl) (fun _ _ _ h => h) (ans_plain (by rfl) (fun w _ => by unfold execOp; go_simp)) ?_
    simp only [Act.put, List.setIfInBounds_toArray, List.set_cons_zero, List.set_cons_succ]
    refine takeT 4 (some 12) (.slice M.wa M.wn M.wc) rfl rfl (by kernel_rfl) (fun _ _ _ h => h) (ans_plain (by rfl) (fun w h => by have hc := F4 w h; unfold execOp; go_simp)) ?_
    simp only [Act.put, List.setIfInBounds_toArray, List.set_cons_zero, List.set_cons_succ]
    refine takeT 5 (some 13) (.agg #[.int .i64 1, .int .i64 ta, .slice p m q]) rfl rfl (by kernel_rfl) (fun _ _ _ h => h) (ans_row 114 (.tmp 3) _ 3 rfl (by rfl) g0 0 rfl [.int .i64 1, .int .i64 ta, .slice p m q] FB Tryz.underlying114 rfl rfl size88) ?_
    simp only [Act.put, List.setIfInBounds_toArray, List.set_cons_zero, List.set_cons_succ]
    refine oneE 6 (by kernel_rfl) (by kernel_rfl) fun u3 hg3 hs3 => ?_
    refine opBST (some 14) rfl rfl rfl (.tmp 13) rfl (.int .i64 1) (.int .i64 ta) (.slice p m q) rfl ⟨hs3.alloc _, ?_⟩
    simp only [Act.put, List.setIfInBounds_toArray, List.set_cons_zero, List.set_cons_succ]
    refine oneE 7 (by kernel_rfl) (by kernel_rfl) fun u4 hg4 hs4 => ?_
    have kA : Below W1.heap.size W1 (u3.alloc (.cells #[.int .i64 1, .int .i64 ta, .slice p m q] 114)) := ((Below.refl _ W1).drew.trans (Below.mono hg3 (Nat.le_refl _))).trans ((below_alloc u3 _).mono (Below.size hg3))
    have k4 : Below W1.heap.size W1 u4 := kA.trans (Below.mono hg4 kA.size)
    have h4 := h1.below k4
    have hlz := h1.wait.row.lt
    have b3 := ((Blk.newAt u3 #[.int .i64 1, .int .i64 ta, .slice p m q] 114 u3.heap.size rfl _ rfl).below hg4 (by simp)).whole
    have hb4 := h51.below k4
    refine opAppAt (elT U) 3 40 40 114 _ Tryz.underlying40 infoT3 rfl (by decide) (by decide) u4 rfl rfl (some 15) rfl (.tmp 12) (.tmp 14) rfl 0 (.slice M.wa M.wn M.wc) ((D.loose.map t3)) rfl h4.wait.row u3.heap.size 1 (1, ta, tb) [.int .i64 1, .int .i64 ta, .slice p m q] rfl b3 ⟨rfl, one88 _ _ _ _ _, p, m, q, rfl, hb4, hi1, hi2⟩ HZW.out (Nat.zero_le _) ?_ ?_
    · exact fun w' x vs hg hx => (show Sp U U (fun j => (Value.slice M.wa M.wn M.wc).ownBlock = some j) u4 w' from ⟨⟨hg.os, hg.tape, hg.output, hg.size, fun j hj hn => hg.block j hj fun e => hn e.symm⟩, fun j hj _ ht => absurd (ht.one (h4.wait.row.ty j hj)) (by decide), fun _ hu => hu⟩).elT x vs hx
    intro v5 u5 o5 g5 hp5
    obtain ⟨a5, n5, c5, rfl, hn5⟩ := o5.shape
    simp only [Act.put, List.setIfInBounds_toArray, List.set_cons_zero, List.set_cons_succ]
    have q5 : Kp (fun j => (Value.slice M.wa M.wn M.wc).ownBlock = some j) u4 u5 := ⟨g5.os, g5.tape, g5.output, g5.size, fun j hj hn => g5.block j hj fun e => hn e.symm⟩
    refine ⟨(Kp.of_below k4).trans q5, ?_⟩
    refine takeT 8 (some 16) (.pointer (some ⟨d, 0, none⟩)) rfl rfl (by kernel_rfl) (fun _ _ _ h => h) (ans_plain (by rfl) (fun w _ => by unfold execOp; go_simp)) ?_
    simp only [Act.put, List.setIfInBounds_toArray, List.set_cons_zero, List.set_cons_succ]
    refine takeT 9 (some 17) (.pointer (some ⟨d, 4, none⟩)) rfl rfl (by kernel_rfl) (fun _ _ _ h => h) (ans_plain (by rfl) (fun w _ => by unfold execOp; go_simp)) ?_
    simp only [Act.put, List.setIfInBounds_toArray, List.set_cons_zero, List.set_cons_succ]
    refine goE (by kernel_rfl) (by kernel_rfl) (by kernel_rfl) fun u6 hg6 hs6 => ?_
    have b6 := hs6.blk h1.blk fun e => hdr d e rfl
    refine opStT rfl rfl rfl (.tmp 17) (.tmp 15) rfl d 4 rfl a5 n5 c5 rfl _ _ b6 (by simp [hc]) (endE (by kernel_rfl) fun u8 hg8 => ?_)
    have kS := kp_sum k4 g5 hg6 (kp_set u6 d 4 (.slice a5 n5 c5)) hg8
    have bS7 := b6.setC 4 (.slice a5 n5 c5)
    have bS := bS7.below hg8 bS7.lt
    have k58 : Kp (fun j => j = d) u5 u8 := ((Kp.of_below hg6).trans (kp_set u6 d 4 (.slice a5 n5 c5))).trans (Kp.of_below hg8)
    have hd5 : Blk u5 d (hc r D M) 91 := ((Kp.of_below k4).trans q5).blk h1.blk fun e => hdr d e rfl
    have oS : OwS (elT fun j => U j ∨ (W1.heap.size ≤ j ∧ j < u8.heap.size)) 3 114 u8 0 (.slice a5 n5 c5) ((D.loose.map t3) ++ [(1, ta, tb)]) := o5.turn (show Sp U (fun j => U j ∨ (W1.heap.size ≤ j ∧ j < u8.heap.size)) (fun j => j = d) u5 u8 from ⟨k58, fun j e _ ht => by subst e; exact absurd (ht.one hd5.ty) (by decide), fun _ hu => Or.inl hu⟩).elT fun j hj => k58.block j (o5.lt j hj).2 fun e => by subst e; exact absurd ((o5.ty _ hj).one hd5.ty) (by decide)
    have hvS : ∀ j, (Value.slice a5 n5 c5).ownBlock = some j → (Value.slice M.wa M.wn M.wc).ownBlock = some j ∨ W1.heap.size ≤ j := fun j hj => by
      rcases hp5 with e | e
      · exact Or.inl (by rw [← e]; exact hj)
      · rw [e] at hj
        have := Option.some.inj hj
        have := k4.size
        exact Or.inr (by omega)
    have oS2 : OwS (elT fun j => U j ∨ (W1.heap.size ≤ j ∧ j < u8.heap.size)) 3 114 u8 0 (.slice a5 n5 c5) ((D.loose ++ [(ta, tb)]).map t3) := by rw [List.map_append]; exact oS
    obtain ⟨h2, n2, kk2⟩ := h1.waits (L := D.loose ++ [(ta, tb)]) (a := a5) (n := n5) (c := c5) kS bS oS2 hvS (fun c hc => by rcases List.mem_append.1 hc with hc | hc; exact h1.len2 c hc; rw [List.mem_singleton.1 hc]; exact HTL.out)
    have b2 : Blk u8 g0 [.int .i64 1, .int .i64 ta, .slice p m q] 114 := kk2.blk b1 fun hh => ng hh.1
    have h52 : B5 (fun j => U j ∨ (W1.heap.size ≤ j ∧ j < u8.heap.size)) u8 p m q tb := (h51.keep fun j cur f hu hh => kk2.block j (Array.getElem?_eq_some_iff.1 hh).1 fun hw => hw.2 ⟨cur, f, hh⟩).mono fun j _ hj => Or.inl hj
    have ng2 : ¬ (U g0 ∨ (W1.heap.size ≤ g0 ∧ g0 < u8.heap.size)) := fun hh => by rcases hh with hh | hh; exact ng hh; omega
    clear oS2
    clear F4 FB hdr hgr kA k4 h4 hlz b3 hb4 o5 g5 hp5 hn5 q5 b6 bS7 bS k58 hd5 oS hvS kS hg3 hs3 hg4 hs4 hg6 hs6 hg8
    have PRE2 : Hid (∀ w9, Dn (fun j => U j ∨ (W1.heap.size ≤ j ∧ j < u8.heap.size)) u8 d r (({ D with loose := D.loose ++ [(ta, tb)] } : DskS).see (1, ta, tb)) w9 → P w9) := fun w9 hh => PRE.out _ _ w9 kk2 n2 hh
    clear PRE y0 h1 b1 h51 n2 kk2 HZW
    obtain ⟨UV, hUV⟩ : ∃ UV : Nat → Prop, UV = fun j => U j ∨ (W1.heap.size ≤ j ∧ j < u8.heap.size) := ⟨_, rfl⟩
    obtain ⟨DV, hDV⟩ : ∃ DV : DskS, DV = { D with loose := D.loose ++ [(ta, tb)] } := ⟨_, rfl⟩
    obtain ⟨MV, hMV⟩ : ∃ MV : Mm, MV = { M with wa := a5, wn := n5, wc := c5 } := ⟨_, rfl⟩
    have HDS : Hid (DV.seen.length + 1 ≤ 1000000) := by rw [hDV]; exact HZ3.out
    rw [← hUV, ← hDV] at PRE2
    rw [← hUV, ← hDV, ← hMV] at h2
    rw [← hUV] at h52
    have ng3 : ¬ UV g0 := by rw [hUV]; exact ng2
    clear hUV hDV hMV ng2 ng hgs HTL HL HZ HZ3
    go_wp2_with fail
    have HZS : Hid (DV.seen.length + 1 ≤ 1000000) := HDS.out
    have hdr : ∀ j, (Value.slice MV.sa MV.sn MV.sc).ownBlock = some j → j ≠ d := fun j hj e => by subst e; exact absurd ((h2.seen.row.ty _ hj).one h2.blk.ty) (by decide)
    have hgr : ∀ j, (Value.slice MV.sa MV.sn MV.sc).ownBlock = some j → j ≠ g0 := fun j hj e => by subst e; exact ng3 (h2.seen.at_ _ hj)
    have F4 : ∀ u, Kp (fun j => (Value.slice MV.sa MV.sn MV.sc).ownBlock = some j) u8 u → u.cell? ⟨d, 6, none⟩ = some (.slice MV.sa MV.sn MV.sc) := fun u k => (k.blk h2.blk fun e => hdr d e rfl).cell 6
    have FB : ∀ u, Kp (fun j => (Value.slice MV.sa MV.sn MV.sc).ownBlock = some j) u8 u → u.rangeAt g0 0 [.int .i64 1, .int .i64 ta, .slice p m q] := fun u k => (k.blk b2 fun e => hgr _ e rfl).whole
    refine regionE 10 (S := Kp (fun j => (Value.slice MV.sa MV.sn MV.sc).ownBlock = some j) u8) (by kernel_rfl) (Kp.of_below (Below.refl _ u8).drew) ?_
    refine takeT 0 (some 22) (.pointer (some ⟨d, 0, none⟩)) rfl rfl (by kernel_rfl) (fun _ _ _ h => h) (ans_plain (by rfl) (fun w _ => rfl)) ?_
    simp only [Act.put, List.setIfInBounds_toArray, List.set_cons_zero, List.set_cons_succ]
    refine takeT 1 (some 23) (.pointer (some ⟨d, 0, none⟩)) rfl rfl (by kernel_rfl) (fun _ _ _ h => h) (ans_plain (by rfl) (fun w _ => rfl)) ?_
    simp only [Act.put, List.setIfInBounds_toArray, List.set_cons_zero, List.set_cons_succ]
    refine takeT 2 (some 24) (.pointer (some ⟨d, 0, none⟩)) rfl rfl (by kernel_rfl) (fun _ _ _ h => h) (ans_plain (by rfl) (fun w _ => by unfold execOp; go_simp)) ?_
    simp only [Act.put, List.setIfInBounds_toArray, List.set_cons_zero, List.set_cons_succ]
    refine takeT 3 (some 25) (.pointer (some ⟨d, 6, none⟩)) rfl rfl (by kernel_rfl) (fun _ _ _ h => h) (ans_plain (by rfl) (fun w _ => by unfold execOp; go_simp)) ?_
    simp only [Act.put, List.setIfInBounds_toArray, List.set_cons_zero, List.set_cons_succ]
    refine takeT 4 (some 26) (.slice MV.sa MV.sn MV.sc) rfl rfl (by kernel_rfl) (fun _ _ _ h => h) (ans_plain (by rfl) (fun w h => by have hc := F4 w h; unfold execOp; go_simp)) ?_
    simp only [Act.put, List.setIfInBounds_toArray, List.set_cons_zero, List.set_cons_succ]
    refine takeT 5 (some 27) (.agg #[.int .i64 1, .int .i64 ta, .slice p m q]) rfl rfl (by kernel_rfl) (fun _ _ _ h => h) (ans_row 114 (.tmp 3) _ 3 rfl (by rfl) g0 0 rfl [.int .i64 1, .int .i64 ta, .slice p m q] FB Tryz.underlying114 rfl rfl size88) ?_
    simp only [Act.put, List.setIfInBounds_toArray, List.set_cons_zero, List.set_cons_succ]
    refine oneE 6 (by kernel_rfl) (by kernel_rfl) fun u3 hg3 hs3 => ?_
    refine opBST (some 28) rfl rfl rfl (.tmp 27) rfl (.int .i64 1) (.int .i64 ta) (.slice p m q) rfl ⟨hs3.alloc _, ?_⟩
    simp only [Act.put, List.setIfInBounds_toArray, List.set_cons_zero, List.set_cons_succ]
    refine oneE 7 (by kernel_rfl) (by kernel_rfl) fun u4 hg4 hs4 => ?_
    have kA : Below u8.heap.size u8 (u3.alloc (.cells #[.int .i64 1, .int .i64 ta, .slice p m q] 114)) := ((Below.refl _ u8).drew.trans (Below.mono hg3 (Nat.le_refl _))).trans ((below_alloc u3 _).mono (Below.size hg3))
    have k4 : Below u8.heap.size u8 u4 := kA.trans (Below.mono hg4 kA.size)
    have h4 := h2.below k4
    have hlz := h2.seen.row.lt
    have b3 := ((Blk.newAt u3 #[.int .i64 1, .int .i64 ta, .slice p m q] 114 u3.heap.size rfl _ rfl).below hg4 (by simp)).whole
    have hb4 := h52.below k4
    refine opAppAt (elT UV) 3 40 40 114 _ Tryz.underlying40 infoT3 rfl (by decide) (by decide) u4 rfl rfl (some 29) rfl (.tmp 26) (.tmp 28) rfl 0 (.slice MV.sa MV.sn MV.sc) (DV.seen) rfl h4.seen.row u3.heap.size 1 (1, ta, tb) [.int .i64 1, .int .i64 ta, .slice p m q] rfl b3 ⟨rfl, one88 _ _ _ _ _, p, m, q, rfl, hb4, hi1, hi2⟩ HZS.out (Nat.zero_le _) ?_ ?_
    · exact fun w' x vs hg hx => (show Sp UV UV (fun j => (Value.slice MV.sa MV.sn MV.sc).ownBlock = some j) u4 w' from ⟨⟨hg.os, hg.tape, hg.output, hg.size, fun j hj hn => hg.block j hj fun e => hn e.symm⟩, fun j hj _ ht => absurd (ht.one (h4.seen.row.ty j hj)) (by decide), fun _ hu => hu⟩).elT x vs hx
    intro v5 u5 o5 g5 hp5
    obtain ⟨a5, n5, c5, rfl, hn5⟩ := o5.shape
    simp only [Act.put, List.setIfInBounds_toArray, List.set_cons_zero, List.set_cons_succ]
    have q5 : Kp (fun j => (Value.slice MV.sa MV.sn MV.sc).ownBlock = some j) u4 u5 := ⟨g5.os, g5.tape, g5.output, g5.size, fun j hj hn => g5.block j hj fun e => hn e.symm⟩
    refine ⟨(Kp.of_below k4).trans q5, ?_⟩
    refine takeT 8 (some 30) (.pointer (some ⟨d, 0, none⟩)) rfl rfl (by kernel_rfl) (fun _ _ _ h => h) (ans_plain (by rfl) (fun w _ => by unfold execOp; go_simp)) ?_
    simp only [Act.put, List.setIfInBounds_toArray, List.set_cons_zero, List.set_cons_succ]
    refine takeT 9 (some 31) (.pointer (some ⟨d, 6, none⟩)) rfl rfl (by kernel_rfl) (fun _ _ _ h => h) (ans_plain (by rfl) (fun w _ => by unfold execOp; go_simp)) ?_
    simp only [Act.put, List.setIfInBounds_toArray, List.set_cons_zero, List.set_cons_succ]
    refine goE (by kernel_rfl) (by kernel_rfl) (by kernel_rfl) fun u6 hg6 hs6 => ?_
    have b6 := hs6.blk h2.blk fun e => hdr d e rfl
    refine opStT rfl rfl rfl (.tmp 31) (.tmp 29) rfl d 6 rfl a5 n5 c5 rfl _ _ b6 (by simp [hc]) (endE (by kernel_rfl) fun u9 hg8 => ?_)
    have kS := kp_sum k4 g5 hg6 (kp_set u6 d 6 (.slice a5 n5 c5)) hg8
    have bS7 := b6.setC 6 (.slice a5 n5 c5)
    have bS := bS7.below hg8 bS7.lt
    have k58 : Kp (fun j => j = d) u5 u9 := ((Kp.of_below hg6).trans (kp_set u6 d 6 (.slice a5 n5 c5))).trans (Kp.of_below hg8)
    have hd5 : Blk u5 d (hc r DV MV) 91 := ((Kp.of_below k4).trans q5).blk h2.blk fun e => hdr d e rfl
    have oS : OwS (elT fun j => UV j ∨ (u8.heap.size ≤ j ∧ j < u9.heap.size)) 3 114 u9 0 (.slice a5 n5 c5) (DV.seen ++ [(1, ta, tb)]) := o5.turn (show Sp UV (fun j => UV j ∨ (u8.heap.size ≤ j ∧ j < u9.heap.size)) (fun j => j = d) u5 u9 from ⟨k58, fun j e _ ht => by subst e; exact absurd (ht.one hd5.ty) (by decide), fun _ hu => Or.inl hu⟩).elT fun j hj => k58.block j (o5.lt j hj).2 fun e => by subst e; exact absurd ((o5.ty _ hj).one hd5.ty) (by decide)
    have hvS : ∀ j, (Value.slice a5 n5 c5).ownBlock = some j → (Value.slice MV.sa MV.sn MV.sc).ownBlock = some j ∨ u8.heap.size ≤ j := fun j hj => by
      rcases hp5 with e | e
      · exact Or.inl (by rw [← e]; exact hj)
      · rw [e] at hj
        have := Option.some.inj hj
        have := k4.size
        exact Or.inr (by omega)
    obtain ⟨q1, q2, q3⟩ := h2.sees (L := DV.seen ++ [(1, ta, tb)]) (a := a5) (n := n5) (c := c5) kS bS oS hvS (fun t ht => by rcases List.mem_append.1 ht with ht | ht; exact h2.len3 t ht; rw [List.mem_singleton.1 ht]; exact HL3.out)
    have HFIN : Hid (P u9) := PRE2.out u9 ⟨_, _, q1, q2, q3⟩
    clear q1 q2 q3
    clear F4 FB hdr hgr kA k4 h4 hlz b3 hb4 o5 g5 hp5 hn5 q5 b6 bS7 bS k58 hd5 oS hvS kS hg3 hs3 hg4 hs4 hg6 hs6 hg8
    clear PRE2 h2 b2 h52 ng3 HDS
    go_wp2_with fail
    go_end0
    exact ⟨rfl, HFIN.out⟩
  · by_cases h2k : tk = 2
    · subst h2k
      go_enter Tryz.func118, Tryz.ntmps118
      go_wp2_with fail
      rw [← HW1.out, ← HG0.out]
      go_wp2_with fail
      have CS := oSettle W1 h1 HZ.out
      refine CS.mono ?_
      rintro e w2 ⟨rfl, U2, M2, h2, n2, kk2⟩
      have h2u : Dm (fun j => U2 j ∨ U j) w2 d r { D.plus D.loose with loose := [] } M2 := h2.up (fun _ hu => Or.inl hu) (fun j hj => by rcases hj with hj | hj; exact h2.lt j hj; exact Nat.lt_of_lt_of_le (h1.lt j hj) kk2.size)
      have n2u : Next W1 U (fun j => U2 j ∨ U j) := fun j hj => by rcases hj with hj | hj; exact n2 j hj; exact Or.inl hj
      have b2 : Blk w2 g0 [.int .i64 2, .int .i64 ta, .slice p m q] 114 := kk2.blk b1 fun hh => ng hh.1
      have h52 : B5 (fun j => U2 j ∨ U j) w2 p m q tb := (h51.keep fun j cur f hu hh => kk2.block j (Array.getElem?_eq_some_iff.1 hh).1 fun hw => hw.2 ⟨cur, f, hh⟩).mono fun j _ hj => Or.inr hj
      have ng2 : ¬ (U2 g0 ∨ U g0) := fun hh => by
        rcases hh with hh | hh
        · rcases n2 _ hh with h3 | h3
          · exact ng h3
          · omega
        · exact ng hh
      have PRE2 : Hid (∀ w9, Dn (fun j => U2 j ∨ U j) w2 d r (({ D.plus D.loose with loose := [] } : DskS).see (2, ta, tb)) w9 → P w9) := fun w9 hh => PRE.out _ _ w9 kk2 n2u hh
      clear PRE y0 h1 b1 h51 n2 kk2 n2u h2 CS
      obtain ⟨UV, hUV⟩ : ∃ UV : Nat → Prop, UV = fun j => U2 j ∨ U j := ⟨_, rfl⟩
      obtain ⟨DV, hDV⟩ : ∃ DV : DskS, DV = { D.plus D.loose with loose := [] } := ⟨_, rfl⟩
      have HDS : Hid (DV.seen.length + 1 ≤ 1000000) := by rw [hDV]; exact HZ3.out
      rw [← hUV, ← hDV] at PRE2 h2u
      rw [← hUV] at h52
      have ng3 : ¬ UV g0 := by rw [hUV]; exact ng2
      clear hUV hDV ng2 ng hgs HL HZ HZ3
      go_wp2_with fail
      have HZS : Hid (DV.seen.length + 1 ≤ 1000000) := HDS.out
      have hdr : ∀ j, (Value.slice M2.sa M2.sn M2.sc).ownBlock = some j → j ≠ d := fun j hj e => by subst e; exact absurd ((h2u.seen.row.ty _ hj).one h2u.blk.ty) (by decide)
      have hgr : ∀ j, (Value.slice M2.sa M2.sn M2.sc).ownBlock = some j → j ≠ g0 := fun j hj e => by subst e; exact ng3 (h2u.seen.at_ _ hj)
      have F4 : ∀ u, Kp (fun j => (Value.slice M2.sa M2.sn M2.sc).ownBlock = some j) w2 u → u.cell? ⟨d, 6, none⟩ = some (.slice M2.sa M2.sn M2.sc) := fun u k => (k.blk h2u.blk fun e => hdr d e rfl).cell 6
      have FB : ∀ u, Kp (fun j => (Value.slice M2.sa M2.sn M2.sc).ownBlock = some j) w2 u → u.rangeAt g0 0 [.int .i64 2, .int .i64 ta, .slice p m q] := fun u k => (k.blk b2 fun e => hgr _ e rfl).whole
      refine regionE 10 (S := Kp (fun j => (Value.slice M2.sa M2.sn M2.sc).ownBlock = some j) w2) (by kernel_rfl) (Kp.of_below (Below.refl _ w2).drew) ?_
      refine takeT 0 (some 22) (.pointer (some ⟨d, 0, none⟩)) rfl rfl (by kernel_rfl) (fun _ _ _ h => h) (ans_plain (by rfl) (fun w _ => rfl)) ?_
      simp only [Act.put, List.setIfInBounds_toArray, List.set_cons_zero, List.set_cons_succ]
      refine takeT 1 (some 23) (.pointer (some ⟨d, 0, none⟩)) rfl rfl (by kernel_rfl) (fun _ _ _ h => h) (ans_plain (by rfl) (fun w _ => rfl)) ?_
      simp only [Act.put, List.setIfInBounds_toArray, List.set_cons_zero, List.set_cons_succ]
      refine takeT 2 (some 24) (.pointer (some ⟨d, 0, none⟩)) rfl rfl (by kernel_rfl) (fun _ _ _ h => h) (ans_plain (by rfl) (fun w _ => by unfold execOp; go_simp)) ?_
      simp only [Act.put, List.setIfInBounds_toArray, List.set_cons_zero, List.set_cons_succ]
      refine takeT 3 (some 25) (.pointer (some ⟨d, 6, none⟩)) rfl rfl (by kernel_rfl) (fun _ _ _ h => h) (ans_plain (by rfl) (fun w _ => by unfold execOp; go_simp)) ?_
      simp only [Act.put, List.setIfInBounds_toArray, List.set_cons_zero, List.set_cons_succ]
      refine takeT 4 (some 26) (.slice M2.sa M2.sn M2.sc) rfl rfl (by kernel_rfl) (fun _ _ _ h => h) (ans_plain (by rfl) (fun w h => by have hc := F4 w h; unfold execOp; go_simp)) ?_
      simp only [Act.put, List.setIfInBounds_toArray, List.set_cons_zero, List.set_cons_succ]
      refine takeT 5 (some 27) (.agg #[.int .i64 2, .int .i64 ta, .slice p m q]) rfl rfl (by kernel_rfl) (fun _ _ _ h => h) (ans_row 114 (.tmp 3) _ 3 rfl (by rfl) g0 0 rfl [.int .i64 2, .int .i64 ta, .slice p m q] FB Tryz.underlying114 rfl rfl size88) ?_
      simp only [Act.put, List.setIfInBounds_toArray, List.set_cons_zero, List.set_cons_succ]
      refine oneE 6 (by kernel_rfl) (by kernel_rfl) fun u3 hg3 hs3 => ?_
      refine opBST (some 28) rfl rfl rfl (.tmp 27) rfl (.int .i64 2) (.int .i64 ta) (.slice p m q) rfl ⟨hs3.alloc _, ?_⟩
      simp only [Act.put, List.setIfInBounds_toArray, List.set_cons_zero, List.set_cons_succ]
      refine oneE 7 (by kernel_rfl) (by kernel_rfl) fun u4 hg4 hs4 => ?_
      have kA : Below w2.heap.size w2 (u3.alloc (.cells #[.int .i64 2, .int .i64 ta, .slice p m q] 114)) := ((Below.refl _ w2).drew.trans (Below.mono hg3 (Nat.le_refl _))).trans ((below_alloc u3 _).mono (Below.size hg3))
      have k4 : Below w2.heap.size w2 u4 := kA.trans (Below.mono hg4 kA.size)
      have h4 := h2u.below k4
      have hlz := h2u.seen.row.lt
      have b3 := ((Blk.newAt u3 #[.int .i64 2, .int .i64 ta, .slice p m q] 114 u3.heap.size rfl _ rfl).below hg4 (by simp)).whole
      have hb4 := h52.below k4
      refine opAppAt (elT UV) 3 40 40 114 _ Tryz.underlying40 infoT3 rfl (by decide) (by decide) u4 rfl rfl (some 29) rfl (.tmp 26) (.tmp 28) rfl 0 (.slice M2.sa M2.sn M2.sc) (DV.seen) rfl h4.seen.row u3.heap.size 1 (2, ta, tb) [.int .i64 2, .int .i64 ta, .slice p m q] rfl b3 ⟨rfl, one88 _ _ _ _ _, p, m, q, rfl, hb4, hi1, hi2⟩ HZS.out (Nat.zero_le _) ?_ ?_
      · exact fun w' x vs hg hx => (show Sp UV UV (fun j => (Value.slice M2.sa M2.sn M2.sc).ownBlock = some j) u4 w' from ⟨⟨hg.os, hg.tape, hg.output, hg.size, fun j hj hn => hg.block j hj fun e => hn e.symm⟩, fun j hj _ ht => absurd (ht.one (h4.seen.row.ty j hj)) (by decide), fun _ hu => hu⟩).elT x vs hx
      intro v5 u5 o5 g5 hp5
      obtain ⟨a5, n5, c5, rfl, hn5⟩ := o5.shape
      simp only [Act.put, List.setIfInBounds_toArray, List.set_cons_zero, List.set_cons_succ]
      have q5 : Kp (fun j => (Value.slice M2.sa M2.sn M2.sc).ownBlock = some j) u4 u5 := ⟨g5.os, g5.tape, g5.output, g5.size, fun j hj hn => g5.block j hj fun e => hn e.symm⟩
      refine ⟨(Kp.of_below k4).trans q5, ?_⟩
      refine takeT 8 (some 30) (.pointer (some ⟨d, 0, none⟩)) rfl rfl (by kernel_rfl) (fun _ _ _ h => h) (ans_plain (by rfl) (fun w _ => by unfold execOp; go_simp)) ?_
      simp only [Act.put, List.setIfInBounds_toArray, List.set_cons_zero, List.set_cons_succ]
      refine takeT 9 (some 31) (.pointer (some ⟨d, 6, none⟩)) rfl rfl (by kernel_rfl) (fun _ _ _ h => h) (ans_plain (by rfl) (fun w _ => by unfold execOp; go_simp)) ?_
      simp only [Act.put, List.setIfInBounds_toArray, List.set_cons_zero, List.set_cons_succ]
      refine goE (by kernel_rfl) (by kernel_rfl) (by kernel_rfl) fun u6 hg6 hs6 => ?_
      have b6 := hs6.blk h2u.blk fun e => hdr d e rfl
      refine opStT rfl rfl rfl (.tmp 31) (.tmp 29) rfl d 6 rfl a5 n5 c5 rfl _ _ b6 (by simp [hc]) (endE (by kernel_rfl) fun u8 hg8 => ?_)
      have kS := kp_sum k4 g5 hg6 (kp_set u6 d 6 (.slice a5 n5 c5)) hg8
      have bS7 := b6.setC 6 (.slice a5 n5 c5)
      have bS := bS7.below hg8 bS7.lt
      have k58 : Kp (fun j => j = d) u5 u8 := ((Kp.of_below hg6).trans (kp_set u6 d 6 (.slice a5 n5 c5))).trans (Kp.of_below hg8)
      have hd5 : Blk u5 d (hc r DV M2) 91 := ((Kp.of_below k4).trans q5).blk h2u.blk fun e => hdr d e rfl
      have oS : OwS (elT fun j => UV j ∨ (w2.heap.size ≤ j ∧ j < u8.heap.size)) 3 114 u8 0 (.slice a5 n5 c5) (DV.seen ++ [(2, ta, tb)]) := o5.turn (show Sp UV (fun j => UV j ∨ (w2.heap.size ≤ j ∧ j < u8.heap.size)) (fun j => j = d) u5 u8 from ⟨k58, fun j e _ ht => by subst e; exact absurd (ht.one hd5.ty) (by decide), fun _ hu => Or.inl hu⟩).elT fun j hj => k58.block j (o5.lt j hj).2 fun e => by subst e; exact absurd ((o5.ty _ hj).one hd5.ty) (by decide)
      have hvS : ∀ j, (Value.slice a5 n5 c5).ownBlock = some j → (Value.slice M2.sa M2.sn M2.sc).ownBlock = some j ∨ w2.heap.size ≤ j := fun j hj => by
        rcases hp5 with e | e
        · exact Or.inl (by rw [← e]; exact hj)
        · rw [e] at hj
          have := Option.some.inj hj
          have := k4.size
          exact Or.inr (by omega)
      obtain ⟨q1, q2, q3⟩ := h2u.sees (L := DV.seen ++ [(2, ta, tb)]) (a := a5) (n := n5) (c := c5) kS bS oS hvS (fun t ht => by rcases List.mem_append.1 ht with ht | ht; exact h2u.len3 t ht; rw [List.mem_singleton.1 ht]; exact HL3.out)
      have HFIN : Hid (P u8) := PRE2.out u8 ⟨_, _, q1, q2, q3⟩
      clear q1 q2 q3
      clear F4 FB hdr hgr kA k4 h4 hlz b3 hb4 o5 g5 hp5 hn5 q5 b6 bS7 bS k58 hd5 oS hvS kS hg3 hs3 hg4 hs4 hg6 hs6 hg8
      clear PRE2 h2u b2 h52 ng3 HDS
      go_wp2_with fail
      go_end0
      exact ⟨rfl, HFIN.out⟩
    · have PRE2 : Hid (∀ w9, Dn U W1 d r (D.see (tk, ta, tb)) w9 → P w9) := fun w9 hh => PRE.out U W1 w9 (Kp.refl _ _) (Next.refl _ _) (by unfold DskS.act2; dsimp only; rw [if_neg h1k, if_neg h2k]; exact hh)
      clear PRE HL HZ
      go_enter Tryz.func118, Tryz.ntmps118
      go_wp2_with fail
      rw [← HW1.out, ← HG0.out]
      go_wp2_with fail
      have HZS : Hid (D.seen.length + 1 ≤ 1000000) := HZ3.out
      have hdr : ∀ j, (Value.slice M.sa M.sn M.sc).ownBlock = some j → j ≠ d := fun j hj e => by subst e; exact absurd ((h1.seen.row.ty _ hj).one h1.blk.ty) (by decide)
      have hgr : ∀ j, (Value.slice M.sa M.sn M.sc).ownBlock = some j → j ≠ g0 := fun j hj e => by subst e; exact ng (h1.seen.at_ _ hj)
      have F4 : ∀ u, Kp (fun j => (Value.slice M.sa M.sn M.sc).ownBlock = some j) W1 u → u.cell? ⟨d, 6, none⟩ = some (.slice M.sa M.sn M.sc) := fun u k => (k.blk h1.blk fun e => hdr d e rfl).cell 6
      have FB : ∀ u, Kp (fun j => (Value.slice M.sa M.sn M.sc).ownBlock = some j) W1 u → u.rangeAt g0 0 [.int .i64 tk, .int .i64 ta, .slice p m q] := fun u k => (k.blk b1 fun e => hgr _ e rfl).whole
      refine regionE 10 (S := Kp (fun j => (Value.slice M.sa M.sn M.sc).ownBlock = some j) W1) (by kernel_rfl) (Kp.of_below (Below.refl _ W1).drew) ?_
      refine takeT 0 (some 22) (.pointer (some ⟨d, 0, none⟩)) rfl rfl (by kernel_rfl) (fun _ _ _ h => h) (ans_plain (by rfl) (fun w _ => rfl)) ?_
      simp only [Act.put, List.setIfInBounds_toArray, List.set_cons_zero, List.set_cons_succ]
      refine takeT 1 (some 23) (.pointer (some ⟨d, 0, none⟩)) rfl rfl (by kernel_rfl) (fun _ _ _ h => h) (ans_plain (by rfl) (fun w _ => rfl)) ?_
      simp only [Act.put, List.setIfInBounds_toArray, List.set_cons_zero, List.set_cons_succ]
      refine takeT 2 (some 24) (.pointer (some ⟨d, 0, none⟩)) rfl rfl (by kernel_rfl) (fun _ _ _ h => h) (ans_plain (by rfl) (fun w _ => by unfold execOp; go_simp)) ?_
      simp only [Act.put, List.setIfInBounds_toArray, List.set_cons_zero, List.set_cons_succ]
      refine takeT 3 (some 25) (.pointer (some ⟨d, 6, none⟩)) rfl rfl (by kernel_rfl) (fun _ _ _ h => h) (ans_plain (by rfl) (fun w _ => by unfold execOp; go_simp)) ?_
      simp only [Act.put, List.setIfInBounds_toArray, List.set_cons_zero, List.set_cons_succ]
      refine takeT 4 (some 26) (.slice M.sa M.sn M.sc) rfl rfl (by kernel_rfl) (fun _ _ _ h => h) (ans_plain (by rfl) (fun w h => by have hc := F4 w h; unfold execOp; go_simp)) ?_
      simp only [Act.put, List.setIfInBounds_toArray, List.set_cons_zero, List.set_cons_succ]
      refine takeT 5 (some 27) (.agg #[.int .i64 tk, .int .i64 ta, .slice p m q]) rfl rfl (by kernel_rfl) (fun _ _ _ h => h) (ans_row 114 (.tmp 3) _ 3 rfl (by rfl) g0 0 rfl [.int .i64 tk, .int .i64 ta, .slice p m q] FB Tryz.underlying114 rfl rfl size88) ?_
      simp only [Act.put, List.setIfInBounds_toArray, List.set_cons_zero, List.set_cons_succ]
      refine oneE 6 (by kernel_rfl) (by kernel_rfl) fun u3 hg3 hs3 => ?_
      refine opBST (some 28) rfl rfl rfl (.tmp 27) rfl (.int .i64 tk) (.int .i64 ta) (.slice p m q) rfl ⟨hs3.alloc _, ?_⟩
      simp only [Act.put, List.setIfInBounds_toArray, List.set_cons_zero, List.set_cons_succ]
      refine oneE 7 (by kernel_rfl) (by kernel_rfl) fun u4 hg4 hs4 => ?_
      have kA : Below W1.heap.size W1 (u3.alloc (.cells #[.int .i64 tk, .int .i64 ta, .slice p m q] 114)) := ((Below.refl _ W1).drew.trans (Below.mono hg3 (Nat.le_refl _))).trans ((below_alloc u3 _).mono (Below.size hg3))
      have k4 : Below W1.heap.size W1 u4 := kA.trans (Below.mono hg4 kA.size)
      have h4 := h1.below k4
      have hlz := h1.seen.row.lt
      have b3 := ((Blk.newAt u3 #[.int .i64 tk, .int .i64 ta, .slice p m q] 114 u3.heap.size rfl _ rfl).below hg4 (by simp)).whole
      have hb4 := h51.below k4
      refine opAppAt (elT U) 3 40 40 114 _ Tryz.underlying40 infoT3 rfl (by decide) (by decide) u4 rfl rfl (some 29) rfl (.tmp 26) (.tmp 28) rfl 0 (.slice M.sa M.sn M.sc) (D.seen) rfl h4.seen.row u3.heap.size 1 (tk, ta, tb) [.int .i64 tk, .int .i64 ta, .slice p m q] rfl b3 ⟨rfl, one88 _ _ _ _ _, p, m, q, rfl, hb4, hi1, hi2⟩ HZS.out (Nat.zero_le _) ?_ ?_
      · exact fun w' x vs hg hx => (show Sp U U (fun j => (Value.slice M.sa M.sn M.sc).ownBlock = some j) u4 w' from ⟨⟨hg.os, hg.tape, hg.output, hg.size, fun j hj hn => hg.block j hj fun e => hn e.symm⟩, fun j hj _ ht => absurd (ht.one (h4.seen.row.ty j hj)) (by decide), fun _ hu => hu⟩).elT x vs hx
      intro v5 u5 o5 g5 hp5
      obtain ⟨a5, n5, c5, rfl, hn5⟩ := o5.shape
      simp only [Act.put, List.setIfInBounds_toArray, List.set_cons_zero, List.set_cons_succ]
      have q5 : Kp (fun j => (Value.slice M.sa M.sn M.sc).ownBlock = some j) u4 u5 := ⟨g5.os, g5.tape, g5.output, g5.size, fun j hj hn => g5.block j hj fun e => hn e.symm⟩
      refine ⟨(Kp.of_below k4).trans q5, ?_⟩
      refine takeT 8 (some 30) (.pointer (some ⟨d, 0, none⟩)) rfl rfl (by kernel_rfl) (fun _ _ _ h => h) (ans_plain (by rfl) (fun w _ => by unfold execOp; go_simp)) ?_
      simp only [Act.put, List.setIfInBounds_toArray, List.set_cons_zero, List.set_cons_succ]
      refine takeT 9 (some 31) (.pointer (some ⟨d, 6, none⟩)) rfl rfl (by kernel_rfl) (fun _ _ _ h => h) (ans_plain (by rfl) (fun w _ => by unfold execOp; go_simp)) ?_
      simp only [Act.put, List.setIfInBounds_toArray, List.set_cons_zero, List.set_cons_succ]
      refine goE (by kernel_rfl) (by kernel_rfl) (by kernel_rfl) fun u6 hg6 hs6 => ?_
      have b6 := hs6.blk h1.blk fun e => hdr d e rfl
      refine opStT rfl rfl rfl (.tmp 31) (.tmp 29) rfl d 6 rfl a5 n5 c5 rfl _ _ b6 (by simp [hc]) (endE (by kernel_rfl) fun u8 hg8 => ?_)
      have kS := kp_sum k4 g5 hg6 (kp_set u6 d 6 (.slice a5 n5 c5)) hg8
      have bS7 := b6.setC 6 (.slice a5 n5 c5)
      have bS := bS7.below hg8 bS7.lt
      have k58 : Kp (fun j => j = d) u5 u8 := ((Kp.of_below hg6).trans (kp_set u6 d 6 (.slice a5 n5 c5))).trans (Kp.of_below hg8)
      have hd5 : Blk u5 d (hc r D M) 91 := ((Kp.of_below k4).trans q5).blk h1.blk fun e => hdr d e rfl
      have oS : OwS (elT fun j => U j ∨ (W1.heap.size ≤ j ∧ j < u8.heap.size)) 3 114 u8 0 (.slice a5 n5 c5) (D.seen ++ [(tk, ta, tb)]) := o5.turn (show Sp U (fun j => U j ∨ (W1.heap.size ≤ j ∧ j < u8.heap.size)) (fun j => j = d) u5 u8 from ⟨k58, fun j e _ ht => by subst e; exact absurd (ht.one hd5.ty) (by decide), fun _ hu => Or.inl hu⟩).elT fun j hj => k58.block j (o5.lt j hj).2 fun e => by subst e; exact absurd ((o5.ty _ hj).one hd5.ty) (by decide)
      have hvS : ∀ j, (Value.slice a5 n5 c5).ownBlock = some j → (Value.slice M.sa M.sn M.sc).ownBlock = some j ∨ W1.heap.size ≤ j := fun j hj => by
        rcases hp5 with e | e
        · exact Or.inl (by rw [← e]; exact hj)
        · rw [e] at hj
          have := Option.some.inj hj
          have := k4.size
          exact Or.inr (by omega)
      obtain ⟨q1, q2, q3⟩ := h1.sees (L := D.seen ++ [(tk, ta, tb)]) (a := a5) (n := n5) (c := c5) kS bS oS hvS (fun t ht => by rcases List.mem_append.1 ht with ht | ht; exact h1.len3 t ht; rw [List.mem_singleton.1 ht]; exact HL3.out)
      have HFIN : Hid (P u8) := PRE2.out u8 ⟨_, _, q1, q2, q3⟩
      clear q1 q2 q3
      clear F4 FB hdr hgr kA k4 h4 hlz b3 hb4 o5 g5 hp5 hn5 q5 b6 bS7 bS k58 hd5 oS hvS kS hg3 hs3 hg4 hs4 hg6 hs6 hg8
      clear PRE2 h1 b1 h51 ng HZ3
      go_wp2_with fail
      go_end0
      exact ⟨rfl, HFIN.out⟩

end Go.Proofs.YtlenmkhmkommcaaGreat

/-
  A step of layer 8's power, by what it does to the power itself. Conditions: fewer than 2^40 steps; what a step does returns, and leaves the power as it was.
-/
namespace Go.Proofs.YtlenmkhmkommcaaGreat
open Go.RowKit

set_option maxRecDepth 100000 in
set_option maxHeartbeats 1000000 in
theorem oPStepP (w : World) {r : Nat} {S : PowS} (h : Pw w r S) {m : Nat} (hfit : S.fit m) (hm : m ≤ 1099511627776) (F : Nat) (caps : Array Value) (eF : ∀ args w, (callFunc F args).run Tryz.prog w = .ok (.enter F args) w) (R : World → World → Prop)
    (hdo : ∀ w1, Kp (fun k => k = r) w w1 → Pw w1 r S.next → Calls Tryz.prog F caps w1 fun e w2 => e = .returned (.tuple #[]) ∧ Pw w2 r S.next ∧ R w1 w2) :
    Calls Tryz.prog 116 #[.pointer (some ⟨r, 0, none⟩), .func (.func F) #[] caps] w fun e w' => e = .returned (.bool S.ok) ∧ Pw w' r S.next ∧ DoesP S r R w w' := by
  have h' := h
  obtain ⟨b, a, h1, h2, hb⟩ := h
  obtain ⟨n, fu, d, g⟩ := S
  obtain ⟨g1, g2, g3⟩ := hfit
  dsimp only at h2 g1 g2 g3 hb
  have hl := hb.lt
  have c0 := hb.cell 0
  have c4 := hb.cell 4
  have z4 := hb.free 4
  simp only [List.getElem?_cons_zero, List.getElem?_cons_succ] at c0 c4
  cases g with
  | true =>
    clear h1 h2 hb hdo
    go_enter Tryz.func116, Tryz.ntmps116
    go_wp2_with fail
    go_ret
    exact ⟨rfl, h', (show Kp (fun k => k = r) w w from Kp.refl _ _)⟩
  | false =>
    obtain ⟨e2, h3⟩ := h2 rfl
    clear h2
    clear h'
    have hb' := hb.setC 4 (.int .i64 ((n : Int) + 1))
    have k1 := kp_set w r 4 (.int .i64 ((n : Int) + 1))
    go_enter Tryz.func116, Tryz.ntmps116
    go_wp2_with fail
    generalize w.setCell ⟨r, 4, none⟩ (.int .i64 ((n : Int) + 1)) = W1 at *
    refine (oBurn W1 (d := d) h1 hb').mono ?_
    rintro e w1 ⟨rfl, hb1, k2⟩
    have k12 := k1.trans k2
    have hgo : (b && decide (a ≤ 0)) = decide (fu = 0) := by
      rw [e2]
      by_cases hf : 0 ≤ fu
      · rw [h3 hf, decide_eq_true hf, Bool.true_and]
        by_cases h0 : fu = 0
        · rw [decide_eq_true h0, decide_eq_true (by omega)]
        · rw [decide_eq_false h0, decide_eq_false (by omega)]
      · rw [decide_eq_false hf, decide_eq_false (show ¬ fu = 0 by omega)]
        rfl
    have hp : Pw w1 r (PowS.next ⟨n, fu, d, false⟩) := by
      unfold PowS.next
      rw [if_neg (by simp)]
      by_cases hf : fu < 0
      · rw [decide_eq_false (show ¬ 0 ≤ fu by omega)] at e2
        subst e2
        dsimp only
        rw [if_pos hf]
        exact ⟨false, a, h1, fun _ => ⟨(decide_eq_false (show ¬ 0 ≤ fu by omega)).symm, fun h => absurd h (by dsimp only; omega)⟩, hb1⟩
      · rw [decide_eq_true (show 0 ≤ fu by omega)] at e2
        subst e2
        obtain rfl := h3 (by omega)
        dsimp only
        rw [if_neg hf]
        rw [hgo] at hb1
        by_cases h0 : a = 0
        · subst h0
          exact ⟨true, 0, by omega, fun h => (by cases h), hb1⟩
        · rw [Bool.true_and, if_pos (by simp; omega)] at hb1
          exact ⟨true, a - 1, by omega, fun _ => ⟨(decide_eq_true (show 0 ≤ a - 1 by omega)).symm, fun _ => rfl⟩, hb1⟩
    have c3 := hb1.cell 3
    simp only [List.getElem?_cons_zero, List.getElem?_cons_succ] at c3
    have D := hdo w1 k12 hp
    clear hdo
    rw [hgo]
    have E : Hid (Calls Tryz.prog 138 #[.func (.func F) #[] caps] w1 fun e w2 => e = .returned (.tuple #[]) ∧ (Pw w2 r (PowS.next ⟨n, fu, d, false⟩) ∧ R w1 w2)) := oDo w1 F caps eF (fun w2 => Pw w2 r (PowS.next ⟨n, fu, d, false⟩) ∧ R w1 w2) D
    clear D hb hb' hb1 h1 e2 h3 g1 g2 g3 c0 c4 z4 k1 k2 hgo
    cases hz : decide (fu = 0) with
    | false =>
      go_wp2_with fail
      refine E.out.mono ?_
      rintro e w2 ⟨rfl, q1, q2⟩
      go_wp2_with fail
      go_ret
      unfold PowS.ok DoesP PowS.does
      dsimp only
      rw [hz]
      exact ⟨rfl, q1, w1, w2, k12, q2, Kp.refl _ _⟩
    | true =>
      cases d with
      | false =>
        go_wp2_with fail
        go_ret
        unfold PowS.ok DoesP PowS.does
        dsimp only
        rw [hz]
        exact ⟨rfl, hp, k12⟩
      | true =>
        go_wp2_with fail
        refine E.out.mono ?_
        rintro e w2 ⟨rfl, q1, q2⟩
        go_wp2_with fail
        go_ret
        unfold PowS.ok DoesP PowS.does
        dsimp only
        rw [hz]
        exact ⟨rfl, q1, w1, w2, k12, q2, Kp.refl _ _⟩

end Go.Proofs.YtlenmkhmkommcaaGreat
