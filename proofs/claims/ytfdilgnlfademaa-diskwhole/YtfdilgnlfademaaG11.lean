/-
  3 texts in one. No statement of the seat is proved here.
-/
import Derived.Test.YtfdilgnlfademaaG10

/-
  Append with the new slice's place told; what a change makes of the disk in memory; the contract of layer 9's program's change. Condition: lists of at most a million.
-/
namespace Go.Proofs.Ytfdilgnlfademaa
open Go.RowKit
set_option linter.unusedVariables false

theorem wp_app_at {o : Oper} {a : Act} {K : Act → World → Prop} {Q : Exit → Act → World → Prop} (w : World) (s x : Operand) (t : TypeId)
    (ho : o.op = .call { callee := .builtin .append, args := #[s, x], argTypes := #[t, t] })
    (base : Nat) (e : TypeId) (i : TypeInfo) (z : Value) (size bytes : Nat) (ht : Try.prog.underlying t = some (.slice e)) (hi : Try.prog.info? e = some i) (hz : i.zero = some z)
    (hsize : i.size = size) (hby : i.bytes = bytes) (hzs : z.cells.size = size) (hsz : 0 < size)
    (v : Value) (n : Nat) (xs : List Value) (hs : a.eval s = v) (hown : w.ownsRow base e size v n xs)
    (ad : Addr) (m c : Nat) (news : List Value) (hx : a.eval x = .slice (some ad) m c) (hl : news.length = m * size) (hnews : ∀ j u, news[j]? = some u → w.cell? (ad.add j) = some u) (h1 : ∀ u ∈ news, u.oneCell' = true)
    (h63 : n + m ≤ maxLen) (hbytes : (n + m) * bytes ≤ 140737488355328) (hbase : base ≤ w.heap.size)
    (h : ∀ v' w', w'.ownsRow base e size v' (n + m) (xs ++ news) → w.grownBy w' v.ownBlock → (v'.ownBlock = v.ownBlock ∨ v'.ownBlock = some w.heap.size) → K (a.put o.dst v') w') : o.wp Try.prog a w K Q := by
  obtain ⟨v', w', hr, h2, h3, h4, h5⟩ := run_append_own_at (P := Try.prog) w base t o.type e i z size bytes ht hi hz hsize hby hzs hsz v n xs hown ad m c news hl hnews h1 h63 hbytes hbase
  unfold Oper.wp execOp
  simp only [ho, resolve, invoke, builtin, Sem.run_bind, Sem.run_pure, Result.andThen_ok, List.map_toArray, List.map_cons, List.map_nil, hs, hx, hr]
  exact h v' w' h2 h3 h5
/-- append of one struct out of a literal, as an operation of a region that draws its order; where the new slice lies. -/
theorem opAppAt {α : Type} (el : World → α → List Value → Prop) (sz by_ : Nat) (t e : TypeId) (z : Value) (ht : Try.prog.underlying t = some (.slice e)) (hi : (Try.prog.info? e).map (fun i => (i.zero, i.size, i.bytes)) = some (some z, sz, by_)) (hzs : z.cells.size = sz) (hsz : 0 < sz) (hby : by_ ≤ 1000)
    {ops : Array Oper} {i : Nat} {oi : Oper} {a : Act} {Q : Exit → Act → World → Prop} {K : Act → World → Prop} (w : World) (hii : ops[i]? = some oi) (hgd : oi.guard = none) (d : Option Tmp) (hd : oi.dst = d) (s x : Operand)
    (ho : oi.op = Op.call { callee := Callee.builtin Builtin.append, args := #[s, x], argTypes := #[t, t] }) (base : Nat) (v : Value) (l : List α) (hs : a.eval s = v) (hown : OwS el sz e w base v l)
    (b c : Nat) (y : α) (vs : List Value) (hx : a.eval x = .slice (some ⟨b, 0, none⟩) 1 c) (hrg : w.rangeAt b 0 vs) (hrow : Row el sz w y vs) (hz : l.length + 1 ≤ 1000000) (hbase : base ≤ w.heap.size)
    (hel : ∀ w' x vs, w.grownBy w' v.ownBlock → el w x vs → el w' x vs)
    (h : ∀ v' w', OwS el sz e w' base v' (l ++ [y]) → w.grownBy w' v.ownBlock → (v'.ownBlock = v.ownBlock ∨ v'.ownBlock = some w.heap.size) → K (a.put d v') w') : wpOp Try.prog ops Q i K a w := by
  subst hd
  obtain ⟨i0, hi, hz0, hz1, hz2⟩ := info_parts hi
  obtain ⟨rows, hr, howr⟩ := hown
  obtain ⟨h1, h2, h3⟩ := hrow
  unfold wpOp
  simp only [hii]
  rw [if_pos (by simp [Region.wanted, hgd])]
  left
  refine wp_app_at w s x t ho base e i0 z sz by_ ht hi hz0 hz1 hz2 hzs hsz v _ _ hs howr ⟨b, 0, none⟩ 1 c vs hx (by rw [h1, Nat.one_mul]) (fun j u hj => by rw [add_none]; exact hrg j u hj) h2 (by unfold maxLen; omega) (by have := Nat.mul_le_mul hz hby; omega) hbase ?_
  intro v' w' ho' hg hp
  refine h v' w' ⟨rows ++ [vs], ?_, ?_⟩ hg hp
  · exact (hr.mono fun y vs ⟨a1, a2, a3⟩ => ⟨a1, a2, hel w' y vs hg a3⟩).append ⟨⟨h1, h2, hel w' y vs hg h3⟩, trivial⟩
  · rw [List.flatten_append, List.length_append]
    simp only [List.flatten_cons, List.flatten_nil, List.append_nil, List.length_cons, List.length_nil]
    exact ho'
theorem infoY : (Try.prog.info? 26).map (fun i => (i.zero, i.size, i.bytes)) = some (some (.slice none 0 0), 1, 24) := by kernel_rfl
theorem infoT3 : (Try.prog.info? 88).map (fun i => (i.zero, i.size, i.bytes)) = some (some (.agg #[.int .i64 0, .int .i64 0, .slice none 0 0]), 3, 40) := by kernel_rfl
theorem infoQ : (Try.prog.info? 28).map (fun i => (i.zero, i.size, i.bytes)) = some (some (.agg #[.int .i64 0, .int .i64 0, .int .i64 0, .slice none 0 0, .int .i64 0]), 5, 56) := by kernel_rfl
theorem OwS.grownU {α : Type} {el : (Nat → Prop) → World → α → List Value → Prop} {U : Nat → Prop} {sz : Nat} {e : TypeId} {w w' : World} {base : Nat} {v : Value} {l : List α} (h : OwS (el U) sz e w base v l) (he : ∀ {U U' T : Nat → Prop} {w w' : World}, Sp U U' T w w' → ∀ x vs, el U w x vs → el U' w' x vs) (k : Below w.heap.size w w') : OwS (el U) sz e w' base v l :=
  h.turn (he (T := fun _ => False) ⟨Kp.of_below k, fun _ hf => hf.elim, fun _ hu => hu⟩) fun j hj => k.block j (h.lt j hj).2
/-- A change, in memory. -/
theorem Dm.changed {U : Nat → Prop} {w w' : World} {d r : Nat} {D : DskS} {M : Mm} (h : Dm U w d r D M) {at_ : Int} {b : List UInt8} {v : Value} (k : Kp (fun j => ((M.f at_).getD nilV).ownBlock = some j ∨ j = M.mp) w w') (hm : Mp w' M.mp (updI M.f at_ v))
    (ho : OwS (elY fun j => U j ∨ (w.heap.size ≤ j ∧ j < w'.heap.size)) 1 26 w' 0 v (pastL D.safe at_ ++ [b])) (hv : ∀ j, v.ownBlock = some j → ((M.f at_).getD nilV).ownBlock = some j ∨ w.heap.size ≤ j) (hl : b.length = 512) :
    ∃ U' f', Dm U' w' d r { D with safe := D.safe ++ [(at_, b)] } { M with f := f' } ∧ Next w U U' ∧ Kp (Wr U w) w w' := by
  have hT5 : ∀ j, (((M.f at_).getD nilV).ownBlock = some j ∨ j = M.mp) → U j ∧ ∀ e, e ≠ 26 → ¬ Ty w j e := by
    rintro j (hj | rfl)
    · exact ⟨h.past.at_ _ _ hj, fun e he ht => he (ht.one ((h.past.row at_).ty j hj))⟩
    · exact ⟨h.past.inU, fun e _ => h.past.map.noTy e⟩
  have s : Sp U (fun j => U j ∨ (w.heap.size ≤ j ∧ j < w'.heap.size)) (fun j => ((M.f at_).getD nilV).ownBlock = some j ∨ j = M.mp) w w' := ⟨k, fun j ht _ => (hT5 j ht).2 5 (by decide), fun j hj => Or.inl hj⟩
  have hblk : ∀ j, Ty w j 74 → ¬ (((M.f at_).getD nilV).ownBlock = some j ∨ j = M.mp) := fun j ht hT => (hT5 j hT).2 _ (by decide) ht
  refine ⟨fun j => U j ∨ (w.heap.size ≤ j ∧ j < w'.heap.size), updI M.f at_ v, ⟨?_, Or.inl h.inD, Or.inl h.inR, ?_, ?_, ⟨hm, Or.inl h.past.inU, ?_, ?_, ?_⟩, ?_, ?_, h.two, ?_, h.maps, ?_, h.len2, h.len3⟩, ?_, ?_⟩
  · rintro j (hj | hj)
    · exact Nat.lt_of_lt_of_le (h.lt j hj) k.size
    · exact hj.2
  · exact k.blk h.blk (hblk d h.blk.ty)
  · exact h.pw.same (k.block r h.pw.lt fun hT => (hT5 r hT).2 _ (by decide) h.pw.ty)
  · intro k'
    by_cases hk : k' = at_
    · subst hk
      show OwS _ _ _ _ _ (((updI M.f k' v) k').getD nilV) (pastL (D.safe ++ [(k', b)]) k')
      rw [pastL_same, show (updI M.f k' v) k' = some v from if_pos rfl]
      exact ho
    · show OwS _ _ _ _ _ (((updI M.f at_ v) k').getD nilV) (pastL (D.safe ++ [(at_, b)]) k')
      rw [pastL_other _ hk, show (updI M.f at_ v) k' = M.f k' from if_neg hk]
      refine (h.past.row k').turn s.elY fun j hj => k.block j ((h.past.row k').lt j hj).2 fun hT => ?_
      rcases hT with hT | rfl
      · exact hk (h.past.two _ _ j hj hT)
      · exact h.past.map.noTy _ ((h.past.row k').ty _ hj)
  · intro k' j hj
    dsimp only at hj
    by_cases hk : k' = at_
    · subst hk
      rw [show (updI M.f k' v) k' = some v from if_pos rfl] at hj
      rcases hv j hj with hj' | hj'
      · exact Or.inl (h.past.at_ _ _ hj')
      · exact Or.inr ⟨hj', (ho.lt j hj).2⟩
    · rw [show (updI M.f at_ v) k' = M.f k' from if_neg hk] at hj
      exact Or.inl (h.past.at_ _ _ hj)
  · have key : ∀ k' j, k' ≠ at_ → v.ownBlock = some j → ((M.f k').getD nilV).ownBlock = some j → False := fun k' j hk h1 h2 => by
      rcases hv j h1 with h3 | h3
      · exact hk (h.past.two _ _ j h2 h3)
      · have := ((h.past.row k').lt j h2).2
        omega
    intro k1 k2 j h1 h2
    dsimp only at h1 h2
    by_cases e1 : k1 = at_
    · by_cases e2 : k2 = at_
      · rw [e1, e2]
      · subst e1
        rw [show (updI M.f k1 v) k1 = some v from if_pos rfl] at h1
        rw [show (updI M.f k1 v) k2 = M.f k2 from if_neg e2] at h2
        exact (key k2 j e2 h1 h2).elim
    · by_cases e2 : k2 = at_
      · subst e2
        rw [show (updI M.f k2 v) k2 = some v from if_pos rfl] at h2
        rw [show (updI M.f k2 v) k1 = M.f k1 from if_neg e1] at h1
        exact (key k1 j e1 h2 h1).elim
      · rw [show (updI M.f at_ v) k1 = M.f k1 from if_neg e1] at h1
        rw [show (updI M.f at_ v) k2 = M.f k2 from if_neg e2] at h2
        exact h.past.two k1 k2 j h1 h2
  · exact h.wait.turn s fun j hT _ hj => (hT5 j hT).2 _ (by decide) (h.wait.row.ty j hj)
  · exact h.seen.turn s fun j hT _ hj => (hT5 j hT).2 _ (by decide) (h.seen.row.ty j hj)
  · refine h.plot.turn s fun j hT _ => ⟨fun hm' => ?_, (hT5 j hT).2 _ (by decide)⟩
    rcases hT with hT | rfl
    · exact (h.plot.map j hm').1.noTy _ ((h.past.row at_).ty j hT)
    · exact h.maps _ hm' rfl
  · intro c hc
    rcases List.mem_append.1 hc with hc | hc
    · exact h.len1 c hc
    · rw [List.mem_singleton.1 hc]
      exact hl
  · rintro j (hj | hj)
    · exact Or.inl hj
    · exact Or.inr hj.1
  · exact k.mono fun j _ hT => ⟨(hT5 j hT).1, (hT5 j hT).2 5 (by decide)⟩
theorem ans_lookV {ops : Array Oper} {S : World → Prop} {oi : Oper} {a : Act} (x y : Operand) (T K E : TypeId) (ho : oi.op = Op.lookup T x y false) (hw : Region.wanted oi (yielded ops a.tmps) = true) (hm : Try.prog.underlying T = some (.map K E)) (hd : Try.prog.underlying K = some (.int .i64)) (z : Value) (hz : ∀ w, (zeroValue E).run Try.prog w = .ok z w)
    (m : Nat) (f : Int → Option Value) (hx : a.eval x = .map (some m)) (k : Int) (hy : a.eval y = .int .i64 k) (h : ∀ w, S w → Mp w m f) (v : Value) (hv : (f k).getD z = v) : Ans Try.prog ops S oi v a := by
  rw [← hv]
  exact ans_look x y T K E ho hw hm hd z hz m f hx k hy h
/-- A literal of one slice, the one that may come up. -/
theorem opBSY {ops : Array Oper} {Q : Exit → Act → World → Prop} {i : Nat} {oi : Oper} (d : Option Tmp) (hi : ops[i]? = some oi) (hd : oi.dst = d) (hg : oi.guard = none) (x : Operand) (ho : oi.op = .buildSlice 99 1 #[(0, x)]) {K : Act → World → Prop} {a : Act} {w : World} (a1 : Option Addr) (n1 c1 : Nat) (hx : a.eval x = .slice a1 n1 c1)
    (k : K (a.put d (.slice (some ⟨w.heap.size, 0, none⟩) 1 1)) (w.alloc (.cells #[.slice a1 n1 c1] 26))) : wpOp Try.prog ops Q i K a w := by
  subst hd
  have hK : Hid _ := k
  clear k
  unfold wpOp
  simp only [hi]
  rw [if_pos (by simp [Region.wanted, hg])]
  left
  unfold Oper.wp execOp
  simp only [ho, List.map_toArray, List.map_cons, List.map_nil, hx]
  go_simp
  exact hK.out

set_option maxRecDepth 100000 in
set_option maxHeartbeats 4000000 in
theorem oChange (w : World) {U : Nat → Prop} {d r : Nat} {D : DskS} {M : Mm} (h : Dm U w d r D M) (hz : D.safe.length + 1 ≤ 1000000) (at_ : Int) {p : Option Addr} {m q : Nat} {b : List UInt8} (hb : B5 U w p m q b) (hl : b.length = 512) :
    Calls Try.prog 45 #[.pointer (some ⟨d, 0, none⟩), .int .i64 at_, .slice p m q] w fun e w' => e = .returned (.tuple #[]) ∧ ∃ U' f', Dm U' w' d r { D with safe := D.safe ++ [(at_, b)] } { M with f := f' } ∧ Next w U U' ∧ Kp (Wr U w) w w' := by
  obtain ⟨a, n, c, hv, hln⟩ := (h.past.row at_).shape
  have hpl := pastL_len D.safe at_
  have KEY : Hid (∀ w' v, Kp (fun j => (Value.slice a n c).ownBlock = some j ∨ j = M.mp) w w' → Mp w' M.mp (updI M.f at_ v) → OwS (elY fun j => U j ∨ (w.heap.size ≤ j ∧ j < w'.heap.size)) 1 26 w' 0 v (pastL D.safe at_ ++ [b]) → (∀ j, v.ownBlock = some j → (Value.slice a n c).ownBlock = some j ∨ w.heap.size ≤ j) → ∃ U' f', Dm U' w' d r { D with safe := D.safe ++ [(at_, b)] } { M with f := f' } ∧ Next w U U' ∧ Kp (Wr U w) w w') := fun w' v k hm ho hp => by rw [← hv] at k hp; exact h.changed k hm ho hp hl
  have hrow := h.past.row at_
  rw [hv] at hrow
  have hmp := h.past.map
  have hmr : ∀ j, (Value.slice a n c).ownBlock = some j → j ≠ M.mp := fun j hj e => by subst e; exact hmp.noTy _ (hrow.ty _ hj)
  have hdr : ∀ j, (Value.slice a n c).ownBlock = some j → j ≠ d := fun j hj e => by subst e; exact absurd ((hrow.ty _ hj).one h.blk.ty) (by decide)
  have hr5 : ∀ j, (Value.slice a n c).ownBlock = some j → ¬ Ty w j 5 := fun j hj ht => absurd ((hrow.ty _ hj).one ht) (by decide)
  have hlz := hrow.lt
  have hlt := h.blk.lt
  have hbk := h.blk
  have F3 : ∀ u, Kp (fun j => (Value.slice a n c).ownBlock = some j) w u → u.cell? ⟨d, 3, none⟩ = some (.map (some M.mp)) := fun u k => (k.blk hbk fun e => hdr d e rfl).cell 3
  have FM : ∀ u, Kp (fun j => (Value.slice a n c).ownBlock = some j) w u → Mp u M.mp M.f := fun u k => hmp.same (k.block M.mp hmp.lt fun e => hmr _ e rfl)
  obtain ⟨P, hP⟩ : ∃ P : World → Prop, P = fun w' => ∃ U' f', Dm U' w' d r { D with safe := D.safe ++ [(at_, b)] } { M with f := f' } ∧ Next w U U' ∧ Kp (Wr U w) w w' := ⟨_, rfl⟩
  have KEYP : Hid (∀ w' v, Kp (fun j => (Value.slice a n c).ownBlock = some j ∨ j = M.mp) w w' → Mp w' M.mp (updI M.f at_ v) → OwS (elY fun j => U j ∨ (w.heap.size ≤ j ∧ j < w'.heap.size)) 1 26 w' 0 v (pastL D.safe at_ ++ [b]) → (∀ j, v.ownBlock = some j → (Value.slice a n c).ownBlock = some j ∨ w.heap.size ≤ j) → P w') := by rw [hP]; exact KEY.out
  show Calls _ _ _ _ fun e w' => e = .returned (.tuple #[]) ∧ (fun w' => ∃ U' f', Dm U' w' d r { D with safe := D.safe ++ [(at_, b)] } { M with f := f' } ∧ Next w U U' ∧ Kp (Wr U w) w w') w'
  rw [← hP]
  have hnz : (pastL D.safe at_).length + 1 ≤ 1000000 := by omega
  generalize pastL D.safe at_ = L at *
  clear hP KEY h hl hz hpl
  have HV : Hid ((M.f at_).getD nilV = .slice a n c) := hv
  clear hv
  go_enter Try.func45, Try.ntmps45
  go_wp2_with fail
  refine regionE 14 (S := Kp (fun j => (Value.slice a n c).ownBlock = some j) w) (by kernel_rfl) (Kp.of_below (Below.refl _ w).drew) ?_
  refine takeT 0 (some 6) (.pointer (some ⟨d, 0, none⟩)) rfl rfl (by kernel_rfl) (fun _ _ _ h => h) (ans_plain (by rfl) (fun w _ => rfl)) ?_
  simp only [Act.put, List.setIfInBounds_toArray, List.set_cons_zero, List.set_cons_succ]
  refine takeT 1 (some 7) (.pointer (some ⟨d, 0, none⟩)) rfl rfl (by kernel_rfl) (fun _ _ _ h => h) (ans_plain (by rfl) (fun w _ => by unfold execOp; go_simp)) ?_
  simp only [Act.put, List.setIfInBounds_toArray, List.set_cons_zero, List.set_cons_succ]
  refine takeT 2 (some 8) (.pointer (some ⟨d, 3, none⟩)) rfl rfl (by kernel_rfl) (fun _ _ _ h => h) (ans_plain (by rfl) (fun w _ => by unfold execOp; go_simp)) ?_
  simp only [Act.put, List.setIfInBounds_toArray, List.set_cons_zero, List.set_cons_succ]
  refine takeT 3 (some 9) (.map (some M.mp)) rfl rfl (by kernel_rfl) (fun _ _ _ h => h) (ans_plain (by rfl) (fun w h => by have hc := F3 w h; unfold execOp; go_simp)) ?_
  simp only [Act.put, List.setIfInBounds_toArray, List.set_cons_zero, List.set_cons_succ]
  refine takeT 4 (some 10) (.int .i64 at_) rfl rfl (by kernel_rfl) (fun _ _ _ h => h) (ans_plain (by rfl) (fun w _ => rfl)) ?_
  simp only [Act.put, List.setIfInBounds_toArray, List.set_cons_zero, List.set_cons_succ]
  refine takeT 5 (some 11) (.pointer (some ⟨d, 0, none⟩)) rfl rfl (by kernel_rfl) (fun _ _ _ h => h) (ans_plain (by rfl) (fun w _ => rfl)) ?_
  simp only [Act.put, List.setIfInBounds_toArray, List.set_cons_zero, List.set_cons_succ]
  refine takeT 6 (some 12) (.pointer (some ⟨d, 0, none⟩)) rfl rfl (by kernel_rfl) (fun _ _ _ h => h) (ans_plain (by rfl) (fun w _ => by unfold execOp; go_simp)) ?_
  simp only [Act.put, List.setIfInBounds_toArray, List.set_cons_zero, List.set_cons_succ]
  refine takeT 7 (some 13) (.pointer (some ⟨d, 3, none⟩)) rfl rfl (by kernel_rfl) (fun _ _ _ h => h) (ans_plain (by rfl) (fun w _ => by unfold execOp; go_simp)) ?_
  simp only [Act.put, List.setIfInBounds_toArray, List.set_cons_zero, List.set_cons_succ]
  refine takeT 8 (some 14) (.map (some M.mp)) rfl rfl (by kernel_rfl) (fun _ _ _ h => h) (ans_plain (by rfl) (fun w h => by have hc := F3 w h; unfold execOp; go_simp)) ?_
  simp only [Act.put, List.setIfInBounds_toArray, List.set_cons_zero, List.set_cons_succ]
  refine takeT 9 (some 15) (.int .i64 at_) rfl rfl (by kernel_rfl) (fun _ _ _ h => h) (ans_plain (by rfl) (fun w _ => rfl)) ?_
  simp only [Act.put, List.setIfInBounds_toArray, List.set_cons_zero, List.set_cons_succ]
  refine takeT 10 (some 16) (.slice a n c) rfl rfl (by kernel_rfl) (fun _ _ _ h => h) (ans_lookV (.tmp 14) (.tmp 15) 71 3 99 rfl (by rfl) underP under3 nilV zeroP M.mp M.f rfl at_ rfl FM _ HV.out) ?_
  simp only [Act.put, List.setIfInBounds_toArray, List.set_cons_zero, List.set_cons_succ]
  refine takeT 11 (some 17) (.slice p m q) rfl rfl (by kernel_rfl) (fun _ _ _ h => h) (ans_plain (by rfl) (fun w _ => rfl)) ?_
  simp only [Act.put, List.setIfInBounds_toArray, List.set_cons_zero, List.set_cons_succ]
  refine oneE 12 (by kernel_rfl) (by kernel_rfl) fun u3 hg3 hs3 => ?_
  refine opBSY (some 18) rfl rfl rfl (.tmp 17) rfl p m q rfl ⟨hs3.alloc _, ?_⟩
  simp only [Act.put, List.setIfInBounds_toArray, List.set_cons_zero, List.set_cons_succ]
  refine oneE 13 (by kernel_rfl) (by kernel_rfl) fun u4 hg4 hs4 => ?_
  have kA : Below w.heap.size w (u3.alloc (.cells #[.slice p m q] 26)) := ((Below.refl _ w).drew.trans (Below.mono hg3 (Nat.le_refl _))).trans ((below_alloc u3 _).mono (Below.size hg3))
  have k4 : Below w.heap.size w u4 := kA.trans (Below.mono hg4 kA.size)
  have s4 : Sp U U (fun _ => False) w u4 := ⟨Kp.of_below k4, fun _ hf => hf.elim, fun _ hu => hu⟩
  have o4 : OwS (elY U) 1 26 u4 0 (.slice a n c) L := hrow.turn s4.elY fun j hj => k4.block j (hlz j hj).2
  have b3 := ((Blk.newAt u3 #[.slice p m q] 26 u3.heap.size rfl _ rfl).below hg4 (by simp)).whole
  have hb4 := s4.b5 hb
  refine opAppAt (elY U) 1 24 99 26 _ Try.underlying99 infoY rfl (by decide) (by decide) u4 rfl rfl (some 19) rfl (.tmp 16) (.tmp 18) rfl 0 (.slice a n c) L rfl o4 u3.heap.size 1 b [.slice p m q] rfl b3 ⟨rfl, by intro u hu; simp at hu; subst hu; rfl, p, m, q, rfl, hb4⟩ hnz (Nat.zero_le _) ?_ ?_
  · exact fun w' x vs hg hx => (show Sp U U (fun j => (Value.slice a n c).ownBlock = some j) u4 w' from ⟨⟨hg.os, hg.tape, hg.output, hg.size, fun j hj hn => hg.block j hj fun e => hn e.symm⟩, fun j hj _ ht => hr5 j hj (ht.same (k4.block j (hlz j hj).2).symm), fun _ hu => hu⟩).elY x vs hx
  intro v5 u5 o5 g5 hp5
  simp only [Act.put, List.setIfInBounds_toArray, List.set_cons_zero, List.set_cons_succ]
  have q5 : Kp (fun j => (Value.slice a n c).ownBlock = some j) u4 u5 := ⟨g5.os, g5.tape, g5.output, g5.size, fun j hj hn => g5.block j hj fun e => hn e.symm⟩
  have q5w : Kp (fun j => (Value.slice a n c).ownBlock = some j) w u5 := (Kp.of_below k4).trans q5
  refine ⟨q5w, ?_⟩
  refine goE (by kernel_rfl) (by kernel_rfl) (by kernel_rfl) fun u6 hg6 hs6 => ?_
  refine opMset 14 71 3 99 (.tmp 9) (.tmp 10) (.tmp 19) rfl rfl rfl rfl underP under3 M.mp M.f rfl at_ rfl v5 rfl (FM u6 hs6) fun u7 hm7 g7 => ?_
  refine endE (by kernel_rfl) fun u8 hg8 => ?_
  have m5 : M.mp < u5.heap.size := Nat.lt_of_lt_of_le hmp.lt q5w.size
  have k68 : Kp (fun j => j = M.mp) u5 u8 := ((Kp.of_below hg6).trans (Kp.of_grown g7)).trans (Kp.of_below hg8)
  have k8 : Kp (fun j => (Value.slice a n c).ownBlock = some j ∨ j = M.mp) w u8 := (q5w.mono fun j _ hj => Or.inl hj).trans (k68.mono fun j _ hj => Or.inr hj)
  have hv5 : ∀ j, v5.ownBlock = some j → j ≠ M.mp := fun j hj e => by subst e; exact ((FM u6 hs6).same (show u5.heap[M.mp]? = u6.heap[M.mp]? from (Below.block hg6 M.mp m5).symm)).noTy _ (o5.ty _ hj)
  have o8 : OwS (elY fun j => U j ∨ (w.heap.size ≤ j ∧ j < u8.heap.size)) 1 26 u8 0 v5 (L ++ [b]) := o5.turn (show Sp U (fun j => U j ∨ (w.heap.size ≤ j ∧ j < u8.heap.size)) (fun j => j = M.mp) u5 u8 from ⟨k68, fun j e _ ht => by subst e; exact ((FM u6 hs6).same (show u5.heap[M.mp]? = u6.heap[M.mp]? from (Below.block hg6 M.mp m5).symm)).noTy _ ht, fun _ hu => Or.inl hu⟩).elY fun j hj => k68.block j (o5.lt j hj).2 fun e => hv5 j hj e
  have fin := KEYP.out u8 v5 k8 (hm7.same (Below.block hg8 M.mp hm7.lt)) o8 (fun j hj => by
    rcases hp5 with e | e
    · exact Or.inl (by rw [← e]; exact hj)
    · rw [e] at hj
      have := Option.some.inj hj
      have := k4.size
      exact Or.inr (by omega))
  have HFIN : Hid (P u8) := fin
  clear fin o8 hv5 k8 k68 m5 hg8 hm7 g7 hg6 hs6 q5w q5 hp5 g5 o5 hb4 b3 o4 s4 k4 kA hg4 hs4 hg3 hs3 F3 FM hrow hmp KEYP hb hbk
  go_wp2_with fail
  go_end0
  exact ⟨rfl, HFIN.out⟩

end Go.Proofs.Ytfdilgnlfademaa

/-
  Contracts of layer 9's program: settle and Crash. Conditions: lists of at most a million.
-/
namespace Go.Proofs.Ytfdilgnlfademaa
open Go.RowKit
set_option linter.unusedVariables false

/-- Blocks of touches, and the disk's own, may have been written: the rest is as it was. -/
theorem Dm.pp {U U' T : Nat → Prop} {w w' : World} {d r : Nat} {D : DskS} {M : Mm} (h : Dm U w d r D M) (s : Sp U U' T w w') (hT : ∀ j, T j → U j → Ty w j 88 ∨ Ty w j 74) : PastI U' w' M.mp M.f D.safe ∧ PlotI U' w' M.mq M.g D.steps D.plot ∧ Pw w' r D.p := by
  have no : ∀ j e, T j → U j → e ≠ 88 → e ≠ 74 → ¬ Ty w j e := fun j e ht hu h1 h2 he => by
    rcases hT j ht hu with h3 | h3
    · exact h1 (he.one h3)
    · exact h2 (he.one h3)
  refine ⟨h.past.turn s fun j ht hu => ⟨fun e => ?_, no j _ ht hu (by decide) (by decide)⟩, h.plot.turn s fun j ht hu => ⟨fun e => ?_, no j _ ht hu (by decide) (by decide)⟩, h.pw.same (s.kp.block r h.pw.lt fun ht => no r _ ht h.inR (by decide) (by decide) h.pw.ty)⟩
  · subst e
    rcases hT _ ht hu with h3 | h3
    · exact h.past.map.noTy _ h3
    · exact h.past.map.noTy _ h3
  · rcases hT _ ht hu with h3 | h3
    · exact (h.plot.map j e).1.noTy _ h3
    · exact (h.plot.map j e).1.noTy _ h3
theorem Dm.not5 {U : Nat → Prop} {w : World} {d r : Nat} {D : DskS} {M : Mm} (h : Dm U w d r D M) : Wr U w d := ⟨h.inD, fun ht => absurd (ht.one h.blk.ty) (by decide)⟩
/-- Nothing waits. -/
theorem Dm.cleared {U : Nat → Prop} {w : World} {d r : Nat} {D : DskS} {M : Mm} (h : Dm U w d r D M) : Dn U w d r { D with loose := [] } (w.setCell ⟨d, 4, none⟩ (.slice none 0 0)) := by
  have k := kp_set w d 4 (.slice none 0 0)
  have s : Sp U U (fun j => j = d) w (w.setCell ⟨d, 4, none⟩ (.slice none 0 0)) := ⟨k, fun j e _ ht => by subst e; exact h.not5.2 ht, fun _ hu => hu⟩
  obtain ⟨p1, p2, p3⟩ := h.pp s fun j e _ => Or.inr (by rw [e]; exact h.blk.ty)
  refine ⟨U, { M with wa := none, wn := 0, wc := 0 }, ⟨fun j hj => Nat.lt_of_lt_of_le (h.lt j hj) k.size, h.inD, h.inR, h.blk.setC 4 _, p3, p1, ⟨OwS.nil _ _ _ _ _, fun j hj => by simp [Value.ownBlock] at hj⟩, h.seen.turn s fun j e _ hj => ?_, fun j hj => by simp [Value.ownBlock] at hj, p2, h.maps, h.len1, (fun c hc => by cases hc), h.len3⟩, Next.refl _ _, k.mono fun j _ e => by rw [e]; exact h.not5⟩
  subst e
  exact absurd ((h.seen.row.ty _ hj).one h.blk.ty) (by decide)
/-- These are safe, too. -/
def DskS.plus (D : DskS) (l : List Chg) : DskS := { D with safe := D.safe ++ l }
theorem plus_plus (D : DskS) (l m : List Chg) : (D.plus l).plus m = D.plus (l ++ m) := by simp [DskS.plus, List.append_assoc]
theorem plus_nil (D : DskS) : D.plus [] = D := by simp [DskS.plus]
theorem settles_plus : ∀ (l : List Chg) (D : DskS), (∀ c ∈ l, c.2.length = 512) → D.settles l = D.plus l
  | [], D, _ => (plus_nil D).symm
  | c :: l, D, h => by
    have e : D.settles (c :: l) = (D.settle c.1 c.2).settles l := rfl
    rw [e, settles_plus l _ fun c hc => h c (List.mem_cons_of_mem _ hc), show D.settle c.1 c.2 = D.plus [c] from by unfold DskS.settle DskS.plus; rw [fit_same (h c (List.mem_cons_self ..))], plus_plus]
    rfl
/-- In the middle of a loop over what waits. -/
def Lp (U : Nat → Prop) (w : World) (d r : Nat) (D : DskS) (M : Mm) (l : List Chg) (wr : World) : Prop := ∃ U' f', Dm U' wr d r (D.plus l) { M with f := f' } ∧ Next w U U' ∧ Kp (Wr U w) w wr
theorem Lp.start {U : Nat → Prop} {w : World} {d r : Nat} {D : DskS} {M : Mm} (h : Dm U w d r D M) : Lp U w d r D M [] w := ⟨U, M.f, by rw [plus_nil]; exact h, Next.refl _ _, Kp.refl _ _⟩
theorem Lp.grow {U : Nat → Prop} {w wr w' : World} {d r : Nat} {D : DskS} {M : Mm} {l : List Chg} (h : Lp U w d r D M l wr) (k : Below wr.heap.size wr w') : Lp U w d r D M l w' := by
  obtain ⟨U', f', hm, hn, hk⟩ := h
  exact ⟨U', f', hm.below k, hn, hk.trans (Kp.of_below k)⟩
theorem Lp.elem {U : Nat → Prop} {w wr : World} {d r : Nat} {D : DskS} {M : Mm} {l : List Chg} (h : Lp U w d r D M l wr) (hz : D.safe.length + l.length + 1 ≤ 1000000) {k : Nat} {c : Chg} (hx : D.loose[k]? = some c) (hl : c.2.length = 512) :
    ∃ b o p m q, M.wa = some ⟨b, o, none⟩ ∧ b < wr.heap.size ∧ wr.rangeAt b (o + k * 3) [.int .i64 1, .int .i64 c.1, .slice p m q] ∧ ∀ v3, Below wr.heap.size wr v3 → Calls Try.prog 45 #[.pointer (some ⟨d, 0, none⟩), .int .i64 c.1, .slice p m q] v3 fun e w' => e = .returned (.tuple #[]) ∧ Lp U w d r D M (l ++ [c]) w' := by
  obtain ⟨U', f', hm, hn, hk⟩ := h
  have hx' : (D.loose.map t3)[k]? = some (1, c.1, c.2) := by rw [List.getElem?_map, hx]; rfl
  obtain ⟨b, o, vs, ha, hlt, hrg, _, p, m, q, rfl, h5, _⟩ := (hm.wait.row.sl3 (A := fun _ => True) (fun _ _ _ => trivial)).at hx'
  refine ⟨b, o, p, m, q, ha, hlt, hrg, fun v3 hb3 => ?_⟩
  refine (oChange v3 (hm.below hb3) (by show (D.safe ++ l).length + 1 ≤ _; rw [List.length_append]; omega) c.1 (h5.below hb3) hl).mono ?_
  rintro e w' ⟨he, U2, f2, hm2, hn2, hk2⟩
  refine ⟨he, U2, f2, ?_, (hn.trans hn2 (Nat.le_trans hk.size hb3.size)), (hk.trans (Kp.of_below hb3)).wr hn hk2⟩
  have e2 : (D.plus (l ++ [c])) = { D.plus l with safe := (D.plus l).safe ++ [(c.1, c.2)] } := by rw [← plus_plus]; rfl
  rw [e2]
  exact hm2
theorem Lp.head {U : Nat → Prop} {w wr : World} {d r : Nat} {D : DskS} {M : Mm} {l : List Chg} (h : Lp U w d r D M l wr) : d < wr.heap.size ∧ wr.cell? ⟨d, 4, none⟩ = some (.slice M.wa M.wn M.wc) ∧ wr.frozen? ⟨d, 4, none⟩ = false := by
  obtain ⟨U', f', hm, hn, hk⟩ := h
  exact ⟨hm.blk.lt, hm.blk.cell 4, hm.blk.free 4⟩
theorem Lp.done {U : Nat → Prop} {w wr : World} {d r : Nat} {D : DskS} {M : Mm} {l : List Chg} (h : Lp U w d r D M l wr) : Dn U w d r { D.plus l with loose := [] } (wr.setCell ⟨d, 4, none⟩ (.slice none 0 0)) := by
  obtain ⟨U', f', hm, hn, hk⟩ := h
  exact Dn.more hk hn hm.cleared
theorem size88 : (Try.prog.info? 88).map (·.size) = some 3 := by kernel_rfl
theorem one88 (k a : Int) (p : Option Addr) (m q : Nat) : ∀ v ∈ [Value.int .i64 k, .int .i64 a, .slice p m q], v.oneCell' = true := by
  intro v hv
  simp at hv
  rcases hv with rfl | rfl | rfl <;> rfl
theorem Dm.wlen {U : Nat → Prop} {w : World} {d r : Nat} {D : DskS} {M : Mm} (h : Dm U w d r D M) : D.loose.length = M.wn := by
  obtain ⟨a, n, c, hv, hl⟩ := h.wait.row.shape
  simp only [Value.slice.injEq] at hv
  rw [List.length_map] at hl
  rw [hl, hv.2.1]
set_option maxRecDepth 100000 in
set_option maxHeartbeats 4000000 in
theorem oSettle (w : World) {U : Nat → Prop} {d r : Nat} {D : DskS} {M : Mm} (h : Dm U w d r D M) (hz : D.safe.length + D.loose.length + 1 ≤ 1000000) :
    Calls Try.prog 65 #[.pointer (some ⟨d, 0, none⟩)] w fun e w' => e = .returned (.tuple #[]) ∧ Dn U w d r { D.plus D.loose with loose := [] } w' := by
  have hl := h.blk.lt
  have c4 : w.cell? ⟨d, 4, none⟩ = some (.slice M.wa M.wn M.wc) := h.blk.cell 4
  have HN : Hid (D.loose.length = M.wn) := h.wlen
  have HZ : Hid (D.safe.length + D.loose.length + 1 ≤ 1000000) := hz
  have HL : Hid (∀ c ∈ D.loose, c.2.length = 512) := h.len2
  have hwn : M.wn ≤ 1000000 := by rw [← HN.out]; omega
  have LS := Lp.start h
  clear h hz
  go_enter Try.func65, Try.ntmps65
  go_wp2_with fail
  go_loopw [9] (fun i wr => ∃ k : Nat, k ≤ M.wn ∧ i = .int .i64 (k : Int) ∧ Lp U w d r D M (D.loose.take k) wr) (fun i _ => M.wn - (intOf i).toNat)
  case atStart => exact ⟨0, Nat.zero_le _, rfl, LS⟩
  case round =>
    obtain ⟨k, hk, rfl, LP⟩ := hrel
    clear LS c4 hl
    by_cases hlt : k < M.wn
    · have i0 : (k : Int) < (M.wn : Int) := by omega
      obtain ⟨c, hx⟩ : ∃ c, D.loose[k]? = some c := ⟨_, List.getElem?_eq_getElem (by rw [HN.out]; exact hlt)⟩
      obtain ⟨eb, eo, p, m, q, ha, hlb, hrg, CC⟩ := LP.elem (by have := HZ.out; rw [List.length_take]; omega) hx (HL.out c (List.mem_of_getElem? hx))
      have HT : Hid (D.loose.take k ++ [c] = D.loose.take (k + 1)) := by show _ = _; rw [List.take_add_one, hx]; rfl
      have HC : Hid _ := CC
      obtain ⟨ca, cb⟩ := c
      dsimp only at hrg HC
      have z7 : Blk (wr.alloc (.cells #[.int .i64 0, .int .i64 0, .slice none 0 0] 88)) wr.heap.size [.int .i64 0, .int .i64 0, .slice none 0 0] 88 := Blk.newAt wr _ _ wr.heap.size rfl _ rfl
      have k7 : Below wr.heap.size wr (wr.alloc (.cells #[.int .i64 0, .int .i64 0, .slice none 0 0] 88)) := below_alloc _ _
      clear hx CC LP
      rw [ha]
      go_wp2_with (first
        | ((with_reducible refine at_ld 88 ?_); (refine ld 88 (.tmp 11) 3 size88 _ Try.underlying88 rfl eb (eo + k * 3) [.int .i64 1, .int .i64 ca, .slice p m q] rfl hrg rfl ?_))
        | ((with_reducible refine at_st 88 ?_); (refine st' 88 (.tmp 3) (.tmp 12) 3 size88 wr.heap.size 0 [.int .i64 1, .int .i64 ca, .slice p m q] rfl (one88 _ _ _ _ _) (z7.there 0 3 (by simp)) rfl rfl ?_); intro v3 hv3; have b3 : Blk v3 wr.heap.size [.int .i64 1, .int .i64 ca, .slice p m q] 88 := (by rw [hv3]; exact z7.setsW _ rfl); have k3 : Below wr.heap.size wr v3 := (by rw [hv3]; exact below_sets (Nat.le_refl _) _ k7 0); have c1 : v3.cell? ⟨wr.heap.size, 1, none⟩ = some (.int .i64 ca) := b3.cell 1; have c2 : v3.cell? ⟨wr.heap.size, 2, none⟩ = some (.slice p m q) := b3.cell 2; have l3 := b3.lt; clear hv3))
      refine (HC.out v3 k3).mono ?_
      rintro e w4 ⟨rfl, LP4⟩
      rw [HT.out] at LP4
      clear c1 c2 l3 b3 k3 z7 k7 hrg HC HT
      go_wp2_with fail
      go_roundw
      case rel => exact ⟨k + 1, by omega, by go_num, LP4⟩
      case measure => simp [intOf]; omega
    · have i0 : ¬ (k : Int) < (M.wn : Int) := by omega
      obtain ⟨l5, c5, z5⟩ := LP.head
      rw [List.take_of_length_le (by rw [HN.out]; omega)] at LP
      have HD : Hid _ := LP.done
      clear LP
      go_wp2_with fail
      go_end0
      exact ⟨rfl, HD.out⟩
theorem kept_more : ∀ (l : List Chg) (b : List Bool) (k : Nat) (c : Chg), l[k]? = some c → kept (l.take (k + 1)) b = kept (l.take k) b ++ (if b.getD k false then [c] else [])
  | [], _, _, _, h => by simp at h
  | a :: l, [], k, c, h => by
    cases k <;> simp [kept]
  | a :: l, y :: b, 0, c, h => by
    simp at h
    subst h
    cases y <;> simp [kept]
  | a :: l, y :: b, k + 1, c, h => by
    have := kept_more l b k c (by simpa using h)
    cases y
    · simpa [kept] using this
    · simp only [List.take_succ_cons, kept]
      rw [this]
      rfl
theorem keptP_mem : ∀ (l : List Chg) (b : List Bool) (c : Chg), c ∈ kept l b → c ∈ l
  | [], b, c, h => by cases b <;> simp [kept] at h
  | a :: l, [], c, h => by simp [kept] at h
  | a :: l, true :: b, c, h => by
    simp only [kept, List.mem_cons] at h
    rcases h with rfl | h
    · simp
    · exact List.mem_cons_of_mem _ (keptP_mem l b c h)
  | a :: l, false :: b, c, h => List.mem_cons_of_mem _ (keptP_mem l b c h)
theorem Lp.bo {U : Nat → Prop} {w wr : World} {d r : Nat} {D : DskS} {M : Mm} {l : List Chg} (h : Lp U w d r D M l wr) {a : Option Addr} {n c : Nat} {b : List Bool} (hb : BoA (fun j => ¬ Wr U w j) w a n c b) : BoA (fun j => ¬ Wr U w j) wr a n c b := by
  obtain ⟨U', f', hm, hn, hk⟩ := h
  exact hb.keep hk.size fun j hj ha => hk.block j hj ha
set_option maxRecDepth 100000 in
set_option maxHeartbeats 4000000 in
theorem oCrash (w : World) {U : Nat → Prop} {d r : Nat} {D : DskS} {M : Mm} (h : Dm U w d r D M) (hz : D.safe.length + D.loose.length + 1 ≤ 1000000) {bp : Option Addr} {bm bc : Nat} {bl : List Bool} (hb : BoA (fun j => ¬ Wr U w j) w bp bm bc bl) (hbm : bm ≤ 1000000) :
    Calls Try.prog 24 #[.pointer (some ⟨d, 0, none⟩), .slice bp bm bc] w fun e w' => e = .returned (.tuple #[]) ∧ Dn U w d r { D.plus (kept D.loose bl) with loose := [] } w' := by
  have hl := h.blk.lt
  have c4 : w.cell? ⟨d, 4, none⟩ = some (.slice M.wa M.wn M.wc) := h.blk.cell 4
  have HN : Hid (D.loose.length = M.wn) := h.wlen
  have HZ : Hid (D.safe.length + D.loose.length + 1 ≤ 1000000) := hz
  have HL : Hid (∀ c ∈ D.loose, c.2.length = 512) := h.len2
  have HB : Hid (BoA (fun j => ¬ Wr U w j) w bp bm bc bl) := hb
  have HBL : Hid (bl.length = bm) := hb.1.len
  have hwn : M.wn ≤ 1000000 := by rw [← HN.out]; omega
  have LS := Lp.start h
  clear h hz hb
  go_enter Try.func24, Try.ntmps24
  go_wp2_with fail
  go_loopw [11] (fun i wr => ∃ k : Nat, k ≤ M.wn ∧ i = .int .i64 (k : Int) ∧ Lp U w d r D M (kept (D.loose.take k) bl) wr) (fun i _ => M.wn - (intOf i).toNat)
  case atStart => exact ⟨0, Nat.zero_le _, rfl, by rw [List.take_zero, show kept [] bl = [] from by cases bl <;> rfl]; exact LS⟩
  case round =>
    obtain ⟨k, hk, rfl, LP⟩ := hrel
    clear LS c4 hl
    by_cases hlt : k < M.wn
    · have i0 : (k : Int) < (M.wn : Int) := by omega
      obtain ⟨c, hx⟩ : ∃ c, D.loose[k]? = some c := ⟨_, List.getElem?_eq_getElem (by rw [HN.out]; exact hlt)⟩
      obtain ⟨eb, eo, p, m, q, ha, hlb, hrg, CC⟩ := LP.elem (by have := HZ.out; have := kept_len (D.loose.take k) bl; rw [List.length_take] at this; omega) hx (HL.out c (List.mem_of_getElem? hx))
      have HT : Hid (kept (D.loose.take k) bl ++ (if bl.getD k false then [c] else []) = kept (D.loose.take (k + 1)) bl) := (kept_more _ _ _ _ hx).symm
      have HC : Hid _ := CC
      have HLP : Hid (∀ v3, Below wr.heap.size wr v3 → Lp U w d r D M (kept (D.loose.take k) bl) v3) := fun v3 hb => LP.grow hb
      have HBW := LP.bo HB.out
      obtain ⟨ca, cb⟩ := c
      dsimp only at hrg HC
      have z7 : Blk (wr.alloc (.cells #[.int .i64 0, .int .i64 0, .slice none 0 0] 88)) wr.heap.size [.int .i64 0, .int .i64 0, .slice none 0 0] 88 := Blk.newAt wr _ _ wr.heap.size rfl _ rfl
      have k7 : Below wr.heap.size wr (wr.alloc (.cells #[.int .i64 0, .int .i64 0, .slice none 0 0] 88)) := below_alloc _ _
      clear hx CC LP
      rw [ha]
      by_cases hkm : k < bm
      · have i1 : (k : Int) < (bm : Int) := by omega
        obtain ⟨xb, xo, hbp, hlx, hcx⟩ := HBW.1.at (by omega)
        have cx := hcx k hkm
        clear hcx HBW
        subst hbp
        cases hkb : bl.getD k false with
        | true =>
          rw [hkb] at cx HT
          have HT2 : Hid (kept (D.loose.take k) bl ++ [(ca, cb)] = kept (D.loose.take (k + 1)) bl) := HT
          clear hkb HT HLP
          go_wp2_with (first
            | ((with_reducible refine at_ld 88 ?_); (refine ld 88 (.tmp 14) 3 size88 _ Try.underlying88 rfl eb (eo + k * 3) [.int .i64 1, .int .i64 ca, .slice p m q] rfl hrg rfl ?_))
            | ((with_reducible refine at_st 88 ?_); (refine st' 88 (.tmp 5) (.tmp 15) 3 size88 wr.heap.size 0 [.int .i64 1, .int .i64 ca, .slice p m q] rfl (one88 _ _ _ _ _) (z7.there 0 3 (by simp)) rfl rfl ?_); intro v3 hv3; have b3 : Blk v3 wr.heap.size [.int .i64 1, .int .i64 ca, .slice p m q] 88 := (by rw [hv3]; exact z7.setsW _ rfl); have k3 : Below wr.heap.size wr v3 := (by rw [hv3]; exact below_sets (Nat.le_refl _) _ k7 0); have c1 : v3.cell? ⟨wr.heap.size, 1, none⟩ = some (.int .i64 ca) := b3.cell 1; have c2 : v3.cell? ⟨wr.heap.size, 2, none⟩ = some (.slice p m q) := b3.cell 2; have l3 := b3.lt; have cx3 : v3.cell? ⟨xb, xo + k, none⟩ = some (.bool true) := (k3.cell (p := ⟨xb, xo + k, none⟩) hlx).trans cx; clear hv3))
          refine (HC.out v3 k3).mono ?_
          rintro e w4 ⟨rfl, LP4⟩
          rw [HT2.out] at LP4
          clear c1 c2 l3 b3 k3 z7 k7 hrg HC HT2 cx cx3
          go_wp2_with fail
          go_roundw
          case rel => exact ⟨k + 1, by omega, by go_num, LP4⟩
          case measure => simp [intOf]; omega
        | false =>
          rw [hkb] at cx HT
          have HT2 : Hid (kept (D.loose.take k) bl = kept (D.loose.take (k + 1)) bl) := by show _ = _; rw [← HT.out]; simp
          clear hkb HT HC
          go_wp2_with (first
            | ((with_reducible refine at_ld 88 ?_); (refine ld 88 (.tmp 14) 3 size88 _ Try.underlying88 rfl eb (eo + k * 3) [.int .i64 1, .int .i64 ca, .slice p m q] rfl hrg rfl ?_))
            | ((with_reducible refine at_st 88 ?_); (refine st' 88 (.tmp 5) (.tmp 15) 3 size88 wr.heap.size 0 [.int .i64 1, .int .i64 ca, .slice p m q] rfl (one88 _ _ _ _ _) (z7.there 0 3 (by simp)) rfl rfl ?_); intro v3 hv3; have b3 : Blk v3 wr.heap.size [.int .i64 1, .int .i64 ca, .slice p m q] 88 := (by rw [hv3]; exact z7.setsW _ rfl); have k3 : Below wr.heap.size wr v3 := (by rw [hv3]; exact below_sets (Nat.le_refl _) _ k7 0); have LP4 := HLP.out v3 k3; have cx3 : v3.cell? ⟨xb, xo + k, none⟩ = some (.bool false) := (k3.cell (p := ⟨xb, xo + k, none⟩) hlx).trans cx; clear hv3))
          rw [HT2.out] at LP4
          go_roundw
          case rel => exact ⟨k + 1, by omega, by go_num, LP4⟩
          case measure => simp [intOf]; omega
      · have i1 : ¬ (k : Int) < (bm : Int) := by omega
        have HT2 : Hid (kept (D.loose.take k) bl = kept (D.loose.take (k + 1)) bl) := by
          show _ = _
          rw [← HT.out, show bl.getD k false = false from by rw [List.getD_eq_getElem?_getD, List.getElem?_eq_none (by rw [HBL.out]; omega)]; rfl]
          simp
        clear HT HC HBW
        go_wp2_with (first
          | ((with_reducible refine at_ld 88 ?_); (refine ld 88 (.tmp 14) 3 size88 _ Try.underlying88 rfl eb (eo + k * 3) [.int .i64 1, .int .i64 ca, .slice p m q] rfl hrg rfl ?_))
          | ((with_reducible refine at_st 88 ?_); (refine st' 88 (.tmp 5) (.tmp 15) 3 size88 wr.heap.size 0 [.int .i64 1, .int .i64 ca, .slice p m q] rfl (one88 _ _ _ _ _) (z7.there 0 3 (by simp)) rfl rfl ?_); intro v3 hv3; have k3 : Below wr.heap.size wr v3 := (by rw [hv3]; exact below_sets (Nat.le_refl _) _ k7 0); have LP4 := HLP.out v3 k3; clear hv3))
        rw [HT2.out] at LP4
        go_roundw
        case rel => exact ⟨k + 1, by omega, by go_num, LP4⟩
        case measure => simp [intOf]; omega
    · have i0 : ¬ (k : Int) < (M.wn : Int) := by omega
      obtain ⟨l5, c5, z5⟩ := LP.head
      rw [List.take_of_length_le (by rw [HN.out]; omega)] at LP
      have HD : Hid _ := LP.done
      clear LP
      go_wp2_with fail
      go_end0
      exact ⟨rfl, HD.out⟩

end Go.Proofs.Ytfdilgnlfademaa

/-
  Contracts of what layer 9's program deletes out of what waits by: the closure of Poke, Go's IndexFunc and DeleteFunc over touches. Condition: lists of at most a million.
-/
namespace Go.Proofs.Ytfdilgnlfademaa
open Go.RowKit
set_option linter.unusedVariables false

/-- A touch of another block. -/
def keepT (at_ : Int) (t : Tch) : Bool := decide (t.2.1 ≠ at_)
set_option maxRecDepth 100000 in
theorem oSameAt (w : World) {xb : Nat} {on at_ kind num : Int} {xp : Option Addr} {xm xq : Nat} (hx : Blk w xb [.int .i64 on, .int .i64 at_, .int .i64 kind, .slice xp xm xq, .int .i64 num] 28) (k a : Int) (p : Option Addr) (m q : Nat) :
    Calls Try.prog 48 #[.agg #[.int .i64 k, .int .i64 a, .slice p m q], .pointer (some ⟨xb, 0, none⟩)] w fun e w' => e = .returned (.bool (decide (a = at_))) ∧ Below w.heap.size w w' := by
  have hl := hx.lt
  have c1 : w.cell? ⟨xb, 1, none⟩ = some (.int .i64 at_) := hx.cell 1
  have hx' := hx.old (.cells #[.int .i64 k, .int .i64 a, .slice p m q] 88)
  have c1' : (w.alloc (.cells #[.int .i64 k, .int .i64 a, .slice p m q] 88)).cell? ⟨xb, 1, none⟩ = some (.int .i64 at_) := hx'.cell 1
  have k7 : Below w.heap.size w (w.alloc (.cells #[.int .i64 k, .int .i64 a, .slice p m q] 88)) := below_alloc _ _
  clear hx hx'
  by_cases h : a = at_
  · subst h
    go_enter Try.func48, Try.ntmps48
    go_wp2_with fail
    go_ret
    exact ⟨by simp, k7⟩
  · go_enter Try.func48, Try.ntmps48
    go_wp2_with fail
    go_ret
    exact ⟨by simp [h], k7⟩
/-- Where the first touch of that block is. -/
def Found (at_ : Int) (l : List Tch) (z : Int) : Prop := (z = -1 ∧ l.filter (keepT at_) = l) ∨ ∃ i : Nat, z = (i : Int) ∧ i < l.length ∧ (l.take (i + 1)).filter (keepT at_) = l.take i
theorem take_keep {at_ : Int} {l : List Tch} {k : Nat} {t : Tch} (hx : l[k]? = some t) : (l.take (k + 1)).filter (keepT at_) = (l.take k).filter (keepT at_) ++ (if keepT at_ t then [t] else []) := by
  rw [List.take_add_one, hx, List.filter_append]
  congr 1
  cases h : keepT at_ t <;> simp [h]
theorem OwS.touchAt {A : Nat → Prop} {w : World} {base : Nat} {a : Option Addr} {n c : Nat} {l : List Tch} (h : OwS (elT A) 3 88 w base (.slice a n c) l) {i : Nat} {t : Tch} (hx : l[i]? = some t) : ∃ b o p m q, a = some ⟨b, o, none⟩ ∧ b < w.heap.size ∧ w.rangeAt b (o + i * 3) [.int .i64 t.1, .int .i64 t.2.1, .slice p m q] ∧ B5 A w p m q t.2.2 ∧ i64 t.1 ∧ i64 t.2.1 := by
  obtain ⟨b, o, vs, ha, hlt, hr, hl, p, m, q, rfl, hb, h1, h2⟩ := (h.sl3 (A := fun _ => True) (fun _ _ _ => trivial)).at hx
  exact ⟨b, o, p, m, q, ha, hlt, hr, hb, h1, h2⟩
theorem rangeAt_below {w w' : World} {b o : Nat} {vs : List Value} (h : w.rangeAt b o vs) (hb : Below w.heap.size w w') (hlt : b < w.heap.size) : w'.rangeAt b o vs := fun j v hj => (hb.cell (p := ⟨b, o + j, none⟩) hlt).trans (h j v hj)
set_option maxRecDepth 100000 in
set_option maxHeartbeats 4000000 in
theorem oIndex (w : World) {A : Nat → Prop} {a : Option Addr} {n c : Nat} {l : List Tch} (h : OwS (elT A) 3 88 w 0 (.slice a n c) l) (hn : n ≤ 1000000) {xb : Nat} {on at_ kind num : Int} {xp : Option Addr} {xm xq : Nat} (hx : Blk w xb [.int .i64 on, .int .i64 at_, .int .i64 kind, .slice xp xm xq, .int .i64 num] 28) :
    Calls Try.prog 59 #[.slice a n c, .func (.func 48) #[] #[.pointer (some ⟨xb, 0, none⟩)]] w fun e w' => ∃ z, e = .returned (.int .i64 z) ∧ Found at_ l z ∧ Below w.heap.size w w' := by
  obtain ⟨a', n', c', hv, hln⟩ := h.shape
  simp only [Value.slice.injEq] at hv
  rw [← hv.2.1] at hln
  clear hv
  have HS : Hid (OwS (elT A) 3 88 w 0 (.slice a n c) l) := h
  have HX : Hid (Blk w xb [.int .i64 on, .int .i64 at_, .int .i64 kind, .slice xp xm xq, .int .i64 num] 28) := hx
  have HL : Hid (l.length = n) := hln
  clear h hx hln
  go_enter Try.func59, Try.ntmps59
  go_wp2_with fail
  go_loopw [8] (fun i wr => ∃ k : Nat, k ≤ n ∧ i = .int .i64 (k : Int) ∧ Hid ((l.take k).filter (keepT at_) = l.take k) ∧ Below w.heap.size w wr) (fun i _ => n - (intOf i).toNat)
  case atStart => exact ⟨0, Nat.zero_le _, rfl, by show _ = _; simp, Below.refl _ _⟩
  case round =>
    obtain ⟨k, hk, rfl, HI, kw⟩ := hrel
    by_cases hlt : k < n
    · have i0 : (k : Int) < (n : Int) := by omega
      obtain ⟨t, hx⟩ : ∃ t, l[k]? = some t := ⟨_, List.getElem?_eq_getElem (by rw [HL.out]; exact hlt)⟩
      obtain ⟨eb, eo, p, m, q, ha, hlb, hrg, h5, j1, j2⟩ := HS.out.touchAt hx
      have hrg' := rangeAt_below hrg kw hlb
      have TK := take_keep (at_ := at_) hx
      obtain ⟨t1, t2, tb⟩ := t
      dsimp only at hrg' j1 j2
      subst ha
      have CS := oSameAt wr (HX.out.below kw HX.out.lt) t1 t2 p m q
      have hlw : eb < wr.heap.size := Nat.lt_of_lt_of_le hlb kw.size
      by_cases hq : t2 = at_
      · rw [decide_eq_true hq] at CS
        have HF : Hid (Found at_ l (k : Int)) := Or.inr ⟨k, rfl, by rw [HL.out]; exact hlt, by rw [TK, HI.out, show keepT at_ (t1, t2, tb) = false from decide_eq_false (fun hne => hne hq)]; simp⟩
        clear hrg h5 hx TK HI hq
        go_wp2_with ((with_reducible refine at_ld 88 ?_); (refine ld 88 (.tmp 14) 3 size88 _ Try.underlying88 rfl eb (eo + k * 3) [.int .i64 t1, .int .i64 t2, .slice p m q] rfl hrg' rfl ?_))
        refine CS.mono ?_
        rintro e w4 ⟨rfl, kw4⟩
        go_wp2_with fail
        go_ret
        exact ⟨(k : Int), rfl, HF.out, kw.trans (kw4.mono kw.size)⟩
      · rw [decide_eq_false hq] at CS
        have HI2 : Hid ((l.take (k + 1)).filter (keepT at_) = l.take (k + 1)) := by
          show _ = _
          rw [TK, HI.out, show keepT at_ (t1, t2, tb) = true from decide_eq_true hq, List.take_add_one, hx]
          rfl
        clear hrg h5 hx TK HI hq
        go_wp2_with ((with_reducible refine at_ld 88 ?_); (refine ld 88 (.tmp 14) 3 size88 _ Try.underlying88 rfl eb (eo + k * 3) [.int .i64 t1, .int .i64 t2, .slice p m q] rfl hrg' rfl ?_))
        refine CS.mono ?_
        rintro e w4 ⟨rfl, kw4⟩
        go_wp2_with fail
        go_roundw
        case rel => exact ⟨k + 1, by omega, by go_num, HI2, kw.trans (kw4.mono kw.size)⟩
        case measure => simp [intOf]; omega
    · have i0 : ¬ (k : Int) < (n : Int) := by omega
      have HF : Hid (Found at_ l (-1)) := Or.inl ⟨rfl, by have := HI.out; rwa [List.take_of_length_le (by rw [HL.out]; omega)] at this⟩
      clear HI
      go_wp2_with fail
      go_ret
      exact ⟨-1, rfl, HF.out, kw⟩
/-- A row of rows, one of them replaced. -/
theorem flat_set {sz : Nat} : ∀ {rows : List (List Value)}, (∀ vs ∈ rows, vs.length = sz) → ∀ {i : Nat} (vs : List Value), i < rows.length → (rows.set i vs).flatten = rows.flatten.take (i * sz) ++ vs ++ rows.flatten.drop (i * sz + sz)
  | [], _, i, vs, h => by simp at h
  | r :: rows, hl, 0, vs, _ => by
    have h0 := hl r (by simp)
    rw [List.set_cons_zero, List.flatten_cons, List.flatten_cons, Nat.zero_mul, List.take_zero, List.nil_append, Nat.zero_add, List.drop_append_of_le_length (by omega), List.drop_of_length_le (by omega), List.nil_append]
  | r :: rows, hl, i + 1, vs, h => by
    have h0 := hl r (by simp)
    rw [List.set_cons_succ, List.flatten_cons, List.flatten_cons, flat_set (fun v hv => hl v (by simp [hv])) vs (by simpa using h), Nat.succ_mul, List.take_append, List.take_of_length_le (l := r) (by omega), show i * sz + sz - r.length = i * sz from by omega, List.drop_append, List.drop_of_length_le (l := r) (by omega), List.nil_append, show i * sz + sz + sz - r.length = i * sz + sz from by omega]
    simp [List.append_assoc]
theorem take_mid {α : Type} (A vs : List α) {p s N : Nat} (hs : vs.length = s) (h1 : p + s ≤ N) (h2 : N ≤ A.length) : (A.take p ++ vs ++ A.drop (p + s)).take N = (A.take N).take p ++ vs ++ (A.take N).drop (p + s) := by
  rw [List.take_append, List.take_of_length_le (l := A.take p ++ vs) (by rw [List.length_append, List.length_take]; omega), List.length_append, List.length_take, hs, show min p A.length + s = p + s from by omega, List.take_take, show min p N = p from by omega, List.drop_take]
theorem Rel2.put {α β : Type} {R : α → β → Prop} : ∀ {l : List α} {m : List β}, Rel2 R l m → ∀ (k : Nat) {x : α} {y : β}, R x y → Rel2 R (l.set k x) (m.set k y)
  | [], [], _, k, x, y, _ => by simp [Rel2]
  | _ :: _, _ :: _, h, 0, x, y, hr => ⟨hr, h.2⟩
  | _ :: _, _ :: _, h, k + 1, x, y, hr => ⟨h.1, Rel2.put h.2 k hr⟩
  | [], _ :: _, h, _, _, _, _ => h.elim
  | _ :: _, [], h, _, _, _, _ => h.elim
theorem Rel2.take {α β : Type} {R : α → β → Prop} : ∀ {l : List α} {m : List β}, Rel2 R l m → ∀ (k : Nat), Rel2 R (l.take k) (m.take k)
  | [], [], _, k => by simp [Rel2]
  | _ :: _, _ :: _, h, 0 => trivial
  | _ :: _, _ :: _, h, k + 1 => ⟨h.1, Rel2.take h.2 k⟩
  | [], _ :: _, h, _ => h.elim
  | _ :: _, [], h, _ => h.elim
/-- The block that a slice of structs of the call's own lies in. -/
theorem OwS.blk {α : Type} {el : World → α → List Value → Prop} {sz : Nat} {e : TypeId} {w : World} {base : Nat} {g n c : Nat} {l : List α} (h : OwS el sz e w base (.slice (some ⟨g, 0, none⟩) n c) l) : ∃ vs, Blk w g vs e ∧ vs.length = c * sz ∧ n ≤ c ∧ c ≤ maxLen ∧ l.length = n ∧ base ≤ g ∧ ∃ rows, Rel2 (Row el sz w) l rows ∧ vs.take (n * sz) = rows.flatten := by
  obtain ⟨rows, hr, h1, h2⟩ := h
  rcases h2 with ⟨hv, h0⟩ | ⟨g', cap, cur, hv, hg, hh, hn, hm, hc, ht⟩
  · simp at hv
  · simp only [Value.slice.injEq, Option.some.injEq, Addr.mk.injEq] at hv
    obtain ⟨⟨rfl, _⟩, rfl, rfl⟩ := hv
    exact ⟨cur.toList, by unfold Blk; simpa using hh, by simpa using hc, hn, hm, rfl, hg, rows, hr, ht⟩
theorem OwS.of_blk {α : Type} {el : World → α → List Value → Prop} {sz : Nat} {e : TypeId} {w : World} {base : Nat} {g n c : Nat} {l : List α} {vs : List Value} {rows : List (List Value)} (hb : Blk w g vs e) (hl : vs.length = c * sz) (hn : n ≤ c) (hm : c ≤ maxLen) (h1 : l.length = n) (hg : base ≤ g) (hr : Rel2 (Row el sz w) l rows) (ht : vs.take (n * sz) = rows.flatten) : OwS el sz e w base (.slice (some ⟨g, 0, none⟩) n c) l := by
  subst h1
  refine ⟨rows, hr, ?_, Or.inr ⟨g, c, vs.toArray, rfl, hg, hb, hn, hm, by simpa using hl, by simpa using ht⟩⟩
  rw [← ht, List.length_take, hl, Nat.min_eq_left (Nat.mul_le_mul_right _ hn)]
/-- s[i] = v. -/
theorem OwS.setAt {α : Type} {el : World → α → List Value → Prop} {sz : Nat} {e : TypeId} {w : World} {base : Nat} {g n c : Nat} {l : List α} (h : OwS el sz e w base (.slice (some ⟨g, 0, none⟩) n c) l) {i : Nat} (hi : i < n) (y : α) (vs : List Value) (hvs : vs.length = sz) (hv1 : ∀ u ∈ vs, u.oneCell' = true) (hy : el w y vs) (he : ∀ x vs', el w x vs' → el (w.setCells g (i * sz) vs) x vs') : OwS el sz e (w.setCells g (i * sz) vs) base (.slice (some ⟨g, 0, none⟩) n c) (l.set i y) := by
  obtain ⟨us, hb, h1, h2, h3, h4, h5, rows, hr, ht⟩ := h.blk
  have hin : i * sz + sz ≤ n * sz := by rw [← Nat.succ_mul]; exact Nat.mul_le_mul_right _ hi
  have hnc : n * sz ≤ c * sz := Nat.mul_le_mul_right _ h2
  refine OwS.of_blk (hb.sets vs (i * sz) (by rw [hvs, h1]; omega)) ?_ h2 h3 (by rw [List.length_set]; exact h4) h5 ((hr.mono fun x vs' ⟨a1, a2, a3⟩ => ⟨a1, a2, he x vs' a3⟩).put i ⟨hvs, hv1, he y vs hy⟩) ?_
  · rw [List.length_append, List.length_append, List.length_take, List.length_drop, hvs, h1]
    omega
  · rw [hvs, take_mid us vs hvs hin (by omega), ht, flat_set (rel_lens hr) vs (by rw [← hr.len, h4]; exact hi)]
/-- s[:i], whatever lies behind. -/
theorem OwS.cutTo {α : Type} {el : World → α → List Value → Prop} {sz : Nat} {e : TypeId} {w w' : World} {base : Nat} {g n c : Nat} {l : List α} (h : OwS el sz e w base (.slice (some ⟨g, 0, none⟩) n c) l) {i : Nat} (hi : i ≤ n) {us vs : List Value} (hw : Blk w g vs e) (hus : us.length = (n - i) * sz) (hb : Blk w' g (vs.take (i * sz) ++ us ++ vs.drop (i * sz + (n - i) * sz)) e) (he : ∀ x vs', el w x vs' → el w' x vs') : OwS el sz e w' base (.slice (some ⟨g, 0, none⟩) i c) (l.take i) := by
  obtain ⟨us', hb', h1, h2, h3, h4, h5, rows, hr, ht⟩ := h.blk
  have e1 : vs = us' := by
    have : some (Obj.cells vs.toArray e) = some (Obj.cells us'.toArray e) := hw.symm.trans hb'
    simp only [Option.some.injEq, Obj.cells.injEq] at this
    simpa using this.1
  subst e1
  have hin : i * sz + (n - i) * sz = n * sz := by rw [← Nat.add_mul]; congr 1; omega
  have hnc : n * sz ≤ c * sz := Nat.mul_le_mul_right _ h2
  have hfl := flatC_len (rel_lens hr)
  have hrl := hr.len
  refine OwS.of_blk hb ?_ (by omega) h3 (by rw [List.length_take]; omega) h5 ((hr.mono fun x vs' ⟨a1, a2, a3⟩ => ⟨a1, a2, he x vs' a3⟩).take i) ?_
  · rw [List.length_append, List.length_append, List.length_take, List.length_drop, hus, h1]
    omega
  · rw [List.append_assoc, List.take_append, List.take_take, Nat.min_self, List.length_take, h1, show i * sz - min (i * sz) (c * sz) = 0 from by omega, List.take_zero, List.append_nil]
    have : vs.take (i * sz) = (vs.take (n * sz)).take (i * sz) := by rw [List.take_take]; congr 1; omega
    rw [this, ht]
    clear this ht hw hb hb' hfl hus hin hnc h4
    have hlen := rel_lens hr
    clear hr hrl
    induction rows generalizing i with
    | nil => simp
    | cons r rows ih =>
      cases i with
      | zero => simp
      | succ i =>
        have h0 := hlen r (by simp)
        rw [List.take_succ_cons, List.flatten_cons, List.flatten_cons, Nat.succ_mul, List.take_append, List.take_of_length_le (by omega), show i * sz + sz - r.length = i * sz from by omega]
        congr 1
        exact ih (i := i) (by omega) (fun v hv => hlen v (by simp [hv]))
/-- clear. -/
theorem at_clr {x : Operand} {t : TypeId} {ops : Array Oper} {rest : List Oper} {a : Act} {w : World} {Q : Exit → Act → World → Prop} {dst : Option Tmp} {tp : TypeId} {pos : String} {aft : Array Edge}
    (h : wpList Try.prog ops Q ({ dst := dst, op := .call { callee := .builtin .clear, args := #[x], argTypes := #[t] }, type := tp, pos := pos, after := aft, guard := none } :: rest) a w) : wpList Try.prog ops Q ({ dst := dst, op := .call { callee := .builtin .clear, args := #[x], argTypes := #[t] }, type := tp, pos := pos, after := aft, guard := none } :: rest) a w := h
theorem kp_cells (g : Nat) : ∀ (us : List Value) (w : World) (o : Nat), Kp (fun j => j = g) w (w.setCells g o us) := fun us w o => Kp.of_grown (but_cells g us w o)
theorem zeroT (w : World) : (zeroValue 88).run Try.prog w = .ok (.agg #[.int .i64 0, .int .i64 0, .slice none 0 0]) w := by kernel_rfl
theorem zeroT_one (n : Nat) : ∀ v ∈ (Builtin.zeroCells #[.int .i64 0, .int .i64 0, .slice none 0 0] n).toList, v.oneCell' = true := by
  intro v hv
  unfold Builtin.zeroCells at hv
  simp only [Array.toList_map, List.mem_map, Array.toList_range] at hv
  obtain ⟨i, hi, rfl⟩ := hv
  have hm : i % 3 < 3 := Nat.mod_lt _ (by omega)
  show Value.oneCell' ((#[Value.int .i64 0, .int .i64 0, .slice none 0 0] : Array Value)[i % 3]!) = true
  rcases (show i % 3 = 0 ∨ i % 3 = 1 ∨ i % 3 = 2 by omega) with h | h | h <;> rw [h] <;> rfl
theorem wpList_clr {x : Operand} {ops : Array Oper} {rest : List Oper} {a : Act} {w : World} {Q : Exit → Act → World → Prop} {dst : Option Tmp} {tp : TypeId} {pos : String} {aft : Array Edge} (g o n c : Nat) (hx : a.eval x = .slice (some ⟨g, o, none⟩) n c) (hn : 0 < n) {vs : List Value} (hb : Blk w g vs 88) (hr : o + n * 3 ≤ vs.length)
    (h : ∀ w' us, us.length = n * 3 → Blk w' g (vs.take o ++ us ++ vs.drop (o + n * 3)) 88 → Kp (fun j => j = g) w w' → wpList Try.prog ops Q rest (a.put dst (.tuple #[])) w') : wpList Try.prog ops Q ({ dst := dst, op := .call { callee := .builtin .clear, args := #[x], argTypes := #[38] }, type := tp, pos := pos, after := aft, guard := none } :: rest) a w := by
  have hz : (Builtin.zeroCells #[.int .i64 0, .int .i64 0, .slice none 0 0] n).toList.length = n * 3 := by
    rw [Array.length_toList, size_zeroCells]
    rfl
  have hst := run_storeCells_cells (P := Try.prog) g o (Builtin.zeroCells #[.int .i64 0, .int .i64 0, .slice none 0 0] n).toList 0 w (fun j hj => by rw [hb.cell, Nat.add_zero, List.getElem?_eq_getElem (by omega)]; rfl) (fun j hj => hb.free _) (zeroT_one n)
  rw [Nat.add_zero] at hst
  have hrun : (Builtin.clear_ #[38] tp #[.slice (some ⟨g, o, none⟩) n c]).run Try.prog w = .ok (.tuple #[]) (w.setCells g o (Builtin.zeroCells #[.int .i64 0, .int .i64 0, .slice none 0 0] n).toList) := by
    obtain ⟨m, rfl⟩ : ∃ m, n = m + 1 := ⟨n - 1, by omega⟩
    simp [Builtin.clear_, run_underlying Try.underlying38, Value.cells, hst]
  have hK := h _ _ hz (by rw [← hz]; exact hb.sets _ o (by rw [hz]; exact hr)) (kp_cells g _ w o)
  refine wpList_plain rfl fun K hK' => ?_
  unfold Oper.wp execOp
  simp only [resolve, invoke, builtin, Sem.run_bind, Sem.run_pure, Result.andThen_ok, List.map_toArray, List.map_cons, List.map_nil, hx, hrun]
  exact hK' _ _ hK

end Go.Proofs.Ytfdilgnlfademaa
