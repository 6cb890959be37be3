/-
  6 texts in one. No statement of the seat is proved here.
-/
import Derived.Test.YtlenmkhmkommcaaGreatJ21

/-
  The contract of layer 9's program's step. Conditions: lists of at most a million, fewer than 2^40 steps.
-/
namespace Go.Proofs.YtlenmkhmkommcaaGreat
open Go.RowKit
open Go.MapKept (IsKey run_checkKey run_findKey run_setObj_map heap_set)
set_option linter.unusedVariables false

theorem entI_erase {k k' : Int} (hk : ¬ k' = k) : ∀ (l : List MapEntry) (j : Nat) (e : MapEntry), l[j]? = some e → e.key = .int .i64 k → entI k' (l.eraseIdx j) = entI k' l
  | [], j, e, h, _ => by simp at h
  | x :: l, 0, e, h, hkey => by
    simp at h
    subst h
    simp [entI, hkey, same_i, hk]
  | x :: l, j + 1, e, h, hkey => by
    have := entI_erase hk l j e (by simpa using h) hkey
    rw [List.eraseIdx_cons_succ]
    unfold entI
    rw [this]
/-- A key taken out. -/
theorem Mp.del {P : Program} {w : World} {m : Nat} {f : Int → Option Value} (h : Mp w m f) {T K E : TypeId} (hm : P.underlying T = some (.map K E)) (hd : P.underlying K = some (.int .i64)) (k : Int) :
    ∃ w' f', (∀ ty, (Builtin.delete_ #[T, K] ty #[.map (some m), .int .i64 k]).run P w = .ok (.tuple #[]) w') ∧ Mp w' m f' ∧ (∀ k', ¬ k' = k → f' k' = f k') ∧ w.grownBy w' (some m) := by
  obtain ⟨es, clock, hb, h1, h2⟩ := h
  have hk : IsKey (.int .i64) (.int .i64 k) := by simp [IsKey]
  have hgrow : ∀ o, w.grownBy { w with heap := w.heap.setIfInBounds m o } (some m) := fun o => ⟨rfl, rfl, rfl, by simp, fun i hi hne => (heap_set hb).2 i (fun e => hne (by rw [e]))⟩
  rcases find_i k es.toList 0 h1 with ⟨g1, g2⟩ | ⟨j, e, g1, g2, g3, g4, g5⟩
  · exact ⟨_, f, fun ty => by simp [Builtin.delete_, run_underlying hm, Go.MapKept.run_getObj_map hb, run_checkKey hd hk, run_findKey hd g1, run_setObj_map _ hb, Result.andThen]; rfl, ⟨_, _, (heap_set hb).1, h1, h2⟩, fun _ _ => rfl, hgrow _⟩
  · rw [Nat.zero_add] at g1
    have e1 : (es.eraseIdxIfInBounds j).toList = es.toList.eraseIdx j := by simp
    refine ⟨_, fun k' => entI k' (es.toList.eraseIdx j), fun ty => by simp [Builtin.delete_, run_underlying hm, Go.MapKept.run_getObj_map hb, run_checkKey hd hk, run_findKey hd g1, run_setObj_map _ hb, Result.andThen]; rfl, ⟨_, _, (heap_set hb).1, ?_, fun k' => by rw [e1]⟩, fun k' hne => by rw [← h2 k']; exact entI_erase hne _ _ _ g2 g3, hgrow _⟩
    intro x hx
    rw [e1] at hx
    exact h1 x (List.mem_of_mem_eraseIdx hx)
theorem Dm.delPlot {U : Nat → Prop} {w : World} {d r : Nat} {D : DskS} {M : Mm} (h : Dm U w d r D M) (k : Int) : ∃ w' g', (∀ ty, (Builtin.delete_ #[89, 3] ty #[.map M.mq, .int .i64 k]).run Tryz.prog w = .ok (.tuple #[]) w') ∧ (∀ m, M.mq = some m → Mp w' m g') ∧ (M.mq = none → ∀ k, g' k = none) ∧ (∀ k', ¬ k' = k → g' k' = M.g k') ∧ Kp (fun j => M.mq = some j) w w' := by
  cases hq : M.mq with
  | none =>
    have hk : IsKey (.int .i64) (.int .i64 k) := by simp [IsKey]
    exact ⟨w, M.g, fun ty => by simp [Builtin.delete_, run_underlying underQ, run_checkKey under3 hk, Result.andThen], fun m hm => (by cases hm), fun _ => h.plot.no hq, fun _ _ => rfl, Kp.refl _ _⟩
  | some m =>
    obtain ⟨w', g', h1, h2, h3, h4⟩ := (h.plot.map m hq).1.del underQ under3 k
    exact ⟨w', g', h1, fun m' hm => (by obtain rfl := Option.some.inj hm; exact h2), fun e => (by cases e), h3, (Kp.of_grown h4).mono fun j _ e => by rw [e]⟩
theorem opDelR {ops : Array Oper} {Q : Exit → Act → World → Prop} {i : Nat} {oi : Oper} {C : Act → World → Prop} {a : Act} {w : World} (hi : ops[i]? = some oi) (hd0 : oi.dst = none) (hg : oi.guard = none) (x y : Operand) (T K : TypeId) (ho : oi.op = .call { callee := .builtin .delete, args := #[x, y], argTypes := #[T, K] }) (mv kv : Value) (hx : a.eval x = mv) (hy : a.eval y = kv) (w' : World) (hrun : ∀ ty, (Builtin.delete_ #[T, K] ty #[mv, kv]).run Tryz.prog w = .ok (.tuple #[]) w') (c : C a w') : wpOp Tryz.prog ops Q i C a w := by
  have hK : Hid _ := c
  clear c
  unfold wpOp
  simp only [hi]
  rw [if_pos (by simp [Region.wanted, hg])]
  left
  unfold Oper.wp execOp
  simp only [ho, resolve, invoke, builtin, Sem.run_bind, Sem.run_pure, Result.andThen_ok, List.map_toArray, List.map_cons, List.map_nil, hx, hy, hrun]
  simp only [Oper.upon, hd0]
  exact hK.out
/-- A step more; what somebody else does ahead of it is over. -/
theorem Dm.ticked {U : Nat → Prop} {w w' : World} {d r : Nat} {D : DskS} {M : Mm} (h : Dm U w d r D M) {g' : Int → Option Value} (k : Kp (fun j => M.mq = some j ∨ j = d) w w') (hb : Blk w' d (hc r { D with steps := D.steps + 1 } { M with g := g' }) 91) (hm : ∀ m, M.mq = some m → Mp w' m g') (hno : M.mq = none → ∀ k, g' k = none) (hg : ∀ k, ¬ k = (D.steps : Int) → g' k = M.g k) :
    Dm U w' d r { D with steps := D.steps + 1 } { M with g := g' } ∧ Kp (Wr U w) w w' := by
  have hT : ∀ j e, (M.mq = some j ∨ j = d) → e ≠ 91 → ¬ Ty w j e := by
    rintro j e (hj | rfl) he ht
    · exact (h.plot.map j hj).1.noTy _ ht
    · exact he (ht.one h.blk.ty)
  have s : Sp U U (fun j => M.mq = some j ∨ j = d) w w' := ⟨k, fun j ht _ => hT j 5 ht (by decide), fun _ hu => hu⟩
  have hrow : ∀ k', ((D.steps + 1 : Nat) : Int) ≤ k' → (D.steps : Int) ≤ k' ∧ g' k' = M.g k' := fun k' hk => ⟨by omega, hg k' (by omega)⟩
  refine ⟨⟨fun j hj => Nat.lt_of_lt_of_le (h.lt j hj) k.size, h.inD, h.inR, hb, h.pw.same (k.block r h.pw.lt fun ht => hT r _ ht (by decide) h.pw.ty), h.past.turn s fun j ht _ => ⟨fun e => ?_, hT j _ ht (by decide)⟩, h.wait.turn s fun j ht _ hj => hT j _ ht (by decide) (h.wait.row.ty j hj), h.seen.turn s fun j ht _ hj => hT j _ ht (by decide) (h.seen.row.ty j hj), h.two, ⟨fun m hmq => ⟨hm m hmq, (h.plot.map m hmq).2⟩, hno, ?_, ?_⟩, h.maps, h.len1, h.len2, h.len3⟩, k.mono fun j _ ht => ⟨?_, hT j 5 ht (by decide)⟩⟩
  · subst e
    rcases ht with ht | ht
    · exact h.maps _ ht rfl
    · exact h.past.map.noTy _ (by rw [ht]; exact h.blk.ty)
  · intro k' hk
    obtain ⟨h1, h2⟩ := hrow k' hk
    show OwS _ _ _ _ _ ((g' k').getD nilV) _
    rw [h2]
    exact (h.plot.row k' h1).turn s.elQ fun j hj => k.block j ((h.plot.row k' h1).lt j hj).2 fun ht => hT j _ ht (by decide) ((h.plot.row k' h1).ty j hj)
  · intro k' j hk hj
    obtain ⟨h1, h2⟩ := hrow k' hk
    dsimp only at hj
    rw [h2] at hj
    exact h.plot.at_ k' j h1 hj
  · rcases ht with ht | rfl
    · exact (h.plot.map j ht).2
    · exact h.inD
theorem Dm.power {U : Nat → Prop} {w w' : World} {d r : Nat} {D : DskS} {M : Mm} (h : Dm U w d r D M) {P : PowS} (hp : Pw w' r P) (k : Kp (fun j => j = r) w w') : Dm U w' d r { D with p := P } M := by
  have hT : ∀ e, e ≠ 87 → ¬ Ty w r e := fun e he ht => he (ht.one h.pw.ty)
  have s : Sp U U (fun j => j = r) w w' := ⟨k, fun j e _ ht => by subst e; exact hT _ (by decide) ht, fun _ hu => hu⟩
  refine ⟨fun j hj => Nat.lt_of_lt_of_le (h.lt j hj) k.size, h.inD, h.inR, k.blk h.blk ?_, hp, h.past.turn s ?_, h.wait.turn s ?_, h.seen.turn s ?_, h.two, h.plot.turn s ?_, h.maps, h.len1, h.len2, h.len3⟩
  · intro e
    exact hT 91 (by decide) (by rw [← e]; exact h.blk.ty)
  · intro j e _
    subst e
    exact ⟨fun e' => h.past.map.noTy 87 (by rw [← e']; exact h.pw.ty), hT _ (by decide)⟩
  · intro j e _ hj
    subst e
    exact hT _ (by decide) (h.wait.row.ty _ hj)
  · intro j e _ hj
    subst e
    exact hT _ (by decide) (h.seen.row.ty _ hj)
  · intro j e _
    subst e
    exact ⟨fun e' => (h.plot.map _ e').1.noTy _ h.pw.ty, hT _ (by decide)⟩
theorem act2_p (D : DskS) (t : Tch) : (D.act2 t).p = D.p := by
  unfold DskS.act2
  split
  · rfl
  · split <;> rfl
theorem step_end {U : Nat → Prop} {w w' : World} {d r : Nat} {D : DskS} {M : Mm} (h : Dm U w d r D M) {t : Tch} (hp : Pw w' r D.p.next) (dp : DoesP D.p r (fun w6 w7 => Dn U w6 d r (({ D with p := D.p.next } : DskS).act2 t) w7) w w') :
    Dn U w d r (if D.p.does then ({ D with p := D.p.next } : DskS).act2 t else { D with p := D.p.next }) w' := by
  have wr : ∀ {U : Nat → Prop} {w : World} {D : DskS} {M : Mm}, Dm U w d r D M → ∀ {w'}, Kp (fun j => j = r) w w' → Kp (Wr U w) w w' := fun h _ k => k.mono fun j _ e => by rw [e]; exact ⟨h.inR, fun ht => absurd (ht.one h.pw.ty) (by decide)⟩
  unfold DoesP at dp
  split at dp
  · rename_i hd
    rw [if_pos hd]
    obtain ⟨w6, w7, k1, ⟨U', M', hm, hn, hk⟩, k2⟩ := dp
    refine Dn.more (wr h k1) (Next.refl _ _) (Dn.more hk hn ⟨U', M', ?_, Next.refl _ _, wr hm k2⟩)
    have := hm.power hp k2
    rwa [show ({ ({ D with p := D.p.next } : DskS).act2 t with p := D.p.next } : DskS) = ({ D with p := D.p.next } : DskS).act2 t from by
      have e := act2_p ({ D with p := D.p.next } : DskS) t
      generalize ({ D with p := D.p.next } : DskS).act2 t = X at *
      obtain ⟨x1, x2, x3, x4, x5, x6, x7⟩ := X
      dsimp only at e ⊢
      rw [e]] at this
  · rename_i hd
    rw [if_neg hd]
    exact ⟨U, M, h.power hp dp, Next.refl _ _, wr h dp⟩
set_option maxRecDepth 100000 in
theorem oStep1 (w : World) {gA gB d : Nat} {tk ta : Int} {p : Option Addr} {m q : Nat} (hA : Blk w gA [.pointer (some ⟨d, 0, none⟩)] 31) (hB : Blk w gB [.int .i64 tk, .int .i64 ta, .slice p m q] 114) {R : World → Prop}
    (C : Calls Tryz.prog 118 #[.pointer (some ⟨d, 0, none⟩), .agg #[.int .i64 tk, .int .i64 ta, .slice p m q]] w fun e w' => e = .returned (.tuple #[]) ∧ R w') :
    Calls Tryz.prog 117 #[.pointer (some ⟨gA, 0, none⟩), .pointer (some ⟨gB, 0, none⟩)] w fun e w' => e = .returned (.tuple #[]) ∧ R w' := by
  have a0 : w.cell? ⟨gA, 0, none⟩ = some (.pointer (some ⟨d, 0, none⟩)) := hA.cell 0
  have lA := hA.lt
  have lB := hB.lt
  clear hA
  go_enter Tryz.func117, Tryz.ntmps117
  go_wp2_with ((with_reducible refine at_ld 114 ?_); (refine ld 114 (.tmp 1) 3 size88 _ Tryz.underlying114 rfl gB 0 [.int .i64 tk, .int .i64 ta, .slice p m q] rfl hB.whole rfl ?_))
  refine C.mono ?_
  rintro e w' ⟨rfl, hr⟩
  go_wp2_with fail
  go_end0
  exact ⟨rfl, hr⟩
/-- What a step leaves. -/
def DskS.acted (D : DskS) (t : Tch) : DskS := if D.p.does then D.tick.act2 t else D.tick

set_option maxRecDepth 100000 in
set_option maxHeartbeats 8000000 in
theorem oStepD (w : World) {U : Nat → Prop} {d r : Nat} {D : DskS} {M : Mm} (h : Dm U w d r D M) {mm : Nat} (hf : D.fit mm) (hmm : mm ≤ 5000) (tk ta : Int) (tb : List UInt8) (hi1 : i64 tk) (hi2 : i64 ta) {p : Option Addr} {m q : Nat} (hb : B5 U w p m q tb) (hl : tk = 1 → tb.length = 512) (hl3 : tb.length ≤ 512) :
    Calls Tryz.prog 91 #[.pointer (some ⟨d, 0, none⟩), .agg #[.int .i64 tk, .int .i64 ta, .slice p m q]] w fun e w' => e = .returned (.int .i64 (if D.p.ok then 0 else 5)) ∧ Dn U w d r (D.acted (tk, ta, tb)) w' := by
  have k1 : Below w.heap.size w ((w.alloc (.cells #[.pointer (some ⟨d, 0, none⟩)] 31)).alloc (.cells #[.int .i64 tk, .int .i64 ta, .slice p m q] 114)) := below2 _ _ _
  have bA : Blk ((w.alloc (.cells #[.pointer (some ⟨d, 0, none⟩)] 31)).alloc (.cells #[.int .i64 tk, .int .i64 ta, .slice p m q] 114)) w.heap.size [.pointer (some ⟨d, 0, none⟩)] 31 := (Blk.newAt w _ _ w.heap.size rfl _ rfl).old _
  have bB : Blk ((w.alloc (.cells #[.pointer (some ⟨d, 0, none⟩)] 31)).alloc (.cells #[.int .i64 tk, .int .i64 ta, .slice p m q] 114)) (w.heap.size + 1) [.int .i64 tk, .int .i64 ta, .slice p m q] 114 := Blk.newAt (w.alloc _) _ _ (w.heap.size + 1) (by simp) _ rfl
  have h1 := h.below k1
  have h51 := hb.below k1
  have ngA : ¬ U w.heap.size := fun hu => by have := h.lt _ hu; omega
  have ngB : ¬ U (w.heap.size + 1) := fun hu => by have := h.lt _ hu; omega
  obtain ⟨gA, hgA⟩ : ∃ g, g = w.heap.size := ⟨_, rfl⟩
  obtain ⟨gB, hgB⟩ : ∃ g, g = w.heap.size + 1 := ⟨_, rfl⟩
  obtain ⟨W1, hW1⟩ : ∃ W1, W1 = ((w.alloc (.cells #[.pointer (some ⟨d, 0, none⟩)] 31)).alloc (.cells #[.int .i64 tk, .int .i64 ta, .slice p m q] 114)) := ⟨_, rfl⟩
  have HW1 : Hid (W1 = ((w.alloc (.cells #[.pointer (some ⟨d, 0, none⟩)] 31)).alloc (.cells #[.int .i64 tk, .int .i64 ta, .slice p m q] 114))) := hW1
  have HGA : Hid (gA = w.heap.size) := hgA
  have HGB : Hid (gB = w.heap.size + 1) := hgB
  have hls : gA < W1.heap.size ∧ gB < W1.heap.size := by rw [hW1, hgA, hgB]; simp; omega
  rw [← hW1] at k1 bA bB h1 h51
  rw [← hgA] at bA ngA
  rw [← hgB] at bB ngB
  obtain ⟨e1, e2, e3, e4, e5, e6, e7⟩ := pokes_len D.steps D.plot D
  have f1 := hf.safe
  have f2 := hf.loose
  have f3 := hf.seen
  have f4 := hf.plot
  have f5 := hf.steps
  have fP := hf.p
  have CA := oAhead W1 h1 (by omega) (by omega) (by omega)
  obtain ⟨D1, hD1⟩ : ∃ D1, D1 = D.pokes D.steps D.plot := ⟨_, rfl⟩
  have HT : Hid (D.tick = { D1 with p := D.p.next, steps := if D.p.down then D.steps else D.steps + 1 }) := by rw [hD1]; rfl
  rw [← hD1] at CA e1 e2 e3 e4 e5 e6 e7
  clear hD1
  obtain ⟨P, hP⟩ : ∃ P : World → Prop, P = Dn U w d r (D.acted (tk, ta, tb)) := ⟨_, rfl⟩
  show Calls _ _ _ _ fun e w' => e = .returned (.int .i64 (if D.p.ok then 0 else 5)) ∧ Dn U w d r (D.acted (tk, ta, tb)) w'
  rw [← hP]
  obtain ⟨cd, hcd⟩ : ∃ cd : Int, cd = if D.p.ok then 0 else 5 := ⟨_, rfl⟩
  rw [← hcd]
  have PRE : Hid (∀ UV V u, Kp (Wr U W1) W1 V → Next W1 U UV → Dn UV V d r (D.acted (tk, ta, tb)) u → P u) := fun UV V u kk nn hh => by rw [hP]; exact Dn.behind k1 (Dn.more kk nn hh)
  have a1 : W1.cell? ⟨gA, 0, none⟩ = some (.pointer (some ⟨d, 0, none⟩)) := bA.cell 0
  have lA := bA.lt
  have HCD : Hid (cd = if D.p.ok then 0 else 5) := hcd
  clear hP h hb k1 hW1 hgA hgB hcd hf
  go_enter Tryz.func91, Tryz.ntmps91
  go_wp2_with fail
  rw [← HW1.out, ← HGB.out, ← HGA.out]
  go_wp2_with fail
  refine CA.mono ?_
  rintro e w2 ⟨rfl, U2, M2, h2, hg2, n2, kk2⟩
  have h2u : Dm (fun j => U2 j ∨ U j) w2 d r D1 M2 := h2.up (fun _ hu => Or.inl hu) (fun j hj => by rcases hj with hj | hj; exact h2.lt j hj; exact Nat.lt_of_lt_of_le (h1.lt j hj) kk2.size)
  have n2u : Next W1 U (fun j => U2 j ∨ U j) := fun j hj => by rcases hj with hj | hj; exact n2 j hj; exact Or.inl hj
  have bA2 := kk2.blk bA fun hh => ngA hh.1
  have bB2 := kk2.blk bB fun hh => ngB hh.1
  have h52 : B5 (fun j => U2 j ∨ U j) w2 p m q tb := (h51.keep fun j cur f hu hh => kk2.block j (Array.getElem?_eq_some_iff.1 hh).1 fun hw => hw.2 ⟨cur, f, hh⟩).mono fun j _ hj => Or.inr hj
  have nA : ¬ (U2 gA ∨ U gA) := fun hh => by
    rcases hh with hh | hh
    · rcases n2 _ hh with h3 | h3
      · exact ngA h3
      · omega
    · exact ngA hh
  have nB : ¬ (U2 gB ∨ U gB) := fun hh => by
    rcases hh with hh | hh
    · rcases n2 _ hh with h3 | h3
      · exact ngB h3
      · omega
    · exact ngB hh
  obtain ⟨UV, hUV⟩ : ∃ UV : Nat → Prop, UV = fun j => U2 j ∨ U j := ⟨_, rfl⟩
  have PRE2 : Hid (∀ V u, Kp (Wr UV w2) w2 V → Dn UV V d r (D.acted (tk, ta, tb)) u → P u) := fun V u kk hh => PRE.out UV w2 u kk2 (by rw [hUV]; exact n2u) (Dn.more kk (Next.refl _ _) hh)
  rw [← hUV] at h2u h52
  have nA2 : ¬ UV gA := by rw [hUV]; exact nA
  have nB2 : ¬ UV gB := by rw [hUV]; exact nB
  clear hUV h2 n2 n2u kk2 CA PRE a1 lA nA nB ngA ngB h1 h51 bA bB hls hg2
  have a2 : w2.cell? ⟨gA, 0, none⟩ = some (.pointer (some ⟨d, 0, none⟩)) := bA2.cell 0
  have lA2 := bA2.lt
  have c0 : w2.cell? ⟨d, 0, none⟩ = some (.pointer (some ⟨r, 0, none⟩)) := h2u.blk.cell 0
  have ld2 := h2u.blk.lt
  have CD := oPDown w2 h2u.pw
  rw [e3] at CD
  cases hdn : D.p.down with
  | true =>
    rw [hdn] at CD
    have HC5 : Hid (cd = 5) := by show _ = _; rw [HCD.out]; unfold PowS.ok; rw [hdn]; rfl
    have HACT : Hid (D.acted (tk, ta, tb) = D1) := by
      have e8 : D.p.does = false := by unfold PowS.does; rw [hdn]; rfl
      have e9 : D.p.next = D.p := by unfold PowS.next; rw [if_pos hdn]
      show _ = _
      unfold DskS.acted
      rw [e8, HT.out, e9, hdn, ← e3]
      show ({ D1 with p := D1.p, steps := D.steps } : DskS) = D1
      rw [← e4]
    have HFIN : Hid (P w2) := PRE2.out w2 w2 (Kp.refl _ _) (by rw [HACT.out]; exact Dn.same h2u (Below.refl _ _))
    clear PRE2 h2u bA2 bB2 h52 HACT hdn e1 e2 e3 e4 e5 e6 e7 f1 f2 f3 f4 f5 fP nA2 nB2
    go_wp2_with fail
    refine CD.mono ?_
    rintro e w' ⟨rfl, rfl⟩
    clear CD
    go_wp2_with fail
    go_ret
    exact ⟨by rw [HC5.out]; rfl, HFIN.out⟩
  | false =>
    rw [hdn] at CD
    have HACT : Hid (D.acted (tk, ta, tb) = if D1.p.does then ({ ({ D1 with steps := D1.steps + 1 } : DskS) with p := D1.p.next } : DskS).act2 (tk, ta, tb) else { ({ D1 with steps := D1.steps + 1 } : DskS) with p := D1.p.next }) := by
      show _ = _
      unfold DskS.acted
      rw [HT.out, hdn, e3, e4]
      rfl
    have HOK : Hid (cd = if D1.p.ok then 0 else 5) := by show _ = _; rw [e3]; exact HCD.out
    clear hdn HT HCD
    go_wp2_with fail
    refine CD.mono ?_
    rintro e w' ⟨rfl, rfl⟩
    clear CD
    have FA : ∀ u, Grows w' u → u.cell? ⟨gA, 0, none⟩ = some (.pointer (some ⟨d, 0, none⟩)) := fun u hu => (bA2.below hu bA2.lt).cell 0
    have F5 : ∀ u, Grows w' u → u.cell? ⟨d, 5, none⟩ = some (.map M2.mq) := fun u hu => (h2u.below hu).blk.cell 5
    have F2 : ∀ u, Grows w' u → u.cell? ⟨d, 2, none⟩ = some (.int .i64 (D1.steps : Int)) := fun u hu => (h2u.below hu).blk.cell 2
    clear a2 lA2 c0 ld2
    go_wp2_with fail
    refine regionE 8 (S := Grows w') (by kernel_rfl) (Below.refl _ w').drew ?_
    refine takeT 0 (some 19) (.pointer (some ⟨d, 0, none⟩)) rfl rfl (by kernel_rfl) (fun _ _ _ h => h) (ans_plain (by rfl) (fun w h => by have hc := FA w h; unfold execOp; go_simp)) ?_
    simp only [Act.put, List.setIfInBounds_toArray, List.set_cons_zero, List.set_cons_succ]
    refine takeT 1 (some 20) (.pointer (some ⟨d, 0, none⟩)) rfl rfl (by kernel_rfl) (fun _ _ _ h => h) (ans_plain (by rfl) (fun w _ => by unfold execOp; go_simp)) ?_
    simp only [Act.put, List.setIfInBounds_toArray, List.set_cons_zero, List.set_cons_succ]
    refine takeT 2 (some 21) (.pointer (some ⟨d, 5, none⟩)) rfl rfl (by kernel_rfl) (fun _ _ _ h => h) (ans_plain (by rfl) (fun w _ => by unfold execOp; go_simp)) ?_
    simp only [Act.put, List.setIfInBounds_toArray, List.set_cons_zero, List.set_cons_succ]
    refine takeT 3 (some 22) (.map M2.mq) rfl rfl (by kernel_rfl) (fun _ _ _ h => h) (ans_plain (by rfl) (fun w h => by have hc := F5 w h; unfold execOp; go_simp)) ?_
    simp only [Act.put, List.setIfInBounds_toArray, List.set_cons_zero, List.set_cons_succ]
    refine takeT 4 (some 23) (.pointer (some ⟨d, 0, none⟩)) rfl rfl (by kernel_rfl) (fun _ _ _ h => h) (ans_plain (by rfl) (fun w h => by have hc := FA w h; unfold execOp; go_simp)) ?_
    simp only [Act.put, List.setIfInBounds_toArray, List.set_cons_zero, List.set_cons_succ]
    refine takeT 5 (some 24) (.pointer (some ⟨d, 0, none⟩)) rfl rfl (by kernel_rfl) (fun _ _ _ h => h) (ans_plain (by rfl) (fun w _ => by unfold execOp; go_simp)) ?_
    simp only [Act.put, List.setIfInBounds_toArray, List.set_cons_zero, List.set_cons_succ]
    refine takeT 6 (some 25) (.pointer (some ⟨d, 2, none⟩)) rfl rfl (by kernel_rfl) (fun _ _ _ h => h) (ans_plain (by rfl) (fun w _ => by unfold execOp; go_simp)) ?_
    simp only [Act.put, List.setIfInBounds_toArray, List.set_cons_zero, List.set_cons_succ]
    refine takeT 7 (some 26) (.int .i64 (D1.steps : Int)) rfl rfl (by kernel_rfl) (fun _ _ _ h => h) (ans_plain (by rfl) (fun w h => by have hc := F2 w h; unfold execOp; go_simp)) ?_
    simp only [Act.put, List.setIfInBounds_toArray, List.set_cons_zero, List.set_cons_succ]
    refine goE (by kernel_rfl) (by kernel_rfl) (by kernel_rfl) fun u3 hg3 hs3 => ?_
    obtain ⟨u4, g', hrun, hm4, hno4, hg4, k4⟩ := (h2u.below hs3).delPlot (D1.steps : Int)
    refine opDelR rfl rfl rfl (.tmp 22) (.tmp 26) 89 3 rfl (.map M2.mq) (.int .i64 (D1.steps : Int)) rfl rfl u4 hrun ?_
    refine endE (by kernel_rfl) fun u5 hg5 => ?_
    have k5 : Kp (fun j => M2.mq = some j) w' u5 := ((Kp.of_below hs3).trans k4).trans (Kp.of_below hg5)
    have hdq : ¬ M2.mq = some d := fun e => (h2u.plot.map d e).1.noTy _ h2u.blk.ty
    have b5 := k5.blk h2u.blk hdq
    have bA5 := k5.blk bA2 fun e => nA2 (h2u.plot.map _ e).2
    have bB5 := k5.blk bB2 fun e => nB2 (h2u.plot.map _ e).2
    have hm5 : ∀ m, M2.mq = some m → Mp u5 m g' := fun m e => (hm4 m e).same (Below.block hg5 m (hm4 m e).lt)
    have a5 : u5.cell? ⟨gA, 0, none⟩ = some (.pointer (some ⟨d, 0, none⟩)) := bA5.cell 0
    have lA5 := bA5.lt
    have c5 : u5.cell? ⟨d, 2, none⟩ = some (.int .i64 (D1.steps : Int)) := b5.cell 2
    have z5 := b5.free 2
    have ld5 := b5.lt
    have c05 : u5.cell? ⟨d, 0, none⟩ = some (.pointer (some ⟨r, 0, none⟩)) := b5.cell 0
    have hdA0 : ¬ gA = d := fun e => nA2 (by rw [e]; exact h2u.inD)
    have hst : D1.steps ≤ 5000 := by omega
    have HST : Hid (((D1.steps + 1 : Nat) : Int) = (D1.steps : Int) + 1) := by show _ = _; omega
    have HNO : Hid (M2.mq = none → ∀ k, g' k = none) := hno4
    have HG4 : Hid (∀ k, ¬ k = (D1.steps : Int) → g' k = M2.g k) := hg4
    have HM5 : Hid (∀ m, M2.mq = some m → Mp u5 m g') := hm5
    have HDQ : Hid (¬ M2.mq = some d) := hdq
    have HE : Hid (D1.p = D.p ∧ D1.safe.length ≤ D.safe.length + D.plot.length ∧ D1.loose.length ≤ D.loose.length ∧ D1.seen.length ≤ mm) := ⟨e3, e1, e2, by rw [e6]; exact f3⟩
    clear FA F5 F2 hg3 hrun hm4 hs3 k4 hg5 hno4 hg4 hm5 hdq e1 e2 e3 e4 e5 e6 e7
    go_wp2_with fail
    obtain ⟨W5, hW5⟩ : ∃ W5, W5 = u5.setCell ⟨d, 2, none⟩ (.int .i64 ((D1.steps : Int) + 1)) := ⟨_, rfl⟩
    rw [← hW5]
    have kd : Kp (fun j => j = d) u5 W5 := by rw [hW5]; exact kp_set u5 d 2 _
    have bW : Blk W5 d (hc r { D1 with steps := D1.steps + 1 } { M2 with g := g' }) 91 := by
      rw [hW5]
      have := b5.setC 2 (.int .i64 ((D1.steps : Int) + 1))
      unfold hc
      dsimp only
      rw [HST.out]
      exact this
    have hdA : ¬ gA = d := fun e => nA2 (by rw [e]; exact h2u.inD)
    have hdB : ¬ gB = d := fun e => nB2 (by rw [e]; exact h2u.inD)
    have bAW := kd.blk bA5 hdA
    have bBW := kd.blk bB5 hdB
    have kW : Kp (fun j => M2.mq = some j ∨ j = d) w' W5 := (k5.mono fun j _ e => Or.inl e).trans (kd.mono fun j _ e => Or.inr e)
    obtain ⟨hW, kWr⟩ := h2u.ticked kW bW (fun m e => (HM5.out m e).same (kd.block m (HM5.out m e).lt fun e2 => HDQ.out (by rw [← e2]; exact e))) HNO.out HG4.out
    have h5W : B5 UV W5 p m q tb := h52.keep fun j cur f hu hh => kWr.block j (Array.getElem?_eq_some_iff.1 hh).1 fun hw => hw.2 ⟨cur, f, hh⟩
    obtain ⟨D5, hD5⟩ : ∃ D5 : DskS, D5 = { D1 with steps := D1.steps + 1 } := ⟨_, rfl⟩
    obtain ⟨M5, hM5⟩ : ∃ M5 : Mm, M5 = { M2 with g := g' } := ⟨_, rfl⟩
    have g1 : D5.p = D.p := by rw [hD5]; exact HE.out.1
    have g2 : D5.safe.length ≤ D.safe.length + D.plot.length := by rw [hD5]; exact HE.out.2.1
    have g3 : D5.loose.length ≤ D.loose.length := by rw [hD5]; exact HE.out.2.2.1
    have g4 : D5.seen.length ≤ mm := by rw [hD5]; exact HE.out.2.2.2
    have HAC2 : Hid (D.acted (tk, ta, tb) = if D5.p.does then ({ D5 with p := D5.p.next } : DskS).act2 (tk, ta, tb) else { D5 with p := D5.p.next }) := by show _ = _; rw [HACT.out, hD5]
    have HOK2 : Hid (cd = if D5.p.ok then 0 else 5) := by show _ = _; rw [HOK.out, hD5]
    rw [← hD5, ← hM5] at hW
    have PRE3 : Hid (∀ u, Dn UV W5 d r (D.acted (tk, ta, tb)) u → P u) := fun u hh => PRE2.out W5 u kWr hh
    clear hD5 hM5 hW5 kW kWr bW HM5 HNO HG4 k5 b5 bA5 bB5 a5 lA5 c5 c05 hdA0 z5 ld5 bA2 bB2 h52 h2u PRE2 HACT HOK HE hst HST HDQ kd
    have aW : W5.cell? ⟨gA, 0, none⟩ = some (.pointer (some ⟨d, 0, none⟩)) := bAW.cell 0
    have lAW := bAW.lt
    have c0W : W5.cell? ⟨d, 0, none⟩ = some (.pointer (some ⟨r, 0, none⟩)) := hW.blk.cell 0
    have ldW := hW.blk.lt
    have nrA : ¬ gA = r := fun e => nA2 (by rw [e]; exact hW.inR)
    have nrB : ¬ gB = r := fun e => nB2 (by rw [e]; exact hW.inR)
    have fP5 : D5.p.fit mm := by rw [g1]; exact fP
    have CS := oPStepP W5 hW.pw fP5 (by omega) 117 #[.pointer (some ⟨gA, 0, none⟩), .pointer (some ⟨gB, 0, none⟩)] Tryz.call117 (fun w6 w7 => Dn UV w6 d r (({ D5 with p := D5.p.next } : DskS).act2 (tk, ta, tb)) w7) (fun w6 k6 pw6 => by
      have h6 := hW.power pw6 k6
      have h56 : B5 UV w6 p m q tb := h5W.keep fun j cur f hu hh => k6.block j (Array.getElem?_eq_some_iff.1 hh).1 fun e => by subst e; exact absurd ((show Ty W5 j 5 from ⟨cur, f, hh⟩).one hW.pw.ty) (by decide)
      have CO := oDoT w6 h6 (by show D5.safe.length + D5.loose.length + 1 ≤ 1000000; omega) (by show D5.seen.length + 1 ≤ 1000000; omega) tk ta tb hi1 hi2 h56 hl hl3
      have C1 := oStep1 w6 (k6.blk bAW nrA) (k6.blk bBW nrB) CO
      refine C1.mono ?_
      rintro e w7 ⟨he, U', M', hm7, hn7, hk7⟩
      refine ⟨he, ?_, U', M', hm7, hn7, hk7⟩
      have := hm7.pw
      rw [act2_p] at this
      exact this)
    have FIN : Hid (∀ u, Pw u r D5.p.next → DoesP D5.p r (fun w6 w7 => Dn UV w6 d r (({ D5 with p := D5.p.next } : DskS).act2 (tk, ta, tb)) w7) W5 u → P u) := fun u hp hdp => PRE3.out u (by rw [HAC2.out]; exact step_end hW hp hdp)
    obtain ⟨ok, hok⟩ : ∃ ok, ok = D5.p.ok := ⟨_, rfl⟩
    rw [← hok] at CS HOK2
    clear hok PRE3 hW h5W bAW bBW nrA nrB HAC2 g1 g2 g3 g4 fP5 fP f1 f2 f3 f4 f5 nA2 nB2 hl
    go_wp2_with fail
    refine CS.mono ?_
    rintro e w8 ⟨rfl, hp8, dp8⟩
    have HFIN : Hid (P w8) := FIN.out w8 hp8 dp8
    clear CS FIN hp8 dp8 aW lAW c0W ldW
    cases ok with
    | true =>
      have HC : Hid (cd = 0) := HOK2
      go_wp2_with fail
      go_ret
      exact ⟨by rw [HC.out]; rfl, HFIN.out⟩
    | false =>
      have HC : Hid (cd = 5) := HOK2
      go_wp2_with fail
      go_ret
      exact ⟨by rw [HC.out]; rfl, HFIN.out⟩

end Go.Proofs.YtlenmkhmkommcaaGreat

/-
  Contracts of layer 9's program: Read, Write, Flush. Conditions: lists of at most a million, fewer than 2^40 steps.
-/
namespace Go.Proofs.YtlenmkhmkommcaaGreat
open Go.RowKit
set_option linter.unusedVariables false

theorem acted_done (D : DskS) (a : Int) : D.acted (0, a, []) = D.done (0, a, []) := by
  unfold DskS.acted DskS.done DskS.act2
  dsimp only
  rw [if_neg (show ¬ (0 : Int) = 1 by omega), if_neg (show ¬ (0 : Int) = 2 by omega)]
theorem acted_wrote (D : DskS) (a : Int) (b : List UInt8) : D.acted (1, a, b) = D.wrote a b := by
  unfold DskS.acted DskS.wrote DskS.act2
  dsimp only
  rw [if_pos rfl]
  rfl
theorem poke_sub (D : DskS) (x : Pok) : ∀ c ∈ (D.poke x).loose, c ∈ D.loose := by
  unfold DskS.poke
  split
  · exact fun c hc => hc
  · exact fun c hc => (List.mem_filter.1 hc).1
theorem pokes_sub (s : Nat) : ∀ (l : List Pok) (D : DskS), ∀ c ∈ (D.pokes s l).loose, c ∈ D.loose
  | [], D, c, hc => hc
  | x :: l, D, c, hc => by
    have e : D.pokes s (x :: l) = (if x.on = (s : Int) then D.poke x else D).pokes s l := rfl
    rw [e] at hc
    have := pokes_sub s l _ c hc
    split at this
    · exact poke_sub D x c this
    · exact this
theorem acted_flushed (D : DskS) (h : ∀ c ∈ D.loose, c.2.length = 512) : D.acted (2, -1, []) = D.flushed := by
  unfold DskS.acted DskS.flushed DskS.act2
  dsimp only
  rw [if_neg (show ¬ (2 : Int) = 1 by omega), if_pos rfl, settles_plus D.tick.loose D.tick fun c hc => h c (pokes_sub D.steps D.plot D c hc)]
theorem Dm.in_ {U : Nat → Prop} {w : World} {d r : Nat} {D : DskS} {M : Mm} (h : Dm U w d r D M) {at_ : Int} : decide (0 ≤ at_ ∧ at_ < D.n) = !decide (at_ < 0 ∨ D.n ≤ at_) := by
  by_cases hh : at_ < 0 ∨ D.n ≤ at_
  · rw [decide_eq_true hh, decide_eq_false (by omega)]; rfl
  · rw [decide_eq_false hh, decide_eq_true (by omega)]; rfl
set_option maxRecDepth 100000 in
set_option maxHeartbeats 4000000 in
theorem oRead0 (w : World) {U : Nat → Prop} {d r : Nat} {D : DskS} {M : Mm} (h : Dm U w d r D M) {mm : Nat} (hf : D.fit mm) (hmm : mm ≤ 5000) (at_ : Int) (hat : i64 at_) : Calls Tryz.prog 56 #[.pointer (some ⟨d, 0, none⟩), .int .i64 at_] w fun e w' => ∃ p m c, e = .returned (.tuple #[.slice p m c, .int .i64 (D.read at_).2.2]) ∧ ∃ U' M', Dm U' w' d r (D.read at_).1 M' ∧ Next w U U' ∧ Kp (Wr U w) w w' ∧ B5 (fun j => ¬ U' j ∧ w.heap.size ≤ j) w' p m c (D.read at_).2.1 := by
  have CH := oHas w h.blk at_
  rw [h.in_] at CH
  have CS := oStepD w h hf hmm 0 at_ [] (by unfold i64; omega) hat (B5.nil _ _) (fun e => by omega) (by simp)
  rw [acted_done] at CS
  obtain ⟨R, hR⟩ : ∃ R, R = D.read at_ := ⟨_, rfl⟩
  rw [← hR]
  have hlen := tick_len D
  have f1 := hf.safe
  have f2 := hf.loose
  have f4 := hf.plot
  by_cases hrg : at_ < 0 ∨ D.n ≤ at_
  · rw [decide_eq_true hrg] at CH
    have HR : Hid (R = (D, [], 2)) := by show _ = _; rw [hR]; unfold DskS.read; rw [if_pos hrg]
    have HF : Hid (Dm U w d r D M) := h
    clear h CS hR hrg hlen f1 f2 f4 hf
    go_enter Tryz.func56, Tryz.ntmps56
    go_wp2_with fail
    refine CH.mono ?_
    rintro e w1 ⟨rfl, rfl⟩
    clear CH
    go_wp2_with fail
    go_ret2
    refine ⟨none, 0, 0, by rw [HR.out]; rfl, U, M, by rw [HR.out]; exact HF.out, Next.refl _ _, Kp.refl _ _, by rw [HR.out]; exact ⟨Bs.nil _, fun hm => by omega⟩⟩
  · rw [decide_eq_false hrg] at CH
    have e2 : D.read at_ = if D.p.ok then (D.done (0, at_, []), (D.done (0, at_, [])).look at_, 0) else (D.done (0, at_, []), [], 5) := by unfold DskS.read; rw [if_neg hrg]
    rw [e2] at hR
    have HDL : Hid ((D.done (0, at_, [])).safe.length ≤ 1000000 ∧ (D.done (0, at_, [])).loose.length ≤ 1000000 ∧ (D.done (0, at_, [])).n = D.n) := by
      unfold DskS.done
      split
      · exact ⟨by show D.tick.safe.length ≤ _; omega, by show D.tick.loose.length ≤ _; omega, hlen.2.2.1⟩
      · exact ⟨by omega, by omega, hlen.2.2.1⟩
    have HIN : Hid (0 ≤ at_ ∧ at_ < D.n) := ⟨by omega, by omega⟩
    obtain ⟨D', hD'⟩ : ∃ D', D' = D.done (0, at_, []) := ⟨_, rfl⟩
    obtain ⟨ok, hok⟩ : ∃ ok, ok = D.p.ok := ⟨_, rfl⟩
    rw [← hD', ← hok] at hR CS
    rw [← hD'] at HDL
    have HR : Hid (R = if ok then (D', D'.look at_, 0) else (D', [], 5)) := hR
    clear h hR hrg hlen f1 f2 f4 hf e2 hD' hok
    cases ok with
    | true =>
      have CS' : Hid (Calls Tryz.prog 91 #[.pointer (some ⟨d, 0, none⟩), .agg #[.int .i64 0, .int .i64 at_, .slice none 0 0]] w fun e w' => e = .returned (.int .i64 0) ∧ Dn U w d r D' w') := CS
      clear CS
      go_enter Tryz.func56, Tryz.ntmps56
      go_wp2_with fail
      refine CH.mono ?_
      rintro e w1 ⟨rfl, rfl⟩
      clear CH
      go_wp2_with fail
      refine CS'.out.mono ?_
      rintro e w2 ⟨rfl, U', M', hm, hn, hk⟩
      have CL := oLookIn w2 hm HDL.out.1 HDL.out.2.1 at_ (by rw [HDL.out.2.2]; exact HIN.out)
      have FIN : Hid (∀ w3, Below w2.heap.size w2 w3 → Dm U' w3 d r D' M' ∧ Kp (Wr U w1) w1 w3) := fun w3 hb => ⟨hm.below hb, hk.trans (Kp.of_below hb)⟩
      have HLT : Hid (∀ j, U' j → j < w2.heap.size) := hm.lt
      have HN : Hid (Next w1 U U') := hn
      have HSZ : Hid (w1.heap.size ≤ w2.heap.size) := hk.size
      clear hm hn hk CS'
      go_wp2_with fail
      refine CL.mono ?_
      rintro e w3 ⟨a3, m3, c3, rfl, o3, hb3⟩
      clear CL
      go_wp2_with fail
      go_ret2
      refine ⟨a3, m3, c3, by rw [HR.out]; rfl, U', M', by rw [HR.out]; exact (FIN.out w3 hb3).1, HN.out, (FIN.out w3 hb3).2, ?_⟩
      rw [HR.out]
      refine o3.b5 (A := fun j => ¬ U' j ∧ w1.heap.size ≤ j) fun j hj _ => ⟨fun hu => ?_, Nat.le_trans HSZ.out hj⟩
      have := HLT.out j hu
      omega
    | false =>
      have CS' : Hid (Calls Tryz.prog 91 #[.pointer (some ⟨d, 0, none⟩), .agg #[.int .i64 0, .int .i64 at_, .slice none 0 0]] w fun e w' => e = .returned (.int .i64 5) ∧ Dn U w d r D' w') := CS
      clear CS
      go_enter Tryz.func56, Tryz.ntmps56
      go_wp2_with fail
      refine CH.mono ?_
      rintro e w1 ⟨rfl, rfl⟩
      clear CH
      go_wp2_with fail
      refine CS'.out.mono ?_
      rintro e w2 ⟨rfl, hdn⟩
      have HDN : Hid _ := hdn
      clear CS' hdn
      go_wp2_with fail
      go_ret2
      obtain ⟨U', M', hm, hn, hk⟩ := HDN.out
      exact ⟨none, 0, 0, by rw [HR.out]; rfl, U', M', by rw [HR.out]; exact hm, hn, hk, by rw [HR.out]; exact ⟨Bs.nil _, fun hm => by omega⟩⟩
set_option maxRecDepth 100000 in
set_option maxHeartbeats 4000000 in
theorem oWrite0 (w : World) {U : Nat → Prop} {d r : Nat} {D : DskS} {M : Mm} (h : Dm U w d r D M) {mm : Nat} (hf : D.fit mm) (hmm : mm ≤ 5000) (at_ : Int) (hat : i64 at_) {p : Option Addr} {m c : Nat} {b : List UInt8} (hb : Bs w p m c b) : Calls Tryz.prog 65 #[.pointer (some ⟨d, 0, none⟩), .int .i64 at_, .slice p m c] w fun e w' => e = .returned (.int .i64 (D.write at_ b).2) ∧ Dn U w d r (D.write at_ b).1 w' := by
  have CH := oHas w h.blk at_
  rw [h.in_] at CH
  have hbl := hb.len
  have hbm := hb.max
  obtain ⟨R, hR⟩ : ∃ R, R = D.write at_ b := ⟨_, rfl⟩
  rw [← hR]
  unfold DskS.write at hR
  by_cases hrg : at_ < 0 ∨ D.n ≤ at_
  · rw [decide_eq_true hrg] at CH
    rw [if_pos hrg] at hR
    have HR : Hid (R = (D, 2)) := hR
    have HF : Hid (Dn U w d r D w) := Dn.same h (Below.refl _ _)
    clear h hR hrg hf hb
    go_enter Tryz.func65, Tryz.ntmps65
    go_wp2_with fail
    refine CH.mono ?_
    rintro e w1 ⟨rfl, rfl⟩
    clear CH
    go_wp2_with fail
    go_ret
    exact ⟨by rw [HR.out]; rfl, by rw [HR.out]; exact HF.out⟩
  · rw [decide_eq_false hrg] at CH
    rw [if_neg hrg] at hR
    by_cases hl : b.length = 512
    · rw [if_neg (by omega)] at hR
      rw [hbl] at hl
      subst hl
      have CJ := oJoin1 w hb (by omega)
      have CS : Hid (∀ w2 a2 m2 c2, Own w2 w.heap.size (.slice a2 m2 c2) b → Below w.heap.size w w2 → Calls Tryz.prog 91 #[.pointer (some ⟨d, 0, none⟩), .agg #[.int .i64 1, .int .i64 at_, .slice a2 m2 c2]] w2 fun e w' => e = .returned (.int .i64 R.2) ∧ Dn U w d r R.1 w') := fun w2 a2 m2 c2 ho k2 => by
        have h2 : Dm (fun j => U j ∨ (w.heap.size ≤ j ∧ j < w2.heap.size)) w2 d r D M := (h.below k2).up (fun _ hu => Or.inl hu) (fun j hj => by rcases hj with hj | hj; exact Nat.lt_of_lt_of_le (h.lt j hj) k2.size; exact hj.2)
        have := oStepD w2 h2 hf hmm 1 at_ b (by unfold i64; omega) hat (ho.b5 fun j hj hs => Or.inr ⟨hj, hs⟩) (fun _ => hbl) (by omega)
        rw [acted_wrote] at this
        rw [hR]
        refine this.mono ?_
        rintro e w' ⟨he, hd⟩
        refine ⟨he, Dn.more (Kp.of_below k2) (fun j hj => ?_) hd⟩
        rcases hj with hj | hj
        · exact Or.inl hj
        · exact Or.inr hj.1
      clear h hR hrg hf hb
      go_enter Tryz.func65, Tryz.ntmps65
      go_wp2_with fail
      refine CH.mono ?_
      rintro e w1 ⟨rfl, rfl⟩
      clear CH
      go_wp2_with fail
      refine CJ.mono ?_
      rintro e w2 ⟨a2, m2, c2, rfl, o2, hb2⟩
      have CS2 := CS.out w2 a2 m2 c2 o2 hb2
      clear CJ CS o2 hb2
      go_wp2_with fail
      refine CS2.mono ?_
      rintro e w3 ⟨rfl, hdn⟩
      have HDN : Hid _ := hdn
      clear hdn CS2
      go_wp2_with fail
      go_ret
      exact ⟨rfl, HDN.out⟩
    · rw [if_pos hl] at hR
      have HR : Hid (R = (D, 17)) := hR
      have HF : Hid (Dn U w d r D w) := Dn.same h (Below.refl _ _)
      rw [hbl] at hl
      have jn : ((m : Int) != 512) = true := by simp; omega
      clear h hR hrg hf hb hbl
      go_enter Tryz.func65, Tryz.ntmps65
      go_wp2_with fail
      refine CH.mono ?_
      rintro e w1 ⟨rfl, rfl⟩
      clear CH
      go_wp2_with fail
      go_ret
      exact ⟨by rw [HR.out]; rfl, by rw [HR.out]; exact HF.out⟩
set_option maxRecDepth 100000 in
theorem oFlush0 (w : World) {U : Nat → Prop} {d r : Nat} {D : DskS} {M : Mm} (h : Dm U w d r D M) {mm : Nat} (hf : D.fit mm) (hmm : mm ≤ 5000) : Calls Tryz.prog 66 #[.pointer (some ⟨d, 0, none⟩)] w fun e w' => e = .returned (.int .i64 (if D.p.ok then 0 else 5)) ∧ Dn U w d r D.flushed w' := by
  have CS := oStepD w h hf hmm 2 (-1) [] (by unfold i64; omega) (by unfold i64; omega) (B5.nil _ _) (fun e => by omega) (by simp)
  rw [acted_flushed D h.len2] at CS
  obtain ⟨cd, hcd⟩ : ∃ cd : Int, cd = if D.p.ok then 0 else 5 := ⟨_, rfl⟩
  rw [← hcd] at CS ⊢
  clear hcd h hf
  go_enter Tryz.func66, Tryz.ntmps66
  go_wp2_with fail
  refine CS.mono ?_
  rintro e w3 ⟨rfl, hdn⟩
  have HDN : Hid _ := hdn
  clear hdn CS
  go_wp2_with fail
  go_ret
  exact ⟨rfl, HDN.out⟩

end Go.Proofs.YtlenmkhmkommcaaGreat

/-
  The contract of layer 9's program's Seen. Condition: a list of at most a million.
-/
namespace Go.Proofs.YtlenmkhmkommcaaGreat
open Go.RowKit
set_option linter.unusedVariables false

/-- One element more of a row that is made. -/
theorem OwS.push {α : Type} {el : World → α → List Value → Prop} {sz : Nat} {e : TypeId} {w w' : World} {base g k c : Nat} {l : List α} (h : OwS el sz e w base (.slice (some ⟨g, 0, none⟩) k c) l) (hk : k < c) (y : α) {us vs : List Value} (hw : Blk w g us e) (hvs : vs.length = sz) (hb : Blk w' g (us.take (k * sz) ++ vs ++ us.drop (k * sz + sz)) e) (hy : Row el sz w' y vs) (he : ∀ x vs', el w x vs' → el w' x vs') : OwS el sz e w' base (.slice (some ⟨g, 0, none⟩) (k + 1) c) (l ++ [y]) := by
  obtain ⟨us', hb', h1, h2, h3, h4, h5, rows, hr, ht⟩ := h.blk
  have e1 : us = us' := by
    have : some (Obj.cells us.toArray e) = some (Obj.cells us'.toArray e) := hw.symm.trans hb'
    simp only [Option.some.injEq, Obj.cells.injEq] at this
    simpa using this.1
  subst e1
  have hkc : k * sz + sz ≤ c * sz := by rw [← Nat.succ_mul]; exact Nat.mul_le_mul_right _ hk
  refine OwS.of_blk (rows := rows ++ [vs]) hb ?_ hk h3 (by rw [List.length_append, h4]; rfl) h5 ((hr.mono fun x vs' ⟨a1, a2, a3⟩ => ⟨a1, a2, he x vs' a3⟩).append ⟨hy, trivial⟩) ?_
  · rw [List.length_append, List.length_append, List.length_take, List.length_drop, hvs, h1]
    omega
  · have hl : (us.take (k * sz)).length = k * sz := by rw [List.length_take, h1]; omega
    rw [List.take_append, List.take_of_length_le (by rw [List.length_append, hl, hvs, Nat.succ_mul]; exact Nat.le_refl _), List.length_append, hl, hvs, Nat.succ_mul, Nat.sub_self, List.take_zero, List.append_nil, List.flatten_append, ht]
    simp
theorem set_last {A C : List Value} {k : Nat} (hA : A.length = k) (a b s t : Value) : (A ++ [a, b, s] ++ C).set (k + 2) t = A ++ [a, b, t] ++ C := by
  rw [List.append_assoc, List.set_append_right _ _ (by omega), hA, show k + 2 - k = 2 from by omega]
  simp
/-- What Seen has made, behind k touches. -/
def Sn (w : World) (g n k : Nat) (l : List Tch) (wr : World) : Prop := OwS (elT fun _ => True) 3 114 wr w.heap.size (.slice (some ⟨g, 0, none⟩) k n) (l.take k) ∧ Below w.heap.size w wr
theorem Sn.round {w wr : World} {g n k : Nat} {l : List Tch} (h : Sn w g n k l wr) (hk : k < n) {t : Tch} (hx : l[k]? = some t) : g < wr.heap.size ∧ ∀ v3, Below wr.heap.size wr v3 → v3.there g (k * 3) 3 ∧ ∀ (p : Option Addr) (m q : Nat) (v4 : World), v4 = v3.setCells g (k * 3) [.int .i64 t.1, .int .i64 t.2.1, .slice p m q] → i64 t.1 ∧ i64 t.2.1 → B5 (fun _ => True) v4 p m q t.2.2 → (Sn w g n (k + 1) l v4 ∧ Below w.heap.size w v4 ∧
    ∀ v5, Below v4.heap.size v4 v5 → g < v5.heap.size ∧ (∃ u, v5.cell? ⟨g, k * 3 + 2, none⟩ = some u) ∧ v5.frozen? ⟨g, k * 3 + 2, none⟩ = false ∧ ∀ (p2 : Option Addr) (m2 q2 : Nat), Own v5 w.heap.size (.slice p2 m2 q2) t.2.2 → Sn w g n (k + 1) l (v5.setCell ⟨g, k * 3 + 2, none⟩ (.slice p2 m2 q2))) := by
  obtain ⟨ho, kb⟩ := h
  obtain ⟨us, hb, h1, h2, h3, h4, h5, _⟩ := ho.blk
  refine ⟨hb.lt, fun v3 k3 => ?_⟩
  have hb3 := hb.below k3 hb.lt
  have hk3 : k * 3 + 3 ≤ us.length := by rw [h1]; omega
  refine ⟨hb3.there _ _ hk3, fun p m q v4 hv4 hi h5t => ?_⟩
  have hsp3 : ∀ x vs, elT (fun _ => True) wr x vs → elT (fun _ => True) v3 x vs := Sp.elT (T := fun _ => False) ⟨Kp.of_below k3, fun _ hf => hf.elim, fun _ hu => hu⟩
  have hb4 : Blk v4 g (us.take (k * 3) ++ [.int .i64 t.1, .int .i64 t.2.1, .slice p m q] ++ us.drop (k * 3 + 3)) 114 := by rw [hv4]; exact hb3.sets _ _ (by simp; omega)
  have k34 : Kp (fun j => j = g) v3 v4 := by rw [hv4]; exact kp_cells g _ _ _
  have hsp4 := (sp_g (A := fun _ => True) hb3.ty k34).elT
  have kw4 : Below w.heap.size w v4 := (kb.trans (k3.mono kb.size)).trans (k34.below (Nat.le_trans kb.size k3.size) fun j hj e => by omega)
  have e1 : l.take (k + 1) = l.take k ++ [t] := by rw [List.take_add_one, hx]; rfl
  refine ⟨⟨by rw [e1]; exact ho.push hk t hb rfl hb4 ⟨rfl, one88 _ _ _ _ _, p, m, q, rfl, h5t, hi⟩ fun x vs hx => hsp4 x vs (hsp3 x vs hx), kw4⟩, kw4, fun v5 k5 => ?_⟩
  have hb5 := hb4.below k5 hb4.lt
  have hlt : (us.take (k * 3)).length = k * 3 := by rw [List.length_take]; omega
  refine ⟨hb5.lt, ⟨_, by rw [hb5.cell]; exact List.getElem?_eq_getElem (by rw [List.length_append, List.length_append, hlt]; simp; omega)⟩, hb5.free _, fun p2 m2 q2 ho2 => ?_⟩
  have k6 := kp_set v5 g (k * 3 + 2) (.slice p2 m2 q2)
  have hb6 : Blk (v5.setCell ⟨g, k * 3 + 2, none⟩ (.slice p2 m2 q2)) g (us.take (k * 3) ++ [.int .i64 t.1, .int .i64 t.2.1, .slice p2 m2 q2] ++ us.drop (k * 3 + 3)) 114 := by
    have := hb5.setC (k * 3 + 2) (.slice p2 m2 q2)
    rwa [set_last hlt] at this
  have s5 : Sp (fun _ => True) (fun _ => True) (fun _ => False) v4 v5 := ⟨Kp.of_below k5, fun _ hf => hf.elim, fun _ hu => hu⟩
  have s6 := sp_g (A := fun _ => True) hb5.ty k6
  refine ⟨by rw [e1]; exact ho.push hk t hb rfl hb6 ⟨rfl, one88 _ _ _ _ _, p2, m2, q2, rfl, s6.b5 (ho2.b5 fun _ _ _ => trivial), hi⟩ fun x vs hx => s6.elT x vs (s5.elT x vs (hsp4 x vs (hsp3 x vs hx))), (kw4.trans (k5.mono kw4.size)).trans (k6.below (Nat.le_trans kw4.size k5.size) fun j hj e => by omega)⟩
end Go.Proofs.YtlenmkhmkommcaaGreat

/-
  The contract of layer 9's program's Plot. Conditions: a list of at most a million, bytes of at most 1000.
-/
namespace Go.Proofs.YtlenmkhmkommcaaGreat
open Go.RowKit
set_option linter.unusedVariables false

/-- No two steps' rows are one. -/
def TwoG (s : Nat) (g : Int → Option Value) : Prop := ∀ k k' j, (s : Int) ≤ k → (s : Int) ≤ k' → ((g k).getD nilV).ownBlock = some j → ((g k').getD nilV).ownBlock = some j → k = k'
/-- In the middle of Plot. -/
def Pl (U : Nat → Prop) (w : World) (d r : Nat) (D : DskS) (l : List Pok) (wr : World) : Prop := ∃ U' M' m0, Dm U' wr d r { D with plot := l } M' ∧ M'.mq = some m0 ∧ TwoG D.steps M'.g ∧ Next w U U' ∧ Kp (Wr U w) w wr
theorem Pl.start {U : Nat → Prop} {w : World} {d r : Nat} {D : DskS} {M : Mm} (h : Dm U w d r D M) : Pl U w d r D [] ((w.alloc (.map #[] 0)).setCell ⟨d, 5, none⟩ (.map (some w.heap.size))) := by
  have k1 : Below w.heap.size w (w.alloc (.map #[] 0)) := below_alloc _ _
  have h1 := h.below k1
  have k2 := kp_set (w.alloc (.map #[] 0)) d 5 (.map (some w.heap.size))
  have hdl := h.lt d h.inD
  have m1 : Mp ((w.alloc (.map #[] 0)).setCell ⟨d, 5, none⟩ (.map (some w.heap.size))) w.heap.size (fun _ => none) := (Mp.new w).same (k2.block _ (by simp) (by omega))
  have s : Sp U (fun j => U j ∨ j = w.heap.size) (fun j => j = d) (w.alloc (.map #[] 0)) ((w.alloc (.map #[] 0)).setCell ⟨d, 5, none⟩ (.map (some w.heap.size))) := ⟨k2, fun j e _ ht => by subst e; exact h1.not5.2 ht, fun _ hu => Or.inl hu⟩
  obtain ⟨p1, p2, p3⟩ := h1.pp s fun j e _ => Or.inr (by rw [e]; exact h1.blk.ty)
  refine ⟨fun j => U j ∨ j = w.heap.size, { M with mq := some w.heap.size, g := fun _ => none }, w.heap.size, ⟨?_, Or.inl h.inD, Or.inl h.inR, h1.blk.setC 5 _, p3, p1, h1.wait.turn s fun j e _ hj => ?_, h1.seen.turn s fun j e _ hj => ?_, h.two, ⟨fun m hm => ?_, (fun e => by cases e), fun k _ => ?_, fun k j _ hj => ?_⟩, fun m hm => ?_, h.len1, h.len2, h.len3⟩, rfl, fun k k' j _ _ hj => ?_, fun j hj => ?_, (Kp.of_below k1).trans (k2.mono fun j _ e => by rw [e]; exact h.not5)⟩
  · rintro j (hj | rfl)
    · exact Nat.lt_of_lt_of_le (h.lt j hj) (Nat.le_trans k1.size k2.size)
    · exact m1.lt
  · subst e
    exact absurd ((h1.wait.row.ty _ hj).one h1.blk.ty) (by decide)
  · subst e
    exact absurd ((h1.seen.row.ty _ hj).one h1.blk.ty) (by decide)
  · obtain rfl := Option.some.inj hm
    exact ⟨m1, Or.inr rfl⟩
  · exact OwS.nil _ _ _ _ _
  · simp [nilV, Value.ownBlock] at hj
  · obtain rfl := Option.some.inj hm
    have := h.lt _ h.past.inU
    show w.heap.size ≠ M.mp
    omega
  · simp [nilV, Value.ownBlock] at hj
  · rcases hj with hj | rfl
    · exact Or.inl hj
    · exact Or.inr (Nat.le_refl _)
theorem Pl.grow {U : Nat → Prop} {w wr w' : World} {d r : Nat} {D : DskS} {l : List Pok} (h : Pl U w d r D l wr) (k : Below wr.heap.size wr w') : Pl U w d r D l w' := by
  obtain ⟨U', M', m0, hm, hq, ht, hn, hk⟩ := h
  exact ⟨U', M', m0, hm.below k, hq, ht, hn, hk.trans (Kp.of_below k)⟩
/-- A step that is over. -/
theorem Pl.skip {U : Nat → Prop} {w wr : World} {d r : Nat} {D : DskS} {l : List Pok} (h : Pl U w d r D l wr) {x : Pok} (hx : x.on < (D.steps : Int)) : Pl U w d r D (l ++ [x]) wr := by
  obtain ⟨U', M', m0, hm, hq, ht, hn, hk⟩ := h
  refine ⟨U', M', m0, ⟨hm.lt, hm.inD, hm.inR, hm.blk, hm.pw, hm.past, hm.wait, hm.seen, hm.two, ⟨hm.plot.map, hm.plot.no, fun k hk => ?_, hm.plot.at_⟩, hm.maps, hm.len1, hm.len2, hm.len3⟩, hq, ht, hn, hk⟩
  have hk' : (D.steps : Int) ≤ k := hk
  show OwS _ _ _ _ _ _ (plotL (l ++ [x]) k)
  rw [plotL_other l x (by omega)]
  exact hm.plot.row k hk
end Go.Proofs.YtlenmkhmkommcaaGreat

/-
  Layer 9's program: the disk in memory ('Dk'), and the contracts of all its functions. Conditions: lists of at most a million, fewer than 2^40 steps, bytes of at most 1000.
-/
namespace Go.Proofs.YtlenmkhmkommcaaGreat
open Go.RowKit
set_option linter.unusedVariables false

/-- The disk in block d, on the power in block r, holds D; U: all blocks that it uses; F: those of them that it may yet write. -/
def Dk (U F : Nat → Prop) (w : World) (d r : Nat) (D : DskS) : Prop := (∃ M, Dm U w d r D M) ∧ ∀ j, F j ↔ Wr U w j
theorem Dk.eq {U F : Nat → Prop} {w : World} {d r : Nat} {D : DskS} (h : Dk U F w d r D) : F = Wr U w := funext fun j => propext (h.2 j)
theorem Dk.lt {U F : Nat → Prop} {w : World} {d r : Nat} {D : DskS} (h : Dk U F w d r D) : ∀ j, U j → j < w.heap.size := by
  obtain ⟨⟨M, hm⟩, _⟩ := h
  exact hm.lt
theorem Dk.sub {U F : Nat → Prop} {w : World} {d r : Nat} {D : DskS} (h : Dk U F w d r D) : ∀ j, F j → U j := fun j hj => ((h.2 j).1 hj).1
theorem Dm.wrR {U : Nat → Prop} {w : World} {d r : Nat} {D : DskS} {M : Mm} (h : Dm U w d r D M) : Wr U w r := ⟨h.inR, fun ht => absurd (ht.one h.pw.ty) (by decide)⟩
theorem Dk.pw {U F : Nat → Prop} {w : World} {d r : Nat} {D : DskS} (h : Dk U F w d r D) : Pw w r D.p ∧ F r := by
  obtain ⟨⟨M, hm⟩, hF⟩ := h
  exact ⟨hm.pw, (hF r).2 hm.wrR⟩
theorem Dk.keep {U F G : Nat → Prop} {w w' : World} {d r : Nat} {D : DskS} (h : Dk U F w d r D) (k : Kp G w w') (hG : ∀ j, U j → ¬ G j) : Dk U F w' d r D := by
  obtain ⟨⟨M, hm⟩, hF⟩ := h
  refine ⟨⟨M, hm.kp k hG⟩, fun j => (hF j).trans ⟨fun hh => ⟨hh.1, fun ht => hh.2 (ht.same (k.block j (hm.lt j hh.1) (hG j hh.1)).symm)⟩, fun hh => ⟨hh.1, fun ht => hh.2 (ht.same (k.block j (hm.lt j hh.1) (hG j hh.1)))⟩⟩⟩
theorem Dk.power {U F : Nat → Prop} {w w' : World} {d r : Nat} {D : DskS} (h : Dk U F w d r D) {P : PowS} (hp : Pw w' r P) (k : Kp (fun j => j = r) w w') : Dk U F w' d r { D with p := P } := by
  obtain ⟨⟨M, hm⟩, hF⟩ := h
  have hsame : ∀ j, U j → (Ty w j 5 ↔ Ty w' j 5) := fun j hu => by
    by_cases e : j = r
    · subst e
      exact ⟨fun ht => absurd (ht.one hm.pw.ty) (by decide), fun ht => absurd (ht.one hp.ty) (by decide)⟩
    · exact ⟨fun ht => ht.same (k.block j (hm.lt j hu) e), fun ht => ht.same (k.block j (hm.lt j hu) e).symm⟩
  exact ⟨⟨M, hm.power hp k⟩, fun j => (hF j).trans ⟨fun hh => ⟨hh.1, fun ht => hh.2 ((hsame j hh.1).2 ht)⟩, fun hh => ⟨hh.1, fun ht => hh.2 ((hsame j hh.1).1 ht)⟩⟩⟩
/-- What a call that writes leaves. -/
def Dks (U F : Nat → Prop) (w : World) (d r : Nat) (D : DskS) (w' : World) : Prop := ∃ U' F', Dk U' F' w' d r D ∧ Next w U U' ∧ Next w F F' ∧ Kp F w w'
theorem next_wr {U U' : Nat → Prop} {w w' : World} (n : Next w U U') (k : Kp (Wr U w) w w') : Next w (Wr U w) (Wr U' w') := fun j hj => by
  rcases n j hj.1 with hu | hu
  · by_cases hs : j < w.heap.size
    · refine Or.inl ⟨hu, fun ht => hj.2 (ht.same (k.block j hs fun hw => hw.2 ht))⟩
    · exact Or.inr (by omega)
  · exact Or.inr hu
theorem Dn.dks {U : Nat → Prop} {w w' : World} {d r : Nat} {D : DskS} (h : Dn U w d r D w') : Dks U (Wr U w) w d r D w' := by
  obtain ⟨U', M', hm, hn, hk⟩ := h
  exact ⟨U', Wr U' w', ⟨⟨M', hm⟩, fun _ => Iff.rfl⟩, hn, next_wr hn hk, hk⟩
theorem Dm.new {w : World} {r : Nat} {P : PowS} (hp : Pw w r P) (n : Int) : Dm (fun j => j = r ∨ j = w.heap.size ∨ j = w.heap.size + 1) ((w.alloc (.map #[] 0)).alloc (.cells #[.pointer (some ⟨r, 0, none⟩), .int .i64 n, .int .i64 0, .map (some w.heap.size), .slice none 0 0, .map none, .slice none 0 0] 91)) (w.heap.size + 1) r (DskS.new P n) ⟨w.heap.size, none, 0, 0, none, none, 0, 0, fun _ => none, fun _ => none⟩ := by
  have k1 : Below w.heap.size w ((w.alloc (.map #[] 0)).alloc (.cells #[.pointer (some ⟨r, 0, none⟩), .int .i64 n, .int .i64 0, .map (some w.heap.size), .slice none 0 0, .map none, .slice none 0 0] 91)) := below2 _ _ _
  have b1 : Blk ((w.alloc (.map #[] 0)).alloc (.cells #[.pointer (some ⟨r, 0, none⟩), .int .i64 n, .int .i64 0, .map (some w.heap.size), .slice none 0 0, .map none, .slice none 0 0] 91)) (w.heap.size + 1) [.pointer (some ⟨r, 0, none⟩), .int .i64 n, .int .i64 0, .map (some w.heap.size), .slice none 0 0, .map none, .slice none 0 0] 91 := Blk.newAt (w.alloc _) _ _ (w.heap.size + 1) (by simp) _ rfl
  have m1 : Mp ((w.alloc (.map #[] 0)).alloc (.cells #[.pointer (some ⟨r, 0, none⟩), .int .i64 n, .int .i64 0, .map (some w.heap.size), .slice none 0 0, .map none, .slice none 0 0] 91)) w.heap.size (fun _ => none) := (Mp.new w).same ((below_alloc (w.alloc (.map #[] 0)) _).block _ (by simp))
  have hr := hp.lt
  refine ⟨?_, Or.inr (Or.inr rfl), Or.inl rfl, b1, hp.same (k1.block r hr), ⟨m1, Or.inr (Or.inl rfl), fun k => OwS.nil _ _ _ _ _, fun k j hj => ?_, fun k k' j hj => ?_⟩, ⟨OwS.nil _ _ _ _ _, fun j hj => ?_⟩, ⟨OwS.nil _ _ _ _ _, fun j hj => ?_⟩, fun j hj => ?_, ⟨fun m hm => (by cases hm), fun _ _ => rfl, fun k _ => OwS.nil _ _ _ _ _, fun k j _ hj => ?_⟩, fun m hm => (by cases hm), fun c hc => (by cases hc), fun c hc => (by cases hc), fun c hc => (by cases hc)⟩
  · rintro j (rfl | rfl | rfl)
    · exact Nat.lt_of_lt_of_le hr k1.size
    · exact m1.lt
    · exact b1.lt
  · simp [nilV, Value.ownBlock] at hj
  · simp [nilV, Value.ownBlock] at hj
  · simp [Value.ownBlock] at hj
  · simp [Value.ownBlock] at hj
  · simp [Value.ownBlock] at hj
  · simp [nilV, Value.ownBlock] at hj
set_option maxRecDepth 100000 in
theorem oDNew (w : World) {r : Nat} {P : PowS} (hp : Pw w r P) (n : Int) (hn : 1 ≤ n ∧ n ≤ 4096) : Calls Tryz.prog 8 #[.pointer (some ⟨r, 0, none⟩), .int .i64 n] w fun e w' => ∃ d U F, e = .returned (.tuple #[.pointer (some ⟨d, 0, none⟩), .int .i64 0]) ∧ Dk U F w' d r (DskS.new P n) ∧ (∀ j, U j → j = r ∨ w.heap.size ≤ j) ∧ Below w.heap.size w w' := by
  have HD : Hid _ := Dm.new hp n
  have HK : Hid (Below w.heap.size w ((w.alloc (.map #[] 0)).alloc (.cells #[.pointer (some ⟨r, 0, none⟩), .int .i64 n, .int .i64 0, .map (some w.heap.size), .slice none 0 0, .map none, .slice none 0 0] 91))) := below2 _ _ _
  have hmk : ∀ w, Sem.run Tryz.prog (Instr.makeMap 88 none) w = .ok (.map (some w.heap.size)) (w.alloc (.map #[] 0)) := fun _ => rfl
  obtain ⟨h1, h2⟩ := hn
  clear hp
  go_enter Tryz.func8, Tryz.ntmps8
  go_wp2_with fail
  go_ret2
  refine ⟨w.heap.size + 1, rfl, _, ⟨_, ⟨⟨_, HD.out⟩, fun _ => Iff.rfl⟩⟩, ?_, HK.out⟩
  rintro j (hj | hj | hj)
  · exact Or.inl hj
  · exact Or.inr (by omega)
  · exact Or.inr (by omega)
set_option maxRecDepth 100000 in
theorem oDLoose (w : World) {U F : Nat → Prop} {d r : Nat} {D : DskS} (h : Dk U F w d r D) : Calls Tryz.prog 32 #[.pointer (some ⟨d, 0, none⟩)] w fun e w' => e = .returned (.int .i64 (D.loose.length : Int)) ∧ Below w.heap.size w w' := by
  obtain ⟨⟨M, h⟩, _⟩ := h
  have hl := h.blk.lt
  have c4 : w.cell? ⟨d, 4, none⟩ = some (.slice M.wa M.wn M.wc) := h.blk.cell 4
  rw [h.wlen]
  clear h
  go_enter Tryz.func32, Tryz.ntmps32
  go_wp2_with fail
  go_ret
  exact ⟨rfl, Below.refl _ _⟩
theorem oDLook (w : World) {U F : Nat → Prop} {d r : Nat} {D : DskS} (h : Dk U F w d r D) {mm : Nat} (hf : D.fit mm) (hmm : mm ≤ 5000) (at_ : Int) (hat : 0 ≤ at_ ∧ at_ < D.n) : Calls Tryz.prog 30 #[.pointer (some ⟨d, 0, none⟩), .int .i64 at_] w fun e w' => ∃ p m c, e = .returned (.slice p m c) ∧ BA (fun j => ¬ F j ∧ (U j ∨ w.heap.size ≤ j)) w' p m c (D.look at_) ∧ Below w.heap.size w w' := by
  have hsub := h.sub
  have hlt := h.lt
  obtain ⟨⟨M, h⟩, _⟩ := h
  have f1 := hf.safe
  have f2 := hf.loose
  refine (oLookIn w h (by omega) (by omega) at_ hat).mono ?_
  rintro e w' ⟨p, m, c, rfl, ho, hb⟩
  refine ⟨p, m, c, rfl, (ho.b5 fun j hj _ => ⟨fun hF => ?_, Or.inr hj⟩).ba, hb⟩
  have := hlt j (hsub j hF)
  omega
/-- The same, and that what is read lies in new memory, which the disk does not use. -/
theorem oDReadB (w : World) {U F : Nat → Prop} {d r : Nat} {D : DskS} (h : Dk U F w d r D) {mm : Nat} (hf : D.fit mm) (hmm : mm ≤ 5000) (at_ : Int) (hat : i64 at_) : Calls Tryz.prog 56 #[.pointer (some ⟨d, 0, none⟩), .int .i64 at_] w fun e w' => ∃ p m c, e = .returned (.tuple #[.slice p m c, .int .i64 (D.read at_).2.2]) ∧ ∃ U' F', Dk U' F' w' d r (D.read at_).1 ∧ Next w U U' ∧ Next w F F' ∧ Kp F w w' ∧ B5 (fun j => ¬ U' j ∧ w.heap.size ≤ j) w' p m c (D.read at_).2.1 := by
  have e := h.eq
  subst e
  obtain ⟨⟨M, h⟩, _⟩ := h
  refine (oRead0 w h hf hmm at_ hat).mono ?_
  rintro e w' ⟨p, m, c, he, U', M', hm, hn, hk, hb⟩
  exact ⟨p, m, c, he, U', Wr U' w', ⟨⟨M', hm⟩, fun _ => Iff.rfl⟩, hn, next_wr hn hk, hk, hb⟩
theorem oDWrite (w : World) {U F : Nat → Prop} {d r : Nat} {D : DskS} (h : Dk U F w d r D) {mm : Nat} (hf : D.fit mm) (hmm : mm ≤ 5000) (at_ : Int) (hat : i64 at_) {p : Option Addr} {m c : Nat} {b : List UInt8} (hb : BA (fun j => ¬ F j) w p m c b) : Calls Tryz.prog 65 #[.pointer (some ⟨d, 0, none⟩), .int .i64 at_, .slice p m c] w fun e w' => e = .returned (.int .i64 (D.write at_ b).2) ∧ Dks U F w d r (D.write at_ b).1 w' := by
  have e := h.eq
  subst e
  obtain ⟨⟨M, h⟩, _⟩ := h
  refine (oWrite0 w h hf hmm at_ hat hb.1).mono ?_
  rintro e w' ⟨he, hd⟩
  exact ⟨he, hd.dks⟩
theorem oDFlush (w : World) {U F : Nat → Prop} {d r : Nat} {D : DskS} (h : Dk U F w d r D) {mm : Nat} (hf : D.fit mm) (hmm : mm ≤ 5000) : Calls Tryz.prog 66 #[.pointer (some ⟨d, 0, none⟩)] w fun e w' => e = .returned (.int .i64 (if D.p.ok then 0 else 5)) ∧ Dks U F w d r D.flushed w' := by
  have e := h.eq
  subst e
  obtain ⟨⟨M, h⟩, _⟩ := h
  refine (oFlush0 w h hf hmm).mono ?_
  rintro e w' ⟨he, hd⟩
  exact ⟨he, hd.dks⟩
theorem oDCrash (w : World) {U F : Nat → Prop} {d r : Nat} {D : DskS} (h : Dk U F w d r D) {mm : Nat} (hf : D.fit mm) (hmm : mm ≤ 5000) {p : Option Addr} {m c : Nat} {b : List Bool} (hb : BoA (fun j => ¬ F j) w p m c b) (hm : m ≤ 60) : Calls Tryz.prog 18 #[.pointer (some ⟨d, 0, none⟩), .slice p m c] w fun e w' => e = .returned (.tuple #[]) ∧ Dks U F w d r (D.crash b) w' := by
  have e := h.eq
  subst e
  obtain ⟨⟨M, h⟩, _⟩ := h
  have f1 := hf.safe
  have f2 := hf.loose
  have hc : D.crash b = { D.plus (kept D.loose b) with loose := [] } := by
    unfold DskS.crash
    rw [settles_plus _ _ fun c hc => h.len2 c (keptP_mem _ _ c hc)]
  rw [hc]
  refine (oCrash w h (by omega) hb (by omega)).mono ?_
  rintro e w' ⟨he, hd⟩
  exact ⟨he, hd.dks⟩
theorem oDPoke (w : World) {U F : Nat → Prop} {d r : Nat} {D : DskS} (h : Dk U F w d r D) {mm : Nat} (hf : D.fit mm) (hmm : mm ≤ 5000) (x : Pok) {p : Option Addr} {m c : Nat} (hb : BA (fun j => ¬ F j) w p m c x.bytes) (hm : m ≤ 1000) (hx : i64 x.on ∧ i64 x.at_ ∧ i64 x.kind ∧ i64 x.num) : Calls Tryz.prog 22 #[.pointer (some ⟨d, 0, none⟩), xv x p m c] w fun e w' => e = .returned (.tuple #[]) ∧ Dks U F w d r (D.poke x) w' := by
  have e := h.eq
  subst e
  obtain ⟨⟨M, h⟩, _⟩ := h
  have f1 := hf.safe
  have f2 := hf.loose
  refine (oPoke w h (by omega) (by omega) x hb.1 (by omega) hx).mono ?_
  rintro e w' ⟨he, hd⟩
  exact ⟨he, hd.dn.dks⟩
end Go.Proofs.YtlenmkhmkommcaaGreat

/-
  One act of layer 9's statements ('do'), both ways: what the program and the reference hold stays the same disk. Conditions: acts as the statements have them.
-/
namespace Go.Proofs.YtlenmkhmkommcaaGreat
open Go.RowKit
set_option linter.unusedVariables false

theorem Dk.grows {U F : Nat → Prop} {w w' : World} {d r : Nat} {D : DskS} (h : Dk U F w d r D) (hb : Below w.heap.size w w') : Dk U F w' d r D :=
  h.keep (G := fun _ => False) (Kp.of_below hb) (fun _ _ h => h)
/-- The program's disk holds D, the reference's E; V: what the caller keeps for itself. -/
def Pair (V U F : Nat → Prop) (w w' : World) (d r : Nat) (D E : DskS) (q : Quad) : Prop := ∃ U' F', Dk U' F' w' d r D ∧ RD (fun j => ¬ F' j ∧ ¬ V j) w' E q ∧ Next w U U' ∧ Next w F F' ∧ Kp F w w'
/-- What an act leaves: they answer alike where C holds. -/
def Did (C : Prop) (V U F : Nat → Prop) (w : World) (d r : Nat) (D E : DskS) (e : Ending) (w' : World) : Prop := ∃ q b, e = .returned (.tuple #[dv E q, .bool b]) ∧ (C → b = true) ∧ Pair V U F w w' d r D E q
/-- An act's numbers, and how much it is. -/
def OpS.fits (o : OpS) : Prop := i64 o.kind ∧ i64 o.at_ ∧ i64 o.x.on ∧ i64 o.x.at_ ∧ i64 o.x.kind ∧ i64 o.x.num ∧ i64 o.n ∧ o.light
theorem Blk.mid {w : World} {g : Nat} {vs : List Value} {t : TypeId} (h : Blk w g vs t) (o : Nat) (us : List Value) (he : ∀ j v, us[j]? = some v → vs[o + j]? = some v) : w.rangeAt g o us := fun j v hj => by rw [h.cell]; exact he j v hj
theorem size28 : (Tryz.prog.info? 28).map (·.size) = some 5 := by kernel_rfl
theorem size36 : (Tryz.prog.info? 38).map (·.size) = some 4 := by kernel_rfl
theorem pc_one (S : PowS) : ∀ v ∈ pc S, v.oneCell' = true := by
  intro v hv
  simp only [pc, List.mem_cons, List.not_mem_nil, or_false] at hv
  rcases hv with rfl | rfl | rfl | rfl <;> rfl
end Go.Proofs.YtlenmkhmkommcaaGreat
