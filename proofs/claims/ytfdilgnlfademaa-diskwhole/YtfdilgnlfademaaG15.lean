/-
  4 texts in one. No statement of the seat is proved here.
-/
import Derived.Test.YtfdilgnlfademaaG14

/-
  The contract of layer 9's program's Plot. Conditions: a list of at most a million, bytes of at most 1000.
-/
namespace Go.Proofs.Ytfdilgnlfademaa
open Go.RowKit
set_option linter.unusedVariables false

/-- No two steps' rows are one. -/
def TwoG (s : Nat) (g : Int → Option Value) : Prop := ∀ k k' j, (s : Int) ≤ k → (s : Int) ≤ k' → ((g k).getD nilV).ownBlock = some j → ((g k').getD nilV).ownBlock = some j → k = k'
/-- In the middle of Plot. -/
def Pl (U : Nat → Prop) (w : World) (d r : Nat) (D : DskS) (l : List Pok) (wr : World) : Prop := ∃ U' M' m0, Dm U' wr d r { D with plot := l } M' ∧ M'.mq = some m0 ∧ TwoG D.steps M'.g ∧ Next w U U' ∧ Kp (Wr U w) w wr
theorem Pl.start {U : Nat → Prop} {w : World} {d r : Nat} {D : DskS} {M : Mm} (h : Dm U w d r D M) : Pl U w d r D [] ((w.alloc (.map #[] 0)).setCell ⟨d, 5, none⟩ (.map (some w.heap.size))) := by
  have k1 : Below w.heap.size w (w.alloc (.map #[] 0)) := below_alloc _ _
  have h1 := h.below k1
  have k2 := kp_set (w.alloc (.map #[] 0)) d 5 (.map (some w.heap.size))
  have hdl := h.lt d h.inD
  have m1 : Mp ((w.alloc (.map #[] 0)).setCell ⟨d, 5, none⟩ (.map (some w.heap.size))) w.heap.size (fun _ => none) := (Mp.new w).same (k2.block _ (by simp) (by omega))
  have s : Sp U (fun j => U j ∨ j = w.heap.size) (fun j => j = d) (w.alloc (.map #[] 0)) ((w.alloc (.map #[] 0)).setCell ⟨d, 5, none⟩ (.map (some w.heap.size))) := ⟨k2, fun j e _ ht => by subst e; exact h1.not5.2 ht, fun _ hu => Or.inl hu⟩
  obtain ⟨p1, p2, p3⟩ := h1.pp s fun j e _ => Or.inr (by rw [e]; exact h1.blk.ty)
  refine ⟨fun j => U j ∨ j = w.heap.size, { M with mq := some w.heap.size, g := fun _ => none }, w.heap.size, ⟨?_, Or.inl h.inD, Or.inl h.inR, h1.blk.setC 5 _, p3, p1, h1.wait.turn s fun j e _ hj => ?_, h1.seen.turn s fun j e _ hj => ?_, h.two, ⟨fun m hm => ?_, (fun e => by cases e), fun k _ => ?_, fun k j _ hj => ?_⟩, fun m hm => ?_, h.len1, h.len2, h.len3⟩, rfl, fun k k' j _ _ hj => ?_, fun j hj => ?_, (Kp.of_below k1).trans (k2.mono fun j _ e => by rw [e]; exact h.not5)⟩
  · rintro j (hj | rfl)
    · exact Nat.lt_of_lt_of_le (h.lt j hj) (Nat.le_trans k1.size k2.size)
    · exact m1.lt
  · subst e
    exact absurd ((h1.wait.row.ty _ hj).one h1.blk.ty) (by decide)
  · subst e
    exact absurd ((h1.seen.row.ty _ hj).one h1.blk.ty) (by decide)
  · obtain rfl := Option.some.inj hm
    exact ⟨m1, Or.inr rfl⟩
  · exact OwS.nil _ _ _ _ _
  · simp [nilV, Value.ownBlock] at hj
  · obtain rfl := Option.some.inj hm
    have := h.lt _ h.past.inU
    show w.heap.size ≠ M.mp
    omega
  · simp [nilV, Value.ownBlock] at hj
  · rcases hj with hj | rfl
    · exact Or.inl hj
    · exact Or.inr (Nat.le_refl _)
theorem Pl.grow {U : Nat → Prop} {w wr w' : World} {d r : Nat} {D : DskS} {l : List Pok} (h : Pl U w d r D l wr) (k : Below wr.heap.size wr w') : Pl U w d r D l w' := by
  obtain ⟨U', M', m0, hm, hq, ht, hn, hk⟩ := h
  exact ⟨U', M', m0, hm.below k, hq, ht, hn, hk.trans (Kp.of_below k)⟩
/-- A step that is over. -/
theorem Pl.skip {U : Nat → Prop} {w wr : World} {d r : Nat} {D : DskS} {l : List Pok} (h : Pl U w d r D l wr) {x : Pok} (hx : x.on < (D.steps : Int)) : Pl U w d r D (l ++ [x]) wr := by
  obtain ⟨U', M', m0, hm, hq, ht, hn, hk⟩ := h
  refine ⟨U', M', m0, ⟨hm.lt, hm.inD, hm.inR, hm.blk, hm.pw, hm.past, hm.wait, hm.seen, hm.two, ⟨hm.plot.map, hm.plot.no, fun k hk => ?_, hm.plot.at_⟩, hm.maps, hm.len1, hm.len2, hm.len3⟩, hq, ht, hn, hk⟩
  have hk' : (D.steps : Int) ≤ k := hk
  show OwS _ _ _ _ _ _ (plotL (l ++ [x]) k)
  rw [plotL_other l x (by omega)]
  exact hm.plot.row k hk
/-- One more, in memory. -/
theorem Dm.plotted {U : Nat → Prop} {w w' : World} {d r : Nat} {D : DskS} {M : Mm} (h : Dm U w d r D M) {m0 : Nat} (hq : M.mq = some m0) (ht : TwoG D.steps M.g) {x : Pok} (hx : (D.steps : Int) ≤ x.on) {v : Value} (k : Kp (fun j => ((M.g x.on).getD nilV).ownBlock = some j ∨ j = m0) w w') (hm : Mp w' m0 (updI M.g x.on v))
    (ho : OwS (elQ fun j => U j ∨ (w.heap.size ≤ j ∧ j < w'.heap.size)) 5 28 w' 0 v (plotL D.plot x.on ++ [cutP x])) (hv : ∀ j, v.ownBlock = some j → ((M.g x.on).getD nilV).ownBlock = some j ∨ w.heap.size ≤ j) :
    ∃ U' M', Dm U' w' d r { D with plot := D.plot ++ [x] } M' ∧ M'.mq = some m0 ∧ TwoG D.steps M'.g ∧ Next w U U' ∧ Kp (Wr U w) w w' := by
  have hmap := h.plot.map m0 hq
  have hrow := h.plot.row
  have hT5 : ∀ j, (((M.g x.on).getD nilV).ownBlock = some j ∨ j = m0) → U j ∧ ∀ e, e ≠ 28 → ¬ Ty w j e := by
    rintro j (hj | rfl)
    · exact ⟨h.plot.at_ _ _ hx hj, fun e he ht => he (ht.one ((hrow _ hx).ty j hj))⟩
    · exact ⟨hmap.2, fun e _ => hmap.1.noTy e⟩
  have s : Sp U (fun j => U j ∨ (w.heap.size ≤ j ∧ j < w'.heap.size)) (fun j => ((M.g x.on).getD nilV).ownBlock = some j ∨ j = m0) w w' := ⟨k, fun j ht _ => (hT5 j ht).2 5 (by decide), fun j hj => Or.inl hj⟩
  refine ⟨fun j => U j ∨ (w.heap.size ≤ j ∧ j < w'.heap.size), { M with g := updI M.g x.on v }, ⟨?_, Or.inl h.inD, Or.inl h.inR, ?_, ?_, h.past.turn s fun j hT _ => ⟨fun e => ?_, (hT5 j hT).2 _ (by decide)⟩, ?_, ?_, h.two, ⟨fun m hm' => ?_, fun e => ?_, ?_, ?_⟩, h.maps, h.len1, h.len2, h.len3⟩, hq, ?_, ?_, ?_⟩
  · rintro j (hj | hj)
    · exact Nat.lt_of_lt_of_le (h.lt j hj) k.size
    · exact hj.2
  · exact k.blk h.blk fun hT => (hT5 d hT).2 _ (by decide) h.blk.ty
  · exact h.pw.same (k.block r h.pw.lt fun hT => (hT5 r hT).2 _ (by decide) h.pw.ty)
  · subst e
    rcases hT with hT | hT
    · exact h.past.map.noTy _ ((hrow _ hx).ty _ hT)
    · exact h.maps m0 hq hT.symm
  · exact h.wait.turn s fun j hT _ hj => (hT5 j hT).2 _ (by decide) (h.wait.row.ty j hj)
  · exact h.seen.turn s fun j hT _ hj => (hT5 j hT).2 _ (by decide) (h.seen.row.ty j hj)
  · have e1 : m = m0 := by
      have : some m0 = some m := hq.symm.trans hm'
      exact (Option.some.inj this).symm
    subst e1
    exact ⟨hm, Or.inl hmap.2⟩
  · exact absurd (hq.symm.trans e) (by simp)
  · intro k' hk'
    have hk2 : (D.steps : Int) ≤ k' := hk'
    by_cases hk : k' = x.on
    · subst hk
      show OwS _ _ _ _ _ (((updI M.g x.on v) x.on).getD nilV) (plotL (D.plot ++ [x]) x.on)
      rw [plotL_same, show (updI M.g x.on v) x.on = some v from if_pos rfl]
      exact ho
    · show OwS _ _ _ _ _ (((updI M.g x.on v) k').getD nilV) (plotL (D.plot ++ [x]) k')
      rw [plotL_other _ _ hk, show (updI M.g x.on v) k' = M.g k' from if_neg hk]
      refine (hrow k' hk2).turn s.elQ fun j hj => k.block j ((hrow k' hk2).lt j hj).2 fun hT => ?_
      rcases hT with hT | rfl
      · exact hk (ht _ _ j hk2 hx hj hT)
      · exact hmap.1.noTy _ ((hrow k' hk2).ty _ hj)
  · intro k' j hk' hj
    dsimp only at hj
    by_cases hk : k' = x.on
    · subst hk
      rw [show (updI M.g x.on v) x.on = some v from if_pos rfl] at hj
      rcases hv j hj with hj' | hj'
      · exact Or.inl (h.plot.at_ _ _ hx hj')
      · exact Or.inr ⟨hj', (ho.lt j hj).2⟩
    · rw [show (updI M.g x.on v) k' = M.g k' from if_neg hk] at hj
      exact Or.inl (h.plot.at_ _ _ hk' hj)
  · have key : ∀ k' j, (D.steps : Int) ≤ k' → k' ≠ x.on → v.ownBlock = some j → ((M.g k').getD nilV).ownBlock = some j → False := fun k' j hk' hk h1 h2 => by
      rcases hv j h1 with h3 | h3
      · exact hk (ht _ _ j hk' hx h2 h3)
      · have := ((hrow k' hk').lt j h2).2
        omega
    intro k1 k2 j g1 g2 h1 h2
    dsimp only at h1 h2
    by_cases e1 : k1 = x.on
    · by_cases e2 : k2 = x.on
      · rw [e1, e2]
      · rw [e1, show (updI M.g x.on v) x.on = some v from if_pos rfl] at h1
        rw [show (updI M.g x.on v) k2 = M.g k2 from if_neg e2] at h2
        exact (key k2 j g2 e2 h1 h2).elim
    · by_cases e2 : k2 = x.on
      · rw [e2, show (updI M.g x.on v) x.on = some v from if_pos rfl] at h2
        rw [show (updI M.g x.on v) k1 = M.g k1 from if_neg e1] at h1
        exact (key k1 j g1 e1 h2 h1).elim
      · rw [show (updI M.g x.on v) k1 = M.g k1 from if_neg e1] at h1
        rw [show (updI M.g x.on v) k2 = M.g k2 from if_neg e2] at h2
        exact ht k1 k2 j g1 g2 h1 h2
  · rintro j (hj | hj)
    · exact Or.inl hj
    · exact Or.inr hj.1
  · exact k.mono fun j _ hT => ⟨(hT5 j hT).1, (hT5 j hT).2 5 (by decide)⟩
/-- A literal of one of somebody else's deeds, the one that may come up. -/
theorem opBSQ {ops : Array Oper} {Q : Exit → Act → World → Prop} {i : Nat} {oi : Oper} (d : Option Tmp) (hi : ops[i]? = some oi) (hd : oi.dst = d) (hg : oi.guard = none) (x : Operand) (ho : oi.op = .buildSlice 22 1 #[(0, x)]) {K : Act → World → Prop} {a : Act} {w : World} (u v s t z : Value) (hx : a.eval x = .agg #[u, v, s, t, z])
    (k : K (a.put d (.slice (some ⟨w.heap.size, 0, none⟩) 1 1)) (w.alloc (.cells #[u, v, s, t, z] 28))) : wpOp Try.prog ops Q i K a w := by
  subst hd
  have hK : Hid _ := k
  clear k
  unfold wpOp
  simp only [hi]
  rw [if_pos (by simp [Region.wanted, hg])]
  left
  unfold Oper.wp execOp
  simp only [ho, List.map_toArray, List.map_cons, List.map_nil, hx]
  go_simp
  exact hK.out

set_option maxRecDepth 100000 in
set_option maxHeartbeats 8000000 in
theorem oPlot0 (w : World) {U : Nat → Prop} {d r : Nat} {D : DskS} {M : Mm} (h : Dm U w d r D M) {lp : Option Addr} {ln lc : Nat} {l : List Pok} (hl : Sl (elP fun j => ¬ Wr U w j) 5 (fun j => ¬ Wr U w j) w lp ln lc l) (hm : ln ≤ 1000000) (hx : ∀ x ∈ l, x.bytes.length ≤ 1000) :
    Calls Try.prog 12 #[.pointer (some ⟨d, 0, none⟩), .slice lp ln lc] w fun e w' => e = .returned (.tuple #[]) ∧ Dn U w d r { D with plot := l } w' := by
  have HLN : Hid (l.length = ln) := hl.len
  have HSL : Hid (∀ wr, Kp (Wr U w) w wr → Sl (elP fun j => ¬ Wr U w j) 5 (fun j => ¬ Wr U w j) wr lp ln lc l) := fun wr k => hl.keep k.size (elP.keep k.size fun j hj ha => k.block j hj ha) (fun j hj ha => k.block j hj ha)
  have HXL : Hid (∀ x ∈ l, x.bytes.length ≤ 1000) := hx
  have k1 : Below w.heap.size w (w.alloc (.map #[] 0)) := below_alloc _ _
  have b1 := (h.below k1).blk
  have c5 : (w.alloc (.map #[] 0)).cell? ⟨d, 5, none⟩ = some (.map M.mq) := b1.cell 5
  have z5 := b1.free 5
  have l5 := b1.lt
  have P0 := Pl.start h
  have hmk : ∀ w, Sem.run Try.prog (Instr.makeMap 72 none) w = .ok (.map (some w.heap.size)) (w.alloc (.map #[] 0)) := fun _ => rfl
  clear h hl hx k1 b1
  go_enter Try.func12, Try.ntmps12
  go_wp2_with fail
  go_loopw [12] (fun i wr => ∃ k : Nat, k ≤ ln ∧ i = .int .i64 (k : Int) ∧ Pl U w d r D (l.take k) wr) (fun i _ => ln - (intOf i).toNat)
  case atStart => exact ⟨0, Nat.zero_le _, rfl, by rw [List.take_zero]; exact P0⟩
  case round =>
    obtain ⟨k, hk, rfl, PL⟩ := hrel
    clear P0 c5 z5 l5
    by_cases hlt : k < ln
    · have i0 : (k : Int) < (ln : Int) := by omega
      obtain ⟨x, hx⟩ : ∃ x, l[k]? = some x := ⟨_, List.getElem?_eq_getElem (by rw [HLN.out]; exact hlt)⟩
      obtain ⟨U', M', m0, hD, hq, htw, hn, hkp⟩ := PL
      obtain ⟨eb, eo, vs, ha, hlb, hrg, _, p, m, q, rfl, hB, hi1, hi2, hi3, hi4⟩ := (HSL.out wr hkp).at hx
      have hxl := HXL.out x (List.mem_of_getElem? hx)
      have HT : Hid (l.take k ++ [x] = l.take (k + 1)) := by show _ = _; rw [List.take_add_one, hx]; rfl
      have HBs : Hid (Bs wr p m q x.bytes) := hB.1
      have hml : m ≤ 1000 := by have := hB.1.len; omega
      have HI : Hid (i64 x.on ∧ i64 x.at_ ∧ i64 x.kind ∧ i64 x.num) := ⟨hi1, hi2, hi3, hi4⟩
      have HN : Hid (Next w U U') := hn
      have HKP : Hid (Kp (Wr U w) w wr) := hkp
      have HTW : Hid (TwoG D.steps M'.g) := htw
      have HQ : Hid (M'.mq = some m0) := hq
      have HD : Hid (Dm U' wr d r { D with plot := l.take k } M') := hD
      have hng : ¬ U' wr.heap.size := fun hu => by have := hD.lt _ hu; omega
      unfold i64 at hi1
      obtain ⟨xa, xb, xc, xd, xe⟩ := x
      dsimp only at hrg HBs hxl HI hi1
      subst ha
      have z7 : Blk (wr.alloc (.cells #[.int .i64 0, .int .i64 0, .int .i64 0, .slice none 0 0, .int .i64 0] 28)) wr.heap.size [.int .i64 0, .int .i64 0, .int .i64 0, .slice none 0 0, .int .i64 0] 28 := Blk.newAt wr _ _ wr.heap.size rfl _ rfl
      have k7 : Below wr.heap.size wr (wr.alloc (.cells #[.int .i64 0, .int .i64 0, .int .i64 0, .slice none 0 0, .int .i64 0] 28)) := below_alloc _ _
      clear hx hB hi2 hi3 hi4 hn hkp htw hq hD
      go_wp2_with (first
        | ((with_reducible refine at_ld 28 ?_); (refine ld 28 (.tmp 14) 5 sizeQ5 _ Try.underlying28 rfl eb (eo + k * 5) [.int .i64 xa, .int .i64 xb, .int .i64 xc, .slice p m q, .int .i64 xe] rfl hrg rfl ?_))
        | ((with_reducible refine at_st 28 ?_); (refine st' 28 (.tmp 5) (.tmp 15) 5 sizeQ5 wr.heap.size 0 [.int .i64 xa, .int .i64 xb, .int .i64 xc, .slice p m q, .int .i64 xe] rfl (one28 _ _ _ _ _ _ _) (z7.there 0 5 (by simp)) rfl rfl ?_); intro v3 hv3; have b3 : Blk v3 wr.heap.size [.int .i64 xa, .int .i64 xb, .int .i64 xc, .slice p m q, .int .i64 xe] 28 := (by rw [hv3]; exact z7.setsW _ rfl); have k3 : Below wr.heap.size wr v3 := (by rw [hv3]; exact below_sets (Nat.le_refl _) _ k7 0); clear hv3))
      have F0 : ∀ u, Grows v3 u → u.cell? ⟨wr.heap.size, 0, none⟩ = some (.int .i64 xa) := fun u hu => (b3.below hu b3.lt).cell 0
      have F2 : ∀ u, Grows v3 u → u.cell? ⟨d, 2, none⟩ = some (.int .i64 (D.steps : Int)) := fun u hu => (HD.out.below (k3.trans (Below.mono hu k3.size))).blk.cell 2
      clear z7 k7 hrg
      refine regionG (S := Grows v3) (by kernel_rfl) (Below.refl _ v3).drew ?_
      refine takeG 0 (some 16) (.pointer (some ⟨wr.heap.size, 0, none⟩)) rfl rfl (by kernel_rfl) (by kernel_rfl) (by kernel_rfl) (fun _ _ _ h => h) (ans_plain (by rfl) (fun w _ => by unfold execOp; go_simp)) ?_
      simp only [Act.put, List.setIfInBounds_toArray, List.set_cons_zero, List.set_cons_succ]
      refine takeG 1 (some 17) (.int .i64 xa) rfl rfl (by kernel_rfl) (by kernel_rfl) (by kernel_rfl) (fun _ _ _ h => h) (ans_plain (by rfl) (fun w h => by have hc := F0 w h; unfold execOp; go_simp)) ?_
      simp only [Act.put, List.setIfInBounds_toArray, List.set_cons_zero, List.set_cons_succ]
      refine takeG 2 (some 18) (.pointer (some ⟨d, 0, none⟩)) rfl rfl (by kernel_rfl) (by kernel_rfl) (by kernel_rfl) (fun _ _ _ h => h) (ans_plain (by rfl) (fun w _ => rfl)) ?_
      simp only [Act.put, List.setIfInBounds_toArray, List.set_cons_zero, List.set_cons_succ]
      refine takeG 3 (some 19) (.pointer (some ⟨d, 0, none⟩)) rfl rfl (by kernel_rfl) (by kernel_rfl) (by kernel_rfl) (fun _ _ _ h => h) (ans_plain (by rfl) (fun w _ => by unfold execOp; go_simp)) ?_
      simp only [Act.put, List.setIfInBounds_toArray, List.set_cons_zero, List.set_cons_succ]
      refine takeG 4 (some 20) (.pointer (some ⟨d, 2, none⟩)) rfl rfl (by kernel_rfl) (by kernel_rfl) (by kernel_rfl) (fun _ _ _ h => h) (ans_plain (by rfl) (fun w _ => by unfold execOp; go_simp)) ?_
      simp only [Act.put, List.setIfInBounds_toArray, List.set_cons_zero, List.set_cons_succ]
      refine takeG 5 (some 21) (.int .i64 (D.steps : Int)) rfl rfl (by kernel_rfl) (by kernel_rfl) (by kernel_rfl) (fun _ _ _ h => h) (ans_plain (by rfl) (fun w h => by have hc := F2 w h; unfold execOp; go_simp)) ?_
      simp only [Act.put, List.setIfInBounds_toArray, List.set_cons_zero, List.set_cons_succ]
      refine takeG 6 (some 22) (.bool (decide ((D.steps : Int) ≤ xa))) rfl rfl (by kernel_rfl) (by kernel_rfl) (by kernel_rfl) (fun _ _ _ h => h) (ans_plain (by rfl) (fun w _ => by unfold execOp; go_simp)) ?_
      simp only [Act.put, List.setIfInBounds_toArray, List.set_cons_zero, List.set_cons_succ]
      refine doneG (by kernel_rfl) fun u4 hg4 hs4 => ?_
      have k4 : Below wr.heap.size wr u4 := k3.trans (Below.mono hs4 k3.size)
      have b4 := b3.below hs4 b3.lt
      clear F0 F2 hg4 hs4
      by_cases hon : (D.steps : Int) ≤ xa
      · rw [decide_eq_true hon]
        have y3 : u4.cell? ⟨wr.heap.size, 3, none⟩ = some (.slice p m q) := b4.cell 3
        have l4 := b4.lt
        have CC := oCut u4 (HBs.out.below k4 (Nat.le_refl _))
        go_wp2_with fail
        refine CC.mono ?_
        rintro e w' ⟨kk, rfl, rfl, hcb, hk5, _, _⟩
        have CJ := oJoin1 w' hcb (by have := List.length_take_le 512 xd; omega)
        clear CC hcb
        go_wp2_with fail
        refine CJ.mono ?_
        rintro e u5 ⟨a5, m5, c5, rfl, o5, kb5⟩
        have b5 := b4.below kb5 b4.lt
        have y5 : u5.cell? ⟨wr.heap.size, 3, none⟩ = some (.slice p m q) := b5.cell 3
        have z5 := b5.free 3
        have l5 := b5.lt
        clear CJ y3 l4
        go_wp2_with fail
        obtain ⟨V, hV⟩ : ∃ V, V = u5.setCell ⟨wr.heap.size, 3, none⟩ (.slice a5 m5 c5) := ⟨_, rfl⟩
        rw [← hV]
        have kV := kp_set u5 wr.heap.size 3 (.slice a5 m5 c5)
        rw [← hV] at kV
        have bV : Blk V wr.heap.size [.int .i64 xa, .int .i64 xb, .int .i64 xc, .slice a5 m5 c5, .int .i64 xe] 28 := by rw [hV]; exact b5.setC 3 _
        have k45 : Below wr.heap.size wr u5 := k4.trans (kb5.mono k4.size)
        have kwV : Kp (fun j => j = wr.heap.size) wr V := (Kp.of_below k45).trans kV
        have hD0 := (HD.out.below k45).kp kV (fun j hu e => hng (by rw [← e]; exact hu))
        have h5V0 : B5 (fun j => w'.heap.size ≤ j) V a5 m5 c5 (xd.take 512) := (o5.b5 (A := fun j => w'.heap.size ≤ j) fun j hj _ => hj).keep fun j cur f _ hh => kV.block j (Array.getElem?_eq_some_iff.1 hh).1 fun e => by subst e; exact absurd ((show Ty u5 _ 5 from ⟨cur, f, hh⟩).one b5.ty) (by decide)
        have hDV : Dm (fun j => U' j ∨ (w'.heap.size ≤ j ∧ j < V.heap.size)) V d r { D with plot := l.take k } M' := hD0.up (fun _ hu => Or.inl hu) (fun j hj => by rcases hj with hj | hj; exact hD0.lt j hj; exact hj.2)
        have h5V : B5 (fun j => U' j ∨ (w'.heap.size ≤ j ∧ j < V.heap.size)) V a5 m5 c5 (xd.take 512) := h5V0.mono fun j hj hh => Or.inr ⟨hh, hj⟩
        have HNV : Hid (Next w U (fun j => U' j ∨ (w'.heap.size ≤ j ∧ j < V.heap.size))) := fun j hj => by
          rcases hj with hj | hj
          · exact HN.out j hj
          · exact Or.inr (by have := HKP.out.size; have := k4.size; omega)
        have HKV : Hid (Kp (Wr U w) w V) := ⟨kwV.os.trans HKP.out.os, kwV.tape.trans HKP.out.tape, kwV.output.trans HKP.out.output, Nat.le_trans HKP.out.size kwV.size, fun j hj hnw => (kwV.block j (Nat.lt_of_lt_of_le hj HKP.out.size) (by have := HKP.out.size; omega)).trans (HKP.out.block j hj hnw)⟩
        have ngV : ¬ (U' wr.heap.size ∨ (w'.heap.size ≤ wr.heap.size ∧ wr.heap.size < V.heap.size)) := fun hh => by
          rcases hh with hh | hh
          · exact hng hh
          · have := b4.lt; omega
        obtain ⟨UV, hUV⟩ : ∃ UV : Nat → Prop, UV = fun j => U' j ∨ (w'.heap.size ≤ j ∧ j < V.heap.size) := ⟨_, rfl⟩
        rw [← hUV] at hDV h5V HNV
        have ngV2 : ¬ UV wr.heap.size := by rw [hUV]; exact ngV
        clear hUV ngV hV kV kwV hD0 h5V0 k45 o5 kb5 b5 y5 z5 l5 b4 k4 b3 k3 HD HN HKP hng HBs
        obtain ⟨a, n, c, hv, hln⟩ := (hDV.plot.row xa hon).shape
        have hrow := hDV.plot.row xa hon
        rw [hv] at hrow
        have hpl := plotL_len (l.take k) xa
        have HPN : Hid ((plotL (l.take k) xa).length + 1 ≤ 1000000) := by show _ ≤ _; rw [List.length_take] at hpl; omega
        have hmp := (hDV.plot.map m0 HQ.out).1
        have KEY : Hid (∀ w9 v, Kp (fun j => (Value.slice a n c).ownBlock = some j ∨ j = m0) V w9 → Mp w9 m0 (updI M'.g xa v) → OwS (elQ fun j => UV j ∨ (V.heap.size ≤ j ∧ j < w9.heap.size)) 5 28 w9 0 v (plotL (l.take k) xa ++ [cutP ⟨xa, xb, xc, xd, xe⟩]) → (∀ j, v.ownBlock = some j → (Value.slice a n c).ownBlock = some j ∨ V.heap.size ≤ j) → Pl U w d r D (l.take (k + 1)) w9) := fun w9 v kk hm ho hp => by
          rw [← hv] at kk hp
          obtain ⟨U9, M9, h9, hq9, ht9, hn9, hk9⟩ := hDV.plotted HQ.out HTW.out (x := ⟨xa, xb, xc, xd, xe⟩) hon kk hm ho hp
          rw [← HT.out]
          exact ⟨U9, M9, m0, h9, hq9, ht9, HNV.out.trans hn9 HKV.out.size, by
            refine ⟨hk9.os.trans HKV.out.os, hk9.tape.trans HKV.out.tape, hk9.output.trans HKV.out.output, Nat.le_trans HKV.out.size hk9.size, fun j hj hnw => ?_⟩
            exact (HKV.out.wr HNV.out hk9).block j hj hnw⟩
        have hmr : ∀ j, (Value.slice a n c).ownBlock = some j → j ≠ m0 := fun j hj e => by subst e; exact hmp.noTy _ (hrow.ty _ hj)
        have hdr : ∀ j, (Value.slice a n c).ownBlock = some j → j ≠ d := fun j hj e => by subst e; exact absurd ((hrow.ty _ hj).one hDV.blk.ty) (by decide)
        have hgr : ∀ j, (Value.slice a n c).ownBlock = some j → j ≠ wr.heap.size := fun j hj e => by subst e; exact ngV2 (hDV.plot.at_ xa _ hon (by rw [hv]; exact hj))
        have hr5 : ∀ j, (Value.slice a n c).ownBlock = some j → ¬ Ty V j 5 := fun j hj ht => absurd ((hrow.ty _ hj).one ht) (by decide)
        have hlz := hrow.lt
        have hbk : Blk V d [.pointer (some ⟨r, 0, none⟩), .int .i64 D.n, .int .i64 (D.steps : Int), .map (some M'.mp), .slice M'.wa M'.wn M'.wc, .map (some m0), .slice M'.sa M'.sn M'.sc] 74 := by have := hDV.blk; unfold hc at this; rw [HQ.out] at this; exact this
        have G5 : ∀ u, Kp (fun j => (Value.slice a n c).ownBlock = some j) V u → u.cell? ⟨d, 5, none⟩ = some (.map (some m0)) := fun u k => (k.blk hbk fun e => hdr d e rfl).cell 5
        have GM : ∀ u, Kp (fun j => (Value.slice a n c).ownBlock = some j) V u → Mp u m0 M'.g := fun u k => hmp.same (k.block m0 hmp.lt fun e => hmr _ e rfl)
        have GX : ∀ u, Kp (fun j => (Value.slice a n c).ownBlock = some j) V u → u.cell? ⟨wr.heap.size, 0, none⟩ = some (.int .i64 xa) := fun u k => (k.blk bV fun e => hgr _ e rfl).cell 0
        have GB : ∀ u, Kp (fun j => (Value.slice a n c).ownBlock = some j) V u → u.rangeAt wr.heap.size 0 [.int .i64 xa, .int .i64 xb, .int .i64 xc, .slice a5 m5 c5, .int .i64 xe] := fun u k => (k.blk bV fun e => hgr _ e rfl).whole
        have HV : Hid ((M'.g xa).getD nilV = .slice a n c) := hv
        clear hv hln hpl
        generalize plotL (l.take k) xa = L at *
        go_wp2_with fail
        refine regionE 16 (S := Kp (fun j => (Value.slice a n c).ownBlock = some j) V) (by kernel_rfl) (Kp.of_below (Below.refl _ V).drew) ?_
        refine takeT 0 (some 29) (.pointer (some ⟨d, 0, none⟩)) rfl rfl (by kernel_rfl) (fun _ _ _ h => h) (ans_plain (by rfl) (fun w _ => rfl)) ?_
        simp only [Act.put, List.setIfInBounds_toArray, List.set_cons_zero, List.set_cons_succ]
        refine takeT 1 (some 30) (.pointer (some ⟨d, 0, none⟩)) rfl rfl (by kernel_rfl) (fun _ _ _ h => h) (ans_plain (by rfl) (fun w _ => by unfold execOp; go_simp)) ?_
        simp only [Act.put, List.setIfInBounds_toArray, List.set_cons_zero, List.set_cons_succ]
        refine takeT 2 (some 31) (.pointer (some ⟨d, 5, none⟩)) rfl rfl (by kernel_rfl) (fun _ _ _ h => h) (ans_plain (by rfl) (fun w _ => by unfold execOp; go_simp)) ?_
        simp only [Act.put, List.setIfInBounds_toArray, List.set_cons_zero, List.set_cons_succ]
        refine takeT 3 (some 32) (.map (some m0)) rfl rfl (by kernel_rfl) (fun _ _ _ h => h) (ans_plain (by rfl) (fun w h => by have hc := G5 w h; unfold execOp; go_simp)) ?_
        simp only [Act.put, List.setIfInBounds_toArray, List.set_cons_zero, List.set_cons_succ]
        refine takeT 4 (some 33) (.pointer (some ⟨wr.heap.size, 0, none⟩)) rfl rfl (by kernel_rfl) (fun _ _ _ h => h) (ans_plain (by rfl) (fun w _ => by unfold execOp; go_simp)) ?_
        simp only [Act.put, List.setIfInBounds_toArray, List.set_cons_zero, List.set_cons_succ]
        refine takeT 5 (some 34) (.int .i64 xa) rfl rfl (by kernel_rfl) (fun _ _ _ h => h) (ans_plain (by rfl) (fun w h => by have hc := GX w h; unfold execOp; go_simp)) ?_
        simp only [Act.put, List.setIfInBounds_toArray, List.set_cons_zero, List.set_cons_succ]
        refine takeT 6 (some 35) (.pointer (some ⟨d, 0, none⟩)) rfl rfl (by kernel_rfl) (fun _ _ _ h => h) (ans_plain (by rfl) (fun w _ => rfl)) ?_
        simp only [Act.put, List.setIfInBounds_toArray, List.set_cons_zero, List.set_cons_succ]
        refine takeT 7 (some 36) (.pointer (some ⟨d, 0, none⟩)) rfl rfl (by kernel_rfl) (fun _ _ _ h => h) (ans_plain (by rfl) (fun w _ => by unfold execOp; go_simp)) ?_
        simp only [Act.put, List.setIfInBounds_toArray, List.set_cons_zero, List.set_cons_succ]
        refine takeT 8 (some 37) (.pointer (some ⟨d, 5, none⟩)) rfl rfl (by kernel_rfl) (fun _ _ _ h => h) (ans_plain (by rfl) (fun w _ => by unfold execOp; go_simp)) ?_
        simp only [Act.put, List.setIfInBounds_toArray, List.set_cons_zero, List.set_cons_succ]
        refine takeT 9 (some 38) (.map (some m0)) rfl rfl (by kernel_rfl) (fun _ _ _ h => h) (ans_plain (by rfl) (fun w h => by have hc := G5 w h; unfold execOp; go_simp)) ?_
        simp only [Act.put, List.setIfInBounds_toArray, List.set_cons_zero, List.set_cons_succ]
        refine takeT 10 (some 39) (.pointer (some ⟨wr.heap.size, 0, none⟩)) rfl rfl (by kernel_rfl) (fun _ _ _ h => h) (ans_plain (by rfl) (fun w _ => by unfold execOp; go_simp)) ?_
        simp only [Act.put, List.setIfInBounds_toArray, List.set_cons_zero, List.set_cons_succ]
        refine takeT 11 (some 40) (.int .i64 xa) rfl rfl (by kernel_rfl) (fun _ _ _ h => h) (ans_plain (by rfl) (fun w h => by have hc := GX w h; unfold execOp; go_simp)) ?_
        simp only [Act.put, List.setIfInBounds_toArray, List.set_cons_zero, List.set_cons_succ]
        refine takeT 12 (some 41) (.slice a n c) rfl rfl (by kernel_rfl) (fun _ _ _ h => h) (ans_lookV (.tmp 38) (.tmp 40) 72 3 22 rfl (by rfl) underQ under3 nilV zeroQ m0 M'.g rfl xa rfl GM _ HV.out) ?_
        simp only [Act.put, List.setIfInBounds_toArray, List.set_cons_zero, List.set_cons_succ]
        refine takeT 13 (some 42) (.agg #[.int .i64 xa, .int .i64 xb, .int .i64 xc, .slice a5 m5 c5, .int .i64 xe]) rfl rfl (by kernel_rfl) (fun _ _ _ h => h) (ans_row 28 (.tmp 5) _ 5 rfl (by rfl) wr.heap.size 0 rfl [.int .i64 xa, .int .i64 xb, .int .i64 xc, .slice a5 m5 c5, .int .i64 xe] GB Try.underlying28 rfl rfl sizeQ5) ?_
        simp only [Act.put, List.setIfInBounds_toArray, List.set_cons_zero, List.set_cons_succ]
        refine oneE 14 (by kernel_rfl) (by kernel_rfl) fun u3 hg3 hs3 => ?_
        refine opBSQ (some 43) rfl rfl rfl (.tmp 42) rfl (.int .i64 xa) (.int .i64 xb) (.int .i64 xc) (.slice a5 m5 c5) (.int .i64 xe) rfl ⟨hs3.alloc _, ?_⟩
        simp only [Act.put, List.setIfInBounds_toArray, List.set_cons_zero, List.set_cons_succ]
        refine oneE 15 (by kernel_rfl) (by kernel_rfl) fun u4 hg4 hs4 => ?_
        have kA : Below V.heap.size V (u3.alloc (.cells #[.int .i64 xa, .int .i64 xb, .int .i64 xc, .slice a5 m5 c5, .int .i64 xe] 28)) := ((Below.refl _ V).drew.trans (Below.mono hg3 (Nat.le_refl _))).trans ((below_alloc u3 _).mono (Below.size hg3))
        have k4 : Below V.heap.size V u4 := kA.trans (Below.mono hg4 kA.size)
        have s4 : Sp UV UV (fun _ => False) V u4 := ⟨Kp.of_below k4, fun _ hf => hf.elim, fun _ hu => hu⟩
        have o4 : OwS (elQ UV) 5 28 u4 0 (.slice a n c) L := hrow.turn s4.elQ fun j hj => k4.block j (hlz j hj).2
        have b3 := ((Blk.newAt u3 #[.int .i64 xa, .int .i64 xb, .int .i64 xc, .slice a5 m5 c5, .int .i64 xe] 28 u3.heap.size rfl _ rfl).below hg4 (by simp)).whole
        have hb4 := s4.b5 h5V
        refine opAppAt (elQ UV) 5 56 22 28 _ Try.underlying22 infoQ rfl (by decide) (by decide) u4 rfl rfl (some 44) rfl (.tmp 41) (.tmp 43) rfl 0 (.slice a n c) L rfl o4 u3.heap.size 1 (cutP ⟨xa, xb, xc, xd, xe⟩) [.int .i64 xa, .int .i64 xb, .int .i64 xc, .slice a5 m5 c5, .int .i64 xe] rfl b3 ⟨rfl, one28 _ _ _ _ _ _ _, a5, m5, c5, rfl, hb4, HI.out⟩ HPN.out (Nat.zero_le _) ?_ ?_
        · exact fun w' x vs hg hx => (show Sp UV UV (fun j => (Value.slice a n c).ownBlock = some j) u4 w' from ⟨⟨hg.os, hg.tape, hg.output, hg.size, fun j hj hn => hg.block j hj fun e => hn e.symm⟩, fun j hj _ ht => hr5 j hj (ht.same (k4.block j (hlz j hj).2).symm), fun _ hu => hu⟩).elQ x vs hx
        intro v5 u5 o5 g5 hp5
        simp only [Act.put, List.setIfInBounds_toArray, List.set_cons_zero, List.set_cons_succ]
        have q5 : Kp (fun j => (Value.slice a n c).ownBlock = some j) u4 u5 := ⟨g5.os, g5.tape, g5.output, g5.size, fun j hj hn => g5.block j hj fun e => hn e.symm⟩
        have q5w : Kp (fun j => (Value.slice a n c).ownBlock = some j) V u5 := (Kp.of_below k4).trans q5
        refine ⟨q5w, ?_⟩
        refine goE (by kernel_rfl) (by kernel_rfl) (by kernel_rfl) fun u6 hg6 hs6 => ?_
        refine opMset 16 72 3 22 (.tmp 32) (.tmp 34) (.tmp 44) rfl rfl rfl rfl underQ under3 m0 M'.g rfl xa rfl v5 rfl (GM u6 hs6) fun u7 hm7 g7 => ?_
        refine endE (by kernel_rfl) fun u8 hg8 => ?_
        have m5' : m0 < u5.heap.size := Nat.lt_of_lt_of_le hmp.lt q5w.size
        have k68 : Kp (fun j => j = m0) u5 u8 := ((Kp.of_below hg6).trans (Kp.of_grown g7)).trans (Kp.of_below hg8)
        have k8 : Kp (fun j => (Value.slice a n c).ownBlock = some j ∨ j = m0) V u8 := (q5w.mono fun j _ hj => Or.inl hj).trans (k68.mono fun j _ hj => Or.inr hj)
        have mU5 : Mp u5 m0 M'.g := (GM u6 hs6).same (show u5.heap[m0]? = u6.heap[m0]? from (Below.block hg6 m0 m5').symm)
        have hv5 : ∀ j, v5.ownBlock = some j → j ≠ m0 := fun j hj e => by subst e; exact mU5.noTy _ (o5.ty _ hj)
        have o8 : OwS (elQ fun j => UV j ∨ (V.heap.size ≤ j ∧ j < u8.heap.size)) 5 28 u8 0 v5 (L ++ [cutP ⟨xa, xb, xc, xd, xe⟩]) := o5.turn (show Sp UV (fun j => UV j ∨ (V.heap.size ≤ j ∧ j < u8.heap.size)) (fun j => j = m0) u5 u8 from ⟨k68, fun j e _ ht => by subst e; exact mU5.noTy _ ht, fun _ hu => Or.inl hu⟩).elQ fun j hj => k68.block j (o5.lt j hj).2 fun e => hv5 j hj e
        have PL8 := KEY.out u8 v5 k8 (hm7.same (Below.block hg8 m0 hm7.lt)) o8 (fun j hj => by
          rcases hp5 with e | e
          · exact Or.inl (by rw [← e]; exact hj)
          · rw [e] at hj
            have := Option.some.inj hj
            have := k4.size
            exact Or.inr (by omega))
        clear o8 hv5 mU5 k8 k68 m5' hg8 hm7 g7 hg6 hs6 q5w q5 hp5 g5 o5 hb4 b3 o4 s4 k4 kA hg4 hs4 hg3 hs3 G5 GM GX GB hrow hmp KEY h5V hbk bV hDV hmr hdr hgr hr5 hlz ngV2
        go_wp2_with fail
        go_roundw
        case rel => exact ⟨k + 1, by omega, by go_num, PL8⟩
        case measure => simp [intOf]; omega
      · rw [decide_eq_false hon]
        have PL4 : Pl U w d r D (l.take (k + 1)) u4 := by rw [← HT.out]; exact Pl.skip ⟨U', M', m0, HD.out.below k4, HQ.out, HTW.out, HN.out, HKP.out.trans (Kp.of_below k4)⟩ (by show xa < _; omega)
        clear b4 k4 b3 k3 HD HN HKP HTW HQ HBs hng
        go_wp2_with fail
        go_roundw
        case rel => exact ⟨k + 1, by omega, by go_num, PL4⟩
        case measure => simp [intOf]; omega
    · have i0 : ¬ (k : Int) < (ln : Int) := by omega
      rw [List.take_of_length_le (by rw [HLN.out]; omega)] at PL
      have HFIN : Hid (Dn U w d r { D with plot := l } wr) := by obtain ⟨U', M', m0, hD, _, _, hn, hkp⟩ := PL; exact ⟨U', M', hD, hn, hkp⟩
      clear PL
      go_wp2_with fail
      go_end0
      exact ⟨rfl, HFIN.out⟩

end Go.Proofs.Ytfdilgnlfademaa

/-
  Layer 9's program: the disk in memory ('Dk'), and the contracts of all its functions. Conditions: lists of at most a million, fewer than 2^40 steps, bytes of at most 1000.
-/
namespace Go.Proofs.Ytfdilgnlfademaa
open Go.RowKit
set_option linter.unusedVariables false

/-- The disk in block d, on the power in block r, holds D; U: all blocks that it uses; F: those of them that it may yet write. -/
def Dk (U F : Nat → Prop) (w : World) (d r : Nat) (D : DskS) : Prop := (∃ M, Dm U w d r D M) ∧ ∀ j, F j ↔ Wr U w j
theorem Dk.eq {U F : Nat → Prop} {w : World} {d r : Nat} {D : DskS} (h : Dk U F w d r D) : F = Wr U w := funext fun j => propext (h.2 j)
theorem Dk.lt {U F : Nat → Prop} {w : World} {d r : Nat} {D : DskS} (h : Dk U F w d r D) : ∀ j, U j → j < w.heap.size := by
  obtain ⟨⟨M, hm⟩, _⟩ := h
  exact hm.lt
theorem Dk.sub {U F : Nat → Prop} {w : World} {d r : Nat} {D : DskS} (h : Dk U F w d r D) : ∀ j, F j → U j := fun j hj => ((h.2 j).1 hj).1
theorem Dm.wrR {U : Nat → Prop} {w : World} {d r : Nat} {D : DskS} {M : Mm} (h : Dm U w d r D M) : Wr U w r := ⟨h.inR, fun ht => absurd (ht.one h.pw.ty) (by decide)⟩
theorem Dk.pw {U F : Nat → Prop} {w : World} {d r : Nat} {D : DskS} (h : Dk U F w d r D) : Pw w r D.p ∧ F r := by
  obtain ⟨⟨M, hm⟩, hF⟩ := h
  exact ⟨hm.pw, (hF r).2 hm.wrR⟩
theorem Dk.keep {U F G : Nat → Prop} {w w' : World} {d r : Nat} {D : DskS} (h : Dk U F w d r D) (k : Kp G w w') (hG : ∀ j, U j → ¬ G j) : Dk U F w' d r D := by
  obtain ⟨⟨M, hm⟩, hF⟩ := h
  refine ⟨⟨M, hm.kp k hG⟩, fun j => (hF j).trans ⟨fun hh => ⟨hh.1, fun ht => hh.2 (ht.same (k.block j (hm.lt j hh.1) (hG j hh.1)).symm)⟩, fun hh => ⟨hh.1, fun ht => hh.2 (ht.same (k.block j (hm.lt j hh.1) (hG j hh.1)))⟩⟩⟩
theorem Dk.power {U F : Nat → Prop} {w w' : World} {d r : Nat} {D : DskS} (h : Dk U F w d r D) {P : PowS} (hp : Pw w' r P) (k : Kp (fun j => j = r) w w') : Dk U F w' d r { D with p := P } := by
  obtain ⟨⟨M, hm⟩, hF⟩ := h
  have hsame : ∀ j, U j → (Ty w j 5 ↔ Ty w' j 5) := fun j hu => by
    by_cases e : j = r
    · subst e
      exact ⟨fun ht => absurd (ht.one hm.pw.ty) (by decide), fun ht => absurd (ht.one hp.ty) (by decide)⟩
    · exact ⟨fun ht => ht.same (k.block j (hm.lt j hu) e), fun ht => ht.same (k.block j (hm.lt j hu) e).symm⟩
  exact ⟨⟨M, hm.power hp k⟩, fun j => (hF j).trans ⟨fun hh => ⟨hh.1, fun ht => hh.2 ((hsame j hh.1).2 ht)⟩, fun hh => ⟨hh.1, fun ht => hh.2 ((hsame j hh.1).1 ht)⟩⟩⟩
/-- What a call that writes leaves. -/
def Dks (U F : Nat → Prop) (w : World) (d r : Nat) (D : DskS) (w' : World) : Prop := ∃ U' F', Dk U' F' w' d r D ∧ Next w U U' ∧ Next w F F' ∧ Kp F w w'
theorem next_wr {U U' : Nat → Prop} {w w' : World} (n : Next w U U') (k : Kp (Wr U w) w w') : Next w (Wr U w) (Wr U' w') := fun j hj => by
  rcases n j hj.1 with hu | hu
  · by_cases hs : j < w.heap.size
    · refine Or.inl ⟨hu, fun ht => hj.2 (ht.same (k.block j hs fun hw => hw.2 ht))⟩
    · exact Or.inr (by omega)
  · exact Or.inr hu
theorem Dn.dks {U : Nat → Prop} {w w' : World} {d r : Nat} {D : DskS} (h : Dn U w d r D w') : Dks U (Wr U w) w d r D w' := by
  obtain ⟨U', M', hm, hn, hk⟩ := h
  exact ⟨U', Wr U' w', ⟨⟨M', hm⟩, fun _ => Iff.rfl⟩, hn, next_wr hn hk, hk⟩
set_option maxRecDepth 100000 in
theorem oDNewNot (w : World) {r : Nat} {P : PowS} (hp : Pw w r P) (n : Int) (hn : ¬ (1 ≤ n ∧ n ≤ 4096)) : Calls Try.prog 9 #[.pointer (some ⟨r, 0, none⟩), .int .i64 n] w fun e w' => e = .returned (.tuple #[.pointer none, .int .i64 2]) ∧ Below w.heap.size w w' := by
  clear hp
  by_cases h1 : n < 1
  · clear hn
    go_enter Try.func9, Try.ntmps9
    go_wp2_with fail
    go_ret2
    exact ⟨rfl, Below.refl _ _⟩
  · have h2 : 4096 < n := by omega
    clear hn
    go_enter Try.func9, Try.ntmps9
    go_wp2_with fail
    go_ret2
    exact ⟨rfl, Below.refl _ _⟩
theorem Dm.new {w : World} {r : Nat} {P : PowS} (hp : Pw w r P) (n : Int) : Dm (fun j => j = r ∨ j = w.heap.size ∨ j = w.heap.size + 1) ((w.alloc (.map #[] 0)).alloc (.cells #[.pointer (some ⟨r, 0, none⟩), .int .i64 n, .int .i64 0, .map (some w.heap.size), .slice none 0 0, .map none, .slice none 0 0] 74)) (w.heap.size + 1) r (DskS.new P n) ⟨w.heap.size, none, 0, 0, none, none, 0, 0, fun _ => none, fun _ => none⟩ := by
  have k1 : Below w.heap.size w ((w.alloc (.map #[] 0)).alloc (.cells #[.pointer (some ⟨r, 0, none⟩), .int .i64 n, .int .i64 0, .map (some w.heap.size), .slice none 0 0, .map none, .slice none 0 0] 74)) := below2 _ _ _
  have b1 : Blk ((w.alloc (.map #[] 0)).alloc (.cells #[.pointer (some ⟨r, 0, none⟩), .int .i64 n, .int .i64 0, .map (some w.heap.size), .slice none 0 0, .map none, .slice none 0 0] 74)) (w.heap.size + 1) [.pointer (some ⟨r, 0, none⟩), .int .i64 n, .int .i64 0, .map (some w.heap.size), .slice none 0 0, .map none, .slice none 0 0] 74 := Blk.newAt (w.alloc _) _ _ (w.heap.size + 1) (by simp) _ rfl
  have m1 : Mp ((w.alloc (.map #[] 0)).alloc (.cells #[.pointer (some ⟨r, 0, none⟩), .int .i64 n, .int .i64 0, .map (some w.heap.size), .slice none 0 0, .map none, .slice none 0 0] 74)) w.heap.size (fun _ => none) := (Mp.new w).same ((below_alloc (w.alloc (.map #[] 0)) _).block _ (by simp))
  have hr := hp.lt
  refine ⟨?_, Or.inr (Or.inr rfl), Or.inl rfl, b1, hp.same (k1.block r hr), ⟨m1, Or.inr (Or.inl rfl), fun k => OwS.nil _ _ _ _ _, fun k j hj => ?_, fun k k' j hj => ?_⟩, ⟨OwS.nil _ _ _ _ _, fun j hj => ?_⟩, ⟨OwS.nil _ _ _ _ _, fun j hj => ?_⟩, fun j hj => ?_, ⟨fun m hm => (by cases hm), fun _ _ => rfl, fun k _ => OwS.nil _ _ _ _ _, fun k j _ hj => ?_⟩, fun m hm => (by cases hm), fun c hc => (by cases hc), fun c hc => (by cases hc), fun c hc => (by cases hc)⟩
  · rintro j (rfl | rfl | rfl)
    · exact Nat.lt_of_lt_of_le hr k1.size
    · exact m1.lt
    · exact b1.lt
  · simp [nilV, Value.ownBlock] at hj
  · simp [nilV, Value.ownBlock] at hj
  · simp [Value.ownBlock] at hj
  · simp [Value.ownBlock] at hj
  · simp [Value.ownBlock] at hj
  · simp [nilV, Value.ownBlock] at hj
set_option maxRecDepth 100000 in
theorem oDNew (w : World) {r : Nat} {P : PowS} (hp : Pw w r P) (n : Int) (hn : 1 ≤ n ∧ n ≤ 4096) : Calls Try.prog 9 #[.pointer (some ⟨r, 0, none⟩), .int .i64 n] w fun e w' => ∃ d U F, e = .returned (.tuple #[.pointer (some ⟨d, 0, none⟩), .int .i64 0]) ∧ Dk U F w' d r (DskS.new P n) ∧ (∀ j, U j → j = r ∨ w.heap.size ≤ j) ∧ Below w.heap.size w w' := by
  have HD : Hid _ := Dm.new hp n
  have HK : Hid (Below w.heap.size w ((w.alloc (.map #[] 0)).alloc (.cells #[.pointer (some ⟨r, 0, none⟩), .int .i64 n, .int .i64 0, .map (some w.heap.size), .slice none 0 0, .map none, .slice none 0 0] 74))) := below2 _ _ _
  have hmk : ∀ w, Sem.run Try.prog (Instr.makeMap 71 none) w = .ok (.map (some w.heap.size)) (w.alloc (.map #[] 0)) := fun _ => rfl
  obtain ⟨h1, h2⟩ := hn
  clear hp
  go_enter Try.func9, Try.ntmps9
  go_wp2_with fail
  go_ret2
  refine ⟨w.heap.size + 1, rfl, _, ⟨_, ⟨⟨_, HD.out⟩, fun _ => Iff.rfl⟩⟩, ?_, HK.out⟩
  rintro j (hj | hj | hj)
  · exact Or.inl hj
  · exact Or.inr (by omega)
  · exact Or.inr (by omega)
set_option maxRecDepth 100000 in
theorem oDSize (w : World) {U F : Nat → Prop} {d r : Nat} {D : DskS} (h : Dk U F w d r D) : Calls Try.prog 30 #[.pointer (some ⟨d, 0, none⟩)] w fun e w' => e = .returned (.int .i64 D.n) ∧ Below w.heap.size w w' := by
  obtain ⟨⟨M, h⟩, _⟩ := h
  have hl := h.blk.lt
  have c1 : w.cell? ⟨d, 1, none⟩ = some (.int .i64 D.n) := h.blk.cell 1
  clear h
  go_enter Try.func30, Try.ntmps30
  go_wp2_with fail
  go_ret
  exact ⟨rfl, Below.refl _ _⟩
set_option maxRecDepth 100000 in
theorem oDSteps (w : World) {U F : Nat → Prop} {d r : Nat} {D : DskS} (h : Dk U F w d r D) : Calls Try.prog 15 #[.pointer (some ⟨d, 0, none⟩)] w fun e w' => e = .returned (.int .i64 (D.steps : Int)) ∧ Below w.heap.size w w' := by
  obtain ⟨⟨M, h⟩, _⟩ := h
  have hl := h.blk.lt
  have c2 : w.cell? ⟨d, 2, none⟩ = some (.int .i64 (D.steps : Int)) := h.blk.cell 2
  clear h
  go_enter Try.func15, Try.ntmps15
  go_wp2_with fail
  go_ret
  exact ⟨rfl, Below.refl _ _⟩
set_option maxRecDepth 100000 in
theorem oDLoose (w : World) {U F : Nat → Prop} {d r : Nat} {D : DskS} (h : Dk U F w d r D) : Calls Try.prog 16 #[.pointer (some ⟨d, 0, none⟩)] w fun e w' => e = .returned (.int .i64 (D.loose.length : Int)) ∧ Below w.heap.size w w' := by
  obtain ⟨⟨M, h⟩, _⟩ := h
  have hl := h.blk.lt
  have c4 : w.cell? ⟨d, 4, none⟩ = some (.slice M.wa M.wn M.wc) := h.blk.cell 4
  rw [h.wlen]
  clear h
  go_enter Try.func16, Try.ntmps16
  go_wp2_with fail
  go_ret
  exact ⟨rfl, Below.refl _ _⟩
theorem oDLook (w : World) {U F : Nat → Prop} {d r : Nat} {D : DskS} (h : Dk U F w d r D) {mm : Nat} (hf : D.fit mm) (hmm : mm ≤ 5000) (at_ : Int) (hat : 0 ≤ at_ ∧ at_ < D.n) : Calls Try.prog 19 #[.pointer (some ⟨d, 0, none⟩), .int .i64 at_] w fun e w' => ∃ p m c, e = .returned (.slice p m c) ∧ BA (fun j => ¬ F j ∧ (U j ∨ w.heap.size ≤ j)) w' p m c (D.look at_) ∧ Below w.heap.size w w' := by
  have hsub := h.sub
  have hlt := h.lt
  obtain ⟨⟨M, h⟩, _⟩ := h
  have f1 := hf.safe
  have f2 := hf.loose
  refine (oLookIn w h (by omega) (by omega) at_ hat).mono ?_
  rintro e w' ⟨p, m, c, rfl, ho, hb⟩
  refine ⟨p, m, c, rfl, (ho.b5 fun j hj _ => ⟨fun hF => ?_, Or.inr hj⟩).ba, hb⟩
  have := hlt j (hsub j hF)
  omega
theorem oDSeen (w : World) {U F : Nat → Prop} {d r : Nat} {D : DskS} (h : Dk U F w d r D) {mm : Nat} (hf : D.fit mm) (hmm : mm ≤ 5000) : Calls Try.prog 22 #[.pointer (some ⟨d, 0, none⟩)] w fun e w' => ∃ p m c, e = .returned (.slice p m c) ∧ Sl (elT fun _ => True) 3 (fun _ => True) w' p m c D.seen ∧ Below w.heap.size w w' := by
  obtain ⟨⟨M, h⟩, _⟩ := h
  have f1 := hf.seen
  exact oSeen0 w h (by omega)
theorem oDRead (w : World) {U F : Nat → Prop} {d r : Nat} {D : DskS} (h : Dk U F w d r D) {mm : Nat} (hf : D.fit mm) (hmm : mm ≤ 5000) (at_ : Int) (hat : i64 at_) : Calls Try.prog 28 #[.pointer (some ⟨d, 0, none⟩), .int .i64 at_] w fun e w' => ∃ p m c, e = .returned (.tuple #[.slice p m c, .int .i64 (D.read at_).2.2]) ∧ ∃ U' F', Dk U' F' w' d r (D.read at_).1 ∧ Next w U U' ∧ Next w F F' ∧ Kp F w w' ∧ BA (fun j => ¬ F' j ∧ (U j ∨ w.heap.size ≤ j)) w' p m c (D.read at_).2.1 := by
  have e := h.eq
  subst e
  obtain ⟨⟨M, h⟩, _⟩ := h
  refine (oRead0 w h hf hmm at_ hat).mono ?_
  rintro e w' ⟨p, m, c, he, U', M', hm, hn, hk, hb⟩
  exact ⟨p, m, c, he, U', Wr U' w', ⟨⟨M', hm⟩, fun _ => Iff.rfl⟩, hn, next_wr hn hk, hk, hb.mono fun j _ hh => ⟨fun hF => hh.1 hF.1, Or.inr hh.2⟩⟩
theorem oDWrite (w : World) {U F : Nat → Prop} {d r : Nat} {D : DskS} (h : Dk U F w d r D) {mm : Nat} (hf : D.fit mm) (hmm : mm ≤ 5000) (at_ : Int) (hat : i64 at_) {p : Option Addr} {m c : Nat} {b : List UInt8} (hb : BA (fun j => ¬ F j) w p m c b) : Calls Try.prog 26 #[.pointer (some ⟨d, 0, none⟩), .int .i64 at_, .slice p m c] w fun e w' => e = .returned (.int .i64 (D.write at_ b).2) ∧ Dks U F w d r (D.write at_ b).1 w' := by
  have e := h.eq
  subst e
  obtain ⟨⟨M, h⟩, _⟩ := h
  refine (oWrite0 w h hf hmm at_ hat hb.1).mono ?_
  rintro e w' ⟨he, hd⟩
  exact ⟨he, hd.dks⟩
theorem oDFlush (w : World) {U F : Nat → Prop} {d r : Nat} {D : DskS} (h : Dk U F w d r D) {mm : Nat} (hf : D.fit mm) (hmm : mm ≤ 5000) : Calls Try.prog 23 #[.pointer (some ⟨d, 0, none⟩)] w fun e w' => e = .returned (.int .i64 (if D.p.ok then 0 else 5)) ∧ Dks U F w d r D.flushed w' := by
  have e := h.eq
  subst e
  obtain ⟨⟨M, h⟩, _⟩ := h
  refine (oFlush0 w h hf hmm).mono ?_
  rintro e w' ⟨he, hd⟩
  exact ⟨he, hd.dks⟩
theorem oDCrash (w : World) {U F : Nat → Prop} {d r : Nat} {D : DskS} (h : Dk U F w d r D) {mm : Nat} (hf : D.fit mm) (hmm : mm ≤ 5000) {p : Option Addr} {m c : Nat} {b : List Bool} (hb : BoA (fun j => ¬ F j) w p m c b) (hm : m ≤ 60) : Calls Try.prog 24 #[.pointer (some ⟨d, 0, none⟩), .slice p m c] w fun e w' => e = .returned (.tuple #[]) ∧ Dks U F w d r (D.crash b) w' := by
  have e := h.eq
  subst e
  obtain ⟨⟨M, h⟩, _⟩ := h
  have f1 := hf.safe
  have f2 := hf.loose
  have hc : D.crash b = { D.plus (kept D.loose b) with loose := [] } := by
    unfold DskS.crash
    rw [settles_plus _ _ fun c hc => h.len2 c (keptP_mem _ _ c hc)]
  rw [hc]
  refine (oCrash w h (by omega) hb (by omega)).mono ?_
  rintro e w' ⟨he, hd⟩
  exact ⟨he, hd.dks⟩
theorem oDPoke (w : World) {U F : Nat → Prop} {d r : Nat} {D : DskS} (h : Dk U F w d r D) {mm : Nat} (hf : D.fit mm) (hmm : mm ≤ 5000) (x : Pok) {p : Option Addr} {m c : Nat} (hb : BA (fun j => ¬ F j) w p m c x.bytes) (hm : m ≤ 1000) (hx : i64 x.on ∧ i64 x.at_ ∧ i64 x.kind ∧ i64 x.num) : Calls Try.prog 29 #[.pointer (some ⟨d, 0, none⟩), xv x p m c] w fun e w' => e = .returned (.tuple #[]) ∧ Dks U F w d r (D.poke x) w' := by
  have e := h.eq
  subst e
  obtain ⟨⟨M, h⟩, _⟩ := h
  have f1 := hf.safe
  have f2 := hf.loose
  refine (oPoke w h (by omega) (by omega) x hb.1 (by omega) hx).mono ?_
  rintro e w' ⟨he, hd⟩
  exact ⟨he, hd.dn.dks⟩
theorem oDPlot (w : World) {U F : Nat → Prop} {d r : Nat} {D : DskS} (h : Dk U F w d r D) {p : Option Addr} {m c : Nat} {l : List Pok} (hl : Sl (elP fun j => ¬ F j) 5 (fun j => ¬ F j) w p m c l) (hm : m ≤ 20) (hx : ∀ x ∈ l, x.bytes.length ≤ 1000) : Calls Try.prog 12 #[.pointer (some ⟨d, 0, none⟩), .slice p m c] w fun e w' => e = .returned (.tuple #[]) ∧ Dks U F w d r { D with plot := l } w' := by
  have e := h.eq
  subst e
  obtain ⟨⟨M, h⟩, _⟩ := h
  refine (oPlot0 w h hl (by omega) hx).mono ?_
  rintro e w' ⟨he, hd⟩
  exact ⟨he, hd.dks⟩

end Go.Proofs.Ytfdilgnlfademaa

/-
  What layer 9's statements do themselves: Fill (a block of like bytes) and light (how much is waited for). Conditions: none.
-/
namespace Go.Proofs.Ytfdilgnlfademaa
open Go.RowKit

/-- A block of like bytes. -/
def like (c : UInt8) : List UInt8 := List.replicate 512 c
theorem like_length (c : UInt8) : (like c).length = 512 := List.length_replicate
theorem like_get {c : UInt8} {k : Nat} (h : k < 512) : (like c).getD k 0 = c := by rw [List.getD_eq_getElem?_getD, like, List.getElem?_replicate, if_pos h]; rfl
/-- What Fill answers. -/
def Fills (w : World) (l : List UInt8) (e : Ending) (w' : World) : Prop := ∃ g, e = .returned (.slice (some ⟨g, 0, none⟩) 512 512) ∧ w.heap.size ≤ g ∧ B5 (fun j => w.heap.size ≤ j) w' (some ⟨g, 0, none⟩) 512 512 l ∧ Below w.heap.size w w'

set_option maxRecDepth 100000 in
set_option maxHeartbeats 1000000 in
theorem lFill (w : World) (y : UInt8) : Calls Try.prog 27 #[.int .u8 (y.toNat : Int)] w (Fills w (like y)) := by
  have HL : Hid ((like y).length = 512) := like_length y
  have HG : Hid (∀ k, k < 512 → (like y).getD k 0 = y) := fun k hk => like_get hk
  obtain ⟨b, hb0⟩ : ∃ b, b = like y := ⟨_, rfl⟩
  rw [← hb0] at HL HG ⊢
  clear hb0
  go_enter Try.func27, Try.ntmps27
  go_wp2_with (at_make; go_must (refine wpList_mkn _ rfl _ _ rfl w.heap.size 512 512 rfl rfl rfl (by omega) (Nat.le_refl _) ?_); intro g w1 hg hgl hown hbel)
  go_loopw [4] (fun i wr => ∃ k : Nat, k ≤ 512 ∧ i = .int .i64 (k : Int) ∧ Own wr w.heap.size (.slice (some ⟨g, 0, none⟩) 512 512) (b.take k ++ List.replicate (512 - k) 0) ∧ Below w.heap.size w wr) (fun i _ => 512 - (intOf i).toNat)
  case atStart => exact ⟨0, by omega, rfl, by simpa using hown, hbel⟩
  case round =>
    clear hown hbel
    obtain ⟨k, hk, rfl, ho, hb⟩ := hrel
    by_cases h1 : k < 512
    · have i1 : (k : Int) < 512 := by omega
      have hlen : (b.take k ++ List.replicate (512 - k) 0).length = 512 := by have := HL.out; simp; omega
      obtain ⟨u, hu⟩ := ho.cell hlen k h1
      have hfz := ho.free hlen k
      have hst := ho.set hlen k y
      rw [show y = b.getD k 0 from (HG.out k h1).symm, fit_set h1 (by rw [HL.out]; exact h1), HG.out k h1] at hst
      go_wp2_with fail
      go_roundw
      case rel => exact ⟨k + 1, by omega, by go_num, hst, hb.setCell (p := ⟨g, k, none⟩) hg _⟩
      case measure => simp [intOf]; omega
    · have i1 : ¬ (k : Int) < 512 := by omega
      have hk' : k = 512 := by omega
      subst hk'
      go_wp2_with fail
      go_ret
      have e : b.take 512 ++ List.replicate (512 - 512) 0 = b := by
        have := HL.out
        rw [List.take_of_length_le (by omega)]
        simp
      rw [e] at ho
      exact ⟨g, rfl, hg, ho.b5 (A := fun j => w.heap.size ≤ j) (fun j hj _ => hj), hb⟩
/-- All but the first byte. -/
theorem B5.tail {A : Nat → Prop} {w : World} {g : Nat} {l : List UInt8} (h : B5 A w (some ⟨g, 0, none⟩) 512 512 l) : B5 A w (some ⟨g, 1, none⟩) 511 511 l.tail := by
  obtain ⟨⟨h1, h2, h3, h4, h5⟩, h6⟩ := h
  refine ⟨⟨by simp [h1], Nat.le_refl _, by unfold maxLen; omega, by simp, fun i hi => ?_⟩, fun _ => ?_⟩
  · obtain ⟨b, o, e, hc⟩ := h5 (i + 1) (by omega)
    simp only [Option.some.injEq, Addr.mk.injEq] at e
    obtain ⟨rfl, rfl, _⟩ := e
    refine ⟨g, 1, rfl, ?_⟩
    rw [show 0 + (i + 1) = 1 + i from by omega] at hc
    rw [hc]
    cases l with
    | nil => simp at h1
    | cons a l => rfl
  · obtain ⟨x, cur, f, e, ha, hb⟩ := h6 (by omega)
    obtain rfl := Option.some.inj e
    exact ⟨⟨g, 1, none⟩, cur, f, rfl, ha, hb⟩

/-- The i-th act. -/
theorem Sl.act {A : Nat → Prop} {w : World} {a : Option Addr} {n c : Nat} {l : List OpS} (h : Sl (elO A) 11 A w a n c l) {s : Nat} {x : OpS} (hx : l[s]? = some x) :
    ∃ b o p m q ka kn kc, a = some ⟨b, o, none⟩ ∧ b < w.heap.size ∧ w.rangeAt b (o + s * 11) (oc x p m q ka kn kc) ∧ BA A w p m q x.x.bytes ∧ BoA A w ka kn kc x.keep ∧ i64 x.kind ∧ i64 x.at_ ∧ i64 x.x.on ∧ i64 x.x.at_ ∧ i64 x.x.kind ∧ i64 x.x.num ∧ i64 x.n := by
  obtain ⟨b, o, vs, ha, hlt, hrg, hl, p, m, q, ka, kn, kc, rfl, r⟩ := h.at hx
  exact ⟨b, o, p, m, q, ka, kn, kc, ha, hlt, hrg, r⟩
/-- Acts that are waited for. -/
def OpS.light (o : OpS) : Prop := o.keep.length ≤ 60 ∧ o.x.bytes.length ≤ 1000
/-- What light answers. -/
def Lights (w : World) (n : Nat) (l : List OpS) (e : Ending) (w' : World) : Prop := ∃ v, e = .returned (.bool v) ∧ (v = true → n ≤ 40 ∧ ∀ o ∈ l, o.light) ∧ ∃ k, w' = w.drewN k

set_option maxRecDepth 100000 in
set_option maxHeartbeats 2000000 in
theorem lLight (w : World) {A : Nat → Prop} {a : Option Addr} {n c : Nat} {l : List OpS} (h : Sl (elO A) 11 A w a n c l) :
    Calls Try.prog 6 #[.slice a n c] w (Lights w n l) := by
  have HL : Hid (l.length = n) := h.len
  have hmax := h.cap
  by_cases hn : n ≤ 40
  · have j0 : ¬ (40 : Int) < (n : Int) := by omega
    go_enter Try.func6, Try.ntmps6
    go_wp2_with fail
    go_loopw [3] (fun i wr => ∃ k : Nat, k ≤ n ∧ i = .int .i64 (k : Int) ∧ Hid (∀ o ∈ l.take k, o.light) ∧ ∃ d, wr = w.drewN d) (fun i _ => n - (intOf i).toNat)
    case atStart => exact ⟨0, Nat.zero_le _, rfl, fun o ho => by simp at ho, 0, rfl⟩
    case round =>
      obtain ⟨k, hk, rfl, HI, d, rfl⟩ := hrel
      by_cases hlt : k < n
      · have i0 : (k : Int) < (n : Int) := by omega
        obtain ⟨x, hx⟩ : ∃ x, l[k]? = some x := ⟨_, List.getElem?_eq_getElem (by rw [HL.out]; exact hlt)⟩
        obtain ⟨b, o, p, m, q, ka, kn, kc, rfl, hlb, hrg, hB, hK, _⟩ := h.act hx
        have c6 : w.cell? ⟨b, o + k * 11 + 6, none⟩ = some (.slice p m q) := hrg 6 _ rfl
        have c10 : w.cell? ⟨b, o + k * 11 + 10, none⟩ = some (.slice ka kn kc) := hrg 10 _ rfl
        have hkl := hK.1.len
        have hbl := hB.1.len
        by_cases h1 : kn ≤ 60
        · have i1 : ¬ (60 : Int) < (kn : Int) := by omega
          by_cases h2 : m ≤ 1000
          · have i2 : ¬ (1000 : Int) < (m : Int) := by omega
            have HN : Hid (∀ o ∈ l.take (k + 1), o.light) := fun o' ho => by
              rw [List.take_add_one, hx] at ho
              rcases List.mem_append.1 ho with ho | ho
              · exact HI.out o' ho
              · simp at ho
                subst ho
                exact ⟨by omega, by omega⟩
            clear hrg hB hK hx HI
            go_wp2_with fail
            go_roundw
            case rel => exact ⟨k + 1, by omega, by go_num, HN, _, rfl⟩
            case measure => simp [intOf]; omega
          · have i2 : (1000 : Int) < (m : Int) := by omega
            clear hrg hB hK hx HI
            go_wp2_with fail
            go_ret
            exact ⟨_, rfl, fun hv => by simp at hv, _, rfl⟩
        · have i1 : (60 : Int) < (kn : Int) := by omega
          clear hrg hB hK hx HI
          go_wp2_with fail
          go_ret
          exact ⟨_, rfl, fun hv => by simp at hv, _, rfl⟩
      · have i0 : ¬ (k : Int) < (n : Int) := by omega
        go_wp2_with fail
        go_ret
        exact ⟨_, rfl, fun _ => ⟨hn, fun o ho => HI.out o (by rw [List.take_of_length_le (by rw [HL.out]; omega)]; exact ho)⟩, _, rfl⟩
  · have j0 : (40 : Int) < (n : Int) := by omega
    go_enter Try.func6, Try.ntmps6
    go_wp2_with fail
    go_ret
    exact ⟨_, rfl, fun hv => by simp at hv, 0, rfl⟩
end Go.Proofs.Ytfdilgnlfademaa

/-
  One act of layer 9's statements ('do'), both ways: what the program and the reference hold stays the same disk. Conditions: acts as the statements have them.
-/
namespace Go.Proofs.Ytfdilgnlfademaa
open Go.RowKit
set_option linter.unusedVariables false

theorem Dk.grows {U F : Nat → Prop} {w w' : World} {d r : Nat} {D : DskS} (h : Dk U F w d r D) (hb : Below w.heap.size w w') : Dk U F w' d r D :=
  h.keep (G := fun _ => False) (Kp.of_below hb) (fun _ _ h => h)
/-- The program's disk holds D, the reference's E; V: what the caller keeps for itself. -/
def Pair (V U F : Nat → Prop) (w w' : World) (d r : Nat) (D E : DskS) (q : Quad) : Prop := ∃ U' F', Dk U' F' w' d r D ∧ RD (fun j => ¬ F' j ∧ ¬ V j) w' E q ∧ Next w U U' ∧ Next w F F' ∧ Kp F w w'
/-- What an act leaves: they answer alike where C holds. -/
def Did (C : Prop) (V U F : Nat → Prop) (w : World) (d r : Nat) (D E : DskS) (e : Ending) (w' : World) : Prop := ∃ q b, e = .returned (.tuple #[dv E q, .bool b]) ∧ (C → b = true) ∧ Pair V U F w w' d r D E q
theorem oDReadS (w : World) {U F : Nat → Prop} {d r : Nat} {D : DskS} (h : Dk U F w d r D) {mm : Nat} (hf : D.fit mm) (hmm : mm ≤ 5000) (at_ : Int) (hat : i64 at_) : Calls Try.prog 28 #[.pointer (some ⟨d, 0, none⟩), .int .i64 at_] w fun e w' => ∃ p m c, e = .returned (.tuple #[.slice p m c, .int .i64 (D.read at_).2.2]) ∧ Bs w' p m c (D.read at_).2.1 ∧ Dks U F w d r (D.read at_).1 w' :=
  (oDRead w h hf hmm at_ hat).mono (by rintro e w' ⟨p, m, c, rfl, U', F', h1, h2, h3, h4, hb⟩; exact ⟨p, m, c, rfl, hb.1, U', F', h1, h2, h3, h4⟩)
/-- An act's numbers, and how much it is. -/
def OpS.fits (o : OpS) : Prop := i64 o.kind ∧ i64 o.at_ ∧ i64 o.x.on ∧ i64 o.x.at_ ∧ i64 o.x.kind ∧ i64 o.x.num ∧ i64 o.n ∧ o.light
theorem pair_end {V U F U2 F2 B : Nat → Prop} {w v3 u1 u2 u3 u4 u5 : World} {d r g : Nat} {D D1 E1 : DskS} {q : Quad} (hd : Dk U F w d r D) (k3 : Below w.heap.size w v3) (hr : RD B v3 E1 q) (hB : ∀ j, B j → ¬ F j) (hBV : ∀ j, B j → ¬ V j) (hBg : ∀ j, B j → j ≠ g)
    (h31 : Grows v3 u1) (hd2 : Dk U2 F2 u2 d r D1) (hU2 : Next u1 U U2) (hF2 : Next u1 F F2) (hk2 : Kp F u1 u2) (h23 : Grows u2 u3) (q4 : Kp (fun j => j = g) u3 u4) (h45 : Grows u4 u5) (hg : w.heap.size ≤ g) (hg3 : g < v3.heap.size) : Pair V U F w u5 d r D1 E1 q := by
  have s31 := Below.size h31
  have sk3 := k3.size
  have hUlt := hd.lt
  have hUg : ∀ j, U2 j → ¬ j = g := fun j hj e => by
    rcases hU2 j hj with h | h
    · have := hUlt j h
      omega
    · omega
  refine ⟨U2, F2, ((hd2.grows h23).keep q4 hUg).grows h45, ?_, hU2.of (by omega), hF2.of (by omega), ?_⟩
  · have r0 : RD (fun j => B j ∧ j < v3.heap.size) v3 E1 q := hr.mono fun j hj hb => ⟨hb, hj⟩
    have r1 := r0.below h31
    have r2 := r1.kp hk2 (fun j hj => hB j hj.1)
    have r3 := r2.below h23
    have r4 := r3.kp q4 (fun j hj => hBg j hj.1)
    have r5 := r4.below h45
    refine r5.mono fun j _ hj => ⟨fun hF => ?_, hBV j hj.1⟩
    rcases hF2 j hF with h | h
    · exact hB j hj.1 h
    · have := hj.2
      omega
  · have a1 : Kp F w u1 := Kp.of_below (k3.trans (Below.mono h31 sk3))
    have a3 := (a1.trans hk2).trans (Kp.of_below h23)
    exact (a3.newer q4 (fun j e => by omega)).trans (Kp.of_below h45)
theorem Blk.mid {w : World} {g : Nat} {vs : List Value} {t : TypeId} (h : Blk w g vs t) (o : Nat) (us : List Value) (he : ∀ j v, us[j]? = some v → vs[o + j]? = some v) : w.rangeAt g o us := fun j v hj => by rw [h.cell]; exact he j v hj
theorem size28 : (Try.prog.info? 28).map (·.size) = some 5 := by kernel_rfl
theorem size36 : (Try.prog.info? 36).map (·.size) = some 4 := by kernel_rfl
/-- The reference's disk behind a call of the program's. -/
theorem mid_rd {V F F2 B : Nat → Prop} {W u2 : World} {D : DskS} {q : Quad} {a b : Nat} (hr : RD B W D q) (hB : ∀ j, B j → ¬ F j) (hBV : ∀ j, B j → ¬ V j) (hn : ∀ j, B j → ¬ (a ≤ j ∧ j ≤ b)) (hk2 : Kp F W u2) (hF2 : Next W F F2) (hab : b < W.heap.size) : RD (fun j => (¬ F2 j ∧ ¬ V j) ∧ ¬ (a ≤ j ∧ j ≤ b)) u2 D q := by
  have r0 : RD (fun j => B j ∧ j < W.heap.size) W D q := hr.mono fun j hj hb => ⟨hb, hj⟩
  refine (r0.kp hk2 (fun j hj => hB j hj.1)).mono fun j _ hj => ⟨⟨fun hF => ?_, hBV j hj.1⟩, hn j hj.1⟩
  rcases hF2 j hF with h | h
  · exact hB j hj.1 h
  · have := hj.2
    omega
theorem pair_end2 {V U F U2 F2 A2 : Nat → Prop} {w W u2 v3 u4 : World} {d r g : Nat} {D D1 E1 : DskS} {q : Quad} (hd : Dk U F w d r D) (kb : Below w.heap.size w W) (hd2 : Dk U2 F2 u2 d r D1) (hU2 : Next W U U2) (hF2 : Next W F F2) (hk2 : Kp F W u2) (hr : RD A2 v3 E1 q) (hA : ∀ j, A2 j → ¬ F2 j ∧ ¬ V j) (hAg : ∀ j, A2 j → j ≠ g)
    (h23 : Grows u2 v3) (q4 : Kp (fun j => j = g) v3 u4) (hg : w.heap.size ≤ g) (hg3 : g < W.heap.size) : Pair V U F w u4 d r D1 E1 q := by
  have skb := kb.size
  have hUlt := hd.lt
  have hUg : ∀ j, U2 j → ¬ j = g := fun j hj e => by
    rcases hU2 j hj with h | h
    · have := hUlt j h
      omega
    · omega
  refine ⟨U2, F2, (hd2.grows h23).keep q4 hUg, (hr.kp q4 hAg).mono fun j _ hj => hA j hj, hU2.of skb, hF2.of skb, ?_⟩
  have a1 : Kp F w W := Kp.of_below kb
  exact ((a1.trans hk2).trans (Kp.of_below h23)).newer q4 (fun j e => by omega)
theorem pair_end3 {V U F U2 F2 A2 : Nat → Prop} {w W u2 v3 u4 : World} {d r : Nat} {D D1 E1 : DskS} {q : Quad} (hd : Dk U F w d r D) (kb : Below w.heap.size w W) (hd2 : Dk U2 F2 u2 d r D1) (hU2 : Next W U U2) (hF2 : Next W F F2) (hk2 : Kp F W u2) (hr : RD A2 v3 E1 q) (hA : ∀ j, A2 j → ¬ F2 j ∧ ¬ V j) (hAg : ∀ j, A2 j → ¬ (w.heap.size ≤ j ∧ j ≤ w.heap.size + 3))
    (h23 : Grows u2 v3) (q4 : Kp (fun j => w.heap.size ≤ j ∧ j ≤ w.heap.size + 3) v3 u4) (hg3 : w.heap.size + 3 < W.heap.size) : Pair V U F w u4 d r D1 E1 q := by
  have skb := kb.size
  have hUlt := hd.lt
  have hUg : ∀ j, U2 j → ¬ (w.heap.size ≤ j ∧ j ≤ w.heap.size + 3) := fun j hj e => by
    rcases hU2 j hj with h | h
    · have := hUlt j h
      omega
    · omega
  refine ⟨U2, F2, (hd2.grows h23).keep q4 hUg, (hr.kp q4 hAg).mono fun j _ hj => hA j hj, hU2.of skb, hF2.of skb, ?_⟩
  have a1 : Kp F w W := Kp.of_below kb
  exact ((a1.trans hk2).trans (Kp.of_below h23)).newer q4 (fun j e => by omega)
theorem pc_one (S : PowS) : ∀ v ∈ pc S, v.oneCell' = true := by
  intro v hv
  simp only [pc, List.mem_cons, List.not_mem_nil, or_false] at hv
  rcases hv with rfl | rfl | rfl | rfl <;> rfl
theorem settles_p (D : DskS) (l : List Chg) : (D.settles l).p = D.p := by
  unfold DskS.settles
  induction l generalizing D with
  | nil => rfl
  | cons c l ih => rw [List.foldl_cons, ih]; rfl
theorem crash_p (D : DskS) (b : List Bool) : (D.crash b).p = D.p := settles_p D _

end Go.Proofs.Ytfdilgnlfademaa
