/-
  Rows of slices of bytes that a call made itself ('OwnV'), and the laws on append and make over them. No condition; no statement of the seat is proved here.
-/
import Derived.Test.YtphkkbkfioaikaaNew
import Derived.Deep.MidRow
import Derived.Deep.Matrix
namespace Go.Proofs.Ytphkkbkfioaikaa
open Go.RowKit

/-- The value v is a slice of the values vs (slices of bytes), in memory of the call's own from block 'base' on. -/
def OwnV (w : World) (base : Nat) (v : Value) (vs : List Value) : Prop := w.ownsRow base 31 1 v vs.length vs

theorem infoS : (Try.prog.info? 31).map (fun i => (i.zero, i.size, i.bytes)) = some (some (.slice none 0 0), 1, 24) := by kernel_rfl

theorem OwnV.below {w w' : World} {base B : Nat} {v : Value} {vs : List Value} (h : OwnV w base v vs) (hb : Below B w w') (hB : w.heap.size ≤ B) : OwnV w' base v vs := by
  obtain ⟨h1, h2⟩ := h
  refine ⟨h1, ?_⟩
  rcases h2 with h2 | ⟨g, cap, cur, hv, hg, hh, r⟩
  · exact Or.inl h2
  · refine Or.inr ⟨g, cap, cur, hv, hg, ?_, r⟩
    have hlt : g < w.heap.size := by
      by_cases e : g < w.heap.size
      · exact e
      · rw [Array.getElem?_eq_none (by omega)] at hh; simp at hh
    rw [hb.block g (by omega)]
    exact hh
theorem OwnV.size {w : World} {base : Nat} {v : Value} {vs : List Value} (h : OwnV w base v vs) : ∀ k, v.ownBlock = some k → base ≤ k := fun k hk => (World.ownsRow.lt h k hk).1
theorem OwnV.lt {w : World} {base : Nat} {v : Value} {vs : List Value} (h : OwnV w base v vs) : ∀ k, v.ownBlock = some k → k < w.heap.size := fun k hk => (World.ownsRow.lt h k hk).2

theorem run_append_none0 {P : Program} {w : World} (base : Nat) (t ty e : TypeId) (i : TypeInfo) (size : Nat) (ht : P.underlying t = some (.slice e)) (hi : P.info? e = some i)
    (v : Value) (n c : Nat) (xs : List Value) (hown : w.ownsRow base e size v n xs) :
    (Builtin.append_ #[t, t] ty #[v, .slice none 0 c]).run P w = .ok v w := by
  rcases hown.2 with ⟨rfl, rfl⟩ | ⟨g, cap, cur, rfl, _, _, hnc, _⟩
  · simp [Builtin.append_, run_underlying ht, sizeOf, typeInfo, hi, Builtin.lenOf, Builtin.firstCells]
  · simp [Builtin.append_, run_underlying ht, sizeOf, typeInfo, hi, Builtin.lenOf, Builtin.firstCells, hnc, storeCells]

/-- What slices a slice of slices has. -/
theorem Bss.vals {w : World} {a : Option Addr} {n c : Nat} {ls : List (List UInt8)} (h : Bss w a n c ls) :
    ∃ vs : List Value, vs.length = n ∧ (∀ i, i < n → ∃ b o, a = some ⟨b, o, none⟩ ∧ w.cell? ⟨b, o + i, none⟩ = vs[i]?) ∧ ∀ i, i < n → ∃ p m q, vs[i]? = some (.slice p m q) ∧ Bs w p m q (ls.getD i []) := by
  have hex : ∀ i, i < n → ∃ v : Value, ∃ b o p m q, a = some ⟨b, o, none⟩ ∧ w.cell? ⟨b, o + i, none⟩ = some v ∧ v = .slice p m q ∧ Bs w p m q (ls.getD i []) := fun i hi => by
    obtain ⟨b, o, p, m, q, ha, hc, hs⟩ := h.2.2.2 i hi
    exact ⟨_, b, o, p, m, q, ha, hc, rfl, hs⟩
  obtain ⟨f, hf⟩ := Deep.choose_lt hex
  refine ⟨(List.range n).map f, by simp, fun i hi => ?_, fun i hi => ?_⟩
  · obtain ⟨b, o, p, m, q, ha, hc, _, _⟩ := hf i hi
    exact ⟨b, o, ha, by rw [hc]; simp [hi]⟩
  · obtain ⟨b, o, p, m, q, _, _, hv, hs⟩ := hf i hi
    exact ⟨p, m, q, by rw [← hv]; simp [hi], hs⟩

/-- 'append(out, src...)', out the call's own, src whatever slice of slices. -/
theorem wpList_vapp {ops : Array Oper} {rest : List Oper} {o : Oper} {a : Act} {Q : Exit → Act → World → Prop} (w : World) (hgd : o.guard = none) (s x : Operand)
    (ho : o.op = Op.call { callee := Callee.builtin Builtin.append, args := #[s, x], argTypes := #[22, 22] }) (base : Nat) (v : Value) (vs : List Value) (hs : a.eval s = v) (hown : OwnV w base v vs)
    (ao : Option Addr) (m c : Nat) (us : List Value) (hx : a.eval x = .slice ao m c) (hl : us.length = m) (hc : ∀ i, i < m → ∃ b o, ao = some ⟨b, o, none⟩ ∧ w.cell? ⟨b, o + i, none⟩ = us[i]?) (h1 : ∀ u ∈ us, u.oneCell' = true)
    (hz : vs.length + us.length ≤ 1000000) (hbase : base ≤ w.heap.size)
    (h : ∀ v' w', OwnV w' base v' (vs ++ us) → w.grownBy w' v.ownBlock → wpList Try.prog ops Q rest (a.put o.dst v') w') : wpList Try.prog ops Q (o :: rest) a w := by
  obtain ⟨i0, hi, hz0, hz1, hz2⟩ := info_parts infoS
  cases ao with
  | none =>
    have e : m = 0 := by
      by_cases e : m = 0
      · exact e
      · obtain ⟨b, o, ha, _⟩ := hc 0 (by omega)
        simp at ha
    subst e
    have e : us = [] := List.length_eq_zero_iff.1 hl
    subst e
    refine wpList_plain hgd fun K hK => ?_
    have hrun := run_append_none0 (P := Try.prog) (w := w) base 22 o.type 31 i0 1 Try.underlying22 hi v _ c _ hown
    unfold Oper.wp
    simp [execOp, ho, resolve, invoke, builtin, hs, hx, hrun, Result.andThen]
    refine hK _ _ (h v w ?_ ⟨rfl, rfl, rfl, Nat.le_refl _, fun _ _ _ => rfl⟩)
    rw [List.append_nil]
    exact hown
  | some ad =>
    refine wpList_append_own w hgd s x 22 ho base 31 i0 (.slice none 0 0) 1 24 Try.underlying22 hi hz0 hz1 hz2 rfl (by decide) v _ _ hs hown ad m c us hx (by omega) ?_ h1 (by unfold maxLen; omega) (by omega) hbase ?_
    · intro j u hj
      have hjl : j < us.length := (List.getElem?_eq_some_iff.1 hj).1
      obtain ⟨b, o, ha, hcell⟩ := hc j (by omega)
      simp only [Option.some.injEq] at ha
      subst ha
      rw [Addr.add_mid, hcell, hj]
    · intro v' w' ho' hg _
      refine h v' w' ?_ hg
      unfold OwnV
      rw [List.length_append, hl]
      exact ho'

/-- 'make([][]byte, 0, n)'. -/
theorem wpList_vmk0 {ops : Array Oper} {rest : List Oper} {o : Oper} {a : Act} {Q : Exit → Act → World → Prop} (w : World) (hgd : o.guard = none) (l c : Operand)
    (ho : o.op = Op.makeSlice 22 l c) (base : Nat) (C : Int) (hl : a.eval l = .int .i64 0) (hc : a.eval c = .int .i64 C) (h0 : 0 ≤ C) (hz : C ≤ 1000000) (hbase : base ≤ w.heap.size)
    (h : ∀ v w', OwnV w' base v [] → Below base w w' → wpList Try.prog ops Q rest (a.put o.dst v) w') : wpList Try.prog ops Q (o :: rest) a w := by
  obtain ⟨i0, hi, hz0, hz1, hz2⟩ := info_parts infoS
  refine wpList_make_own w hgd l c 22 ho base 31 i0 (.slice none 0 0) 1 Try.underlying22 hi hz0 hz1 .i64 .i64 C C.toNat hl hc (by omega) (by rw [hz2]; omega) (by unfold maxLen; omega) hbase ?_
  intro w' ho' hg
  exact h _ w' ho' ((Below.refl _ _).grown hg hbase (by simp))

/-- append of slices as one step of a region that draws its order. -/
theorem step_vapp {ops : Array Oper} {o : Oper} {a : Act} {w : World} {K : Act → World → Prop} {Q : Exit → Act → World → Prop} {E : Prop} (hgd : o.guard = none) (s x : Operand)
    (ho : o.op = Op.call { callee := Callee.builtin Builtin.append, args := #[s, x], argTypes := #[22, 22] }) (base : Nat) (v : Value) (vs : List Value) (hs : a.eval s = v) (hown : OwnV w base v vs)
    (b o' m c : Nat) (us : List Value) (hx : a.eval x = .slice (some ⟨b, o', none⟩) m c) (hl : us.length = m) (hc : ∀ i, i < m → w.cell? ⟨b, o' + i, none⟩ = us[i]?) (h1 : ∀ u ∈ us, u.oneCell' = true)
    (hz : vs.length + us.length ≤ 1000000) (hbase : base ≤ w.heap.size)
    (h : ∀ v' w', OwnV w' base v' (vs ++ us) → w.grownBy w' v.ownBlock → K (a.put o.dst v') w') : if Region.wanted o (yielded ops a.tmps) = true then Oper.wp Try.prog o a w K Q else E := by
  have hw : Region.wanted o (yielded ops a.tmps) = true := by simp [Region.wanted, hgd]
  rw [if_pos hw]
  obtain ⟨i0, hi, hz0, hz1, hz2⟩ := info_parts infoS
  refine wp_append_own w s x 22 ho base 31 i0 (.slice none 0 0) 1 24 Try.underlying22 hi hz0 hz1 hz2 rfl (by decide) v _ _ hs hown ⟨b, o', none⟩ m c us hx (by omega) ?_ h1 (by unfold maxLen; omega) (by omega) hbase ?_
  · intro j u hj
    have hjl : j < us.length := (List.getElem?_eq_some_iff.1 hj).1
    rw [Addr.add_mid, hc j (by omega), hj]
  · intro v' w' ho' hg _
    refine h v' w' ?_ hg
    unfold OwnV
    rw [List.length_append, hl]
    exact ho'

/-- What is owned, as a slice of slices. -/
theorem OwnV.bss {w : World} {base : Nat} {v : Value} {vs : List Value} {ls : List (List UInt8)} (h : OwnV w base v vs) (hl : ls.length = vs.length) (hv : ∀ i, i < vs.length → ∃ p m q, vs[i]? = some (.slice p m q) ∧ Bs w p m q (ls.getD i [])) :
    ∃ a c, v = .slice a vs.length c ∧ Bss w a vs.length c ls := by
  have h' := h
  obtain ⟨h1, h2⟩ := h
  rcases h2 with ⟨rfl, h0⟩ | ⟨g, cap, cur, rfl, hg, hh, hn, hm, r⟩
  · rw [h0]
    exact ⟨none, 0, rfl, by omega, Nat.le_refl _, Nat.zero_le _, fun i hi => by omega⟩
  · refine ⟨_, cap, rfl, hl, hn, hm, fun i hi => ?_⟩
    obtain ⟨p, m, q, e, hb⟩ := hv i hi
    refine ⟨g, 0, p, m, q, rfl, ?_, hb⟩
    have := World.ownsRow.cellAt h' i (by omega)
    rw [e] at this
    simpa using this

theorem one_cell (w : World) (v : Value) (t : TypeId) (i : Nat) (hi : i < 1) : ∃ b o, (some ⟨w.heap.size, 0, none⟩ : Option Addr) = some ⟨b, o, none⟩ ∧ (w.alloc (.cells #[v] t)).cell? ⟨b, o + i, none⟩ = ([v] : List Value)[i]? := by
  obtain rfl : i = 0 := by omega
  exact ⟨_, _, rfl, by rw [cell_new]; rfl⟩
theorem one_one {a : Option Addr} {m c : Nat} (u : Value) (h : u ∈ ([.slice a m c] : List Value)) : u.oneCell' = true := by
  simp only [List.mem_singleton] at h
  subst h
  rfl


end Go.Proofs.Ytphkkbkfioaikaa
