/-
  3 texts in one. No statement of the seat is proved here.
-/
import Derived.Test.YtbifikeecmaakaaG9
import Derived.Deep.MidRow
import Derived.Deep.Matrix
/-
  What was made last, and what outlasts it. No condition; no statement of the seat is proved here.
-/
namespace Go.Proofs.Ytbifikeecmaakaa
open Go.RowKit


theorem Own.but {w w' : World} {base r : Nat} {v : Value} {l : List UInt8} (h : Own w base v l) (hg : w.grownBy w' (some r)) (hr : r < base) : Own w' base v l := by
  refine World.ownsRow.kept h hg (Or.inr ?_)
  intro e
  have := (World.ownsRow.lt h r e).1
  omega

theorem Bs.marked (w : World) (l : List UInt8) (arr : Array Value) (f : Nat × Nat) (h : arr.toList = cs l) (hm : l.length ≤ 1000000) : Bs (w.alloc (.cells arr 5 f)) (some ⟨w.heap.size, 0, none⟩) l.length l.length l := by
  refine ⟨rfl, Nat.le_refl _, by unfold maxLen; omega, by simp, fun i hi => ⟨w.heap.size, 0, rfl, ?_⟩⟩
  rw [Nat.zero_add, cell_new, ← Array.getElem?_toList, h, cs_get hi]
end Go.Proofs.Ytbifikeecmaakaa

/-
  Rows of slices of bytes that a call made itself ('OwnV'), and the laws on append and make over them. No condition; no statement of the seat is proved here.
-/
namespace Go.Proofs.Ytbifikeecmaakaa
open Go.RowKit

/-- The value v is a slice of the values vs (slices of bytes), in memory of the call's own from block 'base' on. -/
def OwnV (w : World) (base : Nat) (v : Value) (vs : List Value) : Prop := w.ownsRow base 22 1 v vs.length vs

theorem infoS : (Try.prog.info? 22).map (fun i => (i.zero, i.size, i.bytes)) = some (some (.slice none 0 0), 1, 24) := by kernel_rfl

theorem OwnV.below {w w' : World} {base B : Nat} {v : Value} {vs : List Value} (h : OwnV w base v vs) (hb : Below B w w') (hB : w.heap.size ≤ B) : OwnV w' base v vs := by
  obtain ⟨h1, h2⟩ := h
  refine ⟨h1, ?_⟩
  rcases h2 with h2 | ⟨g, cap, cur, hv, hg, hh, r⟩
  · exact Or.inl h2
  · refine Or.inr ⟨g, cap, cur, hv, hg, ?_, r⟩
    have hlt : g < w.heap.size := by
      by_cases e : g < w.heap.size
      · exact e
      · rw [Array.getElem?_eq_none (by omega)] at hh; simp at hh
    rw [hb.block g (by omega)]
    exact hh
theorem OwnV.size {w : World} {base : Nat} {v : Value} {vs : List Value} (h : OwnV w base v vs) : ∀ k, v.ownBlock = some k → base ≤ k := fun k hk => (World.ownsRow.lt h k hk).1
theorem OwnV.lt {w : World} {base : Nat} {v : Value} {vs : List Value} (h : OwnV w base v vs) : ∀ k, v.ownBlock = some k → k < w.heap.size := fun k hk => (World.ownsRow.lt h k hk).2

theorem run_append_none0 {P : Program} {w : World} (base : Nat) (t ty e : TypeId) (i : TypeInfo) (size : Nat) (ht : P.underlying t = some (.slice e)) (hi : P.info? e = some i)
    (v : Value) (n c : Nat) (xs : List Value) (hown : w.ownsRow base e size v n xs) :
    (Builtin.append_ #[t, t] ty #[v, .slice none 0 c]).run P w = .ok v w := by
  rcases hown.2 with ⟨rfl, rfl⟩ | ⟨g, cap, cur, rfl, _, _, hnc, _⟩
  · simp [Builtin.append_, run_underlying ht, sizeOf, typeInfo, hi, Builtin.lenOf, Builtin.firstCells]
  · simp [Builtin.append_, run_underlying ht, sizeOf, typeInfo, hi, Builtin.lenOf, Builtin.firstCells, hnc, storeCells]

/-- What slices a slice of slices has. -/
theorem Bss.vals {w : World} {a : Option Addr} {n c : Nat} {ls : List (List UInt8)} (h : Bss w a n c ls) :
    ∃ vs : List Value, vs.length = n ∧ (∀ i, i < n → ∃ b o, a = some ⟨b, o, none⟩ ∧ w.cell? ⟨b, o + i, none⟩ = vs[i]?) ∧ ∀ i, i < n → ∃ p m q, vs[i]? = some (.slice p m q) ∧ Bs w p m q (ls.getD i []) := by
  have hex : ∀ i, i < n → ∃ v : Value, ∃ b o p m q, a = some ⟨b, o, none⟩ ∧ w.cell? ⟨b, o + i, none⟩ = some v ∧ v = .slice p m q ∧ Bs w p m q (ls.getD i []) := fun i hi => by
    obtain ⟨b, o, p, m, q, ha, hc, hs⟩ := h.2.2.2 i hi
    exact ⟨_, b, o, p, m, q, ha, hc, rfl, hs⟩
  obtain ⟨f, hf⟩ := Deep.choose_lt hex
  refine ⟨(List.range n).map f, by simp, fun i hi => ?_, fun i hi => ?_⟩
  · obtain ⟨b, o, p, m, q, ha, hc, _, _⟩ := hf i hi
    exact ⟨b, o, ha, by rw [hc]; simp [hi]⟩
  · obtain ⟨b, o, p, m, q, _, _, hv, hs⟩ := hf i hi
    exact ⟨p, m, q, by rw [← hv]; simp [hi], hs⟩

/-- 'append(out, src...)', out the call's own, src whatever slice of slices. -/
theorem wpList_vapp {ops : Array Oper} {rest : List Oper} {o : Oper} {a : Act} {Q : Exit → Act → World → Prop} (w : World) (hgd : o.guard = none) (s x : Operand)
    (ho : o.op = Op.call { callee := Callee.builtin Builtin.append, args := #[s, x], argTypes := #[49, 49] }) (base : Nat) (v : Value) (vs : List Value) (hs : a.eval s = v) (hown : OwnV w base v vs)
    (ao : Option Addr) (m c : Nat) (us : List Value) (hx : a.eval x = .slice ao m c) (hl : us.length = m) (hc : ∀ i, i < m → ∃ b o, ao = some ⟨b, o, none⟩ ∧ w.cell? ⟨b, o + i, none⟩ = us[i]?) (h1 : ∀ u ∈ us, u.oneCell' = true)
    (hz : vs.length + us.length ≤ 1000000) (hbase : base ≤ w.heap.size)
    (h : ∀ v' w', OwnV w' base v' (vs ++ us) → w.grownBy w' v.ownBlock → wpList Try.prog ops Q rest (a.put o.dst v') w') : wpList Try.prog ops Q (o :: rest) a w := by
  obtain ⟨i0, hi, hz0, hz1, hz2⟩ := info_parts infoS
  cases ao with
  | none =>
    have e : m = 0 := by
      by_cases e : m = 0
      · exact e
      · obtain ⟨b, o, ha, _⟩ := hc 0 (by omega)
        simp at ha
    subst e
    have e : us = [] := List.length_eq_zero_iff.1 hl
    subst e
    refine wpList_plain hgd fun K hK => ?_
    have hrun := run_append_none0 (P := Try.prog) (w := w) base 49 o.type 22 i0 1 Try.underlying49 hi v _ c _ hown
    unfold Oper.wp
    simp [execOp, ho, resolve, invoke, builtin, hs, hx, hrun, Result.andThen]
    refine hK _ _ (h v w ?_ ⟨rfl, rfl, rfl, Nat.le_refl _, fun _ _ _ => rfl⟩)
    rw [List.append_nil]
    exact hown
  | some ad =>
    refine wpList_append_own w hgd s x 49 ho base 22 i0 (.slice none 0 0) 1 24 Try.underlying49 hi hz0 hz1 hz2 rfl (by decide) v _ _ hs hown ad m c us hx (by omega) ?_ h1 (by unfold maxLen; omega) (by omega) hbase ?_
    · intro j u hj
      have hjl : j < us.length := (List.getElem?_eq_some_iff.1 hj).1
      obtain ⟨b, o, ha, hcell⟩ := hc j (by omega)
      simp only [Option.some.injEq] at ha
      subst ha
      rw [Addr.add_mid, hcell, hj]
    · intro v' w' ho' hg _
      refine h v' w' ?_ hg
      unfold OwnV
      rw [List.length_append, hl]
      exact ho'

/-- 'make([][]byte, 0, n)'. -/
theorem wpList_vmk0 {ops : Array Oper} {rest : List Oper} {o : Oper} {a : Act} {Q : Exit → Act → World → Prop} (w : World) (hgd : o.guard = none) (l c : Operand)
    (ho : o.op = Op.makeSlice 49 l c) (base : Nat) (C : Int) (hl : a.eval l = .int .i64 0) (hc : a.eval c = .int .i64 C) (h0 : 0 ≤ C) (hz : C ≤ 1000000) (hbase : base ≤ w.heap.size)
    (h : ∀ v w', OwnV w' base v [] → Below base w w' → wpList Try.prog ops Q rest (a.put o.dst v) w') : wpList Try.prog ops Q (o :: rest) a w := by
  obtain ⟨i0, hi, hz0, hz1, hz2⟩ := info_parts infoS
  refine wpList_make_own w hgd l c 49 ho base 22 i0 (.slice none 0 0) 1 Try.underlying49 hi hz0 hz1 .i64 .i64 C C.toNat hl hc (by omega) (by rw [hz2]; omega) (by unfold maxLen; omega) hbase ?_
  intro w' ho' hg
  exact h _ w' ho' ((Below.refl _ _).grown hg hbase (by simp))

/-- append of slices as one step of a region that draws its order. -/
theorem step_vapp {ops : Array Oper} {o : Oper} {a : Act} {w : World} {K : Act → World → Prop} {Q : Exit → Act → World → Prop} {E : Prop} (hgd : o.guard = none) (s x : Operand)
    (ho : o.op = Op.call { callee := Callee.builtin Builtin.append, args := #[s, x], argTypes := #[49, 49] }) (base : Nat) (v : Value) (vs : List Value) (hs : a.eval s = v) (hown : OwnV w base v vs)
    (b o' m c : Nat) (us : List Value) (hx : a.eval x = .slice (some ⟨b, o', none⟩) m c) (hl : us.length = m) (hc : ∀ i, i < m → w.cell? ⟨b, o' + i, none⟩ = us[i]?) (h1 : ∀ u ∈ us, u.oneCell' = true)
    (hz : vs.length + us.length ≤ 1000000) (hbase : base ≤ w.heap.size)
    (h : ∀ v' w', OwnV w' base v' (vs ++ us) → w.grownBy w' v.ownBlock → K (a.put o.dst v') w') : if Region.wanted o (yielded ops a.tmps) = true then Oper.wp Try.prog o a w K Q else E := by
  have hw : Region.wanted o (yielded ops a.tmps) = true := by simp [Region.wanted, hgd]
  rw [if_pos hw]
  obtain ⟨i0, hi, hz0, hz1, hz2⟩ := info_parts infoS
  refine wp_append_own w s x 49 ho base 22 i0 (.slice none 0 0) 1 24 Try.underlying49 hi hz0 hz1 hz2 rfl (by decide) v _ _ hs hown ⟨b, o', none⟩ m c us hx (by omega) ?_ h1 (by unfold maxLen; omega) (by omega) hbase ?_
  · intro j u hj
    have hjl : j < us.length := (List.getElem?_eq_some_iff.1 hj).1
    rw [Addr.add_mid, hc j (by omega), hj]
  · intro v' w' ho' hg _
    refine h v' w' ?_ hg
    unfold OwnV
    rw [List.length_append, hl]
    exact ho'

/-- What is owned, as a slice of slices. -/
theorem OwnV.bss {w : World} {base : Nat} {v : Value} {vs : List Value} {ls : List (List UInt8)} (h : OwnV w base v vs) (hl : ls.length = vs.length) (hv : ∀ i, i < vs.length → ∃ p m q, vs[i]? = some (.slice p m q) ∧ Bs w p m q (ls.getD i [])) :
    ∃ a c, v = .slice a vs.length c ∧ Bss w a vs.length c ls := by
  have h' := h
  obtain ⟨h1, h2⟩ := h
  rcases h2 with ⟨rfl, h0⟩ | ⟨g, cap, cur, rfl, hg, hh, hn, hm, r⟩
  · rw [h0]
    exact ⟨none, 0, rfl, by omega, Nat.le_refl _, Nat.zero_le _, fun i hi => by omega⟩
  · refine ⟨_, cap, rfl, hl, hn, hm, fun i hi => ?_⟩
    obtain ⟨p, m, q, e, hb⟩ := hv i hi
    refine ⟨g, 0, p, m, q, rfl, ?_, hb⟩
    have := World.ownsRow.cellAt h' i (by omega)
    rw [e] at this
    simpa using this

theorem one_cell (w : World) (v : Value) (t : TypeId) (i : Nat) (hi : i < 1) : ∃ b o, (some ⟨w.heap.size, 0, none⟩ : Option Addr) = some ⟨b, o, none⟩ ∧ (w.alloc (.cells #[v] t)).cell? ⟨b, o + i, none⟩ = ([v] : List Value)[i]? := by
  obtain rfl : i = 0 := by omega
  exact ⟨_, _, rfl, by rw [cell_new]; rfl⟩
theorem one_one {a : Option Addr} {m c : Nat} (u : Value) (h : u ∈ ([.slice a m c] : List Value)) : u.oneCell' = true := by
  simp only [List.mem_singleton] at h
  subst h
  rfl


end Go.Proofs.Ytbifikeecmaakaa

/-
  Plain mathematics of layer 8: what power is, and what each call makes of it; and what a call leaves that writes some blocks alone ('Kp'). No condition; nothing of the program.
-/
namespace Go.Proofs.Ytbifikeecmaakaa
open Go.RowKit

/-- Of all that lay in w, the blocks of F alone may be others in w'. -/
structure Kp (F : Nat → Prop) (w w' : World) : Prop where
  os : w'.os = w.os
  tape : w'.tape = w.tape
  output : w'.output = w.output
  size : w.heap.size ≤ w'.heap.size
  block : ∀ k, k < w.heap.size → ¬ F k → w'.heap[k]? = w.heap[k]?

theorem Kp.refl (F : Nat → Prop) (w : World) : Kp F w w := ⟨rfl, rfl, rfl, Nat.le_refl _, fun _ _ _ => rfl⟩
theorem Kp.trans {F : Nat → Prop} {a b c : World} (h : Kp F a b) (k : Kp F b c) : Kp F a c :=
  ⟨k.os.trans h.os, k.tape.trans h.tape, k.output.trans h.output, Nat.le_trans h.size k.size, fun i hi hn => (k.block i (Nat.lt_of_lt_of_le hi h.size) hn).trans (h.block i hi hn)⟩
theorem Kp.mono {F G : Nat → Prop} {w w' : World} (h : Kp F w w') (hG : ∀ k, k < w.heap.size → F k → G k) : Kp G w w' :=
  ⟨h.os, h.tape, h.output, h.size, fun k hk hn => h.block k hk (fun hf => hn (hG k hk hf))⟩
theorem Kp.of_below {F : Nat → Prop} {w w' : World} (h : Below w.heap.size w w') : Kp F w w' := ⟨h.os, h.tape, h.output, h.size, fun k hk _ => h.block k hk⟩
theorem Kp.below {F : Nat → Prop} {w w' : World} (h : Kp F w w') {B : Nat} (hB : B ≤ w.heap.size) (hF : ∀ k, k < B → ¬ F k) : Below B w w' := ⟨h.os, h.tape, h.output, h.size, fun k hk => h.block k (by omega) (hF k hk)⟩
theorem Kp.of_grown {w w' : World} {r : Nat} (h : w.grownBy w' (some r)) : Kp (fun k => k = r) w w' := ⟨h.os, h.tape, h.output, h.size, fun k hk hn => h.block k hk (fun e => hn (Option.some.inj e))⟩
theorem Kp.grown {w w' : World} {r : Nat} (h : Kp (fun k => k = r) w w') : w.grownBy w' (some r) := ⟨h.os, h.tape, h.output, h.size, fun k hk hn => h.block k hk (fun e => hn (by rw [e]))⟩
theorem Kp.alloc {F : Nat → Prop} {a w : World} (h : Kp F a w) (o : Obj) : Kp F a (w.alloc o) := h.trans (Kp.of_below (below_alloc w o))
theorem Kp.drew {F : Nat → Prop} {a w : World} (h : Kp F a w) (n : Nat) : Kp F a (w.drewN n) := h.trans (Kp.of_below (below_drewN' w n))
theorem Kp.blk {F : Nat → Prop} {w w' : World} (h : Kp F w w') {g : Nat} {vs : List Value} {t : TypeId} (hb : Blk w g vs t) (hg : ¬ F g) : Blk w' g vs t := by
  unfold Blk
  rw [h.block g hb.lt hg]
  exact hb
theorem Kp.setC {F : Nat → Prop} {w : World} {g : Nat} (hg : F g) (i : Nat) (v : Value) : Kp F w (w.setCell ⟨g, i, none⟩ v) :=
  (Kp.of_grown (but_set w g i v)).mono fun k _ e => by rw [e]; exact hg
/-- What lay in w lies in w' too, but for F: all that lay below B, none of which is F's. -/
theorem below_kp {B : Nat} {F : Nat → Prop} {w w1 w' : World} (h : Below B w w1) (k : Kp F w1 w') (hB : B ≤ w1.heap.size) (hF : ∀ k, k < B → ¬ F k) : Below B w w' := h.trans (k.below hB hF)

/-- Power: how many steps there were; behind how many more it goes (below 0: it does not); is what is atomic done then; has it gone? -/
structure PowS where
  steps : Nat
  fuse : Int
  done : Bool
  down : Bool
def PowS.new : PowS := ⟨0, -1, false, false⟩
def PowS.set (S : PowS) (n : Int) (d : Bool) : PowS := ⟨S.steps, if n < 0 then -1 else n, d, S.down⟩
def PowS.ok (S : PowS) : Bool := !S.down && !decide (S.fuse = 0)
def PowS.does (S : PowS) : Bool := !S.down && (!decide (S.fuse = 0) || S.done)
def PowS.next (S : PowS) : PowS := if S.down then S else if S.fuse < 0 then ⟨S.steps + 1, S.fuse, S.done, false⟩ else ⟨S.steps + 1, S.fuse - 1, S.done, decide (S.fuse = 0)⟩
def PowS.back (S : PowS) : PowS := ⟨S.steps, -1, false, false⟩
/-- Numbers that are numbers of the language, and steps that are not too many. -/
def PowS.fit (S : PowS) (m : Nat) : Prop := S.steps ≤ m ∧ -1 ≤ S.fuse ∧ S.fuse ≤ 9223372036854775807
theorem PowS.fit_new : PowS.new.fit 0 := ⟨Nat.le_refl _, by decide, by decide⟩
theorem PowS.fit_set {S : PowS} {m : Nat} (h : S.fit m) {n : Int} (hn : n ≤ 9223372036854775807) (d : Bool) : (S.set n d).fit m := by
  obtain ⟨h1, h2, h3⟩ := h
  unfold PowS.set PowS.fit
  refine ⟨h1, ?_, ?_⟩
  · dsimp only; split <;> omega
  · dsimp only; split <;> omega
theorem PowS.fit_next {S : PowS} {m : Nat} (h : S.fit m) : S.next.fit (m + 1) := by
  obtain ⟨h1, h2, h3⟩ := h
  unfold PowS.next PowS.fit
  split
  · exact ⟨by omega, h2, h3⟩
  · split
    · exact ⟨by dsimp only; omega, h2, h3⟩
    · exact ⟨by dsimp only; omega, by dsimp only; omega, by dsimp only; omega⟩
theorem PowS.fit_back {S : PowS} {m : Nat} (h : S.fit m) : S.back.fit m := ⟨h.1, by show (-1 : Int) ≤ -1; omega, by show (-1 : Int) ≤ _; omega⟩
theorem PowS.fit_mono {S : PowS} {m n : Nat} (h : S.fit m) (hm : m ≤ n) : S.fit n := ⟨by have := h.1; omega, h.2⟩
/-- As the reference's value. -/
def pv (S : PowS) : Value := .agg #[.int .i64 (S.steps : Int), .int .i64 S.fuse, .bool S.done, .bool S.down]
/-- Its cells. -/
def pc (S : PowS) : List Value := [.int .i64 (S.steps : Int), .int .i64 S.fuse, .bool S.done, .bool S.down]

end Go.Proofs.Ytbifikeecmaakaa
