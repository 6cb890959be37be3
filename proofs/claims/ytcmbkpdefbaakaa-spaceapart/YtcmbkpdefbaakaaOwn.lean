/-
  Rows of bytes that a call made itself ('Own'), and the laws on append and make over them. No condition; no statement of the seat is proved here.
-/
import Derived.Test.YtcmbkpdefbaakaaPlain
import Derived.Laws.AppendOwnNone
namespace Go.Proofs.Ytcmbkpdefbaakaa
open Go.RowKit

/-- Bytes as cells. -/
def cs (l : List UInt8) : List Value := l.map fun x => .int .u8 (x.toNat : Int)

/-- The value v is a slice of the bytes l, in memory of the call's own from block 'base' on. -/
def Own (w : World) (base : Nat) (v : Value) (l : List UInt8) : Prop := w.ownsRow base 5 1 v l.length (cs l)

theorem info5 : (Try.prog.info? 5).map (fun i => (i.zero, i.size, i.bytes)) = some (some (.int .u8 0), 1, 1) := by kernel_rfl

theorem cs_length (l : List UInt8) : (cs l).length = l.length := by simp [cs]
theorem cs_append (l m : List UInt8) : cs (l ++ m) = cs l ++ cs m := by simp [cs]
theorem cs_get {l : List UInt8} {i : Nat} (h : i < l.length) : (cs l)[i]? = some (.int .u8 (bt l i)) := by
  simp [cs, bt, h, List.getD_eq_getElem?_getD]
theorem cs_one {l : List UInt8} (u : Value) (h : u ∈ cs l) : u.oneCell' = true := by
  simp only [cs, List.mem_map] at h
  obtain ⟨x, _, rfl⟩ := h
  rfl

theorem Own.nil (w : World) (base : Nat) : Own w base (.slice none 0 0) [] := World.ownsRow_nil _ _ _ _

theorem Own.mono {w : World} {base base' : Nat} {v : Value} {l : List UInt8} (h : Own w base v l) (hb : base' ≤ base) : Own w base' v l := by
  obtain ⟨h1, h2⟩ := h
  refine ⟨h1, ?_⟩
  rcases h2 with h2 | ⟨g, cap, cur, hv, hg, r⟩
  · exact Or.inl h2
  · exact Or.inr ⟨g, cap, cur, hv, by omega, r⟩

theorem Own.below {w w' : World} {base B : Nat} {v : Value} {l : List UInt8} (h : Own w base v l) (hb : Below B w w') (hB : w.heap.size ≤ B) : Own w' base v l := by
  obtain ⟨h1, h2⟩ := h
  refine ⟨h1, ?_⟩
  rcases h2 with h2 | ⟨g, cap, cur, hv, hg, hh, r⟩
  · exact Or.inl h2
  · refine Or.inr ⟨g, cap, cur, hv, hg, ?_, r⟩
    have hlt : g < w.heap.size := by
      by_cases e : g < w.heap.size
      · exact e
      · rw [Array.getElem?_eq_none (by omega)] at hh; simp at hh
    rw [hb.block g (by omega)]
    exact hh

theorem Own.size {w : World} {base : Nat} {v : Value} {l : List UInt8} (h : Own w base v l) : ∀ k, v.ownBlock = some k → base ≤ k := fun k hk => (World.ownsRow.lt h k hk).1

/-- What is owned is a slice of bytes. -/
theorem Own.bs {w : World} {base : Nat} {v : Value} {l : List UInt8} (h : Own w base v l) : ∃ a c, v = .slice a l.length c ∧ Bs w a l.length c l := by
  have h' := h
  obtain ⟨h1, h2⟩ := h
  rcases h2 with ⟨rfl, h0⟩ | ⟨g, cap, cur, rfl, hg, hh, hn, hm, r⟩
  · have e : l = [] := List.length_eq_zero_iff.1 h0
    subst e
    exact ⟨none, 0, rfl, Bs.nil w⟩
  · refine ⟨_, cap, rfl, rfl, hn, hm, by simp, fun i hi => ⟨g, 0, rfl, ?_⟩⟩
    have := World.ownsRow.cellAt h' i (by omega)
    rw [cs_get hi] at this
    simpa using this

theorem Bs.news {w : World} {ad : Addr} {m c : Nat} {l : List UInt8} (h : Bs w (some ad) m c l) (j : Nat) (u : Value) (hj : (cs l)[j]? = some u) : w.cell? (ad.add j) = some u := by
  have hl := h.len
  by_cases hjl : j < l.length
  · rw [cs_get hjl] at hj
    obtain ⟨b, o, ha, hc⟩ := h.2.2.2.2 j (by omega)
    simp at ha
    subst ha
    have e : (Addr.add ⟨b, o, none⟩ j) = ⟨b, o + j, none⟩ := by
      unfold Addr.add
      split
      · subst_vars; rfl
      · rfl
    rw [e, hc]
    exact hj
  · rw [List.getElem?_eq_none (by rw [cs_length]; omega)] at hj
    simp at hj

/-- 'append(out, src...)', out the call's own, src whatever slice of bytes. -/
theorem wpList_app {ops : Array Oper} {rest : List Oper} {o : Oper} {a : Act} {Q : Exit → Act → World → Prop} (w : World) (hgd : o.guard = none) (s x : Operand)
    (ho : o.op = Op.call { callee := Callee.builtin Builtin.append, args := #[s, x], argTypes := #[46, 46] }) (base : Nat) (v : Value) (l : List UInt8) (hs : a.eval s = v) (hown : Own w base v l)
    (ao : Option Addr) (m c : Nat) (news : List UInt8) (hx : a.eval x = .slice ao m c) (hb : Bs w ao m c news) (hz : l.length + news.length ≤ 1000000000) (hbase : base ≤ w.heap.size)
    (h : ∀ v' w', Own w' base v' (l ++ news) → Below base w w' → wpList Try.prog ops Q rest (a.put o.dst v') w') : wpList Try.prog ops Q (o :: rest) a w := by
  obtain ⟨i0, hi, hz0, hz1, hz2⟩ := info_parts info5
  have hl := hb.len
  cases ao with
  | none =>
    have hc := hb.2.2.2.1 rfl
    have hcap := hb.cap
    have e : news = [] := List.length_eq_zero_iff.1 (by omega)
    subst e
    obtain rfl : m = 0 := by omega
    subst hc
    refine wpList_append_own_none hgd s x 46 ho base 5 i0 1 Try.underlying46 hi v _ _ hs hown hx ?_
    refine h v w ?_ (Below.refl _ _)
    rw [List.append_nil]
    exact hown
  | some ad =>
    refine wpList_append_own w hgd s x 46 ho base 5 i0 (.int .u8 0) 1 1 Try.underlying46 hi hz0 hz1 hz2 rfl (by decide) v _ _ hs hown ad m c (cs news) hx (by rw [cs_length]; omega) hb.news cs_one (by unfold maxLen; omega) (by omega) hbase ?_
    intro v' w' ho' hg _
    refine h v' w' ?_ ((Below.refl _ _).grown hg hbase (Own.size hown))
    unfold Own
    rw [cs_append, List.length_append, hl]
    exact ho'

/-- 'make([]byte, 0, n)'. -/
theorem wpList_mk0 {ops : Array Oper} {rest : List Oper} {o : Oper} {a : Act} {Q : Exit → Act → World → Prop} (w : World) (hgd : o.guard = none) (l c : Operand)
    (ho : o.op = Op.makeSlice 46 l c) (base : Nat) (C : Int) (hl : a.eval l = .int .i64 0) (hc : a.eval c = .int .i64 C) (h0 : 0 ≤ C) (hz : C ≤ 1000000000) (hbase : base ≤ w.heap.size)
    (h : ∀ v w', Own w' base v [] → Below base w w' → wpList Try.prog ops Q rest (a.put o.dst v) w') : wpList Try.prog ops Q (o :: rest) a w := by
  obtain ⟨i0, hi, hz0, hz1, hz2⟩ := info_parts info5
  refine wpList_make_own w hgd l c 46 ho base 5 i0 (.int .u8 0) 1 Try.underlying46 hi hz0 hz1 .i64 .i64 C C.toNat hl hc (by omega) (by rw [hz2]; omega) (by unfold maxLen; omega) hbase ?_
  intro w' ho' hg
  exact h _ w' ho' ((Below.refl _ _).grown hg hbase (by simp))

/-- 'make([]byte, n)'. -/
theorem wpList_mkn {ops : Array Oper} {rest : List Oper} {o : Oper} {a : Act} {Q : Exit → Act → World → Prop} (w : World) (hgd : o.guard = none) (l c : Operand)
    (ho : o.op = Op.makeSlice 46 l c) (base n : Nat) (C : Int) (hl : a.eval l = .int .i64 C) (hc : a.eval c = .int .i64 C) (hC : C = n) (hz : n ≤ 2147483647) (hbase : base ≤ w.heap.size)
    (h : ∀ g w', base ≤ g → g < w'.heap.size → Own w' base (.slice (some ⟨g, 0, none⟩) n n) (List.replicate n 0) → Below base w w' → wpList Try.prog ops Q rest (a.put o.dst (.slice (some ⟨g, 0, none⟩) n n)) w') : wpList Try.prog ops Q (o :: rest) a w := by
  obtain ⟨i0, hi, hz0, hz1, hz2⟩ := info_parts info5
  refine wpList_make_full w hgd l c 46 ho base 5 i0 (.int .u8 0) 1 Try.underlying46 hi hz0 hz1 .i64 .i64 C C n hl hc hC hC (by rw [hz2]; omega) (by unfold maxLen; omega) hbase ?_
  intro w' ho' hg
  have ho2 : Own w' base (.slice (some ⟨w.heap.size, 0, none⟩) n n) (List.replicate n 0) := by
    unfold Own
    have e : (madeCells (Value.int .u8 0).cells (n * 1)).toList = cs (List.replicate n 0) := by
      rw [show (Value.int .u8 0).cells = #[.int .u8 0] from rfl, toList_madeCells_one]
      simp [cs]
    rw [← e, List.length_replicate]
    exact ho'
  exact h _ w' hbase (World.ownsRow.lt ho2 _ rfl).2 ho2 ((Below.refl _ _).grown hg hbase (by simp))

/-- A store into a row of the call's own. -/
theorem Own.set {w : World} {base g n c : Nat} {l : List UInt8} (h : Own w base (.slice (some ⟨g, 0, none⟩) n c) l) (hn : l.length = n) (j : Nat) (x : UInt8) :
    Own (w.setCell ⟨g, j, none⟩ (.int .u8 (x.toNat : Int))) base (.slice (some ⟨g, 0, none⟩) n c) (l.set j x) := by
  subst hn
  have := (World.ownsRow.stored h j (.int .u8 (x.toNat : Int))).1
  unfold Own
  rw [List.length_set]
  have e : cs (l.set j x) = (cs l).set j (.int .u8 (x.toNat : Int)) := by simp [cs, List.map_set]
  rw [e]
  exact this

theorem Own.cell {w : World} {base g n c : Nat} {l : List UInt8} (h : Own w base (.slice (some ⟨g, 0, none⟩) n c) l) (hn : l.length = n) (j : Nat) (hj : j < n) : ∃ v, w.cell? ⟨g, j, none⟩ = some v := by
  subst hn
  have := World.ownsRow.cellAt h j (by omega)
  rw [cs_get hj] at this
  exact ⟨_, this⟩
theorem Own.free {w : World} {base g n c : Nat} {l : List UInt8} (h : Own w base (.slice (some ⟨g, 0, none⟩) n c) l) (hn : l.length = n) (j : Nat) : w.frozen? ⟨g, j, none⟩ = false := by
  subst hn
  exact World.ownsRow.frozenAt h j

/-- A literal of bytes in a new block. -/
theorem Bs.made (w : World) (l : List UInt8) (arr : Array Value) (h : arr.toList = cs l) (hm : l.length ≤ 1000000) : Bs (w.alloc (.cells arr 5)) (some ⟨w.heap.size, 0, none⟩) l.length l.length l := by
  have hz : arr.size = l.length := by rw [← Array.length_toList, h, cs_length]
  have ho : Own (w.alloc (.cells arr 5)) w.heap.size (.slice (some ⟨w.heap.size, 0, none⟩) l.length l.length) l := by
    unfold Own
    rw [← h]
    exact World.ownsRow_lit w arr l.length (Nat.le_refl _) (by unfold maxLen; omega) (by omega)
  obtain ⟨a, c, e, hb⟩ := ho.bs
  simp only [Value.slice.injEq] at e
  obtain ⟨rfl, _, rfl⟩ := e
  exact hb

theorem ofNat_toNat_int (z : Int) (h0 : 0 ≤ z) (h1 : z ≤ 255) : ((UInt8.ofNat z.toNat).toNat : Int) = z := by
  rw [UInt8.toNat_ofNat']
  omega

theorem Bs.one (w : World) (z : Int) (h0 : 0 ≤ z) (h1 : z ≤ 255) : Bs (w.alloc (.cells #[.int .u8 z] 5)) (some ⟨w.heap.size, 0, none⟩) 1 1 [UInt8.ofNat z.toNat] :=
  Bs.made w [UInt8.ofNat z.toNat] #[.int .u8 z] (by simp only [cs, List.map, ofNat_toNat_int z h0 h1]) (by simp)

theorem Own.toBs {w : World} {base : Nat} {a : Option Addr} {m c : Nat} {l : List UInt8} (h : Own w base (.slice a m c) l) : Bs w a m c l := by
  obtain ⟨a', c', e, hb⟩ := h.bs
  simp only [Value.slice.injEq] at e
  obtain ⟨rfl, rfl, rfl⟩ := e
  exact hb

/-- What a call that hands back bytes in new memory leaves. -/
def Gives (w : World) (l : List UInt8) (e : Ending) (w' : World) : Prop := ∃ a m c, e = .returned (.slice a m c) ∧ Own w' w.heap.size (.slice a m c) l ∧ Below w.heap.size w w'

theorem Gives.mk {w w' : World} {l : List UInt8} {v : Value} (h : Own w' w.heap.size v l) (hb : Below w.heap.size w w') : Gives w l (.returned v) w' := by
  obtain ⟨a, c, rfl, _⟩ := h.bs
  exact ⟨a, _, c, rfl, h, hb⟩

end Go.Proofs.Ytcmbkpdefbaakaa
