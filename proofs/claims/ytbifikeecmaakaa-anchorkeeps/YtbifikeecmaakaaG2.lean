/-
  3 texts in one. No statement of the seat is proved here.
-/
import Derived.Test.YtbifikeecmaakaaG1
import Derived.Laws.AppendOwnNone
/-
  Rows of bytes that a call made itself ('Own'), and the laws on append and make over them. No condition; no statement of the seat is proved here.
-/
namespace Go.Proofs.Ytbifikeecmaakaa
open Go.RowKit

/-- Bytes as cells. -/
def cs (l : List UInt8) : List Value := l.map fun x => .int .u8 (x.toNat : Int)

/-- The value v is a slice of the bytes l, in memory of the call's own from block 'base' on. -/
def Own (w : World) (base : Nat) (v : Value) (l : List UInt8) : Prop := w.ownsRow base 5 1 v l.length (cs l)

theorem info5 : (Try.prog.info? 5).map (fun i => (i.zero, i.size, i.bytes)) = some (some (.int .u8 0), 1, 1) := by kernel_rfl

theorem cs_length (l : List UInt8) : (cs l).length = l.length := by simp [cs]
theorem cs_append (l m : List UInt8) : cs (l ++ m) = cs l ++ cs m := by simp [cs]
theorem cs_get {l : List UInt8} {i : Nat} (h : i < l.length) : (cs l)[i]? = some (.int .u8 (bt l i)) := by
  simp [cs, bt, h, List.getD_eq_getElem?_getD]
theorem cs_one {l : List UInt8} (u : Value) (h : u ∈ cs l) : u.oneCell' = true := by
  simp only [cs, List.mem_map] at h
  obtain ⟨x, _, rfl⟩ := h
  rfl

theorem Own.nil (w : World) (base : Nat) : Own w base (.slice none 0 0) [] := World.ownsRow_nil _ _ _ _

theorem Own.mono {w : World} {base base' : Nat} {v : Value} {l : List UInt8} (h : Own w base v l) (hb : base' ≤ base) : Own w base' v l := by
  obtain ⟨h1, h2⟩ := h
  refine ⟨h1, ?_⟩
  rcases h2 with h2 | ⟨g, cap, cur, hv, hg, r⟩
  · exact Or.inl h2
  · exact Or.inr ⟨g, cap, cur, hv, by omega, r⟩

theorem Own.below {w w' : World} {base B : Nat} {v : Value} {l : List UInt8} (h : Own w base v l) (hb : Below B w w') (hB : w.heap.size ≤ B) : Own w' base v l := by
  obtain ⟨h1, h2⟩ := h
  refine ⟨h1, ?_⟩
  rcases h2 with h2 | ⟨g, cap, cur, hv, hg, hh, r⟩
  · exact Or.inl h2
  · refine Or.inr ⟨g, cap, cur, hv, hg, ?_, r⟩
    have hlt : g < w.heap.size := by
      by_cases e : g < w.heap.size
      · exact e
      · rw [Array.getElem?_eq_none (by omega)] at hh; simp at hh
    rw [hb.block g (by omega)]
    exact hh

theorem Own.size {w : World} {base : Nat} {v : Value} {l : List UInt8} (h : Own w base v l) : ∀ k, v.ownBlock = some k → base ≤ k := fun k hk => (World.ownsRow.lt h k hk).1

/-- What is owned is a slice of bytes. -/
theorem Own.bs {w : World} {base : Nat} {v : Value} {l : List UInt8} (h : Own w base v l) : ∃ a c, v = .slice a l.length c ∧ Bs w a l.length c l := by
  have h' := h
  obtain ⟨h1, h2⟩ := h
  rcases h2 with ⟨rfl, h0⟩ | ⟨g, cap, cur, rfl, hg, hh, hn, hm, r⟩
  · have e : l = [] := List.length_eq_zero_iff.1 h0
    subst e
    exact ⟨none, 0, rfl, Bs.nil w⟩
  · refine ⟨_, cap, rfl, rfl, hn, hm, by simp, fun i hi => ⟨g, 0, rfl, ?_⟩⟩
    have := World.ownsRow.cellAt h' i (by omega)
    rw [cs_get hi] at this
    simpa using this

theorem Bs.news {w : World} {ad : Addr} {m c : Nat} {l : List UInt8} (h : Bs w (some ad) m c l) (j : Nat) (u : Value) (hj : (cs l)[j]? = some u) : w.cell? (ad.add j) = some u := by
  have hl := h.len
  by_cases hjl : j < l.length
  · rw [cs_get hjl] at hj
    obtain ⟨b, o, ha, hc⟩ := h.2.2.2.2 j (by omega)
    simp at ha
    subst ha
    have e : (Addr.add ⟨b, o, none⟩ j) = ⟨b, o + j, none⟩ := by
      unfold Addr.add
      split
      · subst_vars; rfl
      · rfl
    rw [e, hc]
    exact hj
  · rw [List.getElem?_eq_none (by rw [cs_length]; omega)] at hj
    simp at hj

/-- 'append(out, src...)', out the call's own, src whatever slice of bytes. -/
theorem wpList_app {ops : Array Oper} {rest : List Oper} {o : Oper} {a : Act} {Q : Exit → Act → World → Prop} (w : World) (hgd : o.guard = none) (s x : Operand)
    (ho : o.op = Op.call { callee := Callee.builtin Builtin.append, args := #[s, x], argTypes := #[22, 22] }) (base : Nat) (v : Value) (l : List UInt8) (hs : a.eval s = v) (hown : Own w base v l)
    (ao : Option Addr) (m c : Nat) (news : List UInt8) (hx : a.eval x = .slice ao m c) (hb : Bs w ao m c news) (hz : l.length + news.length ≤ 1000000000) (hbase : base ≤ w.heap.size)
    (h : ∀ v' w', Own w' base v' (l ++ news) → Below base w w' → wpList Try.prog ops Q rest (a.put o.dst v') w') : wpList Try.prog ops Q (o :: rest) a w := by
  obtain ⟨i0, hi, hz0, hz1, hz2⟩ := info_parts info5
  have hl := hb.len
  cases ao with
  | none =>
    have hc := hb.2.2.2.1 rfl
    have hcap := hb.cap
    have e : news = [] := List.length_eq_zero_iff.1 (by omega)
    subst e
    obtain rfl : m = 0 := by omega
    subst hc
    refine wpList_append_own_none hgd s x 22 ho base 5 i0 1 Try.underlying22 hi v _ _ hs hown hx ?_
    refine h v w ?_ (Below.refl _ _)
    rw [List.append_nil]
    exact hown
  | some ad =>
    refine wpList_append_own w hgd s x 22 ho base 5 i0 (.int .u8 0) 1 1 Try.underlying22 hi hz0 hz1 hz2 rfl (by decide) v _ _ hs hown ad m c (cs news) hx (by rw [cs_length]; omega) hb.news cs_one (by unfold maxLen; omega) (by omega) hbase ?_
    intro v' w' ho' hg _
    refine h v' w' ?_ ((Below.refl _ _).grown hg hbase (Own.size hown))
    unfold Own
    rw [cs_append, List.length_append, hl]
    exact ho'

/-- 'make([]byte, 0, n)'. -/
theorem wpList_mk0 {ops : Array Oper} {rest : List Oper} {o : Oper} {a : Act} {Q : Exit → Act → World → Prop} (w : World) (hgd : o.guard = none) (l c : Operand)
    (ho : o.op = Op.makeSlice 22 l c) (base : Nat) (C : Int) (hl : a.eval l = .int .i64 0) (hc : a.eval c = .int .i64 C) (h0 : 0 ≤ C) (hz : C ≤ 1000000000) (hbase : base ≤ w.heap.size)
    (h : ∀ v w', Own w' base v [] → Below base w w' → wpList Try.prog ops Q rest (a.put o.dst v) w') : wpList Try.prog ops Q (o :: rest) a w := by
  obtain ⟨i0, hi, hz0, hz1, hz2⟩ := info_parts info5
  refine wpList_make_own w hgd l c 22 ho base 5 i0 (.int .u8 0) 1 Try.underlying22 hi hz0 hz1 .i64 .i64 C C.toNat hl hc (by omega) (by rw [hz2]; omega) (by unfold maxLen; omega) hbase ?_
  intro w' ho' hg
  exact h _ w' ho' ((Below.refl _ _).grown hg hbase (by simp))

/-- 'make([]byte, n)'. -/
theorem wpList_mkn {ops : Array Oper} {rest : List Oper} {o : Oper} {a : Act} {Q : Exit → Act → World → Prop} (w : World) (hgd : o.guard = none) (l c : Operand)
    (ho : o.op = Op.makeSlice 22 l c) (base n : Nat) (C : Int) (hl : a.eval l = .int .i64 C) (hc : a.eval c = .int .i64 C) (hC : C = n) (hz : n ≤ 2147483647) (hbase : base ≤ w.heap.size)
    (h : ∀ g w', base ≤ g → g < w'.heap.size → Own w' base (.slice (some ⟨g, 0, none⟩) n n) (List.replicate n 0) → Below base w w' → wpList Try.prog ops Q rest (a.put o.dst (.slice (some ⟨g, 0, none⟩) n n)) w') : wpList Try.prog ops Q (o :: rest) a w := by
  obtain ⟨i0, hi, hz0, hz1, hz2⟩ := info_parts info5
  refine wpList_make_full w hgd l c 22 ho base 5 i0 (.int .u8 0) 1 Try.underlying22 hi hz0 hz1 .i64 .i64 C C n hl hc hC hC (by rw [hz2]; omega) (by unfold maxLen; omega) hbase ?_
  intro w' ho' hg
  have ho2 : Own w' base (.slice (some ⟨w.heap.size, 0, none⟩) n n) (List.replicate n 0) := by
    unfold Own
    have e : (madeCells (Value.int .u8 0).cells (n * 1)).toList = cs (List.replicate n 0) := by
      rw [show (Value.int .u8 0).cells = #[.int .u8 0] from rfl, toList_madeCells_one]
      simp [cs]
    rw [← e, List.length_replicate]
    exact ho'
  exact h _ w' hbase (World.ownsRow.lt ho2 _ rfl).2 ho2 ((Below.refl _ _).grown hg hbase (by simp))

/-- A store into a row of the call's own. -/
theorem Own.set {w : World} {base g n c : Nat} {l : List UInt8} (h : Own w base (.slice (some ⟨g, 0, none⟩) n c) l) (hn : l.length = n) (j : Nat) (x : UInt8) :
    Own (w.setCell ⟨g, j, none⟩ (.int .u8 (x.toNat : Int))) base (.slice (some ⟨g, 0, none⟩) n c) (l.set j x) := by
  subst hn
  have := (World.ownsRow.stored h j (.int .u8 (x.toNat : Int))).1
  unfold Own
  rw [List.length_set]
  have e : cs (l.set j x) = (cs l).set j (.int .u8 (x.toNat : Int)) := by simp [cs, List.map_set]
  rw [e]
  exact this

theorem Own.cell {w : World} {base g n c : Nat} {l : List UInt8} (h : Own w base (.slice (some ⟨g, 0, none⟩) n c) l) (hn : l.length = n) (j : Nat) (hj : j < n) : ∃ v, w.cell? ⟨g, j, none⟩ = some v := by
  subst hn
  have := World.ownsRow.cellAt h j (by omega)
  rw [cs_get hj] at this
  exact ⟨_, this⟩
theorem Own.free {w : World} {base g n c : Nat} {l : List UInt8} (h : Own w base (.slice (some ⟨g, 0, none⟩) n c) l) (hn : l.length = n) (j : Nat) : w.frozen? ⟨g, j, none⟩ = false := by
  subst hn
  exact World.ownsRow.frozenAt h j

/-- A literal of bytes in a new block. -/
theorem Bs.made (w : World) (l : List UInt8) (arr : Array Value) (h : arr.toList = cs l) (hm : l.length ≤ 1000000) : Bs (w.alloc (.cells arr 5)) (some ⟨w.heap.size, 0, none⟩) l.length l.length l := by
  have hz : arr.size = l.length := by rw [← Array.length_toList, h, cs_length]
  have ho : Own (w.alloc (.cells arr 5)) w.heap.size (.slice (some ⟨w.heap.size, 0, none⟩) l.length l.length) l := by
    unfold Own
    rw [← h]
    exact World.ownsRow_lit w arr l.length (Nat.le_refl _) (by unfold maxLen; omega) (by omega)
  obtain ⟨a, c, e, hb⟩ := ho.bs
  simp only [Value.slice.injEq] at e
  obtain ⟨rfl, _, rfl⟩ := e
  exact hb

theorem ofNat_toNat_int (z : Int) (h0 : 0 ≤ z) (h1 : z ≤ 255) : ((UInt8.ofNat z.toNat).toNat : Int) = z := by
  rw [UInt8.toNat_ofNat']
  omega

theorem Bs.one (w : World) (z : Int) (h0 : 0 ≤ z) (h1 : z ≤ 255) : Bs (w.alloc (.cells #[.int .u8 z] 5)) (some ⟨w.heap.size, 0, none⟩) 1 1 [UInt8.ofNat z.toNat] :=
  Bs.made w [UInt8.ofNat z.toNat] #[.int .u8 z] (by simp only [cs, List.map, ofNat_toNat_int z h0 h1]) (by simp)

theorem Own.toBs {w : World} {base : Nat} {a : Option Addr} {m c : Nat} {l : List UInt8} (h : Own w base (.slice a m c) l) : Bs w a m c l := by
  obtain ⟨a', c', e, hb⟩ := h.bs
  simp only [Value.slice.injEq] at e
  obtain ⟨rfl, rfl, rfl⟩ := e
  exact hb

/-- What a call that hands back bytes in new memory leaves. -/
def Gives (w : World) (l : List UInt8) (e : Ending) (w' : World) : Prop := ∃ a m c, e = .returned (.slice a m c) ∧ Own w' w.heap.size (.slice a m c) l ∧ Below w.heap.size w w'

theorem Gives.mk {w w' : World} {l : List UInt8} {v : Value} (h : Own w' w.heap.size v l) (hb : Below w.heap.size w w') : Gives w l (.returned v) w' := by
  obtain ⟨a, c, rfl, _⟩ := h.bs
  exact ⟨a, _, c, rfl, h, hb⟩

end Go.Proofs.Ytbifikeecmaakaa

/-
  Slices of slices of bytes: what they hold, how many bytes in all. No condition; no statement of the seat is proved here.
-/
namespace Go.Proofs.Ytbifikeecmaakaa
open Go.RowKit


/-- The slice (a, n, c) holds slices of the bytes ls. -/
def Bss (w : World) (a : Option Addr) (n c : Nat) (ls : List (List UInt8)) : Prop :=
  ls.length = n ∧ n ≤ c ∧ c ≤ maxLen ∧ ∀ i, i < n → ∃ b o p m q, a = some ⟨b, o, none⟩ ∧ w.cell? ⟨b, o + i, none⟩ = some (.slice p m q) ∧ Bs w p m q (ls.getD i [])

theorem Bss.len {w : World} {a : Option Addr} {n c : Nat} {l : List (List UInt8)} (h : Bss w a n c l) : l.length = n := h.1
theorem Bss.max {w : World} {a : Option Addr} {n c : Nat} {l : List (List UInt8)} (h : Bss w a n c l) : n ≤ 9223372036854775807 := by
  have h1 := h.2.1
  have h2 := h.2.2.1
  unfold maxLen at h2
  omega

theorem Bss.at {w : World} {a : Option Addr} {n c : Nat} {ls : List (List UInt8)} (h : Bss w a n c ls) (hn : 0 < n) :
    ∃ b o, a = some ⟨b, o, none⟩ ∧ b < w.heap.size ∧ ∀ i, i < n → ∃ p m q, w.cell? ⟨b, o + i, none⟩ = some (.slice p m q) ∧ Bs w p m q (ls.getD i []) := by
  obtain ⟨b, o, p, m, q, ha, hc, _⟩ := h.2.2.2 0 hn
  refine ⟨b, o, ha, lt_of_cell hc, fun i hi => ?_⟩
  obtain ⟨b', o', p', m', q', ha', hc', hb'⟩ := h.2.2.2 i hi
  rw [ha] at ha'
  simp at ha'
  obtain ⟨rfl, rfl⟩ := ha'
  exact ⟨p', m', q', hc', hb'⟩

theorem Bss.below {w w' : World} {a : Option Addr} {n c : Nat} {l : List (List UInt8)} (h : Bss w a n c l) {B : Nat} (hb : Below B w w') (hB : w.heap.size ≤ B) : Bss w' a n c l := by
  refine ⟨h.1, h.2.1, h.2.2.1, fun i hi => ?_⟩
  obtain ⟨b, o, p, m, q, ha, hc, hs⟩ := h.2.2.2 i hi
  refine ⟨b, o, p, m, q, ha, ?_, hs.below hb hB⟩
  rw [hb.cell (p := ⟨b, o + i, none⟩) (by have := lt_of_cell hc; simp at this ⊢; omega)]
  exact hc

/-- How many bytes in all. -/
def tot : List (List UInt8) → Nat
  | [] => 0
  | x :: r => x.length + tot r

theorem tot_snoc (l : List (List UInt8)) (x : List UInt8) : tot (l ++ [x]) = tot l + x.length := by
  induction l with
  | nil => simp [tot]
  | cons y r ih => simp [tot, ih]; omega

theorem tot_flatten (l : List (List UInt8)) : l.flatten.length = tot l := by
  induction l with
  | nil => rfl
  | cons y r ih => simp [tot, ← ih]

theorem takes_snoc {l : List (List UInt8)} {k : Nat} (h : k < l.length) : l.take (k + 1) = l.take k ++ [l.getD k []] := by
  rw [List.take_succ_eq_append_getElem h, List.getD_eq_getElem?_getD, List.getElem?_eq_getElem h]
  rfl

theorem tot_take_le (l : List (List UInt8)) (k : Nat) : tot (l.take k) ≤ tot l := by
  induction l generalizing k with
  | nil => simp
  | cons y r ih =>
    cases k with
    | zero => simp [tot]
    | succ k => simp [tot]; exact ih k

theorem tot_step {l : List (List UInt8)} {k m : Nat} (h : k < l.length) (hm : (l.getD k []).length = m) : (tot (l.take k) : Int) + (m : Int) = (tot (l.take (k + 1)) : Nat) := by
  rw [takes_snoc h, tot_snoc, hm]
  omega

/-- A part, asked for in the middle of a loop. -/
theorem Bss.part {w wr : World} {x o n : Nat} {ls : List (List UInt8)} (hc : ∀ i, i < n → ∃ p m q, w.cell? ⟨x, o + i, none⟩ = some (.slice p m q) ∧ Bs w p m q (ls.getD i [])) (hb : Below w.heap.size w wr) (k : Nat) (hk : k < n) :
    ∃ p m q, wr.cell? ⟨x, o + k, none⟩ = some (.slice p m q) ∧ Bs w p m q (ls.getD k []) := by
  obtain ⟨p, m, q, c1, h⟩ := hc k hk
  refine ⟨p, m, q, ?_, h⟩
  rw [hb.cell (p := ⟨x, o + k, none⟩) (lt_of_cell c1)]
  exact c1

theorem flat_step {l : List (List UInt8)} {k : Nat} (h : k < l.length) : (l.take k).flatten ++ l.getD k [] = (l.take (k + 1)).flatten := by
  rw [takes_snoc h]; simp
theorem flat_room {l : List (List UInt8)} {k : Nat} (h : k < l.length) (hz : tot l ≤ 100000) : (l.take k).flatten.length + (l.getD k []).length ≤ 1000000000 := by
  have := tot_take_le l (k + 1)
  rw [takes_snoc h, tot_snoc] at this
  rw [tot_flatten]
  omega
theorem flat_end {w : World} {base n k : Nat} {v : Value} {l : List (List UInt8)} (H : Hid (l.length = n)) (h : ¬ k < n) (ho : Own w base v (l.take k).flatten) : Own w base v l.flatten := by
  rw [List.take_of_length_le (by rw [H.out]; omega)] at ho
  exact ho

end Go.Proofs.Ytbifikeecmaakaa

/-
  The contract of the reference's Join: parts, one behind the other. Condition: the parts have at most 100000 bytes in all.
-/
namespace Go.Proofs.Ytbifikeecmaakaa
open Go.RowKit

end Go.Proofs.Ytbifikeecmaakaa
