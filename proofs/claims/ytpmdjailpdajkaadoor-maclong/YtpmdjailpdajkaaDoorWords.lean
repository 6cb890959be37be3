/-
  Rows of words of 32 bits in memory, as of bytes: what a slice of words holds ('Ws'), rows that a call made itself ('Owd'), append and make over them. No condition; no statement of the seat is proved here.
-/
import Derived.Test.YtpmdjailpdajkaaDoorNew
namespace Go.Proofs.YtpmdjailpdajkaaDoor
open Go.RowKit

/-- The i-th byte as a number. -/
def wt (l : List UInt32) (i : Nat) : Int := ((l.getD i 0).toNat : Int)

theorem wt_lo (l : List UInt32) (i : Nat) : 0 ≤ wt l i := by unfold wt; omega
theorem wt_hi (l : List UInt32) (i : Nat) : wt l i ≤ 4294967295 := by
  unfold wt
  have := UInt32.toNat_lt (l.getD i 0)
  omega

/-- The slice (a, n, c) holds the bytes l. -/
def Ws (w : World) (a : Option Addr) (n c : Nat) (l : List UInt32) : Prop :=
  l.length = n ∧ n ≤ c ∧ c ≤ maxLen ∧ (a = none → c = 0) ∧ ∀ i, i < n → ∃ b o, a = some ⟨b, o, none⟩ ∧ w.cell? ⟨b, o + i, none⟩ = some (.int .u32 (wt l i))

theorem Ws.len {w : World} {a : Option Addr} {n c : Nat} {l : List UInt32} (h : Ws w a n c l) : l.length = n := h.1
theorem Ws.cap {w : World} {a : Option Addr} {n c : Nat} {l : List UInt32} (h : Ws w a n c l) : n ≤ c := h.2.1
theorem Ws.max {w : World} {a : Option Addr} {n c : Nat} {l : List UInt32} (h : Ws w a n c l) : n ≤ 9223372036854775807 := by
  have h1 := h.2.1
  have h2 := h.2.2.1
  unfold maxLen at h2
  omega

/-- Not empty: it begins somewhere, and its cells lie there. -/
theorem Ws.at {w : World} {a : Option Addr} {n c : Nat} {l : List UInt32} (h : Ws w a n c l) (hn : 0 < n) :
    ∃ b o, a = some ⟨b, o, none⟩ ∧ b < w.heap.size ∧ ∀ i, i < n → w.cell? ⟨b, o + i, none⟩ = some (.int .u32 (wt l i)) := by
  obtain ⟨b, o, ha, hc⟩ := h.2.2.2.2 0 hn
  refine ⟨b, o, ha, lt_of_cell hc, fun i hi => ?_⟩
  obtain ⟨b', o', ha', hc'⟩ := h.2.2.2.2 i hi
  rw [ha] at ha'
  simp at ha'
  obtain ⟨rfl, rfl⟩ := ha'
  exact hc'

theorem Ws.below {w w' : World} {a : Option Addr} {n c : Nat} {l : List UInt32} (h : Ws w a n c l) {B : Nat} (hb : Below B w w') (hB : w.heap.size ≤ B) : Ws w' a n c l := by
  refine ⟨h.1, h.2.1, h.2.2.1, h.2.2.2.1, fun i hi => ?_⟩
  obtain ⟨b, o, ha, hc⟩ := h.2.2.2.2 i hi
  refine ⟨b, o, ha, ?_⟩
  rw [hb.cell (p := ⟨b, o + i, none⟩) (by have := lt_of_cell hc; simp at this ⊢; omega)]
  exact hc

theorem Ws.nil (w : World) : Ws w none 0 0 [] := ⟨rfl, Nat.le_refl _, Nat.zero_le _, fun _ => rfl, fun i hi => by omega⟩

/-- Bytes as cells. -/
def ws (l : List UInt32) : List Value := l.map fun x => .int .u32 (x.toNat : Int)

/-- The value v is a slice of the bytes l, in memory of the call's own from block 'base' on. -/
def Owd (w : World) (base : Nat) (v : Value) (l : List UInt32) : Prop := w.ownsRow base 52 1 v l.length (ws l)

theorem info38 : (Tryd.prog.info? 52).map (fun i => (i.zero, i.size, i.bytes)) = some (some (.int .u32 0), 1, 4) := by kernel_rfl

theorem ws_length (l : List UInt32) : (ws l).length = l.length := by simp [ws]
theorem ws_append (l m : List UInt32) : ws (l ++ m) = ws l ++ ws m := by simp [ws]
theorem ws_get {l : List UInt32} {i : Nat} (h : i < l.length) : (ws l)[i]? = some (.int .u32 (wt l i)) := by
  simp [ws, wt, h, List.getD_eq_getElem?_getD]
theorem ws_one {l : List UInt32} (u : Value) (h : u ∈ ws l) : u.oneCell' = true := by
  simp only [ws, List.mem_map] at h
  obtain ⟨x, _, rfl⟩ := h
  rfl

theorem Owd.nil (w : World) (base : Nat) : Owd w base (.slice none 0 0) [] := World.ownsRow_nil _ _ _ _

theorem Owd.mono {w : World} {base base' : Nat} {v : Value} {l : List UInt32} (h : Owd w base v l) (hb : base' ≤ base) : Owd w base' v l := by
  obtain ⟨h1, h2⟩ := h
  refine ⟨h1, ?_⟩
  rcases h2 with h2 | ⟨g, cap, cur, hv, hg, r⟩
  · exact Or.inl h2
  · exact Or.inr ⟨g, cap, cur, hv, by omega, r⟩

theorem Owd.below {w w' : World} {base B : Nat} {v : Value} {l : List UInt32} (h : Owd w base v l) (hb : Below B w w') (hB : w.heap.size ≤ B) : Owd w' base v l := by
  obtain ⟨h1, h2⟩ := h
  refine ⟨h1, ?_⟩
  rcases h2 with h2 | ⟨g, cap, cur, hv, hg, hh, r⟩
  · exact Or.inl h2
  · refine Or.inr ⟨g, cap, cur, hv, hg, ?_, r⟩
    have hlt : g < w.heap.size := by
      by_cases e : g < w.heap.size
      · exact e
      · rw [Array.getElem?_eq_none (by omega)] at hh; simp at hh
    rw [hb.block g (by omega)]
    exact hh

theorem Owd.size {w : World} {base : Nat} {v : Value} {l : List UInt32} (h : Owd w base v l) : ∀ k, v.ownBlock = some k → base ≤ k := fun k hk => (World.ownsRow.lt h k hk).1

/-- What is owned is a slice of bytes. -/
theorem Owd.bs {w : World} {base : Nat} {v : Value} {l : List UInt32} (h : Owd w base v l) : ∃ a c, v = .slice a l.length c ∧ Ws w a l.length c l := by
  have h' := h
  obtain ⟨h1, h2⟩ := h
  rcases h2 with ⟨rfl, h0⟩ | ⟨g, cap, cur, rfl, hg, hh, hn, hm, r⟩
  · have e : l = [] := List.length_eq_zero_iff.1 h0
    subst e
    exact ⟨none, 0, rfl, Ws.nil w⟩
  · refine ⟨_, cap, rfl, rfl, hn, hm, by simp, fun i hi => ⟨g, 0, rfl, ?_⟩⟩
    have := World.ownsRow.cellAt h' i (by omega)
    rw [ws_get hi] at this
    simpa using this

theorem Ws.news {w : World} {ad : Addr} {m c : Nat} {l : List UInt32} (h : Ws w (some ad) m c l) (j : Nat) (u : Value) (hj : (ws l)[j]? = some u) : w.cell? (ad.add j) = some u := by
  have hl := h.len
  by_cases hjl : j < l.length
  · rw [ws_get hjl] at hj
    obtain ⟨b, o, ha, hc⟩ := h.2.2.2.2 j (by omega)
    simp at ha
    subst ha
    have e : (Addr.add ⟨b, o, none⟩ j) = ⟨b, o + j, none⟩ := by
      unfold Addr.add
      split
      · subst_vars; rfl
      · rfl
    rw [e, hc]
    exact hj
  · rw [List.getElem?_eq_none (by rw [ws_length]; omega)] at hj
    simp at hj

/-- 'append(out, src...)', out the call's own, src whatever slice of bytes. -/
theorem wpList_wapp {ops : Array Oper} {rest : List Oper} {o : Oper} {a : Act} {Q : Exit → Act → World → Prop} (w : World) (hgd : o.guard = none) (s x : Operand)
    (ho : o.op = Op.call { callee := Callee.builtin Builtin.append, args := #[s, x], argTypes := #[53, 53] }) (base : Nat) (v : Value) (l : List UInt32) (hs : a.eval s = v) (hown : Owd w base v l)
    (ao : Option Addr) (m c : Nat) (news : List UInt32) (hx : a.eval x = .slice ao m c) (hb : Ws w ao m c news) (hz : l.length + news.length ≤ 1000000000) (hbase : base ≤ w.heap.size)
    (h : ∀ v' w', Owd w' base v' (l ++ news) → Below base w w' → wpList Tryd.prog ops Q rest (a.put o.dst v') w') : wpList Tryd.prog ops Q (o :: rest) a w := by
  obtain ⟨i0, hi, hz0, hz1, hz2⟩ := info_parts info38
  have hl := hb.len
  cases ao with
  | none =>
    have hc := hb.2.2.2.1 rfl
    have hcap := hb.cap
    have e : news = [] := List.length_eq_zero_iff.1 (by omega)
    subst e
    obtain rfl : m = 0 := by omega
    subst hc
    refine wpList_append_own_none hgd s x 53 ho base 52 i0 1 Tryd.underlying53 hi v _ _ hs hown hx ?_
    refine h v w ?_ (Below.refl _ _)
    rw [List.append_nil]
    exact hown
  | some ad =>
    refine wpList_append_own w hgd s x 53 ho base 52 i0 (.int .u32 0) 1 4 Tryd.underlying53 hi hz0 hz1 hz2 rfl (by decide) v _ _ hs hown ad m c (ws news) hx (by rw [ws_length]; omega) hb.news ws_one (by unfold maxLen; omega) (by omega) hbase ?_
    intro v' w' ho' hg _
    refine h v' w' ?_ ((Below.refl _ _).grown hg hbase (Owd.size hown))
    unfold Owd
    rw [ws_append, List.length_append, hl]
    exact ho'

/-- 'make([]byte, 0, n)'. -/
theorem wpList_wmk0 {ops : Array Oper} {rest : List Oper} {o : Oper} {a : Act} {Q : Exit → Act → World → Prop} (w : World) (hgd : o.guard = none) (l c : Operand)
    (ho : o.op = Op.makeSlice 53 l c) (base : Nat) (C : Int) (hl : a.eval l = .int .i64 0) (hc : a.eval c = .int .i64 C) (h0 : 0 ≤ C) (hz : C ≤ 1000000000) (hbase : base ≤ w.heap.size)
    (h : ∀ v w', Owd w' base v [] → Below base w w' → wpList Tryd.prog ops Q rest (a.put o.dst v) w') : wpList Tryd.prog ops Q (o :: rest) a w := by
  obtain ⟨i0, hi, hz0, hz1, hz2⟩ := info_parts info38
  refine wpList_make_own w hgd l c 53 ho base 52 i0 (.int .u32 0) 1 Tryd.underlying53 hi hz0 hz1 .i64 .i64 C C.toNat hl hc (by omega) (by rw [hz2]; omega) (by unfold maxLen; omega) hbase ?_
  intro w' ho' hg
  exact h _ w' ho' ((Below.refl _ _).grown hg hbase (by simp))

/-- 'make([]byte, n)'. -/
theorem wpList_wmkn {ops : Array Oper} {rest : List Oper} {o : Oper} {a : Act} {Q : Exit → Act → World → Prop} (w : World) (hgd : o.guard = none) (l c : Operand)
    (ho : o.op = Op.makeSlice 53 l c) (base n : Nat) (C : Int) (hl : a.eval l = .int .i64 C) (hc : a.eval c = .int .i64 C) (hC : C = n) (hz : n ≤ 2147483647) (hbase : base ≤ w.heap.size)
    (h : ∀ g w', base ≤ g → g < w'.heap.size → Owd w' base (.slice (some ⟨g, 0, none⟩) n n) (List.replicate n 0) → Below base w w' → wpList Tryd.prog ops Q rest (a.put o.dst (.slice (some ⟨g, 0, none⟩) n n)) w') : wpList Tryd.prog ops Q (o :: rest) a w := by
  obtain ⟨i0, hi, hz0, hz1, hz2⟩ := info_parts info38
  refine wpList_make_full w hgd l c 53 ho base 52 i0 (.int .u32 0) 1 Tryd.underlying53 hi hz0 hz1 .i64 .i64 C C n hl hc hC hC (by rw [hz2]; omega) (by unfold maxLen; omega) hbase ?_
  intro w' ho' hg
  have ho2 : Owd w' base (.slice (some ⟨w.heap.size, 0, none⟩) n n) (List.replicate n 0) := by
    unfold Owd
    have e : (madeCells (Value.int .u32 0).cells (n * 1)).toList = ws (List.replicate n 0) := by
      rw [show (Value.int .u32 0).cells = #[.int .u32 0] from rfl, toList_madeCells_one]
      simp [ws]
    rw [← e, List.length_replicate]
    exact ho'
  exact h _ w' hbase (World.ownsRow.lt ho2 _ rfl).2 ho2 ((Below.refl _ _).grown hg hbase (by simp))

/-- A store into a row of the call's own. -/
theorem Owd.set {w : World} {base g n c : Nat} {l : List UInt32} (h : Owd w base (.slice (some ⟨g, 0, none⟩) n c) l) (hn : l.length = n) (j : Nat) (x : UInt32) :
    Owd (w.setCell ⟨g, j, none⟩ (.int .u32 (x.toNat : Int))) base (.slice (some ⟨g, 0, none⟩) n c) (l.set j x) := by
  subst hn
  have := (World.ownsRow.stored h j (.int .u32 (x.toNat : Int))).1
  unfold Owd
  rw [List.length_set]
  have e : ws (l.set j x) = (ws l).set j (.int .u32 (x.toNat : Int)) := by simp [ws, List.map_set]
  rw [e]
  exact this

theorem Owd.cell {w : World} {base g n c : Nat} {l : List UInt32} (h : Owd w base (.slice (some ⟨g, 0, none⟩) n c) l) (hn : l.length = n) (j : Nat) (hj : j < n) : ∃ v, w.cell? ⟨g, j, none⟩ = some v := by
  subst hn
  have := World.ownsRow.cellAt h j (by omega)
  rw [ws_get hj] at this
  exact ⟨_, this⟩
theorem Owd.free {w : World} {base g n c : Nat} {l : List UInt32} (h : Owd w base (.slice (some ⟨g, 0, none⟩) n c) l) (hn : l.length = n) (j : Nat) : w.frozen? ⟨g, j, none⟩ = false := by
  subst hn
  exact World.ownsRow.frozenAt h j

/-- A literal of bytes in a new block. -/
theorem Ws.made (w : World) (l : List UInt32) (arr : Array Value) (h : arr.toList = ws l) (hm : l.length ≤ 1000000) : Ws (w.alloc (.cells arr 52)) (some ⟨w.heap.size, 0, none⟩) l.length l.length l := by
  have hz : arr.size = l.length := by rw [← Array.length_toList, h, ws_length]
  have ho : Owd (w.alloc (.cells arr 52)) w.heap.size (.slice (some ⟨w.heap.size, 0, none⟩) l.length l.length) l := by
    unfold Owd
    rw [← h]
    exact World.ownsRow_lit w arr l.length (Nat.le_refl _) (by unfold maxLen; omega) (by omega)
  obtain ⟨a, c, e, hb⟩ := ho.bs
  simp only [Value.slice.injEq] at e
  obtain ⟨rfl, _, rfl⟩ := e
  exact hb

theorem ofNat_toNat_w (z : Int) (h0 : 0 ≤ z) (h1 : z ≤ 4294967295) : ((UInt32.ofNat z.toNat).toNat : Int) = z := by
  rw [UInt32.toNat_ofNat']
  omega

theorem Ws.one (w : World) (z : Int) (h0 : 0 ≤ z) (h1 : z ≤ 4294967295) : Ws (w.alloc (.cells #[.int .u32 z] 52)) (some ⟨w.heap.size, 0, none⟩) 1 1 [UInt32.ofNat z.toNat] :=
  Ws.made w [UInt32.ofNat z.toNat] #[.int .u32 z] (by simp only [ws, List.map, ofNat_toNat_w z h0 h1]) (by simp)

theorem Owd.toBs {w : World} {base : Nat} {a : Option Addr} {m c : Nat} {l : List UInt32} (h : Owd w base (.slice a m c) l) : Ws w a m c l := by
  obtain ⟨a', c', e, hb⟩ := h.bs
  simp only [Value.slice.injEq] at e
  obtain ⟨rfl, rfl, rfl⟩ := e
  exact hb

/-- What a call that hands back bytes in new memory leaves. -/
def GivesW (w : World) (l : List UInt32) (e : Ending) (w' : World) : Prop := ∃ a m c, e = .returned (.slice a m c) ∧ Owd w' w.heap.size (.slice a m c) l ∧ Below w.heap.size w w'

theorem GivesW.mk {w w' : World} {l : List UInt32} {v : Value} (h : Owd w' w.heap.size v l) (hb : Below w.heap.size w w') : GivesW w l (.returned v) w' := by
  obtain ⟨a, c, rfl, _⟩ := h.bs
  exact ⟨a, _, c, rfl, h, hb⟩

/-- append as one step of a region that draws its order. -/
theorem step_wapp {ops : Array Oper} {o : Oper} {a : Act} {w : World} {K : Act → World → Prop} {Q : Exit → Act → World → Prop} {E : Prop} (hgd : o.guard = none) (s x : Operand)
    (ho : o.op = Op.call { callee := Callee.builtin Builtin.append, args := #[s, x], argTypes := #[53, 53] }) (base : Nat) (v : Value) (l : List UInt32) (hs : a.eval s = v) (hown : Owd w base v l)
    (ad : Addr) (m c : Nat) (news : List UInt32) (hx : a.eval x = .slice (some ad) m c) (hb : Ws w (some ad) m c news) (hz : l.length + news.length ≤ 1000000000) (hbase : base ≤ w.heap.size)
    (h : ∀ v' w', Owd w' base v' (l ++ news) → Below base w w' → K (a.put o.dst v') w') : if Region.wanted o (yielded ops a.tmps) = true then Oper.wp Tryd.prog o a w K Q else E := by
  have hw : Region.wanted o (yielded ops a.tmps) = true := by simp [Region.wanted, hgd]
  rw [if_pos hw]
  obtain ⟨i0, hi, hz0, hz1, hz2⟩ := info_parts info38
  have hl := hb.len
  refine wp_append_own w s x 53 ho base 52 i0 (.int .u32 0) 1 4 Tryd.underlying53 hi hz0 hz1 hz2 rfl (by decide) v _ _ hs hown ad m c (ws news) hx (by rw [ws_length]; omega) hb.news ws_one (by unfold maxLen; omega) (by omega) hbase ?_
  intro v' w' ho' hg _
  refine h v' w' ?_ ((Below.refl _ _).grown hg hbase (Owd.size hown))
  unfold Owd
  rw [ws_append, List.length_append, hl]
  exact ho'

theorem Ws.drew {w : World} {a : Option Addr} {n c : Nat} {l : List UInt32} (h : Ws w a n c l) : Ws w.drew a n c l := h

theorem Ws.drewN {w : World} {a : Option Addr} {n c : Nat} {l : List UInt32} (h : Ws w a n c l) (d : Nat) : Ws (w.drewN d) a n c l := h
theorem wbelow_drewN' (w : World) (d : Nat) : Below w.heap.size w (w.drewN d) := ⟨rfl, rfl, rfl, Nat.le_refl _, fun _ _ => rfl⟩


end Go.Proofs.YtpmdjailpdajkaaDoor
