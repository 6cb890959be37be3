/-
  8 texts in one. No statement of the seat is proved here.
-/
import Derived.Test.YtfknplcnfpincaaGreatG4
import Derived.Deep.DeepCutAuto
import Derived.Deep.RegionHeld3
/-
  Elements as rows of 128 bools, and as bytes: plain mathematics ahead of layer 5's code. No condition; nothing of the program.
-/
namespace Go.Proofs.YtfknplcnfpincaaGreat
open Go.RowKit

/-- The bits of an element. -/
def fb (a : Fe) : List Bool := (List.range 128).map fun i => a.getLsbD i
theorem fb_length (a : Fe) : (fb a).length = 128 := by simp [fb]
theorem fb_at (a : Fe) {k : Nat} (h : k < 128) : (fb a).getD k false = a.getLsbD k := by simp [fb, List.getD_eq_getElem?_getD, h]
/-- The first k bools of L, those of a behind. -/
def overB (L a : List Bool) (k : Nat) : List Bool := L.take k ++ a.drop k
theorem overB_length {L a : List Bool} (h : L.length = a.length) (k : Nat) : (overB L a k).length = a.length := by simp [overB]; omega
theorem overB_at {L a : List Bool} (h : L.length = a.length) {k j : Nat} (hk : k ≤ a.length) (hj : k ≤ j) : (overB L a k).getD j false = a.getD j false := by
  have hl : (L.take k).length = k := by simp; omega
  unfold overB
  rw [List.getD_eq_getElem?_getD, List.getElem?_append_right (by omega), hl, List.getElem?_drop, List.getD_eq_getElem?_getD, show k + (j - k) = j from by omega]
theorem overB_set {L a : List Bool} (h : L.length = a.length) {k : Nat} (hk : k < a.length) : (overB L a k).set k (L.getD k false) = overB L a (k + 1) := by
  have hl : (L.take k).length = k := by simp; omega
  have hL : k < L.length := by omega
  unfold overB
  rw [List.set_append_right _ _ (by omega), hl, Nat.sub_self, List.take_succ_eq_append_getElem hL, List.append_assoc, List.drop_eq_getElem_cons hk, List.set_cons_zero, List.getD_eq_getElem?_getD, List.getElem?_eq_getElem hL]
  rfl
theorem overB_end {L a : List Bool} (h : L.length = a.length) : overB L a a.length = L := by simp [overB, ← h]
theorem overB_zero (L a : List Bool) : overB L a 0 = a := by simp [overB]

/-- The element of bits. -/
def pk (f : Nat → Bool) : Nat → Fe
  | 0 => 0
  | i + 1 => pk f i ^^^ (if f i then (1 : Fe) <<< i else 0)
theorem one_bit {n j : Nat} (hn : n < 128) (b : Bool) : (if b then (1 : Fe) <<< n else 0).getLsbD j = (decide (j = n) && b) := by
  cases b
  · simp
  · simp only [if_true, Bool.and_true]
    rw [BitVec.getLsbD_shiftLeft]
    by_cases e : j = n
    · subst e; simp; omega
    · by_cases hl : j < n
      · simp [hl, e]
      · have : j - n ≠ 0 := by omega
        simp [e, BitVec.getLsbD_one, this]
theorem pk_bits (f : Nat → Bool) (n : Nat) (hn : n ≤ 128) (j : Nat) : (pk f n).getLsbD j = (decide (j < n) && f j) := by
  induction n with
  | zero => simp [pk]
  | succ n ih =>
    rw [pk, BitVec.getLsbD_xor, ih (by omega), one_bit (by omega)]
    by_cases e : j = n
    · subst e; simp
    · by_cases hl : j < n
      · have : j < n + 1 := by omega
        simp [hl, e, this]
      · have : ¬ j < n + 1 := by omega
        simp [hl, e, this]
theorem fb_pk (f : Nat → Bool) : fb (pk f 128) = (List.range 128).map f := by
  unfold fb
  apply List.map_congr_left
  intro i hi
  rw [pk_bits f 128 (Nat.le_refl _)]
  have : i < 128 := by simpa using hi
  simp [this]
/-- Bit i of bytes, the first one the highest of the first byte. -/
def bitB (l : List UInt8) (i : Nat) : Bool := decide (i / 8 < l.length) && decide ((l.getD (i / 8) 0 >>> UInt8.ofNat (7 - i % 8)) &&& 1 = 1)
/-- The element of bytes. -/
def feB (l : List UInt8) : Fe := pk (bitB l) 128
theorem fb_feB (l : List UInt8) : fb (feB l) = (List.range 128).map (bitB l) := fb_pk _

theorem fb_xor_at (s x : Fe) {k : Nat} (h : k < 128) : (fb (s ^^^ x)).getD k false = (s.getLsbD k != x.getLsbD k) := by
  rw [fb_at _ h, BitVec.getLsbD_xor]
/-- Moved up by one place. -/
theorem fb_up_at (x : Fe) {k : Nat} (h : k < 128) : (fb (x <<< 1)).getD k false = (decide (0 < k) && x.getLsbD (k - 1)) := by
  rw [fb_at _ h, BitVec.getLsbD_shiftLeft]
  by_cases e : k = 0
  · subst e; simp
  · have : ¬ k < 1 := by omega
    have h0 : 0 < k := by omega
    simp [h, this, h0]

end Go.Proofs.YtfknplcnfpincaaGreat

/-
  Rows of bools in memory: what a slice of bools holds ('Bo'), rows that a call made itself ('OwnB'), append and make over them. No condition; no statement of the seat is proved here.
-/
namespace Go.Proofs.YtfknplcnfpincaaGreat
open Go.RowKit

/-- Bools as cells. -/
def bo (l : List Bool) : List Value := l.map .bool
theorem bo_length (l : List Bool) : (bo l).length = l.length := by simp [bo]
theorem bo_append (l m : List Bool) : bo (l ++ m) = bo l ++ bo m := by simp [bo]
theorem bo_get {l : List Bool} {i : Nat} (h : i < l.length) : (bo l)[i]? = some (.bool (l.getD i false)) := by
  simp [bo, h, List.getD_eq_getElem?_getD]
theorem bo_one {l : List Bool} (u : Value) (h : u ∈ bo l) : u.oneCell' = true := by
  simp only [bo, List.mem_map] at h
  obtain ⟨x, _, rfl⟩ := h
  rfl
theorem bo_set (l : List Bool) (k : Nat) (x : Bool) : (bo l).set k (.bool x) = bo (l.set k x) := by simp [bo, List.map_set]

/-- The slice (a, n, c) holds the bools l. -/
def Bo (w : World) (a : Option Addr) (n c : Nat) (l : List Bool) : Prop :=
  l.length = n ∧ n ≤ c ∧ c ≤ maxLen ∧ (a = none → c = 0) ∧ ∀ i, i < n → ∃ b o, a = some ⟨b, o, none⟩ ∧ w.cell? ⟨b, o + i, none⟩ = some (.bool (l.getD i false))
theorem Bo.len {w : World} {a : Option Addr} {n c : Nat} {l : List Bool} (h : Bo w a n c l) : l.length = n := h.1
theorem Bo.cap {w : World} {a : Option Addr} {n c : Nat} {l : List Bool} (h : Bo w a n c l) : n ≤ c := h.2.1
theorem Bo.at {w : World} {a : Option Addr} {n c : Nat} {l : List Bool} (h : Bo w a n c l) (hn : 0 < n) :
    ∃ b o, a = some ⟨b, o, none⟩ ∧ b < w.heap.size ∧ ∀ i, i < n → w.cell? ⟨b, o + i, none⟩ = some (.bool (l.getD i false)) := by
  obtain ⟨b, o, ha, hc⟩ := h.2.2.2.2 0 hn
  refine ⟨b, o, ha, lt_of_cell hc, fun i hi => ?_⟩
  obtain ⟨b', o', ha', hc'⟩ := h.2.2.2.2 i hi
  rw [ha] at ha'
  simp at ha'
  obtain ⟨rfl, rfl⟩ := ha'
  exact hc'
theorem Bo.below {w w' : World} {a : Option Addr} {n c : Nat} {l : List Bool} (h : Bo w a n c l) {B : Nat} (hb : Below B w w') (hB : w.heap.size ≤ B) : Bo w' a n c l := by
  refine ⟨h.1, h.2.1, h.2.2.1, h.2.2.2.1, fun i hi => ?_⟩
  obtain ⟨b, o, ha, hc⟩ := h.2.2.2.2 i hi
  refine ⟨b, o, ha, ?_⟩
  rw [hb.cell (p := ⟨b, o + i, none⟩) (by have := lt_of_cell hc; simp at this ⊢; omega)]
  exact hc
theorem Bo.setO {w : World} {a : Option Addr} {n c : Nat} {l : List Bool} (h : Bo w a n c l) {p : Addr} (hp : ∀ x, a = some x → x.block ≠ p.block) (u : Value) : Bo (w.setCell p u) a n c l := by
  refine ⟨h.1, h.2.1, h.2.2.1, h.2.2.2.1, fun i hi => ?_⟩
  obtain ⟨b, o, ha, hc⟩ := h.2.2.2.2 i hi
  have hne : b ≠ p.block := hp _ ha
  refine ⟨b, o, ha, ?_⟩
  rw [World.cell?_of_block (w := w) (a := ⟨b, o + i, none⟩) (Below.heap_setCell _ _ _ _ hne)]
  exact hc
theorem Bo.drN {w : World} {a : Option Addr} {n c : Nat} {l : List Bool} (h : Bo w a n c l) (d : Nat) : Bo (w.drewN d) a n c l := h
theorem Bo.dr {w : World} {a : Option Addr} {n c : Nat} {l : List Bool} (h : Bo w a n c l) : Bo w.drew a n c l := h
theorem Blk.bo {w : World} {g : Nat} {l : List Bool} {t : TypeId} (h : Blk w g (bo l) t) (hm : l.length ≤ 1000000) : Bo w (some ⟨g, 0, none⟩) l.length l.length l :=
  ⟨rfl, Nat.le_refl _, by unfold maxLen; omega, by simp, fun i hi => ⟨g, 0, rfl, by rw [Nat.zero_add, h.cell, bo_get hi]⟩⟩
theorem Blk.atB {w : World} {g : Nat} {l : List Bool} {t : TypeId} (h : Blk w g (Go.Proofs.YtfknplcnfpincaaGreat.bo l) t) {k : Nat} (hk : k < l.length) : w.cell? ⟨g, k, none⟩ = some (.bool (l.getD k false)) := by
  rw [h.cell, bo_get hk]
theorem Blk.setB {w : World} {g : Nat} {l : List Bool} {t : TypeId} (h : Blk w g (Go.Proofs.YtfknplcnfpincaaGreat.bo l) t) (k : Nat) (x : Bool) : Blk (w.setCell ⟨g, k, none⟩ (.bool x)) g (Go.Proofs.YtfknplcnfpincaaGreat.bo (l.set k x)) t := by
  have := h.setC k (.bool x)
  rw [bo_set] at this
  exact this

/-- The value v is a slice of the bools l, in memory of the call's own from block 'base' on. -/
def OwnB (w : World) (base : Nat) (v : Value) (l : List Bool) : Prop := w.ownsRow base 4 1 v l.length (bo l)
theorem infoB : (Tryz.prog.info? 4).map (fun i => (i.zero, i.size, i.bytes)) = some (some (.bool false), 1, 1) := by kernel_rfl
theorem OwnB.nil (w : World) (base : Nat) : OwnB w base (.slice none 0 0) [] := World.ownsRow_nil _ _ _ _
theorem OwnB.below {w w' : World} {base B : Nat} {v : Value} {l : List Bool} (h : OwnB w base v l) (hb : Below B w w') (hB : w.heap.size ≤ B) : OwnB w' base v l := by
  obtain ⟨h1, h2⟩ := h
  refine ⟨h1, ?_⟩
  rcases h2 with h2 | ⟨g, cap, cur, hv, hg, hh, r⟩
  · exact Or.inl h2
  · refine Or.inr ⟨g, cap, cur, hv, hg, ?_, r⟩
    have hlt : g < w.heap.size := by
      by_cases e : g < w.heap.size
      · exact e
      · rw [Array.getElem?_eq_none (by omega)] at hh; simp at hh
    rw [hb.block g (by omega)]
    exact hh
theorem OwnB.size {w : World} {base : Nat} {v : Value} {l : List Bool} (h : OwnB w base v l) : ∀ k, v.ownBlock = some k → base ≤ k := fun k hk => (World.ownsRow.lt h k hk).1
/-- What is owned is a slice of bools. -/
theorem OwnB.bo {w : World} {base : Nat} {v : Value} {l : List Bool} (h : OwnB w base v l) : ∃ a c, v = .slice a l.length c ∧ Bo w a l.length c l ∧ ∀ x, a = some x → base ≤ x.block := by
  have h' := h
  obtain ⟨h1, h2⟩ := h
  rcases h2 with ⟨rfl, h0⟩ | ⟨g, cap, cur, rfl, hg, hh, hn, hm, r⟩
  · have e : l = [] := List.length_eq_zero_iff.1 h0
    subst e
    exact ⟨none, 0, rfl, ⟨rfl, Nat.le_refl _, Nat.zero_le _, fun _ => rfl, fun i hi => by simp at hi⟩, fun x hx => by simp at hx⟩
  · refine ⟨_, cap, rfl, ⟨rfl, hn, hm, by simp, fun i hi => ⟨g, 0, rfl, ?_⟩⟩, fun x hx => by simp only [Option.some.injEq] at hx; subst hx; exact hg⟩
    have := World.ownsRow.cellAt h' i (by omega)
    rw [bo_get hi] at this
    simpa using this
theorem Bo.news {w : World} {ad : Addr} {m c : Nat} {l : List Bool} (h : Bo w (some ad) m c l) (j : Nat) (u : Value) (hj : (Go.Proofs.YtfknplcnfpincaaGreat.bo l)[j]? = some u) : w.cell? (ad.add j) = some u := by
  have hl := h.len
  by_cases hjl : j < l.length
  · rw [bo_get hjl] at hj
    obtain ⟨b, o, ha, hc⟩ := h.2.2.2.2 j (by omega)
    simp only [Option.some.injEq] at ha
    subst ha
    rw [Addr.add_mid, hc]
    exact hj
  · rw [List.getElem?_eq_none (by rw [bo_length]; omega)] at hj
    simp at hj

/-- 'append(out, src...)', out the call's own, src a slice of bools that is not nil. -/
theorem wpList_bapp {ops : Array Oper} {rest : List Oper} {o : Oper} {a : Act} {Q : Exit → Act → World → Prop} (w : World) (hgd : o.guard = none) (s x : Operand)
    (ho : o.op = Op.call { callee := Callee.builtin Builtin.append, args := #[s, x], argTypes := #[86, 86] }) (base : Nat) (v : Value) (l : List Bool) (hs : a.eval s = v) (hown : OwnB w base v l)
    (ad : Addr) (m c : Nat) (news : List Bool) (hx : a.eval x = .slice (some ad) m c) (hb : Bo w (some ad) m c news) (hz : l.length + news.length ≤ 1000000000) (hbase : base ≤ w.heap.size)
    (h : ∀ v' w', OwnB w' base v' (l ++ news) → Below base w w' → wpList Tryz.prog ops Q rest (a.put o.dst v') w') : wpList Tryz.prog ops Q (o :: rest) a w := by
  obtain ⟨i0, hi, hz0, hz1, hz2⟩ := info_parts infoB
  have hl := hb.len
  refine wpList_append_own w hgd s x 86 ho base 4 i0 (.bool false) 1 1 Tryz.underlying86 hi hz0 hz1 hz2 rfl (by decide) v _ _ hs hown ad m c (bo news) hx (by rw [bo_length]; omega) hb.news bo_one (by unfold maxLen; omega) (by omega) hbase ?_
  intro v' w' ho' hg _
  refine h v' w' ?_ ((Below.refl _ _).grown hg hbase (OwnB.size hown))
  unfold OwnB
  rw [bo_append, List.length_append, hl]
  exact ho'
/-- 'make([]bool, n)': a block that is known whole. -/
theorem wpList_bmk {ops : Array Oper} {rest : List Oper} {o : Oper} {a : Act} {Q : Exit → Act → World → Prop} (w : World) (hgd : o.guard = none) (l c : Operand)
    (ho : o.op = Op.makeSlice 86 l c) (n : Nat) (C : Int) (hl : a.eval l = .int .i64 C) (hc : a.eval c = .int .i64 C) (hC : C = n) (hz : n ≤ 2147483647)
    (h : ∀ g w', w.heap.size ≤ g → Blk w' g (bo (List.replicate n false)) 4 → Below w.heap.size w w' → wpList Tryz.prog ops Q rest (a.put o.dst (.slice (some ⟨g, 0, none⟩) n n)) w') : wpList Tryz.prog ops Q (o :: rest) a w := by
  obtain ⟨i0, hi, hz0, hz1, hz2⟩ := info_parts infoB
  refine wpList_make_full w hgd l c 86 ho w.heap.size 4 i0 (.bool false) 1 Tryz.underlying86 hi hz0 hz1 .i64 .i64 C C n hl hc hC hC (by rw [hz2]; omega) (by unfold maxLen; omega) (Nat.le_refl _) ?_
  intro w' ho' hg
  have e : (madeCells (Value.bool false).cells (n * 1)).toList = bo (List.replicate n false) := by
    rw [show (Value.bool false).cells = #[.bool false] from rfl, toList_madeCells_one]
    simp [bo]
  rw [e] at ho'
  refine h w.heap.size w' (Nat.le_refl _) ?_ ((Below.refl _ _).grown hg (Nat.le_refl _) (by simp))
  rcases ho'.2 with ⟨e0, _⟩ | ⟨g, cap, cur, e0, _, hh, _, _, hsz, ht⟩
  · simp at e0
  · simp only [Value.slice.injEq, Option.some.injEq, Addr.mk.injEq] at e0
    obtain ⟨⟨rfl, _⟩, _, rfl⟩ := e0
    unfold Blk
    rw [hh, ← ht, List.take_of_length_le (by simp [hsz])]
/-- What a call that hands back bools in new memory leaves. -/
def GivesB (w : World) (l : List Bool) (e : Ending) (w' : World) : Prop := ∃ a c, e = .returned (.slice a l.length c) ∧ Bo w' a l.length c l ∧ (∀ x, a = some x → w.heap.size ≤ x.block) ∧ Below w.heap.size w w'
theorem GivesB.mk {w w' : World} {v : Value} {l : List Bool} (h : OwnB w' w.heap.size v l) (hb : Below w.heap.size w w') : GivesB w l (.returned v) w' := by
  obtain ⟨a, c, rfl, hB, hx⟩ := h.bo
  exact ⟨a, c, rfl, hB, hx, hb⟩
theorem bo_made (w : World) (x : Bool) : Bo (w.alloc (.cells #[.bool x] 4)) (some ⟨w.heap.size, 0, none⟩) 1 1 [x] :=
  ⟨rfl, Nat.le_refl _, by unfold maxLen; omega, by simp, fun i hi => ⟨w.heap.size, 0, rfl, by
    obtain rfl : i = 0 := by omega
    rw [Nat.zero_add, cell_new]
    rfl⟩⟩
theorem quo8 (k : Nat) : (k : Int).tdiv 8 = ((k / 8 : Nat) : Int) := by
  rw [Int.tdiv_eq_ediv_of_nonneg (by omega)]
  omega
theorem rem8 (k : Nat) : (k : Int).tmod 8 = ((k % 8 : Nat) : Int) := by
  rw [Int.tmod_eq_emod_of_nonneg (by omega)]
  omega
theorem map_stepN {α : Type} (f : Nat → α) {m k : Nat} (h : k < m) : ((List.range m).map f).take (k + 1) = ((List.range m).map f).take k ++ [f k] := by
  have hl : k < ((List.range m).map f).length := by simp; exact h
  rw [List.take_succ_eq_append_getElem hl]
  simp

end Go.Proofs.YtfknplcnfpincaaGreat

/-
  The contract of layer 5's reference's Bits. Condition: at most 16 bytes.
-/
namespace Go.Proofs.YtfknplcnfpincaaGreat
open Go.RowKit

theorem mapB_step (f : Nat → Bool) {k : Nat} (h : k < 128) : ((List.range 128).map f).take (k + 1) = ((List.range 128).map f).take k ++ [f k] := by
  have hl : k < ((List.range 128).map f).length := by simp; exact h
  rw [List.take_succ_eq_append_getElem hl]
  simp

set_option maxRecDepth 100000 in
set_option maxHeartbeats 1000000 in
theorem rBits (w : World) {a : Option Addr} {n c : Nat} {l : List UInt8} (ha : Bs w a n c l) (hn : n ≤ 16) :
    Calls Tryz.prog 64 #[.slice a n c] w (GivesB w (fb (feB l))) := by
  rw [fb_feB]
  have HL : Hid (l.length = n) := ha.len
  go_enter Tryz.func64, Tryz.ntmps64
  go_wp2_with fail
  go_loopw [3, 4] (fun v i wr => ∃ k : Nat, k ≤ 128 ∧ i = .int .i64 k ∧ OwnB wr w.heap.size v (((List.range 128).map (bitB l)).take k) ∧ Below w.heap.size w wr) (fun _ i _ => 128 - (intOf i).toNat)
  case atStart => exact ⟨0, by omega, rfl, OwnB.nil _ _, Below.refl _ _⟩
  case round =>
    obtain ⟨k, hk, rfl, ho, hb⟩ := hrel
    by_cases hlt : k < 128
    · have h0 : (0 : Int) ≤ (k : Int) := by omega
      have h8 : (k : Int) < 128 := by omega
      have HS := mapB_step (bitB l) hlt
      have hr : (((List.range 128).map (bitB l)).take k).length + 1 ≤ 1000000000 := by
        have : (((List.range 128).map (bitB l)).take k).length ≤ ((List.range 128).map (bitB l)).length := List.length_take_le' _ _
        rw [List.length_map, List.length_range] at this
        omega
      have hs := hb.size
      have t1 := quo8 k
      have t2 : (k : Int) / 8 = ((k / 8 : Nat) : Int) := by omega
      have t3 := rem8 k
      have t4 : (k : Int) % 8 = ((k % 8 : Nat) : Int) := by omega
      have HBB : bitB l k = (decide (k / 8 < l.length) && decide ((l.getD (k / 8) 0 >>> UInt8.ofNat (7 - k % 8)) &&& 1 = 1)) := rfl
      have m8 : k % 8 < 8 := by omega
      by_cases hq : k / 8 < n
      · obtain ⟨b, o, rfl, hbl, hc⟩ := ha.at (by omega)
        rw [HL.out, decide_eq_true hq, Bool.true_and] at HBB
        generalize hq' : k / 8 = q at *
        generalize hm' : k % 8 = m at *
        have q0 : (0 : Int) ≤ (q : Int) := by omega
        have q1 : (q : Int) < (n : Int) := by omega
        have c1 : wr.cell? ⟨b, o + q, none⟩ = some (.int .u8 (bt l q)) := by rw [hb.cell (p := ⟨b, o + q, none⟩) hbl]; exact hc q hq
        unfold bt at c1
        generalize l.getD q 0 = y at c1 HBB
        obtain ⟨s, hs7⟩ : ∃ s, s = 7 - m := ⟨_, rfl⟩
        rw [← hs7] at HBB
        have s0 : (7 : Int) - (m : Int) = (s : Int) := by omega
        have s1 : (0 : Int) ≤ (s : Int) := by omega
        have e1 := b_shr y s (by omega)
        generalize y >>> UInt8.ofNat s = z at e1 HBB
        have e2 := bit_and z
        generalize z &&& 1 = x at e2 HBB
        have e3 : ((x.toNat : Int) == 1) = decide (x = 1) := by
          by_cases hx : x = 1
          · subst hx; rfl
          · rw [one_not hx]; simp [hx]
        rw [← HBB] at e3
        generalize hbit : bitB l k = bit at *
        have HS' : Hid (_ = _) := HS
        clear HS HBB hbit hs7 hc hq' hm'
        go_wp2_with (at_builtin; go_must (refine wpList_bapp (wr.alloc (.cells #[.bool bit] 4)) rfl (.tmp 9) (.tmp 28) rfl w.heap.size _ _ rfl (ho.below (below_alloc _ _) (Nat.le_refl _)) ⟨wr.heap.size, 0, none⟩ 1 1 [bit] rfl (bo_made wr bit) hr (by simp; omega) ?_); intro v2 w2 ho2 hb2)
        go_roundw
        case rel => exact ⟨k + 1, by omega, by go_num, by rw [HS'.out]; exact ho2, (hb.alloc hs _).trans hb2⟩
        case measure => simp [intOf]; omega
      · rw [HL.out, decide_eq_false hq, Bool.false_and] at HBB
        have hq2 : ¬ ((k / 8 : Nat) : Int) < (n : Int) := by omega
        have hq3 : decide (((k / 8 : Nat) : Int) < (n : Int)) = false := by simpa using hq2
        rw [HBB] at HS
        have HS' : Hid (_ = _) := HS
        generalize k / 8 = q at *
        clear HS HBB
        go_wp2_with (at_builtin; go_must (refine wpList_bapp (wr.alloc (.cells #[.bool false] 4)) rfl (.tmp 9) (.tmp 28) rfl w.heap.size _ _ rfl (ho.below (below_alloc _ _) (Nat.le_refl _)) ⟨wr.heap.size, 0, none⟩ 1 1 [false] rfl (bo_made wr false) hr (by simp; omega) ?_); intro v2 w2 ho2 hb2)
        go_roundw
        case rel => exact ⟨k + 1, by omega, by go_num, by rw [HS'.out]; exact ho2, (hb.alloc hs _).trans hb2⟩
        case measure => simp [intOf]; omega
    · rw [List.take_of_length_le (by simp; omega)] at ho
      go_wp2
      go_ret
      exact GivesB.mk ho hb

end Go.Proofs.YtfknplcnfpincaaGreat

/-
  The contract of layer 5's reference's Times. No condition but that both are rows of 128 bits.
-/
namespace Go.Proofs.YtfknplcnfpincaaGreat
open Go.RowKit

theorem lin_yes {a : Fe} {f : Nat → Fe} {i : Nat} (h : a.getLsbD i = true) : lin a f (i + 1) = lin a f i ^^^ f i := by rw [lin, if_pos h]
theorem lin_no {a : Fe} {f : Nat → Fe} {i : Nat} (h : a.getLsbD i = false) : lin a f (i + 1) = lin a f i := by rw [lin, h]; simp
theorem rep_length : (List.replicate 128 false).length = 128 := List.length_replicate ..
set_option maxRecDepth 100000 in
theorem fb_zero : fb 0 = List.replicate 128 false := by decide +kernel
theorem up_start (x : Fe) : overB (fb (x <<< 1)) (List.replicate 128 false) 1 = List.replicate 128 false := by
  have h := overB_set (L := fb (x <<< 1)) (a := List.replicate 128 false) (by rw [fb_length, rep_length]) (k := 0) (by rw [rep_length]; omega)
  rw [← h, overB_zero, fb_up_at x (by omega)]
  simp
theorem up_end (x : Fe) : overB (fb (x <<< 1)) (List.replicate 128 false) 128 = fb (x <<< 1) := by
  have h := overB_end (L := fb (x <<< 1)) (a := List.replicate 128 false) (by rw [fb_length, rep_length])
  rw [rep_length] at h
  exact h
theorem tx_lo {x : Fe} (h : x.getLsbD 127 = false) : tx x = x <<< 1 := by unfold tx; rw [h]; simp
theorem bit87 (j : Nat) : (0x87 : Fe).getLsbD j = (decide (j = 0) || decide (j = 1) || decide (j = 2) || decide (j = 7)) := by
  by_cases h : j < 128
  · have : ∀ i : Fin 128, (0x87 : Fe).getLsbD i.val = (decide (i.val = 0) || decide (i.val = 1) || decide (i.val = 2) || decide (i.val = 7)) := by decide +kernel
    exact this ⟨j, h⟩
  · rw [BitVec.getLsbD_of_ge _ _ (by omega)]
    have h0 : ¬ j = 0 := by omega
    have h1 : ¬ j = 1 := by omega
    have h2 : ¬ j = 2 := by omega
    have h7 : ¬ j = 7 := by omega
    simp [h0, h1, h2, h7]
/-- Four bits turned. -/
theorem tx_hi {x : Fe} (h : x.getLsbD 127 = true) : fb (tx x) = ((((fb (x <<< 1)).set 0 (!(x <<< 1).getLsbD 0)).set 1 (!(x <<< 1).getLsbD 1)).set 2 (!(x <<< 1).getLsbD 2)).set 7 (!(x <<< 1).getLsbD 7) := by
  have e : tx x = (x <<< 1) ^^^ 0x87 := by unfold tx; rw [h]; rfl
  rw [e]
  generalize x <<< 1 = y
  apply List.ext_getElem
  · simp [fb]
  · intro i h1 h2
    rw [fb_length] at h1
    simp only [fb, List.getElem_map, List.getElem_range, List.getElem_set, BitVec.getLsbD_xor, bit87]
    by_cases h7 : i = 7
    · subst h7; simp
    · by_cases h2' : i = 2
      · subst h2'; simp
      · by_cases h1' : i = 1
        · subst h1'; simp
        · by_cases h0 : i = 0
          · subst h0; simp
          · have a7 : ¬ 7 = i := by omega
            have a2 : ¬ 2 = i := by omega
            have a1 : ¬ 1 = i := by omega
            have a0 : ¬ 0 = i := by omega
            simp [h7, h2', h1', h0, a7, a2, a1, a0]

set_option maxRecDepth 100000 in
set_option maxHeartbeats 4000000 in
theorem rTimesF (w : World) {pa pb : Option Addr} {ca cb : Nat} {a b : Fe} (ha : Bo w pa 128 ca (fb a)) (hb : Bo w pb 128 cb (fb b)) :
    Calls Tryz.prog 97 #[.slice pa 128 ca, .slice pb 128 cb] w (GivesB w (fb (fmul a b))) := by
  obtain ⟨ba, oa, rfl, hal, hca⟩ := ha.at (by omega)
  obtain ⟨bb, ob, rfl, hbl, hcb⟩ := hb.at (by omega)
  clear hcb
  go_enter Tryz.func97, Tryz.ntmps97
  go_wp2_with (first
    | (at_make; go_must (refine wpList_bmk w rfl _ _ rfl 128 _ rfl rfl rfl (by omega) ?_); intro g w1 hg bG hb1; have hbo1 := hb.below hb1 (Nat.le_refl _))
    | (at_builtin; go_must (refine wpList_bapp w1 rfl (.tmp 13) (.tmp 14) rfl w1.heap.size (.slice none 0 0) [] rfl (OwnB.nil _ _) ⟨bb, ob, none⟩ 128 cb (fb b) rfl hbo1 (by rw [fb_length]; simp) (Nat.le_refl _) ?_); intro vx w2 hox hb2))
  rw [List.nil_append] at hox
  obtain ⟨px, cx, rfl, hBx, hxb⟩ := hox.bo
  rw [fb_length] at hBx ⊢
  have bG2 := bG.below hb2 bG.lt
  have q2 := hb1.trans (hb2.mono hb1.size)
  have hgl := bG.lt
  have hne : ∀ y, px = some y → y.block ≠ g := fun y hy => by have := hxb y hy; omega
  rw [← fb_zero] at bG2
  clear hox hxb bG hb1 hb2 hbo1 hb
  go_loopw [6, 7, 8, 9, 10, 11] (fun v i _ _ _ _ wr => ∃ (k : Nat) (px : Option Addr) (cx : Nat), k ≤ 128 ∧ i = .int .i64 k ∧ v = .slice px 128 cx ∧ Bo wr px 128 cx (fb (txN b k)) ∧ (∀ y, px = some y → y.block ≠ g) ∧ Blk wr g (bo (fb (lin a (txN b) k))) 4 ∧ Below w.heap.size w wr) (fun _ i _ _ _ _ _ => 128 - (intOf i).toNat)
  case atStart => exact ⟨0, px, cx, by omega, rfl, rfl, hBx, hne, bG2, q2⟩
  case round =>
    clear hBx hne bG2 q2
    obtain ⟨i, px, cx, hi, rfl, rfl, hBx, hne, bG, hbw⟩ := hrel
    rename World => wo
    by_cases hlt : i < 128
    · have i0 : (0 : Int) ≤ (i : Int) := by omega
      have i8 : (i : Int) < 128 := by omega
      have c1 : wo.cell? ⟨ba, oa + i, none⟩ = some (.bool (a.getLsbD i)) := by rw [hbw.cell (p := ⟨ba, oa + i, none⟩) hal, hca i hlt, fb_at a hlt]
      generalize hai : a.getLsbD i = ai at c1
      have HAI : Hid (a.getLsbD i = ai) := hai
      clear hai
      obtain ⟨x, hx⟩ : ∃ x, x = txN b i := ⟨_, rfl⟩
      obtain ⟨s, hs⟩ : ∃ s, s = lin a (txN b) i := ⟨_, rfl⟩
      have HX : Hid (x = txN b i) := hx
      have HS : Hid (s = lin a (txN b) i) := hs
      rw [← hx] at hBx
      rw [← hs] at bG
      clear hx hs
      obtain ⟨s', hs'⟩ : ∃ s', s' = lin a (txN b) (i + 1) := ⟨_, rfl⟩
      have HS' : Hid (s' = lin a (txN b) (i + 1)) := hs'
      clear hs'
      go_upto_if 23 with fail
      go_cut [8] (fun _ wx => Bo wx px 128 cx (fb x) ∧ Blk wx g (bo (fb s')) 4 ∧ Below w.heap.size w wx ∧ wo.heap.size ≤ wx.heap.size)
      case first =>
        cases ai with
        | false =>
          have HE : Hid (s' = s) := by show _ = _; rw [HS'.out, HS.out]; exact lin_no HAI.out
          go_wp2_with fail
          go_meet
          case rel => exact ⟨hBx, by rw [HE.out]; exact bG, hbw, Nat.le_refl _⟩
        | true =>
          have HE : Hid (s' = s ^^^ x) := by show _ = _; rw [HS'.out, HS.out, HX.out]; exact lin_yes HAI.out
          obtain ⟨bx, ox, rfl, hxl, hcx⟩ := hBx.at (by omega)
          have hbxg : ¬ bx = g := hne _ rfl
          have hbxg' : ¬ g = bx := fun e => hbxg e.symm
          go_wp2_with fail
          go_loopw [8] (fun kk wr => ∃ k : Nat, k ≤ 128 ∧ kk = .int .i64 k ∧ Bo wr (some ⟨bx, ox, none⟩) 128 cx (fb x) ∧ Blk wr g (bo (overB (fb s') (fb s) k)) 4 ∧ Below w.heap.size w wr ∧ wo.heap.size ≤ wr.heap.size) (fun kk _ => 128 - (intOf kk).toNat)
          case atStart => exact ⟨0, by omega, rfl, hBx, by rw [overB_zero]; exact bG, hbw, Nat.le_refl _⟩
          case round =>
            obtain ⟨k, hk, rfl, hB, bK, hbk, hsz⟩ := hrel
            by_cases hkl : k < 128
            · have k0 : (0 : Int) ≤ (k : Int) := by omega
              have k8 : (k : Int) < 128 := by omega
              have hll : (fb s').length = (fb s).length := by rw [fb_length, fb_length]
              obtain ⟨_, _, ex, _, hcc⟩ := hB.at (by omega)
              simp only [Option.some.injEq, Addr.mk.injEq, and_true] at ex
              obtain ⟨rfl, rfl⟩ := ex
              have d1 := hcc k hkl
              rw [fb_at x hkl] at d1
              have d2 := bK.atB (k := k) (by rw [overB_length hll, fb_length]; exact hkl)
              rw [overB_at hll (by rw [fb_length]; omega) (Nat.le_refl _), fb_at s hkl] at d2
              have f2 := bK.free k
              have bN := bK.setB k ((fb s').getD k false)
              rw [overB_set hll (by rw [fb_length]; exact hkl), HE.out, fb_xor_at s x hkl, ← HE.out] at bN
              generalize s.getLsbD k = sk at d2 bN
              generalize x.getLsbD k = xk at d1 bN
              have BN : Hid _ := bN
              clear bN hcc
              go_wp2_with fail
              go_region
              go_wp2_with fail
              go_roundw
              case rel => exact ⟨k + 1, by omega, by go_num, (hB.setO (p := ⟨g, k, none⟩) hne _).dr, BN.out, (hbk.setCell (by simp; omega) _).drew, by simpa using hsz⟩
              case measure => simp [intOf]; omega
            · obtain rfl : k = 128 := by omega
              rw [show (128 : Nat) = (fb s).length from (fb_length s).symm, overB_end (by rw [fb_length, fb_length])] at bK
              go_wp2_with fail
              go_meet
              case rel => exact ⟨hB, bK, hbk, hsz⟩
      case rest =>
        clear hBx bG hbw c1
        obtain ⟨hBx, bG, hbw, hsz⟩ := hcut
        have HT : Hid (txN b (i + 1) = tx x) := by show _ = _; rw [HX.out]; rfl
        obtain ⟨bx, ox, rfl, hxl, hcx⟩ := hBx.at (by omega)
        have hbxg : ¬ bx = g := hne _ rfl
        have c127 := hcx 127 (by omega)
        rw [fb_at x (by omega)] at c127
        obtain ⟨last, hlast⟩ : ∃ z, z = x.getLsbD 127 := ⟨_, rfl⟩
        rw [← hlast] at c127
        have HLA : Hid (x.getLsbD 127 = last) := hlast.symm
        clear hlast hcx
        have hgw := bG.lt
        go_wp2_with (at_make; go_must (refine wpList_bmk wc rfl _ _ rfl 128 _ rfl rfl rfl (by omega) ?_); intro gn w3 hgn bN hb3)
        have bG3 := bG.below hb3 hgw
        have hB3 := hBx.below hb3 (Nat.le_refl _)
        have q3 := hbw.trans (hb3.mono hbw.size)
        have hgng : ¬ gn = g := by omega
        have hgng' : ¬ g = gn := by omega
        have hgnx : ¬ bx = gn := by omega
        have hgnw : w.heap.size ≤ gn := Nat.le_trans hbw.size hgn
        clear bG hBx hbw hb3 c127
        go_loopw [11] (fun kk wr => ∃ k : Nat, 1 ≤ k ∧ k ≤ 128 ∧ kk = .int .i64 k ∧ Bo wr (some ⟨bx, ox, none⟩) 128 cx (fb x) ∧ Blk wr g (bo (fb s')) 4 ∧ Blk wr gn (bo (overB (fb (x <<< 1)) (List.replicate 128 false) k)) 4 ∧ Below w.heap.size w wr) (fun kk _ => 128 - (intOf kk).toNat)
        case atStart => exact ⟨1, by omega, by omega, rfl, hB3, bG3, by rw [up_start]; exact bN, q3⟩
        case round =>
          clear hB3 bG3 bN q3
          obtain ⟨k, hk1, hk, rfl, hB, bG, bN, hbk⟩ := hrel
          have hll : (fb (x <<< 1)).length = (List.replicate 128 false).length := by rw [fb_length, rep_length]
          by_cases hkl : k < 128
          · have k0 : (0 : Int) ≤ (k : Int) := by omega
            have k1 : (1 : Int) ≤ (k : Int) := by omega
            have k8 : (k : Int) < 128 := by omega
            obtain ⟨_, _, ex, _, hcc⟩ := hB.at (by omega)
            simp only [Option.some.injEq, Addr.mk.injEq, and_true] at ex
            obtain ⟨rfl, rfl⟩ := ex
            have d1 := hcc (k - 1) (by omega)
            rw [fb_at x (by omega)] at d1
            have d2 := bN.atB (k := k) (by rw [overB_length hll, rep_length]; exact hkl)
            have f2 := bN.free k
            have bM := bN.setB k ((fb (x <<< 1)).getD k false)
            rw [overB_set hll (by rw [rep_length]; exact hkl), fb_up_at x hkl, decide_eq_true (show 0 < k by omega), Bool.true_and] at bM
            generalize x.getLsbD (k - 1) = xk at d1 bM
            have BM : Hid _ := bM
            clear bM hcc
            go_wp2_with fail
            go_roundw
            case rel => exact ⟨k + 1, by omega, by omega, by go_num, hB.setO (p := ⟨gn, k, none⟩) (fun y hy => by simp only [Option.some.injEq] at hy; subst hy; exact hgnx) _, bG.setO (by simpa using hgng') _, BM.out, hbk.setCell (by simpa using hgnw) _⟩
            case measure => simp [intOf]; omega
          · obtain rfl : k = 128 := by omega
            rw [up_end] at bN
            have n0 := bN.atB (k := 0) (by rw [fb_length]; omega)
            have n1 := bN.atB (k := 1) (by rw [fb_length]; omega)
            have n2 := bN.atB (k := 2) (by rw [fb_length]; omega)
            have n7 := bN.atB (k := 7) (by rw [fb_length]; omega)
            rw [fb_at _ (by omega)] at n0 n1 n2 n7
            have f0 := bN.free 0
            have f1 := bN.free 1
            have f2 := bN.free 2
            have f7 := bN.free 7
            cases last with
            | false =>
              have HE : Hid (tx x = x <<< 1) := tx_lo HLA.out
              go_wp2_with fail
              go_roundw
              case rel =>
                have hB2 := bN.bo (by rw [fb_length]; omega)
                rw [fb_length] at hB2
                exact ⟨i + 1, some ⟨gn, 0, none⟩, 128, by omega, by go_num, rfl, by rw [HT.out, HE.out]; exact hB2, fun y hy => by simp only [Option.some.injEq] at hy; subst hy; exact hgng, by rw [← HS'.out]; exact bG, hbk⟩
              case measure => simp [intOf]; omega
            | true =>
              have HE : Hid (fb (tx x) = _) := tx_hi HLA.out
              have bM := (((bN.setB 0 (!(x <<< 1).getLsbD 0)).setB 1 (!(x <<< 1).getLsbD 1)).setB 2 (!(x <<< 1).getLsbD 2)).setB 7 (!(x <<< 1).getLsbD 7)
              rw [← HE.out] at bM
              generalize (x <<< 1).getLsbD 0 = z0 at n0 bM
              generalize (x <<< 1).getLsbD 1 = z1 at n1 bM
              generalize (x <<< 1).getLsbD 2 = z2 at n2 bM
              generalize (x <<< 1).getLsbD 7 = z7 at n7 bM
              have BM : Hid _ := bM
              clear bM HE
              go_wp2_with fail
              go_roundw
              case rel =>
                have hB2 := Blk.bo BM.out (by rw [fb_length]; omega)
                rw [fb_length] at hB2
                exact ⟨i + 1, some ⟨gn, 0, none⟩, 128, by omega, by go_num, rfl, by rw [HT.out]; exact hB2, fun y hy => by simp only [Option.some.injEq] at hy; subst hy; exact hgng, by rw [← HS'.out]; exact (((bG.setO (by simpa using hgng') _).setO (by simpa using hgng') _).setO (by simpa using hgng') _).setO (by simpa using hgng') _, (((hbk.setCell (by simpa using hgnw) _).setCell (by simpa using hgnw) _).setCell (by simpa using hgnw) _).setCell (by simpa using hgnw) _⟩
              case measure => simp [intOf]; omega
    · obtain rfl : i = 128 := by omega
      go_wp2_with fail
      go_ret
      have := bG.bo (by rw [fb_length]; omega)
      exact ⟨_, _, rfl, this, fun y hy => by simp only [Option.some.injEq] at hy; subst hy; exact hg, hbw⟩

end Go.Proofs.YtfknplcnfpincaaGreat

/-
  The contracts of layer 5's reference's Bytes and Hash. Condition: rows of 128 bits; at most 1000 bytes.
-/
namespace Go.Proofs.YtfknplcnfpincaaGreat
open Go.RowKit

/-- The bytes of an element, behind so many bits. -/
def byS (a : Fe) : Nat → List UInt8
  | 0 => List.replicate 16 0
  | i + 1 => if a.getLsbD i then (byS a i).set (i / 8) ((byS a i).getD (i / 8) 0 ||| (1 <<< UInt8.ofNat (7 - i % 8))) else byS a i
def byF (a : Fe) : List UInt8 := byS a 128
theorem byS_length (a : Fe) (i : Nat) : (byS a i).length = 16 := by
  induction i with
  | zero => rfl
  | succ i ih =>
    rw [byS]
    split
    · rw [List.length_set, ih]
    · exact ih
theorem shl_one {s : Nat} (h : s < 8) : (1 : Int) * (2 : Int) ^ s % 256 = ((1 <<< UInt8.ofNat s : UInt8).toNat : Int) := b_shl 1 s h
theorem pow_byte {s : Nat} (h : s < 8) : (2 : Int) ^ s = ((1 <<< UInt8.ofNat s : UInt8).toNat : Int) := by
  have : ∀ i : Fin 8, (2 : Int) ^ i.val = ((1 <<< UInt8.ofNat i.val : UInt8).toNat : Int) := by decide +kernel
  exact this ⟨s, h⟩

set_option maxRecDepth 100000 in
set_option maxHeartbeats 1000000 in
theorem rBytesF (w : World) {pa : Option Addr} {ca : Nat} {a : Fe} (ha : Bo w pa 128 ca (fb a)) :
    Calls Tryz.prog 76 #[.slice pa 128 ca] w (Gives w (byF a)) := by
  obtain ⟨ba, oa, rfl, hal, hca⟩ := ha.at (by omega)
  clear ha
  go_enter Tryz.func76, Tryz.ntmps76
  go_wp2_with (at_make; go_must (refine wpList_mkn w rfl _ _ rfl w.heap.size 16 _ rfl rfl rfl (by omega) (Nat.le_refl _) ?_); intro g w1 hg hgl hown hb1)
  go_loopw [4] (fun i wr => ∃ k : Nat, k ≤ 128 ∧ i = .int .i64 k ∧ Own wr w.heap.size (.slice (some ⟨g, 0, none⟩) 16 16) (byS a k) ∧ Below w.heap.size w wr) (fun i _ => 128 - (intOf i).toNat)
  case atStart => exact ⟨0, by omega, rfl, hown, hb1⟩
  case round =>
    clear hown hb1
    obtain ⟨k, hk, rfl, ho, hb⟩ := hrel
    by_cases hlt : k < 128
    · have h0 : (0 : Int) ≤ (k : Int) := by omega
      have h8 : (k : Int) < 128 := by omega
      have c1 : wr.cell? ⟨ba, oa + k, none⟩ = some (.bool (a.getLsbD k)) := by rw [hb.cell (p := ⟨ba, oa + k, none⟩) hal, hca k hlt, fb_at a hlt]
      have HN : byS a (k + 1) = if a.getLsbD k then (byS a k).set (k / 8) ((byS a k).getD (k / 8) 0 ||| (1 <<< UInt8.ofNat (7 - k % 8))) else byS a k := rfl
      generalize a.getLsbD k = bit at c1 HN
      have t1 := quo8 k
      have t2 : (k : Int) / 8 = ((k / 8 : Nat) : Int) := by omega
      have t3 := rem8 k
      have t4 : (k : Int) % 8 = ((k % 8 : Nat) : Int) := by omega
      have q16 : k / 8 < 16 := by omega
      have m8 : k % 8 < 8 := by omega
      cases bit with
      | false =>
        have HN' : Hid (byS a (k + 1) = byS a k) := by show _ = _; rw [HN]; rfl
        clear HN
        go_wp2_with fail
        go_roundw
        case rel => exact ⟨k + 1, by omega, by go_num, by rw [HN'.out]; exact ho, hb⟩
        case measure => simp [intOf]; omega
      | true =>
        have HN' : byS a (k + 1) = (byS a k).set (k / 8) ((byS a k).getD (k / 8) 0 ||| (1 <<< UInt8.ofNat (7 - k % 8))) := by rw [HN]; rfl
        clear HN
        generalize k / 8 = q at *
        generalize k % 8 = m at *
        obtain ⟨s, hs⟩ : ∃ s, s = 7 - m := ⟨_, rfl⟩
        rw [← hs] at HN'
        have s0 : (7 : Int) - (m : Int) = (s : Int) := by omega
        have s0w : IntKind.i64.wrap ((7 : Int) - (m : Int)) = (s : Int) := by rw [IntKind.wrap_i64]; omega
        have s1 : (0 : Int) ≤ (s : Int) := by omega
        have q0 : (0 : Int) ≤ (q : Int) := by omega
        have q1 : (q : Int) < 16 := by omega
        have qw : IntKind.i64.wrap (q : Int) = (q : Int) := by rw [IntKind.wrap_i64]; omega
        have hlen := byS_length a k
        have d1 : wr.cell? ⟨g, q, none⟩ = some (.int .u8 ((byS a k).getD q 0).toNat) := by
          obtain ⟨_, _, e, hc⟩ := ho.toBs.2.2.2.2 q q16
          simp only [Option.some.injEq, Addr.mk.injEq, and_true] at e
          obtain ⟨rfl, rfl⟩ := e
          rw [Nat.zero_add] at hc
          exact hc
        have f1 := ho.free hlen q
        have o2 := ho.set hlen q ((byS a k).getD q 0 ||| (1 <<< UInt8.ofNat s))
        rw [← HN'] at o2
        have p1 := pow_byte (s := s) (by omega)
        have p2 := shl_one (s := s) (by omega)
        have p3 : (2 : Int) ^ s % 256 = ((1 <<< UInt8.ofNat s : UInt8).toNat : Int) := by rw [Int.one_mul] at p2; exact p2
        generalize (byS a k).getD q 0 = y at d1 o2
        generalize (1 <<< UInt8.ofNat s : UInt8) = z at *
        have p4 := b_or y z
        rw [← p4] at o2
        have O2 : Hid _ := o2
        clear o2 HN' hs p4
        go_wp2_with fail
        go_region
        go_wp2_with fail
        go_roundw
        case rel => exact ⟨k + 1, by omega, by go_num, O2.out, (hb.setCell (by simpa using hg) _).drew⟩
        case measure => simp [intOf]; omega
    · obtain rfl : k = 128 := by omega
      go_wp2_with fail
      go_ret
      exact Gives.mk ho hb

end Go.Proofs.YtfknplcnfpincaaGreat

/-
  The contract of layer 5's reference's Hash. Condition: rows of 128 bits; at most 1000 bytes.
-/
namespace Go.Proofs.YtfknplcnfpincaaGreat
open Go.RowKit

/-- Behind so many blocks of sixteen bytes. -/
def hsh (h f : Fe) (l : List UInt8) : Nat → Fe
  | 0 => f
  | k + 1 => fmul (hsh h f l k ^^^ feB ((l.drop (16 * k)).take 16)) h
/-- All blocks. -/
def hashF (h f : Fe) (l : List UInt8) : Fe := hsh h f l ((l.length + 15) / 16)
/-- What a call that hands back bools leaves. -/
def HasB (w : World) (l : List Bool) (e : Ending) (w' : World) : Prop := ∃ a c, e = .returned (.slice a l.length c) ∧ Bo w' a l.length c l ∧ Below w.heap.size w w'
theorem take16 (l : List UInt8) {j t n : Nat} (hl : l.length = n) (ht : t = min (j + 16) n) : (l.drop j).take (t - j) = (l.drop j).take 16 := by
  by_cases h : j + 16 ≤ n
  · rw [show t - j = 16 from by omega]
  · rw [List.take_of_length_le (by rw [List.length_drop, hl]; omega), List.take_of_length_le (by rw [List.length_drop, hl]; omega)]

set_option maxRecDepth 100000 in
set_option maxHeartbeats 4000000 in
theorem rHash (w : World) {ph pf pb : Option Addr} {ch cf cb n : Nat} {h f : Fe} {l : List UInt8} (hh : Bo w ph 128 ch (fb h)) (hf : Bo w pf 128 cf (fb f)) (hb : Bs w pb n cb l) (hn : n ≤ 1000) :
    Calls Tryz.prog 74 #[.slice ph 128 ch, .slice pf 128 cf, .slice pb n cb] w (HasB w (fb (hashF h f l))) := by
  have HL : Hid (l.length = n) := hb.len
  go_enter Tryz.func74, Tryz.ntmps74
  go_wp2_with fail
  go_loopw [7, 8, 9, 10, 11, 12] (fun v i _ _ _ _ wr => ∃ (k j : Nat) (py : Option Addr) (cy : Nat), j = 16 * k ∧ j < n + 16 ∧ i = .int .i64 (j : Int) ∧ v = .slice py 128 cy ∧ Bo wr py 128 cy (fb (hsh h f l k)) ∧ Below w.heap.size w wr) (fun _ i _ _ _ _ _ => n + 16 - (intOf i).toNat)
  case atStart => exact ⟨0, 0, pf, cf, rfl, by omega, rfl, rfl, hf, Below.refl _ _⟩
  case round =>
    obtain ⟨k, j, py, cy, hj, hjn, rfl, rfl, hBy, hbw⟩ := hrel
    rename World => wo
    have HJ : Hid (j = 16 * k) := hj
    clear hj
    by_cases hlt : j < n
    · have j0 : (0 : Int) ≤ (j : Int) := by omega
      have j1 : (j : Int) < (n : Int) := by omega
      have jn : (n : Int) ≤ 1000 := by omega
      obtain ⟨t, ht⟩ : ∃ t, t = min (j + 16) n := ⟨_, rfl⟩
      have ht1 : j ≤ t := by omega
      have ht2 : t ≤ n := by omega
      have ht3 : t - j ≤ 16 := by omega
      obtain ⟨p, q, hcut2, hB2⟩ := hb.cut2 j t ht1 ht2
      have HE := take16 l (j := j) HL.out ht
      obtain ⟨y, hy⟩ : ∃ y, y = hsh h f l k := ⟨_, rfl⟩
      rw [← hy] at hBy
      have HN : Hid (hsh h f l (k + 1) = fmul (y ^^^ feB ((l.drop j).take 16)) h) := by show _ = _; rw [hy, HJ.out]; rfl
      have HTT : Hid (t = min (j + 16) n) := ht
      clear hy ht
      go_upto_if 25 with fail
      go_cut [9] (fun v wx => v = .int .i64 (t : Int) ∧ wx = wo)
      case first =>
        by_cases hbig : (j : Int) + 16 ≤ (n : Int)
        · have e : Hid ((j : Int) + 16 = (t : Int)) := by show _ = _; have := HTT.out; omega
          go_wp2_with fail
          go_meet
          case rel => exact ⟨by rw [e.out], rfl⟩
        · have e : Hid ((n : Int) = (t : Int)) := by show _ = _; have := HTT.out; omega
          go_wp2_with fail
          go_meet
          case rel => exact ⟨by rw [e.out], rfl⟩
      case rest =>
        obtain ⟨rfl, rfl⟩ := hcut
        have hB3 := hB2 wc (hb.below hbw (Nat.le_refl _))
        rw [HE] at hB3
        have tj0 : (j : Int) ≤ (t : Int) := by omega
        have tn : (t : Int) ≤ (n : Int) := by omega
        clear hB2 HE
        generalize (l.drop j).take 16 = X at *
        obtain ⟨u, hu⟩ : ∃ u, u = t - j := ⟨_, rfl⟩
        rw [← hu] at hcut2 hB3 ht3
        clear hu
        go_wp2_with fail
        refine (rBits wc hB3 ht3).mono ?_
        rintro e w1 ⟨ax, cx, rfl, hBx, hxn, hb1⟩
        rw [fb_length] at hBx ⊢
        have q1 := hbw.trans (hb1.mono hbw.size)
        have hBy1 := hBy.below hb1 (Nat.le_refl _)
        generalize feB X = x at *
        go_wp2_with (at_make; go_must (refine wpList_bmk w1 rfl _ _ rfl 128 _ rfl rfl rfl (by omega) ?_); intro g w2 hg bG hb2)
        have q2 := q1.trans (hb2.mono q1.size)
        have hBy2 := hBy1.below hb2 (Nat.le_refl _)
        have hBx2 := hBx.below hb2 (Nat.le_refl _)
        obtain ⟨by', oy, rfl, hyl, _⟩ := hBy1.at (by omega)
        obtain ⟨bx, ox, rfl, hxl, _⟩ := hBx.at (by omega)
        have hyg : ¬ by' = g := by omega
        have hxg : ¬ bx = g := by omega
        have hyg' : ¬ g = by' := by omega
        have hxg' : ¬ g = bx := by omega
        have hgw : w.heap.size ≤ g := Nat.le_trans q1.size hg
        clear hBy hBy1 hBx hb1 hb2 hbw q1 hB3
        go_loopw [12] (fun kk wr => ∃ k : Nat, k ≤ 128 ∧ kk = .int .i64 k ∧ Bo wr (some ⟨by', oy, none⟩) 128 cy (fb y) ∧ Bo wr (some ⟨bx, ox, none⟩) 128 cx (fb x) ∧ Blk wr g (bo (overB (fb (y ^^^ x)) (List.replicate 128 false) k)) 4 ∧ Below w.heap.size w wr) (fun kk _ => 128 - (intOf kk).toNat)
        case atStart => exact ⟨0, by omega, rfl, hBy2, hBx2, by rw [overB_zero]; exact bG, q2⟩
        case round =>
          clear hBy2 hBx2 bG q2
          obtain ⟨i, hi, rfl, hBy, hBx, bG, hbk⟩ := hrel
          have hll : (fb (y ^^^ x)).length = (List.replicate 128 false).length := by rw [fb_length, rep_length]
          by_cases hil : i < 128
          · have i0 : (0 : Int) ≤ (i : Int) := by omega
            have i8 : (i : Int) < 128 := by omega
            obtain ⟨_, _, ex, _, hcy⟩ := hBy.at (by omega)
            simp only [Option.some.injEq, Addr.mk.injEq, and_true] at ex
            obtain ⟨rfl, rfl⟩ := ex
            obtain ⟨_, _, ex, _, hcx⟩ := hBx.at (by omega)
            simp only [Option.some.injEq, Addr.mk.injEq, and_true] at ex
            obtain ⟨rfl, rfl⟩ := ex
            have d1 := hcy i hil
            have d2 := hcx i hil
            rw [fb_at _ hil] at d1 d2
            have d3 := bG.atB (k := i) (by rw [overB_length hll, rep_length]; exact hil)
            have f3 := bG.free i
            have bN := bG.setB i ((fb (y ^^^ x)).getD i false)
            rw [overB_set hll (by rw [rep_length]; exact hil), fb_xor_at y x hil] at bN
            generalize y.getLsbD i = yi at d1 bN
            generalize x.getLsbD i = xi at d2 bN
            have BN : Hid _ := bN
            clear bN hcx hcy
            go_wp2_with fail
            go_region
            go_wp2_with fail
            go_roundw
            case rel => exact ⟨i + 1, by omega, by go_num, (hBy.setO (p := ⟨g, i, none⟩) (fun z hz => by simp only [Option.some.injEq] at hz; subst hz; exact hyg) _).dr, (hBx.setO (p := ⟨g, i, none⟩) (fun z hz => by simp only [Option.some.injEq] at hz; subst hz; exact hxg) _).dr, BN.out, (hbk.setCell (by simpa using hgw) _).drew⟩
            case measure => simp [intOf]; omega
          · obtain rfl : i = 128 := by omega
            have hend := overB_end hll
            rw [rep_length] at hend
            rw [hend] at bG
            have hBz := bG.bo (by rw [fb_length]; omega)
            rw [fb_length] at hBz
            go_wp2_with fail
            refine (rTimesF wr hBz (hh.below hbk (Nat.le_refl _))).mono ?_
            rintro e w5 ⟨a5, c5, rfl, hB5, _, hb5⟩
            rw [fb_length] at hB5 ⊢
            rw [← HN.out] at hB5
            have q5 := hbk.trans (hb5.mono hbk.size)
            go_wp2_with fail
            go_roundw
            case rel => exact ⟨k + 1, j + 16, a5, c5, by have := HJ.out; omega, by omega, by go_num, rfl, hB5, q5⟩
            case measure => simp [intOf]; omega
    · have HN : Hid (hashF h f l = hsh h f l k) := by
        show _ = _
        unfold hashF
        rw [HL.out]
        congr 1
        have := HJ.out
        omega
      go_wp2_with fail
      go_ret
      refine ⟨py, cy, by rw [fb_length]; rfl, ?_, hbw⟩
      rw [fb_length, HN.out]
      exact hBy

end Go.Proofs.YtfknplcnfpincaaGreat

/-
  An element's bytes and back: plain mathematics ahead of layer 5's code. No condition but sixteen bytes; nothing of the program.
-/
namespace Go.Proofs.YtfknplcnfpincaaGreat
open Go.RowKit

/-- Bit s of a byte, the highest first. -/
def bitH (b : UInt8) (s : Nat) : Bool := decide ((b >>> UInt8.ofNat (7 - s)) &&& 1 = 1)
theorem bitH_or (b : UInt8) {s t : Nat} (hs : s < 8) (ht : t < 8) : bitH (b ||| (1 <<< UInt8.ofNat (7 - s))) t = (bitH b t || decide (s = t)) := by
  have : ∀ i : Fin 256, ∀ s t : Fin 8, bitH (UInt8.ofNat i.val ||| (1 <<< UInt8.ofNat (7 - s.val))) t.val = (bitH (UInt8.ofNat i.val) t.val || decide (s.val = t.val)) := by decide +kernel
  have h := this ⟨b.toNat, b.toNat_lt⟩ ⟨s, hs⟩ ⟨t, ht⟩
  simpa using h
theorem bitH_zero {s : Nat} (hs : s < 8) : bitH 0 s = false := by
  have : ∀ s : Fin 8, bitH 0 s.val = false := by decide +kernel
  exact this ⟨s, hs⟩
def bitsH (f : Nat → Bool) : UInt8 := UInt8.ofNat ((List.range 8).foldl (fun n s => 2 * n + (f s).toNat) 0)
theorem bitH_all (b : UInt8) : bitsH (bitH b) = b := by
  have : ∀ i : Fin 256, bitsH (bitH (UInt8.ofNat i.val)) = UInt8.ofNat i.val := by decide +kernel
  have h := this ⟨b.toNat, b.toNat_lt⟩
  simpa using h
theorem bitH_ext {b c : UInt8} (h : ∀ s, s < 8 → bitH b s = bitH c s) : b = c := by
  rw [← bitH_all b, ← bitH_all c]
  unfold bitsH
  simp only [List.range, List.range.loop, List.foldl, h 0 (by omega), h 1 (by omega), h 2 (by omega), h 3 (by omega), h 4 (by omega), h 5 (by omega), h 6 (by omega), h 7 (by omega)]
theorem bitB_H {l : List UInt8} {i : Nat} (h : i / 8 < l.length) : bitB l i = bitH (l.getD (i / 8) 0) (i % 8) := by
  unfold bitB bitH
  simp only [h, decide_true, Bool.true_and]
theorem byS_bit (a : Fe) (n : Nat) (hn : n ≤ 128) {i : Nat} (hi : i < 128) : bitH ((byS a n).getD (i / 8) 0) (i % 8) = (decide (i < n) && a.getLsbD i) := by
  induction n with
  | zero =>
    have : (byS a 0).getD (i / 8) 0 = 0 := by
      have : ∀ j : Fin 16, (List.replicate 16 (0 : UInt8)).getD j.val 0 = 0 := by decide +kernel
      exact this ⟨i / 8, by omega⟩
    rw [this, bitH_zero (by omega)]
    simp
  | succ n ih =>
    have ih := ih (by omega)
    rw [byS]
    have hlen := byS_length a n
    cases hb : a.getLsbD n with
    | false =>
      simp only [Bool.false_eq_true, if_false]
      rw [ih]
      by_cases e : i = n
      · subst e; rw [hb]; simp
      · by_cases hl : i < n
        · have : i < n + 1 := by omega
          simp [hl, this]
        · have : ¬ i < n + 1 := by omega
          simp [hl, this]
    | true =>
      simp only [if_true]
      by_cases q : i / 8 = n / 8
      · rw [q] at ih ⊢
        have hq : n / 8 < (byS a n).length := by omega
        rw [show ((byS a n).set (n / 8) ((byS a n).getD (n / 8) 0 ||| 1 <<< UInt8.ofNat (7 - n % 8))).getD (n / 8) 0 = (byS a n).getD (n / 8) 0 ||| 1 <<< UInt8.ofNat (7 - n % 8) from by
          rw [List.getD_eq_getElem?_getD, List.getElem?_set_self hq]; rfl]
        rw [bitH_or _ (by omega) (by omega), ih]
        by_cases e : i = n
        · subst e; rw [hb]; simp
        · have m : ¬ n % 8 = i % 8 := by omega
          by_cases hl : i < n
          · have : i < n + 1 := by omega
            simp [hl, this, m]
          · have : ¬ i < n + 1 := by omega
            simp [hl, this, m]
      · rw [show ((byS a n).set (n / 8) ((byS a n).getD (n / 8) 0 ||| 1 <<< UInt8.ofNat (7 - n % 8))).getD (i / 8) 0 = (byS a n).getD (i / 8) 0 from by
          rw [List.getD_eq_getElem?_getD, List.getElem?_set_ne (by omega), List.getD_eq_getElem?_getD]]
        rw [ih]
        have e : ¬ i = n := by intro e; exact q (by rw [e])
        by_cases hl : i < n
        · have : i < n + 1 := by omega
          simp [hl, this]
        · have : ¬ i < n + 1 := by omega
          simp [hl, this]
theorem byF_length (a : Fe) : (byF a).length = 16 := byS_length a 128
theorem byF_bit (a : Fe) {i : Nat} (hi : i < 128) : bitB (byF a) i = a.getLsbD i := by
  rw [bitB_H (by rw [byF_length]; omega)]
  unfold byF
  rw [byS_bit a 128 (Nat.le_refl _) hi]
  simp [hi]
theorem feB_bit (l : List UInt8) {i : Nat} (hi : i < 128) : (feB l).getLsbD i = bitB l i := by
  unfold feB
  rw [pk_bits _ 128 (Nat.le_refl _)]
  simp [hi]
/-- An element out of its own bytes. -/
theorem feB_byF (a : Fe) : feB (byF a) = a := by
  apply BitVec.eq_of_getLsbD_eq
  intro i hi
  rw [feB_bit _ hi, byF_bit _ hi]
/-- Sixteen bytes out of their own element. -/
theorem byF_feB {l : List UInt8} (hl : l.length = 16) : byF (feB l) = l := by
  apply List.ext_getElem (by rw [byF_length, hl])
  intro j h1 h2
  apply bitH_ext
  intro s hs
  have hj : j < 16 := by omega
  have e1 := byF_bit (feB l) (i := 8 * j + s) (by omega)
  rw [feB_bit _ (by omega), bitB_H (by rw [byF_length]; omega), bitB_H (by omega), show (8 * j + s) / 8 = j from by omega, show (8 * j + s) % 8 = s from by omega] at e1
  simpa [List.getD_eq_getElem?_getD, List.getElem?_eq_getElem h1, List.getElem?_eq_getElem h2] using e1
theorem feB_inj {l m : List UInt8} (hl : l.length = 16) (hm : m.length = 16) (h : feB l = feB m) : l = m := by rw [← byF_feB hl, ← byF_feB hm, h]
theorem byF_inj {a b : Fe} (h : byF a = byF b) : a = b := by rw [← feB_byF a, ← feB_byF b, h]

end Go.Proofs.YtfknplcnfpincaaGreat

/-
  Plain mathematics of layer 6: blocks of a nonce and a number, a text under them, the tag; there and back. Conditions: a key's 240 bytes, a nonce of 12; nothing of the program.
-/
namespace Go.Proofs.YtfknplcnfpincaaGreat

/-- The sealed block of a nonce and a number. -/
def ctrK (K nonce : List UInt8) (n : Nat) : List UInt8 := aesL K (nonce ++ putL n 4)
theorem ctrK_length {K nonce : List UInt8} (hK : K.length = 240) (hn : nonce.length = 12) (n : Nat) : (ctrK K nonce n).length = 16 :=
  blkS_length hK (by rw [List.length_append, hn, putL_length]) (Nat.le_refl _)
/-- The element of a key. -/
def hKey (K : List UInt8) : Fe := feB (aesL K (List.replicate 16 0))
/-- A text under blocks, behind k of them. -/
def strm (K nonce l : List UInt8) : Nat → List UInt8
  | 0 => []
  | k + 1 => strm K nonce l k ++ xorL ((l.drop (16 * k)).take 16) (ctrK K nonce (2 + k))
def strL (K nonce l : List UInt8) : List UInt8 := strm K nonce l ((l.length + 15) / 16)
/-- Its i-th byte. -/
def strB (K nonce l : List UInt8) (i : Nat) : UInt8 := l.getD i 0 ^^^ (ctrK K nonce (2 + i / 16)).getD (i % 16) 0
theorem xorG {l m : List UInt8} {i : Nat} (h1 : i < l.length) (h2 : i < m.length) : (xorL l m)[i]? = some (l.getD i 0 ^^^ m.getD i 0) := by
  unfold xorL
  rw [List.getElem?_zipWith, List.getElem?_eq_getElem h1, List.getElem?_eq_getElem h2, List.getD_eq_getElem?_getD, List.getElem?_eq_getElem h1, List.getD_eq_getElem?_getD, List.getElem?_eq_getElem h2]
  rfl
theorem strm_is {K nonce l : List UInt8} (hK : K.length = 240) (hn : nonce.length = 12) (k : Nat) : strm K nonce l k = (List.range (min (16 * k) l.length)).map (strB K nonce l) := by
  induction k with
  | zero => simp [strm]
  | succ k ih =>
    have hc := ctrK_length hK hn (2 + k)
    have hx : (xorL ((l.drop (16 * k)).take 16) (ctrK K nonce (2 + k))).length = min 16 (l.length - 16 * k) := by
      unfold xorL
      rw [List.length_zipWith, hc, List.length_take, List.length_drop]
      omega
    rw [strm, ih]
    apply List.ext_getElem?
    intro i
    by_cases h1 : i < min (16 * k) l.length
    · rw [List.getElem?_append_left (by simp; omega)]
      rw [List.getElem?_map, List.getElem?_map, List.getElem?_range h1, List.getElem?_range (by omega)]
    · rw [List.getElem?_append_right (by simp; omega)]
      rw [List.length_map, List.length_range]
      by_cases h2 : i < min (16 * (k + 1)) l.length
      · have hq : min (16 * k) l.length = 16 * k := by omega
        rw [hq, List.getElem?_map, List.getElem?_range h2]
        have h3 : i - 16 * k < ((l.drop (16 * k)).take 16).length := by rw [List.length_take, List.length_drop]; omega
        rw [xorG h3 (by rw [hc]; omega), Option.map_some]
        unfold strB
        rw [show 2 + i / 16 = 2 + k from by omega, show i % 16 = i - 16 * k from by omega]
        rw [show ((l.drop (16 * k)).take 16).getD (i - 16 * k) 0 = l.getD i 0 from by
          rw [List.getD_eq_getElem?_getD, List.getElem?_take_of_lt (by omega), List.getElem?_drop, List.getD_eq_getElem?_getD, show 16 * k + (i - 16 * k) = i from by omega]]
      · rw [List.getElem?_eq_none (by rw [hx]; omega), List.getElem?_eq_none (by simp; omega)]
theorem strL_is {K nonce l : List UInt8} (hK : K.length = 240) (hn : nonce.length = 12) : strL K nonce l = (List.range l.length).map (strB K nonce l) := by
  unfold strL
  rw [strm_is hK hn, show min (16 * ((l.length + 15) / 16)) l.length = l.length from by omega]
theorem strL_length {K nonce l : List UInt8} (hK : K.length = 240) (hn : nonce.length = 12) : (strL K nonce l).length = l.length := by
  rw [strL_is hK hn]
  simp
/-- There and back. -/
theorem strL_back {K nonce l : List UInt8} (hK : K.length = 240) (hn : nonce.length = 12) : strL K nonce (strL K nonce l) = l := by
  rw [strL_is hK hn (l := strL K nonce l), strL_length hK hn]
  apply List.ext_getElem (by simp)
  intro i h1 h2
  rw [List.getElem_map, List.getElem_range]
  unfold strB
  rw [show (strL K nonce l).getD i 0 = strB K nonce l i from by
    rw [strL_is hK hn, List.getD_eq_getElem?_getD, List.getElem?_map, List.getElem?_range h2]
    rfl]
  unfold strB
  rw [UInt8.xor_assoc, UInt8.xor_self, UInt8.xor_zero, List.getD_eq_getElem?_getD, List.getElem?_eq_getElem h2]
  rfl
/-- Eight times the lengths of two rows. -/
def lens (a b : List UInt8) : List UInt8 := putL (8 * a.length) 8 ++ putL (8 * b.length) 8
theorem lens_length (a b : List UInt8) : (lens a b).length = 16 := by
  unfold lens
  rw [List.length_append, putL_length, putL_length]
/-- The tag of what is sealed. -/
def tagL (K nonce beside s : List UInt8) : List UInt8 := xorL (byF (hashF (hKey K) (hashF (hKey K) (hashF (hKey K) 0 beside) s) (lens beside s))) (ctrK K nonce 1)
theorem tagL_length {K nonce : List UInt8} (hK : K.length = 240) (hn : nonce.length = 12) (beside s : List UInt8) : (tagL K nonce beside s).length = 16 := by
  unfold tagL xorL
  rw [List.length_zipWith, byF_length, ctrK_length hK hn]
  rfl
def sealL (K nonce beside text : List UInt8) : List UInt8 := strL K nonce text ++ tagL K nonce beside (strL K nonce text)
theorem sealL_length {K nonce : List UInt8} (hK : K.length = 240) (hn : nonce.length = 12) (beside text : List UInt8) : (sealL K nonce beside text).length = text.length + 16 := by
  unfold sealL
  rw [List.length_append, strL_length hK hn, tagL_length hK hn]

end Go.Proofs.YtfknplcnfpincaaGreat
