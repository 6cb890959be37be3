/-
  8 texts in one. No statement of the seat is proved here.
-/
import Derived.Test.YtlenmkhmkommcaaGreatG3
import Derived.Deep.MidRow
/-
  The contract of layer 9's reference's step. Conditions: lists of at most a million, fewer than 2^40 steps.
-/
namespace Go.Proofs.YtlenmkhmkommcaaGreat
open Go.RowKit
set_option linter.unusedVariables false

theorem poke_len (D : DskS) (x : Pok) : (D.poke x).safe.length ≤ D.safe.length + 1 ∧ (D.poke x).loose.length ≤ D.loose.length ∧ (D.poke x).p = D.p ∧ (D.poke x).steps = D.steps ∧ (D.poke x).n = D.n ∧ (D.poke x).seen = D.seen ∧ (D.poke x).plot = D.plot := by
  unfold DskS.poke
  split
  · exact ⟨by omega, Nat.le_refl _, rfl, rfl, rfl, rfl, rfl⟩
  · refine ⟨?_, List.length_filter_le _ _, rfl, rfl, rfl, rfl, rfl⟩
    show (D.safe ++ [_]).length ≤ _
    simp
theorem pokes_len (s : Nat) : ∀ (l : List Pok) (D : DskS), (D.pokes s l).safe.length ≤ D.safe.length + l.length ∧ (D.pokes s l).loose.length ≤ D.loose.length ∧ (D.pokes s l).p = D.p ∧ (D.pokes s l).steps = D.steps ∧ (D.pokes s l).n = D.n ∧ (D.pokes s l).seen = D.seen ∧ (D.pokes s l).plot = D.plot
  | [], D => ⟨by simp [DskS.pokes], Nat.le_refl _, rfl, rfl, rfl, rfl, rfl⟩
  | x :: l, D => by
    have e : D.pokes s (x :: l) = (if x.on = (s : Int) then D.poke x else D).pokes s l := rfl
    rw [e]
    obtain ⟨a1, a2, a3, a4, a5, a6, a7⟩ := pokes_len s l (if x.on = (s : Int) then D.poke x else D)
    rw [List.length_cons]
    by_cases hx : x.on = (s : Int)
    · rw [if_pos hx] at a1 a2 a3 a4 a5 a6 a7 ⊢
      obtain ⟨b1, b2, b3, b4, b5, b6, b7⟩ := poke_len D x
      exact ⟨by omega, by omega, a3.trans b3, a4.trans b4, a5.trans b5, a6.trans b6, a7.trans b7⟩
    · rw [if_neg hx] at a1 a2 a3 a4 a5 a6 a7 ⊢
      exact ⟨by omega, a2, a3, a4, a5, a6, a7⟩
theorem Sl.poke {A : Nat → Prop} {w : World} {a : Option Addr} {n c : Nat} {l : List Pok} (h : Sl (elP A) 5 A w a n c l) {s : Nat} {x : Pok} (hx : l[s]? = some x) : ∃ b o p m q, a = some ⟨b, o, none⟩ ∧ b < w.heap.size ∧ w.rangeAt b (o + s * 5) [.int .i64 x.on, .int .i64 x.at_, .int .i64 x.kind, .slice p m q, .int .i64 x.num] ∧ Bs w p m q x.bytes ∧ i64 x.on ∧ i64 x.at_ ∧ i64 x.num := by
  obtain ⟨b, o, vs, ha, hlt, hrg, hl, p, m, q, rfl, hb, h1, h2, h3, h4⟩ := h.at hx
  exact ⟨b, o, p, m, q, ha, hlt, hrg, hb.1, h1, h2, h4⟩
end Go.Proofs.YtlenmkhmkommcaaGreat

/-
  The contract of layer 9's reference's Read. Conditions: lists of at most a million, fewer than 2^40 steps.
-/
namespace Go.Proofs.YtlenmkhmkommcaaGreat
open Go.RowKit
set_option linter.unusedVariables false

/-- What a step that was done leaves. -/
def DskS.done (D : DskS) (t : Tch) : DskS := if D.p.does then D.tick.see t else D.tick
def DskS.read (D : DskS) (at_ : Int) : DskS × List UInt8 × Int := if at_ < 0 ∨ D.n ≤ at_ then (D, [], 2) else if D.p.ok then (D.done (0, at_, []), (D.done (0, at_, [])).look at_, 0) else (D.done (0, at_, []), [], 5)
theorem tick_len (D : DskS) : D.tick.safe.length ≤ D.safe.length + D.plot.length ∧ D.tick.loose.length ≤ D.loose.length ∧ D.tick.n = D.n ∧ D.tick.seen = D.seen ∧ D.tick.plot = D.plot := by
  have := pokes_len D.steps D.plot D
  exact ⟨this.1, this.2.1, this.2.2.2.2.1, this.2.2.2.2.2.1, this.2.2.2.2.2.2⟩

end Go.Proofs.YtlenmkhmkommcaaGreat

/-
  The contract of layer 9's reference's Write. Conditions: lists of at most a million, fewer than 2^40 steps.
-/
namespace Go.Proofs.YtlenmkhmkommcaaGreat
open Go.RowKit
set_option linter.unusedVariables false

def DskS.wrote (D : DskS) (at_ : Int) (b : List UInt8) : DskS := if D.p.does then { D.tick.see (1, at_, b) with loose := D.tick.loose ++ [(at_, b)] } else D.tick
def DskS.write (D : DskS) (at_ : Int) (b : List UInt8) : DskS × Int := if at_ < 0 ∨ D.n ≤ at_ then (D, 2) else if b.length ≠ 512 then (D, 17) else (D.wrote at_ b, if D.p.ok then 0 else 5)
end Go.Proofs.YtlenmkhmkommcaaGreat

/-
  The contract of layer 9's reference's Flush. Conditions: lists of at most a million, fewer than 2^40 steps.
-/
namespace Go.Proofs.YtlenmkhmkommcaaGreat
open Go.RowKit
set_option linter.unusedVariables false

def DskS.settles (D : DskS) (l : List Chg) : DskS := l.foldl (fun D c => D.settle c.1 c.2) D
def DskS.flushed (D : DskS) : DskS := if D.p.does then ({ D.tick.settles D.tick.loose with loose := [] } : DskS).see (2, -1, []) else D.tick
theorem settles_len : ∀ (l : List Chg) (D : DskS), (D.settles l).safe.length = D.safe.length + l.length ∧ (D.settles l).loose = D.loose ∧ (D.settles l).p = D.p ∧ (D.settles l).steps = D.steps ∧ (D.settles l).n = D.n ∧ (D.settles l).seen = D.seen ∧ (D.settles l).plot = D.plot
  | [], D => ⟨rfl, rfl, rfl, rfl, rfl, rfl, rfl⟩
  | c :: l, D => by
    have e : D.settles (c :: l) = (D.settle c.1 c.2).settles l := rfl
    rw [e]
    obtain ⟨a1, a2, a3, a4, a5, a6, a7⟩ := settles_len l (D.settle c.1 c.2)
    refine ⟨?_, a2, a3, a4, a5, a6, a7⟩
    rw [a1]
    show (D.safe ++ [_]).length + l.length = _
    simp
    omega

end Go.Proofs.YtlenmkhmkommcaaGreat

/-
  Blocks of memory that are known whole ('Blk'): a variable of a call's own. What is read of them, and what stores make of them; whole arrays loaded and stored. No condition; no statement of the seat is proved here.
-/
namespace Go.Proofs.YtlenmkhmkommcaaGreat
open Go.RowKit

/-- A row of bytes as an array value. -/
def bv (l : List UInt8) : Value := .agg (cs l).toArray

/-- The bytes that lie in a block from o on, as a slice. -/
theorem Blk.bs {w : World} {g : Nat} {vs : List Value} {t : TypeId} (h : Blk w g vs t) (o c : Nat) (l : List UInt8) (hl : ∀ j v, (cs l)[j]? = some v → vs[o + j]? = some v) (hc : l.length ≤ c) (hm : c ≤ 1000000) : Bs w (some ⟨g, o, none⟩) l.length c l := by
  refine ⟨rfl, hc, by unfold maxLen; omega, by simp, fun i hi => ⟨g, o, rfl, ?_⟩⟩
  rw [h.cell]
  exact hl i _ (cs_get hi)

theorem cs_sub {b : List UInt8} {o n j : Nat} {v : Value} (h : (cs ((b.drop o).take n))[j]? = some v) : (cs b)[o + j]? = some v := by
  simp only [cs, List.getElem?_map, List.getElem?_take, List.getElem?_drop] at h ⊢
  by_cases hj : j < n
  · simpa [hj] using h
  · simp [hj] at h

end Go.Proofs.YtlenmkhmkommcaaGreat

/-
  Rows of bools in memory: what a slice of bools holds ('Bo'), rows that a call made itself ('OwnB'), append and make over them. No condition; no statement of the seat is proved here.
-/
namespace Go.Proofs.YtlenmkhmkommcaaGreat
open Go.RowKit

/-- Bools as cells. -/
def bo (l : List Bool) : List Value := l.map .bool
theorem bo_length (l : List Bool) : (bo l).length = l.length := by simp [bo]
theorem bo_get {l : List Bool} {i : Nat} (h : i < l.length) : (bo l)[i]? = some (.bool (l.getD i false)) := by
  simp [bo, h, List.getD_eq_getElem?_getD]
/-- The slice (a, n, c) holds the bools l. -/
def Bo (w : World) (a : Option Addr) (n c : Nat) (l : List Bool) : Prop :=
  l.length = n ∧ n ≤ c ∧ c ≤ maxLen ∧ (a = none → c = 0) ∧ ∀ i, i < n → ∃ b o, a = some ⟨b, o, none⟩ ∧ w.cell? ⟨b, o + i, none⟩ = some (.bool (l.getD i false))
theorem Bo.len {w : World} {a : Option Addr} {n c : Nat} {l : List Bool} (h : Bo w a n c l) : l.length = n := h.1
theorem Bo.cap {w : World} {a : Option Addr} {n c : Nat} {l : List Bool} (h : Bo w a n c l) : n ≤ c := h.2.1
theorem Bo.at {w : World} {a : Option Addr} {n c : Nat} {l : List Bool} (h : Bo w a n c l) (hn : 0 < n) :
    ∃ b o, a = some ⟨b, o, none⟩ ∧ b < w.heap.size ∧ ∀ i, i < n → w.cell? ⟨b, o + i, none⟩ = some (.bool (l.getD i false)) := by
  obtain ⟨b, o, ha, hc⟩ := h.2.2.2.2 0 hn
  refine ⟨b, o, ha, lt_of_cell hc, fun i hi => ?_⟩
  obtain ⟨b', o', ha', hc'⟩ := h.2.2.2.2 i hi
  rw [ha] at ha'
  simp at ha'
  obtain ⟨rfl, rfl⟩ := ha'
  exact hc'
theorem Bo.below {w w' : World} {a : Option Addr} {n c : Nat} {l : List Bool} (h : Bo w a n c l) {B : Nat} (hb : Below B w w') (hB : w.heap.size ≤ B) : Bo w' a n c l := by
  refine ⟨h.1, h.2.1, h.2.2.1, h.2.2.2.1, fun i hi => ?_⟩
  obtain ⟨b, o, ha, hc⟩ := h.2.2.2.2 i hi
  refine ⟨b, o, ha, ?_⟩
  rw [hb.cell (p := ⟨b, o + i, none⟩) (by have := lt_of_cell hc; simp at this ⊢; omega)]
  exact hc
theorem Bo.setO {w : World} {a : Option Addr} {n c : Nat} {l : List Bool} (h : Bo w a n c l) {p : Addr} (hp : ∀ x, a = some x → x.block ≠ p.block) (u : Value) : Bo (w.setCell p u) a n c l := by
  refine ⟨h.1, h.2.1, h.2.2.1, h.2.2.2.1, fun i hi => ?_⟩
  obtain ⟨b, o, ha, hc⟩ := h.2.2.2.2 i hi
  have hne : b ≠ p.block := hp _ ha
  refine ⟨b, o, ha, ?_⟩
  rw [World.cell?_of_block (w := w) (a := ⟨b, o + i, none⟩) (Below.heap_setCell _ _ _ _ hne)]
  exact hc
theorem Bo.dr {w : World} {a : Option Addr} {n c : Nat} {l : List Bool} (h : Bo w a n c l) : Bo w.drew a n c l := h
theorem Blk.bo {w : World} {g : Nat} {l : List Bool} {t : TypeId} (h : Blk w g (bo l) t) (hm : l.length ≤ 1000000) : Bo w (some ⟨g, 0, none⟩) l.length l.length l :=
  ⟨rfl, Nat.le_refl _, by unfold maxLen; omega, by simp, fun i hi => ⟨g, 0, rfl, by rw [Nat.zero_add, h.cell, bo_get hi]⟩⟩
/-- The value v is a slice of the bools l, in memory of the call's own from block 'base' on. -/
def OwnB (w : World) (base : Nat) (v : Value) (l : List Bool) : Prop := w.ownsRow base 4 1 v l.length (bo l)
theorem OwnB.nil (w : World) (base : Nat) : OwnB w base (.slice none 0 0) [] := World.ownsRow_nil _ _ _ _
theorem OwnB.below {w w' : World} {base B : Nat} {v : Value} {l : List Bool} (h : OwnB w base v l) (hb : Below B w w') (hB : w.heap.size ≤ B) : OwnB w' base v l := by
  obtain ⟨h1, h2⟩ := h
  refine ⟨h1, ?_⟩
  rcases h2 with h2 | ⟨g, cap, cur, hv, hg, hh, r⟩
  · exact Or.inl h2
  · refine Or.inr ⟨g, cap, cur, hv, hg, ?_, r⟩
    have hlt : g < w.heap.size := by
      by_cases e : g < w.heap.size
      · exact e
      · rw [Array.getElem?_eq_none (by omega)] at hh; simp at hh
    rw [hb.block g (by omega)]
    exact hh
theorem OwnB.size {w : World} {base : Nat} {v : Value} {l : List Bool} (h : OwnB w base v l) : ∀ k, v.ownBlock = some k → base ≤ k := fun k hk => (World.ownsRow.lt h k hk).1
/-- What is owned is a slice of bools. -/
theorem OwnB.bo {w : World} {base : Nat} {v : Value} {l : List Bool} (h : OwnB w base v l) : ∃ a c, v = .slice a l.length c ∧ Bo w a l.length c l ∧ ∀ x, a = some x → base ≤ x.block := by
  have h' := h
  obtain ⟨h1, h2⟩ := h
  rcases h2 with ⟨rfl, h0⟩ | ⟨g, cap, cur, rfl, hg, hh, hn, hm, r⟩
  · have e : l = [] := List.length_eq_zero_iff.1 h0
    subst e
    exact ⟨none, 0, rfl, ⟨rfl, Nat.le_refl _, Nat.zero_le _, fun _ => rfl, fun i hi => by simp at hi⟩, fun x hx => by simp at hx⟩
  · refine ⟨_, cap, rfl, ⟨rfl, hn, hm, by simp, fun i hi => ⟨g, 0, rfl, ?_⟩⟩, fun x hx => by simp only [Option.some.injEq] at hx; subst hx; exact hg⟩
    have := World.ownsRow.cellAt h' i (by omega)
    rw [bo_get hi] at this
    simpa using this
theorem Bo.news {w : World} {ad : Addr} {m c : Nat} {l : List Bool} (h : Bo w (some ad) m c l) (j : Nat) (u : Value) (hj : (Go.Proofs.YtlenmkhmkommcaaGreat.bo l)[j]? = some u) : w.cell? (ad.add j) = some u := by
  have hl := h.len
  by_cases hjl : j < l.length
  · rw [bo_get hjl] at hj
    obtain ⟨b, o, ha, hc⟩ := h.2.2.2.2 j (by omega)
    simp only [Option.some.injEq] at ha
    subst ha
    rw [Addr.add_mid, hc]
    exact hj
  · rw [List.getElem?_eq_none (by rw [bo_length]; omega)] at hj
    simp at hj

/-- What a call that hands back bools in new memory leaves. -/
def GivesB (w : World) (l : List Bool) (e : Ending) (w' : World) : Prop := ∃ a c, e = .returned (.slice a l.length c) ∧ Bo w' a l.length c l ∧ (∀ x, a = some x → w.heap.size ≤ x.block) ∧ Below w.heap.size w w'
theorem GivesB.mk {w w' : World} {v : Value} {l : List Bool} (h : OwnB w' w.heap.size v l) (hb : Below w.heap.size w w') : GivesB w l (.returned v) w' := by
  obtain ⟨a, c, rfl, hB, hx⟩ := h.bo
  exact ⟨a, c, rfl, hB, hx, hb⟩
end Go.Proofs.YtlenmkhmkommcaaGreat

/-
  The contract of layer 9's reference's Crash. Conditions: lists of at most a million.
-/
namespace Go.Proofs.YtlenmkhmkommcaaGreat
open Go.RowKit
set_option linter.unusedVariables false

/-- What is kept of changes. -/
def kept : List Chg → List Bool → List Chg
  | c :: l, true :: b => c :: kept l b
  | _ :: l, false :: b => kept l b
  | _, _ => []
theorem kept_len : ∀ (l : List Chg) (b : List Bool), (kept l b).length ≤ l.length
  | [], b => by cases b <;> simp [kept]
  | a :: l, [] => by simp [kept]
  | a :: l, true :: b => by have := kept_len l b; simp [kept]; omega
  | a :: l, false :: b => by have := kept_len l b; simp [kept]; omega
def DskS.crash (D : DskS) (b : List Bool) : DskS := { D.settles (kept D.loose b) with loose := [] }

end Go.Proofs.YtlenmkhmkommcaaGreat

/-
  The contract of the reference's Same: it tells whether two rows of bytes are equal, and turns nothing. No condition.
-/
namespace Go.Proofs.YtlenmkhmkommcaaGreat
open Go.RowKit

theorem bt_inj {l m : List UInt8} (h : l.length = m.length) (k : ∀ i, i < l.length → bt l i = bt m i) : l = m := by
  apply List.ext_getElem h
  intro i h1 h2
  have := k i h1
  unfold bt at this
  simp [List.getD_eq_getElem?_getD, h1, h2] at this
  exact UInt8.toNat_inj.1 (by omega)

theorem same_step {l m : List UInt8} {k : Nat} (H : Hid (∀ j, j < k → bt l j = bt m j)) (h : (bt l k != bt m k) = false) (j : Nat) (hj : j < k + 1) : bt l j = bt m j := by
  by_cases e : j = k
  · subst e; simpa using h
  · exact H.out j (by omega)
theorem same_no {l m : List UInt8} {k : Nat} (h : (bt l k != bt m k) = true) : false = decide (l = m) := by
  symm
  rw [decide_eq_false_iff_not]
  intro e
  subst e
  simp at h
theorem same_yes {l m : List UInt8} {n k : Nat} (H : Hid (l.length = n ∧ m.length = n)) (h : ¬ k < n) (hj : ∀ j, j < k → bt l j = bt m j) : true = decide (l = m) := by
  symm
  rw [decide_eq_true_iff]
  obtain ⟨h1, h2⟩ := H.out
  exact bt_inj (by omega) fun i hi => hj i (by omega)

set_option maxHeartbeats 400000 in
theorem rSame (w : World) {a b : Option Addr} {n c n' c' : Nat} {l m : List UInt8} (ha : Bs w a n c l) (hb : Bs w b n' c' m) :
    Calls Tryz.prog 29 #[.slice a n c, .slice b n' c'] w fun e w' => e = .returned (.bool (decide (l = m))) ∧ ∃ k, w' = w.drewN k := by
  have h1 := ha.max
  have h2 := hb.max
  by_cases hn : n = n'
  · subst hn
    by_cases h0 : n = 0
    · subst h0
      have e : decide (l = m) = true := by
        have e1 := ha.len
        have e2 := hb.len
        simp at e1 e2
        simp [e1, e2]
      rw [e]
      clear e ha hb
      go_enter Tryz.func29, Tryz.ntmps29
      go_wp2
      refine wp_loop_rounds 1 ?_; rw [rounds_succ]; go_wp2
      go_ret
      exact ⟨rfl, 0, rfl⟩
    · obtain ⟨x, o, rfl, hx, hc⟩ := ha.at (by omega)
      obtain ⟨y, q, rfl, hy, hd⟩ := hb.at (by omega)
      have e1 := ha.len
      have e2 := hb.len
      have H : Hid (l.length = n ∧ m.length = n) := ⟨e1, e2⟩
      clear e1 e2 ha hb
      go_enter Tryz.func29, Tryz.ntmps29
      go_wp2
      go_loopw [5] (fun i wr => ∃ k : Nat, k ≤ n ∧ i = .int .i64 k ∧ (∃ d, wr = w.drewN d) ∧ ∀ j, j < k → bt l j = bt m j) (fun i _ => n - (intOf i).toNat)
      case atStart => exact ⟨0, Nat.zero_le _, rfl, ⟨0, rfl⟩, fun j hj => by omega⟩
      case round =>
        obtain ⟨k, hk, rfl, ⟨d, rfl⟩, hj⟩ := hrel
        by_cases hlt : k < n
        · have c1 := hc k hlt
          have c2 := hd k hlt
          have H2 : Hid (∀ j, j < k → bt l j = bt m j) := hj
          clear hj hc hd
          by_cases hq : bt l k = bt m k
          · have hq' : (bt l k != bt m k) = false := by simp [hq]
            clear hq
            go_wp2
            go_quiet (fail)
            go_wp2
            go_roundw
            case rel => exact ⟨k + 1, by omega, by go_num, ⟨_, rfl⟩, fun j hj => same_step H2 hq' j hj⟩
            case measure => simp [intOf]; omega
          · have hq' : (bt l k != bt m k) = true := by simp [hq]
            clear hq
            go_wp2
            go_quiet (fail)
            go_wp2
            go_ret
            exact ⟨ret_bool (same_no hq'), _, World.drewN_drewN _ _ _⟩
        · go_wp2
          go_ret
          exact ⟨ret_bool (same_yes H hlt hj), d, rfl⟩
  · have hq' : ((n : Int) != (n' : Int)) = true := by simp; omega
    have e : decide (l = m) = false := by
      have e1 := ha.len
      have e2 := hb.len
      simp
      intro h
      rw [h] at e1
      omega
    rw [e]
    clear e ha hb
    go_enter Tryz.func29, Tryz.ntmps29
    go_wp2
    go_ret
    exact ⟨rfl, 0, rfl⟩
end Go.Proofs.YtlenmkhmkommcaaGreat
