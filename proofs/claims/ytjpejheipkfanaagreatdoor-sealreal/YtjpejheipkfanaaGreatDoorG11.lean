/-
  5 texts in one. No statement of the seat is proved here.
-/
import Derived.Test.YtjpejheipkfanaaGreatDoorG10

/-
  A table in memory: sixteen elements. The contract of Build. No condition.
-/
namespace Go.Proofs.YtjpejheipkfanaaGreatDoor
open Go.RowKit

/-- Block g holds sixteen elements, the i-th one f i. -/
def Tb (w : World) (g : Nat) (f : Nat → Fe) : Prop :=
  ∃ vs : List Value, Blk w g vs 132 ∧ vs.length = 32 ∧ ∀ i, i < 16 → vs[i * 2]? = some (.int .u64 (hN (f i) : Int)) ∧ vs[i * 2 + 1]? = some (.int .u64 (lN (f i) : Int))
theorem Tb.lt {w : World} {g : Nat} {f : Nat → Fe} (h : Tb w g f) : g < w.heap.size := h.choose_spec.1.lt
theorem Tb.hi {w : World} {g : Nat} {f : Nat → Fe} (h : Tb w g f) {i : Nat} (hi : i < 16) : w.cell? ⟨g, i * 2, none⟩ = some (.int .u64 (hN (f i) : Int)) := by
  obtain ⟨vs, hb, _, hc⟩ := h
  rw [hb.cell, (hc i hi).1]
theorem Tb.lo {w : World} {g : Nat} {f : Nat → Fe} (h : Tb w g f) {i : Nat} (hi : i < 16) : w.cell? ⟨g, i * 2 + 1, none⟩ = some (.int .u64 (lN (f i) : Int)) := by
  obtain ⟨vs, hb, _, hc⟩ := h
  rw [hb.cell, (hc i hi).2]
theorem Tb.free {w : World} {g : Nat} {f : Nat → Fe} (h : Tb w g f) (i : Nat) : w.frozen? ⟨g, i, none⟩ = false := by
  obtain ⟨vs, hb, _, _⟩ := h
  exact hb.free i
theorem Tb.below {w w' : World} {g : Nat} {f : Nat → Fe} (h : Tb w g f) {B : Nat} (hb : Below B w w') (hB : g < B) : Tb w' g f := by
  obtain ⟨vs, h1, h2⟩ := h
  exact ⟨vs, h1.below hb hB, h2⟩
theorem Tb.dr {w : World} {g : Nat} {f : Nat → Fe} (h : Tb w g f) : Tb w.drew g f := h
theorem Tb.setO {w : World} {g : Nat} {f : Nat → Fe} (h : Tb w g f) {p : Addr} (hp : g ≠ p.block) (u : Value) : Tb (w.setCell p u) g f := by
  obtain ⟨vs, h1, h2⟩ := h
  exact ⟨vs, h1.setO hp u, h2⟩
theorem Tb.congr {w : World} {g : Nat} {f f' : Nat → Fe} (h : Tb w g f) (e : ∀ i, i < 16 → f i = f' i) : Tb w g f' := by
  obtain ⟨vs, h1, h2, h3⟩ := h
  exact ⟨vs, h1, h2, fun i hi => by rw [← e i hi]; exact h3 i hi⟩
theorem Tb.set {w : World} {g : Nat} {f : Nat → Fe} (h : Tb w g f) {k : Nat} (hk : k < 16) (a : Fe) :
    Tb ((w.setCell ⟨g, k * 2, none⟩ (.int .u64 (hN a : Int))).setCell ⟨g, k * 2 + 1, none⟩ (.int .u64 (lN a : Int))) g (fun i => if i = k then a else f i) := by
  obtain ⟨vs, h1, h2, h3⟩ := h
  refine ⟨_, (h1.setC (k * 2) _).setC (k * 2 + 1) _, by simpa using h2, fun i hi => ?_⟩
  by_cases e : i = k
  · subst e
    simp only [if_true]
    constructor
    · rw [List.getElem?_set_ne (by omega), List.getElem?_set_self (by omega)]
    · rw [List.getElem?_set_self (by simp; omega)]
  · simp only [if_neg e]
    rw [List.getElem?_set_ne (by omega), List.getElem?_set_ne (by omega), List.getElem?_set_ne (by omega), List.getElem?_set_ne (by omega)]
    exact h3 i hi

/-- The places that the first loop fills, behind k rounds. -/
def isP (k i : Nat) : Bool := (i == 8 && decide (0 < k)) || (i == 4 && decide (1 < k)) || (i == 2 && decide (2 < k)) || (i == 1 && decide (3 < k))
def f1 (h : Fe) (k i : Nat) : Fe := if isP k i then pr h i else 0
def f2 (h : Fe) (k i : Nat) : Fe := if decide (i < k) || isP 4 i then pr h i else 0
theorem pr_0 (h : Fe) : pr h 0 = 0 := by simp [pr]
theorem pr_1 (h : Fe) : pr h 1 = txN h 3 := by unfold pr; rw [show Nat.testBit 1 3 = false from by decide, show Nat.testBit 1 2 = false from by decide, show Nat.testBit 1 1 = false from by decide, show Nat.testBit 1 0 = true from by decide]; simp
theorem pr_2 (h : Fe) : pr h 2 = txN h 2 := by unfold pr; rw [show Nat.testBit 2 3 = false from by decide, show Nat.testBit 2 2 = false from by decide, show Nat.testBit 2 1 = true from by decide, show Nat.testBit 2 0 = false from by decide]; simp
theorem pr_4 (h : Fe) : pr h 4 = txN h 1 := by unfold pr; rw [show Nat.testBit 4 3 = false from by decide, show Nat.testBit 4 2 = true from by decide, show Nat.testBit 4 1 = false from by decide, show Nat.testBit 4 0 = false from by decide]; simp
theorem pr_8 (h : Fe) : pr h 8 = h := by unfold pr; rw [show Nat.testBit 8 3 = true from by decide, show Nat.testBit 8 2 = false from by decide, show Nat.testBit 8 1 = false from by decide, show Nat.testBit 8 0 = false from by decide]; simp
theorem pr_add (h : Fe) {a b : Nat} (ha : a < 16) (hb : b < 16) (hab : a ^^^ b < 16) : pr h a ^^^ pr h b = pr h (a ^^^ b) := by
  have := pr_xor h a b 0
  rw [Nat.pow_zero, Nat.div_one, Nat.div_one, Nat.div_one, Nat.mod_eq_of_lt ha, Nat.mod_eq_of_lt hb, Nat.mod_eq_of_lt hab] at this
  exact this.symm
theorem isP_step {k : Nat} (hk : k < 4) {i : Nat} (hi : i < 16) : isP (k + 1) i = (decide (i = 8 / 2 ^ k) || isP k i) := by
  have : ∀ k : Fin 4, ∀ i : Fin 16, isP (k.val + 1) i.val = (decide (i.val = 8 / 2 ^ k.val) || isP k.val i.val) := by decide +kernel
  exact this ⟨k, hk⟩ ⟨i, hi⟩
theorem pr_pow (h : Fe) {k : Nat} (hk : k < 4) : pr h (8 / 2 ^ k) = txN h k := by
  rcases (by omega : k = 0 ∨ k = 1 ∨ k = 2 ∨ k = 3) with rfl | rfl | rfl | rfl
  · exact pr_8 h
  · exact pr_4 h
  · exact pr_2 h
  · exact pr_1 h
theorem f1_step (h : Fe) {k : Nat} (hk : k < 4) {i : Nat} (hi : i < 16) : (if i = 8 / 2 ^ k then txN h k else f1 h k i) = f1 h (k + 1) i := by
  unfold f1
  rw [isP_step hk hi]
  by_cases e : i = 8 / 2 ^ k
  · rw [if_pos e, decide_eq_true e, Bool.true_or, if_pos rfl, e, pr_pow h hk]
  · rw [if_neg e, decide_eq_false e, Bool.false_or]
theorem f12 (h : Fe) {i : Nat} : f1 h 4 i = f2 h 1 i := by
  unfold f1 f2
  by_cases e : i = 0
  · subst e
    rw [pr_0]
    simp
  · rw [show decide (i < 1) = false from by simp; omega, Bool.false_or]
theorem f2_step (h : Fe) {k : Nat} {i : Nat} : (if i = k then pr h k else f2 h k i) = f2 h (k + 1) i := by
  unfold f2
  by_cases e : i = k
  · subst e
    rw [if_pos rfl, show decide (i < i + 1) = true from by simp, Bool.true_or, if_pos rfl]
  · rw [if_neg e]
    have : decide (i < k + 1) = decide (i < k) := by
      by_cases hl : i < k
      · rw [decide_eq_true hl, decide_eq_true (by omega)]
      · rw [decide_eq_false hl, decide_eq_false (by omega)]
    rw [this]
theorem f2_end (h : Fe) {i : Nat} (hi : i < 16) : f2 h 16 i = pr h i := by
  unfold f2
  rw [decide_eq_true hi, Bool.true_or, if_pos rfl]
theorem f2_low (h : Fe) {k i : Nat} (hi : i < k) : f2 h k i = pr h i := by
  unfold f2
  rw [decide_eq_true hi, Bool.true_or, if_pos rfl]
theorem f2_pow (h : Fe) {k i : Nat} (hi : isP 4 i = true) : f2 h k i = pr h i := by
  unfold f2
  rw [hi, Bool.or_true, if_pos rfl]
/-- The last bit of a number. -/
def lastB (k : Nat) : Nat := if k % 2 = 1 then 1 else if k % 4 = 2 then 2 else if k % 8 = 4 then 4 else 8
theorem last_ok {k : Nat} (h1 : 1 ≤ k) (h2 : k < 16) : bits .and .i64 (k : Int) (-(k : Int)) = (lastB k : Int) ∧ 0 < lastB k ∧ lastB k ≤ k ∧ isP 4 (lastB k) = true ∧ (k - lastB k) ^^^ lastB k = k := by
  have : ∀ k : Fin 16, 1 ≤ k.val → bits .and .i64 (k.val : Int) (-(k.val : Int)) = (lastB k.val : Int) ∧ 0 < lastB k.val ∧ lastB k.val ≤ k.val ∧ isP 4 (lastB k.val) = true ∧ (k.val - lastB k.val) ^^^ lastB k.val = k.val := by decide +kernel
  exact this ⟨k, h2⟩ h1

abbrev z32 : Array Value := #[.int .u64 0, .int .u64 0, .int .u64 0, .int .u64 0, .int .u64 0, .int .u64 0, .int .u64 0, .int .u64 0, .int .u64 0, .int .u64 0, .int .u64 0, .int .u64 0, .int .u64 0, .int .u64 0, .int .u64 0, .int .u64 0, .int .u64 0, .int .u64 0, .int .u64 0, .int .u64 0, .int .u64 0, .int .u64 0, .int .u64 0, .int .u64 0, .int .u64 0, .int .u64 0, .int .u64 0, .int .u64 0, .int .u64 0, .int .u64 0, .int .u64 0, .int .u64 0]
theorem f1_zero (h : Fe) (i : Nat) (hi : i < 16) : z32.toList[i * 2]? = some (.int .u64 (hN (f1 h 0 i) : Int)) ∧ z32.toList[i * 2 + 1]? = some (.int .u64 (lN (f1 h 0 i) : Int)) := by
  have e : f1 h 0 i = 0 := by unfold f1 isP; simp
  obtain ⟨z1, z2⟩ := (zero_iff 0).1 rfl
  rw [e, z1, z2]
  rw [show z32.toList = List.replicate 32 (.int .u64 0) from rfl, List.getElem?_replicate, List.getElem?_replicate, if_pos (by omega), if_pos (by omega)]
  exact ⟨rfl, rfl⟩
set_option maxRecDepth 100000 in
set_option maxHeartbeats 2000000 in
theorem oBuildF (w : World) (h : Fe) : Calls Tryz.prog 67 #[ev h] w fun e w' => ∃ g, e = .returned (.pointer (some ⟨g, 0, none⟩)) ∧ w.heap.size ≤ g ∧ Tb w' g (pr h) ∧ Below w.heap.size w w' := by
  have C1 : Hid (∀ w a, Calls Tryz.prog 92 #[.agg #[.int .u64 (hN a : Int), .int .u64 (lN a : Int)], .int .i64 1] w fun e w' => e = .returned (.agg #[.int .u64 (hN (tx a) : Int), .int .u64 (lN (tx a) : Int)]) ∧ Below w.heap.size w w') := fun w a => oRaise1 w a
  have C2 : Hid (∀ w a b, Calls Tryz.prog 93 #[.agg #[.int .u64 (hN a : Int), .int .u64 (lN a : Int)], .agg #[.int .u64 (hN b : Int), .int .u64 (lN b : Int)]] w fun e w' => e = .returned (.agg #[.int .u64 (hN (a ^^^ b) : Int), .int .u64 (lN (a ^^^ b) : Int)]) ∧ Below w.heap.size w w') := fun w a b => oAddE w a b
  unfold ev
  go_enter Tryz.func67, Tryz.ntmps67
  go_wp2_with fail
  obtain ⟨W, hW⟩ : ∃ W, W = (w.alloc (.cells #[.int .u64 (hN h : Int), .int .u64 (lN h : Int)] 129)).alloc (.cells z32 132) := ⟨_, rfl⟩
  rw [← hW]
  have b0 : Blk W w.heap.size (ec h) 129 := by rw [hW]; exact (Blk.new w _ _).old _
  have b1 : Tb W (w.heap.size + 1) (f1 h 0) := by rw [hW]; exact ⟨z32.toList, Blk.newAt (w.alloc _) z32 _ _ (by simp) _ rfl, rfl, f1_zero h⟩
  have hb0 : Below w.heap.size w W := by rw [hW]; exact below2 w _ _
  clear hW
  go_loopw [4] (fun i wr => ∃ k m : Nat, k ≤ 4 ∧ m = 8 / 2 ^ k ∧ i = .int .i64 m ∧ Blk wr w.heap.size (ec (txN h k)) 129 ∧ Tb wr (w.heap.size + 1) (f1 h k) ∧ Below w.heap.size w wr) (fun i _ => (intOf i).toNat)
  case atStart => exact ⟨0, 8, by omega, rfl, rfl, b0, b1, hb0⟩
  case round =>
    clear b0 b1 hb0
    obtain ⟨k, m, hk, hm, rfl, b0, b1, hb0⟩ := hrel
    by_cases hlt : k < 4
    · obtain ⟨m0, m16, hm'⟩ : 0 < m ∧ m < 16 ∧ m / 2 = 8 / 2 ^ (k + 1) := by
        rcases (by omega : k = 0 ∨ k = 1 ∨ k = 2 ∨ k = 3) with rfl | rfl | rfl | rfl <;> (subst hm; decide)
      have HM : Hid (m / 2 = 8 / 2 ^ (k + 1)) := hm'
      have HS := b1.set m16 (txN h k)
      have HT := HS.congr (f' := f1 h (k + 1)) (fun i hi => by rw [hm]; exact f1_step h hlt hi)
      have i0 : (0 : Int) < (m : Int) := by omega
      have i1 : (m : Int) < 16 := by omega
      have i2 : (m : Int).tdiv 2 = ((m / 2 : Nat) : Int) := by rw [Int.tdiv_eq_ediv_of_nonneg (by omega)]; omega
      have i3 : (m : Int) / 2 = ((m / 2 : Nat) : Int) := by omega
      have i5 : IntKind.i64.wrap ((m : Int).tdiv 2) = ((m / 2 : Nat) : Int) := by rw [i2, IntKind.wrap_i64]; omega
      obtain ⟨m2, hm2⟩ : ∃ m2, m2 = m / 2 := ⟨_, rfl⟩
      rw [← hm2] at i2 i3 i5 HM
      have HM2 : Hid (m2 = m / 2) := hm2
      clear hm2
      have i4 : (0 : Int) ≤ (m : Int) := by omega
      have c0 := b0.cell 0
      have c1 := b0.cell 1
      simp only [ec, List.getElem?_cons_zero, List.getElem?_cons_succ] at c0 c1
      have t0 := b1.hi m16
      have t1 := b1.lo m16
      have t2 := b1.free (m * 2)
      have t3 := b1.free (m * 2 + 1)
      obtain ⟨w1, hw1⟩ : ∃ w1, w1 = ((wr.setCell ⟨w.heap.size + 1, m * 2, none⟩ (.int .u64 (hN (txN h k) : Int))).setCell ⟨w.heap.size + 1, m * 2 + 1, none⟩ (.int .u64 (lN (txN h k) : Int))).drew := ⟨_, rfl⟩
      have HT' : Hid (Tb w1 (w.heap.size + 1) (f1 h (k + 1))) := by rw [hw1]; exact HT
      have d0 : Blk w1 w.heap.size (ec (txN h k)) 129 := by rw [hw1]; exact (b0.setO (by simp) _).setO (by simp) _
      have q1 : Below w.heap.size w w1 := by rw [hw1]; exact ((hb0.setCell (by simp) _).setCell (by simp) _).drew
      have HW : Hid (w1 = _) := hw1
      clear HS HT hm hm' hw1
      go_wp2_with fail
      go_region
      rw [← HW.out]
      have e0 := d0.cell 0
      have e1 := d0.cell 1
      have e2 := d0.free 0
      have e3 := d0.free 1
      simp only [ec, List.getElem?_cons_zero, List.getElem?_cons_succ] at e0 e1
      have hl := d0.lt
      clear c0 c1 t0 t1 t2 t3 b0 b1 hb0 HW
      go_wp2_with (go_at_call 92; go_must (refine (C1.out w1 (txN h k)).mono ?_); rintro e w2 ⟨rfl, hb2⟩; have d2 := d0.below hb2 hl; have c0 := d2.cell 0; have c1 := d2.cell 1; have c2 := d2.free 0; have c3 := d2.free 1; simp only [ec, List.getElem?_cons_zero, List.getElem?_cons_succ] at c0 c1)
      go_roundw
      case rel =>
        have d3 := (d2.setC 0 (.int .u64 (hN (tx (txN h k)) : Int))).setC 1 (.int .u64 (lN (tx (txN h k)) : Int))
        exact ⟨k + 1, m2, by omega, HM.out, rfl, d3, ((HT'.out.below hb2 HT'.out.lt).setO (by simp) _).setO (by simp) _, ((q1.trans (hb2.mono q1.size)).setCell (Nat.le_refl _) _).setCell (Nat.le_refl _) _⟩
      case measure => have := HM2.out; simp [intOf]; omega
    · obtain rfl : k = 4 := by omega
      have hm0 : m = 0 := by rw [hm]
      subst hm0
      have b2 := b1.congr (f' := f2 h 1) (fun i _ => f12 h)
      clear b1 hm
      go_wp2_with fail
      go_loopw [5, 6] (fun i _ wr => ∃ k : Nat, 1 ≤ k ∧ k ≤ 16 ∧ i = .int .i64 k ∧ Tb wr (w.heap.size + 1) (f2 h k) ∧ Below w.heap.size w wr) (fun i _ _ => 16 - (intOf i).toNat)
      case atStart => exact ⟨1, by omega, by omega, rfl, b2, hb0⟩
      case round =>
        clear b2 hb0 b0
        obtain ⟨k, hk1, hk2, rfl, b1, hb0⟩ := hrel
        by_cases hlt : k < 16
        · obtain ⟨hand, hl0, hlk, hlp, hlx⟩ := last_ok hk1 hlt
          generalize lastB k = z at *
          have HX : Hid (pr h (k - z) ^^^ pr h z = pr h k) := by
            show _ = _
            rw [pr_add h (by omega) (by omega) (by rw [hlx]; exact hlt), hlx]
          have HA : Hid (f2 h k (k - z) = pr h (k - z)) := f2_low h (by omega)
          have HZ : Hid (f2 h k z = pr h z) := f2_pow h hlp
          have p0 : (0 : Int) ≤ (k : Int) := by omega
          have p1 : (k : Int) < 16 := by omega
          have p2 : (0 : Int) ≤ (z : Int) := by omega
          have p3 : (z : Int) < 16 := by omega
          obtain ⟨y, hy⟩ : ∃ y, y = k - z := ⟨_, rfl⟩
          have p4 : (k : Int) - (z : Int) = (y : Int) := by omega
          have p5 : (0 : Int) ≤ (y : Int) := by omega
          have p6 : (y : Int) < 16 := by omega
          rw [← hy] at HX HA
          have p7 : IntKind.i64.wrap (y : Int) = (y : Int) := by rw [IntKind.wrap_i64]; omega
          have t0 := b1.hi (i := y) (by omega)
          have t1 := b1.lo (i := y) (by omega)
          rw [HA.out] at t0 t1
          have s0 := b1.hi (i := z) (by omega)
          have s1 := b1.lo (i := z) (by omega)
          rw [HZ.out] at s0 s1
          have r0 := b1.hi hlt
          have r1 := b1.lo hlt
          have r2 := b1.free (k * 2)
          have r3 := b1.free (k * 2 + 1)
          have hgl := b1.lt
          have HA' : Hid (f2 h (k + 1) y = pr h y) := f2_low h (by omega)
          have HZ' : Hid (f2 h (k + 1) z = pr h z) := f2_pow h hlp
          clear hlp hlx hy
          go_wp2_with fail
          go_region_held3 (fun w' => w'.cell? ⟨w.heap.size + 1, y * 2, none⟩ = some (.int .u64 (hN (pr h y) : Int)) ∧ w'.cell? ⟨w.heap.size + 1, y * 2 + 1, none⟩ = some (.int .u64 (lN (pr h y) : Int)) ∧ w'.cell? ⟨w.heap.size + 1, z * 2, none⟩ = some (.int .u64 (hN (pr h z) : Int)) ∧ w'.cell? ⟨w.heap.size + 1, z * 2 + 1, none⟩ = some (.int .u64 (lN (pr h z) : Int)))
            (first | (exact ⟨v0, v1, v2, v3⟩) | (exact ⟨u0, u1, u2, u3⟩) | (exact ⟨t0, t1, s0, s1⟩) | go_keep)
            ((go_at_call 93; go_must (refine (C2.out wr.drew (pr h y) (pr h z)).mono ?_); rw [HX.out]; rintro e w2 ⟨rfl, hb2⟩; have b2 := b1.dr.below hb2 hgl; have r0 := b2.hi hlt; have r1 := b2.lo hlt; have r2 := b2.free (k * 2); have r3 := b2.free (k * 2 + 1); have b3 := (b2.set hlt (pr h k)).congr (f' := f2 h (k + 1)) (fun i _ => f2_step h); have u0 := b2.hi (i := y) (by omega); have u1 := b2.lo (i := y) (by omega); have u2 := b2.hi (i := z) (by omega); have u3 := b2.lo (i := z) (by omega); rw [HA.out] at u0 u1; rw [HZ.out] at u2 u3; have v0 := b3.hi (i := y) (by omega); have v1 := b3.lo (i := y) (by omega); have v2 := b3.hi (i := z) (by omega); have v3 := b3.lo (i := z) (by omega); rw [HA'.out] at v0 v1; rw [HZ'.out] at v2 v3))
          go_wp2_with fail
          go_roundw
          case rel =>
            (repeat apply Exists.intro)
            refine ⟨?_, rfl⟩
            exact ⟨k + 1, by omega, by omega, by go_num, b3, ((hb0.drew.trans (hb2.mono hb0.size)).setCell (by simp) _).setCell (by simp) _⟩
          case measure => simp [intOf]; omega
        · obtain rfl : k = 16 := by omega
          go_wp2_with fail
          go_ret
          exact ⟨w.heap.size + 1, rfl, by omega, b1.congr fun i hi => f2_end h hi, hb0⟩

end Go.Proofs.YtjpejheipkfanaaGreatDoor

/-
  The contracts of taken and of a table's Times: the product; the table may lie within a greater variable. Condition: the table lies where the pointer leads.
-/
namespace Go.Proofs.YtjpejheipkfanaaGreatDoor
open Go.RowKit

theorem word_step {x k : Nat} : (x / 16 ^ k : Nat) / 16 = x / 16 ^ (k + 1) := by rw [Nat.div_div_eq_div_mul, Nat.pow_succ]

/-- From place o of block g on lie sixteen elements, the i-th one f i. -/
def TbA (w : World) (g o : Nat) (f : Nat → Fe) : Prop :=
  g < w.heap.size ∧ ∀ i, i < 16 → w.cell? ⟨g, o + i * 2, none⟩ = some (.int .u64 (hN (f i) : Int)) ∧ w.cell? ⟨g, o + i * 2 + 1, none⟩ = some (.int .u64 (lN (f i) : Int))
theorem Tb.at0 {w : World} {g : Nat} {f : Nat → Fe} (h : Tb w g f) : TbA w g 0 f := ⟨h.lt, fun i hi => by rw [Nat.zero_add]; exact ⟨h.hi hi, h.lo hi⟩⟩
theorem TbA.lt {w : World} {g o : Nat} {f : Nat → Fe} (h : TbA w g o f) : g < w.heap.size := h.1
theorem TbA.hi {w : World} {g o : Nat} {f : Nat → Fe} (h : TbA w g o f) {i : Nat} (hi : i < 16) : w.cell? ⟨g, o + i * 2, none⟩ = some (.int .u64 (hN (f i) : Int)) := (h.2 i hi).1
theorem TbA.lo {w : World} {g o : Nat} {f : Nat → Fe} (h : TbA w g o f) {i : Nat} (hi : i < 16) : w.cell? ⟨g, o + i * 2 + 1, none⟩ = some (.int .u64 (lN (f i) : Int)) := (h.2 i hi).2
theorem TbA.below {w w' : World} {g o : Nat} {f : Nat → Fe} (h : TbA w g o f) {B : Nat} (hb : Below B w w') (hB : g < B) : TbA w' g o f :=
  ⟨Nat.lt_of_lt_of_le h.1 hb.size, fun i hi => ⟨(hb.cell (p := ⟨g, o + i * 2, none⟩) hB).trans (h.hi hi), (hb.cell (p := ⟨g, o + i * 2 + 1, none⟩) hB).trans (h.lo hi)⟩⟩
theorem TbA.dr {w : World} {g o : Nat} {f : Nat → Fe} (h : TbA w g o f) : TbA w.drew g o f := h

set_option maxRecDepth 100000 in
set_option maxHeartbeats 2000000 in
theorem oTakenA (w : World) (g o : Nat) (h p : Fe) (x : Nat) (hT : TbA w g o (pr h)) (hx : x < 18446744073709551616) :
    Calls Tryz.prog 120 #[.pointer (some ⟨g, o, none⟩), ev p, .int .u64 (x : Int)] w fun e w' => e = .returned (ev (tkF h p x 16)) ∧ Below w.heap.size w w' := by
  have C1 : Hid (∀ w a, Calls Tryz.prog 92 #[.agg #[.int .u64 (hN a : Int), .int .u64 (lN a : Int)], .int .i64 4] w fun e w' => e = .returned (.agg #[.int .u64 (hN (txN a 4) : Int), .int .u64 (lN (txN a 4) : Int)]) ∧ Below w.heap.size w w') := fun w a => oRaise4 w a
  have C2 : Hid (∀ w a b, Calls Tryz.prog 93 #[.agg #[.int .u64 (hN a : Int), .int .u64 (lN a : Int)], .agg #[.int .u64 (hN b : Int), .int .u64 (lN b : Int)]] w fun e w' => e = .returned (.agg #[.int .u64 (hN (a ^^^ b) : Int), .int .u64 (lN (a ^^^ b) : Int)]) ∧ Below w.heap.size w w') := fun w a b => oAddE w a b
  have hgl := hT.lt
  unfold ev
  go_enter Tryz.func120, Tryz.ntmps120
  go_wp2_with fail
  obtain ⟨W, hW⟩ : ∃ W, W = (w.alloc (.cells #[.int .u64 (hN p : Int), .int .u64 (lN p : Int)] 129)).alloc (.cells #[.int .u64 0, .int .u64 0] 129) := ⟨_, rfl⟩
  rw [← hW]
  have b0 : Blk W w.heap.size (ec p) 129 := by rw [hW]; exact (Blk.new w _ _).old _
  have b1 : Blk W (w.heap.size + 1) [.int .u64 0, .int .u64 0] 129 := by rw [hW]; exact Blk.newAt (w.alloc _) _ _ _ (by simp) _ rfl
  have hb0 : Below w.heap.size w W := by rw [hW]; exact below2 w _ _
  clear hW
  go_loopw [2, 7] (fun x' i wr => ∃ k y : Nat, k ≤ 16 ∧ y = x / 16 ^ k ∧ x' = .int .u64 (y : Int) ∧ i = .int .i64 k ∧ Blk wr w.heap.size (ec (tkF h p x k)) 129 ∧ Blk wr (w.heap.size + 1) [.int .u64 0, .int .u64 0] 129 ∧ Below w.heap.size w wr) (fun _ i _ => 16 - (intOf i).toNat)
  case atStart => exact ⟨0, x, by omega, by simp, rfl, rfl, b0, b1, hb0⟩
  case round =>
    clear b0 b1 hb0
    obtain ⟨k, y, hk, hy, rfl, rfl, b0, b1, hb0⟩ := hrel
    by_cases hlt : k < 16
    · have HN : Hid (tkF h p x (k + 1) = txN (tkF h p x k) 4 ^^^ pr h (y % 16)) := by show _ = _; rw [hy]; rfl
      have HY : Hid (y / 16 = x / 16 ^ (k + 1)) := by show _ = _; rw [hy, word_step]
      have hyx : y ≤ x := by rw [hy]; exact Nat.div_le_self _ _
      have hTr := hT.below hb0 hgl
      generalize tkF h p x k = q at *
      obtain ⟨m, hm⟩ : ∃ m, m = y % 16 := ⟨_, rfl⟩
      rw [← hm] at HN
      have m16 : m < 16 := by omega
      have i0 : (0 : Int) ≤ (m : Int) := by omega
      have i1 : (m : Int) < 16 := by omega
      have i2 : (y : Int).tmod 16 = (m : Int) := by rw [Int.tmod_eq_emod_of_nonneg (by omega)]; omega
      have i3 : (y : Int) % 16 = (m : Int) := by omega
      have i4 : IntKind.u64.wrap (m : Int) = (m : Int) := by rw [IntKind.wrap_u64]; omega
      obtain ⟨y2, hy2⟩ : ∃ y2, y2 = y / 16 := ⟨_, rfl⟩
      rw [← hy2] at HY
      have i5 : (y : Int).tdiv 16 = (y2 : Int) := by rw [Int.tdiv_eq_ediv_of_nonneg (by omega)]; omega
      have i6 : (y : Int) / 16 = (y2 : Int) := by omega
      have i7 : IntKind.u64.wrap (y2 : Int) = (y2 : Int) := by rw [IntKind.wrap_u64]; omega
      have i8 : (0 : Int) ≤ (k : Int) := by omega
      have i9 : (k : Int) < 16 := by omega
      have t0 := hTr.hi m16
      have t1 := hTr.lo m16
      have c0 := b0.cell 0
      have c1 := b0.cell 1
      simp only [ec, List.getElem?_cons_zero, List.getElem?_cons_succ] at c0 c1
      have hgn : ¬ g = w.heap.size := by omega
      have hwl := b0.lt
      have hgr := hTr.lt
      clear hy hm hy2
      go_wp2_with fail
      go_region_with
        (first
        | (go_at_call 93; go_must (refine (C2.out w2 (txN q 4) (pr h m)).mono ?_); rw [← HN.out]; rintro e w3 ⟨rfl, hb3⟩; have T3 := T2.below hb3 T2.lt; have u0 := T3.hi m16; have u1 := T3.lo m16; have d3 := d2.below hb3 d2.lt; have e3 := e2.below hb3 e2.lt; have q3 := q2.trans (hb3.mono q2.size); have r0 := d3.cell 0; have r1 := d3.cell 1; have r2 := d3.free 0; have r3 := d3.free 1; simp only [ec, List.getElem?_cons_zero, List.getElem?_cons_succ] at r0 r1)
        | (go_at_call 92; go_must (refine (C1.out wr.drew q).mono ?_); rintro e w2 ⟨rfl, hb2⟩; have T2 := hTr.dr.below hb2 hgr; have d2 := b0.dr.below hb2 hwl; have e2 := b1.dr.below hb2 b1.lt; have q2 := hb0.drew.trans (hb2.mono hb0.size); have s0 := T2.hi m16; have s1 := T2.lo m16))
      all_goals
        go_wp2_with fail
        go_roundw
        case rel =>
          have d4 := (d3.setC 0 (.int .u64 (hN (tkF h p x (k + 1)) : Int))).setC 1 (.int .u64 (lN (tkF h p x (k + 1)) : Int))
          exact ⟨k + 1, y2, by omega, HY.out, rfl, by go_num, d4, (e3.setO (by simp) _).setO (by simp) _, (q3.setCell (Nat.le_refl _) _).setCell (Nat.le_refl _) _⟩
        case measure => simp [intOf]; omega
    · obtain rfl : k = 16 := by omega
      have c0 := b0.cell 0
      have c1 := b0.cell 1
      have e0 := b1.cell 0
      have e1 := b1.cell 1
      have e2 := b1.free 0
      have e3 := b1.free 1
      simp only [ec, List.getElem?_cons_zero, List.getElem?_cons_succ] at c0 c1 e0 e1
      have b2 := (b1.setC 0 (.int .u64 (hN (tkF h p x 16) : Int))).setC 1 (.int .u64 (lN (tkF h p x 16) : Int))
      have B2 : Hid (Blk _ (w.heap.size + 1) (ec (tkF h p x 16)) 129) := b2
      clear b2 hy
      go_wp2_with fail
      exact bodyPost_ret (v := ev (tkF h p x 16)) (res_el Tryz.results120 _ _ (w.heap.size + 1) _ rfl B2.out) rfl ⟨rfl, (hb0.setCell (by simp) _).setCell (by simp) _⟩

set_option maxRecDepth 100000 in
set_option maxHeartbeats 2000000 in
theorem oTimesTA (w : World) (g o : Nat) (h a : Fe) (hT : TbA w g o (pr h)) :
    Calls Tryz.prog 114 #[.pointer (some ⟨g, o, none⟩), ev a] w fun e w' => e = .returned (ev (fmul a h)) ∧ Below w.heap.size w w' := by
  have hgl := hT.lt
  obtain ⟨q, hq⟩ : ∃ q, q = tkF h 0 (lN a) 16 := ⟨_, rfl⟩
  have C1 : Hid (∀ w, TbA w g o (pr h) → Calls Tryz.prog 120 #[.pointer (some ⟨g, o, none⟩), .agg #[.int .u64 0, .int .u64 0], .int .u64 (lN a : Int)] w fun e w' => e = .returned (.agg #[.int .u64 (hN q : Int), .int .u64 (lN q : Int)]) ∧ Below w.heap.size w w') := fun w hT => by
    have := oTakenA w g o h 0 (lN a) hT (lN_lt a)
    rw [ev_zero, ← hq] at this
    exact this
  have C2 : Hid (∀ w, TbA w g o (pr h) → Calls Tryz.prog 120 #[.pointer (some ⟨g, o, none⟩), .agg #[.int .u64 (hN q : Int), .int .u64 (lN q : Int)], .int .u64 (hN a : Int)] w fun e w' => e = .returned (.agg #[.int .u64 (hN (fmul a h) : Int), .int .u64 (lN (fmul a h) : Int)]) ∧ Below w.heap.size w w') := fun w hT => by
    have := oTakenA w g o h q (hN a) hT (hN_lt a)
    rw [hq, show tkF h (tkF h 0 (lN a) 16) (hN a) 16 = fmul a h from tk_mul a h, ← hq] at this
    exact this
  clear hq
  unfold ev
  generalize fmul a h = z at *
  go_enter Tryz.func114, Tryz.ntmps114
  go_wp2_with fail
  obtain ⟨W, hW⟩ : ∃ W, W = (w.alloc (.cells #[.int .u64 (hN a : Int), .int .u64 (lN a : Int)] 129)).alloc (.cells #[.int .u64 0, .int .u64 0] 129) := ⟨_, rfl⟩
  rw [← hW]
  have b0 : Blk W w.heap.size (ec a) 129 := by rw [hW]; exact (Blk.new w _ _).old _
  have b1 : Blk W (w.heap.size + 1) [.int .u64 0, .int .u64 0] 129 := by rw [hW]; exact Blk.newAt (w.alloc _) _ _ _ (by simp) _ rfl
  have hb0 : Below w.heap.size w W := by rw [hW]; exact below2 w _ _
  have T1 := hT.below hb0 hgl
  clear hW
  have c0 := b0.cell 0
  have c1 := b0.cell 1
  simp only [ec, List.getElem?_cons_zero, List.getElem?_cons_succ] at c0 c1
  go_region_held3 (fun w' => w'.cell? ⟨w.heap.size, 0, none⟩ = some (.int .u64 (hN a : Int)) ∧ w'.cell? ⟨w.heap.size, 1, none⟩ = some (.int .u64 (lN a : Int)))
    (first | (exact ⟨v0, v1⟩) | (exact ⟨u0, u1⟩) | (exact ⟨s0, s1⟩) | (exact ⟨c0, c1⟩) | go_keep)
    (first
    | (go_at_call 120; refine (C2.out w2 T2).mono ?_; rintro e w3 ⟨rfl, hb3⟩; have d3 := d2.below hb3 d2.lt; have e3 := e2.below hb3 e2.lt; have q3 := q2.trans (hb3.mono q2.size); have u0 := d3.cell 0; have u1 := d3.cell 1; have r0 := e3.cell 0; have r1 := e3.cell 1; have r2 := e3.free 0; have r3 := e3.free 1; have d4 := (d3.setO (p := ⟨w.heap.size + 1, 0, none⟩) (by simp) (.int .u64 (hN z : Int))).setO (p := ⟨w.heap.size + 1, 1, none⟩) (by simp) (.int .u64 (lN z : Int)); have v0 := d4.cell 0; have v1 := d4.cell 1; simp only [ec, List.getElem?_cons_zero, List.getElem?_cons_succ] at u0 u1 v0 v1 r0 r1)
    | (go_at_call 120; refine (C1.out W.drew T1.dr).mono ?_; rintro e w2 ⟨rfl, hb2⟩; have T2 := T1.dr.below hb2 T1.lt; have d2 := b0.dr.below hb2 b0.lt; have e2 := b1.dr.below hb2 b1.lt; have q2 := hb0.drew.trans (hb2.mono hb0.size); have s0 := d2.cell 0; have s1 := d2.cell 1; simp only [ec, List.getElem?_cons_zero, List.getElem?_cons_succ] at s0 s1))
  have b2 := (e3.setC 0 (.int .u64 (hN z : Int))).setC 1 (.int .u64 (lN z : Int))
  have B2 : Hid (Blk _ (w.heap.size + 1) (ec z) 129) := b2
  clear b2
  go_wp2_with fail
  exact bodyPost_ret (v := ev z) (res_el Tryz.results114 _ _ (w.heap.size + 1) z rfl B2.out) rfl ⟨rfl, (q3.setCell (by simp) _).setCell (by simp) _⟩

theorem oTaken (w : World) (g : Nat) (h p : Fe) (x : Nat) (hT : Tb w g (pr h)) (hx : x < 18446744073709551616) :
    Calls Tryz.prog 120 #[.pointer (some ⟨g, 0, none⟩), ev p, .int .u64 (x : Int)] w fun e w' => e = .returned (ev (tkF h p x 16)) ∧ Below w.heap.size w w' := oTakenA w g 0 h p x hT.at0 hx
theorem oTimesT (w : World) (g : Nat) (h a : Fe) (hT : Tb w g (pr h)) :
    Calls Tryz.prog 114 #[.pointer (some ⟨g, 0, none⟩), ev a] w fun e w' => e = .returned (ev (fmul a h)) ∧ Below w.heap.size w w' := oTimesTA w g 0 h a hT.at0

end Go.Proofs.YtjpejheipkfanaaGreatDoor

/-
  The contract of a table's Hash: block by block. Condition: the table lies where the pointer leads; at most 1000 bytes.
-/
namespace Go.Proofs.YtjpejheipkfanaaGreatDoor
open Go.RowKit

/-- How long a slice is. -/
def slLen : Value → Nat | .slice _ n _ => n | _ => 0
theorem feB_take (l : List UInt8) : feB (l.take 16) = feB l := by
  have := feB_pad l 0
  rw [List.replicate_zero, List.append_nil] at this
  exact this

set_option maxRecDepth 100000 in
set_option maxHeartbeats 2000000 in
theorem oHashFA (w : World) (g o : Nat) (h f : Fe) (hT : TbA w g o (pr h)) {pb : Option Addr} {n cb : Nat} {l : List UInt8} (hB : Bs w pb n cb l) (hn : n ≤ 1000) :
    Calls Tryz.prog 98 #[.pointer (some ⟨g, o, none⟩), ev f, .slice pb n cb] w fun e w' => e = .returned (ev (hashF h f l)) ∧ Below w.heap.size w w' := by
  have C1 : Hid (∀ w a b, Calls Tryz.prog 93 #[.agg #[.int .u64 (hN a : Int), .int .u64 (lN a : Int)], .agg #[.int .u64 (hN b : Int), .int .u64 (lN b : Int)]] w fun e w' => e = .returned (.agg #[.int .u64 (hN (a ^^^ b) : Int), .int .u64 (lN (a ^^^ b) : Int)]) ∧ Below w.heap.size w w') := fun w a b => oAddE w a b
  have C2 : Hid (∀ w a, TbA w g o (pr h) → Calls Tryz.prog 114 #[.pointer (some ⟨g, o, none⟩), .agg #[.int .u64 (hN a : Int), .int .u64 (lN a : Int)]] w fun e w' => e = .returned (.agg #[.int .u64 (hN (fmul a h) : Int), .int .u64 (lN (fmul a h) : Int)]) ∧ Below w.heap.size w w') := fun w a hT => oTimesTA w g o h a hT
  have hgl := hT.lt
  have HL : Hid (l.length = n) := hB.len
  unfold ev
  go_enter Tryz.func98, Tryz.ntmps98
  go_wp2_with fail
  obtain ⟨W, hW⟩ : ∃ W, W = (w.alloc (.cells #[.int .u64 (hN f : Int), .int .u64 (lN f : Int)] 129)).alloc (.cells #[.int .u64 0, .int .u64 0] 129) := ⟨_, rfl⟩
  rw [← hW]
  have b0 : Blk W w.heap.size (ec f) 129 := by rw [hW]; exact (Blk.new w _ _).old _
  have b1 : Blk W (w.heap.size + 1) [.int .u64 0, .int .u64 0] 129 := by rw [hW]; exact Blk.newAt (w.alloc _) _ _ _ (by simp) _ rfl
  have hb0 : Below w.heap.size w W := by rw [hW]; exact below2 w _ _
  clear hW
  go_loopw [2] (fun v wr => ∃ (k m : Nat) (py : Option Addr) (cy : Nat), (m = n - 16 * k ∧ 16 * k < n + 16) ∧ v = .slice py m cy ∧ Bs w py m cy (l.drop (16 * k)) ∧ Blk wr w.heap.size (ec (hsh h f l k)) 129 ∧ Blk wr (w.heap.size + 1) [.int .u64 0, .int .u64 0] 129 ∧ Below w.heap.size w wr) (fun v _ => slLen v)
  case atStart => exact ⟨0, n, pb, cb, ⟨by omega, by omega⟩, rfl, hB, b0, b1, hb0⟩
  case round =>
    clear b0 b1 hb0
    obtain ⟨k, m, py, cy, hkm, rfl, hBy, b0, b1, hb0⟩ := hrel
    have hTr := hT.below hb0 hgl
    by_cases hlt : 0 < m
    · have HN : Hid (hsh h f l (k + 1) = fmul (hsh h f l k ^^^ feB (l.drop (16 * k))) h) := by show _ = _; rw [← feB_take (l.drop (16 * k))]; rfl
      have HK : Hid (m = n - 16 * k ∧ 16 * k < n + 16) := hkm
      have hBr := hBy.below hb0 (Nat.le_refl _)
      obtain ⟨t, ht⟩ : ∃ t, t = min 16 m := ⟨_, rfl⟩
      obtain ⟨a', c', hcut, hcB, _⟩ := hBy.cutLow t (by omega)
      have hB2 := hcB w hBy
      have i0 : (0 : Int) < (m : Int) := by omega
      have i1 : (if (m : Int) < 16 then (m : Int) else 16) = (t : Int) := by split <;> omega
      have HD : Hid ((l.drop (16 * k)).drop t = l.drop (16 * (k + 1))) := by
        show _ = _
        rw [List.drop_drop]
        have := HL.out
        have := HK.out
        by_cases h16 : 16 ≤ m
        · rw [show 16 * k + t = 16 * (k + 1) from by omega]
        · rw [List.drop_eq_nil_of_le (by omega), List.drop_eq_nil_of_le (by omega)]
      have HM : Hid (t = min 16 m) := ht
      obtain ⟨m2, hm2⟩ : ∃ m2, m2 = m - t := ⟨_, rfl⟩
      rw [← hm2] at hcut hB2
      have HM2 : Hid (m2 = m - t) := hm2
      clear hkm ht hcB hm2
      generalize hsh h f l k = y at *
      generalize l.drop (16 * k) = L at *
      have c0 := b0.cell 0
      have c1 := b0.cell 1
      simp only [ec, List.getElem?_cons_zero, List.getElem?_cons_succ] at c0 c1
      go_wp2_with fail
      go_region_with (first
        | (go_at_call 114; refine (C2.out w3 (y ^^^ feB L) T3).mono ?_; rw [← HN.out]; rintro e w4 ⟨rfl, hb4⟩; have d4 := d3.below hb4 d3.lt; have e4 := e3.below hb4 e3.lt; have q4 := q3.trans (hb4.mono q3.size); have r0 := d4.cell 0; have r1 := d4.cell 1; have r2 := d4.free 0; have r3 := d4.free 1; simp only [ec, List.getElem?_cons_zero, List.getElem?_cons_succ] at r0 r1)
        | (go_at_call 93; refine (C1.out w2 y (feB L)).mono ?_; rintro e w3 ⟨rfl, hb3⟩; have T3 := T2.below hb3 T2.lt; have d3 := d2.below hb3 d2.lt; have e3 := e2.below hb3 e2.lt; have q3 := q2.trans (hb3.mono q2.size); have u0 := d3.cell 0; have u1 := d3.cell 1; simp only [ec, List.getElem?_cons_zero, List.getElem?_cons_succ] at u0 u1)
        | (go_at_call 68; refine (oFrom wr.drew hBr.drew).mono ?_; unfold ev; rintro e w2 ⟨rfl, hb2⟩; have T2 := hTr.dr.below hb2 hTr.lt; have d2 := b0.dr.below hb2 b0.lt; have e2 := b1.dr.below hb2 b1.lt; have q2 := hb0.drew.trans (hb2.mono hb0.size); have s0 := d2.cell 0; have s1 := d2.cell 1; simp only [ec, List.getElem?_cons_zero, List.getElem?_cons_succ] at s0 s1))
      all_goals
        go_wp2_with fail
        go_roundw
        case rel =>
          have d5 := (d4.setC 0 (.int .u64 (hN (hsh h f l (k + 1)) : Int))).setC 1 (.int .u64 (lN (hsh h f l (k + 1)) : Int))
          exact ⟨k + 1, m2, a', c', by have := HK.out; have := HM.out; have := HM2.out; omega, rfl, by rw [← HD.out]; exact hB2, d5, (e4.setO (by simp) _).setO (by simp) _, (q4.setCell (Nat.le_refl _) _).setCell (Nat.le_refl _) _⟩
        case measure => have := HM.out; have := HM2.out; simp [slLen]; omega
    · have m0 : m = 0 := by omega
      subst m0
      have HE : Hid (hashF h f l = hsh h f l k) := by
        show _ = _
        unfold hashF
        rw [HL.out]
        congr 1
        omega
      have c0 := b0.cell 0
      have c1 := b0.cell 1
      have e0 := b1.cell 0
      have e1 := b1.cell 1
      have e2 := b1.free 0
      have e3 := b1.free 1
      simp only [ec, List.getElem?_cons_zero, List.getElem?_cons_succ] at c0 c1 e0 e1
      have b2 := (b1.setC 0 (.int .u64 (hN (hsh h f l k) : Int))).setC 1 (.int .u64 (lN (hsh h f l k) : Int))
      have B2 : Hid (Blk _ (w.heap.size + 1) (ec (hsh h f l k)) 129) := b2
      clear b2 hkm
      go_wp2_with fail
      rw [HE.out]
      exact bodyPost_ret (v := ev (hsh h f l k)) (res_el Tryz.results98 _ _ (w.heap.size + 1) _ rfl B2.out) rfl ⟨rfl, (hb0.setCell (by simp) _).setCell (by simp) _⟩

theorem oHashF (w : World) (g : Nat) (h f : Fe) (hT : Tb w g (pr h)) {pb : Option Addr} {n cb : Nat} {l : List UInt8} (hB : Bs w pb n cb l) (hn : n ≤ 1000) :
    Calls Tryz.prog 98 #[.pointer (some ⟨g, 0, none⟩), ev f, .slice pb n cb] w fun e w' => e = .returned (ev (hashF h f l)) ∧ Below w.heap.size w w' := oHashFA w g 0 h f hT.at0 hB hn

end Go.Proofs.YtjpejheipkfanaaGreatDoor

/-
  The key of layer 6 as it lies in memory, and the contract of its tag. Conditions: the key lies where the pointer leads; a nonce of 12 bytes; what stands beside, and what is sealed, of at most 900 bytes.
-/
namespace Go.Proofs.YtjpejheipkfanaaGreatDoor
open Go.RowKit

/-- Block r is a key: the cipher, and the table of its element. -/
structure Gc (w : World) (r : Nat) (K : List UInt8) : Prop where
  cip : Cip w r K
  tab : TbA w r 752 (pr (hKey K))
theorem Gc.lt {w : World} {r : Nat} {K : List UInt8} (h : Gc w r K) : r < w.heap.size := h.tab.lt
theorem Gc.at {w w' : World} {r : Nat} {K : List UInt8} (h : Gc w r K) {B : Nat} (hb : Below B w w') (hB : r < B) : Gc w' r K := ⟨h.cip.below hb hB, h.tab.below hb hB⟩
theorem Gc.below {w w' : World} {r : Nat} {K : List UInt8} (h : Gc w r K) (hb : Below w.heap.size w w') : Gc w' r K := h.at hb h.lt

set_option maxRecDepth 100000 in
set_option maxHeartbeats 4000000 in
theorem oTagG (w : World) {r : Nat} {K nonce be s : List UInt8} {an ae as' : Option Addr} {cn ne ce ns cs' : Nat} (hG : Gc w r K) (hK : K.length = 240) (hn : Bs w an 12 cn nonce) (hE : Bs w ae ne ce be) (hS : Bs w as' ns cs' s) (hze : ne ≤ 900) (hzs : ns ≤ 900) :
    Calls Tryz.prog 70 #[.pointer (some ⟨r, 0, none⟩), .slice an 12 cn, .slice ae ne ce, .slice as' ns cs'] w (Gives w (tagL K nonce be s)) := by
  have HNL : Hid (nonce.length = 12) := hn.len
  have HLE : Hid (lens be s = putL (8 * ne) 8 ++ putL (8 * ns) 8) := by show _ = _; unfold lens; rw [hE.len, hS.len]
  have HTG : Hid (tagL K nonce be s = xorL (byF (hashF (hKey K) (hashF (hKey K) (hashF (hKey K) 0 be) s) (lens be s))) (ctrK K nonce 1)) := rfl
  have HCL : Hid ((ctrK K nonce 1).length = 16) := ctrK_length hK HNL.out 1
  have CM : Hid (∀ w, Gc w r K → Bs w an 12 cn nonce → Calls Tryz.prog 95 #[.pointer (some ⟨r, 0, none⟩), .slice an 12 cn, .int .u64 1] w fun e w' => e = .returned (.agg (cs (ctrK K nonce 1)).toArray) ∧ Below w.heap.size w w') := fun w h1 h2 => oMask w h1.cip hK h2 1 (by omega)
  obtain ⟨Y1, hY1⟩ : ∃ Y, Y = hashF (hKey K) 0 be := ⟨_, rfl⟩
  have CH1 : Hid (∀ w, Gc w r K → Bs w ae ne ce be → Calls Tryz.prog 98 #[.pointer (some ⟨r, 752, none⟩), .agg #[.int .u64 0, .int .u64 0], .slice ae ne ce] w fun e w' => e = .returned (.agg #[.int .u64 (hN Y1 : Int), .int .u64 (lN Y1 : Int)]) ∧ Below w.heap.size w w') := fun w h1 h2 => by
    have := oHashFA w r 752 (hKey K) 0 h1.tab h2 (by omega)
    rw [ev_zero, ← hY1] at this
    exact this
  rw [← hY1] at HTG
  obtain ⟨Y2, hY2⟩ : ∃ Y, Y = hashF (hKey K) Y1 s := ⟨_, rfl⟩
  have CH2 : Hid (∀ w, Gc w r K → Bs w as' ns cs' s → Calls Tryz.prog 98 #[.pointer (some ⟨r, 752, none⟩), ev Y1, .slice as' ns cs'] w fun e w' => e = .returned (ev Y2) ∧ Below w.heap.size w w') := fun w h1 h2 => by
    have := oHashFA w r 752 (hKey K) Y1 h1.tab h2 (by omega)
    rw [← hY2] at this
    exact this
  rw [← hY2] at HTG
  obtain ⟨Y3, hY3⟩ : ∃ Y, Y = hashF (hKey K) Y2 (lens be s) := ⟨_, rfl⟩
  have CH3 : Hid (∀ w a m c, Gc w r K → Bs w a m c (lens be s) → Calls Tryz.prog 98 #[.pointer (some ⟨r, 752, none⟩), ev Y2, .slice a m c] w fun e w' => e = .returned (ev Y3) ∧ Below w.heap.size w w') := fun w a m c h1 h2 => by
    have := oHashFA w r 752 (hKey K) Y2 h1.tab h2 (by rw [← h2.len, lens_length]; omega)
    rw [← hY3] at this
    exact this
  rw [← hY3] at HTG
  clear hY1 hY2 hY3
  generalize tagL K nonce be s = T at *
  go_enter Tryz.func70, Tryz.ntmps70
  go_wp2_with (go_at_call 98; go_must (refine (CH1.out w hG hE).mono ?_); rintro e w1 ⟨rfl, hb1⟩)
  obtain ⟨g, hg⟩ : ∃ g, g = w1.heap.size := ⟨_, rfl⟩
  obtain ⟨W, hW⟩ : ∃ W, W = w1.alloc (.cells #[.int .u64 (hN Y1 : Int), .int .u64 (lN Y1 : Int)] 129) := ⟨_, rfl⟩
  rw [← hW, ← hg]
  have d1 : Blk W g (ec Y1) 129 := by rw [hW, hg]; exact Blk.new w1 _ _
  have q1 : Below w.heap.size w W := by rw [hW]; exact hb1.alloc hb1.size _
  have hwg : w.heap.size ≤ g := by rw [hg]; exact hb1.size
  have hrg : r < w.heap.size := hG.lt
  clear hW hg hb1
  have kW := hG.below q1
  have sW := hS.below q1 (Nat.le_refl _)
  refine regionE 6 (S := Grows W) (by kernel_rfl) (Below.refl _ W).drew ?_
  refine takeE 0 (some 18) (.pointer (some ⟨r, 0, none⟩)) rfl rfl (by kernel_rfl) (by kernel_rfl) (by kernel_rfl) (by kernel_rfl) (by kernel_rfl) (fun _ _ _ h => h) (ans_plain (by rfl) (fun w _ => rfl)) ?_
  simp only [Act.put, List.setIfInBounds_toArray, List.set_cons_zero, List.set_cons_succ]
  refine takeE 1 (some 19) (.pointer (some ⟨r, 0, none⟩)) rfl rfl (by kernel_rfl) (by kernel_rfl) (by kernel_rfl) (by kernel_rfl) (by kernel_rfl) (fun _ _ _ h => h) (ans_plain (by rfl) (fun w _ => rfl)) ?_
  simp only [Act.put, List.setIfInBounds_toArray, List.set_cons_zero, List.set_cons_succ]
  refine takeE 2 (some 20) (.pointer (some ⟨r, 752, none⟩)) rfl rfl (by kernel_rfl) (by kernel_rfl) (by kernel_rfl) (by kernel_rfl) (by kernel_rfl) (fun _ _ _ h => h) (ans_plain (by rfl) (fun w _ => by unfold execOp; go_simp)) ?_
  simp only [Act.put, List.setIfInBounds_toArray, List.set_cons_zero, List.set_cons_succ]
  refine takeE 3 (some 21) (ev Y1) rfl rfl (by kernel_rfl) (by kernel_rfl) (by kernel_rfl) (by kernel_rfl) (by kernel_rfl) (fun _ _ _ h => h) (ans_ld (.tmp 10) rfl (by rfl) g Y1 rfl (fun w h => d1.grows h)) ?_
  simp only [Act.put, List.setIfInBounds_toArray, List.set_cons_zero, List.set_cons_succ]
  refine takeE 4 (some 22) (.slice as' ns cs') rfl rfl (by kernel_rfl) (by kernel_rfl) (by kernel_rfl) (by kernel_rfl) (by kernel_rfl) (fun _ _ _ h => h) (ans_plain (by rfl) (fun w _ => rfl)) ?_
  simp only [Act.put, List.setIfInBounds_toArray, List.set_cons_zero, List.set_cons_succ]
  refine takeE 5 (some 23) (ev Y2) rfl rfl (by kernel_rfl) (by kernel_rfl) (by kernel_rfl) (by kernel_rfl) (by kernel_rfl) (fun _ _ _ h => h) (ans_fn 98 #[.tmp 20, .tmp 21, .tmp 22] #[132, 129, 32] #[.pointer (some ⟨r, 752, none⟩), ev Y1, .slice as' ns cs'] rfl (by rfl) (by rfl) Tryz.call98 fun u h => CH2.out u (kW.below h) (sW.grows h)) ?_
  simp only [Act.put, List.setIfInBounds_toArray, List.set_cons_zero, List.set_cons_succ]
  refine lastE (by kernel_rfl) (by kernel_rfl) (by kernel_rfl) (by kernel_rfl) fun u2 _ hs2 => ?_
  refine storeE 6 (.tmp 10) (.tmp 23) rfl rfl rfl rfl g Y2 _ rfl (d1.grows hs2) rfl rfl fun u3 b3 _ l3 u4 hg4 => ?_
  have q3 : Below w.heap.size w u3 := l3 _ _ hwg (q1.trans (Below.mono hs2 q1.size))
  have d4 := b3.grows hg4
  have q4 : Below w.heap.size w u4 := q3.trans (Below.mono hg4 q3.size)
  have k4 := hG.below q4
  clear q3 l3 b3 hs2 hg4 kW sW d1 q1
  go_wp2_with fail
  refine regionE 13 (S := Grows u4) (by kernel_rfl) (Below.refl _ u4).drew ?_
  refine takeE 0 (some 24) (.pointer (some ⟨r, 0, none⟩)) rfl rfl (by kernel_rfl) (by kernel_rfl) (by kernel_rfl) (by kernel_rfl) (by kernel_rfl) (fun _ _ _ h => h) (ans_plain (by rfl) (fun w _ => rfl)) ?_
  simp only [Act.put, List.setIfInBounds_toArray, List.set_cons_zero, List.set_cons_succ]
  refine takeE 1 (some 25) (.pointer (some ⟨r, 0, none⟩)) rfl rfl (by kernel_rfl) (by kernel_rfl) (by kernel_rfl) (by kernel_rfl) (by kernel_rfl) (fun _ _ _ h => h) (ans_plain (by rfl) (fun w _ => rfl)) ?_
  simp only [Act.put, List.setIfInBounds_toArray, List.set_cons_zero, List.set_cons_succ]
  refine takeE 2 (some 26) (.pointer (some ⟨r, 752, none⟩)) rfl rfl (by kernel_rfl) (by kernel_rfl) (by kernel_rfl) (by kernel_rfl) (by kernel_rfl) (fun _ _ _ h => h) (ans_plain (by rfl) (fun w _ => by unfold execOp; go_simp)) ?_
  simp only [Act.put, List.setIfInBounds_toArray, List.set_cons_zero, List.set_cons_succ]
  refine takeE 3 (some 27) (ev Y2) rfl rfl (by kernel_rfl) (by kernel_rfl) (by kernel_rfl) (by kernel_rfl) (by kernel_rfl) (fun _ _ _ h => h) (ans_ld (.tmp 10) rfl (by rfl) g Y2 rfl (fun w h => d4.grows h)) ?_
  simp only [Act.put, List.setIfInBounds_toArray, List.set_cons_zero, List.set_cons_succ]
  refine takeE 4 (some 28) (.func (.func 97) #[] #[]) rfl rfl (by kernel_rfl) (by kernel_rfl) (by kernel_rfl) (by kernel_rfl) (by kernel_rfl) (fun _ _ _ h => h) (ans_plain (by rfl) (fun w _ => rfl)) ?_
  simp only [Act.put, List.setIfInBounds_toArray, List.set_cons_zero, List.set_cons_succ]
  refine takeE 5 (some 29) (.slice ae ne ce) rfl rfl (by kernel_rfl) (by kernel_rfl) (by kernel_rfl) (by kernel_rfl) (by kernel_rfl) (fun _ _ _ h => h) (ans_plain (by rfl) (fun w _ => rfl)) ?_
  simp only [Act.put, List.setIfInBounds_toArray, List.set_cons_zero, List.set_cons_succ]
  refine takeE 7 (some 31) (.func (.func 97) #[] #[]) rfl rfl (by kernel_rfl) (by kernel_rfl) (by kernel_rfl) (by kernel_rfl) (by kernel_rfl) (fun _ _ _ h => h) (ans_plain (by rfl) (fun w _ => rfl)) ?_
  simp only [Act.put, List.setIfInBounds_toArray, List.set_cons_zero, List.set_cons_succ]
  refine takeE 8 (some 32) (.slice as' ns cs') rfl rfl (by kernel_rfl) (by kernel_rfl) (by kernel_rfl) (by kernel_rfl) (by kernel_rfl) (fun _ _ _ h => h) (ans_plain (by rfl) (fun w _ => rfl)) ?_
  simp only [Act.put, List.setIfInBounds_toArray, List.set_cons_zero, List.set_cons_succ]
  refine callVE 6 (some 30) 97 #[.slice ae ne ce] rfl rfl (by rfl) (runV (.tmp 28) _ #[.tmp 29] #[32] _ rfl rfl (by rfl) Tryz.call97) (by kernel_rfl) (by kernel_rfl) fun v5 hgv5 hsv5 => ?_
  refine (oBitsT v5 hze).mono ?_
  rintro e v6 ⟨p5, m5, x5, rfl, ho5, hGv6⟩
  refine ⟨_, rfl, Grows.trans hsv5 hGv6, ?_⟩
  simp only [Act.put, List.setIfInBounds_toArray, List.set_cons_zero, List.set_cons_succ]
  refine callVE 9 (some 33) 97 #[.slice as' ns cs'] rfl rfl (by rfl) (runV (.tmp 31) _ #[.tmp 32] #[32] _ rfl rfl (by rfl) Tryz.call97) (by kernel_rfl) (by kernel_rfl) fun v7 hgv7 hsv7 => ?_
  refine (oBitsT v7 hzs).mono ?_
  rintro e u5 ⟨p6, m6, x6, rfl, ho6, hGu5⟩
  have b5 := (ho5.toBs.grows hgv7).grows hGu5
  have b6 := ho6.toBs
  have hs5 := Grows.trans hsv7 hGu5
  refine ⟨_, rfl, hs5, ?_⟩
  simp only [Act.put, List.setIfInBounds_toArray, List.set_cons_zero, List.set_cons_succ]
  refine oneE 10 (by kernel_rfl) (by kernel_rfl) fun u7 hg7 hs7 => ?_
  refine opBS2 (some 34) rfl rfl rfl (.tmp 30) (.tmp 33) rfl p5 p6 m5 x5 m6 x6 rfl rfl ⟨Grows.trans hs7 (Grows.alloc _ _), ?_⟩
  simp only [Act.put, List.setIfInBounds_toArray, List.set_cons_zero, List.set_cons_succ]
  refine callE 11 (some 35) 29 #[.tmp 34] #[63] #[.slice (some ⟨u7.heap.size, 0, none⟩) 2 2] rfl rfl rfl (by rfl) (by rfl) (by kernel_rfl) (by kernel_rfl) Tryz.call29 fun u8 hg8 hs8 => ?_
  refine (oJoinB u8 (bss2 (b5.grows hg7) (b6.grows hg7) hg8) (by rw [putL_length, putL_length]; omega)).mono ?_
  rintro e u9 ⟨p9, m9, x9, rfl, ho9, hG9⟩
  have b9 := ho9.toBs
  rw [← HLE.out] at b9
  refine ⟨_, rfl, Grows.trans hs8 hG9, ?_⟩
  simp only [Act.put, List.setIfInBounds_toArray, List.set_cons_zero, List.set_cons_succ]
  refine callE 12 (some 36) 98 #[.tmp 26, .tmp 27, .tmp 35] #[132, 129, 32] #[.pointer (some ⟨r, 752, none⟩), ev Y2, .slice p9 m9 x9] rfl rfl rfl (by rfl) (by rfl) (by kernel_rfl) (by kernel_rfl) Tryz.call98 fun ua hga hsa => ?_
  refine (CH3.out ua _ _ _ (k4.below hsa) (b9.grows hga)).mono ?_
  rintro e ub ⟨rfl, hGb⟩
  refine ⟨_, rfl, Grows.trans hsa hGb, ?_⟩
  simp only [Act.put, List.setIfInBounds_toArray, List.set_cons_zero, List.set_cons_succ]
  refine lastE (by kernel_rfl) (by kernel_rfl) (by kernel_rfl) (by kernel_rfl) fun uc _ hsc => ?_
  refine storeE 13 (.tmp 10) (.tmp 36) rfl rfl rfl rfl g Y3 _ rfl (d4.grows hsc) rfl rfl fun ud bd' _ ld' ue hge => ?_
  have qd : Below w.heap.size w ud := ld' _ _ hwg (q4.trans (Below.mono hsc q4.size))
  have de := bd'.grows hge
  have qe : Below w.heap.size w ue := qd.trans (Below.mono hge qd.size)
  have ke := hG.below qe
  have ne' := hn.below qe (Nat.le_refl _)
  clear qd ld' bd' hsc hge d4 q4 k4 ho5 ho6 hsv5 hsv7 hGv6 hGu5 hgv5 hgv7 b5 b6 b9 ho9 hG9 hs8 hg8 hs7 hg7 hs5 hga hsa hGb
  have HCX : Hid ((cs (ctrK K nonce 1)).length = 16) := by show _ = _; rw [cs_length, HCL.out]
  generalize ctrK K nonce 1 = X at *
  go_wp2_with (first
    | (go_at_call 95; go_must (refine (CM.out ue ke ne').mono ?_); rintro e v1 ⟨rfl, hv1⟩)
    | (with_reducible refine at_st 122 ?_; refine st' 122 (.tmp 11) (.tmp 39) 16 sizeK v1.heap.size 0 _ HCX.out cs_one ((Blk.new v1 z16 122).there 0 16 (by rw [z16_eq, cs_length, List.length_replicate]; omega)) rfl rfl ?_; intro v2 hv2
       have c2 : Blk v2 v1.heap.size (cs X) 122 := by rw [hv2]; exact (Blk.new v1 z16 122).setsW _ (by rw [HCX.out, z16_eq, cs_length, List.length_replicate])
       have p2 : Below ue.heap.size ue v2 := by rw [hv2]; exact below_sets hv1.size _ (hv1.alloc hv1.size _) 0
       clear hv2))
  have s2 : Bs v2 (some ⟨v1.heap.size, 0, none⟩) 16 16 X := by
    have := Bs.of_range c2.whole (c := 16) (by rw [HCL.out]; omega) (by omega)
    rw [HCL.out] at this
    exact this
  have d2 := de.below p2 de.lt
  have q2 : Below w.heap.size w v2 := qe.trans (p2.mono qe.size)
  clear c2 p2 hv1 de qe ke ne'
  refine regionG (S := Grows v2) (by kernel_rfl) (Below.refl _ v2).drew ?_
  refine takeG 0 (some 40) (ev Y3) rfl rfl (by kernel_rfl) (by kernel_rfl) (by kernel_rfl) (fun _ _ _ h => h) (ans_ld (.tmp 10) rfl (by rfl) g Y3 rfl (fun w h => d2.grows h)) ?_
  simp only [Act.put, List.setIfInBounds_toArray, List.set_cons_zero, List.set_cons_succ]
  refine takeG 2 (some 42) (.slice (some ⟨v1.heap.size, 0, none⟩) 16 16) rfl rfl (by kernel_rfl) (by kernel_rfl) (by kernel_rfl) (fun _ _ _ h => h) (ans_all (.tmp 11) rfl (by rfl) v1.heap.size rfl) ?_
  simp only [Act.put, List.setIfInBounds_toArray, List.set_cons_zero, List.set_cons_succ]
  refine callG 1 (some 41) 99 #[.tmp 40] #[129] #[ev Y3] rfl rfl rfl (by rfl) (by rfl) (by kernel_rfl) Tryz.call99 fun ua hga hsa => ?_
  refine (oBytesE ua Y3).mono ?_
  rintro e ub ⟨pb, mb, xb, rfl, hob, hGb⟩
  refine ⟨_, rfl, Grows.trans hsa hGb, ?_⟩
  simp only [Act.put, List.setIfInBounds_toArray, List.set_cons_zero, List.set_cons_succ]
  refine callG 3 (some 43) 96 #[.tmp 41, .tmp 42] #[32, 32] #[.slice pb mb xb, .slice (some ⟨v1.heap.size, 0, none⟩) 16 16] rfl rfl rfl (by rfl) (by rfl) (by kernel_rfl) Tryz.call96 fun uc hgc hsc => ?_
  have hmb : mb ≤ 1000000 := by rw [← hob.toBs.len, byF_length]; omega
  refine (oXor uc (hob.toBs.grows hgc) (s2.grows hsc) hmb (by omega)).mono ?_
  rintro e ud ⟨pd, md, xd, rfl, hod, hGd⟩
  rw [← HTG.out] at hod
  refine ⟨_, rfl, Grows.trans hsc hGd, ?_⟩
  simp only [Act.put, List.setIfInBounds_toArray, List.set_cons_zero, List.set_cons_succ]
  refine takeG 4 (some 8) (.slice pd md xd) rfl rfl (by kernel_rfl) (by kernel_rfl) (by kernel_rfl) (fun _ _ _ h => h) (ans_plain (by rfl) (fun w _ => rfl)) ?_
  simp only [Act.put, List.setIfInBounds_toArray, List.set_cons_zero, List.set_cons_succ]
  refine doneG (by kernel_rfl) fun ue hge hse => ?_
  have hoe := hod.below hge (Nat.le_refl _)
  have hl : w.heap.size ≤ uc.heap.size := Nat.le_trans q2.size (Below.size hsc)
  go_wp2_with fail
  go_ret
  exact Gives.mk (hoe.mono hl) (q2.trans (Below.mono hse q2.size))

end Go.Proofs.YtjpejheipkfanaaGreatDoor

/-
  The contract of layer 6's hidden: a text under blocks. Conditions: the key lies where the pointer leads; a nonce of 12 bytes; a text of at most 900 bytes.
-/
namespace Go.Proofs.YtjpejheipkfanaaGreatDoor
open Go.RowKit

theorem xorL_take {l m : List UInt8} (h : m.length = 16) : xorL (l.take 16) m = xorL l m := by
  unfold xorL
  apply List.ext_getElem?
  intro i
  rw [List.getElem?_zipWith, List.getElem?_zipWith]
  by_cases hi : i < 16
  · rw [List.getElem?_take_of_lt hi]
  · rw [List.getElem?_eq_none (l := m) (by omega)]
    cases (List.take 16 l)[i]? <;> cases l[i]? <;> rfl

set_option maxRecDepth 100000 in
set_option maxHeartbeats 4000000 in
theorem oHidden (w : World) {r : Nat} {K nonce l : List UInt8} {an at' : Option Addr} {cn n ct : Nat} (hG : Gc w r K) (hK : K.length = 240) (hn : Bs w an 12 cn nonce) (hT : Bs w at' n ct l) (hz : n ≤ 900) :
    Calls Tryz.prog 69 #[.pointer (some ⟨r, 0, none⟩), .slice an 12 cn, .slice at' n ct] w (Gives w (strL K nonce l)) := by
  have HNL : Hid (nonce.length = 12) := hn.len
  have HL : Hid (l.length = n) := hT.len
  have hall := allK
  go_enter Tryz.func69, Tryz.ntmps69
  go_wp2_with (at_make; go_must (refine wpList_mk0 w rfl _ _ rfl w.heap.size (n : Int) rfl rfl (by omega) (by omega) (Nat.le_refl _) ?_); intro v0 w0 ho0 hb0)
  go_loopw [2, 7, 8, 9] (fun tx out nn _ wr => ∃ (k m : Nat) (py : Option Addr) (cy : Nat), (m = n - 16 * k ∧ 16 * k < n + 16) ∧ tx = .slice py m cy ∧ nn = .int .u64 ((2 + k : Nat) : Int) ∧ Bs w py m cy (l.drop (16 * k)) ∧ Own wr w.heap.size out (strm K nonce l k) ∧ Below w.heap.size w wr) (fun v _ _ _ _ => slLen v)
  case atStart => exact ⟨0, n, at', ct, ⟨by omega, by omega⟩, rfl, rfl, hT, ho0, hb0⟩
  case round =>
    clear ho0 hb0
    rename_i out _
    obtain ⟨k, m, py, cy, hkm, rfl, rfl, hBy, ho, hb⟩ := hrel
    by_cases hlt : 0 < m
    · have hGr := hG.below hb
      have hnr := hn.below hb (Nat.le_refl _)
      have HXL : Hid ((ctrK K nonce (2 + k)).length = 16) := ctrK_length hK HNL.out _
      have HCX : Hid ((cs (ctrK K nonce (2 + k))).length = 16) := by show _ = _; rw [cs_length, HXL.out]
      have HN : Hid (strm K nonce l (k + 1) = strm K nonce l k ++ xorL (l.drop (16 * k)) (ctrK K nonce (2 + k))) := by show _ = _; rw [strm, xorL_take HXL.out]
      have HK : Hid (m = n - 16 * k ∧ 16 * k < n + 16) := hkm
      have HSL : Hid ((strm K nonce l k).length ≤ 900) := by show _ ≤ _; rw [strm_is hK HNL.out, List.length_map, List.length_range]; have := HL.out; omega
      have CM : Hid (Calls Tryz.prog 95 #[.pointer (some ⟨r, 0, none⟩), .slice an 12 cn, .int .u64 ((2 + k : Nat) : Int)] wr fun e w' => e = .returned (.agg (cs (ctrK K nonce (2 + k))).toArray) ∧ Below wr.heap.size wr w') := oMask wr hGr.cip hK hnr (2 + k) (by omega)
      have hBr := hBy.below hb (Nat.le_refl _)
      obtain ⟨t, ht⟩ : ∃ t, t = min 16 m := ⟨_, rfl⟩
      obtain ⟨a', c', hcut, hcB, _⟩ := hBy.cutLow t (by omega)
      have hB2 := hcB w hBy
      have i0 : (0 : Int) < (m : Int) := by omega
      have i1 : (if (m : Int) < 16 then (m : Int) else 16) = (t : Int) := by split <;> omega
      have HD : Hid ((l.drop (16 * k)).drop t = l.drop (16 * (k + 1))) := by
        show _ = _
        rw [List.drop_drop]
        have := HL.out
        have := HK.out
        by_cases h16 : 16 ≤ m
        · rw [show 16 * k + t = 16 * (k + 1) from by omega]
        · rw [List.drop_eq_nil_of_le (by omega), List.drop_eq_nil_of_le (by omega)]
      have HM : Hid (t = min 16 m) := ht
      obtain ⟨m2, hm2⟩ : ∃ m2, m2 = m - t := ⟨_, rfl⟩
      rw [← hm2] at hcut hB2
      have HM2 : Hid (m2 = m - t) := hm2
      clear hkm ht hcB hm2
      obtain ⟨y, hy⟩ : ∃ y : Nat, y = 2 + k := ⟨_, rfl⟩
      rw [← hy] at HXL HCX HN CM ⊢
      have HY : Hid (y = 2 + k) := hy
      have i2 : IntKind.u64.wrap ((y : Int) + 1) = ((y + 1 : Nat) : Int) := by rw [IntKind.wrap_u64]; have := HK.out; omega
      have i3 : ((y : Int) + 1) % 18446744073709551616 = ((y + 1 : Nat) : Int) := by have := HK.out; omega
      clear hy
      have hm900 : m ≤ 900 := by have := HK.out; omega
      generalize ctrK K nonce y = X at *
      obtain ⟨Z, hZ⟩ : ∃ Z, Z = strm K nonce l k := ⟨_, rfl⟩
      rw [← hZ] at ho HN HSL
      obtain ⟨L, hL⟩ : ∃ L, L = l.drop (16 * k) := ⟨_, rfl⟩
      rw [← hL] at hBr HN hB2 HD
      clear hZ hL hBy
      have HR : Hid (Z.length + (xorL L X).length ≤ 1000000000) := by show _ ≤ _; unfold xorL; rw [List.length_zipWith, HXL.out]; have := HSL.out; omega
      go_wp2_with (first
        | (go_at_call 95; go_must (refine CM.out.mono ?_); rintro e w1 ⟨rfl, hb1⟩)
        | (with_reducible refine at_st 122 ?_; refine st' 122 (.tmp 9) (.tmp 21) 16 sizeK w1.heap.size 0 _ HCX.out cs_one ((Blk.new w1 z16 122).there 0 16 (by rw [z16_eq, cs_length, List.length_replicate]; omega)) rfl rfl ?_; intro w2 hw2
           have c2 : Blk w2 w1.heap.size (cs X) 122 := by rw [hw2]; exact (Blk.new w1 z16 122).setsW _ (by rw [HCX.out, z16_eq, cs_length, List.length_replicate])
           have p2 : Below wr.heap.size wr w2 := by rw [hw2]; exact below_sets hb1.size _ (hb1.alloc hb1.size _) 0
           have s2 : Bs w2 (some ⟨w1.heap.size, 0, none⟩) 16 16 X := by have := Bs.of_range c2.whole (c := 16) (by rw [HXL.out]; omega) (by omega); rw [HXL.out] at this; exact this
           clear hw2 c2)
        | (go_at_call 96; go_must (refine (oXor w2 (hBr.below p2 (Nat.le_refl _)) s2 (by omega) (by omega)).mono ?_); rintro e w3 ⟨a3, m3, c3, rfl, ho3, hb3⟩; have p3 : Below wr.heap.size wr w3 := p2.trans (hb3.mono p2.size))
        | (at_builtin; go_must (refine wpList_app w3 rfl (.tmp 22) (.tmp 25) rfl w.heap.size _ Z rfl (ho.below p3 (Nat.le_refl _)) a3 m3 c3 _ rfl ho3.toBs HR.out (Nat.le_trans hb.size p3.size) ?_); intro v4 w4 ho4 hb4))
      go_roundw
      case rel => exact ⟨k + 1, m2, a', c', by have := HK.out; have := HM.out; have := HM2.out; omega, rfl, by rw [HY.out]; rfl, by rw [← HD.out]; exact hB2, by rw [HN.out]; exact ho4, (hb.trans (p3.mono hb.size)).trans hb4⟩
      case measure => have := HM.out; have := HM2.out; simp [slLen]; omega
    · have m0 : m = 0 := by omega
      subst m0
      have HE : Hid (strL K nonce l = strm K nonce l k) := by
        show _ = _
        unfold strL
        rw [HL.out]
        congr 1
        omega
      clear hkm
      go_wp2_with fail
      go_ret
      rw [HE.out]
      exact Gives.mk ho hb

end Go.Proofs.YtjpejheipkfanaaGreatDoor
