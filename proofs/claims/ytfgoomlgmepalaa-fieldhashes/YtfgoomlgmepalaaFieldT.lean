/-
  A table in memory: sixteen elements. The contract of Build. No condition.
-/
import Derived.Test.YtfgoomlgmepalaaFieldF
namespace Go.Proofs.Ytfgoomlgmepalaa
open Go.RowKit

/-- Block g holds sixteen elements, the i-th one f i. -/
def Tb (w : World) (g : Nat) (f : Nat → Fe) : Prop :=
  ∃ vs : List Value, Blk w g vs 48 ∧ vs.length = 32 ∧ ∀ i, i < 16 → vs[i * 2]? = some (.int .u64 (hN (f i) : Int)) ∧ vs[i * 2 + 1]? = some (.int .u64 (lN (f i) : Int))
theorem Tb.lt {w : World} {g : Nat} {f : Nat → Fe} (h : Tb w g f) : g < w.heap.size := h.choose_spec.1.lt
theorem Tb.hi {w : World} {g : Nat} {f : Nat → Fe} (h : Tb w g f) {i : Nat} (hi : i < 16) : w.cell? ⟨g, i * 2, none⟩ = some (.int .u64 (hN (f i) : Int)) := by
  obtain ⟨vs, hb, _, hc⟩ := h
  rw [hb.cell, (hc i hi).1]
theorem Tb.lo {w : World} {g : Nat} {f : Nat → Fe} (h : Tb w g f) {i : Nat} (hi : i < 16) : w.cell? ⟨g, i * 2 + 1, none⟩ = some (.int .u64 (lN (f i) : Int)) := by
  obtain ⟨vs, hb, _, hc⟩ := h
  rw [hb.cell, (hc i hi).2]
theorem Tb.free {w : World} {g : Nat} {f : Nat → Fe} (h : Tb w g f) (i : Nat) : w.frozen? ⟨g, i, none⟩ = false := by
  obtain ⟨vs, hb, _, _⟩ := h
  exact hb.free i
theorem Tb.below {w w' : World} {g : Nat} {f : Nat → Fe} (h : Tb w g f) {B : Nat} (hb : Below B w w') (hB : g < B) : Tb w' g f := by
  obtain ⟨vs, h1, h2⟩ := h
  exact ⟨vs, h1.below hb hB, h2⟩
theorem Tb.dr {w : World} {g : Nat} {f : Nat → Fe} (h : Tb w g f) : Tb w.drew g f := h
theorem Tb.setO {w : World} {g : Nat} {f : Nat → Fe} (h : Tb w g f) {p : Addr} (hp : g ≠ p.block) (u : Value) : Tb (w.setCell p u) g f := by
  obtain ⟨vs, h1, h2⟩ := h
  exact ⟨vs, h1.setO hp u, h2⟩
theorem Tb.congr {w : World} {g : Nat} {f f' : Nat → Fe} (h : Tb w g f) (e : ∀ i, i < 16 → f i = f' i) : Tb w g f' := by
  obtain ⟨vs, h1, h2, h3⟩ := h
  exact ⟨vs, h1, h2, fun i hi => by rw [← e i hi]; exact h3 i hi⟩
theorem Tb.set {w : World} {g : Nat} {f : Nat → Fe} (h : Tb w g f) {k : Nat} (hk : k < 16) (a : Fe) :
    Tb ((w.setCell ⟨g, k * 2, none⟩ (.int .u64 (hN a : Int))).setCell ⟨g, k * 2 + 1, none⟩ (.int .u64 (lN a : Int))) g (fun i => if i = k then a else f i) := by
  obtain ⟨vs, h1, h2, h3⟩ := h
  refine ⟨_, (h1.setC (k * 2) _).setC (k * 2 + 1) _, by simpa using h2, fun i hi => ?_⟩
  by_cases e : i = k
  · subst e
    simp only [if_true]
    constructor
    · rw [List.getElem?_set_ne (by omega), List.getElem?_set_self (by omega)]
    · rw [List.getElem?_set_self (by simp; omega)]
  · simp only [if_neg e]
    rw [List.getElem?_set_ne (by omega), List.getElem?_set_ne (by omega), List.getElem?_set_ne (by omega), List.getElem?_set_ne (by omega)]
    exact h3 i hi

/-- The places that the first loop fills, behind k rounds. -/
def isP (k i : Nat) : Bool := (i == 8 && decide (0 < k)) || (i == 4 && decide (1 < k)) || (i == 2 && decide (2 < k)) || (i == 1 && decide (3 < k))
def f1 (h : Fe) (k i : Nat) : Fe := if isP k i then pr h i else 0
def f2 (h : Fe) (k i : Nat) : Fe := if decide (i < k) || isP 4 i then pr h i else 0
theorem pr_0 (h : Fe) : pr h 0 = 0 := by simp [pr]
theorem pr_1 (h : Fe) : pr h 1 = txN h 3 := by unfold pr; rw [show Nat.testBit 1 3 = false from by decide, show Nat.testBit 1 2 = false from by decide, show Nat.testBit 1 1 = false from by decide, show Nat.testBit 1 0 = true from by decide]; simp
theorem pr_2 (h : Fe) : pr h 2 = txN h 2 := by unfold pr; rw [show Nat.testBit 2 3 = false from by decide, show Nat.testBit 2 2 = false from by decide, show Nat.testBit 2 1 = true from by decide, show Nat.testBit 2 0 = false from by decide]; simp
theorem pr_4 (h : Fe) : pr h 4 = txN h 1 := by unfold pr; rw [show Nat.testBit 4 3 = false from by decide, show Nat.testBit 4 2 = true from by decide, show Nat.testBit 4 1 = false from by decide, show Nat.testBit 4 0 = false from by decide]; simp
theorem pr_8 (h : Fe) : pr h 8 = h := by unfold pr; rw [show Nat.testBit 8 3 = true from by decide, show Nat.testBit 8 2 = false from by decide, show Nat.testBit 8 1 = false from by decide, show Nat.testBit 8 0 = false from by decide]; simp
theorem pr_add (h : Fe) {a b : Nat} (ha : a < 16) (hb : b < 16) (hab : a ^^^ b < 16) : pr h a ^^^ pr h b = pr h (a ^^^ b) := by
  have := pr_xor h a b 0
  rw [Nat.pow_zero, Nat.div_one, Nat.div_one, Nat.div_one, Nat.mod_eq_of_lt ha, Nat.mod_eq_of_lt hb, Nat.mod_eq_of_lt hab] at this
  exact this.symm
theorem isP_step {k : Nat} (hk : k < 4) {i : Nat} (hi : i < 16) : isP (k + 1) i = (decide (i = 8 / 2 ^ k) || isP k i) := by
  have : ∀ k : Fin 4, ∀ i : Fin 16, isP (k.val + 1) i.val = (decide (i.val = 8 / 2 ^ k.val) || isP k.val i.val) := by decide +kernel
  exact this ⟨k, hk⟩ ⟨i, hi⟩
theorem pr_pow (h : Fe) {k : Nat} (hk : k < 4) : pr h (8 / 2 ^ k) = txN h k := by
  rcases (by omega : k = 0 ∨ k = 1 ∨ k = 2 ∨ k = 3) with rfl | rfl | rfl | rfl
  · exact pr_8 h
  · exact pr_4 h
  · exact pr_2 h
  · exact pr_1 h
theorem f1_step (h : Fe) {k : Nat} (hk : k < 4) {i : Nat} (hi : i < 16) : (if i = 8 / 2 ^ k then txN h k else f1 h k i) = f1 h (k + 1) i := by
  unfold f1
  rw [isP_step hk hi]
  by_cases e : i = 8 / 2 ^ k
  · rw [if_pos e, decide_eq_true e, Bool.true_or, if_pos rfl, e, pr_pow h hk]
  · rw [if_neg e, decide_eq_false e, Bool.false_or]
theorem f12 (h : Fe) {i : Nat} : f1 h 4 i = f2 h 1 i := by
  unfold f1 f2
  by_cases e : i = 0
  · subst e
    rw [pr_0]
    simp
  · rw [show decide (i < 1) = false from by simp; omega, Bool.false_or]
theorem f2_step (h : Fe) {k : Nat} {i : Nat} : (if i = k then pr h k else f2 h k i) = f2 h (k + 1) i := by
  unfold f2
  by_cases e : i = k
  · subst e
    rw [if_pos rfl, show decide (i < i + 1) = true from by simp, Bool.true_or, if_pos rfl]
  · rw [if_neg e]
    have : decide (i < k + 1) = decide (i < k) := by
      by_cases hl : i < k
      · rw [decide_eq_true hl, decide_eq_true (by omega)]
      · rw [decide_eq_false hl, decide_eq_false (by omega)]
    rw [this]
theorem f2_end (h : Fe) {i : Nat} (hi : i < 16) : f2 h 16 i = pr h i := by
  unfold f2
  rw [decide_eq_true hi, Bool.true_or, if_pos rfl]
theorem f2_low (h : Fe) {k i : Nat} (hi : i < k) : f2 h k i = pr h i := by
  unfold f2
  rw [decide_eq_true hi, Bool.true_or, if_pos rfl]
theorem f2_pow (h : Fe) {k i : Nat} (hi : isP 4 i = true) : f2 h k i = pr h i := by
  unfold f2
  rw [hi, Bool.or_true, if_pos rfl]
/-- The last bit of a number. -/
def lastB (k : Nat) : Nat := if k % 2 = 1 then 1 else if k % 4 = 2 then 2 else if k % 8 = 4 then 4 else 8
theorem last_ok {k : Nat} (h1 : 1 ≤ k) (h2 : k < 16) : bits .and .i64 (k : Int) (-(k : Int)) = (lastB k : Int) ∧ 0 < lastB k ∧ lastB k ≤ k ∧ isP 4 (lastB k) = true ∧ (k - lastB k) ^^^ lastB k = k := by
  have : ∀ k : Fin 16, 1 ≤ k.val → bits .and .i64 (k.val : Int) (-(k.val : Int)) = (lastB k.val : Int) ∧ 0 < lastB k.val ∧ lastB k.val ≤ k.val ∧ isP 4 (lastB k.val) = true ∧ (k.val - lastB k.val) ^^^ lastB k.val = k.val := by decide +kernel
  exact this ⟨k, h2⟩ h1

abbrev z32 : Array Value := #[.int .u64 0, .int .u64 0, .int .u64 0, .int .u64 0, .int .u64 0, .int .u64 0, .int .u64 0, .int .u64 0, .int .u64 0, .int .u64 0, .int .u64 0, .int .u64 0, .int .u64 0, .int .u64 0, .int .u64 0, .int .u64 0, .int .u64 0, .int .u64 0, .int .u64 0, .int .u64 0, .int .u64 0, .int .u64 0, .int .u64 0, .int .u64 0, .int .u64 0, .int .u64 0, .int .u64 0, .int .u64 0, .int .u64 0, .int .u64 0, .int .u64 0, .int .u64 0]
theorem f1_zero (h : Fe) (i : Nat) (hi : i < 16) : z32.toList[i * 2]? = some (.int .u64 (hN (f1 h 0 i) : Int)) ∧ z32.toList[i * 2 + 1]? = some (.int .u64 (lN (f1 h 0 i) : Int)) := by
  have e : f1 h 0 i = 0 := by unfold f1 isP; simp
  obtain ⟨z1, z2⟩ := (zero_iff 0).1 rfl
  rw [e, z1, z2]
  rw [show z32.toList = List.replicate 32 (.int .u64 0) from rfl, List.getElem?_replicate, List.getElem?_replicate, if_pos (by omega), if_pos (by omega)]
  exact ⟨rfl, rfl⟩
set_option maxRecDepth 100000 in
set_option maxHeartbeats 2000000 in
theorem oBuildF (w : World) (h : Fe) : Calls Try.prog 11 #[ev h] w fun e w' => ∃ g, e = .returned (.pointer (some ⟨g, 0, none⟩)) ∧ w.heap.size ≤ g ∧ Tb w' g (pr h) ∧ Below w.heap.size w w' := by
  have C1 : Hid (∀ w a, Calls Try.prog 23 #[.agg #[.int .u64 (hN a : Int), .int .u64 (lN a : Int)], .int .i64 1] w fun e w' => e = .returned (.agg #[.int .u64 (hN (tx a) : Int), .int .u64 (lN (tx a) : Int)]) ∧ Below w.heap.size w w') := fun w a => oRaise1 w a
  have C2 : Hid (∀ w a b, Calls Try.prog 16 #[.agg #[.int .u64 (hN a : Int), .int .u64 (lN a : Int)], .agg #[.int .u64 (hN b : Int), .int .u64 (lN b : Int)]] w fun e w' => e = .returned (.agg #[.int .u64 (hN (a ^^^ b) : Int), .int .u64 (lN (a ^^^ b) : Int)]) ∧ Below w.heap.size w w') := fun w a b => oAddE w a b
  unfold ev
  go_enter Try.func11, Try.ntmps11
  go_wp2_with fail
  obtain ⟨W, hW⟩ : ∃ W, W = (w.alloc (.cells #[.int .u64 (hN h : Int), .int .u64 (lN h : Int)] 25)).alloc (.cells z32 48) := ⟨_, rfl⟩
  rw [← hW]
  have b0 : Blk W w.heap.size (ec h) 25 := by rw [hW]; exact (Blk.new w _ _).old _
  have b1 : Tb W (w.heap.size + 1) (f1 h 0) := by rw [hW]; exact ⟨z32.toList, Blk.newAt (w.alloc _) z32 _ _ (by simp) _ rfl, rfl, f1_zero h⟩
  have hb0 : Below w.heap.size w W := by rw [hW]; exact below2 w _ _
  clear hW
  go_loopw [4] (fun i wr => ∃ k m : Nat, k ≤ 4 ∧ m = 8 / 2 ^ k ∧ i = .int .i64 m ∧ Blk wr w.heap.size (ec (txN h k)) 25 ∧ Tb wr (w.heap.size + 1) (f1 h k) ∧ Below w.heap.size w wr) (fun i _ => (intOf i).toNat)
  case atStart => exact ⟨0, 8, by omega, rfl, rfl, b0, b1, hb0⟩
  case round =>
    clear b0 b1 hb0
    obtain ⟨k, m, hk, hm, rfl, b0, b1, hb0⟩ := hrel
    by_cases hlt : k < 4
    · obtain ⟨m0, m16, hm'⟩ : 0 < m ∧ m < 16 ∧ m / 2 = 8 / 2 ^ (k + 1) := by
        rcases (by omega : k = 0 ∨ k = 1 ∨ k = 2 ∨ k = 3) with rfl | rfl | rfl | rfl <;> (subst hm; decide)
      have HM : Hid (m / 2 = 8 / 2 ^ (k + 1)) := hm'
      have HS := b1.set m16 (txN h k)
      have HT := HS.congr (f' := f1 h (k + 1)) (fun i hi => by rw [hm]; exact f1_step h hlt hi)
      have i0 : (0 : Int) < (m : Int) := by omega
      have i1 : (m : Int) < 16 := by omega
      have i2 : (m : Int).tdiv 2 = ((m / 2 : Nat) : Int) := by rw [Int.tdiv_eq_ediv_of_nonneg (by omega)]; omega
      have i3 : (m : Int) / 2 = ((m / 2 : Nat) : Int) := by omega
      have i5 : IntKind.i64.wrap ((m : Int).tdiv 2) = ((m / 2 : Nat) : Int) := by rw [i2, IntKind.wrap_i64]; omega
      obtain ⟨m2, hm2⟩ : ∃ m2, m2 = m / 2 := ⟨_, rfl⟩
      rw [← hm2] at i2 i3 i5 HM
      have HM2 : Hid (m2 = m / 2) := hm2
      clear hm2
      have i4 : (0 : Int) ≤ (m : Int) := by omega
      have c0 := b0.cell 0
      have c1 := b0.cell 1
      simp only [ec, List.getElem?_cons_zero, List.getElem?_cons_succ] at c0 c1
      have t0 := b1.hi m16
      have t1 := b1.lo m16
      have t2 := b1.free (m * 2)
      have t3 := b1.free (m * 2 + 1)
      obtain ⟨w1, hw1⟩ : ∃ w1, w1 = ((wr.setCell ⟨w.heap.size + 1, m * 2, none⟩ (.int .u64 (hN (txN h k) : Int))).setCell ⟨w.heap.size + 1, m * 2 + 1, none⟩ (.int .u64 (lN (txN h k) : Int))).drew := ⟨_, rfl⟩
      have HT' : Hid (Tb w1 (w.heap.size + 1) (f1 h (k + 1))) := by rw [hw1]; exact HT
      have d0 : Blk w1 w.heap.size (ec (txN h k)) 25 := by rw [hw1]; exact (b0.setO (by simp) _).setO (by simp) _
      have q1 : Below w.heap.size w w1 := by rw [hw1]; exact ((hb0.setCell (by simp) _).setCell (by simp) _).drew
      have HW : Hid (w1 = _) := hw1
      clear HS HT hm hm' hw1
      go_wp2_with fail
      go_region
      rw [← HW.out]
      have e0 := d0.cell 0
      have e1 := d0.cell 1
      have e2 := d0.free 0
      have e3 := d0.free 1
      simp only [ec, List.getElem?_cons_zero, List.getElem?_cons_succ] at e0 e1
      have hl := d0.lt
      clear c0 c1 t0 t1 t2 t3 b0 b1 hb0 HW
      go_wp2_with (go_at_call 23; go_must (refine (C1.out w1 (txN h k)).mono ?_); rintro e w2 ⟨rfl, hb2⟩; have d2 := d0.below hb2 hl; have c0 := d2.cell 0; have c1 := d2.cell 1; have c2 := d2.free 0; have c3 := d2.free 1; simp only [ec, List.getElem?_cons_zero, List.getElem?_cons_succ] at c0 c1)
      go_roundw
      case rel =>
        have d3 := (d2.setC 0 (.int .u64 (hN (tx (txN h k)) : Int))).setC 1 (.int .u64 (lN (tx (txN h k)) : Int))
        exact ⟨k + 1, m2, by omega, HM.out, rfl, d3, ((HT'.out.below hb2 HT'.out.lt).setO (by simp) _).setO (by simp) _, ((q1.trans (hb2.mono q1.size)).setCell (Nat.le_refl _) _).setCell (Nat.le_refl _) _⟩
      case measure => have := HM2.out; simp [intOf]; omega
    · obtain rfl : k = 4 := by omega
      have hm0 : m = 0 := by rw [hm]
      subst hm0
      have b2 := b1.congr (f' := f2 h 1) (fun i _ => f12 h)
      clear b1 hm
      go_wp2_with fail
      go_loopw [5, 6] (fun i _ wr => ∃ k : Nat, 1 ≤ k ∧ k ≤ 16 ∧ i = .int .i64 k ∧ Tb wr (w.heap.size + 1) (f2 h k) ∧ Below w.heap.size w wr) (fun i _ _ => 16 - (intOf i).toNat)
      case atStart => exact ⟨1, by omega, by omega, rfl, b2, hb0⟩
      case round =>
        clear b2 hb0 b0
        obtain ⟨k, hk1, hk2, rfl, b1, hb0⟩ := hrel
        by_cases hlt : k < 16
        · obtain ⟨hand, hl0, hlk, hlp, hlx⟩ := last_ok hk1 hlt
          generalize lastB k = z at *
          have HX : Hid (pr h (k - z) ^^^ pr h z = pr h k) := by
            show _ = _
            rw [pr_add h (by omega) (by omega) (by rw [hlx]; exact hlt), hlx]
          have HA : Hid (f2 h k (k - z) = pr h (k - z)) := f2_low h (by omega)
          have HZ : Hid (f2 h k z = pr h z) := f2_pow h hlp
          have p0 : (0 : Int) ≤ (k : Int) := by omega
          have p1 : (k : Int) < 16 := by omega
          have p2 : (0 : Int) ≤ (z : Int) := by omega
          have p3 : (z : Int) < 16 := by omega
          obtain ⟨y, hy⟩ : ∃ y, y = k - z := ⟨_, rfl⟩
          have p4 : (k : Int) - (z : Int) = (y : Int) := by omega
          have p5 : (0 : Int) ≤ (y : Int) := by omega
          have p6 : (y : Int) < 16 := by omega
          rw [← hy] at HX HA
          have p7 : IntKind.i64.wrap (y : Int) = (y : Int) := by rw [IntKind.wrap_i64]; omega
          have t0 := b1.hi (i := y) (by omega)
          have t1 := b1.lo (i := y) (by omega)
          rw [HA.out] at t0 t1
          have s0 := b1.hi (i := z) (by omega)
          have s1 := b1.lo (i := z) (by omega)
          rw [HZ.out] at s0 s1
          have r0 := b1.hi hlt
          have r1 := b1.lo hlt
          have r2 := b1.free (k * 2)
          have r3 := b1.free (k * 2 + 1)
          have hgl := b1.lt
          have HA' : Hid (f2 h (k + 1) y = pr h y) := f2_low h (by omega)
          have HZ' : Hid (f2 h (k + 1) z = pr h z) := f2_pow h hlp
          clear hlp hlx hy
          go_wp2_with fail
          go_region_held3 (fun w' => w'.cell? ⟨w.heap.size + 1, y * 2, none⟩ = some (.int .u64 (hN (pr h y) : Int)) ∧ w'.cell? ⟨w.heap.size + 1, y * 2 + 1, none⟩ = some (.int .u64 (lN (pr h y) : Int)) ∧ w'.cell? ⟨w.heap.size + 1, z * 2, none⟩ = some (.int .u64 (hN (pr h z) : Int)) ∧ w'.cell? ⟨w.heap.size + 1, z * 2 + 1, none⟩ = some (.int .u64 (lN (pr h z) : Int)))
            (first | (exact ⟨v0, v1, v2, v3⟩) | (exact ⟨u0, u1, u2, u3⟩) | (exact ⟨t0, t1, s0, s1⟩) | go_keep)
            ((go_at_call 16; go_must (refine (C2.out wr.drew (pr h y) (pr h z)).mono ?_); rw [HX.out]; rintro e w2 ⟨rfl, hb2⟩; have b2 := b1.dr.below hb2 hgl; have r0 := b2.hi hlt; have r1 := b2.lo hlt; have r2 := b2.free (k * 2); have r3 := b2.free (k * 2 + 1); have b3 := (b2.set hlt (pr h k)).congr (f' := f2 h (k + 1)) (fun i _ => f2_step h); have u0 := b2.hi (i := y) (by omega); have u1 := b2.lo (i := y) (by omega); have u2 := b2.hi (i := z) (by omega); have u3 := b2.lo (i := z) (by omega); rw [HA.out] at u0 u1; rw [HZ.out] at u2 u3; have v0 := b3.hi (i := y) (by omega); have v1 := b3.lo (i := y) (by omega); have v2 := b3.hi (i := z) (by omega); have v3 := b3.lo (i := z) (by omega); rw [HA'.out] at v0 v1; rw [HZ'.out] at v2 v3))
          go_wp2_with fail
          go_roundw
          case rel =>
            (repeat apply Exists.intro)
            refine ⟨?_, rfl⟩
            exact ⟨k + 1, by omega, by omega, by go_num, b3, ((hb0.drew.trans (hb2.mono hb0.size)).setCell (by simp) _).setCell (by simp) _⟩
          case measure => simp [intOf]; omega
        · obtain rfl : k = 16 := by omega
          go_wp2_with fail
          go_ret
          exact ⟨w.heap.size + 1, rfl, by omega, b1.congr fun i hi => f2_end h hi, hb0⟩

end Go.Proofs.Ytfgoomlgmepalaa
