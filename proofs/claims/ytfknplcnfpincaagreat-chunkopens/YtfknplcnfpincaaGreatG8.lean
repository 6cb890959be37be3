/-
  8 texts in one. No statement of the seat is proved here.
-/
import Derived.Test.YtfknplcnfpincaaGreatG7
import Derived.Laws.CopyOwn
/-
  'make' of bytes in a region that draws its order. No condition; no statement of the seat is proved here.
-/
namespace Go.Proofs.YtfknplcnfpincaaGreat
open Go.RowKit

/-- 'make([]byte, n)', the one that may come up. -/
theorem opMk8 {ops : Array Oper} {Q : Exit → Act → World → Prop} {i : Nat} {oi : Oper} (d : Option Tmp) (hi : ops[i]? = some oi) (hd : oi.dst = d) (hg : oi.guard = none) (l c : Operand) (ho : oi.op = Op.makeSlice 22 l c) {K : Act → World → Prop} {a : Act} {w : World} (n : Nat) (hl : a.eval l = .int .i64 (n : Int)) (hc : a.eval c = .int .i64 (n : Int)) (hz : n ≤ 2147483647)
    (k : ∀ w', Own w' w.heap.size (.slice (some ⟨w.heap.size, 0, none⟩) n n) (List.replicate n 0) → Grows w w' → K (a.put d (.slice (some ⟨w.heap.size, 0, none⟩) n n)) w') : wpOp Tryz.prog ops Q i K a w := by
  subst hd
  obtain ⟨i0, hi0, hz0, hz1, hz2⟩ := info_parts info5
  obtain ⟨w', hrun, r1, r2⟩ := run_make_full (P := Tryz.prog) w w.heap.size 22 5 i0 (.int .u8 0) 1 Tryz.underlying22 hi0 hz0 hz1 .i64 .i64 n (by rw [hz2]; omega) (by unfold maxLen; omega) (Nat.le_refl _)
  have e : (madeCells (Value.int .u8 0).cells (n * 1)).toList = cs (List.replicate n 0) := by
    rw [show (Value.int .u8 0).cells = #[.int .u8 0] from rfl, toList_madeCells_one]
    simp [cs]
  rw [e] at r1
  have hO : Own w' w.heap.size (.slice (some ⟨w.heap.size, 0, none⟩) n n) (List.replicate n 0) := by
    unfold Own
    rw [List.length_replicate]
    exact r1
  have hk := k w' hO ((Below.refl _ _).grown r2 (Nat.le_refl _) (by simp))
  unfold wpOp
  simp only [hi]
  rw [if_pos (by simp [Region.wanted, hg])]
  left
  unfold Oper.wp
  simp [execOp, ho, hl, hc, hrun, Result.andThen]
  rw [Oper.upon_value]
  exact hk

end Go.Proofs.YtfknplcnfpincaaGreat

/-
  'make' of bytes and of bools in a region that draws its order. No condition; no statement of the seat is proved here.
-/
namespace Go.Proofs.YtfknplcnfpincaaGreat
open Go.RowKit

/-- 'make([]bool, n)', the one that may come up. -/
theorem opMkB {ops : Array Oper} {Q : Exit → Act → World → Prop} {i : Nat} {oi : Oper} (d : Option Tmp) (hi : ops[i]? = some oi) (hd : oi.dst = d) (hg : oi.guard = none) (l c : Operand) (ho : oi.op = Op.makeSlice 86 l c) {K : Act → World → Prop} {a : Act} {w : World} (n : Nat) (hl : a.eval l = .int .i64 (n : Int)) (hc : a.eval c = .int .i64 (n : Int)) (hz : n ≤ 2147483647)
    (k : ∀ w', Blk w' w.heap.size (bo (List.replicate n false)) 4 → Grows w w' → K (a.put d (.slice (some ⟨w.heap.size, 0, none⟩) n n)) w') : wpOp Tryz.prog ops Q i K a w := by
  subst hd
  obtain ⟨i0, hi0, hz0, hz1, hz2⟩ := info_parts infoB
  obtain ⟨w', hrun, r1, r2⟩ := run_make_full (P := Tryz.prog) w w.heap.size 86 4 i0 (.bool false) 1 Tryz.underlying86 hi0 hz0 hz1 .i64 .i64 n (by rw [hz2]; omega) (by unfold maxLen; omega) (Nat.le_refl _)
  have e : (madeCells (Value.bool false).cells (n * 1)).toList = bo (List.replicate n false) := by
    rw [show (Value.bool false).cells = #[.bool false] from rfl, toList_madeCells_one]
    simp [bo]
  rw [e] at r1
  have hB : Blk w' w.heap.size (bo (List.replicate n false)) 4 := by
    rcases r1.2 with ⟨e0, _⟩ | ⟨g, cap, cur, e0, _, hh, _, _, hsz, ht⟩
    · simp at e0
    · simp only [Value.slice.injEq, Option.some.injEq, Addr.mk.injEq] at e0
      obtain ⟨⟨rfl, _⟩, _, rfl⟩ := e0
      unfold Blk
      rw [hh, ← ht, List.take_of_length_le (by simp [hsz])]
  have hk := k w' hB ((Below.refl _ _).grown r2 (Nat.le_refl _) (by simp))
  unfold wpOp
  simp only [hi]
  rw [if_pos (by simp [Region.wanted, hg])]
  left
  unfold Oper.wp
  simp [execOp, ho, hl, hc, hrun, Result.andThen]
  rw [Oper.upon_value]
  exact hk

end Go.Proofs.YtfknplcnfpincaaGreat

/-
  Two operations of a region that draws its order, each of which answers new memory: whichever comes first. No condition; no statement of the seat is proved here.
-/
namespace Go.Proofs.YtfknplcnfpincaaGreat
open Go.RowKit

/-- The operation leaves a value and a world of which A holds, and the world has only grown. -/
def Mk (P : Program) (ops : Array Oper) (Q : Exit → Act → World → Prop) (S : World → Prop) (i : Nat) (d : Tmp) (A : Value → World → Prop) (a : Act) : Prop :=
  ∀ (K : Act → World → Prop) (w : World), S w → (∀ v w', A v w' → Grows w w' → S w' → K (a.put (some d) v) w') → wpOp P ops Q i K a w
theorem both2 {P : Program} {ops : Array Oper} {Q : Exit → Act → World → Prop} {md : Region.Mode} {S : World → Prop} (i j : Nat) (d e : Tmp) (A B : Value → World → Prop) (hij : i ≠ j) (hde : d ≠ e)
    (sA : ∀ v w w', A v w → Grows w w' → A v w') (sB : ∀ v w w', B v w → Grows w w' → B v w') {fuel : Nat} {listed : Array Bool} {a : Act} {w : World} (mi : Mk P ops Q S i d A a) (mi' : ∀ v, Mk P ops Q S i d A (a.put (some e) v)) (mj : Mk P ops Q S j e B a) (mj' : ∀ v, Mk P ops Q S j e B (a.put (some d) v))
    (hr : Region.ready md ops listed = [i, j]) (hi : Region.ready md ops (listed.setIfInBounds i true) = [j]) (hj : Region.ready md ops (listed.setIfInBounds j true) = [i])
    (h : ∀ u v w', A u w' → B v w' → Grows w w' → S w' → wpAnyG P md ops Q S fuel ((listed.setIfInBounds i true).setIfInBounds j true) ((a.put (some d) u).put (some e) v) w') : wpAnyG P md ops Q S (fuel + 1 + 1) listed a w := by
  intro w' hg hs
  refine ⟨fun h0 => (by rw [h0] at hr; cases hr), fun x hx => ?_⟩
  rw [hr] at hx
  rcases List.mem_cons.1 hx with rfl | hx
  · refine mi _ _ hs fun u w1 hA h1 hs1 => ⟨hs1, oneG j hi fun w2 h2 hs2 => ?_⟩
    exact mj' u _ _ hs2 fun v w3 hB h3 hs3 => ⟨hs3, h u v w3 (sA _ _ _ (sA _ _ _ hA h2) h3) hB (hg.trans (h1.trans (h2.trans h3))) hs3⟩
  · rw [List.mem_singleton.1 hx]
    refine mj _ _ hs fun v w1 hB h1 hs1 => ⟨hs1, oneG i hj fun w2 h2 hs2 => ?_⟩
    refine mi' v _ _ hs2 fun u w3 hA h3 hs3 => ⟨hs3, ?_⟩
    have := h u v w3 hA (sB _ _ _ (sB _ _ _ hB h2) h3) (hg.trans (h1.trans (h2.trans h3))) hs3
    rw [Array.setIfInBounds_comm _ _ hij, Act.put_comm a _ _ (fun z hz he => by cases hz; cases he; exact hde rfl)] at this
    exact this
/-- 'make([]byte, n)' so. -/
theorem mkBytes {ops : Array Oper} {Q : Exit → Act → World → Prop} {W : World} (i : Nat) (d : Tmp) (n : Nat) {oi : Oper} {a : Act} (hi : ops[i]? = some oi) (hd : oi.dst = some d) (hg : oi.guard = none) (ho : oi.op = Op.makeSlice 22 (.const (.int .i64 (n : Int))) (.const (.int .i64 (n : Int)))) (hz : n ≤ 2147483647) :
    Mk Tryz.prog ops Q (Grows W) i d (fun v w => ∃ p, v = .slice p n n ∧ Bs w p n n (List.replicate n 0)) a := by
  intro K w hs k
  refine opMk8 (some d) hi hd hg _ _ ho n rfl rfl hz fun w' hO hG => ?_
  exact k _ w' ⟨_, rfl, hO.toBs⟩ hG (Grows.trans hs hG)
/-- A call so. -/
theorem mkCall {ops : Array Oper} {Q : Exit → Act → World → Prop} {W : World} (i : Nat) (d : Tmp) (f : FuncId) (args : Array Operand) (tys : Array TypeId) (vs : Array Value) (A : Value → World → Prop) {oi : Oper} {a : Act} (hi : ops[i]? = some oi) (hd : oi.dst = some d) (ho : oi.op = .call { callee := .value (.func f), args := args, argTypes := tys }) (hw : Region.wanted oi (yielded ops a.tmps) = true) (hv : (args.toList.map a.eval).toArray = vs) (hc : ∀ vs w, (callFunc f vs).run Tryz.prog w = .ok (.enter f vs) w)
    (h : ∀ w, Grows W w → Calls Tryz.prog f vs w fun e w' => ∃ v, e = .returned v ∧ A v w' ∧ Below w.heap.size w w') : Mk Tryz.prog ops Q (Grows W) i d A a := by
  intro K w hs k
  have hv' : args.map a.eval = vs := by rw [← hv]; apply Array.toList_inj.1; rw [Array.toList_map]
  subst hv'
  unfold wpOp
  simp only [hi]
  rw [if_pos hw]
  left
  unfold Oper.wp
  have hx : (execOp a.eval oi).run Tryz.prog w = .ok (.enter f (args.map a.eval)) w := by simp [execOp, ho, resolve, invoke, Act.eval, Deferred.ofValue, hc]
  rw [hx, Oper.upon_enter]
  refine (h w hs).mono ?_
  rintro e w'' ⟨v, rfl, hA, hb⟩
  rw [hd]
  exact k v w'' hA hb (Grows.trans hs hb)

end Go.Proofs.YtfknplcnfpincaaGreat

/-
  Regions that draw their order and end in a store into what they read ('x = f(x)'): as in Grow, but what is kept between the operations need not outlast the store. No condition; no statement of the seat is proved here.
-/
namespace Go.Proofs.YtfknplcnfpincaaGreat
open Go.RowKit

/-- Two operations that answer new memory, whichever comes first. -/
theorem both2E {P : Program} {ops : Array Oper} {Q : Exit → Act → World → Prop} {md : Region.Mode} {S : World → Prop} {x : Nat} (i j : Nat) (d e : Tmp) (A B : Value → World → Prop) (hij : i ≠ j) (hde : d ≠ e)
    (sA : ∀ v w w', A v w → Grows w w' → A v w') (sB : ∀ v w w', B v w → Grows w w' → B v w') {fuel : Nat} {listed : Array Bool} {a : Act} {w : World} (mi : Mk P ops Q S i d A a) (mi' : ∀ v, Mk P ops Q S i d A (a.put (some e) v)) (mj : Mk P ops Q S j e B a) (mj' : ∀ v, Mk P ops Q S j e B (a.put (some d) v))
    (hr : Region.ready md ops listed = [i, j]) (hi : Region.ready md ops (listed.setIfInBounds i true) = [j]) (hj : Region.ready md ops (listed.setIfInBounds j true) = [i])
    (h0 : listed.getD x true = false) (h1 : (listed.setIfInBounds i true).getD x true = false) (h2 : (listed.setIfInBounds j true).getD x true = false)
    (h : ∀ u v w', A u w' → B v w' → Grows w w' → S w' → wpAnyE P md ops Q S x fuel ((listed.setIfInBounds i true).setIfInBounds j true) ((a.put (some d) u).put (some e) v) w') : wpAnyE P md ops Q S x (fuel + 1 + 1) listed a w := by
  intro w' hg hs
  refine ⟨fun h0 => (by rw [h0] at hr; cases hr), fun y hy => ?_⟩
  rw [hr] at hy
  rcases List.mem_cons.1 hy with rfl | hy
  · refine mi _ _ (hs.got h0) fun u w1 hA g1 hs1 => ⟨Or.inr hs1, oneE j hi h1 fun w2 g2 hs2 => ?_⟩
    exact mj' u _ _ hs2 fun v w3 hB g3 hs3 => ⟨hs3, h u v w3 (sA _ _ _ (sA _ _ _ hA g2) g3) hB (hg.trans (g1.trans (g2.trans g3))) hs3⟩
  · rw [List.mem_singleton.1 hy]
    refine mj _ _ (hs.got h0) fun v w1 hB g1 hs1 => ⟨Or.inr hs1, oneE i hj h2 fun w2 g2 hs2 => ?_⟩
    refine mi' v _ _ hs2 fun u w3 hA g3 hs3 => ⟨hs3, ?_⟩
    have := h u v w3 hA (sB _ _ _ (sB _ _ _ hB g2) g3) (hg.trans (g1.trans (g2.trans g3))) hs3
    rw [Array.setIfInBounds_comm _ _ hij, Act.put_comm a _ _ (fun z hz he => by cases hz; cases he; exact hde rfl)] at this
    exact this

end Go.Proofs.YtfknplcnfpincaaGreat

/-
  Elements as two words of 64 bits, the first bit the highest: what a shift down is, what a table of sixteen products gives, four bits at a time. Plain mathematics; no condition; nothing of the program.
-/
namespace Go.Proofs.YtfknplcnfpincaaGreat

theorem txN_xor (n : Nat) (a b : Fe) : txN (a ^^^ b) n = txN a n ^^^ txN b n := txN_adds n a b
/-- Two maps that go part by part are the same if they are on each power of x. -/
theorem basis {n : Nat} (g k : Fe → BitVec n) (hg : ∀ a b, g (a ^^^ b) = g a ^^^ g b) (hk : ∀ a b, k (a ^^^ b) = k a ^^^ k b) (hb : ∀ i : Fin 128, g ((1 : Fe) <<< i.val) = k ((1 : Fe) <<< i.val)) (a : Fe) : g a = k a := by
  have g0 : g 0 = 0 := by
    have := hg 0 0
    rw [fx_self] at this
    rw [this]
    exact BitVec.xor_self
  have k0 : k 0 = 0 := by
    have := hk 0 0
    rw [fx_self] at this
    rw [this]
    exact BitVec.xor_self
  have : ∀ m, m ≤ 128 → g (lin a (fun i => (1 : Fe) <<< i) m) = k (lin a (fun i => (1 : Fe) <<< i) m) := by
    intro m
    induction m with
    | zero => intro _; show g 0 = k 0; rw [g0, k0]
    | succ m ih =>
      intro hm
      rw [lin, hg, hk, ih (by omega)]
      cases a.getLsbD m
      · simp only [Bool.false_eq_true, if_false]
        rw [g0, k0]
      · simp only [if_true]
        exact congrArg _ (hb ⟨m, by omega⟩)
  have := this 128 (Nat.le_refl _)
  rw [lin_self] at this
  exact this

/-- An element read from its other end: the first bit the highest. -/
def rv (a : Fe) : Fe := lin a (fun i => (1 : Fe) <<< (127 - i)) 128
theorem rv_adds (a b : Fe) : rv (a ^^^ b) = rv a ^^^ rv b := lin_left _ _ a b
theorem rv_bits (a : Fe) (n : Nat) (hn : n ≤ 128) {j : Nat} (hj : j < 128) : (lin a (fun i => (1 : Fe) <<< (127 - i)) n).getLsbD j = (decide (127 - j < n) && a.getLsbD (127 - j)) := by
  induction n with
  | zero => simp [lin]
  | succ n ih =>
    rw [lin, BitVec.getLsbD_xor, ih (by omega), one_bit (by omega)]
    by_cases e : 127 - j = n
    · have e2 : j = 127 - n := by omega
      subst e2
      rw [show 127 - (127 - n) = n from by omega]
      simp
    · have e2 : ¬ j = 127 - n := by omega
      by_cases hl : 127 - j < n
      · have : 127 - j < n + 1 := by omega
        simp [hl, e2, this]
      · have : ¬ 127 - j < n + 1 := by omega
        simp [hl, e2, this]
theorem rv_bit (a : Fe) {j : Nat} (hj : j < 128) : (rv a).getLsbD j = a.getLsbD (127 - j) := by
  unfold rv
  rw [rv_bits a 128 (Nat.le_refl _) hj]
  have : 127 - j < 128 := by omega
  simp [this]

/-- Its two words. -/
def hB (a : Fe) : BitVec 64 := (rv a).extractLsb' 64 64
def lB (a : Fe) : BitVec 64 := (rv a).extractLsb' 0 64
theorem hB_bit (a : Fe) {i : Nat} (hi : i < 64) : (hB a).getLsbD i = a.getLsbD (63 - i) := by
  unfold hB
  rw [BitVec.getLsbD_extractLsb', rv_bit a (by omega), show 127 - (64 + i) = 63 - i from by omega]
  simp [hi]
theorem lB_bit (a : Fe) {i : Nat} (hi : i < 64) : (lB a).getLsbD i = a.getLsbD (127 - i) := by
  unfold lB
  rw [BitVec.getLsbD_extractLsb', rv_bit a (by omega), show 127 - (0 + i) = 127 - i from by omega]
  simp [hi]
theorem hB_xor (a b : Fe) : hB (a ^^^ b) = hB a ^^^ hB b := by
  apply BitVec.eq_of_getLsbD_eq
  intro i hi
  rw [hB_bit _ hi, BitVec.getLsbD_xor, BitVec.getLsbD_xor, hB_bit _ hi, hB_bit _ hi]
theorem lB_xor (a b : Fe) : lB (a ^^^ b) = lB a ^^^ lB b := by
  apply BitVec.eq_of_getLsbD_eq
  intro i hi
  rw [lB_bit _ hi, BitVec.getLsbD_xor, BitVec.getLsbD_xor, lB_bit _ hi, lB_bit _ hi]
theorem words_ext {a b : Fe} (h : hB a = hB b) (l : lB a = lB b) : a = b := by
  apply BitVec.eq_of_getLsbD_eq
  intro i hi
  by_cases hl : i < 64
  · have e := hB_bit a (i := 63 - i) (by omega)
    have f := hB_bit b (i := 63 - i) (by omega)
    rw [show 63 - (63 - i) = i from by omega] at e f
    rw [← e, ← f, h]
  · have e := lB_bit a (i := 127 - i) (by omega)
    have f := lB_bit b (i := 127 - i) (by omega)
    rw [show 127 - (127 - i) = i from by omega] at e f
    rw [← e, ← f, l]
theorem hB_zero : hB 0 = 0 := by decide +kernel
theorem lB_zero : lB 0 = 0 := by decide +kernel

/-- Times x^k, word by word. -/
def rsO (k : Nat) (l : BitVec 64) : BitVec 64 := l <<< (64 - k)
def rsH (k : Nat) (h l : BitVec 64) : BitVec 64 := (h >>> k) ^^^ rsO k l ^^^ (rsO k l >>> 1) ^^^ (rsO k l >>> 2) ^^^ (rsO k l >>> 7)
def rsL (k : Nat) (h l : BitVec 64) : BitVec 64 := (l >>> k) ^^^ (h <<< (64 - k))
theorem w_four (a b c d : BitVec 64) : (a ^^^ b) ^^^ (c ^^^ d) = (a ^^^ c) ^^^ (b ^^^ d) := by
  rw [BitVec.xor_assoc, BitVec.xor_assoc, ← BitVec.xor_assoc b c d, BitVec.xor_comm b c, BitVec.xor_assoc c b d]
theorem rsO_xor (k : Nat) (l m : BitVec 64) : rsO k (l ^^^ m) = rsO k l ^^^ rsO k m := BitVec.shiftLeft_xor_distrib _ _ _
theorem rsH_xor (k : Nat) (h i l m : BitVec 64) : rsH k (h ^^^ i) (l ^^^ m) = rsH k h l ^^^ rsH k i m := by
  unfold rsH
  rw [rsO_xor, BitVec.ushiftRight_xor_distrib, BitVec.ushiftRight_xor_distrib, BitVec.ushiftRight_xor_distrib, BitVec.ushiftRight_xor_distrib, w_four (h >>> k), w_four (h >>> k ^^^ rsO k l), w_four (h >>> k ^^^ rsO k l ^^^ rsO k l >>> 1), w_four (h >>> k ^^^ rsO k l ^^^ rsO k l >>> 1 ^^^ rsO k l >>> 2)]
theorem rsL_xor (k : Nat) (h i l m : BitVec 64) : rsL k (h ^^^ i) (l ^^^ m) = rsL k h l ^^^ rsL k i m := by
  unfold rsL
  rw [BitVec.ushiftRight_xor_distrib, BitVec.shiftLeft_xor_distrib, w_four]
theorem rsH_1 (a : Fe) : hB (txN a 1) = rsH 1 (hB a) (lB a) :=
  basis (fun a => hB (txN a 1)) (fun a => rsH 1 (hB a) (lB a)) (fun a b => by show hB (txN (a ^^^ b) 1) = _; rw [txN_xor, hB_xor]) (fun a b => by show rsH 1 (hB (a ^^^ b)) (lB (a ^^^ b)) = _; rw [hB_xor, lB_xor, rsH_xor]) (by decide +kernel) a
theorem rsL_1 (a : Fe) : lB (txN a 1) = rsL 1 (hB a) (lB a) :=
  basis (fun a => lB (txN a 1)) (fun a => rsL 1 (hB a) (lB a)) (fun a b => by show lB (txN (a ^^^ b) 1) = _; rw [txN_xor, lB_xor]) (fun a b => by show rsL 1 (hB (a ^^^ b)) (lB (a ^^^ b)) = _; rw [hB_xor, lB_xor, rsL_xor]) (by decide +kernel) a
theorem rsH_4 (a : Fe) : hB (txN a 4) = rsH 4 (hB a) (lB a) :=
  basis (fun a => hB (txN a 4)) (fun a => rsH 4 (hB a) (lB a)) (fun a b => by show hB (txN (a ^^^ b) 4) = _; rw [txN_xor, hB_xor]) (fun a b => by show rsH 4 (hB (a ^^^ b)) (lB (a ^^^ b)) = _; rw [hB_xor, lB_xor, rsH_xor]) (by decide +kernel) a
theorem rsL_4 (a : Fe) : lB (txN a 4) = rsL 4 (hB a) (lB a) :=
  basis (fun a => lB (txN a 4)) (fun a => rsL 4 (hB a) (lB a)) (fun a b => by show lB (txN (a ^^^ b) 4) = _; rw [txN_xor, lB_xor]) (fun a b => by show rsL 4 (hB (a ^^^ b)) (lB (a ^^^ b)) = _; rw [hB_xor, lB_xor, rsL_xor]) (by decide +kernel) a

/-- An element times the polynomial of the four bits of n, the first one the highest. -/
def pr (h : Fe) (n : Nat) : Fe := ((if n.testBit 3 then h else 0) ^^^ (if n.testBit 2 then txN h 1 else 0)) ^^^ ((if n.testBit 1 then txN h 2 else 0) ^^^ (if n.testBit 0 then txN h 3 else 0))
/-- A product so far, with k times four bits of a word taken. -/
def tkF (h p : Fe) (w : Nat) : Nat → Fe
  | 0 => p
  | k + 1 => txN (tkF h p w k) 4 ^^^ pr h (w / 16 ^ k % 16)
theorem fmul_ite (c : Bool) (a h : Fe) : fmul (if c then a else 0) h = if c then fmul a h else 0 := (fmul_left h).ite c a
theorem fmul_pr (h : Fe) (n : Nat) : fmul (pr 1 n) h = pr h n := by
  have l := fmul_left h
  have hx : ∀ a b, fmul (a ^^^ b) h = fmul a h ^^^ fmul b h := l
  unfold pr
  rw [hx, hx, hx, fmul_ite, fmul_ite, fmul_ite, fmul_ite, fmul_txN', fmul_txN', fmul_txN', one_fmul]
theorem fmul_tk (h p : Fe) (w k : Nat) : fmul (tkF 1 p w k) h = tkF h (fmul p h) w k := by
  induction k with
  | zero => rfl
  | succ k ih =>
    have hx : ∀ a b, fmul (a ^^^ b) h = fmul a h ^^^ fmul b h := fmul_left h
    rw [tkF, hx, fmul_txN', ih, fmul_pr]
    rfl
theorem nib_bit (w k : Nat) {j : Nat} (hj : j < 4) : (w / 16 ^ k % 16).testBit j = w.testBit (4 * k + j) := by
  rw [show (16 : Nat) ^ k = 2 ^ (4 * k) from by rw [Nat.pow_mul]]
  rw [show w / 2 ^ (4 * k) % 16 = w / 2 ^ (4 * k) % 2 ^ 4 from rfl, Nat.testBit_mod_two_pow, Nat.testBit_div_two_pow, Nat.add_comm]
  simp [hj]
theorem ite_xor (c d : Bool) (a : Fe) : (if (c ^^ d) then a else 0) = (if c then a else 0) ^^^ (if d then a else 0) := by
  cases c <;> cases d <;> simp
theorem pr_xor (h : Fe) (w v k : Nat) : pr h ((w ^^^ v) / 16 ^ k % 16) = pr h (w / 16 ^ k % 16) ^^^ pr h (v / 16 ^ k % 16) := by
  unfold pr
  rw [nib_bit _ k (j := 3) (by omega), nib_bit _ k (j := 2) (by omega), nib_bit _ k (j := 1) (by omega), nib_bit _ k (j := 0) (by omega)]
  rw [nib_bit w k (j := 3) (by omega), nib_bit w k (j := 2) (by omega), nib_bit w k (j := 1) (by omega), nib_bit w k (j := 0) (by omega)]
  rw [nib_bit v k (j := 3) (by omega), nib_bit v k (j := 2) (by omega), nib_bit v k (j := 1) (by omega), nib_bit v k (j := 0) (by omega)]
  simp only [Nat.testBit_xor, ite_xor]
  generalize (if w.testBit (4 * k + 3) then h else 0) = a3
  generalize (if w.testBit (4 * k + 2) then txN h 1 else 0) = a2
  generalize (if w.testBit (4 * k + 1) then txN h 2 else 0) = a1
  generalize (if w.testBit (4 * k + 0) then txN h 3 else 0) = a0
  generalize (if v.testBit (4 * k + 3) then h else 0) = b3
  generalize (if v.testBit (4 * k + 2) then txN h 1 else 0) = b2
  generalize (if v.testBit (4 * k + 1) then txN h 2 else 0) = b1
  generalize (if v.testBit (4 * k + 0) then txN h 3 else 0) = b0
  rw [fx_four a3 b3 a2 b2, fx_four a1 b1 a0 b0, fx_four]
theorem tk_xor (h p q : Fe) (w v k : Nat) : tkF h (p ^^^ q) (w ^^^ v) k = tkF h p w k ^^^ tkF h q v k := by
  induction k with
  | zero => rfl
  | succ k ih =>
    rw [tkF, ih, pr_xor, txN_xor, fx_four]
    rfl
/-- Both words taken: the product. -/
theorem tk_one (e : Fe) : tkF 1 (tkF 1 0 (lB e).toNat 16) (hB e).toNat 16 = e :=
  basis (fun e => tkF 1 (tkF 1 0 (lB e).toNat 16) (hB e).toNat 16) (fun e => e) (fun a b => by
    show tkF 1 (tkF 1 0 (lB (a ^^^ b)).toNat 16) (hB (a ^^^ b)).toNat 16 = _
    rw [lB_xor, hB_xor, BitVec.toNat_xor, BitVec.toNat_xor]
    have := tk_xor 1 0 0 (lB a).toNat (lB b).toNat 16
    rw [fx_self] at this
    rw [this, tk_xor]) (fun _ _ => rfl) (by decide +kernel) e
theorem tk_mul (e h : Fe) : tkF h (tkF h 0 (lB e).toNat 16) (hB e).toNat 16 = fmul e h := by
  have := fmul_tk h (tkF 1 0 (lB e).toNat 16) (hB e).toNat 16
  rw [tk_one, fmul_tk h 0, fmul_comm 0 h, fmul_zero] at this
  exact this.symm

/-- The bits of the number of at most eight bytes. -/
theorem getN_bit : ∀ (m : Nat) (l : List UInt8), l.length = m → m ≤ 8 → getN l < 2 ^ (8 * m) ∧ ∀ i, i < 8 * m → (getN l).testBit (8 * m - 1 - i) = bitB l i := by
  intro m
  induction m with
  | zero => intro l hl _; rw [List.length_eq_zero_iff.1 hl]; exact ⟨by decide, fun i hi => by omega⟩
  | succ m ih =>
    intro l hl hm
    have hne : l ≠ [] := by intro e; rw [e] at hl; simp at hl
    obtain ⟨r, x, rfl⟩ : ∃ r x, l = r ++ [x] := ⟨l.dropLast, l.getLast hne, (List.dropLast_concat_getLast hne).symm⟩
    have hr : r.length = m := by simp at hl; exact hl
    obtain ⟨hb, hi⟩ := ih r hr (by omega)
    have hx := UInt8.toNat_lt x
    have hp : (2 : Nat) ^ (8 * (m + 1)) = 2 ^ (8 * m) * 256 := by rw [show 8 * (m + 1) = 8 * m + 8 from by omega, Nat.pow_add]
    have hp2 : (2 : Nat) ^ (8 * (m + 1)) ≤ 2 ^ 64 := Nat.pow_le_pow_right (by omega) (by omega)
    have e : getN (r ++ [x]) = 2 ^ 8 * getN r + x.toNat := by
      rw [getN_snoc, Nat.mod_eq_of_lt]
      · omega
      · rw [show (18446744073709551616 : Nat) = 2 ^ 64 from rfl]
        omega
    refine ⟨by rw [e]; omega, fun i hlt => ?_⟩
    rw [e, Nat.testBit_two_pow_mul_add _ hx]
    by_cases h8 : 8 * (m + 1) - 1 - i < 8
    · rw [if_pos h8]
      have hq : i / 8 = m := by omega
      unfold bitB
      rw [hq, show (r ++ [x]).getD m 0 = x from by rw [List.getD_eq_getElem?_getD, ← hr]; simp]
      have hl2 : m < (r ++ [x]).length := by simp [hr]
      simp only [hl2, decide_true, Bool.true_and]
      have hs : 8 * (m + 1) - 1 - i = 7 - i % 8 := by omega
      rw [hs]
      have : ∀ b : Fin 256, ∀ s : Fin 8, (UInt8.ofNat b.val).toNat.testBit s.val = decide ((UInt8.ofNat b.val >>> UInt8.ofNat s.val) &&& 1 = 1) := by decide +kernel
      have h := this ⟨x.toNat, hx⟩ ⟨7 - i % 8, by omega⟩
      simpa using h
    · rw [if_neg h8]
      have := hi i (by omega)
      rw [show 8 * (m + 1) - 1 - i - 8 = 8 * m - 1 - i from by omega, this]
      unfold bitB
      have h1 : i / 8 < r.length := by omega
      have h2 : i / 8 < (r ++ [x]).length := by simp; omega
      simp only [h1, h2, decide_true, Bool.true_and]
      rw [show (r ++ [x]).getD (i / 8) 0 = r.getD (i / 8) 0 from by rw [List.getD_eq_getElem?_getD, List.getD_eq_getElem?_getD, List.getElem?_append_left h1]]
theorem hB_feB {l m : List UInt8} (hl : l.length = 8) : (hB (feB (l ++ m))).toNat = getN l := by
  obtain ⟨hb, hi⟩ := getN_bit 8 l hl (by omega)
  apply Nat.eq_of_testBit_eq
  intro i
  by_cases h : i < 64
  · have e1 : (hB (feB (l ++ m))).toNat.testBit i = (feB (l ++ m)).getLsbD (63 - i) := hB_bit _ h
    have := hi (63 - i) (by omega)
    rw [show 8 * 8 - 1 - (63 - i) = i from by omega] at this
    rw [e1, this, feB_bit _ (by omega)]
    unfold bitB
    have h1 : (63 - i) / 8 < l.length := by omega
    have h2 : (63 - i) / 8 < (l ++ m).length := by simp; omega
    simp only [h1, h2, decide_true, Bool.true_and]
    rw [show (l ++ m).getD ((63 - i) / 8) 0 = l.getD ((63 - i) / 8) 0 from by rw [List.getD_eq_getElem?_getD, List.getD_eq_getElem?_getD, List.getElem?_append_left h1]]
  · have hp : (2 : Nat) ^ 64 ≤ 2 ^ i := Nat.pow_le_pow_right (by omega) (by omega)
    rw [Nat.testBit_lt_two_pow (Nat.lt_of_lt_of_le (hB _).isLt hp), Nat.testBit_lt_two_pow (Nat.lt_of_lt_of_le hb hp)]
theorem lB_feB {l m : List UInt8} (hl : l.length = 8) (hm : m.length = 8) : (lB (feB (l ++ m))).toNat = getN m := by
  obtain ⟨hb, hi⟩ := getN_bit 8 m hm (by omega)
  apply Nat.eq_of_testBit_eq
  intro i
  by_cases h : i < 64
  · have e1 : (lB (feB (l ++ m))).toNat.testBit i = (feB (l ++ m)).getLsbD (127 - i) := lB_bit _ h
    have := hi (63 - i) (by omega)
    rw [show 8 * 8 - 1 - (63 - i) = i from by omega] at this
    rw [e1, this, feB_bit _ (by omega)]
    unfold bitB
    have h1 : (63 - i) / 8 < m.length := by omega
    have h2 : (127 - i) / 8 < (l ++ m).length := by simp; omega
    simp only [h1, h2, decide_true, Bool.true_and]
    rw [show (l ++ m).getD ((127 - i) / 8) 0 = m.getD ((63 - i) / 8) 0 from by rw [List.getD_eq_getElem?_getD, List.getD_eq_getElem?_getD, List.getElem?_append_right (by omega), show (127 - i) / 8 - l.length = (63 - i) / 8 from by omega]]
    rw [show (127 - i) % 8 = (63 - i) % 8 from by omega]
  · have hp : (2 : Nat) ^ 64 ≤ 2 ^ i := Nat.pow_le_pow_right (by omega) (by omega)
    rw [Nat.testBit_lt_two_pow (Nat.lt_of_lt_of_le (lB _).isLt hp), Nat.testBit_lt_two_pow (Nat.lt_of_lt_of_le hb hp)]
/-- An element's bytes are those of its two words. -/
theorem byF_words (a : Fe) : putL (hB a).toNat 8 ++ putL (lB a).toNat 8 = byF a := by
  have h8 := putL_length 8 (hB a).toNat
  have l8 := putL_length 8 (lB a).toNat
  rw [← byF_feB (l := putL (hB a).toNat 8 ++ putL (lB a).toNat 8) (by rw [List.length_append, h8, l8])]
  congr 1
  apply words_ext
  · apply BitVec.eq_of_toNat_eq
    rw [hB_feB h8, getN_put8 _ (hB a).isLt]
  · apply BitVec.eq_of_toNat_eq
    rw [lB_feB h8 l8, getN_put8 _ (lB a).isLt]
/-- Only the first sixteen bytes count, and noughts behind fewer. -/
theorem feB_pad (l : List UInt8) (n : Nat) : feB (l.take 16 ++ List.replicate n 0) = feB l := by
  apply BitVec.eq_of_getLsbD_eq
  intro i hi
  rw [feB_bit _ hi, feB_bit _ hi]
  unfold bitB
  by_cases h1 : i / 8 < l.length
  · have h2 : i / 8 < (l.take 16).length := by simp; omega
    have h3 : i / 8 < (l.take 16 ++ List.replicate n 0).length := by rw [List.length_append]; omega
    simp only [h1, h3, decide_true, Bool.true_and]
    rw [show (l.take 16 ++ List.replicate n (0 : UInt8)).getD (i / 8) 0 = l.getD (i / 8) 0 from by rw [List.getD_eq_getElem?_getD, List.getD_eq_getElem?_getD, List.getElem?_append_left h2, List.getElem?_take_of_lt (by omega)]]
  · have h2 : (l.take 16).length ≤ i / 8 := by simp; omega
    have : (l.take 16 ++ List.replicate n 0).getD (i / 8) 0 = 0 := by
      rw [List.getD_eq_getElem?_getD, List.getElem?_append_right h2, List.getElem?_replicate]
      split <;> rfl
    rw [this]
    have hz : ∀ s : Fin 8, decide (((0 : UInt8) >>> UInt8.ofNat (7 - s.val)) &&& 1 = 1) = false := by decide +kernel
    have := hz ⟨i % 8, by omega⟩
    simp only [] at this
    rw [this]
    simp [h1]

end Go.Proofs.YtfknplcnfpincaaGreat

/-
  Elements as the program's values: two words in a struct. The contracts of Add and raised. No condition.
-/
namespace Go.Proofs.YtfknplcnfpincaaGreat
open Go.RowKit

/-- The words as numbers. -/
def hN (a : Fe) : Nat := (hB a).toNat
def lN (a : Fe) : Nat := (lB a).toNat
theorem hN_lt (a : Fe) : hN a < 18446744073709551616 := (hB a).isLt
theorem lN_lt (a : Fe) : lN a < 18446744073709551616 := (lB a).isLt
theorem hN_xor (a b : Fe) : hN (a ^^^ b) = hN a ^^^ hN b := by unfold hN; rw [hB_xor, BitVec.toNat_xor]
theorem lN_xor (a b : Fe) : lN (a ^^^ b) = lN a ^^^ lN b := by unfold lN; rw [lB_xor, BitVec.toNat_xor]
theorem hN_add (a b : Fe) : bits .xor .u64 (hN a : Int) (hN b : Int) = (hN (a ^^^ b) : Int) := by
  rw [u64_xor_nat _ _ (hN_lt a) (hN_lt b), hN_xor]
theorem lN_add (a b : Fe) : bits .xor .u64 (lN a : Int) (lN b : Int) = (lN (a ^^^ b) : Int) := by
  rw [u64_xor_nat _ _ (lN_lt a) (lN_lt b), lN_xor]
theorem N_ext {a b : Fe} (h : hN a = hN b) (l : lN a = lN b) : a = b := words_ext (BitVec.eq_of_toNat_eq h) (BitVec.eq_of_toNat_eq l)

/-- An element as a value. -/
def ev (a : Fe) : Value := .agg #[.int .u64 (hN a : Int), .int .u64 (lN a : Int)]

set_option maxHeartbeats 400000 in
theorem oAddE (w : World) (a b : Fe) : Calls Tryz.prog 90 #[ev a, ev b] w fun e w' => e = .returned (ev (a ^^^ b)) ∧ Below w.heap.size w w' := by
  unfold ev
  have e1 := hN_add a b
  have e2 := lN_add a b
  generalize hN a = x1 at *
  generalize hN b = x2 at *
  generalize lN a = y1 at *
  generalize lN b = y2 at *
  generalize hN (a ^^^ b) = x3 at *
  generalize lN (a ^^^ b) = y3 at *
  go_enter Tryz.func90, Tryz.ntmps90
  go_wp2
  refine bodyPost_ret (v := .agg #[.int .u64 (x3 : Int), .int .u64 (y3 : Int)]) (by simp [results, Tryz.results90, go_sem]) rfl ⟨rfl, below3 _ _ _ _⟩

theorem ev_zero : ev 0 = .agg #[.int .u64 0, .int .u64 0] := by
  unfold ev hN lN
  rw [hB_zero, lB_zero]
  rfl
theorem zero_iff (a : Fe) : a = 0 ↔ hN a = 0 ∧ lN a = 0 := by
  constructor
  · rintro rfl
    unfold hN lN
    rw [hB_zero, lB_zero]
    exact ⟨rfl, rfl⟩
  · rintro ⟨h, l⟩
    refine N_ext ?_ ?_
    · rw [h]; unfold hN; rw [hB_zero]; rfl
    · rw [l]; unfold lN; rw [lB_zero]; rfl
theorem ww_xor (x y : BitVec 64) : bits .xor .u64 (x.toNat : Int) (y.toNat : Int) = ((x ^^^ y).toNat : Int) := by
  rw [u64_xor_nat _ _ x.isLt y.isLt, BitVec.toNat_xor]
theorem ww_shr (x : BitVec 64) (k : Nat) (d : Int) (hd : d = ((2 ^ k : Nat) : Int)) : (x.toNat : Int) / d = ((x >>> k).toNat : Int) := by
  rw [BitVec.toNat_ushiftRight, Nat.shiftRight_eq_div_pow, hd, Int.natCast_ediv]
theorem ww_shl (x : BitVec 64) (k : Nat) (d : Int) (hd : d = ((2 ^ k : Nat) : Int)) : IntKind.u64.wrap ((x.toNat : Int) * d) = ((x <<< k).toNat : Int) := by
  rw [BitVec.toNat_shiftLeft, Nat.shiftLeft_eq, hd, IntKind.wrap_u64, Int.natCast_emod, Int.natCast_mul]
  rfl
theorem rs_h (k : Nat) (dk ds : Int) (hk : dk = ((2 ^ k : Nat) : Int)) (hs : ds = ((2 ^ (64 - k) : Nat) : Int)) (h l : BitVec 64) :
    bits .xor .u64 (bits .xor .u64 (bits .xor .u64 (bits .xor .u64 ((h.toNat : Int) / dk) (IntKind.u64.wrap ((l.toNat : Int) * ds))) (IntKind.u64.wrap ((l.toNat : Int) * ds) / 2)) (IntKind.u64.wrap ((l.toNat : Int) * ds) / 4)) (IntKind.u64.wrap ((l.toNat : Int) * ds) / 128) = ((rsH k h l).toNat : Int) := by
  rw [ww_shl l (64 - k) ds hs, ww_shr h k dk hk, ww_shr _ 1 2 rfl, ww_shr _ 2 4 rfl, ww_shr _ 7 128 rfl, ww_xor, ww_xor, ww_xor, ww_xor]
  rfl
theorem rs_l (k : Nat) (dk ds : Int) (hk : dk = ((2 ^ k : Nat) : Int)) (hs : ds = ((2 ^ (64 - k) : Nat) : Int)) (h l : BitVec 64) :
    bits .xor .u64 ((l.toNat : Int) / dk) (IntKind.u64.wrap ((h.toNat : Int) * ds)) = ((rsL k h l).toNat : Int) := by
  rw [ww_shl h (64 - k) ds hs, ww_shr l k dk hk, ww_xor]
  rfl

set_option maxHeartbeats 1000000 in
theorem oRaise1 (w : World) (a : Fe) : Calls Tryz.prog 89 #[ev a, .int .i64 1] w fun e w' => e = .returned (ev (txN a 1)) ∧ Below w.heap.size w w' := by
  have e1 := rs_h 1 2 9223372036854775808 rfl rfl (hB a) (lB a)
  have e2 := rs_l 1 2 9223372036854775808 rfl rfl (hB a) (lB a)
  rw [← rsH_1] at e1
  rw [← rsL_1] at e2
  unfold ev hN lN
  generalize (hB a).toNat = x1 at *
  generalize (lB a).toNat = y1 at *
  generalize (hB (txN a 1)).toNat = x3 at *
  generalize (lB (txN a 1)).toNat = y3 at *
  have E1 : Hid (_ = _) := e1
  have E2 : Hid (_ = _) := e2
  clear e1 e2
  go_enter Tryz.func89, Tryz.ntmps89
  go_wp2
  go_region
  go_wp2
  rw [E1.out, E2.out]
  refine bodyPost_ret (v := .agg #[.int .u64 (x3 : Int), .int .u64 (y3 : Int)]) (by simp [results, Tryz.results89, go_sem]) rfl ⟨rfl, (below2 _ _ _).drew⟩
set_option maxHeartbeats 1000000 in
theorem oRaise4 (w : World) (a : Fe) : Calls Tryz.prog 89 #[ev a, .int .i64 4] w fun e w' => e = .returned (ev (txN a 4)) ∧ Below w.heap.size w w' := by
  have e1 := rs_h 4 16 1152921504606846976 rfl rfl (hB a) (lB a)
  have e2 := rs_l 4 16 1152921504606846976 rfl rfl (hB a) (lB a)
  rw [← rsH_4] at e1
  rw [← rsL_4] at e2
  unfold ev hN lN
  generalize (hB a).toNat = x1 at *
  generalize (lB a).toNat = y1 at *
  generalize (hB (txN a 4)).toNat = x3 at *
  generalize (lB (txN a 4)).toNat = y3 at *
  have E1 : Hid (_ = _) := e1
  have E2 : Hid (_ = _) := e2
  clear e1 e2
  go_enter Tryz.func89, Tryz.ntmps89
  go_wp2
  go_region
  go_wp2
  rw [E1.out, E2.out]
  refine bodyPost_ret (v := .agg #[.int .u64 (x3 : Int), .int .u64 (y3 : Int)]) (by simp [results, Tryz.results89, go_sem]) rfl ⟨rfl, (below2 _ _ _).drew⟩

end Go.Proofs.YtfknplcnfpincaaGreat

/-
  The builtin copy of bytes into a block that is known whole, as one step of a region that draws its order. No condition; no statement of the seat is proved here.
-/
namespace Go.Proofs.YtfknplcnfpincaaGreat
open Go.RowKit

theorem cs_sub' {l : List UInt8} {n j : Nat} {v : Value} (h : (cs (l.take n))[j]? = some v) : (cs l)[j]? = some v := by
  simp only [cs, List.getElem?_map, List.getElem?_take] at h ⊢
  by_cases hj : j < n
  · simpa [hj] using h
  · simp [hj] at h

/-- What a copy of so many bytes leaves. -/
structure Copied (w w' : World) (g off n : Nat) (vs : List Value) (l : List UInt8) (t : TypeId) : Prop where
  blk : Blk w' g (vs.take off ++ cs (l.take n) ++ vs.drop (off + n)) t
  by_ : w.grownBy w' (some g)
  size : w'.heap.size = w.heap.size

theorem Copied.other {w w' : World} {g off n : Nat} {vs : List Value} {l : List UInt8} {t : TypeId} (h : Copied w w' g off n vs l t) {k : Nat} {us : List Value} {u : TypeId} (b : Blk w k us u) (hk : k ≠ g) : Blk w' k us u := by
  unfold Blk
  rw [h.by_.block k b.lt (by simpa using hk)]
  exact b
theorem Copied.below {w w' : World} {g off n : Nat} {vs : List Value} {l : List UInt8} {t : TypeId} (h : Copied w w' g off n vs l t) {B : Nat} {a : World} (hb : Below B a w) (hg : B ≤ g) (hB : B ≤ w.heap.size) : Below B a w' :=
  hb.grown h.by_ hB (fun k hk => by simp at hk; omega)

theorem step_cp {ops : Array Oper} {o : Oper} {a : Act} {w : World} {K : Act → World → Prop} {Q : Exit → Act → World → Prop} {E : Prop} (hgd : o.guard = none) (d s : Operand)
    (ho : o.op = .call { callee := .builtin .copy, args := #[d, s], argTypes := #[22, 22] }) (g off dl dc : Nat) (hd : a.eval d = .slice (some ⟨g, off, none⟩) dl dc)
    (sp : Option Addr) (m c : Nat) (hs : a.eval s = .slice sp m c) (l : List UInt8) (hb : Bs w sp m c l) (vs : List Value) (t : TypeId) (blk : Blk w g vs t) (n : Nat) (hn : n = Nat.min m dl) (hfit : off + n ≤ vs.length) (hpos : 0 < n)
    (h : ∀ w', Copied w w' g off n vs l t → K (a.put o.dst (.int .i64 (n : Int))) w') :
    if Region.wanted o (yielded ops a.tmps) = true then Oper.wp Tryz.prog o a w K Q else E := by
  have hw : Region.wanted o (yielded ops a.tmps) = true := by simp [Region.wanted, hgd]
  rw [if_pos hw]
  have hm : n ≤ m := by rw [hn]; exact Nat.min_le_left _ _
  obtain ⟨b, so, rfl, _, _⟩ := hb.at (by omega)
  have hlen := hb.len
  have hcl : (cs (l.take n)).length = n := by rw [cs_length, List.length_take]; omega
  obtain ⟨i0, hi, hz0, hz1, hz2⟩ := info_parts info5
  have hrun := run_copy_row (P := Tryz.prog) w 22 22 o.type 5 g off dl dc ⟨b, so, none⟩ m c vs.toArray t (cs (l.take n)) Tryz.underlying22 (by rw [hi]; simp [hz1]) blk (by rw [hcl, hn]) (fun j v hj => hb.news j v (cs_sub' hj)) (by simpa [hcl] using hfit) cs_one
  rw [hcl] at hrun
  unfold Oper.wp
  simp [execOp, ho, resolve, invoke, builtin, hd, hs, hrun, Result.andThen]
  have := h (w.setRow g (vs.take off ++ (cs (l.take n) ++ vs.drop (off + n))).toArray) ⟨?_, ?_, ?_⟩
  · rw [Oper.upon_value]; simpa [goInt] using this
  · unfold Blk
    rw [setRow_heap w g _ _ t (0, 0) blk, List.append_assoc]
  · exact ⟨rfl, rfl, rfl, by simp, fun k _ hk => setRow_other w g k _ (by simpa using hk)⟩
  · simp

end Go.Proofs.YtfknplcnfpincaaGreat

/-
  The builtin copy of bytes into a block that is known whole, as an operation of its own. No condition; no statement of the seat is proved here.
-/
namespace Go.Proofs.YtfknplcnfpincaaGreat
open Go.RowKit

/-- Looks whether the next operation is a copy: for 'with_reducible refine' ahead of the law below. -/
theorem at_cp {args : Array Operand} {tys : Array TypeId} {ops : Array Oper} {rest : List Oper} {a : Act} {w : World} {Q : Exit → Act → World → Prop} {dst : Option Tmp} {tp : TypeId} {pos : String} {aft : Array Edge}
    (h : wpList Tryz.prog ops Q ({ dst := dst, op := .call { callee := .builtin .copy, args := args, argTypes := tys }, type := tp, pos := pos, after := aft, guard := none } :: rest) a w) : wpList Tryz.prog ops Q ({ dst := dst, op := .call { callee := .builtin .copy, args := args, argTypes := tys }, type := tp, pos := pos, after := aft, guard := none } :: rest) a w := h
/-- 'copy(block[:], b)' into a block that is known whole: as many as there are in both. -/
theorem wpList_cpm {ops : Array Oper} {rest : List Oper} {o : Oper} {a : Act} {Q : Exit → Act → World → Prop} (w : World) (hgd : o.guard = none) (d s : Operand)
    (ho : o.op = .call { callee := .builtin .copy, args := #[d, s], argTypes := #[22, 22] }) (g dl dc : Nat) (hd : a.eval d = .slice (some ⟨g, 0, none⟩) dl dc)
    (sp : Option Addr) (m c : Nat) (hs : a.eval s = .slice sp m c) (l : List UInt8) (hb : Bs w sp m c l) (vs : List Value) (t : TypeId) (blk : Blk w g vs t) (hfit : vs.length = dl)
    (h : ∀ v w', Blk w' g (cs (l.take dl) ++ vs.drop (min m dl)) t → Below g w w' → (∀ k us u, k ≠ g → Blk w k us u → Blk w' k us u) → wpList Tryz.prog ops Q rest (a.put o.dst v) w') : wpList Tryz.prog ops Q (o :: rest) a w := by
  have hl := hb.len
  obtain ⟨i0, hi, hz0, hz1, hz2⟩ := info_parts info5
  have hsz : (Tryz.prog.info? 5).map (·.size) = some 1 := by rw [hi]; simp [hz1]
  by_cases h0 : m = 0
  · subst h0
    obtain rfl : l = [] := List.length_eq_zero_iff.1 hl
    refine wpList_copy_nothing hgd d s 22 22 ho 5 Tryz.underlying22 hsz _ sp dl dc 0 c hd hs (by simp) ?_
    exact h _ w (by simpa [cs] using blk) (Below.refl _ _) (fun _ _ _ _ b => b)
  · obtain ⟨b, o', rfl, _, _⟩ := hb.at (by omega)
    have hcl : (cs (l.take dl)).length = min m dl := by rw [cs_length, List.length_take, hl, Nat.min_comm]
    refine wpList_copy_own hgd d s 22 22 ho 5 Tryz.underlying22 hsz g 0 dl dc ⟨b, o', none⟩ m c hd hs vs.toArray t blk (cs (l.take dl)) (by rw [hcl]) (fun j v hj => hb.news j v (cs_sub' hj)) (by rw [hcl]; simp; omega) cs_one ?_
    refine h _ _ ?_ ((Below.refl _ _).trans ⟨rfl, rfl, rfl, by simp [World.setRow], fun k hk => setRow_other w g k _ (by omega)⟩) (fun k us u hk b => ?_)
    · unfold Blk
      rw [setRow_heap w g _ _ t (0, 0) blk]
      simp [hcl]
    · unfold Blk
      rw [setRow_other w g k _ hk]
      exact b

end Go.Proofs.YtfknplcnfpincaaGreat
