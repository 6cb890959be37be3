/-
  8 texts in one. No statement of the seat is proved here.
-/
import Derived.Test.YtnmmopneacdgfaaI9

/-
  Rows of bools in memory: what a slice of bools holds ('Bo'), rows that a call made itself ('OwnB'), append and make over them. No condition; no statement of the seat is proved here.
-/
namespace Go.Proofs.Ytnmmopneacdgfaa
open Go.RowKit

/-- Bools as cells. -/
def bo (l : List Bool) : List Value := l.map .bool
theorem bo_length (l : List Bool) : (bo l).length = l.length := by simp [bo]
theorem bo_get {l : List Bool} {i : Nat} (h : i < l.length) : (bo l)[i]? = some (.bool (l.getD i false)) := by
  simp [bo, h, List.getD_eq_getElem?_getD]
/-- The slice (a, n, c) holds the bools l. -/
def Bo (w : World) (a : Option Addr) (n c : Nat) (l : List Bool) : Prop :=
  l.length = n ∧ n ≤ c ∧ c ≤ maxLen ∧ (a = none → c = 0) ∧ ∀ i, i < n → ∃ b o, a = some ⟨b, o, none⟩ ∧ w.cell? ⟨b, o + i, none⟩ = some (.bool (l.getD i false))
theorem Bo.len {w : World} {a : Option Addr} {n c : Nat} {l : List Bool} (h : Bo w a n c l) : l.length = n := h.1
theorem Bo.cap {w : World} {a : Option Addr} {n c : Nat} {l : List Bool} (h : Bo w a n c l) : n ≤ c := h.2.1
theorem Bo.at {w : World} {a : Option Addr} {n c : Nat} {l : List Bool} (h : Bo w a n c l) (hn : 0 < n) :
    ∃ b o, a = some ⟨b, o, none⟩ ∧ b < w.heap.size ∧ ∀ i, i < n → w.cell? ⟨b, o + i, none⟩ = some (.bool (l.getD i false)) := by
  obtain ⟨b, o, ha, hc⟩ := h.2.2.2.2 0 hn
  refine ⟨b, o, ha, lt_of_cell hc, fun i hi => ?_⟩
  obtain ⟨b', o', ha', hc'⟩ := h.2.2.2.2 i hi
  rw [ha] at ha'
  simp at ha'
  obtain ⟨rfl, rfl⟩ := ha'
  exact hc'
theorem Bo.below {w w' : World} {a : Option Addr} {n c : Nat} {l : List Bool} (h : Bo w a n c l) {B : Nat} (hb : Below B w w') (hB : w.heap.size ≤ B) : Bo w' a n c l := by
  refine ⟨h.1, h.2.1, h.2.2.1, h.2.2.2.1, fun i hi => ?_⟩
  obtain ⟨b, o, ha, hc⟩ := h.2.2.2.2 i hi
  refine ⟨b, o, ha, ?_⟩
  rw [hb.cell (p := ⟨b, o + i, none⟩) (by have := lt_of_cell hc; simp at this ⊢; omega)]
  exact hc
theorem Bo.setO {w : World} {a : Option Addr} {n c : Nat} {l : List Bool} (h : Bo w a n c l) {p : Addr} (hp : ∀ x, a = some x → x.block ≠ p.block) (u : Value) : Bo (w.setCell p u) a n c l := by
  refine ⟨h.1, h.2.1, h.2.2.1, h.2.2.2.1, fun i hi => ?_⟩
  obtain ⟨b, o, ha, hc⟩ := h.2.2.2.2 i hi
  have hne : b ≠ p.block := hp _ ha
  refine ⟨b, o, ha, ?_⟩
  rw [World.cell?_of_block (w := w) (a := ⟨b, o + i, none⟩) (Below.heap_setCell _ _ _ _ hne)]
  exact hc
theorem Blk.bo {w : World} {g : Nat} {l : List Bool} {t : TypeId} (h : Blk w g (bo l) t) (hm : l.length ≤ 1000000) : Bo w (some ⟨g, 0, none⟩) l.length l.length l :=
  ⟨rfl, Nat.le_refl _, by unfold maxLen; omega, by simp, fun i hi => ⟨g, 0, rfl, by rw [Nat.zero_add, h.cell, bo_get hi]⟩⟩
/-- The value v is a slice of the bools l, in memory of the call's own from block 'base' on. -/
def OwnB (w : World) (base : Nat) (v : Value) (l : List Bool) : Prop := w.ownsRow base 4 1 v l.length (bo l)
theorem OwnB.nil (w : World) (base : Nat) : OwnB w base (.slice none 0 0) [] := World.ownsRow_nil _ _ _ _
theorem OwnB.below {w w' : World} {base B : Nat} {v : Value} {l : List Bool} (h : OwnB w base v l) (hb : Below B w w') (hB : w.heap.size ≤ B) : OwnB w' base v l := by
  obtain ⟨h1, h2⟩ := h
  refine ⟨h1, ?_⟩
  rcases h2 with h2 | ⟨g, cap, cur, hv, hg, hh, r⟩
  · exact Or.inl h2
  · refine Or.inr ⟨g, cap, cur, hv, hg, ?_, r⟩
    have hlt : g < w.heap.size := by
      by_cases e : g < w.heap.size
      · exact e
      · rw [Array.getElem?_eq_none (by omega)] at hh; simp at hh
    rw [hb.block g (by omega)]
    exact hh
theorem OwnB.size {w : World} {base : Nat} {v : Value} {l : List Bool} (h : OwnB w base v l) : ∀ k, v.ownBlock = some k → base ≤ k := fun k hk => (World.ownsRow.lt h k hk).1
/-- What is owned is a slice of bools. -/
theorem OwnB.bo {w : World} {base : Nat} {v : Value} {l : List Bool} (h : OwnB w base v l) : ∃ a c, v = .slice a l.length c ∧ Bo w a l.length c l ∧ ∀ x, a = some x → base ≤ x.block := by
  have h' := h
  obtain ⟨h1, h2⟩ := h
  rcases h2 with ⟨rfl, h0⟩ | ⟨g, cap, cur, rfl, hg, hh, hn, hm, r⟩
  · have e : l = [] := List.length_eq_zero_iff.1 h0
    subst e
    exact ⟨none, 0, rfl, ⟨rfl, Nat.le_refl _, Nat.zero_le _, fun _ => rfl, fun i hi => by simp at hi⟩, fun x hx => by simp at hx⟩
  · refine ⟨_, cap, rfl, ⟨rfl, hn, hm, by simp, fun i hi => ⟨g, 0, rfl, ?_⟩⟩, fun x hx => by simp only [Option.some.injEq] at hx; subst hx; exact hg⟩
    have := World.ownsRow.cellAt h' i (by omega)
    rw [bo_get hi] at this
    simpa using this
theorem Bo.news {w : World} {ad : Addr} {m c : Nat} {l : List Bool} (h : Bo w (some ad) m c l) (j : Nat) (u : Value) (hj : (Go.Proofs.Ytnmmopneacdgfaa.bo l)[j]? = some u) : w.cell? (ad.add j) = some u := by
  have hl := h.len
  by_cases hjl : j < l.length
  · rw [bo_get hjl] at hj
    obtain ⟨b, o, ha, hc⟩ := h.2.2.2.2 j (by omega)
    simp only [Option.some.injEq] at ha
    subst ha
    rw [Addr.add_mid, hc]
    exact hj
  · rw [List.getElem?_eq_none (by rw [bo_length]; omega)] at hj
    simp at hj

/-- What a call that hands back bools in new memory leaves. -/
def GivesB (w : World) (l : List Bool) (e : Ending) (w' : World) : Prop := ∃ a c, e = .returned (.slice a l.length c) ∧ Bo w' a l.length c l ∧ (∀ x, a = some x → w.heap.size ≤ x.block) ∧ Below w.heap.size w w'
theorem GivesB.mk {w w' : World} {v : Value} {l : List Bool} (h : OwnB w' w.heap.size v l) (hb : Below w.heap.size w w') : GivesB w l (.returned v) w' := by
  obtain ⟨a, c, rfl, hB, hx⟩ := h.bo
  exact ⟨a, c, rfl, hB, hx, hb⟩
end Go.Proofs.Ytnmmopneacdgfaa

/-
  'make' of bytes and of bools in a region that draws its order. No condition; no statement of the seat is proved here.
-/
namespace Go.Proofs.Ytnmmopneacdgfaa
open Go.RowKit

end Go.Proofs.Ytnmmopneacdgfaa

/-
  Two operations of a region that draws its order, each of which answers new memory: whichever comes first. No condition; no statement of the seat is proved here.
-/
namespace Go.Proofs.Ytnmmopneacdgfaa
open Go.RowKit

/-- The operation leaves a value and a world of which A holds, and the world has only grown. -/
def Mk (P : Program) (ops : Array Oper) (Q : Exit → Act → World → Prop) (S : World → Prop) (i : Nat) (d : Tmp) (A : Value → World → Prop) (a : Act) : Prop :=
  ∀ (K : Act → World → Prop) (w : World), S w → (∀ v w', A v w' → Grows w w' → S w' → K (a.put (some d) v) w') → wpOp P ops Q i K a w
/-- A call so. -/
theorem mkCall {ops : Array Oper} {Q : Exit → Act → World → Prop} {W : World} (i : Nat) (d : Tmp) (f : FuncId) (args : Array Operand) (tys : Array TypeId) (vs : Array Value) (A : Value → World → Prop) {oi : Oper} {a : Act} (hi : ops[i]? = some oi) (hd : oi.dst = some d) (ho : oi.op = .call { callee := .value (.func f), args := args, argTypes := tys }) (hw : Region.wanted oi (yielded ops a.tmps) = true) (hv : (args.toList.map a.eval).toArray = vs) (hc : ∀ vs w, (callFunc f vs).run Try.prog w = .ok (.enter f vs) w)
    (h : ∀ w, Grows W w → Calls Try.prog f vs w fun e w' => ∃ v, e = .returned v ∧ A v w' ∧ Below w.heap.size w w') : Mk Try.prog ops Q (Grows W) i d A a := by
  intro K w hs k
  have hv' : args.map a.eval = vs := by rw [← hv]; apply Array.toList_inj.1; rw [Array.toList_map]
  subst hv'
  unfold wpOp
  simp only [hi]
  rw [if_pos hw]
  left
  unfold Oper.wp
  have hx : (execOp a.eval oi).run Try.prog w = .ok (.enter f (args.map a.eval)) w := by simp [execOp, ho, resolve, invoke, Act.eval, Deferred.ofValue, hc]
  rw [hx, Oper.upon_enter]
  refine (h w hs).mono ?_
  rintro e w'' ⟨v, rfl, hA, hb⟩
  rw [hd]
  exact k v w'' hA hb (Grows.trans hs hb)

end Go.Proofs.Ytnmmopneacdgfaa

/-
  Regions that draw their order: a call as one operation, and two that may come up. No condition; no statement of the seat is proved here.
-/
namespace Go.Proofs.Ytnmmopneacdgfaa
open Go.RowKit
set_option linter.unusedVariables false

end Go.Proofs.Ytnmmopneacdgfaa

/-
  'make' of ints in a region that draws its order; several operations that may come up. No condition; no statement of the seat is proved here.
-/
namespace Go.Proofs.Ytnmmopneacdgfaa
open Go.RowKit

/-- Several that may come up. -/
theorem manyG {P : Program} {ops : Array Oper} {Q : Exit → Act → World → Prop} {md : Region.Mode} {S : World → Prop} (L : List Nat) {fuel : Nat} {listed : Array Bool} {a : Act} {w : World} (hr : Region.ready md ops listed = L) (hne : L ≠ [])
    (h : ∀ i ∈ L, ∀ w', Grows w w' → S w' → wpOp P ops Q i (fun a' w'' => S w'' ∧ wpAnyG P md ops Q S fuel (listed.setIfInBounds i true) a' w'') a w') : wpAnyG P md ops Q S (fuel + 1) listed a w :=
  fun w' hg hS => ⟨fun h0 => (by rw [h0] at hr; exact absurd hr.symm hne), fun x hx => by
    rw [hr] at hx
    exact h x hx w' hg hS⟩

end Go.Proofs.Ytnmmopneacdgfaa

/-
  Regions that draw their order: several operations that answer new memory and may come in any order; slices of four and of five slices. No condition; no statement of the seat is proved here.
-/
namespace Go.Proofs.Ytnmmopneacdgfaa
open Go.RowKit
set_option linter.unusedVariables false

def setAll (listed : Array Bool) (L : List Nat) : Array Bool := L.foldl (fun l i => l.setIfInBounds i true) listed
theorem setAll_erase {x : Nat} : ∀ {L : List Nat} (listed : Array Bool), x ∈ L → setAll (listed.setIfInBounds x true) (L.erase x) = setAll listed L
  | [], _, h => by cases h
  | y :: L, listed, h => by
    by_cases e : y = x
    · subst e
      rw [List.erase_cons_head]
      rfl
    · have hx : x ∈ L := by
        rcases List.mem_cons.1 h with rfl | h
        · exact absurd rfl e
        · exact h
      rw [List.erase_cons_tail (by simpa using e)]
      show setAll ((listed.setIfInBounds x true).setIfInBounds y true) (L.erase x) = setAll (listed.setIfInBounds y true) L
      rw [Array.setIfInBounds_comm _ _ (Ne.symm e)]
      exact setAll_erase _ hx
/-- Whatever of R has come, something may come up, and it is of the rest of R. -/
def freeN (md : Region.Mode) (ops : Array Oper) : Nat → Array Bool → List Nat → Bool
  | 0, _, _ => true
  | n + 1, listed, R => !(Region.ready md ops listed).isEmpty && (Region.ready md ops listed).all (fun i => R.contains i && freeN md ops n (listed.setIfInBounds i true) (R.erase i))
/-- Literals of four and of five slices. -/
theorem opBS4 {ops : Array Oper} {Q : Exit → Act → World → Prop} {i : Nat} {oi : Oper} (d : Option Tmp) (hi : ops[i]? = some oi) (hd : oi.dst = d) (hg : oi.guard = none) (x1 x2 x3 x4 : Operand) (ho : oi.op = .buildSlice 92 4 #[(0, x1), (1, x2), (2, x3), (3, x4)]) {K : Act → World → Prop} {a : Act} {w : World} {s1 s2 s3 s4 : Option Addr} {n1 c1 n2 c2 n3 c3 n4 c4 : Nat}
    (h1 : a.eval x1 = .slice s1 n1 c1) (h2 : a.eval x2 = .slice s2 n2 c2) (h3 : a.eval x3 = .slice s3 n3 c3) (h4 : a.eval x4 = .slice s4 n4 c4)
    (k : K (a.put d (.slice (some ⟨w.heap.size, 0, none⟩) 4 4)) (w.alloc (.cells #[.slice s1 n1 c1, .slice s2 n2 c2, .slice s3 n3 c3, .slice s4 n4 c4] 26))) : wpOp Try.prog ops Q i K a w := by
  subst hd
  have hK : Hid _ := k
  clear k
  unfold wpOp
  simp only [hi]
  rw [if_pos (by simp [Region.wanted, hg])]
  left
  unfold Oper.wp execOp
  simp only [ho, List.map_toArray, List.map_cons, List.map_nil, h1, h2, h3, h4]
  go_simp
  exact hK.out
theorem opBS5 {ops : Array Oper} {Q : Exit → Act → World → Prop} {i : Nat} {oi : Oper} (d : Option Tmp) (hi : ops[i]? = some oi) (hd : oi.dst = d) (hg : oi.guard = none) (x1 x2 x3 x4 x5 : Operand) (ho : oi.op = .buildSlice 92 5 #[(0, x1), (1, x2), (2, x3), (3, x4), (4, x5)]) {K : Act → World → Prop} {a : Act} {w : World} {s1 s2 s3 s4 s5 : Option Addr} {n1 c1 n2 c2 n3 c3 n4 c4 n5 c5 : Nat}
    (h1 : a.eval x1 = .slice s1 n1 c1) (h2 : a.eval x2 = .slice s2 n2 c2) (h3 : a.eval x3 = .slice s3 n3 c3) (h4 : a.eval x4 = .slice s4 n4 c4) (h5 : a.eval x5 = .slice s5 n5 c5)
    (k : K (a.put d (.slice (some ⟨w.heap.size, 0, none⟩) 5 5)) (w.alloc (.cells #[.slice s1 n1 c1, .slice s2 n2 c2, .slice s3 n3 c3, .slice s4 n4 c4, .slice s5 n5 c5] 26))) : wpOp Try.prog ops Q i K a w := by
  subst hd
  have hK : Hid _ := k
  clear k
  unfold wpOp
  simp only [hi]
  rw [if_pos (by simp [Region.wanted, hg])]
  left
  unfold Oper.wp execOp
  simp only [ho, List.map_toArray, List.map_cons, List.map_nil, h1, h2, h3, h4, h5]
  go_simp
  exact hK.out
theorem bss4 {w : World} {a1 a2 a3 a4 : Option Addr} {n1 c1 n2 c2 n3 c3 n4 c4 : Nat} {l1 l2 l3 l4 : List UInt8} (h1 : Bs w a1 n1 c1 l1) (h2 : Bs w a2 n2 c2 l2) (h3 : Bs w a3 n3 c3 l3) (h4 : Bs w a4 n4 c4 l4) :
    Bss (w.alloc (.cells #[.slice a1 n1 c1, .slice a2 n2 c2, .slice a3 n3 c3, .slice a4 n4 c4] 26)) (some ⟨w.heap.size, 0, none⟩) 4 4 [l1, l2, l3, l4] := by
  refine ⟨rfl, Nat.le_refl _, by unfold maxLen; omega, fun i hi => ?_⟩
  match i, hi with
  | 0, _ => exact ⟨w.heap.size, 0, a1, n1, c1, rfl, by rw [cell_new]; rfl, h1.below (below_alloc _ _) (Nat.le_refl _)⟩
  | 1, _ => exact ⟨w.heap.size, 0, a2, n2, c2, rfl, by rw [cell_new]; rfl, h2.below (below_alloc _ _) (Nat.le_refl _)⟩
  | 2, _ => exact ⟨w.heap.size, 0, a3, n3, c3, rfl, by rw [cell_new]; rfl, h3.below (below_alloc _ _) (Nat.le_refl _)⟩
  | 3, _ => exact ⟨w.heap.size, 0, a4, n4, c4, rfl, by rw [cell_new]; rfl, h4.below (below_alloc _ _) (Nat.le_refl _)⟩
theorem bss5 {w : World} {a1 a2 a3 a4 a5 : Option Addr} {n1 c1 n2 c2 n3 c3 n4 c4 n5 c5 : Nat} {l1 l2 l3 l4 l5 : List UInt8} (h1 : Bs w a1 n1 c1 l1) (h2 : Bs w a2 n2 c2 l2) (h3 : Bs w a3 n3 c3 l3) (h4 : Bs w a4 n4 c4 l4) (h5 : Bs w a5 n5 c5 l5) :
    Bss (w.alloc (.cells #[.slice a1 n1 c1, .slice a2 n2 c2, .slice a3 n3 c3, .slice a4 n4 c4, .slice a5 n5 c5] 26)) (some ⟨w.heap.size, 0, none⟩) 5 5 [l1, l2, l3, l4, l5] := by
  refine ⟨rfl, Nat.le_refl _, by unfold maxLen; omega, fun i hi => ?_⟩
  match i, hi with
  | 0, _ => exact ⟨w.heap.size, 0, a1, n1, c1, rfl, by rw [cell_new]; rfl, h1.below (below_alloc _ _) (Nat.le_refl _)⟩
  | 1, _ => exact ⟨w.heap.size, 0, a2, n2, c2, rfl, by rw [cell_new]; rfl, h2.below (below_alloc _ _) (Nat.le_refl _)⟩
  | 2, _ => exact ⟨w.heap.size, 0, a3, n3, c3, rfl, by rw [cell_new]; rfl, h3.below (below_alloc _ _) (Nat.le_refl _)⟩
  | 3, _ => exact ⟨w.heap.size, 0, a4, n4, c4, rfl, by rw [cell_new]; rfl, h4.below (below_alloc _ _) (Nat.le_refl _)⟩
  | 4, _ => exact ⟨w.heap.size, 0, a5, n5, c5, rfl, by rw [cell_new]; rfl, h5.below (below_alloc _ _) (Nat.le_refl _)⟩
/-- The answers of several: slices that hold these bytes. -/
def HasB (l : Nat → List UInt8) (i : Nat) (v : Value) (w : World) : Prop := ∃ a m c, v = .slice a m c ∧ Bs w a m c (l i)
theorem HasB.st (l : Nat → List UInt8) : ∀ i v w w', HasB l i v w → Grows w w' → HasB l i v w' := by
  rintro i v w w' ⟨a, m, c, e, h⟩ hg
  exact ⟨a, m, c, e, h.below hg (Nat.le_refl _)⟩
theorem HasB.of {l : Nat → List UInt8} {i : Nat} {x : List UInt8} {w : World} {e : Ending} {w' : World} (h : Gives w x e w') (hx : l i = x) : ∃ v, e = .returned v ∧ HasB l i v w' ∧ Below w.heap.size w w' := by
  obtain ⟨a, m, c, rfl, ho, hb⟩ := h
  exact ⟨_, rfl, ⟨a, m, c, rfl, by rw [hx]; exact ho.toBs⟩, hb⟩

end Go.Proofs.Ytnmmopneacdgfaa

/-
  Contracts of layer 18's program: the bytes of a pair, of a kid. Condition: keys and values of at most a thousand bytes, a kid's page and epoch not below nought.
-/
namespace Go.Proofs.Ytnmmopneacdgfaa
open Go.RowKit
set_option linter.unusedVariables false
set_option maxRecDepth 100000 in
set_option maxHeartbeats 4000000 in
theorem oBtP (w : World) {A : Nat → Prop} {x : PairS} {vs : List Value} (h : elPr A w x vs) (hk : x.key.length ≤ 1000 ∧ x.value.length ≤ 1000) : Calls Try.prog 29 #[.agg vs.toArray] w (Gives w (pairL x)) := by
  obtain ⟨kp, km, kc, vp, vm, vc, rfl, hB1, hB2⟩ := h
  have e1 : x.key.length = km := hB1.1.len
  have e2 : x.value.length = vm := hB2.1.len
  obtain ⟨V, hV⟩ : ∃ V, V = w.alloc (.cells #[.slice kp km kc, .slice vp vm vc] 44) := ⟨_, rfl⟩
  have bV : Blk V w.heap.size [.slice kp km kc, .slice vp vm vc] 44 := by rw [hV]; exact Blk.newAt w _ _ w.heap.size rfl _ rfl
  have kW : Below w.heap.size w V := by rw [hV]; exact below_alloc _ _
  have X0 : ∀ u, Grows V u → u.cell? ⟨w.heap.size, 0, none⟩ = some (.slice kp km kc) := fun u hu => (bV.below hu bV.lt).cell 0
  have X1 : ∀ u, Grows V u → u.cell? ⟨w.heap.size, 1, none⟩ = some (.slice vp vm vc) := fun u hu => (bV.below hu bV.lt).cell 1
  have YK : ∀ u, Grows V u → Bs u kp km kc x.key := fun u hu => hB1.1.below (kW.trans (Below.mono hu kW.size)) (Nat.le_refl _)
  have YV : ∀ u, Grows V u → Bs u vp vm vc x.value := fun u hu => hB2.1.below (kW.trans (Below.mono hu kW.size)) (Nat.le_refl _)
  have r1 : IntKind.u64.wrap (km : Int) = (km : Int) := by rw [IntKind.wrap_u64]; omega
  have r2 : IntKind.u64.wrap (vm : Int) = (vm : Int) := by rw [IntKind.wrap_u64]; omega
  subst e1 e2
  clear hB1 hB2
  generalize hkm : x.key.length = km at *
  generalize hvm : x.value.length = vm at *
  go_enter Try.func29, Try.ntmps29
  go_wp2_with fail
  rw [← hV]
  refine regionG (S := Grows V) (by kernel_rfl) (Below.refl _ V).drew ?_
  refine takeG 0 (some 3) (.pointer (some ⟨w.heap.size, 0, none⟩)) rfl rfl (by kernel_rfl) (by kernel_rfl) (by kernel_rfl) (fun _ _ _ h => h) (ans_plain (by rfl) (fun w _ => by unfold execOp; go_simp)) ?_
  simp only [Act.put, List.setIfInBounds_toArray, List.set_cons_zero, List.set_cons_succ]
  refine takeG 1 (some 4) (.slice kp km kc) rfl rfl (by kernel_rfl) (by kernel_rfl) (by kernel_rfl) (fun _ _ _ h => h) (ans_plain (by rfl) (fun w h => by have hc := X0 w h; unfold execOp; go_simp)) ?_
  simp only [Act.put, List.setIfInBounds_toArray, List.set_cons_zero, List.set_cons_succ]
  refine takeG 2 (some 5) (.int .i64 (km : Int)) rfl rfl (by kernel_rfl) (by kernel_rfl) (by kernel_rfl) (fun _ _ _ h => h) (ans_plain (by rfl) (fun w _ => by unfold execOp; go_simp)) ?_
  simp only [Act.put, List.setIfInBounds_toArray, List.set_cons_zero, List.set_cons_succ]
  refine takeG 3 (some 6) (.int .u64 (km : Int)) rfl rfl (by kernel_rfl) (by kernel_rfl) (by kernel_rfl) (fun _ _ _ h => h) (ans_plain (by rfl) (fun w _ => by unfold execOp; go_simp)) ?_
  simp only [Act.put, List.setIfInBounds_toArray, List.set_cons_zero, List.set_cons_succ]
  refine takeG 5 (some 8) (.pointer (some ⟨w.heap.size, 1, none⟩)) rfl rfl (by kernel_rfl) (by kernel_rfl) (by kernel_rfl) (fun _ _ _ h => h) (ans_plain (by rfl) (fun w _ => by unfold execOp; go_simp)) ?_
  simp only [Act.put, List.setIfInBounds_toArray, List.set_cons_zero, List.set_cons_succ]
  refine takeG 6 (some 9) (.slice vp vm vc) rfl rfl (by kernel_rfl) (by kernel_rfl) (by kernel_rfl) (fun _ _ _ h => h) (ans_plain (by rfl) (fun w h => by have hc := X1 w h; unfold execOp; go_simp)) ?_
  simp only [Act.put, List.setIfInBounds_toArray, List.set_cons_zero, List.set_cons_succ]
  refine takeG 7 (some 10) (.int .i64 (vm : Int)) rfl rfl (by kernel_rfl) (by kernel_rfl) (by kernel_rfl) (fun _ _ _ h => h) (ans_plain (by rfl) (fun w _ => by unfold execOp; go_simp)) ?_
  simp only [Act.put, List.setIfInBounds_toArray, List.set_cons_zero, List.set_cons_succ]
  refine takeG 8 (some 11) (.int .u64 (vm : Int)) rfl rfl (by kernel_rfl) (by kernel_rfl) (by kernel_rfl) (fun _ _ _ h => h) (ans_plain (by rfl) (fun w _ => by unfold execOp; go_simp)) ?_
  simp only [Act.put, List.setIfInBounds_toArray, List.set_cons_zero, List.set_cons_succ]
  refine takeG 10 (some 13) (.pointer (some ⟨w.heap.size, 0, none⟩)) rfl rfl (by kernel_rfl) (by kernel_rfl) (by kernel_rfl) (fun _ _ _ h => h) (ans_plain (by rfl) (fun w _ => by unfold execOp; go_simp)) ?_
  simp only [Act.put, List.setIfInBounds_toArray, List.set_cons_zero, List.set_cons_succ]
  refine takeG 11 (some 14) (.slice kp km kc) rfl rfl (by kernel_rfl) (by kernel_rfl) (by kernel_rfl) (fun _ _ _ h => h) (ans_plain (by rfl) (fun w h => by have hc := X0 w h; unfold execOp; go_simp)) ?_
  simp only [Act.put, List.setIfInBounds_toArray, List.set_cons_zero, List.set_cons_succ]
  refine takeG 12 (some 15) (.pointer (some ⟨w.heap.size, 1, none⟩)) rfl rfl (by kernel_rfl) (by kernel_rfl) (by kernel_rfl) (fun _ _ _ h => h) (ans_plain (by rfl) (fun w _ => by unfold execOp; go_simp)) ?_
  simp only [Act.put, List.setIfInBounds_toArray, List.set_cons_zero, List.set_cons_succ]
  refine takeG 13 (some 16) (.slice vp vm vc) rfl rfl (by kernel_rfl) (by kernel_rfl) (by kernel_rfl) (fun _ _ _ h => h) (ans_plain (by rfl) (fun w h => by have hc := X1 w h; unfold execOp; go_simp)) ?_
  simp only [Act.put, List.setIfInBounds_toArray, List.set_cons_zero, List.set_cons_succ]
  refine callG 4 (some 7) 26 #[.tmp 6, .const (.int .i64 1)] #[50, 3] #[.int .u64 (km : Int), .int .i64 1] rfl rfl rfl (by rfl) (by rfl) (by kernel_rfl) Try.call26 fun x1 hgx1 hsx1 => ?_
  refine (oPut (km : Int) 1 x1 (by omega) (by omega) (by omega) (by omega)).mono ?_
  rintro e x1' ⟨a1, m1, c1, rfl, hO1, hbx1⟩
  refine ⟨_, rfl, Grows.trans hsx1 hbx1, ?_⟩
  simp only [Act.put, List.setIfInBounds_toArray, List.set_cons_zero, List.set_cons_succ]
  have H1 : Hid (Bs x1' a1 m1 c1 (putL km 1)) := hO1.toBs
  clear hO1
  refine callG 9 (some 12) 26 #[.tmp 11, .const (.int .i64 1)] #[50, 3] #[.int .u64 (vm : Int), .int .i64 1] rfl rfl rfl (by rfl) (by rfl) (by kernel_rfl) Try.call26 fun x2 hgx2 hsx2 => ?_
  refine (oPut (vm : Int) 1 x2 (by omega) (by omega) (by omega) (by omega)).mono ?_
  rintro e x2' ⟨a2, m2, c2, rfl, hO2, hbx2⟩
  refine ⟨_, rfl, Grows.trans hsx2 hbx2, ?_⟩
  simp only [Act.put, List.setIfInBounds_toArray, List.set_cons_zero, List.set_cons_succ]
  have H2 : Hid (Bs x2' a2 m2 c2 (putL vm 1)) := hO2.toBs
  clear hO2
  refine oneG 14 (by kernel_rfl) fun w2 hg2 hs2 => ?_
  refine opBS4 (some 17) rfl rfl rfl (.tmp 7) (.tmp 12) (.tmp 14) (.tmp 16) rfl rfl rfl rfl rfl ⟨Grows.trans hs2 (below_alloc _ _), ?_⟩
  simp only [Act.put, List.setIfInBounds_toArray, List.set_cons_zero, List.set_cons_succ]
  have B4 : Bss (w2.alloc (.cells #[.slice a1 m1 c1, .slice a2 m2 c2, .slice kp km kc, .slice vp vm vc] 26)) (some ⟨w2.heap.size, 0, none⟩) 4 4 [putL km 1, putL vm 1, x.key, x.value] := bss4 (H1.out.below (Grows.trans hgx2 (Grows.trans hbx2 hg2)) (Nat.le_refl _)) (H2.out.below hg2 (Nat.le_refl _)) (YK w2 hs2) (YV w2 hs2)
  have kJ : Below w2.heap.size w2 (w2.alloc (.cells #[.slice a1 m1 c1, .slice a2 m2 c2, .slice kp km kc, .slice vp vm vc] 26)) := below_alloc _ _
  refine callG 15 (some 18) 25 #[.tmp 17] #[92] #[.slice (some ⟨w2.heap.size, 0, none⟩) 4 4] rfl rfl rfl (by rfl) (by rfl) (by kernel_rfl) Try.call25 fun u1 hg1 hs1 => ?_
  refine (oJoin u1 (B4.below hg1 (Nat.le_refl _)) (by simp only [tot, putL_length]; omega)).mono ?_
  rintro e u2 ⟨a, m, c, rfl, hO, hb⟩
  refine ⟨_, rfl, Grows.trans hs1 hb, ?_⟩
  simp only [Act.put, List.setIfInBounds_toArray, List.set_cons_zero, List.set_cons_succ]
  refine takeG 16 (some 2) (.slice a m c) rfl rfl (by kernel_rfl) (by kernel_rfl) (by kernel_rfl) (fun _ _ _ h => h) (ans_plain (by rfl) (fun w _ => rfl)) ?_
  simp only [Act.put, List.setIfInBounds_toArray, List.set_cons_zero, List.set_cons_succ]
  refine doneG (by kernel_rfl) fun v6 hg_v6 hs_v6 => ?_
  have k7 : Below w.heap.size w u1 := kW.trans (Below.mono hs1 kW.size)
  have HO : Hid (Own v6 w.heap.size (.slice a m c) (pairL x)) := by show Own _ _ _ _; rw [show pairL x = [putL km 1, putL vm 1, x.key, x.value].flatten from by unfold pairL; rw [hkm, hvm]; simp]; exact (hO.mono k7.size).below hg_v6 (Nat.le_refl _)
  have k8 : Below w.heap.size w v6 := kW.trans (Below.mono hs_v6 kW.size)
  clear hO hb hs1 hg1 B4 kJ hs2 hg2 H1 H2
  go_wp2_with fail
  go_ret
  exact ⟨a, m, c, rfl, HO.out, k8⟩
set_option maxRecDepth 100000 in
set_option maxHeartbeats 4000000 in
theorem oBtK (w : World) {A : Nat → Prop} {x : KidS} {vs : List Value} (h : elKd A w x vs) (hk : x.key.length ≤ 1000) (hpg : 0 ≤ x.page) (hep : 0 ≤ x.epoch) : Calls Try.prog 31 #[.agg vs.toArray] w (Gives w (kidL x)) := by
  obtain ⟨kp, km, kc, rfl, hB1, hp6, he6⟩ := h
  have e1 : x.key.length = km := hB1.1.len
  obtain ⟨pg, hpgn⟩ : ∃ n : Nat, x.page = n := ⟨x.page.toNat, by omega⟩
  obtain ⟨ep, hepn⟩ : ∃ n : Nat, x.epoch = n := ⟨x.epoch.toNat, by omega⟩
  have hf : kidL x = putL km 1 ++ putL pg 2 ++ putL ep 8 ++ x.key := by unfold kidL; rw [e1, hpgn, hepn]; rfl
  unfold i64 at hp6 he6
  rw [hpgn] at hp6 ⊢
  rw [hepn] at he6 ⊢
  rw [hf]
  obtain ⟨V, hV⟩ : ∃ V, V = w.alloc (.cells #[.slice kp km kc, .int .i64 (pg : Int), .int .i64 (ep : Int)] 46) := ⟨_, rfl⟩
  have bV : Blk V w.heap.size [.slice kp km kc, .int .i64 (pg : Int), .int .i64 (ep : Int)] 46 := by rw [hV]; exact Blk.newAt w _ _ w.heap.size rfl _ rfl
  have kW : Below w.heap.size w V := by rw [hV]; exact below_alloc _ _
  have X0 : ∀ u, Grows V u → u.cell? ⟨w.heap.size, 0, none⟩ = some (.slice kp km kc) := fun u hu => (bV.below hu bV.lt).cell 0
  have X1 : ∀ u, Grows V u → u.cell? ⟨w.heap.size, 1, none⟩ = some (.int .i64 (pg : Int)) := fun u hu => (bV.below hu bV.lt).cell 1
  have X2 : ∀ u, Grows V u → u.cell? ⟨w.heap.size, 2, none⟩ = some (.int .i64 (ep : Int)) := fun u hu => (bV.below hu bV.lt).cell 2
  have YK : ∀ u, Grows V u → Bs u kp km kc x.key := fun u hu => hB1.1.below (kW.trans (Below.mono hu kW.size)) (Nat.le_refl _)
  have r1 : IntKind.u64.wrap (km : Int) = (km : Int) := by rw [IntKind.wrap_u64]; omega
  have r2 : IntKind.u64.wrap (pg : Int) = (pg : Int) := by rw [IntKind.wrap_u64]; omega
  have r3 : IntKind.u64.wrap (ep : Int) = (ep : Int) := by rw [IntKind.wrap_u64]; omega
  clear hB1
  go_enter Try.func31, Try.ntmps31
  go_wp2_with fail
  rw [← hV]
  refine regionG (S := Grows V) (by kernel_rfl) (Below.refl _ V).drew ?_
  refine takeG 0 (some 3) (.pointer (some ⟨w.heap.size, 0, none⟩)) rfl rfl (by kernel_rfl) (by kernel_rfl) (by kernel_rfl) (fun _ _ _ h => h) (ans_plain (by rfl) (fun w _ => by unfold execOp; go_simp)) ?_
  simp only [Act.put, List.setIfInBounds_toArray, List.set_cons_zero, List.set_cons_succ]
  refine takeG 1 (some 4) (.slice kp km kc) rfl rfl (by kernel_rfl) (by kernel_rfl) (by kernel_rfl) (fun _ _ _ h => h) (ans_plain (by rfl) (fun w h => by have hc := X0 w h; unfold execOp; go_simp)) ?_
  simp only [Act.put, List.setIfInBounds_toArray, List.set_cons_zero, List.set_cons_succ]
  refine takeG 2 (some 5) (.int .i64 (km : Int)) rfl rfl (by kernel_rfl) (by kernel_rfl) (by kernel_rfl) (fun _ _ _ h => h) (ans_plain (by rfl) (fun w _ => by unfold execOp; go_simp)) ?_
  simp only [Act.put, List.setIfInBounds_toArray, List.set_cons_zero, List.set_cons_succ]
  refine takeG 3 (some 6) (.int .u64 (km : Int)) rfl rfl (by kernel_rfl) (by kernel_rfl) (by kernel_rfl) (fun _ _ _ h => h) (ans_plain (by rfl) (fun w _ => by unfold execOp; go_simp)) ?_
  simp only [Act.put, List.setIfInBounds_toArray, List.set_cons_zero, List.set_cons_succ]
  refine takeG 5 (some 8) (.pointer (some ⟨w.heap.size, 1, none⟩)) rfl rfl (by kernel_rfl) (by kernel_rfl) (by kernel_rfl) (fun _ _ _ h => h) (ans_plain (by rfl) (fun w _ => by unfold execOp; go_simp)) ?_
  simp only [Act.put, List.setIfInBounds_toArray, List.set_cons_zero, List.set_cons_succ]
  refine takeG 6 (some 9) (.int .i64 (pg : Int)) rfl rfl (by kernel_rfl) (by kernel_rfl) (by kernel_rfl) (fun _ _ _ h => h) (ans_plain (by rfl) (fun w h => by have hc := X1 w h; unfold execOp; go_simp)) ?_
  simp only [Act.put, List.setIfInBounds_toArray, List.set_cons_zero, List.set_cons_succ]
  refine takeG 7 (some 10) (.int .u64 (pg : Int)) rfl rfl (by kernel_rfl) (by kernel_rfl) (by kernel_rfl) (fun _ _ _ h => h) (ans_plain (by rfl) (fun w _ => by unfold execOp; go_simp)) ?_
  simp only [Act.put, List.setIfInBounds_toArray, List.set_cons_zero, List.set_cons_succ]
  refine takeG 9 (some 12) (.pointer (some ⟨w.heap.size, 2, none⟩)) rfl rfl (by kernel_rfl) (by kernel_rfl) (by kernel_rfl) (fun _ _ _ h => h) (ans_plain (by rfl) (fun w _ => by unfold execOp; go_simp)) ?_
  simp only [Act.put, List.setIfInBounds_toArray, List.set_cons_zero, List.set_cons_succ]
  refine takeG 10 (some 13) (.int .i64 (ep : Int)) rfl rfl (by kernel_rfl) (by kernel_rfl) (by kernel_rfl) (fun _ _ _ h => h) (ans_plain (by rfl) (fun w h => by have hc := X2 w h; unfold execOp; go_simp)) ?_
  simp only [Act.put, List.setIfInBounds_toArray, List.set_cons_zero, List.set_cons_succ]
  refine takeG 11 (some 14) (.int .u64 (ep : Int)) rfl rfl (by kernel_rfl) (by kernel_rfl) (by kernel_rfl) (fun _ _ _ h => h) (ans_plain (by rfl) (fun w _ => by unfold execOp; go_simp)) ?_
  simp only [Act.put, List.setIfInBounds_toArray, List.set_cons_zero, List.set_cons_succ]
  refine takeG 13 (some 16) (.pointer (some ⟨w.heap.size, 0, none⟩)) rfl rfl (by kernel_rfl) (by kernel_rfl) (by kernel_rfl) (fun _ _ _ h => h) (ans_plain (by rfl) (fun w _ => by unfold execOp; go_simp)) ?_
  simp only [Act.put, List.setIfInBounds_toArray, List.set_cons_zero, List.set_cons_succ]
  refine takeG 14 (some 17) (.slice kp km kc) rfl rfl (by kernel_rfl) (by kernel_rfl) (by kernel_rfl) (fun _ _ _ h => h) (ans_plain (by rfl) (fun w h => by have hc := X0 w h; unfold execOp; go_simp)) ?_
  simp only [Act.put, List.setIfInBounds_toArray, List.set_cons_zero, List.set_cons_succ]
  refine callG 4 (some 7) 26 #[.tmp 6, .const (.int .i64 1)] #[50, 3] #[.int .u64 (km : Int), .int .i64 1] rfl rfl rfl (by rfl) (by rfl) (by kernel_rfl) Try.call26 fun x1 hgx1 hsx1 => ?_
  refine (oPut (km : Int) 1 x1 (by omega) (by omega) (by omega) (by omega)).mono ?_
  rintro e x1' ⟨a1, m1, c1, rfl, hO1, hbx1⟩
  refine ⟨_, rfl, Grows.trans hsx1 hbx1, ?_⟩
  simp only [Act.put, List.setIfInBounds_toArray, List.set_cons_zero, List.set_cons_succ]
  have H1 : Hid (Bs x1' a1 m1 c1 (putL km 1)) := hO1.toBs
  clear hO1
  refine callG 8 (some 11) 26 #[.tmp 10, .const (.int .i64 2)] #[50, 3] #[.int .u64 (pg : Int), .int .i64 2] rfl rfl rfl (by rfl) (by rfl) (by kernel_rfl) Try.call26 fun x2 hgx2 hsx2 => ?_
  refine (oPut (pg : Int) 2 x2 (by omega) (by omega) (by omega) (by omega)).mono ?_
  rintro e x2' ⟨a2, m2, c2, rfl, hO2, hbx2⟩
  refine ⟨_, rfl, Grows.trans hsx2 hbx2, ?_⟩
  simp only [Act.put, List.setIfInBounds_toArray, List.set_cons_zero, List.set_cons_succ]
  have H2 : Hid (Bs x2' a2 m2 c2 (putL pg 2)) := hO2.toBs
  clear hO2
  refine callG 12 (some 15) 26 #[.tmp 14, .const (.int .i64 8)] #[50, 3] #[.int .u64 (ep : Int), .int .i64 8] rfl rfl rfl (by rfl) (by rfl) (by kernel_rfl) Try.call26 fun x3 hgx3 hsx3 => ?_
  refine (oPut (ep : Int) 8 x3 (by omega) (by omega) (by omega) (by omega)).mono ?_
  rintro e x3' ⟨a3, m3, c3, rfl, hO3, hbx3⟩
  refine ⟨_, rfl, Grows.trans hsx3 hbx3, ?_⟩
  simp only [Act.put, List.setIfInBounds_toArray, List.set_cons_zero, List.set_cons_succ]
  have H3 : Hid (Bs x3' a3 m3 c3 (putL ep 8)) := hO3.toBs
  clear hO3
  refine oneG 15 (by kernel_rfl) fun w2 hg2 hs2 => ?_
  refine opBS4 (some 18) rfl rfl rfl (.tmp 7) (.tmp 11) (.tmp 15) (.tmp 17) rfl rfl rfl rfl rfl ⟨Grows.trans hs2 (below_alloc _ _), ?_⟩
  simp only [Act.put, List.setIfInBounds_toArray, List.set_cons_zero, List.set_cons_succ]
  have B4 : Bss (w2.alloc (.cells #[.slice a1 m1 c1, .slice a2 m2 c2, .slice a3 m3 c3, .slice kp km kc] 26)) (some ⟨w2.heap.size, 0, none⟩) 4 4 [putL km 1, putL pg 2, putL ep 8, x.key] := bss4 (H1.out.below (Grows.trans hgx2 (Grows.trans hbx2 (Grows.trans hgx3 (Grows.trans hbx3 hg2)))) (Nat.le_refl _)) (H2.out.below (Grows.trans hgx3 (Grows.trans hbx3 hg2)) (Nat.le_refl _)) (H3.out.below hg2 (Nat.le_refl _)) (YK w2 hs2)
  have kJ : Below w2.heap.size w2 (w2.alloc (.cells #[.slice a1 m1 c1, .slice a2 m2 c2, .slice a3 m3 c3, .slice kp km kc] 26)) := below_alloc _ _
  refine callG 16 (some 19) 25 #[.tmp 18] #[92] #[.slice (some ⟨w2.heap.size, 0, none⟩) 4 4] rfl rfl rfl (by rfl) (by rfl) (by kernel_rfl) Try.call25 fun u1 hg1 hs1 => ?_
  refine (oJoin u1 (B4.below hg1 (Nat.le_refl _)) (by simp only [tot, putL_length]; omega)).mono ?_
  rintro e u2 ⟨a, m, c, rfl, hO, hb⟩
  refine ⟨_, rfl, Grows.trans hs1 hb, ?_⟩
  simp only [Act.put, List.setIfInBounds_toArray, List.set_cons_zero, List.set_cons_succ]
  refine takeG 17 (some 2) (.slice a m c) rfl rfl (by kernel_rfl) (by kernel_rfl) (by kernel_rfl) (fun _ _ _ h => h) (ans_plain (by rfl) (fun w _ => rfl)) ?_
  simp only [Act.put, List.setIfInBounds_toArray, List.set_cons_zero, List.set_cons_succ]
  refine doneG (by kernel_rfl) fun v6 hg_v6 hs_v6 => ?_
  have k7 : Below w.heap.size w u1 := kW.trans (Below.mono hs1 kW.size)
  have HO : Hid (Own v6 w.heap.size (.slice a m c) (putL km 1 ++ putL pg 2 ++ putL ep 8 ++ x.key)) := by show Own _ _ _ _; rw [show putL km 1 ++ putL pg 2 ++ putL ep 8 ++ x.key = [putL km 1, putL pg 2, putL ep 8, x.key].flatten from by simp]; exact (hO.mono k7.size).below hg_v6 (Nat.le_refl _)
  have k8 : Below w.heap.size w v6 := kW.trans (Below.mono hs_v6 kW.size)
  clear hO hb hs1 hg1 B4 kJ hs2 hg2 H1 H2 H3
  go_wp2_with fail
  go_ret
  exact ⟨a, m, c, rfl, HO.out, k8⟩

end Go.Proofs.Ytnmmopneacdgfaa

/-
  Contracts of layer 18's program: the bytes of all pairs, of all kids. Condition: at most a hundred thousand bytes in all.
-/
namespace Go.Proofs.Ytnmmopneacdgfaa
open Go.RowKit
set_option linter.unusedVariables false
/-- Parts of the call's own as parts. -/
theorem OwB.bss {A : Nat → Prop} {e : TypeId} {w : World} {base : Nat} {a : Option Addr} {n c : Nat} {ls : List (List UInt8)} (h : OwS (elB A) 1 e w base (.slice a n c) ls) : Bss w a n c ls := by
  have h3 := h.sl3 (A := fun _ => True) (fun _ _ _ => trivial)
  refine ⟨Sl.len h3, (Sl.cap h3).1, (Sl.cap h3).2, fun i hi => ?_⟩
  have hl := Sl.len h3
  obtain ⟨b, o, vs, ha, hlt, hrg, hv, p, m, q, rfl, hb⟩ := Sl.at h3 (i := i) (x := ls.getD i []) (by rw [List.getD_eq_getElem?_getD, List.getElem?_eq_getElem (by omega)]; rfl)
  exact ⟨b, o, p, m, q, ha, by have := hrg 0 _ rfl; rwa [Nat.add_zero, Nat.mul_one] at this, hb.1⟩
theorem tot_map {α : Type} {f : α → List UInt8} {g : α → Nat} (h : ∀ x, (f x).length = g x) (l : List α) : tot (l.map f) = totL g l := by
  rw [← tot_flatten]
  exact flatL_len h l
theorem map_snoc {α β : Type} (f : α → β) {l : List α} {k : Nat} {x : α} (h : l[k]? = some x) : (l.take (k + 1)).map f = (l.take k).map f ++ [f x] := by
  rw [List.take_add_one, h, List.map_append]
  rfl
set_option maxRecDepth 100000 in
set_option maxHeartbeats 4000000 in
theorem oJndP (w : World) {A : Nat → Prop} {a : Option Addr} {n c : Nat} {l : List PairS} (h : SlP A w a n c l) (hs : ∀ x ∈ l, x.key.length ≤ 1000 ∧ x.value.length ≤ 1000) (hn : n ≤ 100000) (hz : totL psz l ≤ 100000) : Calls Try.prog 28 #[.slice a n c, .func (.func 29) #[] #[]] w (Gives w (flatL pairL l)) := by
  have hln : l.length = n := h.len
  have HS : Hid (SlP A w a n c l) := h
  have CF : Hid (∀ (u : World) k x vs, l[k]? = some x → elPr A u x vs → Calls Try.prog 29 #[.agg vs.toArray] u (Gives u (pairL x))) := fun u k x vs hx hv => oBtP u hv (hs x (List.mem_of_getElem? hx))
  have HZ : Hid (tot (l.map pairL) ≤ 100000) := by show _ ≤ _; rw [tot_map pairL_len]; exact hz
  have HF : Hid (flatL pairL l = (l.map pairL).flatten) := rfl
  generalize flatL pairL l = FL at *
  clear h hs hz
  go_enter Try.func28, Try.ntmps28
  go_wp2_with fail
  go_loopw [5, 10] (fun s i wr => ∃ k : Nat, k ≤ n ∧ i = .int .i64 (k : Int) ∧ (∃ pa pm pc, s = .slice pa pm pc ∧ Hid (OwS (elB fun j => w.heap.size ≤ j) 1 26 wr w.heap.size (.slice pa pm pc) ((l.take k).map pairL))) ∧ Below w.heap.size w wr) (fun _ i _ => n - (intOf i).toNat)
  case atStart => exact ⟨0, Nat.zero_le _, rfl, ⟨none, 0, 0, rfl, OwS.nil _ _ _ _ _⟩, Below.refl _ _⟩
  case round =>
    obtain ⟨k, hk, rfl, ⟨pa, pm, pc, rfl, HO⟩, hb⟩ := hrel
    by_cases hlt : k < n
    · have i0 : (k : Int) < (n : Int) := by omega
      obtain ⟨x, hx⟩ : ∃ x, l[k]? = some x := ⟨_, List.getElem?_eq_getElem (by omega)⟩
      have hT := map_snoc pairL hx
      obtain ⟨b, o, vs, ea, hlb, hrg, hvl, hel⟩ := HS.out.at hb hx
      obtain ⟨g, hg⟩ : ∃ g, g = wr.heap.size := ⟨_, rfl⟩
      have hel0 := hel
      obtain ⟨kp, km, kc, vp, vm, vc, rfl, hB1, hB2⟩ := hel
      have z9 : Blk (wr.alloc (.cells #[.slice none 0 0, .slice none 0 0] 44)) g [.slice none 0 0, .slice none 0 0] 44 := Blk.newAt wr _ _ g hg.symm _ rfl
      have k9 : Below w.heap.size w (wr.alloc (.cells #[.slice none 0 0, .slice none 0 0] 44)) := hb.alloc hb.size _
      have k8 : Below wr.heap.size wr (wr.alloc (.cells #[.slice none 0 0, .slice none 0 0] 44)) := below_alloc _ _
      subst ea
      have hK : Hid (∀ u, Below wr.heap.size wr u → Calls Try.prog 29 #[.agg (List.toArray [.slice kp km kc, .slice vp vm vc])] u (Gives u (pairL x))) := fun u hu => CF.out u k x _ hx (elPr.below hu x _ (hel0))
      have hlk : ((l.take k).map pairL).length = k := by simp; omega
      generalize pairL x = bx at *
      generalize (l.take k).map pairL = L0 at *
      clear hel0
      go_wp2_with (first | ((with_reducible refine at_ld 44 ?_); (first | (refine ld 44 (.tmp 12) 2 sizePr _ Try.underlying44 rfl b (o + k * 2) [.slice kp km kc, .slice vp vm vc] rfl hrg rfl ?_) | (refine ld 44 (.tmp 7) 2 sizePr _ Try.underlying44 rfl wr.heap.size 0 [.slice kp km kc, .slice vp vm vc] rfl (by rw [← hg]; exact b5.whole) rfl ?_))) | ((with_reducible refine at_st 44 ?_); (refine st' 44 (.tmp 7) (.tmp 13) 2 sizePr wr.heap.size 0 [.slice kp km kc, .slice vp vm vc] rfl (by intro u hu; simp only [List.mem_cons, List.not_mem_nil, or_false] at hu; rcases hu with rfl | rfl <;> rfl) (by rw [← hg]; exact z9.there 0 2 (by simp)) rfl rfl ?_); intro v5 hv5; have b5 : Blk v5 g [.slice kp km kc, .slice vp vm vc] 44 := (by rw [hv5, ← hg]; exact z9.setsW _ rfl); have k5 : Below w.heap.size w v5 := (by rw [hv5]; exact below_sets hb.size _ k9 0); have k6 : Below wr.heap.size wr v5 := (by rw [hv5]; exact below_sets (Nat.le_refl _) _ k8 0); clear hv5))
      refine (hK.out v5 k6).mono ?_
      rintro e v6 ⟨a6, m6, c6, rfl, hO6, hb6⟩
      have k7 : Below w.heap.size w v6 := k5.trans (hb6.mono k5.size)
      have k8 : Below wr.heap.size wr v6 := k6.trans (hb6.mono k6.size)
      have k10 : Below w.heap.size w (v6.alloc (.cells #[.slice a6 m6 c6] 26)) := k7.alloc k7.size _
      have HO6 : Hid (OwS (elB fun j => w.heap.size ≤ j) 1 26 (v6.alloc (.cells #[.slice a6 m6 c6] 26)) w.heap.size (.slice pa pm pc) L0) := OwB.below (OwB.below HO.out k8) (below_alloc _ _)
      have B6 : B5 (fun j => w.heap.size ≤ j) v6 a6 m6 c6 bx := hO6.b5 (fun j hj _ => Nat.le_trans k5.size hj)
      have S6 : Hid (Sl (elB fun j => w.heap.size ≤ j) 1 (fun j => w.heap.size ≤ j) (v6.alloc (.cells #[.slice a6 m6 c6] 26)) (some ⟨v6.heap.size, 0, none⟩) 1 1 [bx]) := Sl.one (Blk.newAt v6 _ _ v6.heap.size rfl _ rfl) ⟨rfl, one_one, a6, m6, c6, rfl, B6.below (below_alloc _ _)⟩ k7.size
      have z6 : w.heap.size ≤ (v6.alloc (.cells #[.slice a6 m6 c6] 26)).heap.size := k10.size
      clear hK hb6 k5 k6 k8 b5 z9 k9 hrg hb HO B6 hO6
      go_wp2_with (at_builtin; go_loud (refine wpList_slapp (elB fun j => w.heap.size ≤ j) 1 24 92 26 _ Try.underlying92 infoBy rfl (by decide) (by decide) (v6.alloc (.cells #[.slice a6 m6 c6] 26)) rfl (.tmp 14) (.tmp 18) rfl w.heap.size (.slice pa pm pc) L0 rfl HO6.out (fun j => w.heap.size ≤ j) (some ⟨v6.heap.size, 0, none⟩) 1 1 [bx] rfl S6.out (by rw [hlk]; simp; omega) z6 (fun w' y vs hg hy => elB.grown hg (fun j cur f hj => OwS.not5 HO6.out neB5 j cur f hj) y vs hy) ?_; intro v1 w1 o1 b1; obtain ⟨a1, m1, c1, rfl, hm1⟩ := o1.shape; have kk : Below w.heap.size w w1 := k10.grown b1 z6 (fun j hj => (OwS.lt HO6.out j hj).1); have OO : Hid (OwS (elB fun j => w.heap.size ≤ j) 1 26 w1 w.heap.size (.slice a1 m1 c1) (L0 ++ [bx])) := o1; clear o1 b1))
      go_roundw
      case rel => exact ⟨k + 1, by omega, by go_num, ⟨a1, m1, c1, rfl, by rw [hT]; exact OO⟩, kk⟩
      case measure => simp [intOf]; omega
    · have i0 : ¬ (k : Int) < (n : Int) := by omega
      rw [List.take_of_length_le (by omega)] at HO
      have HB : Hid (Bss wr pa pm pc (l.map pairL)) := OwB.bss HO.out
      clear HO
      go_wp2_with fail
      refine (oJoin wr HB.out HZ.out).mono ?_
      rintro e w9 ⟨a9, m9, c9, rfl, hO9, hb9⟩
      rw [← HF.out] at hO9
      have HO9 : Hid (Own w9 w.heap.size (.slice a9 m9 c9) FL) := hO9.mono hb.size
      have k9 : Below w.heap.size w w9 := hb.trans (hb9.mono hb.size)
      clear hO9 hb9
      go_wp2_with fail
      go_ret
      exact ⟨a9, m9, c9, rfl, HO9.out, k9⟩
set_option maxRecDepth 100000 in
set_option maxHeartbeats 4000000 in
theorem oJndK (w : World) {A : Nat → Prop} {a : Option Addr} {n c : Nat} {l : List KidS} (h : SlD A w a n c l) (hs : ∀ x ∈ l, x.key.length ≤ 1000 ∧ 0 ≤ x.page ∧ 0 ≤ x.epoch) (hn : n ≤ 100000) (hz : totL ksz l ≤ 100000) : Calls Try.prog 30 #[.slice a n c, .func (.func 31) #[] #[]] w (Gives w (flatL kidL l)) := by
  have hln : l.length = n := h.len
  have HS : Hid (SlD A w a n c l) := h
  have CF : Hid (∀ (u : World) k x vs, l[k]? = some x → elKd A u x vs → Calls Try.prog 31 #[.agg vs.toArray] u (Gives u (kidL x))) := fun u k x vs hx hv => oBtK u hv (hs x (List.mem_of_getElem? hx)).1 (hs x (List.mem_of_getElem? hx)).2.1 (hs x (List.mem_of_getElem? hx)).2.2
  have HZ : Hid (tot (l.map kidL) ≤ 100000) := by show _ ≤ _; rw [tot_map kidL_len]; exact hz
  have HF : Hid (flatL kidL l = (l.map kidL).flatten) := rfl
  generalize flatL kidL l = FL at *
  clear h hs hz
  go_enter Try.func30, Try.ntmps30
  go_wp2_with fail
  go_loopw [5, 10] (fun s i wr => ∃ k : Nat, k ≤ n ∧ i = .int .i64 (k : Int) ∧ (∃ pa pm pc, s = .slice pa pm pc ∧ Hid (OwS (elB fun j => w.heap.size ≤ j) 1 26 wr w.heap.size (.slice pa pm pc) ((l.take k).map kidL))) ∧ Below w.heap.size w wr) (fun _ i _ => n - (intOf i).toNat)
  case atStart => exact ⟨0, Nat.zero_le _, rfl, ⟨none, 0, 0, rfl, OwS.nil _ _ _ _ _⟩, Below.refl _ _⟩
  case round =>
    obtain ⟨k, hk, rfl, ⟨pa, pm, pc, rfl, HO⟩, hb⟩ := hrel
    by_cases hlt : k < n
    · have i0 : (k : Int) < (n : Int) := by omega
      obtain ⟨x, hx⟩ : ∃ x, l[k]? = some x := ⟨_, List.getElem?_eq_getElem (by omega)⟩
      have hT := map_snoc kidL hx
      obtain ⟨b, o, vs, ea, hlb, hrg, hvl, hel⟩ := HS.out.at hb hx
      obtain ⟨g, hg⟩ : ∃ g, g = wr.heap.size := ⟨_, rfl⟩
      have hel0 := hel
      obtain ⟨kp, km, kc, rfl, hB1, hp6, he6⟩ := hel
      have z9 : Blk (wr.alloc (.cells #[.slice none 0 0, .int .i64 0, .int .i64 0] 46)) g [.slice none 0 0, .int .i64 0, .int .i64 0] 46 := Blk.newAt wr _ _ g hg.symm _ rfl
      have k9 : Below w.heap.size w (wr.alloc (.cells #[.slice none 0 0, .int .i64 0, .int .i64 0] 46)) := hb.alloc hb.size _
      have k8 : Below wr.heap.size wr (wr.alloc (.cells #[.slice none 0 0, .int .i64 0, .int .i64 0] 46)) := below_alloc _ _
      subst ea
      have hK : Hid (∀ u, Below wr.heap.size wr u → Calls Try.prog 31 #[.agg (List.toArray [.slice kp km kc, .int .i64 x.page, .int .i64 x.epoch])] u (Gives u (kidL x))) := fun u hu => CF.out u k x _ hx (elKd.below hu x _ (hel0))
      have hlk : ((l.take k).map kidL).length = k := by simp; omega
      generalize kidL x = bx at *
      generalize (l.take k).map kidL = L0 at *
      clear hel0
      go_wp2_with (first | ((with_reducible refine at_ld 46 ?_); (first | (refine ld 46 (.tmp 12) 3 sizeKd _ Try.underlying46 rfl b (o + k * 3) [.slice kp km kc, .int .i64 x.page, .int .i64 x.epoch] rfl hrg rfl ?_) | (refine ld 46 (.tmp 7) 3 sizeKd _ Try.underlying46 rfl wr.heap.size 0 [.slice kp km kc, .int .i64 x.page, .int .i64 x.epoch] rfl (by rw [← hg]; exact b5.whole) rfl ?_))) | ((with_reducible refine at_st 46 ?_); (refine st' 46 (.tmp 7) (.tmp 13) 3 sizeKd wr.heap.size 0 [.slice kp km kc, .int .i64 x.page, .int .i64 x.epoch] rfl (by intro u hu; simp only [List.mem_cons, List.not_mem_nil, or_false] at hu; rcases hu with rfl | rfl | rfl <;> rfl) (by rw [← hg]; exact z9.there 0 3 (by simp)) rfl rfl ?_); intro v5 hv5; have b5 : Blk v5 g [.slice kp km kc, .int .i64 x.page, .int .i64 x.epoch] 46 := (by rw [hv5, ← hg]; exact z9.setsW _ rfl); have k5 : Below w.heap.size w v5 := (by rw [hv5]; exact below_sets hb.size _ k9 0); have k6 : Below wr.heap.size wr v5 := (by rw [hv5]; exact below_sets (Nat.le_refl _) _ k8 0); clear hv5))
      refine (hK.out v5 k6).mono ?_
      rintro e v6 ⟨a6, m6, c6, rfl, hO6, hb6⟩
      have k7 : Below w.heap.size w v6 := k5.trans (hb6.mono k5.size)
      have k8 : Below wr.heap.size wr v6 := k6.trans (hb6.mono k6.size)
      have k10 : Below w.heap.size w (v6.alloc (.cells #[.slice a6 m6 c6] 26)) := k7.alloc k7.size _
      have HO6 : Hid (OwS (elB fun j => w.heap.size ≤ j) 1 26 (v6.alloc (.cells #[.slice a6 m6 c6] 26)) w.heap.size (.slice pa pm pc) L0) := OwB.below (OwB.below HO.out k8) (below_alloc _ _)
      have B6 : B5 (fun j => w.heap.size ≤ j) v6 a6 m6 c6 bx := hO6.b5 (fun j hj _ => Nat.le_trans k5.size hj)
      have S6 : Hid (Sl (elB fun j => w.heap.size ≤ j) 1 (fun j => w.heap.size ≤ j) (v6.alloc (.cells #[.slice a6 m6 c6] 26)) (some ⟨v6.heap.size, 0, none⟩) 1 1 [bx]) := Sl.one (Blk.newAt v6 _ _ v6.heap.size rfl _ rfl) ⟨rfl, one_one, a6, m6, c6, rfl, B6.below (below_alloc _ _)⟩ k7.size
      have z6 : w.heap.size ≤ (v6.alloc (.cells #[.slice a6 m6 c6] 26)).heap.size := k10.size
      clear hK hb6 k5 k6 k8 b5 z9 k9 hrg hb HO B6 hO6
      go_wp2_with (at_builtin; go_loud (refine wpList_slapp (elB fun j => w.heap.size ≤ j) 1 24 92 26 _ Try.underlying92 infoBy rfl (by decide) (by decide) (v6.alloc (.cells #[.slice a6 m6 c6] 26)) rfl (.tmp 14) (.tmp 18) rfl w.heap.size (.slice pa pm pc) L0 rfl HO6.out (fun j => w.heap.size ≤ j) (some ⟨v6.heap.size, 0, none⟩) 1 1 [bx] rfl S6.out (by rw [hlk]; simp; omega) z6 (fun w' y vs hg hy => elB.grown hg (fun j cur f hj => OwS.not5 HO6.out neB5 j cur f hj) y vs hy) ?_; intro v1 w1 o1 b1; obtain ⟨a1, m1, c1, rfl, hm1⟩ := o1.shape; have kk : Below w.heap.size w w1 := k10.grown b1 z6 (fun j hj => (OwS.lt HO6.out j hj).1); have OO : Hid (OwS (elB fun j => w.heap.size ≤ j) 1 26 w1 w.heap.size (.slice a1 m1 c1) (L0 ++ [bx])) := o1; clear o1 b1))
      go_roundw
      case rel => exact ⟨k + 1, by omega, by go_num, ⟨a1, m1, c1, rfl, by rw [hT]; exact OO⟩, kk⟩
      case measure => simp [intOf]; omega
    · have i0 : ¬ (k : Int) < (n : Int) := by omega
      rw [List.take_of_length_le (by omega)] at HO
      have HB : Hid (Bss wr pa pm pc (l.map kidL)) := OwB.bss HO.out
      clear HO
      go_wp2_with fail
      refine (oJoin wr HB.out HZ.out).mono ?_
      rintro e w9 ⟨a9, m9, c9, rfl, hO9, hb9⟩
      rw [← HF.out] at hO9
      have HO9 : Hid (Own w9 w.heap.size (.slice a9 m9 c9) FL) := hO9.mono hb.size
      have k9 : Below w.heap.size w w9 := hb.trans (hb9.mono hb.size)
      clear hO9 hb9
      go_wp2_with fail
      go_ret
      exact ⟨a9, m9, c9, rfl, HO9.out, k9⟩

end Go.Proofs.Ytnmmopneacdgfaa
