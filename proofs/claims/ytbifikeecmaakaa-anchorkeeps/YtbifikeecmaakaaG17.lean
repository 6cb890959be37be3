/-
  3 texts in one. No statement of the seat is proved here.
-/
import Derived.Test.YtbifikeecmaakaaG16

/-
  'make' of bytes and of bools in a region that draws its order. No condition; no statement of the seat is proved here.
-/
namespace Go.Proofs.Ytbifikeecmaakaa
open Go.RowKit

end Go.Proofs.Ytbifikeecmaakaa

/-
  Two operations of a region that draws its order, each of which answers new memory: whichever comes first. No condition; no statement of the seat is proved here.
-/
namespace Go.Proofs.Ytbifikeecmaakaa
open Go.RowKit

/-- The operation leaves a value and a world of which A holds, and the world has only grown. -/
def Mk (P : Program) (ops : Array Oper) (Q : Exit → Act → World → Prop) (S : World → Prop) (i : Nat) (d : Tmp) (A : Value → World → Prop) (a : Act) : Prop :=
  ∀ (K : Act → World → Prop) (w : World), S w → (∀ v w', A v w' → Grows w w' → S w' → K (a.put (some d) v) w') → wpOp P ops Q i K a w
theorem both2 {P : Program} {ops : Array Oper} {Q : Exit → Act → World → Prop} {md : Region.Mode} {S : World → Prop} (i j : Nat) (d e : Tmp) (A B : Value → World → Prop) (hij : i ≠ j) (hde : d ≠ e)
    (sA : ∀ v w w', A v w → Grows w w' → A v w') (sB : ∀ v w w', B v w → Grows w w' → B v w') {fuel : Nat} {listed : Array Bool} {a : Act} {w : World} (mi : Mk P ops Q S i d A a) (mi' : ∀ v, Mk P ops Q S i d A (a.put (some e) v)) (mj : Mk P ops Q S j e B a) (mj' : ∀ v, Mk P ops Q S j e B (a.put (some d) v))
    (hr : Region.ready md ops listed = [i, j]) (hi : Region.ready md ops (listed.setIfInBounds i true) = [j]) (hj : Region.ready md ops (listed.setIfInBounds j true) = [i])
    (h : ∀ u v w', A u w' → B v w' → Grows w w' → S w' → wpAnyG P md ops Q S fuel ((listed.setIfInBounds i true).setIfInBounds j true) ((a.put (some d) u).put (some e) v) w') : wpAnyG P md ops Q S (fuel + 1 + 1) listed a w := by
  intro w' hg hs
  refine ⟨fun h0 => (by rw [h0] at hr; cases hr), fun x hx => ?_⟩
  rw [hr] at hx
  rcases List.mem_cons.1 hx with rfl | hx
  · refine mi _ _ hs fun u w1 hA h1 hs1 => ⟨hs1, oneG j hi fun w2 h2 hs2 => ?_⟩
    exact mj' u _ _ hs2 fun v w3 hB h3 hs3 => ⟨hs3, h u v w3 (sA _ _ _ (sA _ _ _ hA h2) h3) hB (hg.trans (h1.trans (h2.trans h3))) hs3⟩
  · rw [List.mem_singleton.1 hx]
    refine mj _ _ hs fun v w1 hB h1 hs1 => ⟨hs1, oneG i hj fun w2 h2 hs2 => ?_⟩
    refine mi' v _ _ hs2 fun u w3 hA h3 hs3 => ⟨hs3, ?_⟩
    have := h u v w3 hA (sB _ _ _ (sB _ _ _ hB h2) h3) (hg.trans (h1.trans (h2.trans h3))) hs3
    rw [Array.setIfInBounds_comm _ _ hij, Act.put_comm a _ _ (fun z hz he => by cases hz; cases he; exact hde rfl)] at this
    exact this
/-- 'make([]byte, n)' so. -/
theorem mkBytes {ops : Array Oper} {Q : Exit → Act → World → Prop} {W : World} (i : Nat) (d : Tmp) (n : Nat) {oi : Oper} {a : Act} (hi : ops[i]? = some oi) (hd : oi.dst = some d) (hg : oi.guard = none) (ho : oi.op = Op.makeSlice 22 (.const (.int .i64 (n : Int))) (.const (.int .i64 (n : Int)))) (hz : n ≤ 2147483647) :
    Mk Try.prog ops Q (Grows W) i d (fun v w => ∃ p, v = .slice p n n ∧ Bs w p n n (List.replicate n 0)) a := by
  intro K w hs k
  refine opMk8 (some d) hi hd hg _ _ ho n rfl rfl hz fun w' hO hG => ?_
  exact k _ w' ⟨_, rfl, hO.toBs⟩ hG (Grows.trans hs hG)
/-- A call so. -/
theorem mkCall {ops : Array Oper} {Q : Exit → Act → World → Prop} {W : World} (i : Nat) (d : Tmp) (f : FuncId) (args : Array Operand) (tys : Array TypeId) (vs : Array Value) (A : Value → World → Prop) {oi : Oper} {a : Act} (hi : ops[i]? = some oi) (hd : oi.dst = some d) (ho : oi.op = .call { callee := .value (.func f), args := args, argTypes := tys }) (hw : Region.wanted oi (yielded ops a.tmps) = true) (hv : (args.toList.map a.eval).toArray = vs) (hc : ∀ vs w, (callFunc f vs).run Try.prog w = .ok (.enter f vs) w)
    (h : ∀ w, Grows W w → Calls Try.prog f vs w fun e w' => ∃ v, e = .returned v ∧ A v w' ∧ Below w.heap.size w w') : Mk Try.prog ops Q (Grows W) i d A a := by
  intro K w hs k
  have hv' : args.map a.eval = vs := by rw [← hv]; apply Array.toList_inj.1; rw [Array.toList_map]
  subst hv'
  unfold wpOp
  simp only [hi]
  rw [if_pos hw]
  left
  unfold Oper.wp
  have hx : (execOp a.eval oi).run Try.prog w = .ok (.enter f (args.map a.eval)) w := by simp [execOp, ho, resolve, invoke, Act.eval, Deferred.ofValue, hc]
  rw [hx, Oper.upon_enter]
  refine (h w hs).mono ?_
  rintro e w'' ⟨v, rfl, hA, hb⟩
  rw [hd]
  exact k v w'' hA hb (Grows.trans hs hb)

end Go.Proofs.Ytbifikeecmaakaa

/-
  Regions that draw their order and end in a store into what they read ('x = f(x)'): as in Grow, but what is kept between the operations need not outlast the store. No condition; no statement of the seat is proved here.
-/
namespace Go.Proofs.Ytbifikeecmaakaa
open Go.RowKit

/-- Two operations that answer new memory, whichever comes first. -/
theorem both2E {P : Program} {ops : Array Oper} {Q : Exit → Act → World → Prop} {md : Region.Mode} {S : World → Prop} {x : Nat} (i j : Nat) (d e : Tmp) (A B : Value → World → Prop) (hij : i ≠ j) (hde : d ≠ e)
    (sA : ∀ v w w', A v w → Grows w w' → A v w') (sB : ∀ v w w', B v w → Grows w w' → B v w') {fuel : Nat} {listed : Array Bool} {a : Act} {w : World} (mi : Mk P ops Q S i d A a) (mi' : ∀ v, Mk P ops Q S i d A (a.put (some e) v)) (mj : Mk P ops Q S j e B a) (mj' : ∀ v, Mk P ops Q S j e B (a.put (some d) v))
    (hr : Region.ready md ops listed = [i, j]) (hi : Region.ready md ops (listed.setIfInBounds i true) = [j]) (hj : Region.ready md ops (listed.setIfInBounds j true) = [i])
    (h0 : listed.getD x true = false) (h1 : (listed.setIfInBounds i true).getD x true = false) (h2 : (listed.setIfInBounds j true).getD x true = false)
    (h : ∀ u v w', A u w' → B v w' → Grows w w' → S w' → wpAnyE P md ops Q S x fuel ((listed.setIfInBounds i true).setIfInBounds j true) ((a.put (some d) u).put (some e) v) w') : wpAnyE P md ops Q S x (fuel + 1 + 1) listed a w := by
  intro w' hg hs
  refine ⟨fun h0 => (by rw [h0] at hr; cases hr), fun y hy => ?_⟩
  rw [hr] at hy
  rcases List.mem_cons.1 hy with rfl | hy
  · refine mi _ _ (hs.got h0) fun u w1 hA g1 hs1 => ⟨Or.inr hs1, oneE j hi h1 fun w2 g2 hs2 => ?_⟩
    exact mj' u _ _ hs2 fun v w3 hB g3 hs3 => ⟨hs3, h u v w3 (sA _ _ _ (sA _ _ _ hA g2) g3) hB (hg.trans (g1.trans (g2.trans g3))) hs3⟩
  · rw [List.mem_singleton.1 hy]
    refine mj _ _ (hs.got h0) fun v w1 hB g1 hs1 => ⟨Or.inr hs1, oneE i hj h2 fun w2 g2 hs2 => ?_⟩
    refine mi' v _ _ hs2 fun u w3 hA g3 hs3 => ⟨hs3, ?_⟩
    have := h u v w3 hA (sB _ _ _ (sB _ _ _ hB g2) g3) (hg.trans (g1.trans (g2.trans g3))) hs3
    rw [Array.setIfInBounds_comm _ _ hij, Act.put_comm a _ _ (fun z hz he => by cases hz; cases he; exact hde rfl)] at this
    exact this

end Go.Proofs.Ytbifikeecmaakaa
