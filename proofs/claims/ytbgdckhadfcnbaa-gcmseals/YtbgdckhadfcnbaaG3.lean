/-
  8 texts in one. No statement of the seat is proved here.
-/
import Derived.Test.YtbgdckhadfcnbaaG2
import Derived.Deep.DeepCutAuto
import Derived.Deep.RegionHeld3
/-
  Two operations of a region that draws its order, each of which answers new memory: whichever comes first. No condition; no statement of the seat is proved here.
-/
namespace Go.Proofs.Ytbgdckhadfcnbaa
open Go.RowKit

/-- The operation leaves a value and a world of which A holds, and the world has only grown. -/
def Mk (P : Program) (ops : Array Oper) (Q : Exit → Act → World → Prop) (S : World → Prop) (i : Nat) (d : Tmp) (A : Value → World → Prop) (a : Act) : Prop :=
  ∀ (K : Act → World → Prop) (w : World), S w → (∀ v w', A v w' → Grows w w' → S w' → K (a.put (some d) v) w') → wpOp P ops Q i K a w
theorem both2 {P : Program} {ops : Array Oper} {Q : Exit → Act → World → Prop} {md : Region.Mode} {S : World → Prop} (i j : Nat) (d e : Tmp) (A B : Value → World → Prop) (hij : i ≠ j) (hde : d ≠ e)
    (sA : ∀ v w w', A v w → Grows w w' → A v w') (sB : ∀ v w w', B v w → Grows w w' → B v w') {fuel : Nat} {listed : Array Bool} {a : Act} {w : World} (mi : Mk P ops Q S i d A a) (mi' : ∀ v, Mk P ops Q S i d A (a.put (some e) v)) (mj : Mk P ops Q S j e B a) (mj' : ∀ v, Mk P ops Q S j e B (a.put (some d) v))
    (hr : Region.ready md ops listed = [i, j]) (hi : Region.ready md ops (listed.setIfInBounds i true) = [j]) (hj : Region.ready md ops (listed.setIfInBounds j true) = [i])
    (h : ∀ u v w', A u w' → B v w' → Grows w w' → S w' → wpAnyG P md ops Q S fuel ((listed.setIfInBounds i true).setIfInBounds j true) ((a.put (some d) u).put (some e) v) w') : wpAnyG P md ops Q S (fuel + 1 + 1) listed a w := by
  intro w' hg hs
  refine ⟨fun h0 => (by rw [h0] at hr; cases hr), fun x hx => ?_⟩
  rw [hr] at hx
  rcases List.mem_cons.1 hx with rfl | hx
  · refine mi _ _ hs fun u w1 hA h1 hs1 => ⟨hs1, oneG j hi fun w2 h2 hs2 => ?_⟩
    exact mj' u _ _ hs2 fun v w3 hB h3 hs3 => ⟨hs3, h u v w3 (sA _ _ _ (sA _ _ _ hA h2) h3) hB (hg.trans (h1.trans (h2.trans h3))) hs3⟩
  · rw [List.mem_singleton.1 hx]
    refine mj _ _ hs fun v w1 hB h1 hs1 => ⟨hs1, oneG i hj fun w2 h2 hs2 => ?_⟩
    refine mi' v _ _ hs2 fun u w3 hA h3 hs3 => ⟨hs3, ?_⟩
    have := h u v w3 hA (sB _ _ _ (sB _ _ _ hB h2) h3) (hg.trans (h1.trans (h2.trans h3))) hs3
    rw [Array.setIfInBounds_comm _ _ hij, Act.put_comm a _ _ (fun z hz he => by cases hz; cases he; exact hde rfl)] at this
    exact this
/-- 'make([]byte, n)' so. -/
theorem mkBytes {ops : Array Oper} {Q : Exit → Act → World → Prop} {W : World} (i : Nat) (d : Tmp) (n : Nat) {oi : Oper} {a : Act} (hi : ops[i]? = some oi) (hd : oi.dst = some d) (hg : oi.guard = none) (ho : oi.op = Op.makeSlice 22 (.const (.int .i64 (n : Int))) (.const (.int .i64 (n : Int)))) (hz : n ≤ 2147483647) :
    Mk Try.prog ops Q (Grows W) i d (fun v w => ∃ p, v = .slice p n n ∧ Bs w p n n (List.replicate n 0)) a := by
  intro K w hs k
  refine opMk8 (some d) hi hd hg _ _ ho n rfl rfl hz fun w' hO hG => ?_
  exact k _ w' ⟨_, rfl, hO.toBs⟩ hG (Grows.trans hs hG)
/-- A call so. -/
theorem mkCall {ops : Array Oper} {Q : Exit → Act → World → Prop} {W : World} (i : Nat) (d : Tmp) (f : FuncId) (args : Array Operand) (tys : Array TypeId) (vs : Array Value) (A : Value → World → Prop) {oi : Oper} {a : Act} (hi : ops[i]? = some oi) (hd : oi.dst = some d) (ho : oi.op = .call { callee := .value (.func f), args := args, argTypes := tys }) (hw : Region.wanted oi (yielded ops a.tmps) = true) (hv : (args.toList.map a.eval).toArray = vs) (hc : ∀ vs w, (callFunc f vs).run Try.prog w = .ok (.enter f vs) w)
    (h : ∀ w, Grows W w → Calls Try.prog f vs w fun e w' => ∃ v, e = .returned v ∧ A v w' ∧ Below w.heap.size w w') : Mk Try.prog ops Q (Grows W) i d A a := by
  intro K w hs k
  have hv' : args.map a.eval = vs := by rw [← hv]; apply Array.toList_inj.1; rw [Array.toList_map]
  subst hv'
  unfold wpOp
  simp only [hi]
  rw [if_pos hw]
  left
  unfold Oper.wp
  have hx : (execOp a.eval oi).run Try.prog w = .ok (.enter f (args.map a.eval)) w := by simp [execOp, ho, resolve, invoke, Act.eval, Deferred.ofValue, hc]
  rw [hx, Oper.upon_enter]
  refine (h w hs).mono ?_
  rintro e w'' ⟨v, rfl, hA, hb⟩
  rw [hd]
  exact k v w'' hA hb (Grows.trans hs hb)

end Go.Proofs.Ytbgdckhadfcnbaa

/-
  Regions that draw their order and end in a store into what they read ('x = f(x)'): as in Grow, but what is kept between the operations need not outlast the store. No condition; no statement of the seat is proved here.
-/
namespace Go.Proofs.Ytbgdckhadfcnbaa
open Go.RowKit

/-- What is kept, as long as number e has not been done. -/
def okE (S : World → Prop) (e : Nat) (listed : Array Bool) (w : World) : Prop := listed.getD e true = true ∨ S w
theorem okE.got {S : World → Prop} {e : Nat} {listed : Array Bool} {w : World} (h : okE S e listed w) (he : listed.getD e true = false) : S w := by
  rcases h with h | h
  · rw [he] at h; cases h
  · exact h

/-- Whatever order is picked from here on, in whatever world has grown of this one. -/
def wpAnyE (P : Program) (md : Region.Mode) (ops : Array Oper) (Q : Exit → Act → World → Prop) (S : World → Prop) (e : Nat) : Nat → Array Bool → Act → World → Prop
  | 0, listed, a, w => Region.ready md ops listed = [] ∧ ∀ w', Grows w w' → okE S e listed w' → Q .normal a w'
  | fuel + 1, listed, a, w => ∀ w', Grows w w' → okE S e listed w' → (Region.ready md ops listed = [] → Q .normal a w') ∧
      ∀ i ∈ Region.ready md ops listed, wpOp P ops Q i (fun a' w'' => okE S e (listed.setIfInBounds i true) w'' ∧ wpAnyE P md ops Q S e fuel (listed.setIfInBounds i true) a' w'') a w'
theorem wpAnyE.grow {P : Program} {ops : Array Oper} {Q : Exit → Act → World → Prop} {md : Region.Mode} {S : World → Prop} {e : Nat} {fuel : Nat} {listed : Array Bool} {a : Act} {w w1 : World} (h : wpAnyE P md ops Q S e fuel listed a w) (hg : Grows w w1) : wpAnyE P md ops Q S e fuel listed a w1 := by
  cases fuel with
  | zero => exact ⟨h.1, fun w' hw hs => h.2 w' (hg.trans hw) hs⟩
  | succ fuel => exact fun w' hw hs => h w' (hg.trans hw) hs
theorem wpAnyE.any {P : Program} {ops : Array Oper} {Q : Exit → Act → World → Prop} {md : Region.Mode} {S : World → Prop} {e : Nat} : ∀ (fuel : Nat) (listed : Array Bool) (a : Act) (w : World), okE S e listed w → wpAnyE P md ops Q S e fuel listed a w → wpAny P md ops Q fuel listed a w
  | 0, _, _, w, hS, h => ⟨h.1, h.2 w (Grows.refl w) hS⟩
  | fuel + 1, _, _, w, hS, h => by
    obtain ⟨h1, h2⟩ := h w (Grows.refl w) hS
    exact ⟨h1, fun i hi => wpOp_mono (fun a' w' hh => wpAnyE.any fuel _ a' w' hh.1 hh.2) (h2 i hi)⟩

theorem firstE {P : Program} {ops : Array Oper} {Q : Exit → Act → World → Prop} {md : Region.Mode} {S : World → Prop} {e i : Nat} {oi : Oper} {v : Value} (hi : ops[i]? = some oi) (hsel : ∀ (j : Nat) (o : Oper) cs b, ops[j]? = some o → o.op ≠ .select cs b) (hQ : ∀ c a w, Q (.panic c) (a.put oi.dst v) w → Q (.panic c) a w) (hie : i ≠ e)
    (hdep : ∀ oe, ops[e]? = some oe → ∃ x ∈ oe.after, Region.binds md x = true ∧ x.on = i) :
    ∀ (fuel : Nat) (listed : Array Bool) (a : Act) (w : World), listed.getD e true = false →
      (∀ j oj, ops[j]? = some oj → j ≠ i → listed.getD j true = false → (∀ e ∈ oj.after, Region.binds md e = true → e.on ≠ i) → oi.apart ops oj = true) →
      i ∈ Region.ready md ops listed → Ans P ops S oi v a → wpAnyE P md ops Q S e fuel (listed.setIfInBounds i true) (a.put oi.dst v) w → wpAnyE P md ops Q S e (fuel + 1) listed a w := by
  intro fuel
  induction fuel with
  | zero =>
    intro listed a w he _ hr hy H w' hg hS
    refine ⟨fun h => (by rw [h] at hr; cases hr), fun j hj => ?_⟩
    by_cases c : j = i
    · rw [c]
      exact hy.op hi (hS.got he) fun w'' hg' hs => ⟨Or.inr hs, H.1, fun w3 h3 hs3 => H.2 w3 (hg.trans (hg'.trans h3)) hs3⟩
    · have := ready_mono hj c
      rw [H.1] at this
      cases this
  | succ fuel ih =>
    intro listed a w he hfree hr hy H w' hg hS
    refine ⟨fun h => (by rw [h] at hr; cases hr), fun j hj => ?_⟩
    by_cases c : j = i
    · rw [c]
      exact hy.op hi (hS.got he) fun w'' hg' hs => ⟨Or.inr hs, wpAnyE.grow H (hg.trans hg')⟩
    · obtain ⟨hun, oj, hoj, hall⟩ := mem_ready.1 hj
      have hno : ∀ e ∈ oj.after, Region.binds md e = true → e.on ≠ i := fun x hx hb hxi => by
        have h1 := hall x hx hb
        have h0 := (mem_ready.1 hr).1
        rw [hxi] at h1
        rcases Nat.lt_or_ge i listed.size with hl | hl
        · simp [hl] at h0 h1
          rw [h0] at h1
          cases h1
        · simp [Array.getElem?_eq_none hl] at h1
      have hje : j ≠ e := fun q => by
        subst q
        obtain ⟨x, hx, hb, hxi⟩ := hdep oj hoj
        exact hno x hx hb hxi
      have hei : (listed.setIfInBounds i true).getD e true = false := by rw [getD_set_ne true hie]; exact he
      have hej : (listed.setIfInBounds j true).getD e true = false := by rw [getD_set_ne true hje]; exact he
      have hk := other_first hoj (hfree j oj hoj c hun hno) (fun cs b => hsel i oi cs b hi) (fun cs b => hsel j oj cs b hoj) hQ ((H w' hg (Or.inr (hS.got he))).2 j (ready_mono hj c))
      refine wpOp_mono (fun a' w'' hh => ⟨Or.inr (hh.2.1.got (by rw [getD_set_ne true hje]; exact hei)), ih (listed.setIfInBounds j true) a' w'' hej ?_ (ready_mono hr (Ne.symm c)) (hy.same hh.1) ?_⟩) hk
      · intro k ok hk hki hun' hno'
        refine hfree k ok hk hki ?_ hno'
        by_cases hjk : j = k
        · rw [← hjk]; exact hun
        · rw [getD_set_ne true hjk] at hun'; exact hun'
      · rw [Array.setIfInBounds_comm _ _ c]
        exact hh.2.2

/-- Number e waits for number i. -/
def waits (md : Region.Mode) (ops : Array Oper) (e i : Nat) : Bool := (i != e) && (match ops[e]? with | some oe => oe.after.any (fun x => Region.binds md x && x.on == i) | none => false)
theorem waits_spec {md : Region.Mode} {ops : Array Oper} {e i : Nat} (h : waits md ops e i = true) : i ≠ e ∧ ∀ oe, ops[e]? = some oe → ∃ x ∈ oe.after, Region.binds md x = true ∧ x.on = i := by
  unfold waits at h
  rw [Bool.and_eq_true] at h
  refine ⟨by simpa using h.1, fun oe hoe => ?_⟩
  have h2 := h.2
  rw [hoe] at h2
  simp only [Array.any_eq_true'] at h2
  obtain ⟨x, hx, hb⟩ := h2
  rw [Bool.and_eq_true] at hb
  exact ⟨x, hx, hb.1, by simpa using hb.2⟩
/-- Take number i first. -/
theorem takeE {P : Program} {ops : Array Oper} {Q : Exit → Act → World → Prop} {md : Region.Mode} {S : World → Prop} {e : Nat} (i : Nat) (d : Option Tmp) (v : Value) {oi : Oper} {fuel : Nat} {listed : Array Bool} {a : Act} {w : World} (hi : ops[i]? = some oi) (hd : oi.dst = d)
    (hs : Region.noSelect ops = true) (hf : Region.free md ops listed i = true) (hr : (Region.ready md ops listed).contains i = true) (hwt : waits md ops e i = true) (he : listed.getD e true = false)
    (hQ : ∀ c a w, Q (.panic c) (a.put d v) w → Q (.panic c) a w) (hy : Ans P ops S oi v a)
    (h : wpAnyE P md ops Q S e fuel (listed.setIfInBounds i true) (a.put d v) w) : wpAnyE P md ops Q S e (fuel + 1) listed a w := by
  subst hd
  exact firstE hi (Region.noSelect_spec hs) hQ (waits_spec hwt).1 (waits_spec hwt).2 fuel listed a w he (Region.free_spec hi hf) (by simpa using hr) hy h
/-- The one that may come up, ahead of number e. -/
theorem oneE {P : Program} {ops : Array Oper} {Q : Exit → Act → World → Prop} {md : Region.Mode} {S : World → Prop} {e : Nat} (i : Nat) {fuel : Nat} {listed : Array Bool} {a : Act} {w : World} (hr : Region.ready md ops listed = [i]) (he : listed.getD e true = false)
    (h : ∀ w', Grows w w' → S w' → wpOp P ops Q i (fun a' w'' => S w'' ∧ wpAnyE P md ops Q S e fuel (listed.setIfInBounds i true) a' w'') a w') : wpAnyE P md ops Q S e (fuel + 1) listed a w :=
  fun w' hg hS => ⟨fun h0 => (by rw [h0] at hr; cases hr), fun j hj => by
    rw [hr] at hj
    rw [List.mem_singleton.1 hj]
    exact wpOp_mono (fun _ _ hh => ⟨Or.inr hh.1, hh.2⟩) (h w' hg (hS.got he))⟩
/-- Number e itself, the last one. -/
theorem lastE {P : Program} {ops : Array Oper} {Q : Exit → Act → World → Prop} {md : Region.Mode} {S : World → Prop} {e : Nat} {fuel : Nat} {listed : Array Bool} {a : Act} {w : World} (hr : Region.ready md ops listed = [e]) (he : listed.getD e true = false) (hl : (listed.setIfInBounds e true).getD e true = true) (hz : Region.ready md ops (listed.setIfInBounds e true) = [])
    (h : ∀ w', Grows w w' → S w' → wpOp P ops Q e (fun a' w'' => ∀ w3, Grows w'' w3 → Q .normal a' w3) a w') : wpAnyE P md ops Q S e (fuel + 1) listed a w :=
  fun w' hg hS => ⟨fun h0 => (by rw [h0] at hr; cases hr), fun j hj => by
    rw [hr] at hj
    rw [List.mem_singleton.1 hj]
    refine wpOp_mono (fun a' w'' hh => ⟨Or.inl hl, ?_⟩) (h w' hg (hS.got he))
    cases fuel with
    | zero => exact ⟨hz, fun w3 h3 _ => hh w3 h3⟩
    | succ fuel => exact fun w3 h3 _ => ⟨fun _ => hh w3 h3, fun j hj => by rw [hz] at hj; cases hj⟩⟩
/-- The beginning. -/
theorem regionE {P : Program} {ops : Array Oper} {Q : Exit → Act → World → Prop} {S : World → Prop} (e : Nat) {id : Nat} {a : Act} {w : World} (hm : P.follows .mixedOrders = true) (hS : S w.drew) (h : wpAnyE P .any ops Q S e ops.size (Array.replicate ops.size false) a w.drew) : (Code.region id ops true).wp P Q a w :=
  wp_region_any hm (wpAnyE.any _ _ _ _ (Or.inr hS) h)
/-- A call whose answer lies in new memory: the one that may come up. -/
theorem callE {ops : Array Oper} {Q : Exit → Act → World → Prop} {md : Region.Mode} {S : World → Prop} {e : Nat} (i : Nat) (d : Option Tmp) (f : FuncId) (args : Array Operand) (tys : Array TypeId) (vs : Array Value) {oi : Oper} {fuel : Nat} {listed : Array Bool} {a : Act} {w : World} (hi : ops[i]? = some oi) (hd : oi.dst = d)
    (ho : oi.op = .call { callee := .value (.func f), args := args, argTypes := tys }) (hw : Region.wanted oi (yielded ops a.tmps) = true) (hv : (args.toList.map a.eval).toArray = vs) (hr : Region.ready md ops listed = [i]) (he : listed.getD e true = false) (hc : ∀ vs w, (callFunc f vs).run Try.prog w = .ok (.enter f vs) w)
    (h : ∀ w', Grows w w' → S w' → Calls Try.prog f vs w' fun x w'' => ∃ v, x = .returned v ∧ S w'' ∧ wpAnyE Try.prog md ops Q S e fuel (listed.setIfInBounds i true) (a.put d v) w'') : wpAnyE Try.prog md ops Q S e (fuel + 1) listed a w := by
  subst hd
  have hv' : args.map a.eval = vs := by rw [← hv]; apply Array.toList_inj.1; rw [Array.toList_map]
  subst hv'
  refine oneE i hr he fun w' hg hS => ?_
  unfold wpOp
  simp only [hi]
  rw [if_pos hw]
  left
  unfold Oper.wp
  have hx : (execOp a.eval oi).run Try.prog w' = .ok (.enter f (args.map a.eval)) w' := by simp [execOp, ho, resolve, invoke, Act.eval, Deferred.ofValue, hc]
  rw [hx, Oper.upon_enter]
  refine (h w' hg hS).mono ?_
  rintro x w'' ⟨v, rfl, hs, hh⟩
  exact ⟨hs, hh⟩
/-- Two operations that answer new memory, whichever comes first. -/
theorem both2E {P : Program} {ops : Array Oper} {Q : Exit → Act → World → Prop} {md : Region.Mode} {S : World → Prop} {x : Nat} (i j : Nat) (d e : Tmp) (A B : Value → World → Prop) (hij : i ≠ j) (hde : d ≠ e)
    (sA : ∀ v w w', A v w → Grows w w' → A v w') (sB : ∀ v w w', B v w → Grows w w' → B v w') {fuel : Nat} {listed : Array Bool} {a : Act} {w : World} (mi : Mk P ops Q S i d A a) (mi' : ∀ v, Mk P ops Q S i d A (a.put (some e) v)) (mj : Mk P ops Q S j e B a) (mj' : ∀ v, Mk P ops Q S j e B (a.put (some d) v))
    (hr : Region.ready md ops listed = [i, j]) (hi : Region.ready md ops (listed.setIfInBounds i true) = [j]) (hj : Region.ready md ops (listed.setIfInBounds j true) = [i])
    (h0 : listed.getD x true = false) (h1 : (listed.setIfInBounds i true).getD x true = false) (h2 : (listed.setIfInBounds j true).getD x true = false)
    (h : ∀ u v w', A u w' → B v w' → Grows w w' → S w' → wpAnyE P md ops Q S x fuel ((listed.setIfInBounds i true).setIfInBounds j true) ((a.put (some d) u).put (some e) v) w') : wpAnyE P md ops Q S x (fuel + 1 + 1) listed a w := by
  intro w' hg hs
  refine ⟨fun h0 => (by rw [h0] at hr; cases hr), fun y hy => ?_⟩
  rw [hr] at hy
  rcases List.mem_cons.1 hy with rfl | hy
  · refine mi _ _ (hs.got h0) fun u w1 hA g1 hs1 => ⟨Or.inr hs1, oneE j hi h1 fun w2 g2 hs2 => ?_⟩
    exact mj' u _ _ hs2 fun v w3 hB g3 hs3 => ⟨hs3, h u v w3 (sA _ _ _ (sA _ _ _ hA g2) g3) hB (hg.trans (g1.trans (g2.trans g3))) hs3⟩
  · rw [List.mem_singleton.1 hy]
    refine mj _ _ (hs.got h0) fun v w1 hB g1 hs1 => ⟨Or.inr hs1, oneE i hj h2 fun w2 g2 hs2 => ?_⟩
    refine mi' v _ _ hs2 fun u w3 hA g3 hs3 => ⟨hs3, ?_⟩
    have := h u v w3 hA (sB _ _ _ (sB _ _ _ hB g2) g3) (hg.trans (g1.trans (g2.trans g3))) hs3
    rw [Array.setIfInBounds_comm _ _ hij, Act.put_comm a _ _ (fun z hz he => by cases hz; cases he; exact hde rfl)] at this
    exact this

end Go.Proofs.Ytbgdckhadfcnbaa

/-
  Plain mathematics of layer 5, ahead of its code: polynomials over two elements of fewer than 128 places, modulo x^128 + x^7 + x^2 + x + 1: products go either way round, in any brackets, part by part; one; no nought comes of others. No condition; nothing of the program.
-/
namespace Go.Proofs.Ytbgdckhadfcnbaa

/-- An element: bit i is that before x^i. -/
abbrev Fe : Type := BitVec 128
/-- Times x. -/
def tx (b : Fe) : Fe := (b <<< 1) ^^^ (if b.getLsbD 127 then 0x87 else 0)
def txN (b : Fe) : Nat → Fe
  | 0 => b
  | i + 1 => tx (txN b i)
/-- The sum of f i over the bits i of a below n. -/
def lin (a : Fe) (f : Nat → Fe) : Nat → Fe
  | 0 => 0
  | i + 1 => lin a f i ^^^ (if a.getLsbD i then f i else 0)
/-- The product. -/
def fmul (a b : Fe) : Fe := lin a (txN b) 128

theorem fx_self (a : Fe) : a ^^^ a = 0 := BitVec.xor_self
theorem fx_zero (a : Fe) : a ^^^ 0 = a := BitVec.xor_zero
theorem fx_four (a b c d : Fe) : (a ^^^ b) ^^^ (c ^^^ d) = (a ^^^ c) ^^^ (b ^^^ d) := by
  rw [BitVec.xor_assoc, BitVec.xor_assoc, ← BitVec.xor_assoc b c d, BitVec.xor_comm b c, BitVec.xor_assoc c b d]
theorem fx_back {a b : Fe} (h : a ^^^ b = 0) : a = b := by
  have := congrArg (· ^^^ b) h
  simpa [BitVec.xor_assoc] using this

/-- A map that goes part by part. -/
def Adds (g : Fe → Fe) : Prop := ∀ a b, g (a ^^^ b) = g a ^^^ g b
theorem Adds.zero {g : Fe → Fe} (h : Adds g) : g 0 = 0 := by
  have := h 0 0
  rw [fx_self] at this
  rw [fx_self] at this
  exact this
theorem Adds.ite {g : Fe → Fe} (h : Adds g) (c : Bool) (a : Fe) : g (if c then a else 0) = if c then g a else 0 := by
  cases c
  · simpa using h.zero
  · simp
theorem Adds.lin {g : Fe → Fe} (h : Adds g) (a : Fe) (f : Nat → Fe) (n : Nat) : g (lin a f n) = Go.Proofs.Ytbgdckhadfcnbaa.lin a (fun i => g (f i)) n := by
  induction n with
  | zero => exact h.zero
  | succ n ih => rw [Go.Proofs.Ytbgdckhadfcnbaa.lin, h, ih, h.ite]; rfl
theorem lin_congr {a : Fe} {f g : Nat → Fe} {n : Nat} (h : ∀ i, i < n → f i = g i) : lin a f n = lin a g n := by
  induction n with
  | zero => rfl
  | succ n ih => rw [lin, lin, ih fun i hi => h i (by omega), h n (by omega)]
theorem lin_left (f : Nat → Fe) (n : Nat) : Adds fun a => lin a f n := fun a b => by
  induction n with
  | zero => exact (fx_zero 0).symm
  | succ n ih =>
    show lin (a ^^^ b) f n ^^^ _ = (lin a f n ^^^ _) ^^^ (lin b f n ^^^ _)
    have ih' : lin (a ^^^ b) f n = lin a f n ^^^ lin b f n := ih
    rw [ih', fx_four]
    congr 1
    rw [BitVec.getLsbD_xor]
    cases a.getLsbD n <;> cases b.getLsbD n <;> simp
theorem lin_add (a : Fe) (f g : Nat → Fe) (n : Nat) : lin a (fun i => f i ^^^ g i) n = lin a f n ^^^ lin a g n := by
  induction n with
  | zero => exact (fx_zero 0).symm
  | succ n ih =>
    rw [lin, ih, lin, lin, fx_four]
    congr 1
    cases a.getLsbD n <;> simp

theorem tx_adds : Adds tx := fun a b => by
  unfold tx
  rw [BitVec.shiftLeft_xor_distrib, BitVec.getLsbD_xor, fx_four]
  congr 1
  cases a.getLsbD 127 <;> cases b.getLsbD 127 <;> simp
theorem txN_adds (n : Nat) : Adds fun b => txN b n := fun a b => by
  induction n with
  | zero => rfl
  | succ n ih =>
    have ih' : txN (a ^^^ b) n = txN a n ^^^ txN b n := ih
    show tx (txN (a ^^^ b) n) = _
    rw [ih', tx_adds]
    rfl
theorem txN_in (b : Fe) (n : Nat) : txN (tx b) n = tx (txN b n) := by
  induction n with
  | zero => rfl
  | succ n ih => rw [txN, ih]; rfl
theorem txN_add (b : Fe) (m n : Nat) : txN (txN b m) n = txN b (m + n) := by
  induction n with
  | zero => rfl
  | succ n ih => rw [txN, ih]; rfl

theorem fmul_left (b : Fe) : Adds fun a => fmul a b := lin_left _ _
theorem fmul_right (a : Fe) : Adds (fmul a) := fun b c => by
  unfold fmul
  rw [← lin_add]
  exact lin_congr fun i _ => txN_adds i b c

/-- The powers of x, up to the 127th. -/
theorem txN_one {i : Nat} (h : i < 128) : txN 1 i = 1 <<< i := by
  have : ∀ i : Fin 128, txN 1 i.val = 1 <<< i.val := by decide +kernel
  exact this ⟨i, h⟩
theorem lin_bits (a : Fe) (n : Nat) (hn : n ≤ 128) (j : Nat) : (lin a (fun i => (1 : Fe) <<< i) n).getLsbD j = (decide (j < n) && a.getLsbD j) := by
  induction n with
  | zero => simp [lin]
  | succ n ih =>
    rw [lin, BitVec.getLsbD_xor, ih (by omega)]
    have hb : (if a.getLsbD n then (1 : Fe) <<< n else 0).getLsbD j = (decide (j = n) && a.getLsbD n) := by
      cases a.getLsbD n
      · simp
      · simp only [if_true, Bool.and_true]
        rw [BitVec.getLsbD_shiftLeft]
        by_cases e : j = n
        · subst e; simp; omega
        · by_cases hl : j < n
          · simp [hl, e]
          · have : j - n ≠ 0 := by omega
            simp [e, BitVec.getLsbD_one, this]
    rw [hb]
    by_cases e : j = n
    · subst e; simp
    · by_cases hl : j < n
      · have : j < n + 1 := by omega
        simp [hl, e, this]
      · have : ¬ j < n + 1 := by omega
        simp [hl, e, this]
theorem lin_self (a : Fe) : lin a (fun i => (1 : Fe) <<< i) 128 = a := by
  apply BitVec.eq_of_getLsbD_eq
  intro j hj
  rw [lin_bits a 128 (Nat.le_refl _)]
  simp [hj]
/-- Every element is the sum of its powers of x. -/
theorem fe_sum (a : Fe) : lin a (txN 1) 128 = a := by
  rw [lin_congr (g := fun i => (1 : Fe) <<< i) fun i hi => txN_one hi]
  exact lin_self a

theorem fmul_one (a : Fe) : fmul a 1 = a := fe_sum a
theorem fmul_tx (a b : Fe) : fmul a (tx b) = tx (fmul a b) := by
  unfold fmul
  rw [tx_adds.lin]
  exact lin_congr fun i _ => txN_in b i
theorem fmul_txN (a b : Fe) (n : Nat) : fmul a (txN b n) = txN (fmul a b) n := by
  induction n with
  | zero => rfl
  | succ n ih => rw [txN, fmul_tx, ih]; rfl
/-- Either way round. -/
theorem fmul_comm (a b : Fe) : fmul a b = fmul b a := by
  have h1 : fmul a b = lin b (fun i => fmul a (txN 1 i)) 128 := by
    rw [← (fmul_right a).lin, fe_sum]
  rw [h1]
  unfold fmul
  refine lin_congr fun i _ => ?_
  have := fmul_txN a 1 i
  rw [fmul_one] at this
  exact this
theorem fmul_tx' (a b : Fe) : fmul (tx a) b = tx (fmul a b) := by
  rw [fmul_comm, fmul_tx, fmul_comm]
theorem fmul_txN' (a b : Fe) (n : Nat) : fmul (txN a n) b = txN (fmul a b) n := by
  rw [fmul_comm, fmul_txN, fmul_comm]
/-- In any brackets. -/
theorem fmul_assoc (a b c : Fe) : fmul (fmul a b) c = fmul a (fmul b c) := by
  have h1 : fmul (fmul a b) c = lin a (fun i => fmul (txN b i) c) 128 := (fmul_left c).lin a (txN b) 128
  rw [h1]
  exact lin_congr fun i _ => fmul_txN' b c i
theorem fmul_zero (a : Fe) : fmul a 0 = 0 := (fmul_right a).zero
theorem one_fmul (a : Fe) : fmul 1 a = a := by rw [fmul_comm, fmul_one]

end Go.Proofs.Ytbgdckhadfcnbaa

/-
  Bytes as numbers: what the model's operations on eight bits are. No condition; nothing of the program.
-/
namespace Go.Proofs.Ytbgdckhadfcnbaa
open Go.RowKit

theorem xor_u8 (x y : UInt8) : bits .xor .u8 (x.toNat : Int) (y.toNat : Int) = ((x ^^^ y).toNat : Int) := by
  rw [u8_xor_nat _ _ (UInt8.toNat_lt _) (UInt8.toNat_lt _), UInt8.toNat_xor]

theorem one_u8 (x : UInt8) : UInt8.ofNat ((x.toNat : Int)).toNat = x := by simp
theorem u8_hi (x : UInt8) : (x.toNat : Int) ≤ 255 := by have := UInt8.toNat_lt x; omega

theorem Own.bs3 {w : World} {base : Nat} {v : Value} {l : List UInt8} (h : Own w base v l) : ∃ a m c, v = .slice a m c ∧ Bs w a m c l := by
  obtain ⟨a, c, rfl, hb⟩ := h.bs
  exact ⟨a, _, c, rfl, hb⟩
theorem b_lt (x : UInt8) : x.toNat < 256 := UInt8.toNat_lt x
theorem b_or (x y : UInt8) : bits .or .u8 (x.toNat : Int) (y.toNat : Int) = ((x ||| y).toNat : Int) := by
  rw [u8_or_nat _ _ (b_lt x) (b_lt y), UInt8.toNat_or]
theorem b_and (x y : UInt8) : bits .and .u8 (x.toNat : Int) (y.toNat : Int) = ((x &&& y).toNat : Int) := by
  rw [u8_and_nat _ _ (b_lt x) (b_lt y), UInt8.toNat_and]
theorem bsh_amount (n : Nat) (h : n < 8) : (UInt8.ofNat n).toNat % 8 = n := by rw [UInt8.toNat_ofNat']; omega
theorem b_shr (x : UInt8) (n : Nat) (h : n < 8) : ((x.toNat : Int) / 2 ^ n) = ((x >>> UInt8.ofNat n).toNat : Int) := by
  rw [UInt8.toNat_shiftRight, Nat.shiftRight_eq_div_pow, bsh_amount n h, Int.natCast_ediv, Int.natCast_pow]
  rfl
theorem b_shl (x : UInt8) (n : Nat) (h : n < 8) : ((x.toNat : Int) * 2 ^ n) % 256 = ((x <<< UInt8.ofNat n).toNat : Int) := by
  rw [UInt8.toNat_shiftLeft, Nat.shiftLeft_eq, bsh_amount n h, Int.natCast_emod, Int.natCast_mul, Int.natCast_pow]
  rfl
theorem bit_and (y : UInt8) : bits .and .u8 (y.toNat : Int) 1 = ((y &&& 1).toNat : Int) := b_and y 1
theorem one_not {z : UInt8} (h : ¬ z = 1) : ((z.toNat : Int) == 1) = false := by
  simp
  intro e
  exact h (UInt8.toNat_inj.1 (by have : (1 : UInt8).toNat = 1 := rfl; omega))
theorem nat_byte {k : Nat} (h : k < 256) : ((UInt8.ofNat k).toNat : Int) = (k : Int) := by rw [UInt8.toNat_ofNat', Nat.mod_eq_of_lt h]

end Go.Proofs.Ytbgdckhadfcnbaa

/-
  Elements as rows of 128 bools, and as bytes: plain mathematics ahead of layer 5's code. No condition; nothing of the program.
-/
namespace Go.Proofs.Ytbgdckhadfcnbaa
open Go.RowKit

/-- The bits of an element. -/
def fb (a : Fe) : List Bool := (List.range 128).map fun i => a.getLsbD i
theorem fb_length (a : Fe) : (fb a).length = 128 := by simp [fb]
theorem fb_at (a : Fe) {k : Nat} (h : k < 128) : (fb a).getD k false = a.getLsbD k := by simp [fb, List.getD_eq_getElem?_getD, h]
/-- The first k bools of L, those of a behind. -/
def overB (L a : List Bool) (k : Nat) : List Bool := L.take k ++ a.drop k
theorem overB_length {L a : List Bool} (h : L.length = a.length) (k : Nat) : (overB L a k).length = a.length := by simp [overB]; omega
theorem overB_at {L a : List Bool} (h : L.length = a.length) {k j : Nat} (hk : k ≤ a.length) (hj : k ≤ j) : (overB L a k).getD j false = a.getD j false := by
  have hl : (L.take k).length = k := by simp; omega
  unfold overB
  rw [List.getD_eq_getElem?_getD, List.getElem?_append_right (by omega), hl, List.getElem?_drop, List.getD_eq_getElem?_getD, show k + (j - k) = j from by omega]
theorem overB_set {L a : List Bool} (h : L.length = a.length) {k : Nat} (hk : k < a.length) : (overB L a k).set k (L.getD k false) = overB L a (k + 1) := by
  have hl : (L.take k).length = k := by simp; omega
  have hL : k < L.length := by omega
  unfold overB
  rw [List.set_append_right _ _ (by omega), hl, Nat.sub_self, List.take_succ_eq_append_getElem hL, List.append_assoc, List.drop_eq_getElem_cons hk, List.set_cons_zero, List.getD_eq_getElem?_getD, List.getElem?_eq_getElem hL]
  rfl
theorem overB_end {L a : List Bool} (h : L.length = a.length) : overB L a a.length = L := by simp [overB, ← h]
theorem overB_zero (L a : List Bool) : overB L a 0 = a := by simp [overB]

/-- The element of bits. -/
def pk (f : Nat → Bool) : Nat → Fe
  | 0 => 0
  | i + 1 => pk f i ^^^ (if f i then (1 : Fe) <<< i else 0)
theorem one_bit {n j : Nat} (hn : n < 128) (b : Bool) : (if b then (1 : Fe) <<< n else 0).getLsbD j = (decide (j = n) && b) := by
  cases b
  · simp
  · simp only [if_true, Bool.and_true]
    rw [BitVec.getLsbD_shiftLeft]
    by_cases e : j = n
    · subst e; simp; omega
    · by_cases hl : j < n
      · simp [hl, e]
      · have : j - n ≠ 0 := by omega
        simp [e, BitVec.getLsbD_one, this]
theorem pk_bits (f : Nat → Bool) (n : Nat) (hn : n ≤ 128) (j : Nat) : (pk f n).getLsbD j = (decide (j < n) && f j) := by
  induction n with
  | zero => simp [pk]
  | succ n ih =>
    rw [pk, BitVec.getLsbD_xor, ih (by omega), one_bit (by omega)]
    by_cases e : j = n
    · subst e; simp
    · by_cases hl : j < n
      · have : j < n + 1 := by omega
        simp [hl, e, this]
      · have : ¬ j < n + 1 := by omega
        simp [hl, e, this]
theorem fb_pk (f : Nat → Bool) : fb (pk f 128) = (List.range 128).map f := by
  unfold fb
  apply List.map_congr_left
  intro i hi
  rw [pk_bits f 128 (Nat.le_refl _)]
  have : i < 128 := by simpa using hi
  simp [this]
/-- Bit i of bytes, the first one the highest of the first byte. -/
def bitB (l : List UInt8) (i : Nat) : Bool := decide (i / 8 < l.length) && decide ((l.getD (i / 8) 0 >>> UInt8.ofNat (7 - i % 8)) &&& 1 = 1)
/-- The element of bytes. -/
def feB (l : List UInt8) : Fe := pk (bitB l) 128
theorem fb_feB (l : List UInt8) : fb (feB l) = (List.range 128).map (bitB l) := fb_pk _

theorem fb_xor_at (s x : Fe) {k : Nat} (h : k < 128) : (fb (s ^^^ x)).getD k false = (s.getLsbD k != x.getLsbD k) := by
  rw [fb_at _ h, BitVec.getLsbD_xor]
/-- Moved up by one place. -/
theorem fb_up_at (x : Fe) {k : Nat} (h : k < 128) : (fb (x <<< 1)).getD k false = (decide (0 < k) && x.getLsbD (k - 1)) := by
  rw [fb_at _ h, BitVec.getLsbD_shiftLeft]
  by_cases e : k = 0
  · subst e; simp
  · have : ¬ k < 1 := by omega
    have h0 : 0 < k := by omega
    simp [h, this, h0]

end Go.Proofs.Ytbgdckhadfcnbaa

/-
  The contract of layer 5's reference's Bits. Condition: at most 16 bytes.
-/
namespace Go.Proofs.Ytbgdckhadfcnbaa
open Go.RowKit

theorem GivesB.mk {w w' : World} {v : Value} {l : List Bool} (h : OwnB w' w.heap.size v l) (hb : Below w.heap.size w w') : GivesB w l (.returned v) w' := by
  obtain ⟨a, c, rfl, hB, hx⟩ := h.bo
  exact ⟨a, c, rfl, hB, hx, hb⟩
theorem mapB_step (f : Nat → Bool) {k : Nat} (h : k < 128) : ((List.range 128).map f).take (k + 1) = ((List.range 128).map f).take k ++ [f k] := by
  have hl : k < ((List.range 128).map f).length := by simp; exact h
  rw [List.take_succ_eq_append_getElem hl]
  simp
theorem bo_made (w : World) (x : Bool) : Bo (w.alloc (.cells #[.bool x] 4)) (some ⟨w.heap.size, 0, none⟩) 1 1 [x] :=
  ⟨rfl, Nat.le_refl _, by unfold maxLen; omega, by simp, fun i hi => ⟨w.heap.size, 0, rfl, by
    obtain rfl : i = 0 := by omega
    rw [Nat.zero_add, cell_new]
    rfl⟩⟩
theorem quo8 (k : Nat) : (k : Int).tdiv 8 = ((k / 8 : Nat) : Int) := by
  rw [Int.tdiv_eq_ediv_of_nonneg (by omega)]
  omega
theorem rem8 (k : Nat) : (k : Int).tmod 8 = ((k % 8 : Nat) : Int) := by
  rw [Int.tmod_eq_emod_of_nonneg (by omega)]
  omega

set_option maxRecDepth 100000 in
set_option maxHeartbeats 1000000 in
theorem rBits (w : World) {a : Option Addr} {n c : Nat} {l : List UInt8} (ha : Bs w a n c l) (hn : n ≤ 16) :
    Calls Try.prog 32 #[.slice a n c] w (GivesB w (fb (feB l))) := by
  rw [fb_feB]
  have HL : Hid (l.length = n) := ha.len
  go_enter Try.func32, Try.ntmps32
  go_wp2_with fail
  go_loopw [3, 4] (fun v i wr => ∃ k : Nat, k ≤ 128 ∧ i = .int .i64 k ∧ OwnB wr w.heap.size v (((List.range 128).map (bitB l)).take k) ∧ Below w.heap.size w wr) (fun _ i _ => 128 - (intOf i).toNat)
  case atStart => exact ⟨0, by omega, rfl, OwnB.nil _ _, Below.refl _ _⟩
  case round =>
    obtain ⟨k, hk, rfl, ho, hb⟩ := hrel
    by_cases hlt : k < 128
    · have h0 : (0 : Int) ≤ (k : Int) := by omega
      have h8 : (k : Int) < 128 := by omega
      have HS := mapB_step (bitB l) hlt
      have hr : (((List.range 128).map (bitB l)).take k).length + 1 ≤ 1000000000 := by
        have : (((List.range 128).map (bitB l)).take k).length ≤ ((List.range 128).map (bitB l)).length := List.length_take_le' _ _
        rw [List.length_map, List.length_range] at this
        omega
      have hs := hb.size
      have t1 := quo8 k
      have t2 : (k : Int) / 8 = ((k / 8 : Nat) : Int) := by omega
      have t3 := rem8 k
      have t4 : (k : Int) % 8 = ((k % 8 : Nat) : Int) := by omega
      have HBB : bitB l k = (decide (k / 8 < l.length) && decide ((l.getD (k / 8) 0 >>> UInt8.ofNat (7 - k % 8)) &&& 1 = 1)) := rfl
      have m8 : k % 8 < 8 := by omega
      by_cases hq : k / 8 < n
      · obtain ⟨b, o, rfl, hbl, hc⟩ := ha.at (by omega)
        rw [HL.out, decide_eq_true hq, Bool.true_and] at HBB
        generalize hq' : k / 8 = q at *
        generalize hm' : k % 8 = m at *
        have q0 : (0 : Int) ≤ (q : Int) := by omega
        have q1 : (q : Int) < (n : Int) := by omega
        have c1 : wr.cell? ⟨b, o + q, none⟩ = some (.int .u8 (bt l q)) := by rw [hb.cell (p := ⟨b, o + q, none⟩) hbl]; exact hc q hq
        unfold bt at c1
        generalize l.getD q 0 = y at c1 HBB
        obtain ⟨s, hs7⟩ : ∃ s, s = 7 - m := ⟨_, rfl⟩
        rw [← hs7] at HBB
        have s0 : (7 : Int) - (m : Int) = (s : Int) := by omega
        have s1 : (0 : Int) ≤ (s : Int) := by omega
        have e1 := b_shr y s (by omega)
        generalize y >>> UInt8.ofNat s = z at e1 HBB
        have e2 := bit_and z
        generalize z &&& 1 = x at e2 HBB
        have e3 : ((x.toNat : Int) == 1) = decide (x = 1) := by
          by_cases hx : x = 1
          · subst hx; rfl
          · rw [one_not hx]; simp [hx]
        rw [← HBB] at e3
        generalize hbit : bitB l k = bit at *
        have HS' : Hid (_ = _) := HS
        clear HS HBB hbit hs7 hc hq' hm'
        go_wp2_with (at_builtin; go_must (refine wpList_bapp (wr.alloc (.cells #[.bool bit] 4)) rfl (.tmp 9) (.tmp 28) rfl w.heap.size _ _ rfl (ho.below (below_alloc _ _) (Nat.le_refl _)) ⟨wr.heap.size, 0, none⟩ 1 1 [bit] rfl (bo_made wr bit) hr (by simp; omega) ?_); intro v2 w2 ho2 hb2)
        go_roundw
        case rel => exact ⟨k + 1, by omega, by go_num, by rw [HS'.out]; exact ho2, (hb.alloc hs _).trans hb2⟩
        case measure => simp [intOf]; omega
      · rw [HL.out, decide_eq_false hq, Bool.false_and] at HBB
        have hq2 : ¬ ((k / 8 : Nat) : Int) < (n : Int) := by omega
        have hq3 : decide (((k / 8 : Nat) : Int) < (n : Int)) = false := by simpa using hq2
        rw [HBB] at HS
        have HS' : Hid (_ = _) := HS
        generalize k / 8 = q at *
        clear HS HBB
        go_wp2_with (at_builtin; go_must (refine wpList_bapp (wr.alloc (.cells #[.bool false] 4)) rfl (.tmp 9) (.tmp 28) rfl w.heap.size _ _ rfl (ho.below (below_alloc _ _) (Nat.le_refl _)) ⟨wr.heap.size, 0, none⟩ 1 1 [false] rfl (bo_made wr false) hr (by simp; omega) ?_); intro v2 w2 ho2 hb2)
        go_roundw
        case rel => exact ⟨k + 1, by omega, by go_num, by rw [HS'.out]; exact ho2, (hb.alloc hs _).trans hb2⟩
        case measure => simp [intOf]; omega
    · rw [List.take_of_length_le (by simp; omega)] at ho
      go_wp2
      go_ret
      exact GivesB.mk ho hb

end Go.Proofs.Ytbgdckhadfcnbaa

/-
  The contract of layer 5's reference's Times. No condition but that both are rows of 128 bits.
-/
namespace Go.Proofs.Ytbgdckhadfcnbaa
open Go.RowKit

theorem lin_yes {a : Fe} {f : Nat → Fe} {i : Nat} (h : a.getLsbD i = true) : lin a f (i + 1) = lin a f i ^^^ f i := by rw [lin, if_pos h]
theorem lin_no {a : Fe} {f : Nat → Fe} {i : Nat} (h : a.getLsbD i = false) : lin a f (i + 1) = lin a f i := by rw [lin, h]; simp
theorem rep_length : (List.replicate 128 false).length = 128 := List.length_replicate ..
set_option maxRecDepth 100000 in
theorem fb_zero : fb 0 = List.replicate 128 false := by decide +kernel
theorem up_start (x : Fe) : overB (fb (x <<< 1)) (List.replicate 128 false) 1 = List.replicate 128 false := by
  have h := overB_set (L := fb (x <<< 1)) (a := List.replicate 128 false) (by rw [fb_length, rep_length]) (k := 0) (by rw [rep_length]; omega)
  rw [← h, overB_zero, fb_up_at x (by omega)]
  simp
theorem up_end (x : Fe) : overB (fb (x <<< 1)) (List.replicate 128 false) 128 = fb (x <<< 1) := by
  have h := overB_end (L := fb (x <<< 1)) (a := List.replicate 128 false) (by rw [fb_length, rep_length])
  rw [rep_length] at h
  exact h
theorem tx_lo {x : Fe} (h : x.getLsbD 127 = false) : tx x = x <<< 1 := by unfold tx; rw [h]; simp
theorem bit87 (j : Nat) : (0x87 : Fe).getLsbD j = (decide (j = 0) || decide (j = 1) || decide (j = 2) || decide (j = 7)) := by
  by_cases h : j < 128
  · have : ∀ i : Fin 128, (0x87 : Fe).getLsbD i.val = (decide (i.val = 0) || decide (i.val = 1) || decide (i.val = 2) || decide (i.val = 7)) := by decide +kernel
    exact this ⟨j, h⟩
  · rw [BitVec.getLsbD_of_ge _ _ (by omega)]
    have h0 : ¬ j = 0 := by omega
    have h1 : ¬ j = 1 := by omega
    have h2 : ¬ j = 2 := by omega
    have h7 : ¬ j = 7 := by omega
    simp [h0, h1, h2, h7]
/-- Four bits turned. -/
theorem tx_hi {x : Fe} (h : x.getLsbD 127 = true) : fb (tx x) = ((((fb (x <<< 1)).set 0 (!(x <<< 1).getLsbD 0)).set 1 (!(x <<< 1).getLsbD 1)).set 2 (!(x <<< 1).getLsbD 2)).set 7 (!(x <<< 1).getLsbD 7) := by
  have e : tx x = (x <<< 1) ^^^ 0x87 := by unfold tx; rw [h]; rfl
  rw [e]
  generalize x <<< 1 = y
  apply List.ext_getElem
  · simp [fb]
  · intro i h1 h2
    rw [fb_length] at h1
    simp only [fb, List.getElem_map, List.getElem_range, List.getElem_set, BitVec.getLsbD_xor, bit87]
    by_cases h7 : i = 7
    · subst h7; simp
    · by_cases h2' : i = 2
      · subst h2'; simp
      · by_cases h1' : i = 1
        · subst h1'; simp
        · by_cases h0 : i = 0
          · subst h0; simp
          · have a7 : ¬ 7 = i := by omega
            have a2 : ¬ 2 = i := by omega
            have a1 : ¬ 1 = i := by omega
            have a0 : ¬ 0 = i := by omega
            simp [h7, h2', h1', h0, a7, a2, a1, a0]

set_option maxRecDepth 100000 in
set_option maxHeartbeats 4000000 in
theorem rTimesF (w : World) {pa pb : Option Addr} {ca cb : Nat} {a b : Fe} (ha : Bo w pa 128 ca (fb a)) (hb : Bo w pb 128 cb (fb b)) :
    Calls Try.prog 66 #[.slice pa 128 ca, .slice pb 128 cb] w (GivesB w (fb (fmul a b))) := by
  obtain ⟨ba, oa, rfl, hal, hca⟩ := ha.at (by omega)
  obtain ⟨bb, ob, rfl, hbl, hcb⟩ := hb.at (by omega)
  clear hcb
  go_enter Try.func66, Try.ntmps66
  go_wp2_with (first
    | (at_make; go_must (refine wpList_bmk w rfl _ _ rfl 128 _ rfl rfl rfl (by omega) ?_); intro g w1 hg bG hb1; have hbo1 := hb.below hb1 (Nat.le_refl _))
    | (at_builtin; go_must (refine wpList_bapp w1 rfl (.tmp 13) (.tmp 14) rfl w1.heap.size (.slice none 0 0) [] rfl (OwnB.nil _ _) ⟨bb, ob, none⟩ 128 cb (fb b) rfl hbo1 (by rw [fb_length]; simp) (Nat.le_refl _) ?_); intro vx w2 hox hb2))
  rw [List.nil_append] at hox
  obtain ⟨px, cx, rfl, hBx, hxb⟩ := hox.bo
  rw [fb_length] at hBx ⊢
  have bG2 := bG.below hb2 bG.lt
  have q2 := hb1.trans (hb2.mono hb1.size)
  have hgl := bG.lt
  have hne : ∀ y, px = some y → y.block ≠ g := fun y hy => by have := hxb y hy; omega
  rw [← fb_zero] at bG2
  clear hox hxb bG hb1 hb2 hbo1 hb
  go_loopw [6, 7, 8, 9, 10, 11] (fun v i _ _ _ _ wr => ∃ (k : Nat) (px : Option Addr) (cx : Nat), k ≤ 128 ∧ i = .int .i64 k ∧ v = .slice px 128 cx ∧ Bo wr px 128 cx (fb (txN b k)) ∧ (∀ y, px = some y → y.block ≠ g) ∧ Blk wr g (bo (fb (lin a (txN b) k))) 4 ∧ Below w.heap.size w wr) (fun _ i _ _ _ _ _ => 128 - (intOf i).toNat)
  case atStart => exact ⟨0, px, cx, by omega, rfl, rfl, hBx, hne, bG2, q2⟩
  case round =>
    clear hBx hne bG2 q2
    obtain ⟨i, px, cx, hi, rfl, rfl, hBx, hne, bG, hbw⟩ := hrel
    rename World => wo
    by_cases hlt : i < 128
    · have i0 : (0 : Int) ≤ (i : Int) := by omega
      have i8 : (i : Int) < 128 := by omega
      have c1 : wo.cell? ⟨ba, oa + i, none⟩ = some (.bool (a.getLsbD i)) := by rw [hbw.cell (p := ⟨ba, oa + i, none⟩) hal, hca i hlt, fb_at a hlt]
      generalize hai : a.getLsbD i = ai at c1
      have HAI : Hid (a.getLsbD i = ai) := hai
      clear hai
      obtain ⟨x, hx⟩ : ∃ x, x = txN b i := ⟨_, rfl⟩
      obtain ⟨s, hs⟩ : ∃ s, s = lin a (txN b) i := ⟨_, rfl⟩
      have HX : Hid (x = txN b i) := hx
      have HS : Hid (s = lin a (txN b) i) := hs
      rw [← hx] at hBx
      rw [← hs] at bG
      clear hx hs
      obtain ⟨s', hs'⟩ : ∃ s', s' = lin a (txN b) (i + 1) := ⟨_, rfl⟩
      have HS' : Hid (s' = lin a (txN b) (i + 1)) := hs'
      clear hs'
      go_upto_if 23 with fail
      go_cut [8] (fun _ wx => Bo wx px 128 cx (fb x) ∧ Blk wx g (bo (fb s')) 4 ∧ Below w.heap.size w wx ∧ wo.heap.size ≤ wx.heap.size)
      case first =>
        cases ai with
        | false =>
          have HE : Hid (s' = s) := by show _ = _; rw [HS'.out, HS.out]; exact lin_no HAI.out
          go_wp2_with fail
          go_meet
          case rel => exact ⟨hBx, by rw [HE.out]; exact bG, hbw, Nat.le_refl _⟩
        | true =>
          have HE : Hid (s' = s ^^^ x) := by show _ = _; rw [HS'.out, HS.out, HX.out]; exact lin_yes HAI.out
          obtain ⟨bx, ox, rfl, hxl, hcx⟩ := hBx.at (by omega)
          have hbxg : ¬ bx = g := hne _ rfl
          have hbxg' : ¬ g = bx := fun e => hbxg e.symm
          go_wp2_with fail
          go_loopw [8] (fun kk wr => ∃ k : Nat, k ≤ 128 ∧ kk = .int .i64 k ∧ Bo wr (some ⟨bx, ox, none⟩) 128 cx (fb x) ∧ Blk wr g (bo (overB (fb s') (fb s) k)) 4 ∧ Below w.heap.size w wr ∧ wo.heap.size ≤ wr.heap.size) (fun kk _ => 128 - (intOf kk).toNat)
          case atStart => exact ⟨0, by omega, rfl, hBx, by rw [overB_zero]; exact bG, hbw, Nat.le_refl _⟩
          case round =>
            obtain ⟨k, hk, rfl, hB, bK, hbk, hsz⟩ := hrel
            by_cases hkl : k < 128
            · have k0 : (0 : Int) ≤ (k : Int) := by omega
              have k8 : (k : Int) < 128 := by omega
              have hll : (fb s').length = (fb s).length := by rw [fb_length, fb_length]
              obtain ⟨_, _, ex, _, hcc⟩ := hB.at (by omega)
              simp only [Option.some.injEq, Addr.mk.injEq, and_true] at ex
              obtain ⟨rfl, rfl⟩ := ex
              have d1 := hcc k hkl
              rw [fb_at x hkl] at d1
              have d2 := bK.atB (k := k) (by rw [overB_length hll, fb_length]; exact hkl)
              rw [overB_at hll (by rw [fb_length]; omega) (Nat.le_refl _), fb_at s hkl] at d2
              have f2 := bK.free k
              have bN := bK.setB k ((fb s').getD k false)
              rw [overB_set hll (by rw [fb_length]; exact hkl), HE.out, fb_xor_at s x hkl, ← HE.out] at bN
              generalize s.getLsbD k = sk at d2 bN
              generalize x.getLsbD k = xk at d1 bN
              have BN : Hid _ := bN
              clear bN hcc
              go_wp2_with fail
              go_region
              go_wp2_with fail
              go_roundw
              case rel => exact ⟨k + 1, by omega, by go_num, (hB.setO (p := ⟨g, k, none⟩) hne _).dr, BN.out, (hbk.setCell (by simp; omega) _).drew, by simpa using hsz⟩
              case measure => simp [intOf]; omega
            · obtain rfl : k = 128 := by omega
              rw [show (128 : Nat) = (fb s).length from (fb_length s).symm, overB_end (by rw [fb_length, fb_length])] at bK
              go_wp2_with fail
              go_meet
              case rel => exact ⟨hB, bK, hbk, hsz⟩
      case rest =>
        clear hBx bG hbw c1
        obtain ⟨hBx, bG, hbw, hsz⟩ := hcut
        have HT : Hid (txN b (i + 1) = tx x) := by show _ = _; rw [HX.out]; rfl
        obtain ⟨bx, ox, rfl, hxl, hcx⟩ := hBx.at (by omega)
        have hbxg : ¬ bx = g := hne _ rfl
        have c127 := hcx 127 (by omega)
        rw [fb_at x (by omega)] at c127
        obtain ⟨last, hlast⟩ : ∃ z, z = x.getLsbD 127 := ⟨_, rfl⟩
        rw [← hlast] at c127
        have HLA : Hid (x.getLsbD 127 = last) := hlast.symm
        clear hlast hcx
        have hgw := bG.lt
        go_wp2_with (at_make; go_must (refine wpList_bmk wc rfl _ _ rfl 128 _ rfl rfl rfl (by omega) ?_); intro gn w3 hgn bN hb3)
        have bG3 := bG.below hb3 hgw
        have hB3 := hBx.below hb3 (Nat.le_refl _)
        have q3 := hbw.trans (hb3.mono hbw.size)
        have hgng : ¬ gn = g := by omega
        have hgng' : ¬ g = gn := by omega
        have hgnx : ¬ bx = gn := by omega
        have hgnw : w.heap.size ≤ gn := Nat.le_trans hbw.size hgn
        clear bG hBx hbw hb3 c127
        go_loopw [11] (fun kk wr => ∃ k : Nat, 1 ≤ k ∧ k ≤ 128 ∧ kk = .int .i64 k ∧ Bo wr (some ⟨bx, ox, none⟩) 128 cx (fb x) ∧ Blk wr g (bo (fb s')) 4 ∧ Blk wr gn (bo (overB (fb (x <<< 1)) (List.replicate 128 false) k)) 4 ∧ Below w.heap.size w wr) (fun kk _ => 128 - (intOf kk).toNat)
        case atStart => exact ⟨1, by omega, by omega, rfl, hB3, bG3, by rw [up_start]; exact bN, q3⟩
        case round =>
          clear hB3 bG3 bN q3
          obtain ⟨k, hk1, hk, rfl, hB, bG, bN, hbk⟩ := hrel
          have hll : (fb (x <<< 1)).length = (List.replicate 128 false).length := by rw [fb_length, rep_length]
          by_cases hkl : k < 128
          · have k0 : (0 : Int) ≤ (k : Int) := by omega
            have k1 : (1 : Int) ≤ (k : Int) := by omega
            have k8 : (k : Int) < 128 := by omega
            obtain ⟨_, _, ex, _, hcc⟩ := hB.at (by omega)
            simp only [Option.some.injEq, Addr.mk.injEq, and_true] at ex
            obtain ⟨rfl, rfl⟩ := ex
            have d1 := hcc (k - 1) (by omega)
            rw [fb_at x (by omega)] at d1
            have d2 := bN.atB (k := k) (by rw [overB_length hll, rep_length]; exact hkl)
            have f2 := bN.free k
            have bM := bN.setB k ((fb (x <<< 1)).getD k false)
            rw [overB_set hll (by rw [rep_length]; exact hkl), fb_up_at x hkl, decide_eq_true (show 0 < k by omega), Bool.true_and] at bM
            generalize x.getLsbD (k - 1) = xk at d1 bM
            have BM : Hid _ := bM
            clear bM hcc
            go_wp2_with fail
            go_roundw
            case rel => exact ⟨k + 1, by omega, by omega, by go_num, hB.setO (p := ⟨gn, k, none⟩) (fun y hy => by simp only [Option.some.injEq] at hy; subst hy; exact hgnx) _, bG.setO (by simpa using hgng') _, BM.out, hbk.setCell (by simpa using hgnw) _⟩
            case measure => simp [intOf]; omega
          · obtain rfl : k = 128 := by omega
            rw [up_end] at bN
            have n0 := bN.atB (k := 0) (by rw [fb_length]; omega)
            have n1 := bN.atB (k := 1) (by rw [fb_length]; omega)
            have n2 := bN.atB (k := 2) (by rw [fb_length]; omega)
            have n7 := bN.atB (k := 7) (by rw [fb_length]; omega)
            rw [fb_at _ (by omega)] at n0 n1 n2 n7
            have f0 := bN.free 0
            have f1 := bN.free 1
            have f2 := bN.free 2
            have f7 := bN.free 7
            cases last with
            | false =>
              have HE : Hid (tx x = x <<< 1) := tx_lo HLA.out
              go_wp2_with fail
              go_roundw
              case rel =>
                have hB2 := bN.bo (by rw [fb_length]; omega)
                rw [fb_length] at hB2
                exact ⟨i + 1, some ⟨gn, 0, none⟩, 128, by omega, by go_num, rfl, by rw [HT.out, HE.out]; exact hB2, fun y hy => by simp only [Option.some.injEq] at hy; subst hy; exact hgng, by rw [← HS'.out]; exact bG, hbk⟩
              case measure => simp [intOf]; omega
            | true =>
              have HE : Hid (fb (tx x) = _) := tx_hi HLA.out
              have bM := (((bN.setB 0 (!(x <<< 1).getLsbD 0)).setB 1 (!(x <<< 1).getLsbD 1)).setB 2 (!(x <<< 1).getLsbD 2)).setB 7 (!(x <<< 1).getLsbD 7)
              rw [← HE.out] at bM
              generalize (x <<< 1).getLsbD 0 = z0 at n0 bM
              generalize (x <<< 1).getLsbD 1 = z1 at n1 bM
              generalize (x <<< 1).getLsbD 2 = z2 at n2 bM
              generalize (x <<< 1).getLsbD 7 = z7 at n7 bM
              have BM : Hid _ := bM
              clear bM HE
              go_wp2_with fail
              go_roundw
              case rel =>
                have hB2 := Blk.bo BM.out (by rw [fb_length]; omega)
                rw [fb_length] at hB2
                exact ⟨i + 1, some ⟨gn, 0, none⟩, 128, by omega, by go_num, rfl, by rw [HT.out]; exact hB2, fun y hy => by simp only [Option.some.injEq] at hy; subst hy; exact hgng, by rw [← HS'.out]; exact (((bG.setO (by simpa using hgng') _).setO (by simpa using hgng') _).setO (by simpa using hgng') _).setO (by simpa using hgng') _, (((hbk.setCell (by simpa using hgnw) _).setCell (by simpa using hgnw) _).setCell (by simpa using hgnw) _).setCell (by simpa using hgnw) _⟩
              case measure => simp [intOf]; omega
    · obtain rfl : i = 128 := by omega
      go_wp2_with fail
      go_ret
      have := bG.bo (by rw [fb_length]; omega)
      exact ⟨_, _, rfl, this, fun y hy => by simp only [Option.some.injEq] at hy; subst hy; exact hg, hbw⟩

end Go.Proofs.Ytbgdckhadfcnbaa

/-
  The contracts of layer 5's reference's Bytes and Hash. Condition: rows of 128 bits; at most 1000 bytes.
-/
namespace Go.Proofs.Ytbgdckhadfcnbaa
open Go.RowKit

/-- The bytes of an element, behind so many bits. -/
def byS (a : Fe) : Nat → List UInt8
  | 0 => List.replicate 16 0
  | i + 1 => if a.getLsbD i then (byS a i).set (i / 8) ((byS a i).getD (i / 8) 0 ||| (1 <<< UInt8.ofNat (7 - i % 8))) else byS a i
def byF (a : Fe) : List UInt8 := byS a 128
theorem byS_length (a : Fe) (i : Nat) : (byS a i).length = 16 := by
  induction i with
  | zero => rfl
  | succ i ih =>
    rw [byS]
    split
    · rw [List.length_set, ih]
    · exact ih
theorem shl_one {s : Nat} (h : s < 8) : (1 : Int) * (2 : Int) ^ s % 256 = ((1 <<< UInt8.ofNat s : UInt8).toNat : Int) := b_shl 1 s h
theorem pow_byte {s : Nat} (h : s < 8) : (2 : Int) ^ s = ((1 <<< UInt8.ofNat s : UInt8).toNat : Int) := by
  have : ∀ i : Fin 8, (2 : Int) ^ i.val = ((1 <<< UInt8.ofNat i.val : UInt8).toNat : Int) := by decide +kernel
  exact this ⟨s, h⟩

set_option maxRecDepth 100000 in
set_option maxHeartbeats 1000000 in
theorem rBytesF (w : World) {pa : Option Addr} {ca : Nat} {a : Fe} (ha : Bo w pa 128 ca (fb a)) :
    Calls Try.prog 56 #[.slice pa 128 ca] w (Gives w (byF a)) := by
  obtain ⟨ba, oa, rfl, hal, hca⟩ := ha.at (by omega)
  clear ha
  go_enter Try.func56, Try.ntmps56
  go_wp2_with (at_make; go_must (refine wpList_mkn w rfl _ _ rfl w.heap.size 16 _ rfl rfl rfl (by omega) (Nat.le_refl _) ?_); intro g w1 hg hgl hown hb1)
  go_loopw [4] (fun i wr => ∃ k : Nat, k ≤ 128 ∧ i = .int .i64 k ∧ Own wr w.heap.size (.slice (some ⟨g, 0, none⟩) 16 16) (byS a k) ∧ Below w.heap.size w wr) (fun i _ => 128 - (intOf i).toNat)
  case atStart => exact ⟨0, by omega, rfl, hown, hb1⟩
  case round =>
    clear hown hb1
    obtain ⟨k, hk, rfl, ho, hb⟩ := hrel
    by_cases hlt : k < 128
    · have h0 : (0 : Int) ≤ (k : Int) := by omega
      have h8 : (k : Int) < 128 := by omega
      have c1 : wr.cell? ⟨ba, oa + k, none⟩ = some (.bool (a.getLsbD k)) := by rw [hb.cell (p := ⟨ba, oa + k, none⟩) hal, hca k hlt, fb_at a hlt]
      have HN : byS a (k + 1) = if a.getLsbD k then (byS a k).set (k / 8) ((byS a k).getD (k / 8) 0 ||| (1 <<< UInt8.ofNat (7 - k % 8))) else byS a k := rfl
      generalize a.getLsbD k = bit at c1 HN
      have t1 := quo8 k
      have t2 : (k : Int) / 8 = ((k / 8 : Nat) : Int) := by omega
      have t3 := rem8 k
      have t4 : (k : Int) % 8 = ((k % 8 : Nat) : Int) := by omega
      have q16 : k / 8 < 16 := by omega
      have m8 : k % 8 < 8 := by omega
      cases bit with
      | false =>
        have HN' : Hid (byS a (k + 1) = byS a k) := by show _ = _; rw [HN]; rfl
        clear HN
        go_wp2_with fail
        go_roundw
        case rel => exact ⟨k + 1, by omega, by go_num, by rw [HN'.out]; exact ho, hb⟩
        case measure => simp [intOf]; omega
      | true =>
        have HN' : byS a (k + 1) = (byS a k).set (k / 8) ((byS a k).getD (k / 8) 0 ||| (1 <<< UInt8.ofNat (7 - k % 8))) := by rw [HN]; rfl
        clear HN
        generalize k / 8 = q at *
        generalize k % 8 = m at *
        obtain ⟨s, hs⟩ : ∃ s, s = 7 - m := ⟨_, rfl⟩
        rw [← hs] at HN'
        have s0 : (7 : Int) - (m : Int) = (s : Int) := by omega
        have s0w : IntKind.i64.wrap ((7 : Int) - (m : Int)) = (s : Int) := by rw [IntKind.wrap_i64]; omega
        have s1 : (0 : Int) ≤ (s : Int) := by omega
        have q0 : (0 : Int) ≤ (q : Int) := by omega
        have q1 : (q : Int) < 16 := by omega
        have qw : IntKind.i64.wrap (q : Int) = (q : Int) := by rw [IntKind.wrap_i64]; omega
        have hlen := byS_length a k
        have d1 : wr.cell? ⟨g, q, none⟩ = some (.int .u8 ((byS a k).getD q 0).toNat) := by
          obtain ⟨_, _, e, hc⟩ := ho.toBs.2.2.2.2 q q16
          simp only [Option.some.injEq, Addr.mk.injEq, and_true] at e
          obtain ⟨rfl, rfl⟩ := e
          rw [Nat.zero_add] at hc
          exact hc
        have f1 := ho.free hlen q
        have o2 := ho.set hlen q ((byS a k).getD q 0 ||| (1 <<< UInt8.ofNat s))
        rw [← HN'] at o2
        have p1 := pow_byte (s := s) (by omega)
        have p2 := shl_one (s := s) (by omega)
        have p3 : (2 : Int) ^ s % 256 = ((1 <<< UInt8.ofNat s : UInt8).toNat : Int) := by rw [Int.one_mul] at p2; exact p2
        generalize (byS a k).getD q 0 = y at d1 o2
        generalize (1 <<< UInt8.ofNat s : UInt8) = z at *
        have p4 := b_or y z
        rw [← p4] at o2
        have O2 : Hid _ := o2
        clear o2 HN' hs p4
        go_wp2_with fail
        go_region
        go_wp2_with fail
        go_roundw
        case rel => exact ⟨k + 1, by omega, by go_num, O2.out, (hb.setCell (by simpa using hg) _).drew⟩
        case measure => simp [intOf]; omega
    · obtain rfl : k = 128 := by omega
      go_wp2_with fail
      go_ret
      exact Gives.mk ho hb

end Go.Proofs.Ytbgdckhadfcnbaa
