/-
  Regions that draw their order and end in an operation that writes what they read: what is kept holds until that operation, number e, is done, and e waits for every operation that is taken. No condition; no statement of the seat is proved here.
-/
import Derived.Test.YtcmbkpdefbaakaaGrow
namespace Go.Proofs.Ytcmbkpdefbaakaa
open Go.RowKit

/-- What is kept, as long as number e has not been done. -/
def okE (S : World → Prop) (e : Nat) (listed : Array Bool) (w : World) : Prop := listed.getD e true = true ∨ S w
theorem okE.got {S : World → Prop} {e : Nat} {listed : Array Bool} {w : World} (h : okE S e listed w) (he : listed.getD e true = false) : S w := by
  rcases h with h | h
  · rw [he] at h; cases h
  · exact h
/-- Whatever order is picked from here on, in whatever world has grown of this one. -/
def wpAnyE (P : Program) (md : Region.Mode) (ops : Array Oper) (Q : Exit → Act → World → Prop) (S : World → Prop) (e : Nat) : Nat → Array Bool → Act → World → Prop
  | 0, listed, a, w => Region.ready md ops listed = [] ∧ ∀ w', Grows w w' → okE S e listed w' → Q .normal a w'
  | fuel + 1, listed, a, w => ∀ w', Grows w w' → okE S e listed w' → (Region.ready md ops listed = [] → Q .normal a w') ∧
      ∀ i ∈ Region.ready md ops listed, wpOp P ops Q i (fun a' w'' => okE S e (listed.setIfInBounds i true) w'' ∧ wpAnyE P md ops Q S e fuel (listed.setIfInBounds i true) a' w'') a w'
theorem wpAnyE.grow {P : Program} {ops : Array Oper} {Q : Exit → Act → World → Prop} {md : Region.Mode} {S : World → Prop} {e : Nat} {fuel : Nat} {listed : Array Bool} {a : Act} {w w1 : World} (h : wpAnyE P md ops Q S e fuel listed a w) (hg : Grows w w1) : wpAnyE P md ops Q S e fuel listed a w1 := by
  cases fuel with
  | zero => exact ⟨h.1, fun w' hw hs => h.2 w' (hg.trans hw) hs⟩
  | succ fuel => exact fun w' hw hs => h w' (hg.trans hw) hs
theorem wpAnyE.any {P : Program} {ops : Array Oper} {Q : Exit → Act → World → Prop} {md : Region.Mode} {S : World → Prop} {e : Nat} : ∀ (fuel : Nat) (listed : Array Bool) (a : Act) (w : World), okE S e listed w → wpAnyE P md ops Q S e fuel listed a w → wpAny P md ops Q fuel listed a w
  | 0, _, _, w, hS, h => ⟨h.1, h.2 w (Grows.refl w) hS⟩
  | fuel + 1, _, _, w, hS, h => by
    obtain ⟨h1, h2⟩ := h w (Grows.refl w) hS
    exact ⟨h1, fun i hi => wpOp_mono (fun a' w' hh => wpAnyE.any fuel _ a' w' hh.1 hh.2) (h2 i hi)⟩
theorem firstE {P : Program} {ops : Array Oper} {Q : Exit → Act → World → Prop} {md : Region.Mode} {S : World → Prop} {e i : Nat} {oi : Oper} {v : Value} (hi : ops[i]? = some oi) (hsel : ∀ (j : Nat) (o : Oper) cs b, ops[j]? = some o → o.op ≠ .select cs b) (hQ : ∀ c a w, Q (.panic c) (a.put oi.dst v) w → Q (.panic c) a w) (hie : i ≠ e)
    (hdep : ∀ oe, ops[e]? = some oe → ∃ x ∈ oe.after, Region.binds md x = true ∧ x.on = i) :
    ∀ (fuel : Nat) (listed : Array Bool) (a : Act) (w : World), listed.getD e true = false →
      (∀ j oj, ops[j]? = some oj → j ≠ i → listed.getD j true = false → (∀ e ∈ oj.after, Region.binds md e = true → e.on ≠ i) → oi.apart ops oj = true) →
      i ∈ Region.ready md ops listed → Ans P ops S oi v a → wpAnyE P md ops Q S e fuel (listed.setIfInBounds i true) (a.put oi.dst v) w → wpAnyE P md ops Q S e (fuel + 1) listed a w := by
  intro fuel
  induction fuel with
  | zero =>
    intro listed a w he _ hr hy H w' hg hS
    refine ⟨fun h => (by rw [h] at hr; cases hr), fun j hj => ?_⟩
    by_cases c : j = i
    · rw [c]
      exact hy.op hi (hS.got he) fun w'' hg' hs => ⟨Or.inr hs, H.1, fun w3 h3 hs3 => H.2 w3 (hg.trans (hg'.trans h3)) hs3⟩
    · have := ready_mono hj c
      rw [H.1] at this
      cases this
  | succ fuel ih =>
    intro listed a w he hfree hr hy H w' hg hS
    refine ⟨fun h => (by rw [h] at hr; cases hr), fun j hj => ?_⟩
    by_cases c : j = i
    · rw [c]
      exact hy.op hi (hS.got he) fun w'' hg' hs => ⟨Or.inr hs, wpAnyE.grow H (hg.trans hg')⟩
    · obtain ⟨hun, oj, hoj, hall⟩ := mem_ready.1 hj
      have hno : ∀ e ∈ oj.after, Region.binds md e = true → e.on ≠ i := fun x hx hb hxi => by
        have h1 := hall x hx hb
        have h0 := (mem_ready.1 hr).1
        rw [hxi] at h1
        rcases Nat.lt_or_ge i listed.size with hl | hl
        · simp [hl] at h0 h1
          rw [h0] at h1
          cases h1
        · simp [Array.getElem?_eq_none hl] at h1
      have hje : j ≠ e := fun q => by
        subst q
        obtain ⟨x, hx, hb, hxi⟩ := hdep oj hoj
        exact hno x hx hb hxi
      have hei : (listed.setIfInBounds i true).getD e true = false := by rw [getD_set_ne true hie]; exact he
      have hej : (listed.setIfInBounds j true).getD e true = false := by rw [getD_set_ne true hje]; exact he
      have hk := other_first hoj (hfree j oj hoj c hun hno) (fun cs b => hsel i oi cs b hi) (fun cs b => hsel j oj cs b hoj) hQ ((H w' hg (Or.inr (hS.got he))).2 j (ready_mono hj c))
      refine wpOp_mono (fun a' w'' hh => ⟨Or.inr (hh.2.1.got (by rw [getD_set_ne true hje]; exact hei)), ih (listed.setIfInBounds j true) a' w'' hej ?_ (ready_mono hr (Ne.symm c)) (hy.same hh.1) ?_⟩) hk
      · intro k ok hk hki hun' hno'
        refine hfree k ok hk hki ?_ hno'
        by_cases hjk : j = k
        · rw [← hjk]; exact hun
        · rw [getD_set_ne true hjk] at hun'; exact hun'
      · rw [Array.setIfInBounds_comm _ _ c]
        exact hh.2.2
/-- Number e waits for number i. -/
def waits (md : Region.Mode) (ops : Array Oper) (e i : Nat) : Bool := (i != e) && (match ops[e]? with | some oe => oe.after.any (fun x => Region.binds md x && x.on == i) | none => false)
theorem waits_spec {md : Region.Mode} {ops : Array Oper} {e i : Nat} (h : waits md ops e i = true) : i ≠ e ∧ ∀ oe, ops[e]? = some oe → ∃ x ∈ oe.after, Region.binds md x = true ∧ x.on = i := by
  unfold waits at h
  rw [Bool.and_eq_true] at h
  refine ⟨by simpa using h.1, fun oe hoe => ?_⟩
  have h2 := h.2
  rw [hoe] at h2
  simp only [Array.any_eq_true'] at h2
  obtain ⟨x, hx, hb⟩ := h2
  rw [Bool.and_eq_true] at hb
  exact ⟨x, hx, hb.1, by simpa using hb.2⟩
/-- Take number i first. -/
theorem takeE {P : Program} {ops : Array Oper} {Q : Exit → Act → World → Prop} {md : Region.Mode} {S : World → Prop} {e : Nat} (i : Nat) (d : Option Tmp) (v : Value) {oi : Oper} {fuel : Nat} {listed : Array Bool} {a : Act} {w : World} (hi : ops[i]? = some oi) (hd : oi.dst = d)
    (hs : Region.noSelect ops = true) (hf : Region.free md ops listed i = true) (hr : (Region.ready md ops listed).contains i = true) (hwt : waits md ops e i = true) (he : listed.getD e true = false)
    (hQ : ∀ c a w, Q (.panic c) (a.put d v) w → Q (.panic c) a w) (hy : Ans P ops S oi v a)
    (h : wpAnyE P md ops Q S e fuel (listed.setIfInBounds i true) (a.put d v) w) : wpAnyE P md ops Q S e (fuel + 1) listed a w := by
  subst hd
  exact firstE hi (Region.noSelect_spec hs) hQ (waits_spec hwt).1 (waits_spec hwt).2 fuel listed a w he (Region.free_spec hi hf) (by simpa using hr) hy h
/-- The one that may come up, ahead of number e. -/
theorem oneE {P : Program} {ops : Array Oper} {Q : Exit → Act → World → Prop} {md : Region.Mode} {S : World → Prop} {e : Nat} (i : Nat) {fuel : Nat} {listed : Array Bool} {a : Act} {w : World} (hr : Region.ready md ops listed = [i]) (he : listed.getD e true = false)
    (h : ∀ w', Grows w w' → S w' → wpOp P ops Q i (fun a' w'' => S w'' ∧ wpAnyE P md ops Q S e fuel (listed.setIfInBounds i true) a' w'') a w') : wpAnyE P md ops Q S e (fuel + 1) listed a w :=
  fun w' hg hS => ⟨fun h0 => (by rw [h0] at hr; cases hr), fun j hj => by
    rw [hr] at hj
    rw [List.mem_singleton.1 hj]
    exact wpOp_mono (fun _ _ hh => ⟨Or.inr hh.1, hh.2⟩) (h w' hg (hS.got he))⟩
/-- Number e itself, the last one. -/
theorem lastE {P : Program} {ops : Array Oper} {Q : Exit → Act → World → Prop} {md : Region.Mode} {S : World → Prop} {e : Nat} {fuel : Nat} {listed : Array Bool} {a : Act} {w : World} (hr : Region.ready md ops listed = [e]) (he : listed.getD e true = false) (hl : (listed.setIfInBounds e true).getD e true = true) (hz : Region.ready md ops (listed.setIfInBounds e true) = [])
    (h : ∀ w', Grows w w' → S w' → wpOp P ops Q e (fun a' w'' => ∀ w3, Grows w'' w3 → Q .normal a' w3) a w') : wpAnyE P md ops Q S e (fuel + 1) listed a w :=
  fun w' hg hS => ⟨fun h0 => (by rw [h0] at hr; cases hr), fun j hj => by
    rw [hr] at hj
    rw [List.mem_singleton.1 hj]
    refine wpOp_mono (fun a' w'' hh => ⟨Or.inl hl, ?_⟩) (h w' hg (hS.got he))
    cases fuel with
    | zero => exact ⟨hz, fun w3 h3 _ => hh w3 h3⟩
    | succ fuel => exact fun w3 h3 _ => ⟨fun _ => hh w3 h3, fun j hj => by rw [hz] at hj; cases hj⟩⟩
/-- The beginning. -/
theorem regionE {P : Program} {ops : Array Oper} {Q : Exit → Act → World → Prop} {S : World → Prop} (e : Nat) {id : Nat} {a : Act} {w : World} (hm : P.follows .mixedOrders = true) (hS : S w.drew) (h : wpAnyE P .any ops Q S e ops.size (Array.replicate ops.size false) a w.drew) : (Code.region id ops true).wp P Q a w :=
  wp_region_any hm (wpAnyE.any _ _ _ _ (Or.inr hS) h)
/-- A call whose answer lies in new memory: the one that may come up. -/
theorem callE {ops : Array Oper} {Q : Exit → Act → World → Prop} {md : Region.Mode} {S : World → Prop} {e : Nat} (i : Nat) (d : Option Tmp) (f : FuncId) (args : Array Operand) (tys : Array TypeId) (vs : Array Value) {oi : Oper} {fuel : Nat} {listed : Array Bool} {a : Act} {w : World} (hi : ops[i]? = some oi) (hd : oi.dst = d)
    (ho : oi.op = .call { callee := .value (.func f), args := args, argTypes := tys }) (hw : Region.wanted oi (yielded ops a.tmps) = true) (hv : (args.toList.map a.eval).toArray = vs) (hr : Region.ready md ops listed = [i]) (he : listed.getD e true = false) (hc : ∀ vs w, (callFunc f vs).run Try.prog w = .ok (.enter f vs) w)
    (h : ∀ w', Grows w w' → S w' → Calls Try.prog f vs w' fun x w'' => ∃ v, x = .returned v ∧ S w'' ∧ wpAnyE Try.prog md ops Q S e fuel (listed.setIfInBounds i true) (a.put d v) w'') : wpAnyE Try.prog md ops Q S e (fuel + 1) listed a w := by
  subst hd
  have hv' : args.map a.eval = vs := by rw [← hv]; apply Array.toList_inj.1; rw [Array.toList_map]
  subst hv'
  refine oneE i hr he fun w' hg hS => ?_
  unfold wpOp
  simp only [hi]
  rw [if_pos hw]
  left
  unfold Oper.wp
  have hx : (execOp a.eval oi).run Try.prog w' = .ok (.enter f (args.map a.eval)) w' := by simp [execOp, ho, resolve, invoke, Act.eval, Deferred.ofValue, hc]
  rw [hx, Oper.upon_enter]
  refine (h w' hg hS).mono ?_
  rintro x w'' ⟨v, rfl, hs, hh⟩
  exact ⟨hs, hh⟩

end Go.Proofs.Ytcmbkpdefbaakaa
