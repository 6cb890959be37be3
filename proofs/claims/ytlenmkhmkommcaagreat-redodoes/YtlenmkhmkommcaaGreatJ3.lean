/-
  5 texts in one. No statement of the seat is proved here.
-/
import Derived.Test.YtlenmkhmkommcaaGreatJ2
import Derived.OrdersHeld
import Derived.Deep.RegionHeld3
/-
  Regions that draw their order, with calls and new variables in them: a call whose answer is known, and which only makes memory, may be taken first, if all that follows is shown in every world that has grown. No condition; no statement of the seat is proved here.
-/
namespace Go.Proofs.YtlenmkhmkommcaaGreat
open Go.RowKit


/-- The world has only grown. -/
def Grows (w w' : World) : Prop := Below w.heap.size w w'
theorem Grows.refl (w : World) : Grows w w := Below.refl _ _
theorem Grows.trans {a b c : World} (h : Grows a b) (k : Grows b c) : Grows a c := Below.trans h (Below.mono k (Below.size h))

/-- What another operation does to a state in which this one's answer lies already, it does to the state in which it does not lie yet. -/
theorem other_first {P : Program} {ops : Array Oper} {Q : Exit → Act → World → Prop} {j : Nat} {oi oj : Oper} {v : Value} (hj : ops[j]? = some oj) (hap : oi.apart ops oj = true) (hsi : ∀ cs b, oi.op ≠ .select cs b) (hsj : ∀ cs b, oj.op ≠ .select cs b)
    (hQ : ∀ c a w, Q (.panic c) (a.put oi.dst v) w → Q (.panic c) a w) {K : Act → World → Prop} {a : Act} {w : World} (h : wpOp P ops Q j K (a.put oi.dst v) w) :
    wpOp P ops Q j (fun a' w' => (execOp a'.eval oi = execOp a.eval oi ∧ Region.wanted oi (yielded ops a'.tmps) = Region.wanted oi (yielded ops a.tmps)) ∧ K (a'.put oi.dst v) w') a w := by
  obtain ⟨h1, h2, h3⟩ := Oper.apart_spec hap
  have kp : ∀ (b : Act), (execOp b.eval oi = execOp a.eval oi ∧ Region.wanted oi (yielded ops b.tmps) = Region.wanted oi (yielded ops a.tmps)) → ∀ u, execOp (b.put oj.dst u).eval oi = execOp a.eval oi ∧ Region.wanted oi (yielded ops (b.put oj.dst u).tmps) = Region.wanted oi (yielded ops a.tmps) :=
    fun b hb u => ⟨(execOp_put oi hsi b oj.dst u h3).trans hb.1, (wanted_put oi b oj.dst u h3).trans hb.2⟩
  have k0 := kp a ⟨rfl, rfl⟩
  have sw : ∀ (b : Act) u, (b.put oj.dst u).put oi.dst v = (b.put oi.dst v).put oj.dst u := fun b u => (Act.put_comm b v u h2).symm
  have e1 := execOp_put oj hsj a oi.dst v h1
  have e2 := wanted_put oj a oi.dst v h1
  revert h
  unfold wpOp
  simp only [hj, e2]
  by_cases hw : Region.wanted oj (yielded ops a.tmps) = true
  · simp only [hw, if_true]
    rintro (h | ⟨ha, hl⟩)
    · left
      revert h
      unfold Oper.wp
      rw [e1]
      cases (execOp a.eval oj).run P w with
      | halt x w' =>
        intro h
        cases x
        case panic u => exact hQ _ _ _ h
        all_goals exact h
      | ok n w' =>
        intro h
        cases n with
        | value u => exact ⟨k0 u, by rw [sw]; exact h⟩
        | skip => exact ⟨k0 _, by rw [sw]; exact h⟩
        | defer d => exact ⟨kp { a with defers := d :: a.defers } ⟨rfl, rfl⟩ _, by rw [sw, ← Act.put_defers]; exact h⟩
        | enter f args =>
          refine Calls.mono h fun e w'' he => ?_
          cases e with
          | returned u => exact ⟨k0 u, by rw [sw]; exact he⟩
          | panicked c => exact hQ _ _ _ he
          | outgrown => exact he
        | row r args => exact Rows.mono h fun u w'' he => ⟨k0 u, by rw [sw]; exact he⟩
        | _ => exact h
    · right
      refine ⟨?_, hl⟩
      unfold Oper.asks at *
      rw [e1] at ha
      exact ha
  · rw [Bool.not_eq_true] at hw
    simp only [hw, Bool.false_eq_true, if_false]
    intro h
    exact ⟨k0 _, by rw [sw]; exact h⟩


/-- In every world that meets S the operation answers v, and the world has only grown. -/
def Ans (P : Program) (ops : Array Oper) (S : World → Prop) (o : Oper) (v : Value) (a : Act) : Prop :=
  (Region.wanted o (yielded ops a.tmps) = true ∧ ∀ w, S w → (execOp a.eval o).run P w = .ok (.value v) w ∨ ∃ f args, (execOp a.eval o).run P w = .ok (.enter f args) w ∧ Calls P f args w fun e w' => e = .returned v ∧ Grows w w' ∧ S w') ∨
  (Region.wanted o (yielded ops a.tmps) = false ∧ v = undef)
theorem Ans.same {P : Program} {ops : Array Oper} {S : World → Prop} {o : Oper} {v : Value} {a b : Act} (h : Ans P ops S o v a) (he : execOp b.eval o = execOp a.eval o ∧ Region.wanted o (yielded ops b.tmps) = Region.wanted o (yielded ops a.tmps)) : Ans P ops S o v b := by
  unfold Ans at *
  rw [he.1, he.2]
  exact h
theorem Ans.op {P : Program} {ops : Array Oper} {Q : Exit → Act → World → Prop} {S : World → Prop} {i : Nat} {o : Oper} {v : Value} {a : Act} (hi : ops[i]? = some o) (h : Ans P ops S o v a) {K : Act → World → Prop} {w : World} (hS : S w) (k : ∀ w', Grows w w' → S w' → K (a.put o.dst v) w') : wpOp P ops Q i K a w := by
  unfold wpOp
  simp only [hi]
  rcases h with ⟨hw, hv⟩ | ⟨hw, rfl⟩
  · simp only [hw, if_true]
    left
    unfold Oper.wp
    rcases hv w hS with e | ⟨f, args, e, hc⟩
    · rw [e]
      exact k w (Grows.refl w) hS
    · rw [e, Oper.upon_enter]
      refine hc.mono ?_
      rintro e w' ⟨rfl, hg, hs⟩
      exact k w' hg hs
  · simp only [hw, Bool.false_eq_true, if_false]
    exact k w (Grows.refl w) hS

/-- Whatever order is picked from here on, in whatever world has grown of this one. -/
def wpAnyG (P : Program) (md : Region.Mode) (ops : Array Oper) (Q : Exit → Act → World → Prop) (S : World → Prop) : Nat → Array Bool → Act → World → Prop
  | 0, listed, a, w => Region.ready md ops listed = [] ∧ ∀ w', Grows w w' → S w' → Q .normal a w'
  | fuel + 1, listed, a, w => ∀ w', Grows w w' → S w' → (Region.ready md ops listed = [] → Q .normal a w') ∧
      ∀ i ∈ Region.ready md ops listed, wpOp P ops Q i (fun a' w'' => S w'' ∧ wpAnyG P md ops Q S fuel (listed.setIfInBounds i true) a' w'') a w'
theorem wpAnyG.grow {P : Program} {ops : Array Oper} {Q : Exit → Act → World → Prop} {md : Region.Mode} {S : World → Prop} {fuel : Nat} {listed : Array Bool} {a : Act} {w w1 : World} (h : wpAnyG P md ops Q S fuel listed a w) (hg : Grows w w1) : wpAnyG P md ops Q S fuel listed a w1 := by
  cases fuel with
  | zero => exact ⟨h.1, fun w' hw hs => h.2 w' (hg.trans hw) hs⟩
  | succ fuel => exact fun w' hw hs => h w' (hg.trans hw) hs
theorem wpAnyG.any {P : Program} {ops : Array Oper} {Q : Exit → Act → World → Prop} {md : Region.Mode} {S : World → Prop} : ∀ (fuel : Nat) (listed : Array Bool) (a : Act) (w : World), S w → wpAnyG P md ops Q S fuel listed a w → wpAny P md ops Q fuel listed a w
  | 0, _, _, w, hS, h => ⟨h.1, h.2 w (Grows.refl w) hS⟩
  | fuel + 1, _, _, w, hS, h => by
    obtain ⟨h1, h2⟩ := h w (Grows.refl w) hS
    exact ⟨h1, fun i hi => wpOp_mono (fun a' w' hh => wpAnyG.any fuel _ a' w' hh.1 hh.2) (h2 i hi)⟩

theorem firstG {P : Program} {ops : Array Oper} {Q : Exit → Act → World → Prop} {md : Region.Mode} {S : World → Prop} {i : Nat} {oi : Oper} {v : Value} (hi : ops[i]? = some oi) (hsel : ∀ (j : Nat) (o : Oper) cs b, ops[j]? = some o → o.op ≠ .select cs b) (hQ : ∀ c a w, Q (.panic c) (a.put oi.dst v) w → Q (.panic c) a w) :
    ∀ (fuel : Nat) (listed : Array Bool) (a : Act) (w : World),
      (∀ j oj, ops[j]? = some oj → j ≠ i → listed.getD j true = false → (∀ e ∈ oj.after, Region.binds md e = true → e.on ≠ i) → oi.apart ops oj = true) →
      i ∈ Region.ready md ops listed → Ans P ops S oi v a → wpAnyG P md ops Q S fuel (listed.setIfInBounds i true) (a.put oi.dst v) w → wpAnyG P md ops Q S (fuel + 1) listed a w := by
  intro fuel
  induction fuel with
  | zero =>
    intro listed a w _ hr hy H w' hg hS
    refine ⟨fun h => (by rw [h] at hr; cases hr), fun j hj => ?_⟩
    by_cases e : j = i
    · rw [e]
      exact hy.op hi hS fun w'' hg' hs => ⟨hs, H.1, fun w3 h3 hs3 => H.2 w3 (hg.trans (hg'.trans h3)) hs3⟩
    · have := ready_mono hj e
      rw [H.1] at this
      cases this
  | succ fuel ih =>
    intro listed a w hfree hr hy H w' hg hS
    refine ⟨fun h => (by rw [h] at hr; cases hr), fun j hj => ?_⟩
    by_cases e : j = i
    · rw [e]
      exact hy.op hi hS fun w'' hg' hs => ⟨hs, wpAnyG.grow H (hg.trans hg')⟩
    · obtain ⟨hun, oj, hoj, hall⟩ := mem_ready.1 hj
      have hno : ∀ e ∈ oj.after, Region.binds md e = true → e.on ≠ i := fun x hx hb hxi => by
        have h1 := hall x hx hb
        have h0 := (mem_ready.1 hr).1
        rw [hxi] at h1
        rcases Nat.lt_or_ge i listed.size with hl | hl
        · simp [hl] at h0 h1
          rw [h0] at h1
          cases h1
        · simp [Array.getElem?_eq_none hl] at h1
      have hk := other_first hoj (hfree j oj hoj e hun hno) (fun cs b => hsel i oi cs b hi) (fun cs b => hsel j oj cs b hoj) hQ ((H w' hg hS).2 j (ready_mono hj e))
      refine wpOp_mono (fun a' w'' hh => ⟨hh.2.1, ih (listed.setIfInBounds j true) a' w'' ?_ (ready_mono hr (Ne.symm e)) (hy.same hh.1) ?_⟩) hk
      · intro k ok hk hki hun' hno'
        refine hfree k ok hk hki ?_ hno'
        by_cases hjk : j = k
        · rw [← hjk]; exact hun
        · rw [getD_set_ne true hjk] at hun'; exact hun'
      · rw [Array.setIfInBounds_comm _ _ e]
        exact hh.2.2

/-- Take number i first. -/
theorem takeG {P : Program} {ops : Array Oper} {Q : Exit → Act → World → Prop} {md : Region.Mode} {S : World → Prop} (i : Nat) (d : Option Tmp) (v : Value) {oi : Oper} {fuel : Nat} {listed : Array Bool} {a : Act} {w : World} (hi : ops[i]? = some oi) (hd : oi.dst = d)
    (hs : Region.noSelect ops = true) (hf : Region.free md ops listed i = true) (hr : (Region.ready md ops listed).contains i = true)
    (hQ : ∀ c a w, Q (.panic c) (a.put d v) w → Q (.panic c) a w) (hy : Ans P ops S oi v a)
    (h : wpAnyG P md ops Q S fuel (listed.setIfInBounds i true) (a.put d v) w) : wpAnyG P md ops Q S (fuel + 1) listed a w := by
  subst hd
  exact firstG hi (Region.noSelect_spec hs) hQ fuel listed a w (Region.free_spec hi hf) (by simpa using hr) hy h
/-- What only reckons. -/
theorem ans_plain {P : Program} {ops : Array Oper} {S : World → Prop} {oi : Oper} {v : Value} {a : Act} (hw : Region.wanted oi (yielded ops a.tmps) = true) (h : ∀ w, S w → (execOp a.eval oi).run P w = .ok (.value v) w) : Ans P ops S oi v a :=
  Or.inl ⟨hw, fun w hS => Or.inl (h w hS)⟩
/-- A call. -/
theorem ans_call {P : Program} {ops : Array Oper} {S : World → Prop} (f : FuncId) (args : Array Operand) (tys : Array TypeId) (vs : Array Value) {oi : Oper} {v : Value} {a : Act} (ho : oi.op = .call { callee := .value (.func f), args := args, argTypes := tys }) (hw : Region.wanted oi (yielded ops a.tmps) = true) (hv : (args.toList.map a.eval).toArray = vs)
    (hc : ∀ vs w, (callFunc f vs).run P w = .ok (.enter f vs) w) (h : ∀ w, S w → Calls P f vs w fun e w' => e = .returned v ∧ Grows w w' ∧ S w') : Ans P ops S oi v a := by
  have hv' : args.map a.eval = vs := by rw [← hv]; apply Array.toList_inj.1; rw [Array.toList_map]
  subst hv'
  refine Or.inl ⟨hw, fun w hS => Or.inr ⟨f, args.map a.eval, ?_, h w hS⟩⟩
  simp [execOp, ho, resolve, invoke, Act.eval, Deferred.ofValue, hc]
/-- The one that may come up. -/
theorem oneG {P : Program} {ops : Array Oper} {Q : Exit → Act → World → Prop} {md : Region.Mode} {S : World → Prop} (i : Nat) {fuel : Nat} {listed : Array Bool} {a : Act} {w : World} (hr : Region.ready md ops listed = [i])
    (h : ∀ w', Grows w w' → S w' → wpOp P ops Q i (fun a' w'' => S w'' ∧ wpAnyG P md ops Q S fuel (listed.setIfInBounds i true) a' w'') a w') : wpAnyG P md ops Q S (fuel + 1) listed a w :=
  fun w' hg hS => ⟨fun h0 => (by rw [h0] at hr; cases hr), fun j hj => by
    rw [hr] at hj
    rw [List.mem_singleton.1 hj]
    exact h w' hg hS⟩
theorem doneG {P : Program} {ops : Array Oper} {Q : Exit → Act → World → Prop} {md : Region.Mode} {S : World → Prop} {fuel : Nat} {listed : Array Bool} {a : Act} {w : World} (hr : Region.ready md ops listed = []) (h : ∀ w', Grows w w' → S w' → Q .normal a w') : wpAnyG P md ops Q S fuel listed a w := by
  cases fuel with
  | zero => exact ⟨hr, h⟩
  | succ fuel => exact fun w' hg hS => ⟨fun _ => h w' hg hS, fun j hj => by rw [hr] at hj; cases hj⟩
/-- The beginning. -/
theorem regionG {P : Program} {ops : Array Oper} {Q : Exit → Act → World → Prop} {S : World → Prop} {id : Nat} {a : Act} {w : World} (hm : P.follows .mixedOrders = true) (hS : S w.drew) (h : wpAnyG P .any ops Q S ops.size (Array.replicate ops.size false) a w.drew) : (Code.region id ops true).wp P Q a w :=
  wp_region_any hm (wpAnyG.any _ _ _ _ hS h)

/-- An operation that makes a variable. -/
def Makes (P : Program) (ops : Array Oper) (i : Nat) (d : Tmp) (cells : Array Value) (t : TypeId) : Prop :=
  ∃ o, ops[i]? = some o ∧ o.dst = some d ∧ o.guard = none ∧ ∀ (ρ : Operand → Value) (w : World), (execOp ρ o).run P w = .ok (.value (.pointer (some ⟨w.heap.size, 0, none⟩))) (w.alloc (.cells cells t))
theorem Makes.op {P : Program} {ops : Array Oper} {Q : Exit → Act → World → Prop} {i : Nat} {d : Tmp} {cells : Array Value} {t : TypeId} (h : Makes P ops i d cells t) {K : Act → World → Prop} {a : Act} {w : World} (k : K (a.put (some d) (.pointer (some ⟨w.heap.size, 0, none⟩))) (w.alloc (.cells cells t))) : wpOp P ops Q i K a w := by
  obtain ⟨o, hi, hd, hg, hx⟩ := h
  unfold wpOp
  simp only [hi]
  rw [if_pos (by simp [Region.wanted, hg])]
  left
  unfold Oper.wp
  rw [hx, Oper.upon_value, hd]
  exact k
/-- A call that only makes memory, in whatever world has grown of W. -/
theorem ans_fn {ops : Array Oper} {W : World} {oi : Oper} {a : Act} (f : FuncId) (args : Array Operand) (tys : Array TypeId) (vs : Array Value) {v : Value} (ho : oi.op = .call { callee := .value (.func f), args := args, argTypes := tys }) (hw : Region.wanted oi (yielded ops a.tmps) = true) (hv : (args.toList.map a.eval).toArray = vs)
    (hc : ∀ vs w, (callFunc f vs).run Tryz.prog w = .ok (.enter f vs) w) (h : ∀ w, Grows W w → Calls Tryz.prog f vs w fun e w' => e = .returned v ∧ Below w.heap.size w w') : Ans Tryz.prog ops (Grows W) oi v a :=
  ans_call f args tys vs ho hw hv hc fun w hg => (h w hg).mono fun _ _ h2 => ⟨h2.1, h2.2, Grows.trans hg h2.2⟩
/-- A call whose answer lies in new memory: the one that may come up. -/
theorem callG {ops : Array Oper} {Q : Exit → Act → World → Prop} {md : Region.Mode} {S : World → Prop} (i : Nat) (d : Option Tmp) (f : FuncId) (args : Array Operand) (tys : Array TypeId) (vs : Array Value) {oi : Oper} {fuel : Nat} {listed : Array Bool} {a : Act} {w : World} (hi : ops[i]? = some oi) (hd : oi.dst = d)
    (ho : oi.op = .call { callee := .value (.func f), args := args, argTypes := tys }) (hw : Region.wanted oi (yielded ops a.tmps) = true) (hv : (args.toList.map a.eval).toArray = vs) (hr : Region.ready md ops listed = [i]) (hc : ∀ vs w, (callFunc f vs).run Tryz.prog w = .ok (.enter f vs) w)
    (h : ∀ w', Grows w w' → S w' → Calls Tryz.prog f vs w' fun e w'' => ∃ v, e = .returned v ∧ S w'' ∧ wpAnyG Tryz.prog md ops Q S fuel (listed.setIfInBounds i true) (a.put d v) w'') : wpAnyG Tryz.prog md ops Q S (fuel + 1) listed a w := by
  subst hd
  have hv' : args.map a.eval = vs := by rw [← hv]; apply Array.toList_inj.1; rw [Array.toList_map]
  subst hv'
  refine oneG i hr fun w' hg hS => ?_
  unfold wpOp
  simp only [hi]
  rw [if_pos hw]
  left
  unfold Oper.wp
  have hx : (execOp a.eval oi).run Tryz.prog w' = .ok (.enter f (args.map a.eval)) w' := by simp [execOp, ho, resolve, invoke, Act.eval, Deferred.ofValue, hc]
  rw [hx, Oper.upon_enter]
  refine (h w' hg hS).mono ?_
  rintro e w'' ⟨v, rfl, hs, hh⟩
  exact ⟨hs, hh⟩

end Go.Proofs.YtlenmkhmkommcaaGreat

/-
  Regions that draw their order and end in an operation that writes what they read: what is kept holds until that operation, number e, is done, and e waits for every operation that is taken. No condition; no statement of the seat is proved here.
-/
namespace Go.Proofs.YtlenmkhmkommcaaGreat
open Go.RowKit

/-- What is kept, as long as number e has not been done. -/
def okE (S : World → Prop) (e : Nat) (listed : Array Bool) (w : World) : Prop := listed.getD e true = true ∨ S w
theorem okE.got {S : World → Prop} {e : Nat} {listed : Array Bool} {w : World} (h : okE S e listed w) (he : listed.getD e true = false) : S w := by
  rcases h with h | h
  · rw [he] at h; cases h
  · exact h
/-- Whatever order is picked from here on, in whatever world has grown of this one. -/
def wpAnyE (P : Program) (md : Region.Mode) (ops : Array Oper) (Q : Exit → Act → World → Prop) (S : World → Prop) (e : Nat) : Nat → Array Bool → Act → World → Prop
  | 0, listed, a, w => Region.ready md ops listed = [] ∧ ∀ w', Grows w w' → okE S e listed w' → Q .normal a w'
  | fuel + 1, listed, a, w => ∀ w', Grows w w' → okE S e listed w' → (Region.ready md ops listed = [] → Q .normal a w') ∧
      ∀ i ∈ Region.ready md ops listed, wpOp P ops Q i (fun a' w'' => okE S e (listed.setIfInBounds i true) w'' ∧ wpAnyE P md ops Q S e fuel (listed.setIfInBounds i true) a' w'') a w'
theorem wpAnyE.grow {P : Program} {ops : Array Oper} {Q : Exit → Act → World → Prop} {md : Region.Mode} {S : World → Prop} {e : Nat} {fuel : Nat} {listed : Array Bool} {a : Act} {w w1 : World} (h : wpAnyE P md ops Q S e fuel listed a w) (hg : Grows w w1) : wpAnyE P md ops Q S e fuel listed a w1 := by
  cases fuel with
  | zero => exact ⟨h.1, fun w' hw hs => h.2 w' (hg.trans hw) hs⟩
  | succ fuel => exact fun w' hw hs => h w' (hg.trans hw) hs
theorem wpAnyE.any {P : Program} {ops : Array Oper} {Q : Exit → Act → World → Prop} {md : Region.Mode} {S : World → Prop} {e : Nat} : ∀ (fuel : Nat) (listed : Array Bool) (a : Act) (w : World), okE S e listed w → wpAnyE P md ops Q S e fuel listed a w → wpAny P md ops Q fuel listed a w
  | 0, _, _, w, hS, h => ⟨h.1, h.2 w (Grows.refl w) hS⟩
  | fuel + 1, _, _, w, hS, h => by
    obtain ⟨h1, h2⟩ := h w (Grows.refl w) hS
    exact ⟨h1, fun i hi => wpOp_mono (fun a' w' hh => wpAnyE.any fuel _ a' w' hh.1 hh.2) (h2 i hi)⟩
/-- Number e waits for number i. -/
def waits (md : Region.Mode) (ops : Array Oper) (e i : Nat) : Bool := (i != e) && (match ops[e]? with | some oe => oe.after.any (fun x => Region.binds md x && x.on == i) | none => false)
/-- The one that may come up, ahead of number e. -/
theorem oneE {P : Program} {ops : Array Oper} {Q : Exit → Act → World → Prop} {md : Region.Mode} {S : World → Prop} {e : Nat} (i : Nat) {fuel : Nat} {listed : Array Bool} {a : Act} {w : World} (hr : Region.ready md ops listed = [i]) (he : listed.getD e true = false)
    (h : ∀ w', Grows w w' → S w' → wpOp P ops Q i (fun a' w'' => S w'' ∧ wpAnyE P md ops Q S e fuel (listed.setIfInBounds i true) a' w'') a w') : wpAnyE P md ops Q S e (fuel + 1) listed a w :=
  fun w' hg hS => ⟨fun h0 => (by rw [h0] at hr; cases hr), fun j hj => by
    rw [hr] at hj
    rw [List.mem_singleton.1 hj]
    exact wpOp_mono (fun _ _ hh => ⟨Or.inr hh.1, hh.2⟩) (h w' hg (hS.got he))⟩
/-- Number e itself, the last one. -/
theorem lastE {P : Program} {ops : Array Oper} {Q : Exit → Act → World → Prop} {md : Region.Mode} {S : World → Prop} {e : Nat} {fuel : Nat} {listed : Array Bool} {a : Act} {w : World} (hr : Region.ready md ops listed = [e]) (he : listed.getD e true = false) (hl : (listed.setIfInBounds e true).getD e true = true) (hz : Region.ready md ops (listed.setIfInBounds e true) = [])
    (h : ∀ w', Grows w w' → S w' → wpOp P ops Q e (fun a' w'' => ∀ w3, Grows w'' w3 → Q .normal a' w3) a w') : wpAnyE P md ops Q S e (fuel + 1) listed a w :=
  fun w' hg hS => ⟨fun h0 => (by rw [h0] at hr; cases hr), fun j hj => by
    rw [hr] at hj
    rw [List.mem_singleton.1 hj]
    refine wpOp_mono (fun a' w'' hh => ⟨Or.inl hl, ?_⟩) (h w' hg (hS.got he))
    cases fuel with
    | zero => exact ⟨hz, fun w3 h3 _ => hh w3 h3⟩
    | succ fuel => exact fun w3 h3 _ => ⟨fun _ => hh w3 h3, fun j hj => by rw [hz] at hj; cases hj⟩⟩
/-- The beginning. -/
theorem regionE {P : Program} {ops : Array Oper} {Q : Exit → Act → World → Prop} {S : World → Prop} (e : Nat) {id : Nat} {a : Act} {w : World} (hm : P.follows .mixedOrders = true) (hS : S w.drew) (h : wpAnyE P .any ops Q S e ops.size (Array.replicate ops.size false) a w.drew) : (Code.region id ops true).wp P Q a w :=
  wp_region_any hm (wpAnyE.any _ _ _ _ (Or.inr hS) h)
/-- A call whose answer lies in new memory: the one that may come up. -/
theorem callE {ops : Array Oper} {Q : Exit → Act → World → Prop} {md : Region.Mode} {S : World → Prop} {e : Nat} (i : Nat) (d : Option Tmp) (f : FuncId) (args : Array Operand) (tys : Array TypeId) (vs : Array Value) {oi : Oper} {fuel : Nat} {listed : Array Bool} {a : Act} {w : World} (hi : ops[i]? = some oi) (hd : oi.dst = d)
    (ho : oi.op = .call { callee := .value (.func f), args := args, argTypes := tys }) (hw : Region.wanted oi (yielded ops a.tmps) = true) (hv : (args.toList.map a.eval).toArray = vs) (hr : Region.ready md ops listed = [i]) (he : listed.getD e true = false) (hc : ∀ vs w, (callFunc f vs).run Tryz.prog w = .ok (.enter f vs) w)
    (h : ∀ w', Grows w w' → S w' → Calls Tryz.prog f vs w' fun x w'' => ∃ v, x = .returned v ∧ S w'' ∧ wpAnyE Tryz.prog md ops Q S e fuel (listed.setIfInBounds i true) (a.put d v) w'') : wpAnyE Tryz.prog md ops Q S e (fuel + 1) listed a w := by
  subst hd
  have hv' : args.map a.eval = vs := by rw [← hv]; apply Array.toList_inj.1; rw [Array.toList_map]
  subst hv'
  refine oneE i hr he fun w' hg hS => ?_
  unfold wpOp
  simp only [hi]
  rw [if_pos hw]
  left
  unfold Oper.wp
  have hx : (execOp a.eval oi).run Tryz.prog w' = .ok (.enter f (args.map a.eval)) w' := by simp [execOp, ho, resolve, invoke, Act.eval, Deferred.ofValue, hc]
  rw [hx, Oper.upon_enter]
  refine (h w' hg hS).mono ?_
  rintro x w'' ⟨v, rfl, hs, hh⟩
  exact ⟨hs, hh⟩

end Go.Proofs.YtlenmkhmkommcaaGreat

/-
  Rows of regions that draw their order, whatever the types: loads of a cell and of whole structs, elements of a slice, a store of a struct or a call at the end. No condition; no statement of the seat is proved here.
-/
namespace Go.Proofs.YtlenmkhmkommcaaGreat
open Go.RowKit

theorem ans_of {P : Program} {ops : Array Oper} {S : World → Prop} {o : Oper} {v : Value} {a : Act} (h : YieldsIf P ops S o v a) : Ans P ops S o v a := by
  rcases h with ⟨h1, h2⟩ | h
  · exact ans_plain h1 h2
  · exact Or.inr h
/-- A load of a struct, an array. -/
theorem ans_row {ops : Array Oper} {S : World → Prop} {oi : Oper} {a : Act} (ty : TypeId) (x : Operand) (d : TypeDesc) (n : Nat) (ho : oi.op = .load ty x) (hw : Region.wanted oi (yielded ops a.tmps) = true) (b o : Nat) (hx : a.eval x = .pointer (some ⟨b, o, none⟩)) (vs : List Value) (hv : ∀ w, S w → w.rangeAt b o vs)
    (hu : Tryz.prog.underlying ty = some d) (hd : d.isRow = true) (hn : vs.length = n) (hi : (Tryz.prog.info? ty).map (·.size) = some n) : Ans Tryz.prog ops S oi (.agg vs.toArray) a :=
  ans_of (yieldsIf_load_mid hw ty x ho b o hx vs d hv hu hd (by rw [hn]; exact hi))
/-- A store of a struct, an array into its own variable. -/
theorem opStR {ops : Array Oper} {Q : Exit → Act → World → Prop} (i : Nat) (ty : TypeId) (x y : Operand) (n : Nat) {oi : Oper} {K : Act → World → Prop} {a : Act} {w : World} (hi : ops[i]? = some oi) (hd : oi.dst = none) (ho : oi.op = .store ty x y) (hg : oi.guard = none) (g : Nat) (us vs : List Value) (t : TypeId) (hb : Blk w g us t) (hn : us.length = n) (hm : vs.length = n) (h1 : ∀ v ∈ vs, v.oneCell' = true) (hz : (Tryz.prog.info? ty).map (·.size) = some n)
    (hx : a.eval x = .pointer (some ⟨g, 0, none⟩)) (hy : a.eval y = .agg vs.toArray)
    (k : ∀ w', Blk w' g vs t → Kp (fun j => j = g) w w' → K a w') : wpOp Tryz.prog ops Q i K a w := by
  have hr := run_storeAt_mid (P := Tryz.prog) w g 0 ty vs.toArray (by rw [List.size_toArray, hm]; exact hb.there 0 n (by omega)) (by rw [List.size_toArray, hm]; exact hz) (all_oneCell_toArray h1)
  have hkp : Kp (fun j => j = g) w (w.setCells g 0 vs) := by
    have hh : ∀ (us : List Value) (w0 : World) (o : Nat), Kp (fun j => j = g) w0 (w0.setCells g o us) := by
      intro us
      induction us with
      | nil => intro w0 o; exact Kp.refl _ _
      | cons u us ih => intro w0 o; exact (Kp.of_grown (but_set w0 g o u)).trans (ih _ _)
    exact hh vs w 0
  have hK : Hid _ := k (w.setCells g 0 vs) (hb.setsW _ (by omega)) hkp
  clear k
  unfold wpOp
  simp only [hi]
  rw [if_pos (by simp [Region.wanted, hg])]
  left
  unfold Oper.wp
  simp [execOp, ho, hx, hy, hr, Result.andThen]
  simp only [Oper.upon, hd]
  exact hK.out
/-- A call, the last one. -/
theorem lastC {ops : Array Oper} {Q : Exit → Act → World → Prop} {md : Region.Mode} {S : World → Prop} (i : Nat) (d : Option Tmp) (f : FuncId) (args : Array Operand) (tys : Array TypeId) (vs : Array Value) {oi : Oper} {fuel : Nat} {listed : Array Bool} {a : Act} {w : World} (hi : ops[i]? = some oi) (hd : oi.dst = d)
    (ho : oi.op = .call { callee := .value (.func f), args := args, argTypes := tys }) (hw : Region.wanted oi (yielded ops a.tmps) = true) (hv : (args.toList.map a.eval).toArray = vs) (hr : Region.ready md ops listed = [i]) (he : listed.getD i true = false) (hl : (listed.setIfInBounds i true).getD i true = true) (hz : Region.ready md ops (listed.setIfInBounds i true) = []) (hc : ∀ vs w, (callFunc f vs).run Tryz.prog w = .ok (.enter f vs) w)
    (h : ∀ w', Grows w w' → S w' → Calls Tryz.prog f vs w' fun x w'' => ∃ v, x = .returned v ∧ ∀ w3, Grows w'' w3 → Q .normal (a.put d v) w3) : wpAnyE Tryz.prog md ops Q S i (fuel + 1) listed a w := by
  subst hd
  have hv' : args.map a.eval = vs := by rw [← hv]; apply Array.toList_inj.1; rw [Array.toList_map]
  subst hv'
  refine lastE hr he hl hz fun w' hg hS => ?_
  unfold wpOp
  simp only [hi]
  rw [if_pos hw]
  left
  unfold Oper.wp
  have hx : (execOp a.eval oi).run Tryz.prog w' = .ok (.enter f (args.map a.eval)) w' := by simp [execOp, ho, resolve, invoke, Act.eval, Deferred.ofValue, hc]
  rw [hx, Oper.upon_enter]
  refine (h w' hg hS).mono ?_
  rintro x w'' ⟨v, rfl, hh⟩
  exact hh

end Go.Proofs.YtlenmkhmkommcaaGreat

/-
  Regions that draw their order and end in an operation, number e, that writes what they read, where e waits for the others by a chain of operations. No condition; no statement of the seat is proved here.
-/
namespace Go.Proofs.YtlenmkhmkommcaaGreat
open Go.RowKit

/-- Number e waits for number i, by a chain of at most so many operations. -/
def reach (md : Region.Mode) (ops : Array Oper) : Nat → Nat → Nat → Bool
  | 0, _, _ => false
  | n + 1, e, i => match ops[e]? with
    | some oe => oe.after.any fun x => Region.binds md x && (x.on == i || reach md ops n x.on i)
    | none => false
/-- What is listed is so with all that it waits for. -/
def closed (md : Region.Mode) (ops : Array Oper) (listed : Array Bool) : Prop := ∀ (j : Nat) (o : Oper), ops[j]? = some o → listed.getD j false = true → ∀ x ∈ o.after, Region.binds md x = true → listed.getD x.on false = true
def closedB (md : Region.Mode) (ops : Array Oper) (listed : Array Bool) : Bool := (List.range ops.size).all fun j => !listed.getD j false || (match ops[j]? with | some o => o.after.all (fun x => !Region.binds md x || listed.getD x.on false) | none => true)
theorem closed_of {md : Region.Mode} {ops : Array Oper} {listed : Array Bool} (h : closedB md ops listed = true) : closed md ops listed := by
  intro j o ho hl x hx hb
  unfold closedB at h
  rw [List.all_eq_true] at h
  have hj : j < ops.size := (Array.getElem?_eq_some_iff.1 ho).1
  have := h j (List.mem_range.2 hj)
  rw [ho, hl] at this
  simp only [Bool.not_true, Bool.false_or, Array.all_eq_true'] at this
  have := this x hx
  rw [hb] at this
  simpa using this
theorem closed_set {md : Region.Mode} {ops : Array Oper} {listed : Array Bool} (h : closed md ops listed) {j : Nat} (hj : j ∈ Region.ready md ops listed) : closed md ops (listed.setIfInBounds j true) := by
  intro k o ho hl x hx hb
  by_cases e : j = k
  · subst e
    obtain ⟨_, oj, hoj, hall⟩ := mem_ready.1 hj
    rw [hoj] at ho
    obtain rfl := Option.some.inj ho
    exact getD_set_true (hall x hx hb)
  · rw [getD_set_ne false e] at hl
    exact getD_set_true (h k o ho hl x hx hb)
theorem reach_listed {md : Region.Mode} {ops : Array Oper} {listed : Array Bool} (h : closed md ops listed) {i : Nat} : ∀ (n e : Nat), (∀ oe, ops[e]? = some oe → ∀ x ∈ oe.after, Region.binds md x = true → listed.getD x.on false = true) → reach md ops n e i = true → listed.getD i false = true
  | 0, _, _, hr => by cases hr
  | n + 1, e, he, hr => by
    unfold reach at hr
    cases ho : ops[e]? with
    | none => rw [ho] at hr; cases hr
    | some oe =>
      rw [ho] at hr
      simp only [Array.any_eq_true'] at hr
      obtain ⟨x, hx, hb⟩ := hr
      rw [Bool.and_eq_true, Bool.or_eq_true] at hb
      have hxl := he oe ho x hx hb.1
      rcases hb.2 with e1 | e1
      · have : x.on = i := by simpa using e1
        rw [← this]
        exact hxl
      · exact reach_listed h n x.on (fun o2 ho2 => h x.on o2 ho2 hxl) e1
/-- e is not ready as long as i is not listed. -/
theorem reach_not {md : Region.Mode} {ops : Array Oper} {listed : Array Bool} (h : closed md ops listed) {i n e : Nat} (hr : reach md ops n e i = true) (hi : listed.getD i true = false) : e ∉ Region.ready md ops listed := fun hm => by
  obtain ⟨_, oe, hoe, hall⟩ := mem_ready.1 hm
  have := reach_listed h n e (fun o ho x hx hb => by rw [hoe] at ho; obtain rfl := Option.some.inj ho; exact hall x hx hb) hr
  rcases Nat.lt_or_ge i listed.size with hl | hl
  · simp [hl] at hi this
    rw [hi] at this
    cases this
  · simp [Array.getElem?_eq_none hl] at this

theorem firstT {P : Program} {ops : Array Oper} {Q : Exit → Act → World → Prop} {md : Region.Mode} {S : World → Prop} {e i n : Nat} {oi : Oper} {v : Value} (hi : ops[i]? = some oi) (hsel : ∀ (j : Nat) (o : Oper) cs b, ops[j]? = some o → o.op ≠ .select cs b) (hQ : ∀ c a w, Q (.panic c) (a.put oi.dst v) w → Q (.panic c) a w) (hie : i ≠ e) (hre : reach md ops n e i = true) :
    ∀ (fuel : Nat) (listed : Array Bool) (a : Act) (w : World), listed.getD e true = false → closed md ops listed →
      (∀ j oj, ops[j]? = some oj → j ≠ i → listed.getD j true = false → (∀ e ∈ oj.after, Region.binds md e = true → e.on ≠ i) → oi.apart ops oj = true) →
      i ∈ Region.ready md ops listed → Ans P ops S oi v a → wpAnyE P md ops Q S e fuel (listed.setIfInBounds i true) (a.put oi.dst v) w → wpAnyE P md ops Q S e (fuel + 1) listed a w := by
  intro fuel
  induction fuel with
  | zero =>
    intro listed a w he _ _ hr hy H w' hg hS
    refine ⟨fun h => (by rw [h] at hr; cases hr), fun j hj => ?_⟩
    by_cases c : j = i
    · rw [c]
      exact hy.op hi (hS.got he) fun w'' hg' hs => ⟨Or.inr hs, H.1, fun w3 h3 hs3 => H.2 w3 (hg.trans (hg'.trans h3)) hs3⟩
    · have := ready_mono hj c
      rw [H.1] at this
      cases this
  | succ fuel ih =>
    intro listed a w he hcl hfree hr hy H w' hg hS
    refine ⟨fun h => (by rw [h] at hr; cases hr), fun j hj => ?_⟩
    by_cases c : j = i
    · rw [c]
      exact hy.op hi (hS.got he) fun w'' hg' hs => ⟨Or.inr hs, wpAnyE.grow H (hg.trans hg')⟩
    · obtain ⟨hun, oj, hoj, hall⟩ := mem_ready.1 hj
      have hno : ∀ e ∈ oj.after, Region.binds md e = true → e.on ≠ i := fun x hx hb hxi => by
        have h1 := hall x hx hb
        have h0 := (mem_ready.1 hr).1
        rw [hxi] at h1
        rcases Nat.lt_or_ge i listed.size with hl | hl
        · simp [hl] at h0 h1
          rw [h0] at h1
          cases h1
        · simp [Array.getElem?_eq_none hl] at h1
      have hje : j ≠ e := fun q => by
        subst q
        exact reach_not hcl hre (mem_ready.1 hr).1 hj
      have hei : (listed.setIfInBounds i true).getD e true = false := by rw [getD_set_ne true hie]; exact he
      have hej : (listed.setIfInBounds j true).getD e true = false := by rw [getD_set_ne true hje]; exact he
      have hk := other_first hoj (hfree j oj hoj c hun hno) (fun cs b => hsel i oi cs b hi) (fun cs b => hsel j oj cs b hoj) hQ ((H w' hg (Or.inr (hS.got he))).2 j (ready_mono hj c))
      refine wpOp_mono (fun a' w'' hh => ⟨Or.inr (hh.2.1.got (by rw [getD_set_ne true hje]; exact hei)), ih (listed.setIfInBounds j true) a' w'' hej (closed_set hcl hj) ?_ (ready_mono hr (Ne.symm c)) (hy.same hh.1) ?_⟩) hk
      · intro k ok hk hki hun' hno'
        refine hfree k ok hk hki ?_ hno'
        by_cases hjk : j = k
        · rw [← hjk]; exact hun
        · rw [getD_set_ne true hjk] at hun'; exact hun'
      · rw [Array.setIfInBounds_comm _ _ c]
        exact hh.2.2
/-- What is asked of number i, all at once. -/
def okT (md : Region.Mode) (ops : Array Oper) (e i : Nat) (listed : Array Bool) : Bool :=
  Region.noSelect ops && Region.free md ops listed i && (Region.ready md ops listed).contains i && reach md ops ops.size e i && (i != e) && closedB md ops listed && !listed.getD e true
/-- Take number i first. -/
theorem takeT {P : Program} {ops : Array Oper} {Q : Exit → Act → World → Prop} {md : Region.Mode} {S : World → Prop} {e : Nat} (i : Nat) (d : Option Tmp) (v : Value) {oi : Oper} {fuel : Nat} {listed : Array Bool} {a : Act} {w : World} (hi : ops[i]? = some oi) (hd : oi.dst = d) (ht : okT md ops e i listed = true)
    (hQ : ∀ c a w, Q (.panic c) (a.put d v) w → Q (.panic c) a w) (hy : Ans P ops S oi v a)
    (h : wpAnyE P md ops Q S e fuel (listed.setIfInBounds i true) (a.put d v) w) : wpAnyE P md ops Q S e (fuel + 1) listed a w := by
  subst hd
  unfold okT at ht
  simp only [Bool.and_eq_true] at ht
  obtain ⟨⟨⟨⟨⟨⟨h1, h2⟩, h3⟩, h4⟩, h5⟩, h6⟩, h7⟩ := ht
  exact firstT hi (Region.noSelect_spec h1) hQ (by simpa using h5) h4 fuel listed a w (by simpa using h7) (closed_of h6) (Region.free_spec hi h2) (by simpa using h3) hy h

/-- It answers v in whatever world, and leaves it. -/
def Pure (P : Program) (ops : Array Oper) (o : Oper) (v : Value) (a : Act) : Prop :=
  (Region.wanted o (yielded ops a.tmps) = true ∧ ∀ w, (execOp a.eval o).run P w = .ok (.value v) w) ∨ (Region.wanted o (yielded ops a.tmps) = false ∧ v = undef)
theorem Pure.same {P : Program} {ops : Array Oper} {o : Oper} {v : Value} {a b : Act} (h : Pure P ops o v a) (he : execOp b.eval o = execOp a.eval o ∧ Region.wanted o (yielded ops b.tmps) = Region.wanted o (yielded ops a.tmps)) : Pure P ops o v b := by
  unfold Pure at *
  rw [he.1, he.2]
  exact h
theorem Pure.op {P : Program} {ops : Array Oper} {Q : Exit → Act → World → Prop} {i : Nat} {o : Oper} {v : Value} {a : Act} (hi : ops[i]? = some o) (h : Pure P ops o v a) {K : Act → World → Prop} {w : World} (k : K (a.put o.dst v) w) : wpOp P ops Q i K a w := by
  unfold wpOp
  simp only [hi]
  rcases h with ⟨hw, hv⟩ | ⟨hw, rfl⟩
  · simp only [hw, if_true]
    left
    unfold Oper.wp
    rw [hv w]
    exact k
  · simp only [hw, Bool.false_eq_true, if_false]
    exact k
theorem okE.set {S : World → Prop} {e i : Nat} {listed : Array Bool} {w : World} (hie : i ≠ e) : okE S e (listed.setIfInBounds i true) w ↔ okE S e listed w := by
  unfold okE
  rw [getD_set_ne true hie]
theorem firstP {P : Program} {ops : Array Oper} {Q : Exit → Act → World → Prop} {md : Region.Mode} {S : World → Prop} {e i : Nat} {oi : Oper} {v : Value} (hi : ops[i]? = some oi) (hsel : ∀ (j : Nat) (o : Oper) cs b, ops[j]? = some o → o.op ≠ .select cs b) (hQ : ∀ c a w, Q (.panic c) (a.put oi.dst v) w → Q (.panic c) a w) (hie : i ≠ e) :
    ∀ (fuel : Nat) (listed : Array Bool) (a : Act) (w : World),
      (∀ j oj, ops[j]? = some oj → j ≠ i → listed.getD j true = false → (∀ e ∈ oj.after, Region.binds md e = true → e.on ≠ i) → oi.apart ops oj = true) →
      i ∈ Region.ready md ops listed → Pure P ops oi v a → wpAnyE P md ops Q S e fuel (listed.setIfInBounds i true) (a.put oi.dst v) w → wpAnyE P md ops Q S e (fuel + 1) listed a w := by
  intro fuel
  induction fuel with
  | zero =>
    intro listed a w _ hr hy H w' hg hS
    refine ⟨fun h => (by rw [h] at hr; cases hr), fun j hj => ?_⟩
    by_cases c : j = i
    · rw [c]
      exact hy.op hi ⟨(okE.set hie).2 hS, H.1, fun w3 h3 hs3 => H.2 w3 (hg.trans h3) hs3⟩
    · have := ready_mono hj c
      rw [H.1] at this
      cases this
  | succ fuel ih =>
    intro listed a w hfree hr hy H w' hg hS
    refine ⟨fun h => (by rw [h] at hr; cases hr), fun j hj => ?_⟩
    by_cases c : j = i
    · rw [c]
      exact hy.op hi ⟨(okE.set hie).2 hS, wpAnyE.grow H hg⟩
    · obtain ⟨hun, oj, hoj, hall⟩ := mem_ready.1 hj
      have hno : ∀ e ∈ oj.after, Region.binds md e = true → e.on ≠ i := fun x hx hb hxi => by
        have h1 := hall x hx hb
        have h0 := (mem_ready.1 hr).1
        rw [hxi] at h1
        rcases Nat.lt_or_ge i listed.size with hl | hl
        · simp [hl] at h0 h1
          rw [h0] at h1
          cases h1
        · simp [Array.getElem?_eq_none hl] at h1
      have hk := other_first hoj (hfree j oj hoj c hun hno) (fun cs b => hsel i oi cs b hi) (fun cs b => hsel j oj cs b hoj) hQ ((H w' hg ((okE.set hie).2 hS)).2 j (ready_mono hj c))
      refine wpOp_mono (fun a' w'' hh => ⟨?_, ih (listed.setIfInBounds j true) a' w'' ?_ (ready_mono hr (Ne.symm c)) (hy.same hh.1) ?_⟩) hk
      · have h1 := hh.2.1
        rw [Array.setIfInBounds_comm _ _ (Ne.symm c)] at h1
        exact (okE.set hie).1 h1
      · intro k ok hk hki hun' hno'
        refine hfree k ok hk hki ?_ hno'
        by_cases hjk : j = k
        · rw [← hjk]; exact hun
        · rw [getD_set_ne true hjk] at hun'; exact hun'
      · rw [Array.setIfInBounds_comm _ _ c]
        exact hh.2.2
def okP (md : Region.Mode) (ops : Array Oper) (e i : Nat) (listed : Array Bool) : Bool := Region.noSelect ops && Region.free md ops listed i && (Region.ready md ops listed).contains i && (i != e)
/-- Take number i first, which only reckons. -/
theorem takeP {P : Program} {ops : Array Oper} {Q : Exit → Act → World → Prop} {md : Region.Mode} {S : World → Prop} {e : Nat} (i : Nat) (d : Option Tmp) (v : Value) {oi : Oper} {fuel : Nat} {listed : Array Bool} {a : Act} {w : World} (hi : ops[i]? = some oi) (hd : oi.dst = d) (ht : okP md ops e i listed = true)
    (hQ : ∀ c a w, Q (.panic c) (a.put d v) w → Q (.panic c) a w) (hw : Region.wanted oi (yielded ops a.tmps) = true) (hy : ∀ w, (execOp a.eval oi).run P w = .ok (.value v) w)
    (h : wpAnyE P md ops Q S e fuel (listed.setIfInBounds i true) (a.put d v) w) : wpAnyE P md ops Q S e (fuel + 1) listed a w := by
  subst hd
  unfold okP at ht
  simp only [Bool.and_eq_true] at ht
  obtain ⟨⟨⟨h1, h2⟩, h3⟩, h5⟩ := ht
  exact firstP hi (Region.noSelect_spec h1) hQ (by simpa using h5) fuel listed a w (Region.free_spec hi h2) (by simpa using h3) (Or.inl ⟨hw, hy⟩) h

/-- Number e itself, others behind it. -/
theorem goE {P : Program} {ops : Array Oper} {Q : Exit → Act → World → Prop} {md : Region.Mode} {S : World → Prop} {e : Nat} {fuel : Nat} {listed : Array Bool} {a : Act} {w : World} (hr : Region.ready md ops listed = [e]) (he : listed.getD e true = false) (hl : (listed.setIfInBounds e true).getD e true = true)
    (h : ∀ w', Grows w w' → S w' → wpOp P ops Q e (fun a' w'' => wpAnyE P md ops Q S e fuel (listed.setIfInBounds e true) a' w'') a w') : wpAnyE P md ops Q S e (fuel + 1) listed a w :=
  fun w' hg hS => ⟨fun h0 => (by rw [h0] at hr; cases hr), fun i hi => by
    rw [hr] at hi
    rw [List.mem_singleton.1 hi]
    exact wpOp_mono (fun a' w'' hh => ⟨Or.inl hl, hh⟩) (h w' hg (hS.got he))⟩
/-- The one that may come up, behind number e. -/
theorem thenE {P : Program} {ops : Array Oper} {Q : Exit → Act → World → Prop} {md : Region.Mode} {S : World → Prop} {e : Nat} (j : Nat) {fuel : Nat} {listed : Array Bool} {a : Act} {w : World} (hj : Region.ready md ops listed = [j]) (hl : (listed.setIfInBounds j true).getD e true = true)
    (h : ∀ w', Grows w w' → wpOp P ops Q j (fun a' w'' => wpAnyE P md ops Q S e fuel (listed.setIfInBounds j true) a' w'') a w') : wpAnyE P md ops Q S e (fuel + 1) listed a w :=
  fun w' hg _ => ⟨fun h0 => (by rw [h0] at hj; cases hj), fun i hi => by
    rw [hj] at hi
    rw [List.mem_singleton.1 hi]
    exact wpOp_mono (fun a' w'' hh => ⟨Or.inl hl, hh⟩) (h w' hg)⟩
/-- The end. -/
theorem endE {P : Program} {ops : Array Oper} {Q : Exit → Act → World → Prop} {md : Region.Mode} {S : World → Prop} {e : Nat} {fuel : Nat} {listed : Array Bool} {a : Act} {w : World} (hz : Region.ready md ops listed = []) (h : ∀ w', Grows w w' → Q .normal a w') : wpAnyE P md ops Q S e fuel listed a w := by
  cases fuel with
  | zero => exact ⟨hz, fun w5 h5 _ => h w5 h5⟩
  | succ fuel => exact fun w5 h5 _ => ⟨fun _ => h w5 h5, fun j hj => by rw [hz] at hj; cases hj⟩

end Go.Proofs.YtlenmkhmkommcaaGreat

/-
  The contract of layer 9's reference's settle. Conditions: lists of at most a million.
-/
namespace Go.Proofs.YtlenmkhmkommcaaGreat
open Go.RowKit

theorem infoC : (Tryz.prog.info? 118).map (fun i => (i.zero, i.size, i.bytes)) = some (some (.agg #[.int .i64 0, .slice none 0 0]), 2, 32) := by kernel_rfl
theorem size40 : (Tryz.prog.info? 42).map (·.size) = some 10 := by kernel_rfl
/-- A literal of one change, the one that may come up. -/
theorem opBSC {ops : Array Oper} {Q : Exit → Act → World → Prop} {i : Nat} {oi : Oper} (d : Option Tmp) (hi : ops[i]? = some oi) (hd : oi.dst = d) (hg : oi.guard = none) (x : Operand) (ho : oi.op = .buildSlice 39 1 #[(0, x)]) {K : Act → World → Prop} {a : Act} {w : World} (u v : Value) (hx : a.eval x = .agg #[u, v])
    (k : K (a.put d (.slice (some ⟨w.heap.size, 0, none⟩) 1 1)) (w.alloc (.cells #[u, v] 118))) : wpOp Tryz.prog ops Q i K a w := by
  subst hd
  have hK : Hid _ := k
  clear k
  unfold wpOp
  simp only [hi]
  rw [if_pos (by simp [Region.wanted, hg])]
  left
  unfold Oper.wp execOp
  simp only [ho, List.map_toArray, List.map_cons, List.map_nil, hx]
  go_simp
  exact hK.out
/-- A slice of changes stored into a field, the one that may come up. -/
theorem opStC {ops : Array Oper} {Q : Exit → Act → World → Prop} {i : Nat} {oi : Oper} (hi : ops[i]? = some oi) (hd : oi.dst = none) (hg : oi.guard = none) (x y : Operand) (ho : oi.op = .store 39 x y) {K : Act → World → Prop} {a : Act} {w : World} (g o : Nat) (hx : a.eval x = .pointer (some ⟨g, o, none⟩)) (s : Option Addr) (n c : Nat) (hy : a.eval y = .slice s n c) (vs : List Value) (t : TypeId) (hb : Blk w g vs t) (ho2 : o < vs.length)
    (k : K a (w.setCell ⟨g, o, none⟩ (.slice s n c))) : wpOp Tryz.prog ops Q i K a w := by
  have hc := hb.cell o
  rw [List.getElem?_eq_getElem ho2] at hc
  have hf := hb.free o
  have hl := hb.lt
  have hK : Hid _ := k
  clear k
  unfold wpOp
  simp only [hi]
  rw [if_pos (by simp [Region.wanted, hg])]
  left
  unfold Oper.wp execOp
  simp only [ho, hx, hy]
  go_simp
  exact hK.out
/-- A disk's zero. -/
def z40 : List Value := [.int .i64 0, .int .i64 0, .bool false, .bool false, .int .i64 0, .slice none 0 0, .slice none 0 0, .slice none 0 0, .slice none 0 0, .int .i64 0]
theorem ne5 : 118 ≠ 5 := by decide

theorem OwC.grown {A : Nat → Prop} {e : TypeId} {w w' : World} {base r : Nat} {v : Value} {l : List Chg} (h : OwS (elC A) 2 e w base v l) (g : w.grownBy w' (some r)) (hr : r < base) (h5 : ∀ cur f, w.heap[r]? ≠ some (.cells cur 5 f)) : OwS (elC A) 2 e w' base v l :=
  h.keep (elC.grown g (fun j cur f hj => by obtain rfl := Option.some.inj hj; exact h5 cur f)) (fun j hj => g.block j (h.lt j hj).2 (fun e => by have := (h.lt j hj).1; have := Option.some.inj e; omega))
theorem OwC.below {A : Nat → Prop} {e : TypeId} {w w' : World} {base : Nat} {v : Value} {l : List Chg} (h : OwS (elC A) 2 e w base v l) (g : Below w.heap.size w w') : OwS (elC A) 2 e w' base v l :=
  h.keep (elC.keep fun j hj _ => g.block j hj) (fun j hj => g.block j (h.lt j hj).2)
theorem Blk.not5 {w : World} {g : Nat} {vs : List Value} {t : TypeId} (h : Blk w g vs t) (ht : t ≠ 5) : ∀ cur f, w.heap[g]? ≠ some (.cells cur 5 f) := fun cur f hh => by
  rw [show w.heap[g]? = _ from h] at hh
  simp only [Option.some.injEq, Obj.cells.injEq] at hh
  exact ht hh.2.1
theorem but_cells (g : Nat) : ∀ (us : List Value) (w : World) (o : Nat), w.grownBy (w.setCells g o us) (some g)
  | [], _, _ => World.grownBy.refl _ _
  | u :: us, w, o => but_trans (but_set w g o u) (but_cells g us _ (o + 1))
theorem ne40 : 42 ≠ 5 := by decide

set_option maxRecDepth 100000 in
set_option maxHeartbeats 4000000 in
theorem rSettle (w : World) {A : Nat → Prop} {D : DskS} {q : Quad} (h : RD A w D q) (hA : ∀ j, w.heap.size ≤ j → A j) (at_ : Int) (hat : i64 at_) {a : Option Addr} {m c : Nat} {b : List UInt8} (hB : Bs w a m c b) (hz : D.safe.length + 1 ≤ 1000000) :
    Calls Tryz.prog 50 #[dv D q, .int .i64 at_, .slice a m c] w fun e w' => ∃ q', e = .returned (dv (D.settle at_ b) q') ∧ RD A w' (D.settle at_ b) q' ∧ Below w.heap.size w w' := by
  obtain ⟨sa, sn, sc, la, ln, lc, ta, tn, tc, pa, pn, pq⟩ := q
  obtain ⟨⟨ps, pf, pd, pg⟩, n, safe, loose, seen, plot, steps⟩ := D
  have HR : Hid (RD A w ⟨⟨ps, pf, pd, pg⟩, n, safe, loose, seen, plot, steps⟩ ⟨sa, sn, sc, la, ln, lc, ta, tn, tc, pa, pn, pq⟩) := h
  have HB : Hid (Bs w a m c b) := hB
  clear h hB
  unfold dv dc DskS.settle
  dsimp only at hz ⊢
  have hsn : safe.length = sn := HR.out.safe.len
  go_enter Tryz.func50, Tryz.ntmps50
  go_wp2_with (at_builtin; go_must (refine wpList_slapp (elC A) 2 32 39 118 _ Tryz.underlying39 infoC rfl (by decide) (by decide) _ rfl (.tmp 11) (.tmp 13) rfl (w.heap.size + 3) (.slice none 0 0) [] rfl (OwS.nil _ _ _ _ _) A sa sn sc safe rfl (HR.out.below (below3 w _ _ _)).safe (by simp; omega) (by simp) (fun w' x vs hg hx => elC.grown hg (fun j cur f hj => by simp [Value.ownBlock] at hj) x vs hx) ?_); intro v1 w1 ho1 hg1; obtain ⟨a1, n1, c1, rfl, hn1⟩ := ho1.shape; rw [List.nil_append] at ho1; have hb1 : Below (w.heap.size + 3) _ w1 := (Below.refl _ _).grown hg1 (by simp) (fun k hk => by simp [Value.ownBlock] at hk); have b1 := (Blk.newAt ((w.alloc _).alloc _) _ 42 (w.heap.size + 1 + 1) (by simp) _ rfl).below hb1 (by omega); have b6 := ((Blk.newAt (w.alloc _) _ 42 (w.heap.size + 1) (by simp) _ rfl).old _).below hb1 (by omega); have k1 : Below w.heap.size w w1 := (below3 w _ _ _).trans (hb1.mono (by omega)); have c5 : w1.cell? ⟨w.heap.size + 1 + 1, 5, none⟩ = some (.slice none 0 0) := b1.cell 5; have z5 := b1.free 5; have l7 := b1.lt)
  obtain ⟨W, hW⟩ : ∃ W, W = w1.setCell ⟨w.heap.size + 1 + 1, 5, none⟩ (.slice a1 n1 c1) := ⟨_, rfl⟩
  rw [← hW]
  have b7 : Blk W (w.heap.size + 1 + 1) (dc ⟨⟨ps, pf, pd, pg⟩, n, safe, loose, seen, plot, steps⟩ ⟨a1, n1, c1, la, ln, lc, ta, tn, tc, pa, pn, pq⟩) 42 := by rw [hW]; exact b1.setC 5 _
  have b6W : Blk W (w.heap.size + 1) z40 42 := by rw [hW]; exact b6.setO (by simp) _
  have kW : Below w.heap.size w W := by rw [hW]; exact k1.setCell (by show w.heap.size ≤ w.heap.size + 1 + 1; omega) _
  have gW : w1.grownBy W (some (w.heap.size + 1 + 1)) := by rw [hW]; exact but_set _ _ _ _
  have hz7 : ∀ j cur f, some (w.heap.size + 1 + 1) = some j → w1.heap[j]? ≠ some (.cells cur 5 f) := fun j cur f hj hh => by obtain rfl := Option.some.inj hj; rw [show w1.heap[w.heap.size + 1 + 1]? = _ from b1] at hh; simp at hh
  have oW : OwS (elC A) 2 118 W (w.heap.size + 3) (.slice a1 n1 c1) safe := ho1.keep (elC.grown gW hz7) (fun j hj => gW.block j (ho1.lt j hj).2 (fun e => by have := (ho1.lt j hj).1; have := Option.some.inj e; omega))
  have F5 : ∀ u, Grows W u → u.cell? ⟨w.heap.size + 1 + 1, 5, none⟩ = some (.slice a1 n1 c1) := fun u h => (b7.below h b7.lt).cell 5
  clear hW hz7 gW hg1 hb1 b1 b6 k1 c5 z5 l7 ho1
  go_wp2_with fail
  refine regionE 7 (S := Grows W) (by kernel_rfl) (Below.refl _ W).drew ?_
  refine takeT 0 (some 16) (.pointer (some ⟨w.heap.size + 1 + 1, 5, none⟩)) rfl rfl (by kernel_rfl) (fun _ _ _ h => h) (ans_plain (by rfl) (fun w _ => by unfold execOp; go_simp)) ?_
  simp only [Act.put, List.setIfInBounds_toArray, List.set_cons_zero, List.set_cons_succ]
  refine takeT 1 (some 17) (.slice a1 n1 c1) rfl rfl (by kernel_rfl) (fun _ _ _ h => h) (ans_plain (by rfl) (fun w h => by have hc := F5 w h; unfold execOp; go_simp)) ?_
  simp only [Act.put, List.setIfInBounds_toArray, List.set_cons_zero, List.set_cons_succ]
  refine takeT 2 (some 18) (.int .i64 at_) rfl rfl (by kernel_rfl) (fun _ _ _ h => h) (ans_plain (by rfl) (fun w _ => rfl)) ?_
  simp only [Act.put, List.setIfInBounds_toArray, List.set_cons_zero, List.set_cons_succ]
  refine takeT 3 (some 19) (.slice a m c) rfl rfl (by kernel_rfl) (fun _ _ _ h => h) (ans_plain (by rfl) (fun w _ => rfl)) ?_
  simp only [Act.put, List.setIfInBounds_toArray, List.set_cons_zero, List.set_cons_succ]
  refine callE 4 (some 20) 88 #[.tmp 19] #[26] #[.slice a m c] rfl rfl rfl (by rfl) (by rfl) (by kernel_rfl) (by kernel_rfl) Tryz.call88 fun u1 hg1 hs1 => ?_
  refine (rFit u1 (HB.out.below (kW.trans (Below.mono hs1 kW.size)) (Nat.le_refl _))).mono ?_
  rintro e u2 ⟨p2, m2, c2, rfl, o2, hb2⟩
  have hs2 : Grows W u2 := Grows.trans hs1 hb2
  refine ⟨_, rfl, hs2, ?_⟩
  simp only [Act.put, List.setIfInBounds_toArray, List.set_cons_zero, List.set_cons_succ]
  refine takeT 5 (some 21) (.agg #[.int .i64 at_, .slice p2 m2 c2]) rfl rfl (by kernel_rfl) (fun _ _ _ h => h) (ans_plain (by rfl) (fun w _ => by unfold execOp; go_simp)) ?_
  simp only [Act.put, List.setIfInBounds_toArray, List.set_cons_zero, List.set_cons_succ]
  refine oneE 6 (by kernel_rfl) (by kernel_rfl) fun u3 hg3 hs3 => ?_
  refine opBSC (some 22) rfl rfl rfl (.tmp 21) rfl (.int .i64 at_) (.slice p2 m2 c2) rfl ⟨Grows.trans hs3 (below_alloc _ _), ?_⟩
  simp only [Act.put, List.setIfInBounds_toArray, List.set_cons_zero, List.set_cons_succ]
  refine goE (by kernel_rfl) (by kernel_rfl) (by kernel_rfl) fun u4 hg4 hs4 => ?_
  refine opApp1 (elC A) 2 32 39 118 _ Tryz.underlying39 infoC rfl (by decide) (by decide) u4 rfl rfl (some 23) rfl (.tmp 17) (.tmp 22) rfl (w.heap.size + 3) (.slice a1 n1 c1) safe rfl (oW.keep (elC.keep fun j hj _ => Below.block hs4 j hj) (fun j hj => Below.block hs4 j (oW.lt j hj).2)) u3.heap.size 1 (at_, fitB b) [.int .i64 at_, .slice p2 m2 c2] rfl ((Blk.newAt u3 #[.int .i64 at_, .slice p2 m2 c2] 118 u3.heap.size rfl _ rfl).below hg4 (by simp)).whole ⟨rfl, by intro u hu; simp at hu; rcases hu with rfl | rfl <;> rfl, ?_⟩ hz ?_ ?_ ?_
  · exact ⟨p2, m2, c2, rfl, (o2.b5 (A := A) (fun j hj _ => hA j (Nat.le_trans (Nat.le_trans kW.size (Below.size hs1)) hj))).below (Grows.trans hg3 (Grows.trans (below_alloc _ _) hg4)), hat⟩
  · have := b7.lt
    have := Below.size hs4
    omega
  · exact fun w' x vs hg hx => elC.grown hg ((oW.keep (elC.keep fun j hj _ => Below.block hs4 j hj) (fun j hj => Below.block hs4 j (oW.lt j hj).2)).not5 ne5) x vs hx
  intro v5 u5 o5 g5
  obtain ⟨a5, n5, c5, rfl, hn5⟩ := o5.shape
  simp only [Act.put, List.setIfInBounds_toArray, List.set_cons_zero, List.set_cons_succ]
  have q5 : Below (w.heap.size + 3) u4 u5 := (Below.refl _ _).grown g5 (by have := b7.lt; have := Below.size hs4; omega) (fun k hk => (oW.lt k hk).1)
  refine takeP 8 (some 24) (.pointer (some ⟨w.heap.size + 1 + 1, 5, none⟩)) rfl rfl (by kernel_rfl) (fun _ _ _ h => h) (by rfl) (fun w => by unfold execOp; go_simp) ?_
  simp only [Act.put, List.setIfInBounds_toArray, List.set_cons_zero, List.set_cons_succ]
  refine thenE 9 (by kernel_rfl) (by kernel_rfl) fun u6 hg6 => ?_
  have b7' := ((b7.below hs4 b7.lt).below q5 (by omega)).below hg6 (by have := ((b7.below hs4 b7.lt).below q5 (by omega)).lt; exact this)
  have b6' := ((b6W.below hs4 b6W.lt).below q5 (by omega)).below hg6 (by have := ((b6W.below hs4 b6W.lt).below q5 (by omega)).lt; exact this)
  refine opStC rfl rfl rfl (.tmp 24) (.tmp 23) rfl (w.heap.size + 1 + 1) 5 rfl a5 n5 c5 rfl _ _ b7' (by simp [dc]) (endE (by kernel_rfl) fun u7 hg7 => ?_)
  obtain ⟨D', hD'⟩ : ∃ D' : DskS, D' = ⟨⟨ps, pf, pd, pg⟩, n, safe ++ [(at_, fitB b)], loose, seen, plot, steps⟩ := ⟨_, rfl⟩
  obtain ⟨q', hq'⟩ : ∃ q' : Quad, q' = ⟨a5, n5, c5, la, ln, lc, ta, tn, tc, pa, pn, pq⟩ := ⟨_, rfl⟩
  have oU := OwC.below (OwC.grown (OwC.below o5 hg6) (but_set u6 (w.heap.size + 1 + 1) 5 (.slice a5 n5 c5)) (by omega) (b7'.not5 ne40)) hg7
  have bU : Blk (u6.setCell ⟨w.heap.size + 1 + 1, 5, none⟩ (.slice a5 n5 c5)) (w.heap.size + 1 + 1) (dc D' q') 42 := by rw [hD', hq']; exact b7'.setC 5 _
  have b7U := bU.below hg7 bU.lt
  have b6V : Blk (u6.setCell ⟨w.heap.size + 1 + 1, 5, none⟩ (.slice a5 n5 c5)) (w.heap.size + 1) z40 42 := b6'.setO (by simp) _
  have b6U := b6V.below hg7 b6V.lt
  have k4 := kW.trans (Below.mono hs4 kW.size)
  have k5 := k4.trans (q5.mono (by omega))
  have k6 := k5.trans (Below.mono hg6 k5.size)
  have k6b : Below w.heap.size w (u6.setCell ⟨w.heap.size + 1 + 1, 5, none⟩ (.slice a5 n5 c5)) := k6.setCell (by show w.heap.size ≤ w.heap.size + 1 + 1; omega) _
  have k7 := k6b.trans (Below.mono hg7 k6b.size)
  have HRF : Hid (∀ u, Below w.heap.size w u → OwS (elC A) 2 118 u (w.heap.size + 3) (.slice a5 n5 c5) (safe ++ [(at_, fitB b)]) → RD A u D' q') := fun u hu ho => by
    have hr := HR.out.below hu
    rw [hD', hq']
    exact ⟨ho.sl3 (fun j hj _ => hA j (by omega)), hr.loose, hr.seen, hr.plot⟩
  have HD' : Hid (D' = ⟨⟨ps, pf, pd, pg⟩, n, safe ++ [(at_, fitB b)], loose, seen, plot, steps⟩) := hD'
  clear k4 k5 k6 k6b hg7 bU b6V b7' b6' hg6 q5 g5 o5 hs4 hg4 hs3 hg3 hs2 hb2 o2 hs1 hg1 oW kW b6W b7 F5 hD' hq'
  have HL : Hid ((dc D' q').length = 10) := dc_length _ _
  go_wp2_with (first
    | (with_reducible refine at_ld 42 ?_; refine ld 42 (.tmp 7) 10 size40 _ Tryz.underlying42 rfl (w.heap.size + 1 + 1) 0 _ HL.out b7U.whole rfl ?_)
    | (with_reducible refine at_st 42 ?_; refine st' 42 (.tmp 6) (.tmp 25) 10 size40 (w.heap.size + 1) 0 (dc D' q') HL.out (dc_one D' q') (b6U.there 0 10 (by simp [z40])) rfl rfl ?_; intro w8 hw8))
  have b8 : Blk w8 (w.heap.size + 1) (dc D' q') 42 := by rw [hw8]; exact b6U.setsW _ rfl
  have k8 : Below w.heap.size w w8 := by rw [hw8]; exact below_sets (by omega) _ k7 0
  have o8 := OwC.grown (w' := w8) oU (by rw [hw8]; exact but_cells _ _ _ _) (show w.heap.size + 1 < w.heap.size + 3 by omega) (b6U.not5 ne40)
  have hrd := HRF.out w8 k8 o8
  rw [HD'.out] at hrd
  exact bodyPost_ret (v := dv D' q') (results_cell_row Tryz.results50 _ _ (w.heap.size + 1) 42 (dc D' q').toArray (0, 0) _ rfl b8 Tryz.underlying42 rfl size40) rfl ⟨q', by rw [HD'.out]; rfl, hrd, k8⟩

end Go.Proofs.YtlenmkhmkommcaaGreat
