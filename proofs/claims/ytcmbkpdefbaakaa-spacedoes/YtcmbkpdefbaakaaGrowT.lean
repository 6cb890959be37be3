/-
  Regions that draw their order and end in an operation, number e, that writes what they read, where e waits for the others by a chain of operations. No condition; no statement of the seat is proved here.
-/
import Derived.Test.YtcmbkpdefbaakaaGrowS
namespace Go.Proofs.Ytcmbkpdefbaakaa
open Go.RowKit

/-- Number e waits for number i, by a chain of at most so many operations. -/
def reach (md : Region.Mode) (ops : Array Oper) : Nat → Nat → Nat → Bool
  | 0, _, _ => false
  | n + 1, e, i => match ops[e]? with
    | some oe => oe.after.any fun x => Region.binds md x && (x.on == i || reach md ops n x.on i)
    | none => false
/-- What is listed is so with all that it waits for. -/
def closed (md : Region.Mode) (ops : Array Oper) (listed : Array Bool) : Prop := ∀ (j : Nat) (o : Oper), ops[j]? = some o → listed.getD j false = true → ∀ x ∈ o.after, Region.binds md x = true → listed.getD x.on false = true
def closedB (md : Region.Mode) (ops : Array Oper) (listed : Array Bool) : Bool := (List.range ops.size).all fun j => !listed.getD j false || (match ops[j]? with | some o => o.after.all (fun x => !Region.binds md x || listed.getD x.on false) | none => true)
theorem closed_of {md : Region.Mode} {ops : Array Oper} {listed : Array Bool} (h : closedB md ops listed = true) : closed md ops listed := by
  intro j o ho hl x hx hb
  unfold closedB at h
  rw [List.all_eq_true] at h
  have hj : j < ops.size := (Array.getElem?_eq_some_iff.1 ho).1
  have := h j (List.mem_range.2 hj)
  rw [ho, hl] at this
  simp only [Bool.not_true, Bool.false_or, Array.all_eq_true'] at this
  have := this x hx
  rw [hb] at this
  simpa using this
theorem closed_set {md : Region.Mode} {ops : Array Oper} {listed : Array Bool} (h : closed md ops listed) {j : Nat} (hj : j ∈ Region.ready md ops listed) : closed md ops (listed.setIfInBounds j true) := by
  intro k o ho hl x hx hb
  by_cases e : j = k
  · subst e
    obtain ⟨_, oj, hoj, hall⟩ := mem_ready.1 hj
    rw [hoj] at ho
    obtain rfl := Option.some.inj ho
    exact getD_set_true (hall x hx hb)
  · rw [getD_set_ne false e] at hl
    exact getD_set_true (h k o ho hl x hx hb)
theorem reach_listed {md : Region.Mode} {ops : Array Oper} {listed : Array Bool} (h : closed md ops listed) {i : Nat} : ∀ (n e : Nat), (∀ oe, ops[e]? = some oe → ∀ x ∈ oe.after, Region.binds md x = true → listed.getD x.on false = true) → reach md ops n e i = true → listed.getD i false = true
  | 0, _, _, hr => by cases hr
  | n + 1, e, he, hr => by
    unfold reach at hr
    cases ho : ops[e]? with
    | none => rw [ho] at hr; cases hr
    | some oe =>
      rw [ho] at hr
      simp only [Array.any_eq_true'] at hr
      obtain ⟨x, hx, hb⟩ := hr
      rw [Bool.and_eq_true, Bool.or_eq_true] at hb
      have hxl := he oe ho x hx hb.1
      rcases hb.2 with e1 | e1
      · have : x.on = i := by simpa using e1
        rw [← this]
        exact hxl
      · exact reach_listed h n x.on (fun o2 ho2 => h x.on o2 ho2 hxl) e1
/-- e is not ready as long as i is not listed. -/
theorem reach_not {md : Region.Mode} {ops : Array Oper} {listed : Array Bool} (h : closed md ops listed) {i n e : Nat} (hr : reach md ops n e i = true) (hi : listed.getD i true = false) : e ∉ Region.ready md ops listed := fun hm => by
  obtain ⟨_, oe, hoe, hall⟩ := mem_ready.1 hm
  have := reach_listed h n e (fun o ho x hx hb => by rw [hoe] at ho; obtain rfl := Option.some.inj ho; exact hall x hx hb) hr
  rcases Nat.lt_or_ge i listed.size with hl | hl
  · simp [hl] at hi this
    rw [hi] at this
    cases this
  · simp [Array.getElem?_eq_none hl] at this

theorem firstT {P : Program} {ops : Array Oper} {Q : Exit → Act → World → Prop} {md : Region.Mode} {S : World → Prop} {e i n : Nat} {oi : Oper} {v : Value} (hi : ops[i]? = some oi) (hsel : ∀ (j : Nat) (o : Oper) cs b, ops[j]? = some o → o.op ≠ .select cs b) (hQ : ∀ c a w, Q (.panic c) (a.put oi.dst v) w → Q (.panic c) a w) (hie : i ≠ e) (hre : reach md ops n e i = true) :
    ∀ (fuel : Nat) (listed : Array Bool) (a : Act) (w : World), listed.getD e true = false → closed md ops listed →
      (∀ j oj, ops[j]? = some oj → j ≠ i → listed.getD j true = false → (∀ e ∈ oj.after, Region.binds md e = true → e.on ≠ i) → oi.apart ops oj = true) →
      i ∈ Region.ready md ops listed → Ans P ops S oi v a → wpAnyE P md ops Q S e fuel (listed.setIfInBounds i true) (a.put oi.dst v) w → wpAnyE P md ops Q S e (fuel + 1) listed a w := by
  intro fuel
  induction fuel with
  | zero =>
    intro listed a w he _ _ hr hy H w' hg hS
    refine ⟨fun h => (by rw [h] at hr; cases hr), fun j hj => ?_⟩
    by_cases c : j = i
    · rw [c]
      exact hy.op hi (hS.got he) fun w'' hg' hs => ⟨Or.inr hs, H.1, fun w3 h3 hs3 => H.2 w3 (hg.trans (hg'.trans h3)) hs3⟩
    · have := ready_mono hj c
      rw [H.1] at this
      cases this
  | succ fuel ih =>
    intro listed a w he hcl hfree hr hy H w' hg hS
    refine ⟨fun h => (by rw [h] at hr; cases hr), fun j hj => ?_⟩
    by_cases c : j = i
    · rw [c]
      exact hy.op hi (hS.got he) fun w'' hg' hs => ⟨Or.inr hs, wpAnyE.grow H (hg.trans hg')⟩
    · obtain ⟨hun, oj, hoj, hall⟩ := mem_ready.1 hj
      have hno : ∀ e ∈ oj.after, Region.binds md e = true → e.on ≠ i := fun x hx hb hxi => by
        have h1 := hall x hx hb
        have h0 := (mem_ready.1 hr).1
        rw [hxi] at h1
        rcases Nat.lt_or_ge i listed.size with hl | hl
        · simp [hl] at h0 h1
          rw [h0] at h1
          cases h1
        · simp [Array.getElem?_eq_none hl] at h1
      have hje : j ≠ e := fun q => by
        subst q
        exact reach_not hcl hre (mem_ready.1 hr).1 hj
      have hei : (listed.setIfInBounds i true).getD e true = false := by rw [getD_set_ne true hie]; exact he
      have hej : (listed.setIfInBounds j true).getD e true = false := by rw [getD_set_ne true hje]; exact he
      have hk := other_first hoj (hfree j oj hoj c hun hno) (fun cs b => hsel i oi cs b hi) (fun cs b => hsel j oj cs b hoj) hQ ((H w' hg (Or.inr (hS.got he))).2 j (ready_mono hj c))
      refine wpOp_mono (fun a' w'' hh => ⟨Or.inr (hh.2.1.got (by rw [getD_set_ne true hje]; exact hei)), ih (listed.setIfInBounds j true) a' w'' hej (closed_set hcl hj) ?_ (ready_mono hr (Ne.symm c)) (hy.same hh.1) ?_⟩) hk
      · intro k ok hk hki hun' hno'
        refine hfree k ok hk hki ?_ hno'
        by_cases hjk : j = k
        · rw [← hjk]; exact hun
        · rw [getD_set_ne true hjk] at hun'; exact hun'
      · rw [Array.setIfInBounds_comm _ _ c]
        exact hh.2.2
/-- What is asked of number i, all at once. -/
def okT (md : Region.Mode) (ops : Array Oper) (e i : Nat) (listed : Array Bool) : Bool :=
  Region.noSelect ops && Region.free md ops listed i && (Region.ready md ops listed).contains i && reach md ops ops.size e i && (i != e) && closedB md ops listed && !listed.getD e true
/-- Take number i first. -/
theorem takeT {P : Program} {ops : Array Oper} {Q : Exit → Act → World → Prop} {md : Region.Mode} {S : World → Prop} {e : Nat} (i : Nat) (d : Option Tmp) (v : Value) {oi : Oper} {fuel : Nat} {listed : Array Bool} {a : Act} {w : World} (hi : ops[i]? = some oi) (hd : oi.dst = d) (ht : okT md ops e i listed = true)
    (hQ : ∀ c a w, Q (.panic c) (a.put d v) w → Q (.panic c) a w) (hy : Ans P ops S oi v a)
    (h : wpAnyE P md ops Q S e fuel (listed.setIfInBounds i true) (a.put d v) w) : wpAnyE P md ops Q S e (fuel + 1) listed a w := by
  subst hd
  unfold okT at ht
  simp only [Bool.and_eq_true] at ht
  obtain ⟨⟨⟨⟨⟨⟨h1, h2⟩, h3⟩, h4⟩, h5⟩, h6⟩, h7⟩ := ht
  exact firstT hi (Region.noSelect_spec h1) hQ (by simpa using h5) h4 fuel listed a w (by simpa using h7) (closed_of h6) (Region.free_spec hi h2) (by simpa using h3) hy h

/-- It answers v in whatever world, and leaves it. -/
def Pure (P : Program) (ops : Array Oper) (o : Oper) (v : Value) (a : Act) : Prop :=
  (Region.wanted o (yielded ops a.tmps) = true ∧ ∀ w, (execOp a.eval o).run P w = .ok (.value v) w) ∨ (Region.wanted o (yielded ops a.tmps) = false ∧ v = undef)
theorem Pure.same {P : Program} {ops : Array Oper} {o : Oper} {v : Value} {a b : Act} (h : Pure P ops o v a) (he : execOp b.eval o = execOp a.eval o ∧ Region.wanted o (yielded ops b.tmps) = Region.wanted o (yielded ops a.tmps)) : Pure P ops o v b := by
  unfold Pure at *
  rw [he.1, he.2]
  exact h
theorem Pure.op {P : Program} {ops : Array Oper} {Q : Exit → Act → World → Prop} {i : Nat} {o : Oper} {v : Value} {a : Act} (hi : ops[i]? = some o) (h : Pure P ops o v a) {K : Act → World → Prop} {w : World} (k : K (a.put o.dst v) w) : wpOp P ops Q i K a w := by
  unfold wpOp
  simp only [hi]
  rcases h with ⟨hw, hv⟩ | ⟨hw, rfl⟩
  · simp only [hw, if_true]
    left
    unfold Oper.wp
    rw [hv w]
    exact k
  · simp only [hw, Bool.false_eq_true, if_false]
    exact k
theorem okE.set {S : World → Prop} {e i : Nat} {listed : Array Bool} {w : World} (hie : i ≠ e) : okE S e (listed.setIfInBounds i true) w ↔ okE S e listed w := by
  unfold okE
  rw [getD_set_ne true hie]
theorem firstP {P : Program} {ops : Array Oper} {Q : Exit → Act → World → Prop} {md : Region.Mode} {S : World → Prop} {e i : Nat} {oi : Oper} {v : Value} (hi : ops[i]? = some oi) (hsel : ∀ (j : Nat) (o : Oper) cs b, ops[j]? = some o → o.op ≠ .select cs b) (hQ : ∀ c a w, Q (.panic c) (a.put oi.dst v) w → Q (.panic c) a w) (hie : i ≠ e) :
    ∀ (fuel : Nat) (listed : Array Bool) (a : Act) (w : World),
      (∀ j oj, ops[j]? = some oj → j ≠ i → listed.getD j true = false → (∀ e ∈ oj.after, Region.binds md e = true → e.on ≠ i) → oi.apart ops oj = true) →
      i ∈ Region.ready md ops listed → Pure P ops oi v a → wpAnyE P md ops Q S e fuel (listed.setIfInBounds i true) (a.put oi.dst v) w → wpAnyE P md ops Q S e (fuel + 1) listed a w := by
  intro fuel
  induction fuel with
  | zero =>
    intro listed a w _ hr hy H w' hg hS
    refine ⟨fun h => (by rw [h] at hr; cases hr), fun j hj => ?_⟩
    by_cases c : j = i
    · rw [c]
      exact hy.op hi ⟨(okE.set hie).2 hS, H.1, fun w3 h3 hs3 => H.2 w3 (hg.trans h3) hs3⟩
    · have := ready_mono hj c
      rw [H.1] at this
      cases this
  | succ fuel ih =>
    intro listed a w hfree hr hy H w' hg hS
    refine ⟨fun h => (by rw [h] at hr; cases hr), fun j hj => ?_⟩
    by_cases c : j = i
    · rw [c]
      exact hy.op hi ⟨(okE.set hie).2 hS, wpAnyE.grow H hg⟩
    · obtain ⟨hun, oj, hoj, hall⟩ := mem_ready.1 hj
      have hno : ∀ e ∈ oj.after, Region.binds md e = true → e.on ≠ i := fun x hx hb hxi => by
        have h1 := hall x hx hb
        have h0 := (mem_ready.1 hr).1
        rw [hxi] at h1
        rcases Nat.lt_or_ge i listed.size with hl | hl
        · simp [hl] at h0 h1
          rw [h0] at h1
          cases h1
        · simp [Array.getElem?_eq_none hl] at h1
      have hk := other_first hoj (hfree j oj hoj c hun hno) (fun cs b => hsel i oi cs b hi) (fun cs b => hsel j oj cs b hoj) hQ ((H w' hg ((okE.set hie).2 hS)).2 j (ready_mono hj c))
      refine wpOp_mono (fun a' w'' hh => ⟨?_, ih (listed.setIfInBounds j true) a' w'' ?_ (ready_mono hr (Ne.symm c)) (hy.same hh.1) ?_⟩) hk
      · have h1 := hh.2.1
        rw [Array.setIfInBounds_comm _ _ (Ne.symm c)] at h1
        exact (okE.set hie).1 h1
      · intro k ok hk hki hun' hno'
        refine hfree k ok hk hki ?_ hno'
        by_cases hjk : j = k
        · rw [← hjk]; exact hun
        · rw [getD_set_ne true hjk] at hun'; exact hun'
      · rw [Array.setIfInBounds_comm _ _ c]
        exact hh.2.2
def okP (md : Region.Mode) (ops : Array Oper) (e i : Nat) (listed : Array Bool) : Bool := Region.noSelect ops && Region.free md ops listed i && (Region.ready md ops listed).contains i && (i != e)
/-- Take number i first, which only reckons. -/
theorem takeP {P : Program} {ops : Array Oper} {Q : Exit → Act → World → Prop} {md : Region.Mode} {S : World → Prop} {e : Nat} (i : Nat) (d : Option Tmp) (v : Value) {oi : Oper} {fuel : Nat} {listed : Array Bool} {a : Act} {w : World} (hi : ops[i]? = some oi) (hd : oi.dst = d) (ht : okP md ops e i listed = true)
    (hQ : ∀ c a w, Q (.panic c) (a.put d v) w → Q (.panic c) a w) (hw : Region.wanted oi (yielded ops a.tmps) = true) (hy : ∀ w, (execOp a.eval oi).run P w = .ok (.value v) w)
    (h : wpAnyE P md ops Q S e fuel (listed.setIfInBounds i true) (a.put d v) w) : wpAnyE P md ops Q S e (fuel + 1) listed a w := by
  subst hd
  unfold okP at ht
  simp only [Bool.and_eq_true] at ht
  obtain ⟨⟨⟨h1, h2⟩, h3⟩, h5⟩ := ht
  exact firstP hi (Region.noSelect_spec h1) hQ (by simpa using h5) fuel listed a w (Region.free_spec hi h2) (by simpa using h3) (Or.inl ⟨hw, hy⟩) h

/-- Take number i first, which is not wanted. -/
theorem takePN {P : Program} {ops : Array Oper} {Q : Exit → Act → World → Prop} {md : Region.Mode} {S : World → Prop} {e : Nat} (i : Nat) (d : Option Tmp) {oi : Oper} {fuel : Nat} {listed : Array Bool} {a : Act} {w : World} (hi : ops[i]? = some oi) (hd : oi.dst = d) (ht : okP md ops e i listed = true)
    (hQ : ∀ c a w, Q (.panic c) (a.put d undef) w → Q (.panic c) a w) (hw : Region.wanted oi (yielded ops a.tmps) = false)
    (h : wpAnyE P md ops Q S e fuel (listed.setIfInBounds i true) (a.put d undef) w) : wpAnyE P md ops Q S e (fuel + 1) listed a w := by
  subst hd
  unfold okP at ht
  simp only [Bool.and_eq_true] at ht
  obtain ⟨⟨⟨h1, h2⟩, h3⟩, h5⟩ := ht
  exact firstP hi (Region.noSelect_spec h1) hQ (by simpa using h5) fuel listed a w (Region.free_spec hi h2) (by simpa using h3) (Or.inr ⟨hw, rfl⟩) h

/-- Number e itself, others behind it. -/
theorem goE {P : Program} {ops : Array Oper} {Q : Exit → Act → World → Prop} {md : Region.Mode} {S : World → Prop} {e : Nat} {fuel : Nat} {listed : Array Bool} {a : Act} {w : World} (hr : Region.ready md ops listed = [e]) (he : listed.getD e true = false) (hl : (listed.setIfInBounds e true).getD e true = true)
    (h : ∀ w', Grows w w' → S w' → wpOp P ops Q e (fun a' w'' => wpAnyE P md ops Q S e fuel (listed.setIfInBounds e true) a' w'') a w') : wpAnyE P md ops Q S e (fuel + 1) listed a w :=
  fun w' hg hS => ⟨fun h0 => (by rw [h0] at hr; cases hr), fun i hi => by
    rw [hr] at hi
    rw [List.mem_singleton.1 hi]
    exact wpOp_mono (fun a' w'' hh => ⟨Or.inl hl, hh⟩) (h w' hg (hS.got he))⟩
/-- The one that may come up, behind number e. -/
theorem thenE {P : Program} {ops : Array Oper} {Q : Exit → Act → World → Prop} {md : Region.Mode} {S : World → Prop} {e : Nat} (j : Nat) {fuel : Nat} {listed : Array Bool} {a : Act} {w : World} (hj : Region.ready md ops listed = [j]) (hl : (listed.setIfInBounds j true).getD e true = true)
    (h : ∀ w', Grows w w' → wpOp P ops Q j (fun a' w'' => wpAnyE P md ops Q S e fuel (listed.setIfInBounds j true) a' w'') a w') : wpAnyE P md ops Q S e (fuel + 1) listed a w :=
  fun w' hg _ => ⟨fun h0 => (by rw [h0] at hj; cases hj), fun i hi => by
    rw [hj] at hi
    rw [List.mem_singleton.1 hi]
    exact wpOp_mono (fun a' w'' hh => ⟨Or.inl hl, hh⟩) (h w' hg)⟩
/-- The end. -/
theorem endE {P : Program} {ops : Array Oper} {Q : Exit → Act → World → Prop} {md : Region.Mode} {S : World → Prop} {e : Nat} {fuel : Nat} {listed : Array Bool} {a : Act} {w : World} (hz : Region.ready md ops listed = []) (h : ∀ w', Grows w w' → Q .normal a w') : wpAnyE P md ops Q S e fuel listed a w := by
  cases fuel with
  | zero => exact ⟨hz, fun w5 h5 _ => h w5 h5⟩
  | succ fuel => exact fun w5 h5 _ => ⟨fun _ => h w5 h5, fun j hj => by rw [hz] at hj; cases hj⟩

end Go.Proofs.Ytcmbkpdefbaakaa
