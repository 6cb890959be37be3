/-
  8 texts in one. No statement of the seat is proved here.
-/
import Derived.Test.YtnmmopneacdgfaaI5
import Derived.Deep.DeepCutAuto
/-
  Regions that draw their order and end in an operation that writes what they read: what is kept holds until that operation, number e, is done, and e waits for every operation that is taken. No condition; no statement of the seat is proved here.
-/
namespace Go.Proofs.Ytnmmopneacdgfaa
open Go.RowKit

/-- What is kept, as long as number e has not been done. -/
def okE (S : World → Prop) (e : Nat) (listed : Array Bool) (w : World) : Prop := listed.getD e true = true ∨ S w
theorem okE.got {S : World → Prop} {e : Nat} {listed : Array Bool} {w : World} (h : okE S e listed w) (he : listed.getD e true = false) : S w := by
  rcases h with h | h
  · rw [he] at h; cases h
  · exact h
/-- Whatever order is picked from here on, in whatever world has grown of this one. -/
def wpAnyE (P : Program) (md : Region.Mode) (ops : Array Oper) (Q : Exit → Act → World → Prop) (S : World → Prop) (e : Nat) : Nat → Array Bool → Act → World → Prop
  | 0, listed, a, w => Region.ready md ops listed = [] ∧ ∀ w', Grows w w' → okE S e listed w' → Q .normal a w'
  | fuel + 1, listed, a, w => ∀ w', Grows w w' → okE S e listed w' → (Region.ready md ops listed = [] → Q .normal a w') ∧
      ∀ i ∈ Region.ready md ops listed, wpOp P ops Q i (fun a' w'' => okE S e (listed.setIfInBounds i true) w'' ∧ wpAnyE P md ops Q S e fuel (listed.setIfInBounds i true) a' w'') a w'
theorem wpAnyE.grow {P : Program} {ops : Array Oper} {Q : Exit → Act → World → Prop} {md : Region.Mode} {S : World → Prop} {e : Nat} {fuel : Nat} {listed : Array Bool} {a : Act} {w w1 : World} (h : wpAnyE P md ops Q S e fuel listed a w) (hg : Grows w w1) : wpAnyE P md ops Q S e fuel listed a w1 := by
  cases fuel with
  | zero => exact ⟨h.1, fun w' hw hs => h.2 w' (hg.trans hw) hs⟩
  | succ fuel => exact fun w' hw hs => h w' (hg.trans hw) hs
theorem wpAnyE.any {P : Program} {ops : Array Oper} {Q : Exit → Act → World → Prop} {md : Region.Mode} {S : World → Prop} {e : Nat} : ∀ (fuel : Nat) (listed : Array Bool) (a : Act) (w : World), okE S e listed w → wpAnyE P md ops Q S e fuel listed a w → wpAny P md ops Q fuel listed a w
  | 0, _, _, w, hS, h => ⟨h.1, h.2 w (Grows.refl w) hS⟩
  | fuel + 1, _, _, w, hS, h => by
    obtain ⟨h1, h2⟩ := h w (Grows.refl w) hS
    exact ⟨h1, fun i hi => wpOp_mono (fun a' w' hh => wpAnyE.any fuel _ a' w' hh.1 hh.2) (h2 i hi)⟩
/-- Number e waits for number i. -/
def waits (md : Region.Mode) (ops : Array Oper) (e i : Nat) : Bool := (i != e) && (match ops[e]? with | some oe => oe.after.any (fun x => Region.binds md x && x.on == i) | none => false)
/-- The one that may come up, ahead of number e. -/
theorem oneE {P : Program} {ops : Array Oper} {Q : Exit → Act → World → Prop} {md : Region.Mode} {S : World → Prop} {e : Nat} (i : Nat) {fuel : Nat} {listed : Array Bool} {a : Act} {w : World} (hr : Region.ready md ops listed = [i]) (he : listed.getD e true = false)
    (h : ∀ w', Grows w w' → S w' → wpOp P ops Q i (fun a' w'' => S w'' ∧ wpAnyE P md ops Q S e fuel (listed.setIfInBounds i true) a' w'') a w') : wpAnyE P md ops Q S e (fuel + 1) listed a w :=
  fun w' hg hS => ⟨fun h0 => (by rw [h0] at hr; cases hr), fun j hj => by
    rw [hr] at hj
    rw [List.mem_singleton.1 hj]
    exact wpOp_mono (fun _ _ hh => ⟨Or.inr hh.1, hh.2⟩) (h w' hg (hS.got he))⟩
/-- Number e itself, the last one. -/
theorem lastE {P : Program} {ops : Array Oper} {Q : Exit → Act → World → Prop} {md : Region.Mode} {S : World → Prop} {e : Nat} {fuel : Nat} {listed : Array Bool} {a : Act} {w : World} (hr : Region.ready md ops listed = [e]) (he : listed.getD e true = false) (hl : (listed.setIfInBounds e true).getD e true = true) (hz : Region.ready md ops (listed.setIfInBounds e true) = [])
    (h : ∀ w', Grows w w' → S w' → wpOp P ops Q e (fun a' w'' => ∀ w3, Grows w'' w3 → Q .normal a' w3) a w') : wpAnyE P md ops Q S e (fuel + 1) listed a w :=
  fun w' hg hS => ⟨fun h0 => (by rw [h0] at hr; cases hr), fun j hj => by
    rw [hr] at hj
    rw [List.mem_singleton.1 hj]
    refine wpOp_mono (fun a' w'' hh => ⟨Or.inl hl, ?_⟩) (h w' hg (hS.got he))
    cases fuel with
    | zero => exact ⟨hz, fun w3 h3 _ => hh w3 h3⟩
    | succ fuel => exact fun w3 h3 _ => ⟨fun _ => hh w3 h3, fun j hj => by rw [hz] at hj; cases hj⟩⟩
/-- The beginning. -/
theorem regionE {P : Program} {ops : Array Oper} {Q : Exit → Act → World → Prop} {S : World → Prop} (e : Nat) {id : Nat} {a : Act} {w : World} (hm : P.follows .mixedOrders = true) (hS : S w.drew) (h : wpAnyE P .any ops Q S e ops.size (Array.replicate ops.size false) a w.drew) : (Code.region id ops true).wp P Q a w :=
  wp_region_any hm (wpAnyE.any _ _ _ _ (Or.inr hS) h)
/-- A call whose answer lies in new memory: the one that may come up. -/
theorem callE {ops : Array Oper} {Q : Exit → Act → World → Prop} {md : Region.Mode} {S : World → Prop} {e : Nat} (i : Nat) (d : Option Tmp) (f : FuncId) (args : Array Operand) (tys : Array TypeId) (vs : Array Value) {oi : Oper} {fuel : Nat} {listed : Array Bool} {a : Act} {w : World} (hi : ops[i]? = some oi) (hd : oi.dst = d)
    (ho : oi.op = .call { callee := .value (.func f), args := args, argTypes := tys }) (hw : Region.wanted oi (yielded ops a.tmps) = true) (hv : (args.toList.map a.eval).toArray = vs) (hr : Region.ready md ops listed = [i]) (he : listed.getD e true = false) (hc : ∀ vs w, (callFunc f vs).run Try.prog w = .ok (.enter f vs) w)
    (h : ∀ w', Grows w w' → S w' → Calls Try.prog f vs w' fun x w'' => ∃ v, x = .returned v ∧ S w'' ∧ wpAnyE Try.prog md ops Q S e fuel (listed.setIfInBounds i true) (a.put d v) w'') : wpAnyE Try.prog md ops Q S e (fuel + 1) listed a w := by
  subst hd
  have hv' : args.map a.eval = vs := by rw [← hv]; apply Array.toList_inj.1; rw [Array.toList_map]
  subst hv'
  refine oneE i hr he fun w' hg hS => ?_
  unfold wpOp
  simp only [hi]
  rw [if_pos hw]
  left
  unfold Oper.wp
  have hx : (execOp a.eval oi).run Try.prog w' = .ok (.enter f (args.map a.eval)) w' := by simp [execOp, ho, resolve, invoke, Act.eval, Deferred.ofValue, hc]
  rw [hx, Oper.upon_enter]
  refine (h w' hg hS).mono ?_
  rintro x w'' ⟨v, rfl, hs, hh⟩
  exact ⟨hs, hh⟩

end Go.Proofs.Ytnmmopneacdgfaa

/-
  Rows of regions that draw their order, whatever the types: loads of a cell and of whole structs, elements of a slice, a store of a struct or a call at the end. No condition; no statement of the seat is proved here.
-/
namespace Go.Proofs.Ytnmmopneacdgfaa
open Go.RowKit

theorem ans_of {P : Program} {ops : Array Oper} {S : World → Prop} {o : Oper} {v : Value} {a : Act} (h : YieldsIf P ops S o v a) : Ans P ops S o v a := by
  rcases h with ⟨h1, h2⟩ | h
  · exact ans_plain h1 h2
  · exact Or.inr h
/-- A load of a struct, an array. -/
theorem ans_row {ops : Array Oper} {S : World → Prop} {oi : Oper} {a : Act} (ty : TypeId) (x : Operand) (d : TypeDesc) (n : Nat) (ho : oi.op = .load ty x) (hw : Region.wanted oi (yielded ops a.tmps) = true) (b o : Nat) (hx : a.eval x = .pointer (some ⟨b, o, none⟩)) (vs : List Value) (hv : ∀ w, S w → w.rangeAt b o vs)
    (hu : Try.prog.underlying ty = some d) (hd : d.isRow = true) (hn : vs.length = n) (hi : (Try.prog.info? ty).map (·.size) = some n) : Ans Try.prog ops S oi (.agg vs.toArray) a :=
  ans_of (yieldsIf_load_mid hw ty x ho b o hx vs d hv hu hd (by rw [hn]; exact hi))
/-- A store of a struct, an array into its own variable. -/
theorem opStR {ops : Array Oper} {Q : Exit → Act → World → Prop} (i : Nat) (ty : TypeId) (x y : Operand) (n : Nat) {oi : Oper} {K : Act → World → Prop} {a : Act} {w : World} (hi : ops[i]? = some oi) (hd : oi.dst = none) (ho : oi.op = .store ty x y) (hg : oi.guard = none) (g : Nat) (us vs : List Value) (t : TypeId) (hb : Blk w g us t) (hn : us.length = n) (hm : vs.length = n) (h1 : ∀ v ∈ vs, v.oneCell' = true) (hz : (Try.prog.info? ty).map (·.size) = some n)
    (hx : a.eval x = .pointer (some ⟨g, 0, none⟩)) (hy : a.eval y = .agg vs.toArray)
    (k : ∀ w', Blk w' g vs t → Kp (fun j => j = g) w w' → K a w') : wpOp Try.prog ops Q i K a w := by
  have hr := run_storeAt_mid (P := Try.prog) w g 0 ty vs.toArray (by rw [List.size_toArray, hm]; exact hb.there 0 n (by omega)) (by rw [List.size_toArray, hm]; exact hz) (all_oneCell_toArray h1)
  have hkp : Kp (fun j => j = g) w (w.setCells g 0 vs) := by
    have hh : ∀ (us : List Value) (w0 : World) (o : Nat), Kp (fun j => j = g) w0 (w0.setCells g o us) := by
      intro us
      induction us with
      | nil => intro w0 o; exact Kp.refl _ _
      | cons u us ih => intro w0 o; exact (Kp.of_grown (but_set w0 g o u)).trans (ih _ _)
    exact hh vs w 0
  have hK : Hid _ := k (w.setCells g 0 vs) (hb.setsW _ (by omega)) hkp
  clear k
  unfold wpOp
  simp only [hi]
  rw [if_pos (by simp [Region.wanted, hg])]
  left
  unfold Oper.wp
  simp [execOp, ho, hx, hy, hr, Result.andThen]
  simp only [Oper.upon, hd]
  exact hK.out
end Go.Proofs.Ytnmmopneacdgfaa

/-
  Regions that draw their order and end in an operation, number e, that writes what they read, where e waits for the others by a chain of operations. No condition; no statement of the seat is proved here.
-/
namespace Go.Proofs.Ytnmmopneacdgfaa
open Go.RowKit

/-- Number e waits for number i, by a chain of at most so many operations. -/
def reach (md : Region.Mode) (ops : Array Oper) : Nat → Nat → Nat → Bool
  | 0, _, _ => false
  | n + 1, e, i => match ops[e]? with
    | some oe => oe.after.any fun x => Region.binds md x && (x.on == i || reach md ops n x.on i)
    | none => false
/-- What is listed is so with all that it waits for. -/
def closed (md : Region.Mode) (ops : Array Oper) (listed : Array Bool) : Prop := ∀ (j : Nat) (o : Oper), ops[j]? = some o → listed.getD j false = true → ∀ x ∈ o.after, Region.binds md x = true → listed.getD x.on false = true
def closedB (md : Region.Mode) (ops : Array Oper) (listed : Array Bool) : Bool := (List.range ops.size).all fun j => !listed.getD j false || (match ops[j]? with | some o => o.after.all (fun x => !Region.binds md x || listed.getD x.on false) | none => true)
theorem closed_of {md : Region.Mode} {ops : Array Oper} {listed : Array Bool} (h : closedB md ops listed = true) : closed md ops listed := by
  intro j o ho hl x hx hb
  unfold closedB at h
  rw [List.all_eq_true] at h
  have hj : j < ops.size := (Array.getElem?_eq_some_iff.1 ho).1
  have := h j (List.mem_range.2 hj)
  rw [ho, hl] at this
  simp only [Bool.not_true, Bool.false_or, Array.all_eq_true'] at this
  have := this x hx
  rw [hb] at this
  simpa using this
theorem closed_set {md : Region.Mode} {ops : Array Oper} {listed : Array Bool} (h : closed md ops listed) {j : Nat} (hj : j ∈ Region.ready md ops listed) : closed md ops (listed.setIfInBounds j true) := by
  intro k o ho hl x hx hb
  by_cases e : j = k
  · subst e
    obtain ⟨_, oj, hoj, hall⟩ := mem_ready.1 hj
    rw [hoj] at ho
    obtain rfl := Option.some.inj ho
    exact getD_set_true (hall x hx hb)
  · rw [getD_set_ne false e] at hl
    exact getD_set_true (h k o ho hl x hx hb)
theorem reach_listed {md : Region.Mode} {ops : Array Oper} {listed : Array Bool} (h : closed md ops listed) {i : Nat} : ∀ (n e : Nat), (∀ oe, ops[e]? = some oe → ∀ x ∈ oe.after, Region.binds md x = true → listed.getD x.on false = true) → reach md ops n e i = true → listed.getD i false = true
  | 0, _, _, hr => by cases hr
  | n + 1, e, he, hr => by
    unfold reach at hr
    cases ho : ops[e]? with
    | none => rw [ho] at hr; cases hr
    | some oe =>
      rw [ho] at hr
      simp only [Array.any_eq_true'] at hr
      obtain ⟨x, hx, hb⟩ := hr
      rw [Bool.and_eq_true, Bool.or_eq_true] at hb
      have hxl := he oe ho x hx hb.1
      rcases hb.2 with e1 | e1
      · have : x.on = i := by simpa using e1
        rw [← this]
        exact hxl
      · exact reach_listed h n x.on (fun o2 ho2 => h x.on o2 ho2 hxl) e1
/-- e is not ready as long as i is not listed. -/
theorem reach_not {md : Region.Mode} {ops : Array Oper} {listed : Array Bool} (h : closed md ops listed) {i n e : Nat} (hr : reach md ops n e i = true) (hi : listed.getD i true = false) : e ∉ Region.ready md ops listed := fun hm => by
  obtain ⟨_, oe, hoe, hall⟩ := mem_ready.1 hm
  have := reach_listed h n e (fun o ho x hx hb => by rw [hoe] at ho; obtain rfl := Option.some.inj ho; exact hall x hx hb) hr
  rcases Nat.lt_or_ge i listed.size with hl | hl
  · simp [hl] at hi this
    rw [hi] at this
    cases this
  · simp [Array.getElem?_eq_none hl] at this

theorem firstT {P : Program} {ops : Array Oper} {Q : Exit → Act → World → Prop} {md : Region.Mode} {S : World → Prop} {e i n : Nat} {oi : Oper} {v : Value} (hi : ops[i]? = some oi) (hsel : ∀ (j : Nat) (o : Oper) cs b, ops[j]? = some o → o.op ≠ .select cs b) (hQ : ∀ c a w, Q (.panic c) (a.put oi.dst v) w → Q (.panic c) a w) (hie : i ≠ e) (hre : reach md ops n e i = true) :
    ∀ (fuel : Nat) (listed : Array Bool) (a : Act) (w : World), listed.getD e true = false → closed md ops listed →
      (∀ j oj, ops[j]? = some oj → j ≠ i → listed.getD j true = false → (∀ e ∈ oj.after, Region.binds md e = true → e.on ≠ i) → oi.apart ops oj = true) →
      i ∈ Region.ready md ops listed → Ans P ops S oi v a → wpAnyE P md ops Q S e fuel (listed.setIfInBounds i true) (a.put oi.dst v) w → wpAnyE P md ops Q S e (fuel + 1) listed a w := by
  intro fuel
  induction fuel with
  | zero =>
    intro listed a w he _ _ hr hy H w' hg hS
    refine ⟨fun h => (by rw [h] at hr; cases hr), fun j hj => ?_⟩
    by_cases c : j = i
    · rw [c]
      exact hy.op hi (hS.got he) fun w'' hg' hs => ⟨Or.inr hs, H.1, fun w3 h3 hs3 => H.2 w3 (hg.trans (hg'.trans h3)) hs3⟩
    · have := ready_mono hj c
      rw [H.1] at this
      cases this
  | succ fuel ih =>
    intro listed a w he hcl hfree hr hy H w' hg hS
    refine ⟨fun h => (by rw [h] at hr; cases hr), fun j hj => ?_⟩
    by_cases c : j = i
    · rw [c]
      exact hy.op hi (hS.got he) fun w'' hg' hs => ⟨Or.inr hs, wpAnyE.grow H (hg.trans hg')⟩
    · obtain ⟨hun, oj, hoj, hall⟩ := mem_ready.1 hj
      have hno : ∀ e ∈ oj.after, Region.binds md e = true → e.on ≠ i := fun x hx hb hxi => by
        have h1 := hall x hx hb
        have h0 := (mem_ready.1 hr).1
        rw [hxi] at h1
        rcases Nat.lt_or_ge i listed.size with hl | hl
        · simp [hl] at h0 h1
          rw [h0] at h1
          cases h1
        · simp [Array.getElem?_eq_none hl] at h1
      have hje : j ≠ e := fun q => by
        subst q
        exact reach_not hcl hre (mem_ready.1 hr).1 hj
      have hei : (listed.setIfInBounds i true).getD e true = false := by rw [getD_set_ne true hie]; exact he
      have hej : (listed.setIfInBounds j true).getD e true = false := by rw [getD_set_ne true hje]; exact he
      have hk := other_first hoj (hfree j oj hoj c hun hno) (fun cs b => hsel i oi cs b hi) (fun cs b => hsel j oj cs b hoj) hQ ((H w' hg (Or.inr (hS.got he))).2 j (ready_mono hj c))
      refine wpOp_mono (fun a' w'' hh => ⟨Or.inr (hh.2.1.got (by rw [getD_set_ne true hje]; exact hei)), ih (listed.setIfInBounds j true) a' w'' hej (closed_set hcl hj) ?_ (ready_mono hr (Ne.symm c)) (hy.same hh.1) ?_⟩) hk
      · intro k ok hk hki hun' hno'
        refine hfree k ok hk hki ?_ hno'
        by_cases hjk : j = k
        · rw [← hjk]; exact hun
        · rw [getD_set_ne true hjk] at hun'; exact hun'
      · rw [Array.setIfInBounds_comm _ _ c]
        exact hh.2.2
/-- What is asked of number i, all at once. -/
def okT (md : Region.Mode) (ops : Array Oper) (e i : Nat) (listed : Array Bool) : Bool :=
  Region.noSelect ops && Region.free md ops listed i && (Region.ready md ops listed).contains i && reach md ops ops.size e i && (i != e) && closedB md ops listed && !listed.getD e true
/-- Take number i first. -/
theorem takeT {P : Program} {ops : Array Oper} {Q : Exit → Act → World → Prop} {md : Region.Mode} {S : World → Prop} {e : Nat} (i : Nat) (d : Option Tmp) (v : Value) {oi : Oper} {fuel : Nat} {listed : Array Bool} {a : Act} {w : World} (hi : ops[i]? = some oi) (hd : oi.dst = d) (ht : okT md ops e i listed = true)
    (hQ : ∀ c a w, Q (.panic c) (a.put d v) w → Q (.panic c) a w) (hy : Ans P ops S oi v a)
    (h : wpAnyE P md ops Q S e fuel (listed.setIfInBounds i true) (a.put d v) w) : wpAnyE P md ops Q S e (fuel + 1) listed a w := by
  subst hd
  unfold okT at ht
  simp only [Bool.and_eq_true] at ht
  obtain ⟨⟨⟨⟨⟨⟨h1, h2⟩, h3⟩, h4⟩, h5⟩, h6⟩, h7⟩ := ht
  exact firstT hi (Region.noSelect_spec h1) hQ (by simpa using h5) h4 fuel listed a w (by simpa using h7) (closed_of h6) (Region.free_spec hi h2) (by simpa using h3) hy h

/-- It answers v in whatever world, and leaves it. -/
def Pure (P : Program) (ops : Array Oper) (o : Oper) (v : Value) (a : Act) : Prop :=
  (Region.wanted o (yielded ops a.tmps) = true ∧ ∀ w, (execOp a.eval o).run P w = .ok (.value v) w) ∨ (Region.wanted o (yielded ops a.tmps) = false ∧ v = undef)
theorem Pure.same {P : Program} {ops : Array Oper} {o : Oper} {v : Value} {a b : Act} (h : Pure P ops o v a) (he : execOp b.eval o = execOp a.eval o ∧ Region.wanted o (yielded ops b.tmps) = Region.wanted o (yielded ops a.tmps)) : Pure P ops o v b := by
  unfold Pure at *
  rw [he.1, he.2]
  exact h
theorem Pure.op {P : Program} {ops : Array Oper} {Q : Exit → Act → World → Prop} {i : Nat} {o : Oper} {v : Value} {a : Act} (hi : ops[i]? = some o) (h : Pure P ops o v a) {K : Act → World → Prop} {w : World} (k : K (a.put o.dst v) w) : wpOp P ops Q i K a w := by
  unfold wpOp
  simp only [hi]
  rcases h with ⟨hw, hv⟩ | ⟨hw, rfl⟩
  · simp only [hw, if_true]
    left
    unfold Oper.wp
    rw [hv w]
    exact k
  · simp only [hw, Bool.false_eq_true, if_false]
    exact k
theorem okE.set {S : World → Prop} {e i : Nat} {listed : Array Bool} {w : World} (hie : i ≠ e) : okE S e (listed.setIfInBounds i true) w ↔ okE S e listed w := by
  unfold okE
  rw [getD_set_ne true hie]
def okP (md : Region.Mode) (ops : Array Oper) (e i : Nat) (listed : Array Bool) : Bool := Region.noSelect ops && Region.free md ops listed i && (Region.ready md ops listed).contains i && (i != e)
end Go.Proofs.Ytnmmopneacdgfaa

/-
  Two and three new variables in a region that draws its order: whichever is made first. No condition; no statement of the seat is proved here.
-/
namespace Go.Proofs.Ytnmmopneacdgfaa
open Go.RowKit


theorem Grows.alloc (w : World) (o : Obj) : Grows w (w.alloc o) := below_alloc w o
theorem Blk.grows {w w' : World} {g : Nat} {vs : List Value} {t : TypeId} (h : Blk w g vs t) (hg : Grows w w') : Blk w' g vs t := h.below hg h.lt
end Go.Proofs.Ytnmmopneacdgfaa

/-
  How nodes lie in memory, and how they outlast what is made. No condition; no statement of the seat is proved here.
-/
namespace Go.Proofs.Ytnmmopneacdgfaa
open Go.RowKit

theorem sizePr : (Try.prog.info? 44).map (·.size) = some 2 := by kernel_rfl
theorem sizeKd : (Try.prog.info? 46).map (·.size) = some 3 := by kernel_rfl
theorem sizeNd : (Try.prog.info? 25).map (·.size) = some 3 := by kernel_rfl
theorem infoPr : (Try.prog.info? 44).map (fun i => (i.zero, i.size, i.bytes)) = some (some (.agg #[.slice none 0 0, .slice none 0 0]), 2, 48) := by kernel_rfl
theorem infoKd : (Try.prog.info? 46).map (fun i => (i.zero, i.size, i.bytes)) = some (some (.agg #[.slice none 0 0, .int .i64 0, .int .i64 0]), 3, 40) := by kernel_rfl
theorem nePr5 : 44 ≠ 5 := by decide
theorem neKd5 : 46 ≠ 5 := by decide
theorem neNd5 : 25 ≠ 5 := by decide
def zPr : List Value := [.slice none 0 0, .slice none 0 0]
def zKd : List Value := [.slice none 0 0, .int .i64 0, .int .i64 0]
def zNd : List Value := [.bool false, .slice none 0 0, .slice none 0 0]
/-- A pair's, a kid's cells, in memory of A. -/
def elPr (A : Nat → Prop) (w : World) (x : PairS) (vs : List Value) : Prop := ∃ p m c p' m' c', vs = [.slice p m c, .slice p' m' c'] ∧ BA A w p m c x.key ∧ BA A w p' m' c' x.value
def elKd (A : Nat → Prop) (w : World) (x : KidS) (vs : List Value) : Prop := ∃ p m c, vs = [.slice p m c, .int .i64 x.page, .int .i64 x.epoch] ∧ BA A w p m c x.key ∧ i64 x.page ∧ i64 x.epoch
def elPr5 (A : Nat → Prop) (w : World) (x : PairS) (vs : List Value) : Prop := ∃ p m c p' m' c', vs = [.slice p m c, .slice p' m' c'] ∧ B5 A w p m c x.key ∧ B5 A w p' m' c' x.value
def elKd5 (A : Nat → Prop) (w : World) (x : KidS) (vs : List Value) : Prop := ∃ p m c, vs = [.slice p m c, .int .i64 x.page, .int .i64 x.epoch] ∧ B5 A w p m c x.key ∧ i64 x.page ∧ i64 x.epoch
theorem elPr.row {A : Nat → Prop} {w : World} {x : PairS} {vs : List Value} (h : elPr A w x vs) : Row (elPr A) 2 w x vs := by
  have h0 := h
  obtain ⟨p, m, c, p', m', c', rfl, _⟩ := h
  exact ⟨rfl, by intro v hv; simp at hv; rcases hv with rfl | rfl <;> rfl, h0⟩
theorem elKd.row {A : Nat → Prop} {w : World} {x : KidS} {vs : List Value} (h : elKd A w x vs) : Row (elKd A) 3 w x vs := by
  have h0 := h
  obtain ⟨p, m, c, rfl, _⟩ := h
  exact ⟨rfl, by intro v hv; simp at hv; rcases hv with rfl | rfl | rfl <;> rfl, h0⟩
theorem elPr5.row {A : Nat → Prop} {w : World} {x : PairS} {vs : List Value} (h : elPr5 A w x vs) : Row (elPr5 A) 2 w x vs := by
  have h0 := h
  obtain ⟨p, m, c, p', m', c', rfl, _⟩ := h
  exact ⟨rfl, by intro v hv; simp at hv; rcases hv with rfl | rfl <;> rfl, h0⟩
theorem elKd5.row {A : Nat → Prop} {w : World} {x : KidS} {vs : List Value} (h : elKd5 A w x vs) : Row (elKd5 A) 3 w x vs := by
  have h0 := h
  obtain ⟨p, m, c, rfl, _⟩ := h
  exact ⟨rfl, by intro v hv; simp at hv; rcases hv with rfl | rfl | rfl <;> rfl, h0⟩
theorem elPr5.elPr {A : Nat → Prop} {w : World} : ∀ x vs, elPr5 A w x vs → elPr A w x vs := by
  rintro x vs ⟨p, m, c, p', m', c', e, h1, h2⟩
  exact ⟨p, m, c, p', m', c', e, h1.ba, h2.ba⟩
theorem elKd5.elKd {A : Nat → Prop} {w : World} : ∀ x vs, elKd5 A w x vs → elKd A w x vs := by
  rintro x vs ⟨p, m, c, e, h1, h2⟩
  exact ⟨p, m, c, e, h1.ba, h2⟩
theorem elPr.keep {A : Nat → Prop} {w w' : World} (hs : w.heap.size ≤ w'.heap.size) (hk : ∀ j, j < w.heap.size → A j → w'.heap[j]? = w.heap[j]?) : ∀ x vs, elPr A w x vs → elPr A w' x vs := by
  rintro x vs ⟨p, m, c, p', m', c', e, h1, h2⟩
  exact ⟨p, m, c, p', m', c', e, h1.keep hs hk, h2.keep hs hk⟩
theorem elKd.keep {A : Nat → Prop} {w w' : World} (hs : w.heap.size ≤ w'.heap.size) (hk : ∀ j, j < w.heap.size → A j → w'.heap[j]? = w.heap[j]?) : ∀ x vs, elKd A w x vs → elKd A w' x vs := by
  rintro x vs ⟨p, m, c, e, h1, h2⟩
  exact ⟨p, m, c, e, h1.keep hs hk, h2⟩
theorem elPr.mono {A A' : Nat → Prop} {w : World} (hA : ∀ j, j < w.heap.size → A j → A' j) : ∀ x vs, elPr A w x vs → elPr A' w x vs := by
  rintro x vs ⟨p, m, c, p', m', c', e, h1, h2⟩
  exact ⟨p, m, c, p', m', c', e, h1.mono hA, h2.mono hA⟩
theorem elKd.mono {A A' : Nat → Prop} {w : World} (hA : ∀ j, j < w.heap.size → A j → A' j) : ∀ x vs, elKd A w x vs → elKd A' w x vs := by
  rintro x vs ⟨p, m, c, e, h1, h2⟩
  exact ⟨p, m, c, e, h1.mono hA, h2⟩
theorem elPr5.keep {A : Nat → Prop} {w w' : World} (hk : ∀ j cur f, A j → w.heap[j]? = some (.cells cur 5 f) → w'.heap[j]? = w.heap[j]?) : ∀ x vs, elPr5 A w x vs → elPr5 A w' x vs := by
  rintro x vs ⟨p, m, c, p', m', c', e, h1, h2⟩
  exact ⟨p, m, c, p', m', c', e, h1.keep hk, h2.keep hk⟩
theorem elKd5.keep {A : Nat → Prop} {w w' : World} (hk : ∀ j cur f, A j → w.heap[j]? = some (.cells cur 5 f) → w'.heap[j]? = w.heap[j]?) : ∀ x vs, elKd5 A w x vs → elKd5 A w' x vs := by
  rintro x vs ⟨p, m, c, e, h1, h2⟩
  exact ⟨p, m, c, e, h1.keep hk, h2⟩
theorem elPr.below {A : Nat → Prop} {w w' : World} (hb : Below w.heap.size w w') : ∀ x vs, elPr A w x vs → elPr A w' x vs := elPr.keep hb.size fun j hj _ => hb.block j hj
theorem elKd.below {A : Nat → Prop} {w w' : World} (hb : Below w.heap.size w w') : ∀ x vs, elKd A w x vs → elKd A w' x vs := elKd.keep hb.size fun j hj _ => hb.block j hj
abbrev SlP (A : Nat → Prop) (w : World) (a : Option Addr) (n c : Nat) (l : List PairS) : Prop := Sl (elPr A) 2 A w a n c l
abbrev SlD (A : Nat → Prop) (w : World) (a : Option Addr) (n c : Nat) (l : List KidS) : Prop := Sl (elKd A) 3 A w a n c l
theorem SlP.keep {A : Nat → Prop} {w w' : World} {a : Option Addr} {n c : Nat} {l : List PairS} (h : SlP A w a n c l) (hs : w.heap.size ≤ w'.heap.size) (hk : ∀ j, j < w.heap.size → A j → w'.heap[j]? = w.heap[j]?) : SlP A w' a n c l := Sl.keep h hs (elPr.keep hs hk) hk
theorem SlD.keep {A : Nat → Prop} {w w' : World} {a : Option Addr} {n c : Nat} {l : List KidS} (h : SlD A w a n c l) (hs : w.heap.size ≤ w'.heap.size) (hk : ∀ j, j < w.heap.size → A j → w'.heap[j]? = w.heap[j]?) : SlD A w' a n c l := Sl.keep h hs (elKd.keep hs hk) hk
theorem SlP.below {A : Nat → Prop} {w w' : World} {a : Option Addr} {n c : Nat} {l : List PairS} (h : SlP A w a n c l) (hb : Below w.heap.size w w') : SlP A w' a n c l := SlP.keep h hb.size fun j hj _ => hb.block j hj
theorem SlD.below {A : Nat → Prop} {w w' : World} {a : Option Addr} {n c : Nat} {l : List KidS} (h : SlD A w a n c l) (hb : Below w.heap.size w w') : SlD A w' a n c l := SlD.keep h hb.size fun j hj _ => hb.block j hj
theorem SlP.mono {A A' : Nat → Prop} {w : World} {a : Option Addr} {n c : Nat} {l : List PairS} (h : SlP A w a n c l) (hA : ∀ j, j < w.heap.size → A j → A' j) : SlP A' w a n c l := Sl.mono h (elPr.mono hA) hA
theorem SlD.mono {A A' : Nat → Prop} {w : World} {a : Option Addr} {n c : Nat} {l : List KidS} (h : SlD A w a n c l) (hA : ∀ j, j < w.heap.size → A j → A' j) : SlD A' w a n c l := Sl.mono h (elKd.mono hA) hA
/-- A node's cells. -/
def ndc (n : NodeS) (p q : Tri) : List Value := [.bool n.leaf, .slice p.la p.ln p.lc, .slice q.la q.ln q.lc]
def ndv (n : NodeS) (p q : Tri) : Value := .agg (ndc n p q).toArray
theorem ndc_one (n : NodeS) (p q : Tri) : ∀ v ∈ ndc n p q, v.oneCell' = true := by
  intro v hv
  simp only [ndc, List.mem_cons, List.not_mem_nil, or_false] at hv
  rcases hv with rfl | rfl | rfl <;> rfl
/-- A node in memory of A. -/
structure Nd (A : Nat → Prop) (w : World) (n : NodeS) (p q : Tri) : Prop where
  ps : SlP A w p.la p.ln p.lc n.pairs
  ks : SlD A w q.la q.ln q.lc n.kids
theorem Nd.keep {A : Nat → Prop} {w w' : World} {n : NodeS} {p q : Tri} (h : Nd A w n p q) (hs : w.heap.size ≤ w'.heap.size) (hk : ∀ j, j < w.heap.size → A j → w'.heap[j]? = w.heap[j]?) : Nd A w' n p q := ⟨h.ps.keep hs hk, h.ks.keep hs hk⟩
theorem Nd.below {A : Nat → Prop} {w w' : World} {n : NodeS} {p q : Tri} (h : Nd A w n p q) (hb : Below w.heap.size w w') : Nd A w' n p q := ⟨h.ps.below hb, h.ks.below hb⟩
theorem Nd.mono {A A' : Nat → Prop} {w : World} {n : NodeS} {p q : Tri} (h : Nd A w n p q) (hA : ∀ j, j < w.heap.size → A j → A' j) : Nd A' w n p q := ⟨h.ps.mono hA, h.ks.mono hA⟩
theorem Nd.lp {A : Nat → Prop} {w : World} {n : NodeS} {p q : Tri} (h : Nd A w n p q) : n.pairs.length = p.ln := h.ps.len
theorem Nd.lk {A : Nat → Prop} {w : World} {n : NodeS} {p q : Tri} (h : Nd A w n p q) : n.kids.length = q.ln := h.ks.len
def T0 : Tri := ⟨none, 0, 0⟩
theorem Nd.zero (A : Nat → Prop) (w : World) : Nd A w zeroN T0 T0 := ⟨Sl.nil _ _ _ _, Sl.nil _ _ _ _⟩
/-- The k-th pair, the k-th kid: where it lies. -/
theorem SlP.at {A : Nat → Prop} {w w' : World} {a : Option Addr} {n c : Nat} {l : List PairS} (h : SlP A w a n c l) (hb : Below w.heap.size w w') {k : Nat} {x : PairS} (hx : l[k]? = some x) : ∃ b o vs, a = some ⟨b, o, none⟩ ∧ b < w'.heap.size ∧ w'.rangeAt b (o + k * 2) vs ∧ vs.length = 2 ∧ elPr A w' x vs :=
  Sl.at (h.below hb) hx
theorem SlD.at {A : Nat → Prop} {w w' : World} {a : Option Addr} {n c : Nat} {l : List KidS} (h : SlD A w a n c l) (hb : Below w.heap.size w w') {k : Nat} {x : KidS} (hx : l[k]? = some x) : ∃ b o vs, a = some ⟨b, o, none⟩ ∧ b < w'.heap.size ∧ w'.rangeAt b (o + k * 3) vs ∧ vs.length = 3 ∧ elKd A w' x vs :=
  Sl.at (h.below hb) hx

end Go.Proofs.Ytnmmopneacdgfaa

/-
  Slices of rows of bytes that a call made itself: literals of one row, storing such a slice into a field, how they outlast what is written. No condition; no statement of the seat is proved here.
-/
namespace Go.Proofs.Ytnmmopneacdgfaa
open Go.RowKit

theorem infoBy : (Try.prog.info? 26).map (fun i => (i.zero, i.size, i.bytes)) = some (some (.slice none 0 0), 1, 24) := by kernel_rfl
theorem neB5 : 26 ≠ 5 := by decide
theorem but_cells' (g : Nat) : ∀ (us : List Value) (w : World) (o : Nat), w.grownBy (w.setCells g o us) (some g)
  | [], _, _ => World.grownBy.refl _ _
  | u :: us, w, o => but_trans (but_set w g o u) (but_cells' g us _ (o + 1))
theorem OwB.grown {A : Nat → Prop} {e : TypeId} {w w' : World} {base r : Nat} {v : Value} {l : List (List UInt8)} (h : OwS (elB A) 1 e w base v l) (g : w.grownBy w' (some r)) (hr : r < base) (h5 : ∀ cur f, w.heap[r]? ≠ some (.cells cur 5 f)) : OwS (elB A) 1 e w' base v l :=
  h.keep (elB.grown g (fun j cur f hj => by obtain rfl := Option.some.inj hj; exact h5 cur f)) (fun j hj => g.block j (h.lt j hj).2 (fun e => by have := (h.lt j hj).1; have := Option.some.inj e; omega))
theorem OwB.below {A : Nat → Prop} {e : TypeId} {w w' : World} {base : Nat} {v : Value} {l : List (List UInt8)} (h : OwS (elB A) 1 e w base v l) (g : Below w.heap.size w w') : OwS (elB A) 1 e w' base v l :=
  h.keep (elB.keep fun j hj _ => g.block j hj) (fun j hj => g.block j (h.lt j hj).2)

end Go.Proofs.Ytnmmopneacdgfaa

/-
  An element of a slice of slices of the call's own, replaced. No condition; no statement of the seat is proved here.
-/
namespace Go.Proofs.Ytnmmopneacdgfaa
open Go.RowKit

theorem flat1_set : ∀ {rows : List (List Value)} (_ : ∀ vs ∈ rows, vs.length = 1) (k : Nat) (u : Value), (rows.set k [u]).flatten = rows.flatten.set k u
  | [], _, k, u => by simp
  | r :: rows, h, 0, u => by
    obtain ⟨x, rfl⟩ := List.length_eq_one_iff.1 (h r (by simp))
    simp
  | r :: rows, h, k + 1, u => by
    obtain ⟨x, rfl⟩ := List.length_eq_one_iff.1 (h r (by simp))
    have hx : ∀ vs ∈ rows, vs.length = 1 := fun v hv => h v (List.mem_cons_of_mem _ hv)
    have := flat1_set hx k u
    simpa using this
theorem Rel2.set {α β : Type} {R : α → β → Prop} : ∀ {l : List α} {m : List β}, Rel2 R l m → ∀ (k : Nat) {x : α} {y : β}, R x y → Rel2 R (l.set k x) (m.set k y)
  | [], [], _, k, x, y, _ => by simp [Rel2]
  | _ :: _, _ :: _, h, 0, x, y, hr => ⟨hr, h.2⟩
  | _ :: _, _ :: _, h, k + 1, x, y, hr => ⟨h.1, Rel2.set h.2 k hr⟩
  | [], _ :: _, h, _, _, _, _ => h.elim
  | _ :: _, [], h, _, _, _, _ => h.elim
/-- out.L[k] = s. -/
theorem OwB.set {A : Nat → Prop} {e : TypeId} {w : World} {base : Nat} {a : Option Addr} {n c : Nat} {l : List (List UInt8)} (h : OwS (elB A) 1 e w base (.slice a n c) l) (he : e ≠ 5) {k : Nat} (hk : k < l.length) :
    ∃ g, a = some ⟨g, 0, none⟩ ∧ base ≤ g ∧ g < w.heap.size ∧ (∃ u, w.cell? ⟨g, k, none⟩ = some u) ∧ w.frozen? ⟨g, k, none⟩ = false ∧
      ∀ {p : Option Addr} {m q : Nat} {x : List UInt8}, B5 A w p m q x → OwS (elB A) 1 e (w.setCell ⟨g, k, none⟩ (.slice p m q)) base (.slice a n c) (l.set k x) := by
  have h5 := OwS.not5 h he
  obtain ⟨rows, hr, h1, h2⟩ := h
  rcases h2 with ⟨hv, h0⟩ | ⟨g, cap, cur, hv, hg, hh, hn, hm, hc, ht⟩
  · omega
  · simp only [Value.slice.injEq] at hv
    obtain ⟨rfl, rfl, rfl⟩ := hv
    have hlt : g < w.heap.size := (Array.getElem?_eq_some_iff.1 hh).1
    have hks : k < cur.size := by rw [hc]; omega
    refine ⟨g, rfl, hg, hlt, ⟨cur[k], ?_⟩, ?_, fun {p m q x} hx => ?_⟩
    · rw [cell_of_row w g k _ e (0, 0) hh]
      simp [hks]
    · simp [World.frozen?, hh]
    · have hgb := but_set w g k (.slice p m q)
      have hel := elB.grown (A := A) hgb (fun j cur f hj => h5 j cur f (by rw [← hj]; rfl))
      refine ⟨rows.set k [.slice p m q], ?_, ?_, ?_⟩
      · exact Rel2.set (hr.mono fun y vs ⟨a1, a2, a3⟩ => ⟨a1, a2, hel y vs a3⟩) k ⟨rfl, by intro v hv; simp at hv; subst hv; rfl, p, m, q, rfl, hx.grown hgb (fun j cur f hj => h5 j cur f (by rw [← hj]; rfl))⟩
      · rw [flat1_set (rel_lens hr), List.length_set, List.length_set]
        exact h1
      · refine Or.inr ⟨g, c, cur.setIfInBounds k (.slice p m q), by rw [List.length_set], hg, ?_, by rw [List.length_set]; exact hn, hm, by simpa using hc, ?_⟩
        · rw [setCell_eq_setRow w g k _ e (0, 0) _ hh, setRow_heap w g _ _ e (0, 0) hh]
        · rw [flat1_set (rel_lens hr), List.length_set, ← ht]
          rw [Array.toList_setIfInBounds, List.take_set]

theorem OwB.mono {A A' : Nat → Prop} {e : TypeId} {w : World} {base : Nat} {v : Value} {l : List (List UInt8)} (h : OwS (elB A) 1 e w base v l) (hA : ∀ j, j < w.heap.size → A j → A' j) : OwS (elB A') 1 e w base v l := by
  obtain ⟨rows, hr, ho⟩ := h
  exact ⟨rows, hr.mono fun x vs ⟨a1, a2, p, m, q, e, hb⟩ => ⟨a1, a2, p, m, q, e, hb.mono hA⟩, ho⟩

end Go.Proofs.Ytnmmopneacdgfaa

/-
  Contracts of layer 18's program: a pair, a kid read. Condition: at most 100000 bytes left.
-/
namespace Go.Proofs.Ytnmmopneacdgfaa
open Go.RowKit
set_option linter.unusedVariables false
theorem Blk.not5n {w : World} {g : Nat} {vs : List Value} {t : TypeId} (h : Blk w g vs t) (ht : t ≠ 5) {cur : Array Value} {f : Nat × Nat} : w.heap[g]? ≠ some (.cells cur 5 f) := fun hh => by
  rw [show w.heap[g]? = _ from h] at hh
  simp only [Option.some.injEq, Obj.cells.injEq] at hh
  exact ht hh.2.1
theorem Blk.turn {w w' : World} {g r : Nat} {vs : List Value} {t : TypeId} (h : Blk w g vs t) (k : w.grownBy w' (some r)) (hn : g ≠ r) : Blk w' g vs t := by
  unfold Blk
  rw [k.block g h.lt (fun e => hn (Option.some.inj e))]
  exact h
theorem B5.turn {A : Nat → Prop} {w w' : World} {p : Option Addr} {m q : Nat} {b : List UInt8} {r : Nat} (h : B5 A w p m q b) (k : w.grownBy w' (some r)) (hr : ¬ A r) : B5 A w' p m q b :=
  h.keep fun j _ _ ha hh => k.block j (Array.getElem?_eq_some_iff.1 hh).1 (fun e => hr (by rw [← Option.some.inj e]; exact ha))
/-- Two blocks alone were written, one of them new. -/
theorem but_new {w u u' : World} {r g : Nat} (h : w.grownBy u (some r)) (k : u.grownBy u' (some g)) (hg : w.heap.size ≤ g) : w.grownBy u' (some r) :=
  ⟨k.os.trans h.os, k.tape.trans h.tape, k.output.trans h.output, Nat.le_trans h.size k.size, fun i hi hr => (k.block i (Nat.lt_of_lt_of_le hi h.size) (fun e => by have := Option.some.inj e; omega)).trans (h.block i hi hr)⟩
set_option maxRecDepth 100000 in
set_option maxHeartbeats 4000000 in
theorem oRdP (w : World) (r : Nat) {s : RdS} (h : Rd w r s.1 s.2) (hz : s.1.length ≤ 100000) : Calls Try.prog 74 #[.pointer (some ⟨r, 0, none⟩)] w fun e w' => ∃ kp km kc vp vm vc, e = .returned (.agg (List.toArray [.slice kp km kc, .slice vp vm vc])) ∧ elPr5 (fun j => w.heap.size ≤ j) w' (pairR s) [.slice kp km kc, .slice vp vm vc] ∧ Rd w' r (restP s).1 (restP s).2 ∧ w.grownBy w' (some r) := by
  have hr := h.lt
  obtain ⟨v0, hv0⟩ : ∃ v0, v0 = w.alloc (.cells #[.slice none 0 0, .slice none 0 0] 44) := ⟨_, rfl⟩
  have b0 : Blk v0 w.heap.size [.slice none 0 0, .slice none 0 0] 44 := by rw [hv0]; exact Blk.newAt w _ _ w.heap.size rfl _ rfl
  have k0 : Below w.heap.size w v0 := by rw [hv0]; exact below_alloc _ _
  have y0 : w.grownBy v0 (some r) := but_of_below k0
  have rd0 := h.below k0 (Nat.le_refl _)
  have hbr : w.heap.size ≠ r := by omega
  have hnr : ¬ w.heap.size ≤ r := by omega
  have E1 := rV1 s
  have E2 := rV1 (rN s 1)
  have C1 : Hid (∀ u, Rd u r (s).1 (s).2 → Calls Try.prog 72 #[.pointer (some ⟨r, 0, none⟩), .int .i64 1] u fun e u' => e = .returned (.int .u64 (rV s 1 : Nat)) ∧ Rd u' r (rN s 1).1 (rN s 1).2 ∧ u.grownBy u' (some r)) := fun u hu => oNumber u r hu 1 hz (by decide) (by decide)
  have C2 : Hid (∀ u, Rd u r (rN s 1).1 (rN s 1).2 → Calls Try.prog 72 #[.pointer (some ⟨r, 0, none⟩), .int .i64 1] u fun e u' => e = .returned (.int .u64 (rV (rN s 1) 1 : Nat)) ∧ Rd u' r (rN (rN s 1) 1).1 (rN (rN s 1) 1).2 ∧ u.grownBy u' (some r)) := fun u hu => oNumber u r hu 1 (rN_len hz 1) (by decide) (by decide)
  have C3 : Hid (∀ u, Rd u r (rN (rN s 1) 1).1 (rN (rN s 1) 1).2 → Calls Try.prog 36 #[.pointer (some ⟨r, 0, none⟩), .int .i64 (rV s 1 : Nat)] u fun e u' => ∃ a' m' c', e = .returned (.slice a' m' c') ∧ Own u' u.heap.size (.slice a' m' c') (rB (rN (rN s 1) 1) (rV s 1 : Nat)) ∧ Rd u' r (rN (rN (rN s 1) 1) (rV s 1 : Nat)).1 (rN (rN (rN s 1) 1) (rV s 1 : Nat)).2 ∧ u.grownBy u' (some r)) := fun u hu => oBytes u r hu (rV s 1 : Nat) (rN_len (rN_len hz 1) 1) (by omega) (by omega)
  have C4 : Hid (∀ u, Rd u r (rN (rN (rN s 1) 1) (rV s 1 : Nat)).1 (rN (rN (rN s 1) 1) (rV s 1 : Nat)).2 → Calls Try.prog 36 #[.pointer (some ⟨r, 0, none⟩), .int .i64 (rV (rN s 1) 1 : Nat)] u fun e u' => ∃ a' m' c', e = .returned (.slice a' m' c') ∧ Own u' u.heap.size (.slice a' m' c') (rB (rN (rN (rN s 1) 1) (rV s 1 : Nat)) (rV (rN s 1) 1 : Nat)) ∧ Rd u' r (rN (rN (rN (rN s 1) 1) (rV s 1 : Nat)) (rV (rN s 1) 1 : Nat)).1 (rN (rN (rN (rN s 1) 1) (rV s 1 : Nat)) (rV (rN s 1) 1 : Nat)).2 ∧ u.grownBy u' (some r)) := fun u hu => oBytes u r hu (rV (rN s 1) 1 : Nat) (rN_len (rN_len (rN_len hz 1) 1) _) (by omega) (by omega)
  unfold pairR restP
  generalize rB (rN (rN (rN s 1) 1) (rV s 1 : Nat)) (rV (rN s 1) 1 : Nat) = bv at *
  generalize rN (rN (rN (rN s 1) 1) (rV s 1 : Nat)) (rV (rN s 1) 1 : Nat) = s4 at *
  generalize rB (rN (rN s 1) 1) (rV s 1 : Nat) = bk at *
  generalize rN (rN (rN s 1) 1) (rV s 1 : Nat) = s3 at *
  generalize rV (rN s 1) 1 = e2 at *
  generalize rV s 1 = e1 at *
  generalize rN (rN s 1) 1 = s2 at *
  generalize rN s 1 = s1 at *
  have w1 : IntKind.i64.wrap (e1 : Int) = (e1 : Int) := by rw [IntKind.wrap_i64]; omega
  have w2 : IntKind.i64.wrap (e2 : Int) = (e2 : Int) := by rw [IntKind.wrap_i64]; omega
  clear h hz
  go_enter Try.func74, Try.ntmps74
  go_upto_region 1 with fail
  rw [← hv0]
  clear hv0
  go_wp2_with fail
  refine (C1.out v0 rd0).mono ?_
  rintro e v1 ⟨rfl, rd1, g1⟩
  have b1 := b0.turn g1 hbr
  have y1 : w.grownBy v1 (some r) := but_trans y0 g1
  go_wp2_with fail
  refine (C2.out v1 rd1).mono ?_
  rintro e v2 ⟨rfl, rd2, g2⟩
  have b2 := b1.turn g2 hbr
  have y2 : w.grownBy v2 (some r) := but_trans y1 g2
  go_wp2_with fail
  refine (C3.out v2 rd2).mono ?_
  rintro e v3 ⟨a3, m3, c3, rfl, o3, rd3, g3⟩
  have b3 := b2.turn g3 hbr
  have y3 : w.grownBy v3 (some r) := but_trans y2 g3
  have B3 : B5 (fun j => w.heap.size ≤ j) v3 a3 m3 c3 bk := o3.b5 (fun j hj _ => Nat.le_trans y2.size hj)
  go_wp2_with fail
  refine (C4.out v3 rd3).mono ?_
  rintro e v4 ⟨a4, m4, c4, rfl, o4, rd4, g4⟩
  have b4 := b3.turn g4 hbr
  have y4 : w.grownBy v4 (some r) := but_trans y3 g4
  have B4 : B5 (fun j => w.heap.size ≤ j) v4 a4 m4 c4 bv := o4.b5 (fun j hj _ => Nat.le_trans y3.size hj)
  have B3b := B3.turn g4 hnr
  clear o3 o4 rd0 rd1 rd2 rd3 b0 b1 b2 b3 y0 y1 y2 y3 k0 C1 C2 C3 C4 g1 g2 g3 g4 B3
  go_wp2_with ((with_reducible refine at_st 44 ?_); (refine st' 44 (.tmp 2) (.tmp 17) 2 sizePr w.heap.size 0 [.slice a3 m3 c3, .slice a4 m4 c4] rfl (by intro u hu; simp only [List.mem_cons, List.not_mem_nil, or_false] at hu; rcases hu with rfl | rfl <;> rfl) (b4.there 0 2 (by simp)) rfl rfl ?_); intro v5 hv5; have b5 : Blk v5 w.heap.size [.slice a3 m3 c3, .slice a4 m4 c4] 44 := (by rw [hv5]; exact b4.setsW _ rfl); have g5 : v4.grownBy v5 (some w.heap.size) := (by rw [hv5]; exact but_cells' _ _ _ _); clear hv5)
  have h5 : ∀ j cur f, w.heap.size ≤ j → v4.heap[j]? = some (.cells cur 5 f) → v5.heap[j]? = v4.heap[j]? := fun j _ _ _ hh => g5.block j (Array.getElem?_eq_some_iff.1 hh).1 (fun e => by obtain rfl := Option.some.inj e; exact b4.not5n nePr5 hh)
  have P1 := B3b.keep h5
  have P2 := B4.keep h5
  have rd5 := rd4.but g5 hr
  have y5 : w.grownBy v5 (some r) := but_new y4 g5 (Nat.le_refl _)
  exact bodyPost_ret (v := .agg (List.toArray [.slice a3 m3 c3, .slice a4 m4 c4])) (results_cell_row Try.results74 _ _ w.heap.size 44 (List.toArray [.slice a3 m3 c3, .slice a4 m4 c4]) (0, 0) _ rfl b5 Try.underlying44 rfl sizePr) rfl ⟨a3, m3, c3, a4, m4, c4, rfl, ⟨a3, m3, c3, a4, m4, c4, rfl, P1, P2⟩, rd5, y5⟩
set_option maxRecDepth 100000 in
set_option maxHeartbeats 4000000 in
theorem oRdK (w : World) (r : Nat) {s : RdS} (h : Rd w r s.1 s.2) (hz : s.1.length ≤ 100000) : Calls Try.prog 76 #[.pointer (some ⟨r, 0, none⟩)] w fun e w' => ∃ kp km kc, e = .returned (.agg (List.toArray [.slice kp km kc, .int .i64 (kidR s).page, .int .i64 (kidR s).epoch])) ∧ elKd5 (fun j => w.heap.size ≤ j) w' (kidR s) [.slice kp km kc, .int .i64 (kidR s).page, .int .i64 (kidR s).epoch] ∧ Rd w' r (restD s).1 (restD s).2 ∧ w.grownBy w' (some r) := by
  have hr := h.lt
  obtain ⟨v0, hv0⟩ : ∃ v0, v0 = w.alloc (.cells #[.slice none 0 0, .int .i64 0, .int .i64 0] 46) := ⟨_, rfl⟩
  have b0 : Blk v0 w.heap.size [.slice none 0 0, .int .i64 0, .int .i64 0] 46 := by rw [hv0]; exact Blk.newAt w _ _ w.heap.size rfl _ rfl
  have k0 : Below w.heap.size w v0 := by rw [hv0]; exact below_alloc _ _
  have y0 : w.grownBy v0 (some r) := but_of_below k0
  have rd0 := h.below k0 (Nat.le_refl _)
  have hbr : w.heap.size ≠ r := by omega
  have hnr : ¬ w.heap.size ≤ r := by omega
  have E1 := rV1 s
  have E2 := rV2 (rN s 1)
  have C1 : Hid (∀ u, Rd u r (s).1 (s).2 → Calls Try.prog 72 #[.pointer (some ⟨r, 0, none⟩), .int .i64 1] u fun e u' => e = .returned (.int .u64 (rV s 1 : Nat)) ∧ Rd u' r (rN s 1).1 (rN s 1).2 ∧ u.grownBy u' (some r)) := fun u hu => oNumber u r hu 1 hz (by decide) (by decide)
  have C2 : Hid (∀ u, Rd u r (rN s 1).1 (rN s 1).2 → Calls Try.prog 72 #[.pointer (some ⟨r, 0, none⟩), .int .i64 2] u fun e u' => e = .returned (.int .u64 (rV (rN s 1) 2 : Nat)) ∧ Rd u' r (rN (rN s 1) 2).1 (rN (rN s 1) 2).2 ∧ u.grownBy u' (some r)) := fun u hu => oNumber u r hu 2 (rN_len hz 1) (by decide) (by decide)
  have C3 : Hid (∀ u, Rd u r (rN (rN s 1) 2).1 (rN (rN s 1) 2).2 → Calls Try.prog 72 #[.pointer (some ⟨r, 0, none⟩), .int .i64 8] u fun e u' => e = .returned (.int .u64 (rV (rN (rN s 1) 2) 8 : Nat)) ∧ Rd u' r (rN (rN (rN s 1) 2) 8).1 (rN (rN (rN s 1) 2) 8).2 ∧ u.grownBy u' (some r)) := fun u hu => oNumber u r hu 8 (rN_len (rN_len hz 1) 2) (by decide) (by decide)
  have C4 : Hid (∀ u, Rd u r (rN (rN (rN s 1) 2) 8).1 (rN (rN (rN s 1) 2) 8).2 → Calls Try.prog 36 #[.pointer (some ⟨r, 0, none⟩), .int .i64 (rV s 1 : Nat)] u fun e u' => ∃ a' m' c', e = .returned (.slice a' m' c') ∧ Own u' u.heap.size (.slice a' m' c') (rB (rN (rN (rN s 1) 2) 8) (rV s 1 : Nat)) ∧ Rd u' r (rN (rN (rN (rN s 1) 2) 8) (rV s 1 : Nat)).1 (rN (rN (rN (rN s 1) 2) 8) (rV s 1 : Nat)).2 ∧ u.grownBy u' (some r)) := fun u hu => oBytes u r hu (rV s 1 : Nat) (rN_len (rN_len (rN_len hz 1) 2) 8) (by omega) (by omega)
  unfold kidR restD
  dsimp only
  generalize rB (rN (rN (rN s 1) 2) 8) (rV s 1 : Nat) = bk at *
  generalize rN (rN (rN (rN s 1) 2) 8) (rV s 1 : Nat) = s4 at *
  have E3 : rV (rN (rN s 1) 2) 8 ≤ 18446744073709551615 := Nat.le_of_lt_succ (getN_lt _)
  have E4 := cap62_le (rV (rN (rN s 1) 2) 8)
  have H4 : cap62 (rV (rN (rN s 1) 2) 8) = if 4611686018427387904 < rV (rN (rN s 1) 2) 8 then 4611686018427387904 else (rV (rN (rN s 1) 2) 8 : Int) := rfl
  generalize cap62 (rV (rN (rN s 1) 2) 8) = ec at *
  generalize rV (rN (rN s 1) 2) 8 = e3 at *
  generalize rN (rN (rN s 1) 2) 8 = s3 at *
  generalize rV (rN s 1) 2 = e2 at *
  generalize rV s 1 = e1 at *
  generalize rN (rN s 1) 2 = s2 at *
  generalize rN s 1 = s1 at *
  have w1 : IntKind.i64.wrap (e1 : Int) = (e1 : Int) := by rw [IntKind.wrap_i64]; omega
  have w2 : IntKind.i64.wrap (e2 : Int) = (e2 : Int) := by rw [IntKind.wrap_i64]; omega
  have w3 : IntKind.i64.wrap ec = ec := by rw [IntKind.wrap_i64]; omega
  by_cases hm : (4611686018427387904 : Int) < (e3 : Int)
  · have ee : ec = 4611686018427387904 := by rw [H4, if_pos (by omega)]
    subst ee
    clear H4 w3
    clear h hz
    go_enter Try.func76, Try.ntmps76
    go_upto_region 1 with fail
    rw [← hv0]
    clear hv0
    go_wp2_with fail
    refine (C1.out v0 rd0).mono ?_
    rintro e v1 ⟨rfl, rd1, g1⟩
    have b1 := b0.turn g1 hbr
    have y1 : w.grownBy v1 (some r) := but_trans y0 g1
    go_wp2_with fail
    refine (C2.out v1 rd1).mono ?_
    rintro e v2 ⟨rfl, rd2, g2⟩
    have b2 := b1.turn g2 hbr
    have y2 : w.grownBy v2 (some r) := but_trans y1 g2
    go_wp2_with fail
    refine (C3.out v2 rd2).mono ?_
    rintro e v3 ⟨rfl, rd3, g3⟩
    have b3 := b2.turn g3 hbr
    have y3 : w.grownBy v3 (some r) := but_trans y2 g3
    go_wp2_with fail
    refine (C4.out v3 rd3).mono ?_
    rintro e v4 ⟨a4, m4, c4, rfl, o4, rd4, g4⟩
    have b4 := b3.turn g4 hbr
    have y4 : w.grownBy v4 (some r) := but_trans y3 g4
    have B4 : B5 (fun j => w.heap.size ≤ j) v4 a4 m4 c4 bk := o4.b5 (fun j hj _ => Nat.le_trans y3.size hj)
    clear o4 rd0 rd1 rd2 rd3 b0 b1 b2 b3 y0 y1 y2 y3 k0 C1 C2 C3 C4 g1 g2 g3 g4
    go_wp2_with ((with_reducible refine at_st 46 ?_); (refine st' 46 (.tmp 2) (.tmp 17) 3 sizeKd w.heap.size 0 [.slice a4 m4 c4, .int .i64 (e2 : Int), .int .i64 (4611686018427387904 : Int)] rfl (by intro u hu; simp only [List.mem_cons, List.not_mem_nil, or_false] at hu; rcases hu with rfl | rfl | rfl <;> rfl) (b4.there 0 3 (by simp)) rfl rfl ?_); intro v5 hv5; have b5 : Blk v5 w.heap.size [.slice a4 m4 c4, .int .i64 (e2 : Int), .int .i64 (4611686018427387904 : Int)] 46 := (by rw [hv5]; exact b4.setsW _ rfl); have g5 : v4.grownBy v5 (some w.heap.size) := (by rw [hv5]; exact but_cells' _ _ _ _); clear hv5)
    have h5 : ∀ j cur f, w.heap.size ≤ j → v4.heap[j]? = some (.cells cur 5 f) → v5.heap[j]? = v4.heap[j]? := fun j _ _ _ hh => g5.block j (Array.getElem?_eq_some_iff.1 hh).1 (fun e => by obtain rfl := Option.some.inj e; exact b4.not5n neKd5 hh)
    have P1 := B4.keep h5
    have rd5 := rd4.but g5 hr
    have y5 : w.grownBy v5 (some r) := but_new y4 g5 (Nat.le_refl _)
    exact bodyPost_ret (v := .agg (List.toArray [.slice a4 m4 c4, .int .i64 (e2 : Int), .int .i64 (4611686018427387904 : Int)])) (results_cell_row Try.results76 _ _ w.heap.size 46 (List.toArray [.slice a4 m4 c4, .int .i64 (e2 : Int), .int .i64 (4611686018427387904 : Int)]) (0, 0) _ rfl b5 Try.underlying46 rfl sizeKd) rfl ⟨a4, m4, c4, rfl, ⟨a4, m4, c4, rfl, P1, ⟨by show _ ≤ (e2 : Int); omega, by show (e2 : Int) ≤ _; omega⟩, ⟨by show _ ≤ (4611686018427387904 : Int); omega, by show (4611686018427387904 : Int) ≤ _; omega⟩⟩, rd5, y5⟩
  · have ee : ec = (e3 : Int) := by rw [H4, if_neg (by omega)]
    subst ee
    clear H4
    clear h hz
    go_enter Try.func76, Try.ntmps76
    go_upto_region 1 with fail
    rw [← hv0]
    clear hv0
    go_wp2_with fail
    refine (C1.out v0 rd0).mono ?_
    rintro e v1 ⟨rfl, rd1, g1⟩
    have b1 := b0.turn g1 hbr
    have y1 : w.grownBy v1 (some r) := but_trans y0 g1
    go_wp2_with fail
    refine (C2.out v1 rd1).mono ?_
    rintro e v2 ⟨rfl, rd2, g2⟩
    have b2 := b1.turn g2 hbr
    have y2 : w.grownBy v2 (some r) := but_trans y1 g2
    go_wp2_with fail
    refine (C3.out v2 rd2).mono ?_
    rintro e v3 ⟨rfl, rd3, g3⟩
    have b3 := b2.turn g3 hbr
    have y3 : w.grownBy v3 (some r) := but_trans y2 g3
    go_wp2_with fail
    refine (C4.out v3 rd3).mono ?_
    rintro e v4 ⟨a4, m4, c4, rfl, o4, rd4, g4⟩
    have b4 := b3.turn g4 hbr
    have y4 : w.grownBy v4 (some r) := but_trans y3 g4
    have B4 : B5 (fun j => w.heap.size ≤ j) v4 a4 m4 c4 bk := o4.b5 (fun j hj _ => Nat.le_trans y3.size hj)
    clear o4 rd0 rd1 rd2 rd3 b0 b1 b2 b3 y0 y1 y2 y3 k0 C1 C2 C3 C4 g1 g2 g3 g4
    go_wp2_with ((with_reducible refine at_st 46 ?_); (refine st' 46 (.tmp 2) (.tmp 17) 3 sizeKd w.heap.size 0 [.slice a4 m4 c4, .int .i64 (e2 : Int), .int .i64 (e3 : Int)] rfl (by intro u hu; simp only [List.mem_cons, List.not_mem_nil, or_false] at hu; rcases hu with rfl | rfl | rfl <;> rfl) (b4.there 0 3 (by simp)) rfl rfl ?_); intro v5 hv5; have b5 : Blk v5 w.heap.size [.slice a4 m4 c4, .int .i64 (e2 : Int), .int .i64 (e3 : Int)] 46 := (by rw [hv5]; exact b4.setsW _ rfl); have g5 : v4.grownBy v5 (some w.heap.size) := (by rw [hv5]; exact but_cells' _ _ _ _); clear hv5)
    have h5 : ∀ j cur f, w.heap.size ≤ j → v4.heap[j]? = some (.cells cur 5 f) → v5.heap[j]? = v4.heap[j]? := fun j _ _ _ hh => g5.block j (Array.getElem?_eq_some_iff.1 hh).1 (fun e => by obtain rfl := Option.some.inj e; exact b4.not5n neKd5 hh)
    have P1 := B4.keep h5
    have rd5 := rd4.but g5 hr
    have y5 : w.grownBy v5 (some r) := but_new y4 g5 (Nat.le_refl _)
    exact bodyPost_ret (v := .agg (List.toArray [.slice a4 m4 c4, .int .i64 (e2 : Int), .int .i64 (e3 : Int)])) (results_cell_row Try.results76 _ _ w.heap.size 46 (List.toArray [.slice a4 m4 c4, .int .i64 (e2 : Int), .int .i64 (e3 : Int)]) (0, 0) _ rfl b5 Try.underlying46 rfl sizeKd) rfl ⟨a4, m4, c4, rfl, ⟨a4, m4, c4, rfl, P1, ⟨by show _ ≤ (e2 : Int); omega, by show (e2 : Int) ≤ _; omega⟩, ⟨by show _ ≤ (e3 : Int); omega, by show (e3 : Int) ≤ _; omega⟩⟩, rd5, y5⟩

end Go.Proofs.Ytnmmopneacdgfaa
