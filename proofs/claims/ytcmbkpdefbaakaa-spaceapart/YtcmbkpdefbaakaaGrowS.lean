/-
  Rows of regions that draw their order, whatever the types: loads of a cell and of whole structs, elements of a slice, a store of a struct or a call at the end. No condition; no statement of the seat is proved here.
-/
import Derived.Test.YtcmbkpdefbaakaaGrowF
import Derived.Test.YtcmbkpdefbaakaaPowL
namespace Go.Proofs.Ytcmbkpdefbaakaa
open Go.RowKit

theorem ans_of {P : Program} {ops : Array Oper} {S : World → Prop} {o : Oper} {v : Value} {a : Act} (h : YieldsIf P ops S o v a) : Ans P ops S o v a := by
  rcases h with ⟨h1, h2⟩ | h
  · exact ans_plain h1 h2
  · exact Or.inr h
/-- A load of a struct, an array. -/
theorem ans_row {ops : Array Oper} {S : World → Prop} {oi : Oper} {a : Act} (ty : TypeId) (x : Operand) (d : TypeDesc) (n : Nat) (ho : oi.op = .load ty x) (hw : Region.wanted oi (yielded ops a.tmps) = true) (b o : Nat) (hx : a.eval x = .pointer (some ⟨b, o, none⟩)) (vs : List Value) (hv : ∀ w, S w → w.rangeAt b o vs)
    (hu : Try.prog.underlying ty = some d) (hd : d.isRow = true) (hn : vs.length = n) (hi : (Try.prog.info? ty).map (·.size) = some n) : Ans Try.prog ops S oi (.agg vs.toArray) a :=
  ans_of (yieldsIf_load_mid hw ty x ho b o hx vs d hv hu hd (by rw [hn]; exact hi))
/-- A store of a struct, an array into its own variable. -/
theorem opStR {ops : Array Oper} {Q : Exit → Act → World → Prop} (i : Nat) (ty : TypeId) (x y : Operand) (n : Nat) {oi : Oper} {K : Act → World → Prop} {a : Act} {w : World} (hi : ops[i]? = some oi) (hd : oi.dst = none) (ho : oi.op = .store ty x y) (hg : oi.guard = none) (g : Nat) (us vs : List Value) (t : TypeId) (hb : Blk w g us t) (hn : us.length = n) (hm : vs.length = n) (h1 : ∀ v ∈ vs, v.oneCell' = true) (hz : (Try.prog.info? ty).map (·.size) = some n)
    (hx : a.eval x = .pointer (some ⟨g, 0, none⟩)) (hy : a.eval y = .agg vs.toArray)
    (k : ∀ w', Blk w' g vs t → Kp (fun j => j = g) w w' → K a w') : wpOp Try.prog ops Q i K a w := by
  have hr := run_storeAt_mid (P := Try.prog) w g 0 ty vs.toArray (by rw [List.size_toArray, hm]; exact hb.there 0 n (by omega)) (by rw [List.size_toArray, hm]; exact hz) (all_oneCell_toArray h1)
  have hkp : Kp (fun j => j = g) w (w.setCells g 0 vs) := by
    have hh : ∀ (us : List Value) (w0 : World) (o : Nat), Kp (fun j => j = g) w0 (w0.setCells g o us) := by
      intro us
      induction us with
      | nil => intro w0 o; exact Kp.refl _ _
      | cons u us ih => intro w0 o; exact (Kp.of_grown (but_set w0 g o u)).trans (ih _ _)
    exact hh vs w 0
  have hK : Hid _ := k (w.setCells g 0 vs) (hb.setsW _ (by omega)) hkp
  clear k
  unfold wpOp
  simp only [hi]
  rw [if_pos (by simp [Region.wanted, hg])]
  left
  unfold Oper.wp
  simp [execOp, ho, hx, hy, hr, Result.andThen]
  simp only [Oper.upon, hd]
  exact hK.out
/-- A call, the last one. -/
theorem lastC {ops : Array Oper} {Q : Exit → Act → World → Prop} {md : Region.Mode} {S : World → Prop} (i : Nat) (d : Option Tmp) (f : FuncId) (args : Array Operand) (tys : Array TypeId) (vs : Array Value) {oi : Oper} {fuel : Nat} {listed : Array Bool} {a : Act} {w : World} (hi : ops[i]? = some oi) (hd : oi.dst = d)
    (ho : oi.op = .call { callee := .value (.func f), args := args, argTypes := tys }) (hw : Region.wanted oi (yielded ops a.tmps) = true) (hv : (args.toList.map a.eval).toArray = vs) (hr : Region.ready md ops listed = [i]) (he : listed.getD i true = false) (hl : (listed.setIfInBounds i true).getD i true = true) (hz : Region.ready md ops (listed.setIfInBounds i true) = []) (hc : ∀ vs w, (callFunc f vs).run Try.prog w = .ok (.enter f vs) w)
    (h : ∀ w', Grows w w' → S w' → Calls Try.prog f vs w' fun x w'' => ∃ v, x = .returned v ∧ ∀ w3, Grows w'' w3 → Q .normal (a.put d v) w3) : wpAnyE Try.prog md ops Q S i (fuel + 1) listed a w := by
  subst hd
  have hv' : args.map a.eval = vs := by rw [← hv]; apply Array.toList_inj.1; rw [Array.toList_map]
  subst hv'
  refine lastE hr he hl hz fun w' hg hS => ?_
  unfold wpOp
  simp only [hi]
  rw [if_pos hw]
  left
  unfold Oper.wp
  have hx : (execOp a.eval oi).run Try.prog w' = .ok (.enter f (args.map a.eval)) w' := by simp [execOp, ho, resolve, invoke, Act.eval, Deferred.ofValue, hc]
  rw [hx, Oper.upon_enter]
  refine (h w' hg hS).mono ?_
  rintro x w'' ⟨v, rfl, hh⟩
  exact hh

end Go.Proofs.Ytcmbkpdefbaakaa
