/-
  Variables of elements in a region that draws its order: made, and written. No condition; no statement of the seat is proved here.
-/
import Derived.Test.YtfgoomlgmepalaaFieldF
import Derived.Test.YtfgoomlgmepalaaAllocs
import Derived.Deep.DeepCutAuto
namespace Go.Proofs.Ytfgoomlgmepalaa
open Go.RowKit

abbrev z2 : Array Value := #[.int .u64 0, .int .u64 0]
theorem makesE {ops : Array Oper} {i : Nat} {d : Tmp} {tp : TypeId} {pos : String} {aft : Array Edge} (hi : ops[i]? = some { dst := some d, op := .alloc 25, type := tp, pos := pos, after := aft, guard := none }) : Makes Try.prog ops i d z2 25 :=
  ⟨_, hi, rfl, rfl, fun ρ w => by unfold execOp; go_simp⟩
theorem storeE {ops : Array Oper} {Q : Exit → Act → World → Prop} (i : Nat) (x y : Operand) {oi : Oper} {K : Act → World → Prop} {a : Act} {w : World} (hi : ops[i]? = some oi) (hd : oi.dst = none) (ho : oi.op = .store 25 x y) (hg : oi.guard = none) (g : Nat) (X : Fe) (vs : List Value) (hl : vs.length = 2) (hb : Blk w g vs 25)
    (hx : a.eval x = .pointer (some ⟨g, 0, none⟩)) (hy : a.eval y = .agg #[.int .u64 (hN X : Int), .int .u64 (lN X : Int)])
    (k : ∀ w', Blk w' g (ec X) 25 → (∀ j us u, j ≠ g → Blk w j us u → Blk w' j us u) → (∀ B a, B ≤ g → Below B a w → Below B a w') → K a w') : wpOp Try.prog ops Q i K a w := by
  obtain ⟨v0, v1, rfl⟩ : ∃ v0 v1, vs = [v0, v1] := by
    match vs, hl with
    | [v0, v1], _ => exact ⟨v0, v1, rfl⟩
  have c0 := hb.cell 0
  have c1 := hb.cell 1
  have f0 := hb.free 0
  have f1 := hb.free 1
  simp only [List.getElem?_cons_zero, List.getElem?_cons_succ] at c0 c1
  have hk := k ((w.setCell ⟨g, 0, none⟩ (.int .u64 (hN X : Int))).setCell ⟨g, 1, none⟩ (.int .u64 (lN X : Int))) ((hb.setC 0 _).setC 1 _) (fun j us u hj b => (b.setO hj _).setO hj _) (fun B a hB h => (h.setCell hB _).setCell hB _)
  have hK : Hid _ := hk
  clear hk k
  unfold wpOp
  simp only [hi]
  rw [if_pos (by simp [Region.wanted, hg])]
  left
  unfold Oper.wp execOp
  simp only [ho, hx, hy]
  go_simp
  exact hK.out
/-- A slice of a whole array of 16 bytes. -/
theorem ans_all {ops : Array Oper} {S : World → Prop} {oi : Oper} {a : Act} (x : Operand) (ho : oi.op = .slice 22 x none none none) (hw : Region.wanted oi (yielded ops a.tmps) = true) (g : Nat) (hx : a.eval x = .pointer (some ⟨g, 0, none⟩)) : Ans Try.prog ops S oi (.slice (some ⟨g, 0, none⟩) 16 16) a := by
  have hall := allK
  refine ans_plain hw fun w _ => ?_
  unfold execOp
  simp only [ho, hx]
  go_simp

/-- An element out of its variable. -/
theorem ans_ld {ops : Array Oper} {S : World → Prop} {oi : Oper} {a : Act} (x : Operand) (ho : oi.op = .load 25 x) (hw : Region.wanted oi (yielded ops a.tmps) = true) (g : Nat) (X : Fe) (hx : a.eval x = .pointer (some ⟨g, 0, none⟩)) (hb : ∀ w, S w → Blk w g (ec X) 25) : Ans Try.prog ops S oi (ev X) a := by
  refine ans_plain hw fun w hS => ?_
  have c0 := (hb w hS).cell 0
  have c1 := (hb w hS).cell 1
  simp only [ec, List.getElem?_cons_zero, List.getElem?_cons_succ] at c0 c1
  unfold execOp ev
  simp only [ho, hx]
  go_simp
theorem ans_eqE {ops : Array Oper} {S : World → Prop} {oi : Oper} {a : Act} (x y : Operand) (ho : oi.op = .binOp .eql 25 x y 25) (hw : Region.wanted oi (yielded ops a.tmps) = true) (X : Fe) (hx : a.eval x = ev X) (hy : a.eval y = ev X) : Ans Try.prog ops S oi (.bool true) a := by
  refine ans_plain hw fun w hS => ?_
  unfold execOp
  simp only [ho, hx, hy]
  unfold ev
  go_simp
theorem ans_eqB {ops : Array Oper} {S : World → Prop} {oi : Oper} {a : Act} (x y : Operand) (ho : oi.op = .binOp .eql 4 x y 4) (hw : Region.wanted oi (yielded ops a.tmps) = true) (p : Bool) (hx : a.eval x = .bool p) (hy : a.eval y = .bool p) : Ans Try.prog ops S oi (.bool true) a := by
  refine ans_plain hw fun w hS => ?_
  unfold execOp
  simp only [ho, hx, hy]
  go_simp
/-- A call that only makes memory, in whatever world has grown of W. -/
theorem ans_fn {ops : Array Oper} {W : World} {oi : Oper} {a : Act} (f : FuncId) (args : Array Operand) (tys : Array TypeId) (vs : Array Value) {v : Value} (ho : oi.op = .call { callee := .value (.func f), args := args, argTypes := tys }) (hw : Region.wanted oi (yielded ops a.tmps) = true) (hv : (args.toList.map a.eval).toArray = vs)
    (hc : ∀ vs w, (callFunc f vs).run Try.prog w = .ok (.enter f vs) w) (h : ∀ w, Grows W w → Calls Try.prog f vs w fun e w' => e = .returned v ∧ Below w.heap.size w w') : Ans Try.prog ops (Grows W) oi v a :=
  ans_call f args tys vs ho hw hv hc fun w hg => (h w hg).mono fun _ _ h2 => ⟨h2.1, h2.2, Grows.trans hg h2.2⟩
/-- A call whose answer lies in new memory: the one that may come up. -/
theorem callG {ops : Array Oper} {Q : Exit → Act → World → Prop} {md : Region.Mode} {S : World → Prop} (i : Nat) (d : Option Tmp) (f : FuncId) (args : Array Operand) (tys : Array TypeId) (vs : Array Value) {oi : Oper} {fuel : Nat} {listed : Array Bool} {a : Act} {w : World} (hi : ops[i]? = some oi) (hd : oi.dst = d)
    (ho : oi.op = .call { callee := .value (.func f), args := args, argTypes := tys }) (hw : Region.wanted oi (yielded ops a.tmps) = true) (hv : (args.toList.map a.eval).toArray = vs) (hr : Region.ready md ops listed = [i]) (hc : ∀ vs w, (callFunc f vs).run Try.prog w = .ok (.enter f vs) w)
    (h : ∀ w', Grows w w' → S w' → Calls Try.prog f vs w' fun e w'' => ∃ v, e = .returned v ∧ S w'' ∧ wpAnyG Try.prog md ops Q S fuel (listed.setIfInBounds i true) (a.put d v) w'') : wpAnyG Try.prog md ops Q S (fuel + 1) listed a w := by
  subst hd
  have hv' : args.map a.eval = vs := by rw [← hv]; apply Array.toList_inj.1; rw [Array.toList_map]
  subst hv'
  refine oneG i hr fun w' hg hS => ?_
  unfold wpOp
  simp only [hi]
  rw [if_pos hw]
  left
  unfold Oper.wp
  have hx : (execOp a.eval oi).run Try.prog w' = .ok (.enter f (args.map a.eval)) w' := by simp [execOp, ho, resolve, invoke, Act.eval, Deferred.ofValue, hc]
  rw [hx, Oper.upon_enter]
  refine (h w' hg hS).mono ?_
  rintro e w'' ⟨v, rfl, hs, hh⟩
  exact ⟨hs, hh⟩

end Go.Proofs.Ytfgoomlgmepalaa
