/-
  Two arrays of 16 bytes held against each other. No condition but the lengths; no statement of the seat is proved here.
-/
import Derived.Test.YtofhnigdfmekdaaAesRow
import Derived.Test.YtofhnigdfmekdaaHeld
import Derived.Stop.BytesEq
namespace Go.Proofs.Ytofhnigdfmekdaa
open Go.RowKit

theorem eqK {x y : List UInt8} (hx : x.length = 16) (hy : y.length = 16) (w : World) : (Op.equalIn 10000 28 (.agg (cs x).toArray) (.agg (cs y).toArray)).run Try.prog w = .ok (decide (x = y)) w := by
  have := run_equalIn_bytes (P := Try.prog) w 9998 28 5 16 Try.underlying28 Try.underlying5 (fun w => by kernel_rfl) x y hx hy
  rw [show (x == y) = decide (x = y) from by by_cases h : x = y <;> simp [h]] at this
  exact this

theorem yields_eqK {ops : Array Oper} {S : World → Prop} {oi : Oper} {a : Act} (hw : Region.wanted oi (yielded ops a.tmps) = true) (x y : Operand) (ho : oi.op = .binOp .eql 28 x y 28) (X Y : List UInt8) (hx : a.eval x = .agg (cs X).toArray) (hy : a.eval y = .agg (cs Y).toArray)
    (p : Bool) (he : ∀ w, (Op.equalIn 10000 28 (.agg (cs X).toArray) (.agg (cs Y).toArray)).run Try.prog w = .ok p w) : YieldsIf Try.prog ops S oi (.bool p) a := by
  refine Or.inl ⟨hw, fun w _ => ?_⟩
  unfold execOp
  simp only [ho, hx, hy]
  go_simp
theorem yields_eqB {ops : Array Oper} {S : World → Prop} {oi : Oper} {a : Act} (hw : Region.wanted oi (yielded ops a.tmps) = true) (x y : Operand) (ho : oi.op = .binOp .eql 4 x y 4) (p : Bool) (hx : a.eval x = .bool p) (hy : a.eval y = .bool p) : YieldsIf Try.prog ops S oi (.bool true) a := by
  refine Or.inl ⟨hw, fun w _ => ?_⟩
  unfold execOp
  simp only [ho, hx, hy]
  go_simp
theorem yields_same {ops : Array Oper} {S : World → Prop} {oi : Oper} {a : Act} (hw : Region.wanted oi (yielded ops a.tmps) = true) (v : Value) (h : execOp a.eval oi = pure (.value v)) : YieldsIf Try.prog ops S oi v a :=
  Or.inl ⟨hw, fun w _ => by rw [h]; rfl⟩

end Go.Proofs.Ytofhnigdfmekdaa
