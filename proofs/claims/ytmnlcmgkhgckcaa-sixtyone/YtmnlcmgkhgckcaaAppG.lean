/-
  append of bytes that tells which block alone was written. No condition; no statement of the seat is proved here.
-/
import Derived.Test.YtmnlcmgkhgckcaaOwn
namespace Go.Proofs.Ytmnlcmgkhgckcaa
open Go.RowKit

/-- 'append(out, src...)', out the call's own, src whatever slice of bytes; nothing old but out's own block is written. -/
theorem wpList_appG {ops : Array Oper} {rest : List Oper} {o : Oper} {a : Act} {Q : Exit → Act → World → Prop} (w : World) (hgd : o.guard = none) (s x : Operand)
    (ho : o.op = Op.call { callee := Callee.builtin Builtin.append, args := #[s, x], argTypes := #[22, 22] }) (base : Nat) (v : Value) (l : List UInt8) (hs : a.eval s = v) (hown : Own w base v l)
    (ao : Option Addr) (m c : Nat) (news : List UInt8) (hx : a.eval x = .slice ao m c) (hb : Bs w ao m c news) (hz : l.length + news.length ≤ 1000000000) (hbase : base ≤ w.heap.size)
    (h : ∀ v' w', Own w' base v' (l ++ news) → w.grownBy w' v.ownBlock → wpList Try.prog ops Q rest (a.put o.dst v') w') : wpList Try.prog ops Q (o :: rest) a w := by
  obtain ⟨i0, hi, hz0, hz1, hz2⟩ := info_parts info5
  have hl := hb.len
  cases ao with
  | none =>
    have hc := hb.2.2.2.1 rfl
    have hcap := hb.cap
    have e : news = [] := List.length_eq_zero_iff.1 (by omega)
    subst e
    obtain rfl : m = 0 := by omega
    subst hc
    refine wpList_append_own_none hgd s x 22 ho base 5 i0 1 Try.underlying22 hi v _ _ hs hown hx ?_
    refine h v w ?_ ⟨rfl, rfl, rfl, Nat.le_refl _, fun _ _ _ => rfl⟩
    rw [List.append_nil]
    exact hown
  | some ad =>
    refine wpList_append_own w hgd s x 22 ho base 5 i0 (.int .u8 0) 1 1 Try.underlying22 hi hz0 hz1 hz2 rfl (by decide) v _ _ hs hown ad m c (cs news) hx (by rw [cs_length]; omega) hb.news cs_one (by unfold maxLen; omega) (by omega) hbase ?_
    intro v' w' ho' hg _
    refine h v' w' ?_ hg
    unfold Own
    rw [cs_append, List.length_append, hl]
    exact ho'
theorem Own.lt {w : World} {base : Nat} {v : Value} {l : List UInt8} (h : Own w base v l) : ∀ k, v.ownBlock = some k → k < w.heap.size := fun k hk => (World.ownsRow.lt h k hk).2

end Go.Proofs.Ytmnlcmgkhgckcaa
