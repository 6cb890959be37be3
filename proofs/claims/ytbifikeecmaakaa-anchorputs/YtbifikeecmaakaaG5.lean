/-
  3 texts in one. No statement of the seat is proved here.
-/
import Derived.Test.YtbifikeecmaakaaG4
import Derived.Deep.RegionLaw
import Derived.BigRegion
/-
  append of bytes as one step of a region that draws its order. No condition; no statement of the seat is proved here.
-/
namespace Go.Proofs.Ytbifikeecmaakaa
open Go.RowKit


/-- append as one step of a region that draws its order. -/
theorem step_app {ops : Array Oper} {o : Oper} {a : Act} {w : World} {K : Act → World → Prop} {Q : Exit → Act → World → Prop} {E : Prop} (hgd : o.guard = none) (s x : Operand)
    (ho : o.op = Op.call { callee := Callee.builtin Builtin.append, args := #[s, x], argTypes := #[22, 22] }) (base : Nat) (v : Value) (l : List UInt8) (hs : a.eval s = v) (hown : Own w base v l)
    (ad : Addr) (m c : Nat) (news : List UInt8) (hx : a.eval x = .slice (some ad) m c) (hb : Bs w (some ad) m c news) (hz : l.length + news.length ≤ 1000000000) (hbase : base ≤ w.heap.size)
    (h : ∀ v' w', Own w' base v' (l ++ news) → Below base w w' → K (a.put o.dst v') w') : if Region.wanted o (yielded ops a.tmps) = true then Oper.wp Try.prog o a w K Q else E := by
  have hw : Region.wanted o (yielded ops a.tmps) = true := by simp [Region.wanted, hgd]
  rw [if_pos hw]
  obtain ⟨i0, hi, hz0, hz1, hz2⟩ := info_parts info5
  have hl := hb.len
  refine wp_append_own w s x 22 ho base 5 i0 (.int .u8 0) 1 1 Try.underlying22 hi hz0 hz1 hz2 rfl (by decide) v _ _ hs hown ad m c (cs news) hx (by rw [cs_length]; omega) hb.news cs_one (by unfold maxLen; omega) (by omega) hbase ?_
  intro v' w' ho' hg _
  refine h v' w' ?_ ((Below.refl _ _).grown hg hbase (Own.size hown))
  unfold Own
  rw [cs_append, List.length_append, hl]
  exact ho'

theorem Bs.drew {w : World} {a : Option Addr} {n c : Nat} {l : List UInt8} (h : Bs w a n c l) : Bs w.drew a n c l := h

theorem Bs.drewN {w : World} {a : Option Addr} {n c : Nat} {l : List UInt8} (h : Bs w a n c l) (d : Nat) : Bs (w.drewN d) a n c l := h
end Go.Proofs.Ytbifikeecmaakaa

/-
  The contracts of the reference's Pack and SameAll, and of Short. Conditions: of Pack as of the program's; of the others none.
-/
namespace Go.Proofs.Ytbifikeecmaakaa
open Go.RowKit

theorem parts_inj {l m : List (List UInt8)} {n k : Nat} (H : Hid (l.length = n ∧ m.length = n)) (h : ¬ k < n) (hj : ∀ j, j < k → l.getD j [] = m.getD j []) : true = decide (l = m) := by
  symm
  rw [decide_eq_true_iff]
  obtain ⟨h1, h2⟩ := H.out
  apply List.ext_getElem (by omega)
  intro i h3 h4
  have := hj i (by omega)
  simpa [List.getD_eq_getElem?_getD, h3, h4] using this
theorem parts_no {l m : List (List UInt8)} {k : Nat} (h : ¬ l.getD k [] = m.getD k []) : false = decide (l = m) := by
  symm
  rw [decide_eq_false_iff_not]
  intro e
  subst e
  exact h rfl
theorem parts_step {l m : List (List UInt8)} {k : Nat} (H : Hid (∀ j, j < k → l.getD j [] = m.getD j [])) (h : l.getD k [] = m.getD k []) (j : Nat) (hj : j < k + 1) : l.getD j [] = m.getD j [] := by
  by_cases e : j = k
  · subst e; exact h
  · exact H.out j (by omega)
end Go.Proofs.Ytbifikeecmaakaa

/-
  Two rows of bytes, one by one exclusive-ored: plain. No condition; nothing of the program.
-/
namespace Go.Proofs.Ytbifikeecmaakaa
open Go.RowKit

def xorL (l m : List UInt8) : List UInt8 := List.zipWith (· ^^^ ·) l m

theorem xor_bt {l m : List UInt8} {k : Nat} (h1 : k < l.length) (h2 : k < m.length) : bits .xor .u8 (bt l k) (bt m k) = ((l[k] ^^^ m[k]).toNat : Int) := by
  rw [bt_of_lt h1, bt_of_lt h2, u8_xor_nat _ _ (UInt8.toNat_lt _) (UInt8.toNat_lt _), UInt8.toNat_xor]
theorem xor_eq {l m : List UInt8} {k : Nat} (h1 : k < l.length) (h2 : k < m.length) : ∃ x : UInt8, bits .xor .u8 (bt l k) (bt m k) = (x.toNat : Int) ∧ xorL (l.take (k + 1)) (m.take (k + 1)) = xorL (l.take k) (m.take k) ++ [x] := by
  refine ⟨l[k] ^^^ m[k], xor_bt h1 h2, ?_⟩
  unfold xorL
  rw [take_snoc h1, take_snoc h2, List.zipWith_append (by simp; omega)]
  rfl

end Go.Proofs.Ytbifikeecmaakaa
