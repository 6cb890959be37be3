/-
  The builtin copy of bytes into a block that is known whole, as an operation of its own. No condition; no statement of the seat is proved here.
-/
import Derived.Test.YtphkkbkfioaikaaCp
namespace Go.Proofs.Ytphkkbkfioaikaa
open Go.RowKit

/-- Looks whether the next operation is a copy: for 'with_reducible refine' ahead of the law below. -/
theorem at_cp {args : Array Operand} {tys : Array TypeId} {ops : Array Oper} {rest : List Oper} {a : Act} {w : World} {Q : Exit → Act → World → Prop} {dst : Option Tmp} {tp : TypeId} {pos : String} {aft : Array Edge}
    (h : wpList Try.prog ops Q ({ dst := dst, op := .call { callee := .builtin .copy, args := args, argTypes := tys }, type := tp, pos := pos, after := aft, guard := none } :: rest) a w) : wpList Try.prog ops Q ({ dst := dst, op := .call { callee := .builtin .copy, args := args, argTypes := tys }, type := tp, pos := pos, after := aft, guard := none } :: rest) a w := h
/-- 'copy(block[:], b)' into a block that is known whole: as many as there are in both. -/
theorem wpList_cpm {ops : Array Oper} {rest : List Oper} {o : Oper} {a : Act} {Q : Exit → Act → World → Prop} (w : World) (hgd : o.guard = none) (d s : Operand)
    (ho : o.op = .call { callee := .builtin .copy, args := #[d, s], argTypes := #[31, 31] }) (g dl dc : Nat) (hd : a.eval d = .slice (some ⟨g, 0, none⟩) dl dc)
    (sp : Option Addr) (m c : Nat) (hs : a.eval s = .slice sp m c) (l : List UInt8) (hb : Bs w sp m c l) (vs : List Value) (t : TypeId) (blk : Blk w g vs t) (hfit : vs.length = dl)
    (h : ∀ v w', Blk w' g (cs (l.take dl) ++ vs.drop (min m dl)) t → Below g w w' → (∀ k us u, k ≠ g → Blk w k us u → Blk w' k us u) → wpList Try.prog ops Q rest (a.put o.dst v) w') : wpList Try.prog ops Q (o :: rest) a w := by
  have hl := hb.len
  obtain ⟨i0, hi, hz0, hz1, hz2⟩ := info_parts info5
  have hsz : (Try.prog.info? 5).map (·.size) = some 1 := by rw [hi]; simp [hz1]
  by_cases h0 : m = 0
  · subst h0
    obtain rfl : l = [] := List.length_eq_zero_iff.1 hl
    refine wpList_copy_nothing hgd d s 31 31 ho 5 Try.underlying31 hsz _ sp dl dc 0 c hd hs (by simp) ?_
    exact h _ w (by simpa [cs] using blk) (Below.refl _ _) (fun _ _ _ _ b => b)
  · obtain ⟨b, o', rfl, _, _⟩ := hb.at (by omega)
    have hcl : (cs (l.take dl)).length = min m dl := by rw [cs_length, List.length_take, hl, Nat.min_comm]
    refine wpList_copy_own hgd d s 31 31 ho 5 Try.underlying31 hsz g 0 dl dc ⟨b, o', none⟩ m c hd hs vs.toArray t blk (cs (l.take dl)) (by rw [hcl]) (fun j v hj => hb.news j v (cs_sub' hj)) (by rw [hcl]; simp; omega) cs_one ?_
    refine h _ _ ?_ ((Below.refl _ _).trans ⟨rfl, rfl, rfl, by simp [World.setRow], fun k hk => setRow_other w g k _ (by omega)⟩) (fun k us u hk b => ?_)
    · unfold Blk
      rw [setRow_heap w g _ _ t (0, 0) blk]
      simp [hcl]
    · unfold Blk
      rw [setRow_other w g k _ hk]
      exact b

end Go.Proofs.Ytphkkbkfioaikaa
