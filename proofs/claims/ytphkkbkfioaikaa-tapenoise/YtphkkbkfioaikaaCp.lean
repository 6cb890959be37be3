/-
  The builtin copy of bytes into a block that is known whole, as one step of a region that draws its order. No condition; no statement of the seat is proved here.
-/
import Derived.Test.YtphkkbkfioaikaaBlk
import Derived.Test.YtphkkbkfioaikaaStepApp
import Derived.Laws.CopyOwn
namespace Go.Proofs.Ytphkkbkfioaikaa
open Go.RowKit

theorem cs_sub' {l : List UInt8} {n j : Nat} {v : Value} (h : (cs (l.take n))[j]? = some v) : (cs l)[j]? = some v := by
  simp only [cs, List.getElem?_map, List.getElem?_take] at h ⊢
  by_cases hj : j < n
  · simpa [hj] using h
  · simp [hj] at h

/-- What a copy of so many bytes leaves. -/
structure Copied (w w' : World) (g off n : Nat) (vs : List Value) (l : List UInt8) (t : TypeId) : Prop where
  blk : Blk w' g (vs.take off ++ cs (l.take n) ++ vs.drop (off + n)) t
  by_ : w.grownBy w' (some g)
  size : w'.heap.size = w.heap.size

theorem Copied.other {w w' : World} {g off n : Nat} {vs : List Value} {l : List UInt8} {t : TypeId} (h : Copied w w' g off n vs l t) {k : Nat} {us : List Value} {u : TypeId} (b : Blk w k us u) (hk : k ≠ g) : Blk w' k us u := by
  unfold Blk
  rw [h.by_.block k b.lt (by simpa using hk)]
  exact b
theorem Copied.below {w w' : World} {g off n : Nat} {vs : List Value} {l : List UInt8} {t : TypeId} (h : Copied w w' g off n vs l t) {B : Nat} {a : World} (hb : Below B a w) (hg : B ≤ g) (hB : B ≤ w.heap.size) : Below B a w' :=
  hb.grown h.by_ hB (fun k hk => by simp at hk; omega)

theorem step_cp {ops : Array Oper} {o : Oper} {a : Act} {w : World} {K : Act → World → Prop} {Q : Exit → Act → World → Prop} {E : Prop} (hgd : o.guard = none) (d s : Operand)
    (ho : o.op = .call { callee := .builtin .copy, args := #[d, s], argTypes := #[31, 31] }) (g off dl dc : Nat) (hd : a.eval d = .slice (some ⟨g, off, none⟩) dl dc)
    (sp : Option Addr) (m c : Nat) (hs : a.eval s = .slice sp m c) (l : List UInt8) (hb : Bs w sp m c l) (vs : List Value) (t : TypeId) (blk : Blk w g vs t) (n : Nat) (hn : n = Nat.min m dl) (hfit : off + n ≤ vs.length) (hpos : 0 < n)
    (h : ∀ w', Copied w w' g off n vs l t → K (a.put o.dst (.int .i64 (n : Int))) w') :
    if Region.wanted o (yielded ops a.tmps) = true then Oper.wp Try.prog o a w K Q else E := by
  have hw : Region.wanted o (yielded ops a.tmps) = true := by simp [Region.wanted, hgd]
  rw [if_pos hw]
  have hm : n ≤ m := by rw [hn]; exact Nat.min_le_left _ _
  obtain ⟨b, so, rfl, _, _⟩ := hb.at (by omega)
  have hlen := hb.len
  have hcl : (cs (l.take n)).length = n := by rw [cs_length, List.length_take]; omega
  obtain ⟨i0, hi, hz0, hz1, hz2⟩ := info_parts info5
  have hrun := run_copy_row (P := Try.prog) w 31 31 o.type 5 g off dl dc ⟨b, so, none⟩ m c vs.toArray t (cs (l.take n)) Try.underlying31 (by rw [hi]; simp [hz1]) blk (by rw [hcl, hn]) (fun j v hj => hb.news j v (cs_sub' hj)) (by simpa [hcl] using hfit) cs_one
  rw [hcl] at hrun
  unfold Oper.wp
  simp [execOp, ho, resolve, invoke, builtin, hd, hs, hrun, Result.andThen]
  have := h (w.setRow g (vs.take off ++ (cs (l.take n) ++ vs.drop (off + n))).toArray) ⟨?_, ?_, ?_⟩
  · rw [Oper.upon_value]; simpa [goInt] using this
  · unfold Blk
    rw [setRow_heap w g _ _ t (0, 0) blk, List.append_assoc]
  · exact ⟨rfl, rfl, rfl, by simp, fun k _ hk => setRow_other w g k _ (by simpa using hk)⟩
  · simp

end Go.Proofs.Ytphkkbkfioaikaa
