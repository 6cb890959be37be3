/-
  'make' of a slice whose elements' cells are all alike: a block of them. No condition; no statement of the seat is proved here.
-/
import Derived.Test.YtcmbkpdefbaakaaPowL
import Derived.Test.YtcmbkpdefbaakaaOwn
namespace Go.Proofs.Ytcmbkpdefbaakaa
open Go.RowKit

theorem cs_take (l : List UInt8) (k : Nat) : (cs l).take k = cs (l.take k) := by simp [cs]
theorem cs_drop (l : List UInt8) (k : Nat) : (cs l).drop k = cs (l.drop k) := by simp [cs]

theorem toList_madeCells_rep (sz : Nat) (z : Value) (n : Nat) (h : 0 < sz) : (madeCells (Array.replicate sz z) n).toList = List.replicate n z := by
  apply List.ext_getElem?
  intro j
  by_cases hj : j < n
  · have hm : j % sz < sz := Nat.mod_lt _ h
    simp [madeCells, hj, hm]
  · simp [madeCells, hj]
/-- 'make([]E, n)': a block of noughts. -/
theorem wpList_mkB {ops : Array Oper} {rest : List Oper} {o : Oper} {a : Act} {Q : Exit → Act → World → Prop} (w : World) (T e : TypeId) (z zz : Value) (sz by_ : Nat) (hT : Try.prog.underlying T = some (.slice e)) (hi : (Try.prog.info? e).map (fun i => (i.zero, i.size, i.bytes)) = some (some z, sz, by_)) (hz : z.cells = Array.replicate sz zz) (hsz : 0 < sz) (hby : by_ ≤ 1000)
    (hgd : o.guard = none) (l c : Operand) (ho : o.op = Op.makeSlice T l c) (n : Nat) (hl : a.eval l = .int .i64 (n : Int)) (hc : a.eval c = .int .i64 (n : Int)) (hn : n ≤ 1000000)
    (h : ∀ w', Blk w' w.heap.size (List.replicate (n * sz) zz) e → Below w.heap.size w w' → wpList Try.prog ops Q rest (a.put o.dst (.slice (some ⟨w.heap.size, 0, none⟩) n n)) w') : wpList Try.prog ops Q (o :: rest) a w := by
  obtain ⟨i0, hi, hz0, hz1, hz2⟩ := info_parts hi
  refine wpList_make_full w hgd l c T ho w.heap.size e i0 z sz hT hi hz0 hz1 .i64 .i64 (n : Int) (n : Int) n hl hc rfl rfl (by rw [hz2]; have := Nat.mul_le_mul hby hn; omega) (by unfold maxLen; omega) (Nat.le_refl _) ?_
  intro w' ho' hg
  rw [hz, toList_madeCells_rep sz zz _ hsz] at ho'
  refine h w' ?_ ((Below.refl _ _).grown hg (Nat.le_refl _) (by simp))
  obtain ⟨h1, h2⟩ := ho'
  rcases h2 with ⟨h2, _⟩ | ⟨g', cap, cur, hv, _, hh, _, _, hcs, ht⟩
  · simp at h2
  · simp only [Value.slice.injEq, Option.some.injEq, Addr.mk.injEq] at hv
    obtain ⟨⟨rfl, _, _⟩, _, rfl⟩ := hv
    unfold Blk
    rw [hh, ← ht, List.take_of_length_le (by rw [Array.length_toList]; omega)]


end Go.Proofs.Ytcmbkpdefbaakaa
