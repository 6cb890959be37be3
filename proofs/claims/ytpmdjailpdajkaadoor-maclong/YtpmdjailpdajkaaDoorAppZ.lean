/-
  append of noughts ('append(out, make([]byte, n)...)') onto bytes of the call's own. No condition; no statement of the seat is proved here.
-/
import Derived.Test.YtpmdjailpdajkaaDoorAppG
import Derived.Lib.AppendZerosOnto
namespace Go.Proofs.YtpmdjailpdajkaaDoor
open Go.RowKit

theorem zcells (k : Nat) : (Builtin.zeroCells (Value.int .u8 0).cells k).toList = cs (List.replicate k 0) := by
  apply List.ext_getElem
  · simp [Builtin.zeroCells, cs, Value.cells]
  · intro i h1 h2
    simp [Builtin.zeroCells, cs, Value.cells, Nat.mod_one]

theorem run_room_zeros (w : World) (ty : TypeId) (g sLen sCap k : Nat) (cur : Array Value) (hg : w.heap[g]? = some (.cells cur 5 (0, 0))) (h0 : 0 < k) (hroom : sLen + k ≤ sCap) (hfit : sLen + k ≤ cur.size) (hz : k ≤ 1000000000) :
    (Builtin.append_ #[22, 3] ty #[.slice (some ⟨g, 0, none⟩) sLen sCap, .int .i64 (k : Int)]).run Tryd.prog w =
      .ok (.slice (some ⟨g, 0, none⟩) (sLen + k) sCap) (w.setRow g (cur.toList.take sLen ++ cs (List.replicate k 0) ++ cur.toList.drop (sLen + k)).toArray) := by
  obtain ⟨i0, hi, hz0, hz1, hz2⟩ := info_parts info5
  have hst := run_storeCells_at Tryd.prog g sLen 5 (cs (List.replicate k 0)) 0 cur w hg (by rw [cs_length, List.length_replicate]; omega) cs_one
  rw [cs_length, List.length_replicate, Nat.add_zero] at hst
  have hw : IntKind.i64.wrap (k : Int) = k := by rw [IntKind.wrap_i64]; omega
  have hneg : ¬ ((k : Int) < 0) := by omega
  have h48i : ¬ (281474976710656 < (k : Int)) := by omega
  have hk : ¬ (k = 0) := by omega
  simp [Builtin.append_, run_underlying Tryd.underlying22, run_underlying Tryd.underlying3, sizeOf, typeInfo, zeroValue, hi, hz0, hz1, hz2, asInt, asIntOf, hw, hneg, h48i, hk, hroom, zcells, Addr.add_lit, hst]
theorem run_no_zeros (w : World) (ty : TypeId) {base : Nat} {v : Value} {l : List UInt8} (h : Own w base v l) :
    (Builtin.append_ #[22, 3] ty #[v, .int .i64 0]).run Tryd.prog w = .ok v w := by
  obtain ⟨i0, hi, hz0, hz1, hz2⟩ := info_parts info5
  have hw : IntKind.i64.wrap 0 = 0 := by rw [IntKind.wrap_i64]; omega
  rcases h.2 with ⟨rfl, h0⟩ | ⟨g, cap, cur, rfl, _, _, hnc, _⟩
  · simp [Builtin.append_, run_underlying Tryd.underlying22, run_underlying Tryd.underlying3, sizeOf, typeInfo, hi, asInt, asIntOf, hw]
  · simp [Builtin.append_, run_underlying Tryd.underlying22, run_underlying Tryd.underlying3, sizeOf, typeInfo, hi, asInt, asIntOf, hw, hnc, storeCells]

theorem own_grown (w : World) (base cap k : Nat) (l : List UInt8) (hbase : base ≤ w.heap.size) (hz : l.length + k ≤ 1000000000) (row : Option Nat) :
    Own (w.drew.alloc (.cells ((cs l).toArray ++ Builtin.zeroCells (Value.int .u8 0).cells k ++ Builtin.zeroCells (Value.int .u8 0).cells (grownCap w (l.length + k) cap 5 - (l.length + k))) 5)) base (.slice (some ⟨w.heap.size, 0, none⟩) (l.length + k) (grownCap w (l.length + k) cap 5)) (l ++ List.replicate k 0) ∧
    w.grownBy (w.drew.alloc (.cells ((cs l).toArray ++ Builtin.zeroCells (Value.int .u8 0).cells k ++ Builtin.zeroCells (Value.int .u8 0).cells (grownCap w (l.length + k) cap 5 - (l.length + k))) 5)) row := by
  have hge := grownCap_ge w (l.length + k) cap 5
  have hcm : grownCap w (l.length + k) cap 5 ≤ maxLen := grownCap_le_maxLen w (l.length + k) cap 5 (by unfold maxLen; omega)
  have hlen : (l ++ List.replicate k 0).length = l.length + k := by simp
  refine ⟨?_, ⟨rfl, rfl, rfl, by simp, fun j hj _ => heap_alloc_old w.drew _ hj⟩⟩
  unfold Own
  rw [hlen]
  refine ⟨by rw [cs_length, hlen]; omega, .inr ⟨w.heap.size, _, _, rfl, hbase, heap_alloc_new w.drew _, hge, hcm, ?_, ?_⟩⟩
  · simp only [Array.size_append, List.size_toArray, size_zeroCells, cs_length]
    simp [Value.cells]
    omega
  · simp only [Array.toList_append, zcells]
    rw [cs_append, Nat.mul_one, List.take_append_of_le_length (by simp [cs_length]), List.take_of_length_le (by simp [cs_length])]

theorem own_lit0 (w : World) : Own (w.alloc (.cells #[] 5)) w.heap.size (.slice (some ⟨w.heap.size, 0, none⟩) 0 0) [] :=
  World.ownsRow_lit w #[] 0 (Nat.le_refl _) (Nat.zero_le _) rfl

/-- 'append(out, make([]byte, n)...)', out the call's own. -/
theorem wpList_zapp {ops : Array Oper} {rest : List Oper} {o : Oper} {a : Act} {Q : Exit → Act → World → Prop} (w : World) (hgd : o.guard = none) (s x : Operand)
    (ho : o.op = Op.call { callee := Callee.builtin Builtin.append, args := #[s, x], argTypes := #[22, 3] }) (base : Nat) (v : Value) (l : List UInt8) (hs : a.eval s = v) (hown : Own w base v l)
    (k : Nat) (hx : a.eval x = .int .i64 (k : Int)) (hz : l.length + k ≤ 1000000) (hbase : base ≤ w.heap.size)
    (h : ∀ v' w', Own w' base v' (l ++ List.replicate k 0) → w.grownBy w' v.ownBlock → wpList Tryd.prog ops Q rest (a.put o.dst v') w') : wpList Tryd.prog ops Q (o :: rest) a w := by
  obtain ⟨i0, hi, hz0, hz1, hz2⟩ := info_parts info5
  by_cases h0 : k = 0
  · subst h0
    refine Lib.wpList_append_run w hgd s x 22 3 ho v _ hs hx v w (run_no_zeros w o.type hown) ?_
    exact h v w (by simpa using hown) ⟨rfl, rfl, rfl, Nat.le_refl _, fun _ _ _ => rfl⟩
  · rcases hown.2 with ⟨rfl, hl0⟩ | ⟨g, cap, cur, rfl, hbg, hg, hnc, hcm, hcs, htake⟩
    · obtain rfl : l = [] := List.length_eq_zero_iff.1 hl0
      have hr := Lib.run_append_nil_zeros (P := Tryd.prog) w 22 3 o.type 5 i0 (.int .u8 0) .i64 .i64 Tryd.underlying22 Tryd.underlying3 hi hz0 k (by omega) (by omega) (by omega) (by rw [hz2]; omega)
      have hgr := own_grown w base 0 k [] hbase (by simp; omega) (Value.ownBlock (.slice none 0 0))
      simp only [List.length_nil, Nat.zero_add, List.nil_append] at hgr
      refine Lib.wpList_append_run w hgd s x 22 3 ho _ _ hs hx _ _ hr ?_
      have e : (cs ([] : List UInt8)).toArray ++ Builtin.zeroCells (Value.int .u8 0).cells k = Builtin.zeroCells (Value.int .u8 0).cells k := by simp [cs]
      rw [e] at hgr
      exact h _ _ (by simpa using hgr.1) hgr.2
    · by_cases hroom : l.length + k ≤ cap
      · have hr := run_room_zeros w o.type g l.length cap k cur hg (by omega) hroom (by omega) (by omega)
        refine Lib.wpList_append_run w hgd s x 22 3 ho _ _ hs hx _ _ hr ?_
        refine h _ _ ?_ ⟨rfl, rfl, rfl, by simp, fun j _ hj => setRow_other w g j _ (fun e => hj (by simp [Value.ownBlock, e]))⟩
        have hlen : (l ++ List.replicate k 0).length = l.length + k := by simp
        unfold Own
        rw [hlen]
        refine ⟨by rw [cs_length, hlen]; omega, .inr ⟨g, cap, _, rfl, hbg, setRow_heap w g cur _ 5 _ hg, hroom, hcm, ?_, ?_⟩⟩
        · simp only [List.size_toArray, List.length_append, List.length_take, List.length_drop, Array.length_toList, cs_length, List.length_replicate]
          omega
        · rw [Nat.mul_one] at htake
          rw [htake, cs_append, Nat.mul_one, List.take_append_of_le_length (by simp [cs_length]), List.take_of_length_le (by simp [cs_length])]
      · have hold : (Builtin.firstCells i0.size l.length (.slice (some ⟨g, 0, none⟩) l.length cap)).run Tryd.prog w.drew = .ok (cs l).toArray w.drew := by
          refine run_firstCells_some (P := Tryd.prog) w.drew i0.size l.length ⟨g, 0, none⟩ l.length cap (cs l) (by rw [cs_length, hz1, Nat.mul_one]) ?_
          exact World.ownsRow.cells hown (g := g) rfl
        have hr := Lib.run_append_grow_zeros (P := Tryd.prog) w 22 3 o.type 5 i0 (.int .u8 0) .i64 .i64 Tryd.underlying22 Tryd.underlying3 hi hz0 (some ⟨g, 0, none⟩) l.length cap (cs l) hold k (by omega) (by omega) (by omega) (by omega) (by rw [hz2]; omega) (growslice_fits (by omega) (by rw [hz2]; omega))
        have hgr := own_grown w base cap k l hbase (by omega) (Value.ownBlock (.slice (some ⟨g, 0, none⟩) l.length cap))
        exact Lib.wpList_append_run w hgd s x 22 3 ho _ _ hs hx _ _ hr (h _ _ hgr.1 hgr.2)

end Go.Proofs.YtpmdjailpdajkaaDoor
