/-
  Blocks of memory that are known whole ('Blk'): a variable of a call's own. What is read of them, and what stores make of them; whole arrays loaded and stored. No condition; no statement of the seat is proved here.
-/
import Derived.Test.YtmnlcmgkhgckcaaNew
import Derived.Deep.MidRow
namespace Go.Proofs.Ytmnlcmgkhgckcaa
open Go.RowKit

/-- A row of bytes as an array value. -/
def bv (l : List UInt8) : Value := .agg (cs l).toArray

/-- Block g is a variable whose cells hold vs. -/
def Blk (w : World) (g : Nat) (vs : List Value) (t : TypeId) : Prop := w.heap[g]? = some (.cells vs.toArray t)

theorem Blk.lt {w : World} {g : Nat} {vs : List Value} {t : TypeId} (h : Blk w g vs t) : g < w.heap.size := (Array.getElem?_eq_some_iff.1 h).1
theorem Blk.cell {w : World} {g : Nat} {vs : List Value} {t : TypeId} (h : Blk w g vs t) (i : Nat) : w.cell? ⟨g, i, none⟩ = vs[i]? := by
  rw [cell_of_row w g i _ t (0, 0) h]; simp
theorem Blk.free {w : World} {g : Nat} {vs : List Value} {t : TypeId} (h : Blk w g vs t) (i : Nat) : w.frozen? ⟨g, i, none⟩ = false := by
  unfold Blk at h
  simp [World.frozen?, h]
theorem Blk.range {w : World} {g : Nat} {vs : List Value} {t : TypeId} (h : Blk w g vs t) (o : Nat) (cs : List Value) (hc : ∀ j v, cs[j]? = some v → vs[o + j]? = some v) : w.rangeAt g o cs :=
  fun j v hv => by rw [h.cell]; exact hc j v hv
theorem Blk.whole {w : World} {g : Nat} {vs : List Value} {t : TypeId} (h : Blk w g vs t) : w.rangeAt g 0 vs := h.range 0 vs fun j v hv => by rw [Nat.zero_add]; exact hv
theorem Blk.there {w : World} {g : Nat} {vs : List Value} {t : TypeId} (h : Blk w g vs t) (o n : Nat) (hn : o + n ≤ vs.length) : w.there g o n :=
  fun j hj => ⟨by rw [h.cell, List.getElem?_eq_getElem (by omega)]; rfl, h.free _⟩
theorem Blk.setC {w : World} {g : Nat} {vs : List Value} {t : TypeId} (h : Blk w g vs t) (i : Nat) (u : Value) : Blk (w.setCell ⟨g, i, none⟩ u) g (vs.set i u) t := by
  unfold Blk
  rw [setCell_eq_setRow w g i _ t (0, 0) u h, setRow_heap w g _ _ t (0, 0) h]
  simp
theorem Blk.setO {w : World} {g : Nat} {vs : List Value} {t : TypeId} (h : Blk w g vs t) {p : Addr} (hp : g ≠ p.block) (u : Value) : Blk (w.setCell p u) g vs t := by
  unfold Blk
  rw [Below.heap_setCell _ _ _ _ hp]
  exact h
theorem Blk.setsO {g : Nat} {vs : List Value} {t : TypeId} {g' : Nat} (hp : g ≠ g') (us : List Value) : ∀ {w : World} (_ : Blk w g vs t) (o : Nat), Blk (w.setCells g' o us) g vs t := by
  induction us with
  | nil => intro w h o; exact h
  | cons u us ih => intro w h o; exact ih (h.setO (p := ⟨g', o, none⟩) hp u) (o + 1)
theorem Blk.sets {g : Nat} {t : TypeId} (us : List Value) : ∀ {w : World} {vs : List Value} (_ : Blk w g vs t) (o : Nat), o + us.length ≤ vs.length → Blk (w.setCells g o us) g (vs.take o ++ us ++ vs.drop (o + us.length)) t := by
  induction us with
  | nil => intro w vs h o _; simpa [World.setCells] using h
  | cons u us ih =>
    intro w vs h o hl
    have := ih (h.setC o u) (o + 1) (by simp at hl ⊢; omega)
    rw [list_seg_step vs o u us (by simpa using hl)] at this
    exact this
theorem Blk.setsW {w : World} {g : Nat} {t : TypeId} {vs : List Value} (h : Blk w g vs t) (us : List Value) (hl : us.length = vs.length) : Blk (w.setCells g 0 us) g us t := by
  have := h.sets us 0 (by omega)
  simpa [hl] using this
theorem Blk.below {w w' : World} {g : Nat} {vs : List Value} {t : TypeId} (h : Blk w g vs t) {B : Nat} (hb : Below B w w') (hB : g < B) : Blk w' g vs t := by
  unfold Blk
  rw [hb.block g hB]
  exact h
theorem Blk.new (w : World) (arr : Array Value) (t : TypeId) : Blk (w.alloc (.cells arr t)) w.heap.size arr.toList t := by
  unfold Blk
  rw [heap_alloc_new]
theorem Blk.newAt (w : World) (arr : Array Value) (t : TypeId) (g : Nat) (hg : w.heap.size = g) (vs : List Value) (hv : arr.toList = vs) : Blk (w.alloc (.cells arr t)) g vs t := by
  subst hg hv
  exact Blk.new w arr t
theorem Blk.old {w : World} {g : Nat} {vs : List Value} {t : TypeId} (h : Blk w g vs t) (o : Obj) : Blk (w.alloc o) g vs t := by
  unfold Blk
  rw [heap_alloc_old w o h.lt]
  exact h
theorem Blk.drN {w : World} {g : Nat} {vs : List Value} {t : TypeId} (h : Blk w g vs t) (n : Nat) : Blk (w.drewN n) g vs t := h
theorem Blk.dr {w : World} {g : Nat} {vs : List Value} {t : TypeId} (h : Blk w g vs t) : Blk w.drew g vs t := h
theorem below_sets {B g : Nat} {a : World} (hg : B ≤ g) (us : List Value) : ∀ {w : World} (_ : Below B a w) (o : Nat), Below B a (w.setCells g o us) := by
  induction us with
  | nil => intro w h o; exact h
  | cons u us ih => intro w h o; exact ih (h.setCell (p := ⟨g, o, none⟩) hg u) (o + 1)
theorem size_sets (g : Nat) (us : List Value) : ∀ (w : World) (o : Nat), (w.setCells g o us).heap.size = w.heap.size := by
  induction us with
  | nil => intro w o; rfl
  | cons u us ih => intro w o; rw [World.setCells, ih]; simp [World.setCell]

/-- The bytes that lie in a block from o on, as a slice. -/
theorem Blk.bs {w : World} {g : Nat} {vs : List Value} {t : TypeId} (h : Blk w g vs t) (o c : Nat) (l : List UInt8) (hl : ∀ j v, (cs l)[j]? = some v → vs[o + j]? = some v) (hc : l.length ≤ c) (hm : c ≤ 1000000) : Bs w (some ⟨g, o, none⟩) l.length c l := by
  refine ⟨rfl, hc, by unfold maxLen; omega, by simp, fun i hi => ⟨g, o, rfl, ?_⟩⟩
  rw [h.cell]
  exact hl i _ (cs_get hi)

theorem add_mid' (g o j : Nat) : (Addr.add ⟨g, o, none⟩ j) = ⟨g, o + j, none⟩ := Addr.add_mid g o j

theorem cs_sub {b : List UInt8} {o n j : Nat} {v : Value} (h : (cs ((b.drop o).take n))[j]? = some v) : (cs b)[o + j]? = some v := by
  simp only [cs, List.getElem?_map, List.getElem?_take, List.getElem?_drop] at h ⊢
  by_cases hj : j < n
  · simpa [hj] using h
  · simp [hj] at h

/-- Looks whether the next operation is a load, a store of that type: for 'with_reducible refine' ahead of the two laws below. -/
theorem at_ld (ty : TypeId) {x : Operand} {ops : Array Oper} {rest : List Oper} {a : Act} {w : World} {Q : Exit → Act → World → Prop} {dst : Option Tmp} {tp : TypeId} {pos : String} {aft : Array Edge}
    (h : wpList Try.prog ops Q ({ dst := dst, op := .load ty x, type := tp, pos := pos, after := aft, guard := none } :: rest) a w) : wpList Try.prog ops Q ({ dst := dst, op := .load ty x, type := tp, pos := pos, after := aft, guard := none } :: rest) a w := h
theorem at_st (ty : TypeId) {x y : Operand} {ops : Array Oper} {rest : List Oper} {a : Act} {w : World} {Q : Exit → Act → World → Prop} {dst : Option Tmp} {tp : TypeId} {pos : String} {aft : Array Edge}
    (h : wpList Try.prog ops Q ({ dst := dst, op := .store ty x y, type := tp, pos := pos, after := aft, guard := none } :: rest) a w) : wpList Try.prog ops Q ({ dst := dst, op := .store ty x y, type := tp, pos := pos, after := aft, guard := none } :: rest) a w := h
/-- A load of a whole array. -/
theorem ld {ops : Array Oper} {rest : List Oper} {a : Act} {w : World} {Q : Exit → Act → World → Prop} {dst : Option Tmp} {tp : TypeId} {pos : String} {aft : Array Edge} (ty : TypeId) (x : Operand) (n : Nat)
    (hi : (Try.prog.info? ty).map (·.size) = some n) (d : TypeDesc) (hu : Try.prog.underlying ty = some d) (hd : d.isRow = true) (b o : Nat) (cs : List Value) (hl : cs.length = n) (hc : w.rangeAt b o cs) (hx : a.eval x = .pointer (some ⟨b, o, none⟩))
    (h : wpList Try.prog ops Q rest (a.put dst (.agg cs.toArray)) w) : wpList Try.prog ops Q ({ dst := dst, op := .load ty x, type := tp, pos := pos, after := aft, guard := none } :: rest) a w :=
  wpList_load_mid rfl ty x rfl b o hx cs d hc hu hd (by rw [hl]; exact hi) h
/-- A store of a whole array. -/
theorem st {ops : Array Oper} {rest : List Oper} {a : Act} {w : World} {Q : Exit → Act → World → Prop} {dst : Option Tmp} {tp : TypeId} {pos : String} {aft : Array Edge} (ty : TypeId) (x y : Operand) (n : Nat)
    (hi : (Try.prog.info? ty).map (·.size) = some n) (b o : Nat) (cs : List Value) (hl : cs.length = n) (h1 : ∀ v ∈ cs, v.oneCell' = true) (ht : w.there b o n) (hx : a.eval x = .pointer (some ⟨b, o, none⟩)) (hy : a.eval y = .agg cs.toArray)
    (h : wpList Try.prog ops Q rest (a.put dst undef) (w.setCells b o cs)) : wpList Try.prog ops Q ({ dst := dst, op := .store ty x y, type := tp, pos := pos, after := aft, guard := none } :: rest) a w :=
  wpList_store_mid rfl ty x y rfl b o cs.toArray hx hy (by simpa [hl] using ht) (by simpa [hl] using hi) (all_oneCell_toArray h1) h

/-- The same, the world behind it a letter. -/
theorem st' {ops : Array Oper} {rest : List Oper} {a : Act} {w : World} {Q : Exit → Act → World → Prop} {dst : Option Tmp} {tp : TypeId} {pos : String} {aft : Array Edge} (ty : TypeId) (x y : Operand) (n : Nat)
    (hi : (Try.prog.info? ty).map (·.size) = some n) (b o : Nat) (cs : List Value) (hl : cs.length = n) (h1 : ∀ v ∈ cs, v.oneCell' = true) (ht : w.there b o n) (hx : a.eval x = .pointer (some ⟨b, o, none⟩)) (hy : a.eval y = .agg cs.toArray)
    (h : ∀ w', w' = w.setCells b o cs → wpList Try.prog ops Q rest (a.put dst undef) w') : wpList Try.prog ops Q ({ dst := dst, op := .store ty x y, type := tp, pos := pos, after := aft, guard := none } :: rest) a w :=
  st ty x y n hi b o cs hl h1 ht hx hy (h _ rfl)

/-- A whole array, handed back out of a variable. -/
theorem res_blk {fn : Func} {p : Tmp} {ty : TypeId} (h : fn.results = #[.cell p ty]) (tmps : Array Value) (w : World) (g : Nat) (vs : List Value) (m : Nat) (e : TypeId)
    (hp : tmps.getD p undef = .pointer (some ⟨g, 0, none⟩)) (hg : Blk w g vs ty) (hu : Try.prog.underlying ty = some (.array m e)) (n : Nat) (hn : vs.length = n) (hi : (Try.prog.info? ty).map (·.size) = some n) :
    (results fn tmps).run Try.prog w = .ok (.agg vs.toArray) w :=
  results_cell_row h tmps w g ty vs.toArray (0, 0) _ hp hg hu rfl (by simpa [hn] using hi)


theorem at_bd (ty : TypeId) {parts : Array (Nat × Operand)} {ops : Array Oper} {rest : List Oper} {a : Act} {w : World} {Q : Exit → Act → World → Prop} {dst : Option Tmp} {tp : TypeId} {pos : String} {aft : Array Edge}
    (h : wpList Try.prog ops Q ({ dst := dst, op := .build ty parts, type := tp, pos := pos, after := aft, guard := none } :: rest) a w) : wpList Try.prog ops Q ({ dst := dst, op := .build ty parts, type := tp, pos := pos, after := aft, guard := none } :: rest) a w := h
/-- A literal of a struct or an array. -/
theorem bd {ops : Array Oper} {rest : List Oper} {a : Act} {w : World} {Q : Exit → Act → World → Prop} {dst : Option Tmp} {tp : TypeId} {pos : String} {aft : Array Edge} (ty : TypeId) (parts : Array (Nat × Operand)) (vals : List (Nat × Value)) (cells : Array Value)
    (hv : parts.toList.map (fun p => (p.1, a.eval p.2)) = vals) (hf : Try.prog.built ty vals = some cells)
    (h : wpList Try.prog ops Q rest (a.put dst (.agg cells)) w) : wpList Try.prog ops Q ({ dst := dst, op := .build ty parts, type := tp, pos := pos, after := aft, guard := none } :: rest) a w :=
  have hv' : (parts.map fun (i, x) => (i, a.eval x)).toList = vals := by rw [Array.toList_map]; exact hv
  wpList_build rfl ty parts rfl (by rw [hv', hf]; rfl) (by rw [hv', hf]; exact h)


end Go.Proofs.Ytmnlcmgkhgckcaa
