/-
  What no text of ours needs bytes for: worlds that grow, worlds in which one block alone was written, blocks of memory that are known whole ('Blk'): what is read of them, and what stores make of them; whole structs and arrays loaded, stored, built. No condition; no statement of the seat is proved here.
-/
import Derived.Test.YtcmbkpdefbaakaaRows
import Derived.WalkKit
import Derived.ProofKit
import Derived.OpenShut
import Derived.ShutString
import Derived.ChangeOld
import Derived.Below
import Derived.WalkSpells
import Derived.WalkLawsBesides
import Derived.Deep.QuietTactic
import Derived.BigQuiet
import Derived.Laws.AppendOwnNone
import Derived.Deep.RegionLaw
import Derived.BigRegion
import Derived.Deep.MidRow
namespace Go.Proofs.Ytcmbkpdefbaakaa
open Go.RowKit

theorem lt_of_cell {w : World} {p : Addr} {v : Value} (h : w.cell? p = some v) : p.block < w.heap.size := by
  by_cases hb : p.block < w.heap.size
  · exact hb
  · exfalso
    have : w.heap[p.block]? = none := by simp; omega
    simp [World.cell?, this] at h
theorem ret_int {k : IntKind} {a b : Int} (h : a = b) : Ending.returned (.int k a) = .returned (.int k b) := by rw [h]
theorem ret_bool {a b : Bool} (h : a = b) : Ending.returned (.bool a) = .returned (.bool b) := by rw [h]
theorem below_alloc (w : World) (o : Obj) : Below w.heap.size w (w.alloc o) := (Below.refl _ _).alloc (Nat.le_refl _) _
theorem below_drewN' (w : World) (d : Nat) : Below w.heap.size w (w.drewN d) := ⟨rfl, rfl, rfl, Nat.le_refl _, fun _ _ => rfl⟩
theorem below_drN {B : Nat} {a w : World} (h : Below B a w) (n : Nat) : Below B a (w.drewN n) := ⟨h.os, h.tape, h.output, h.size, h.block⟩
theorem but_trans {a b c : World} {r : Nat} (h : a.grownBy b (some r)) (k : b.grownBy c (some r)) : a.grownBy c (some r) :=
  ⟨k.os.trans h.os, k.tape.trans h.tape, k.output.trans h.output, Nat.le_trans h.size k.size, fun i hi hr => (k.block i (Nat.lt_of_lt_of_le hi h.size) hr).trans (h.block i hi hr)⟩
theorem but_of_below {a b : World} {r : Nat} (h : Below a.heap.size a b) : a.grownBy b (some r) :=
  ⟨h.os, h.tape, h.output, h.size, fun i hi _ => h.block i hi⟩
theorem but_set (w : World) (r o : Nat) (v : Value) : w.grownBy (w.setCell ⟨r, o, none⟩ v) (some r) :=
  ⟨rfl, rfl, rfl, by simp [World.setCell], fun k _ hk => Below.heap_setCell _ _ _ _ (by simpa using hk)⟩
theorem below_of_but {B : Nat} {a b c : World} {r : Nat} (h : Below B a b) (k : b.grownBy c (some r)) (hr : B ≤ r) (hB : B ≤ b.heap.size) : Below B a c :=
  h.grown k hB (fun i hi => by simp at hi; omega)
theorem but_frozen {w w' : World} {r : Nat} (hg : w.grownBy w' (some r)) {p : Addr} (hp : p.block < w.heap.size) (hne : p.block ≠ r) : w'.frozen? p = w.frozen? p :=
  World.frozen?_of_block (w := w) (hg.block p.block hp (by simpa using hne))
theorem cell_new (w : World) (arr : Array Value) (t : TypeId) (f : Nat × Nat) (i : Nat) : (w.alloc (.cells arr t f)).cell? ⟨w.heap.size, i, none⟩ = arr[i]? := by
  unfold World.cell?
  rw [show (w.alloc (.cells arr t f)).heap[w.heap.size]? = some (.cells arr t f) from by show (w.heap.push _)[w.heap.size]? = _; simp]
  simp
theorem below2 (w : World) (o p : Obj) : Below w.heap.size w ((w.alloc o).alloc p) := (below_alloc _ _).alloc (by simp) _
theorem below3 (w : World) (o p q : Obj) : Below w.heap.size w (((w.alloc o).alloc p).alloc q) := (below2 _ _ _).alloc (by simp; omega) _
theorem size2 (w : World) (o p : Obj) : ((w.alloc o).alloc p).heap.size = w.heap.size + 2 := by simp
/-- Block g is a variable whose cells hold vs. -/
def Blk (w : World) (g : Nat) (vs : List Value) (t : TypeId) : Prop := w.heap[g]? = some (.cells vs.toArray t)
theorem Blk.lt {w : World} {g : Nat} {vs : List Value} {t : TypeId} (h : Blk w g vs t) : g < w.heap.size := (Array.getElem?_eq_some_iff.1 h).1
theorem Blk.cell {w : World} {g : Nat} {vs : List Value} {t : TypeId} (h : Blk w g vs t) (i : Nat) : w.cell? ⟨g, i, none⟩ = vs[i]? := by
  rw [cell_of_row w g i _ t (0, 0) h]; simp
theorem Blk.free {w : World} {g : Nat} {vs : List Value} {t : TypeId} (h : Blk w g vs t) (i : Nat) : w.frozen? ⟨g, i, none⟩ = false := by
  unfold Blk at h
  simp [World.frozen?, h]
theorem Blk.range {w : World} {g : Nat} {vs : List Value} {t : TypeId} (h : Blk w g vs t) (o : Nat) (cs : List Value) (hc : ∀ j v, cs[j]? = some v → vs[o + j]? = some v) : w.rangeAt g o cs :=
  fun j v hv => by rw [h.cell]; exact hc j v hv
theorem Blk.whole {w : World} {g : Nat} {vs : List Value} {t : TypeId} (h : Blk w g vs t) : w.rangeAt g 0 vs := h.range 0 vs fun j v hv => by rw [Nat.zero_add]; exact hv
theorem Blk.there {w : World} {g : Nat} {vs : List Value} {t : TypeId} (h : Blk w g vs t) (o n : Nat) (hn : o + n ≤ vs.length) : w.there g o n :=
  fun j hj => ⟨by rw [h.cell, List.getElem?_eq_getElem (by omega)]; rfl, h.free _⟩
theorem Blk.setC {w : World} {g : Nat} {vs : List Value} {t : TypeId} (h : Blk w g vs t) (i : Nat) (u : Value) : Blk (w.setCell ⟨g, i, none⟩ u) g (vs.set i u) t := by
  unfold Blk
  rw [setCell_eq_setRow w g i _ t (0, 0) u h, setRow_heap w g _ _ t (0, 0) h]
  simp
theorem Blk.setO {w : World} {g : Nat} {vs : List Value} {t : TypeId} (h : Blk w g vs t) {p : Addr} (hp : g ≠ p.block) (u : Value) : Blk (w.setCell p u) g vs t := by
  unfold Blk
  rw [Below.heap_setCell _ _ _ _ hp]
  exact h
theorem Blk.setsO {g : Nat} {vs : List Value} {t : TypeId} {g' : Nat} (hp : g ≠ g') (us : List Value) : ∀ {w : World} (_ : Blk w g vs t) (o : Nat), Blk (w.setCells g' o us) g vs t := by
  induction us with
  | nil => intro w h o; exact h
  | cons u us ih => intro w h o; exact ih (h.setO (p := ⟨g', o, none⟩) hp u) (o + 1)
theorem Blk.sets {g : Nat} {t : TypeId} (us : List Value) : ∀ {w : World} {vs : List Value} (_ : Blk w g vs t) (o : Nat), o + us.length ≤ vs.length → Blk (w.setCells g o us) g (vs.take o ++ us ++ vs.drop (o + us.length)) t := by
  induction us with
  | nil => intro w vs h o _; simpa [World.setCells] using h
  | cons u us ih =>
    intro w vs h o hl
    have := ih (h.setC o u) (o + 1) (by simp at hl ⊢; omega)
    rw [list_seg_step vs o u us (by simpa using hl)] at this
    exact this
theorem Blk.setsW {w : World} {g : Nat} {t : TypeId} {vs : List Value} (h : Blk w g vs t) (us : List Value) (hl : us.length = vs.length) : Blk (w.setCells g 0 us) g us t := by
  have := h.sets us 0 (by omega)
  simpa [hl] using this
theorem Blk.below {w w' : World} {g : Nat} {vs : List Value} {t : TypeId} (h : Blk w g vs t) {B : Nat} (hb : Below B w w') (hB : g < B) : Blk w' g vs t := by
  unfold Blk
  rw [hb.block g hB]
  exact h
theorem Blk.new (w : World) (arr : Array Value) (t : TypeId) : Blk (w.alloc (.cells arr t)) w.heap.size arr.toList t := by
  unfold Blk
  rw [heap_alloc_new]
theorem Blk.newAt (w : World) (arr : Array Value) (t : TypeId) (g : Nat) (hg : w.heap.size = g) (vs : List Value) (hv : arr.toList = vs) : Blk (w.alloc (.cells arr t)) g vs t := by
  subst hg hv
  exact Blk.new w arr t
theorem Blk.old {w : World} {g : Nat} {vs : List Value} {t : TypeId} (h : Blk w g vs t) (o : Obj) : Blk (w.alloc o) g vs t := by
  unfold Blk
  rw [heap_alloc_old w o h.lt]
  exact h
theorem Blk.drN {w : World} {g : Nat} {vs : List Value} {t : TypeId} (h : Blk w g vs t) (n : Nat) : Blk (w.drewN n) g vs t := h
theorem Blk.dr {w : World} {g : Nat} {vs : List Value} {t : TypeId} (h : Blk w g vs t) : Blk w.drew g vs t := h
theorem below_sets {B g : Nat} {a : World} (hg : B ≤ g) (us : List Value) : ∀ {w : World} (_ : Below B a w) (o : Nat), Below B a (w.setCells g o us) := by
  induction us with
  | nil => intro w h o; exact h
  | cons u us ih => intro w h o; exact ih (h.setCell (p := ⟨g, o, none⟩) hg u) (o + 1)
theorem size_sets (g : Nat) (us : List Value) : ∀ (w : World) (o : Nat), (w.setCells g o us).heap.size = w.heap.size := by
  induction us with
  | nil => intro w o; rfl
  | cons u us ih => intro w o; rw [World.setCells, ih]; simp [World.setCell]
theorem add_mid' (g o j : Nat) : (Addr.add ⟨g, o, none⟩ j) = ⟨g, o + j, none⟩ := Addr.add_mid g o j
/-- Looks whether the next operation is a load, a store of that type: for 'with_reducible refine' ahead of the two laws below. -/
theorem at_ld (ty : TypeId) {x : Operand} {ops : Array Oper} {rest : List Oper} {a : Act} {w : World} {Q : Exit → Act → World → Prop} {dst : Option Tmp} {tp : TypeId} {pos : String} {aft : Array Edge}
    (h : wpList Try.prog ops Q ({ dst := dst, op := .load ty x, type := tp, pos := pos, after := aft, guard := none } :: rest) a w) : wpList Try.prog ops Q ({ dst := dst, op := .load ty x, type := tp, pos := pos, after := aft, guard := none } :: rest) a w := h
theorem at_st (ty : TypeId) {x y : Operand} {ops : Array Oper} {rest : List Oper} {a : Act} {w : World} {Q : Exit → Act → World → Prop} {dst : Option Tmp} {tp : TypeId} {pos : String} {aft : Array Edge}
    (h : wpList Try.prog ops Q ({ dst := dst, op := .store ty x y, type := tp, pos := pos, after := aft, guard := none } :: rest) a w) : wpList Try.prog ops Q ({ dst := dst, op := .store ty x y, type := tp, pos := pos, after := aft, guard := none } :: rest) a w := h
/-- A load of a whole array. -/
theorem ld {ops : Array Oper} {rest : List Oper} {a : Act} {w : World} {Q : Exit → Act → World → Prop} {dst : Option Tmp} {tp : TypeId} {pos : String} {aft : Array Edge} (ty : TypeId) (x : Operand) (n : Nat)
    (hi : (Try.prog.info? ty).map (·.size) = some n) (d : TypeDesc) (hu : Try.prog.underlying ty = some d) (hd : d.isRow = true) (b o : Nat) (cs : List Value) (hl : cs.length = n) (hc : w.rangeAt b o cs) (hx : a.eval x = .pointer (some ⟨b, o, none⟩))
    (h : wpList Try.prog ops Q rest (a.put dst (.agg cs.toArray)) w) : wpList Try.prog ops Q ({ dst := dst, op := .load ty x, type := tp, pos := pos, after := aft, guard := none } :: rest) a w :=
  wpList_load_mid rfl ty x rfl b o hx cs d hc hu hd (by rw [hl]; exact hi) h
/-- A store of a whole array. -/
theorem st {ops : Array Oper} {rest : List Oper} {a : Act} {w : World} {Q : Exit → Act → World → Prop} {dst : Option Tmp} {tp : TypeId} {pos : String} {aft : Array Edge} (ty : TypeId) (x y : Operand) (n : Nat)
    (hi : (Try.prog.info? ty).map (·.size) = some n) (b o : Nat) (cs : List Value) (hl : cs.length = n) (h1 : ∀ v ∈ cs, v.oneCell' = true) (ht : w.there b o n) (hx : a.eval x = .pointer (some ⟨b, o, none⟩)) (hy : a.eval y = .agg cs.toArray)
    (h : wpList Try.prog ops Q rest (a.put dst undef) (w.setCells b o cs)) : wpList Try.prog ops Q ({ dst := dst, op := .store ty x y, type := tp, pos := pos, after := aft, guard := none } :: rest) a w :=
  wpList_store_mid rfl ty x y rfl b o cs.toArray hx hy (by simpa [hl] using ht) (by simpa [hl] using hi) (all_oneCell_toArray h1) h
/-- The same, the world behind it a letter. -/
theorem st' {ops : Array Oper} {rest : List Oper} {a : Act} {w : World} {Q : Exit → Act → World → Prop} {dst : Option Tmp} {tp : TypeId} {pos : String} {aft : Array Edge} (ty : TypeId) (x y : Operand) (n : Nat)
    (hi : (Try.prog.info? ty).map (·.size) = some n) (b o : Nat) (cs : List Value) (hl : cs.length = n) (h1 : ∀ v ∈ cs, v.oneCell' = true) (ht : w.there b o n) (hx : a.eval x = .pointer (some ⟨b, o, none⟩)) (hy : a.eval y = .agg cs.toArray)
    (h : ∀ w', w' = w.setCells b o cs → wpList Try.prog ops Q rest (a.put dst undef) w') : wpList Try.prog ops Q ({ dst := dst, op := .store ty x y, type := tp, pos := pos, after := aft, guard := none } :: rest) a w :=
  st ty x y n hi b o cs hl h1 ht hx hy (h _ rfl)
/-- A whole array, handed back out of a variable. -/
theorem res_blk {fn : Func} {p : Tmp} {ty : TypeId} (h : fn.results = #[.cell p ty]) (tmps : Array Value) (w : World) (g : Nat) (vs : List Value) (m : Nat) (e : TypeId)
    (hp : tmps.getD p undef = .pointer (some ⟨g, 0, none⟩)) (hg : Blk w g vs ty) (hu : Try.prog.underlying ty = some (.array m e)) (n : Nat) (hn : vs.length = n) (hi : (Try.prog.info? ty).map (·.size) = some n) :
    (results fn tmps).run Try.prog w = .ok (.agg vs.toArray) w :=
  results_cell_row h tmps w g ty vs.toArray (0, 0) _ hp hg hu rfl (by simpa [hn] using hi)
theorem at_bd (ty : TypeId) {parts : Array (Nat × Operand)} {ops : Array Oper} {rest : List Oper} {a : Act} {w : World} {Q : Exit → Act → World → Prop} {dst : Option Tmp} {tp : TypeId} {pos : String} {aft : Array Edge}
    (h : wpList Try.prog ops Q ({ dst := dst, op := .build ty parts, type := tp, pos := pos, after := aft, guard := none } :: rest) a w) : wpList Try.prog ops Q ({ dst := dst, op := .build ty parts, type := tp, pos := pos, after := aft, guard := none } :: rest) a w := h
/-- A literal of a struct or an array. -/
theorem bd {ops : Array Oper} {rest : List Oper} {a : Act} {w : World} {Q : Exit → Act → World → Prop} {dst : Option Tmp} {tp : TypeId} {pos : String} {aft : Array Edge} (ty : TypeId) (parts : Array (Nat × Operand)) (vals : List (Nat × Value)) (cells : Array Value)
    (hv : parts.toList.map (fun p => (p.1, a.eval p.2)) = vals) (hf : Try.prog.built ty vals = some cells)
    (h : wpList Try.prog ops Q rest (a.put dst (.agg cells)) w) : wpList Try.prog ops Q ({ dst := dst, op := .build ty parts, type := tp, pos := pos, after := aft, guard := none } :: rest) a w :=
  have hv' : (parts.map fun (i, x) => (i, a.eval x)).toList = vals := by rw [Array.toList_map]; exact hv
  wpList_build rfl ty parts rfl (by rw [hv', hf]; rfl) (by rw [hv', hf]; exact h)
theorem add_none (b o i : Nat) : (Addr.add ⟨b, o, none⟩ i) = ⟨b, o + i, none⟩ := by
  unfold Addr.add
  split
  · subst_vars; rfl
  · rfl

end Go.Proofs.Ytcmbkpdefbaakaa
