/-
  3 texts in one. No statement of the seat is proved here.
-/
import Derived.Test.YtbifikeecmaakaaRows
import Derived.WalkKit
import Derived.ProofKit
import Derived.OpenShut
import Derived.ShutString
import Derived.ChangeOld
import Derived.Below
import Derived.WalkSpells
import Derived.WalkLawsBesides
import Derived.Deep.QuietTactic
import Derived.BigQuiet
import Derived.Laws.AppendOwnNone
import Derived.Deep.RegionLaw
import Derived.BigRegion
import Derived.Deep.MidRow
import Derived.Laws.BitsAllLaws
/-
  What no text of ours needs bytes for: worlds that grow, worlds in which one block alone was written, blocks of memory that are known whole ('Blk'): what is read of them, and what stores make of them; whole structs and arrays loaded, stored, built. No condition; no statement of the seat is proved here.
-/
namespace Go.Proofs.Ytbifikeecmaakaa
open Go.RowKit

theorem lt_of_cell {w : World} {p : Addr} {v : Value} (h : w.cell? p = some v) : p.block < w.heap.size := by
  by_cases hb : p.block < w.heap.size
  · exact hb
  · exfalso
    have : w.heap[p.block]? = none := by simp; omega
    simp [World.cell?, this] at h
theorem ret_int {k : IntKind} {a b : Int} (h : a = b) : Ending.returned (.int k a) = .returned (.int k b) := by rw [h]
theorem ret_bool {a b : Bool} (h : a = b) : Ending.returned (.bool a) = .returned (.bool b) := by rw [h]
theorem below_alloc (w : World) (o : Obj) : Below w.heap.size w (w.alloc o) := (Below.refl _ _).alloc (Nat.le_refl _) _
theorem below_drewN' (w : World) (d : Nat) : Below w.heap.size w (w.drewN d) := ⟨rfl, rfl, rfl, Nat.le_refl _, fun _ _ => rfl⟩
theorem below_drN {B : Nat} {a w : World} (h : Below B a w) (n : Nat) : Below B a (w.drewN n) := ⟨h.os, h.tape, h.output, h.size, h.block⟩
theorem but_trans {a b c : World} {r : Nat} (h : a.grownBy b (some r)) (k : b.grownBy c (some r)) : a.grownBy c (some r) :=
  ⟨k.os.trans h.os, k.tape.trans h.tape, k.output.trans h.output, Nat.le_trans h.size k.size, fun i hi hr => (k.block i (Nat.lt_of_lt_of_le hi h.size) hr).trans (h.block i hi hr)⟩
theorem but_of_below {a b : World} {r : Nat} (h : Below a.heap.size a b) : a.grownBy b (some r) :=
  ⟨h.os, h.tape, h.output, h.size, fun i hi _ => h.block i hi⟩
theorem but_set (w : World) (r o : Nat) (v : Value) : w.grownBy (w.setCell ⟨r, o, none⟩ v) (some r) :=
  ⟨rfl, rfl, rfl, by simp [World.setCell], fun k _ hk => Below.heap_setCell _ _ _ _ (by simpa using hk)⟩
theorem below_of_but {B : Nat} {a b c : World} {r : Nat} (h : Below B a b) (k : b.grownBy c (some r)) (hr : B ≤ r) (hB : B ≤ b.heap.size) : Below B a c :=
  h.grown k hB (fun i hi => by simp at hi; omega)
theorem but_frozen {w w' : World} {r : Nat} (hg : w.grownBy w' (some r)) {p : Addr} (hp : p.block < w.heap.size) (hne : p.block ≠ r) : w'.frozen? p = w.frozen? p :=
  World.frozen?_of_block (w := w) (hg.block p.block hp (by simpa using hne))
theorem cell_new (w : World) (arr : Array Value) (t : TypeId) (f : Nat × Nat) (i : Nat) : (w.alloc (.cells arr t f)).cell? ⟨w.heap.size, i, none⟩ = arr[i]? := by
  unfold World.cell?
  rw [show (w.alloc (.cells arr t f)).heap[w.heap.size]? = some (.cells arr t f) from by show (w.heap.push _)[w.heap.size]? = _; simp]
  simp
theorem below2 (w : World) (o p : Obj) : Below w.heap.size w ((w.alloc o).alloc p) := (below_alloc _ _).alloc (by simp) _
theorem below3 (w : World) (o p q : Obj) : Below w.heap.size w (((w.alloc o).alloc p).alloc q) := (below2 _ _ _).alloc (by simp; omega) _
theorem size2 (w : World) (o p : Obj) : ((w.alloc o).alloc p).heap.size = w.heap.size + 2 := by simp
/-- Block g is a variable whose cells hold vs. -/
def Blk (w : World) (g : Nat) (vs : List Value) (t : TypeId) : Prop := w.heap[g]? = some (.cells vs.toArray t)
theorem Blk.lt {w : World} {g : Nat} {vs : List Value} {t : TypeId} (h : Blk w g vs t) : g < w.heap.size := (Array.getElem?_eq_some_iff.1 h).1
theorem Blk.cell {w : World} {g : Nat} {vs : List Value} {t : TypeId} (h : Blk w g vs t) (i : Nat) : w.cell? ⟨g, i, none⟩ = vs[i]? := by
  rw [cell_of_row w g i _ t (0, 0) h]; simp
theorem Blk.free {w : World} {g : Nat} {vs : List Value} {t : TypeId} (h : Blk w g vs t) (i : Nat) : w.frozen? ⟨g, i, none⟩ = false := by
  unfold Blk at h
  simp [World.frozen?, h]
theorem Blk.range {w : World} {g : Nat} {vs : List Value} {t : TypeId} (h : Blk w g vs t) (o : Nat) (cs : List Value) (hc : ∀ j v, cs[j]? = some v → vs[o + j]? = some v) : w.rangeAt g o cs :=
  fun j v hv => by rw [h.cell]; exact hc j v hv
theorem Blk.whole {w : World} {g : Nat} {vs : List Value} {t : TypeId} (h : Blk w g vs t) : w.rangeAt g 0 vs := h.range 0 vs fun j v hv => by rw [Nat.zero_add]; exact hv
theorem Blk.there {w : World} {g : Nat} {vs : List Value} {t : TypeId} (h : Blk w g vs t) (o n : Nat) (hn : o + n ≤ vs.length) : w.there g o n :=
  fun j hj => ⟨by rw [h.cell, List.getElem?_eq_getElem (by omega)]; rfl, h.free _⟩
theorem Blk.setC {w : World} {g : Nat} {vs : List Value} {t : TypeId} (h : Blk w g vs t) (i : Nat) (u : Value) : Blk (w.setCell ⟨g, i, none⟩ u) g (vs.set i u) t := by
  unfold Blk
  rw [setCell_eq_setRow w g i _ t (0, 0) u h, setRow_heap w g _ _ t (0, 0) h]
  simp
theorem Blk.setO {w : World} {g : Nat} {vs : List Value} {t : TypeId} (h : Blk w g vs t) {p : Addr} (hp : g ≠ p.block) (u : Value) : Blk (w.setCell p u) g vs t := by
  unfold Blk
  rw [Below.heap_setCell _ _ _ _ hp]
  exact h
theorem Blk.setsO {g : Nat} {vs : List Value} {t : TypeId} {g' : Nat} (hp : g ≠ g') (us : List Value) : ∀ {w : World} (_ : Blk w g vs t) (o : Nat), Blk (w.setCells g' o us) g vs t := by
  induction us with
  | nil => intro w h o; exact h
  | cons u us ih => intro w h o; exact ih (h.setO (p := ⟨g', o, none⟩) hp u) (o + 1)
theorem Blk.sets {g : Nat} {t : TypeId} (us : List Value) : ∀ {w : World} {vs : List Value} (_ : Blk w g vs t) (o : Nat), o + us.length ≤ vs.length → Blk (w.setCells g o us) g (vs.take o ++ us ++ vs.drop (o + us.length)) t := by
  induction us with
  | nil => intro w vs h o _; simpa [World.setCells] using h
  | cons u us ih =>
    intro w vs h o hl
    have := ih (h.setC o u) (o + 1) (by simp at hl ⊢; omega)
    rw [list_seg_step vs o u us (by simpa using hl)] at this
    exact this
theorem Blk.setsW {w : World} {g : Nat} {t : TypeId} {vs : List Value} (h : Blk w g vs t) (us : List Value) (hl : us.length = vs.length) : Blk (w.setCells g 0 us) g us t := by
  have := h.sets us 0 (by omega)
  simpa [hl] using this
theorem Blk.below {w w' : World} {g : Nat} {vs : List Value} {t : TypeId} (h : Blk w g vs t) {B : Nat} (hb : Below B w w') (hB : g < B) : Blk w' g vs t := by
  unfold Blk
  rw [hb.block g hB]
  exact h
theorem Blk.new (w : World) (arr : Array Value) (t : TypeId) : Blk (w.alloc (.cells arr t)) w.heap.size arr.toList t := by
  unfold Blk
  rw [heap_alloc_new]
theorem Blk.newAt (w : World) (arr : Array Value) (t : TypeId) (g : Nat) (hg : w.heap.size = g) (vs : List Value) (hv : arr.toList = vs) : Blk (w.alloc (.cells arr t)) g vs t := by
  subst hg hv
  exact Blk.new w arr t
theorem Blk.old {w : World} {g : Nat} {vs : List Value} {t : TypeId} (h : Blk w g vs t) (o : Obj) : Blk (w.alloc o) g vs t := by
  unfold Blk
  rw [heap_alloc_old w o h.lt]
  exact h
theorem Blk.drN {w : World} {g : Nat} {vs : List Value} {t : TypeId} (h : Blk w g vs t) (n : Nat) : Blk (w.drewN n) g vs t := h
theorem Blk.dr {w : World} {g : Nat} {vs : List Value} {t : TypeId} (h : Blk w g vs t) : Blk w.drew g vs t := h
theorem below_sets {B g : Nat} {a : World} (hg : B ≤ g) (us : List Value) : ∀ {w : World} (_ : Below B a w) (o : Nat), Below B a (w.setCells g o us) := by
  induction us with
  | nil => intro w h o; exact h
  | cons u us ih => intro w h o; exact ih (h.setCell (p := ⟨g, o, none⟩) hg u) (o + 1)
theorem size_sets (g : Nat) (us : List Value) : ∀ (w : World) (o : Nat), (w.setCells g o us).heap.size = w.heap.size := by
  induction us with
  | nil => intro w o; rfl
  | cons u us ih => intro w o; rw [World.setCells, ih]; simp [World.setCell]
theorem add_mid' (g o j : Nat) : (Addr.add ⟨g, o, none⟩ j) = ⟨g, o + j, none⟩ := Addr.add_mid g o j
/-- Looks whether the next operation is a load, a store of that type: for 'with_reducible refine' ahead of the two laws below. -/
theorem at_ld (ty : TypeId) {x : Operand} {ops : Array Oper} {rest : List Oper} {a : Act} {w : World} {Q : Exit → Act → World → Prop} {dst : Option Tmp} {tp : TypeId} {pos : String} {aft : Array Edge}
    (h : wpList Try.prog ops Q ({ dst := dst, op := .load ty x, type := tp, pos := pos, after := aft, guard := none } :: rest) a w) : wpList Try.prog ops Q ({ dst := dst, op := .load ty x, type := tp, pos := pos, after := aft, guard := none } :: rest) a w := h
theorem at_st (ty : TypeId) {x y : Operand} {ops : Array Oper} {rest : List Oper} {a : Act} {w : World} {Q : Exit → Act → World → Prop} {dst : Option Tmp} {tp : TypeId} {pos : String} {aft : Array Edge}
    (h : wpList Try.prog ops Q ({ dst := dst, op := .store ty x y, type := tp, pos := pos, after := aft, guard := none } :: rest) a w) : wpList Try.prog ops Q ({ dst := dst, op := .store ty x y, type := tp, pos := pos, after := aft, guard := none } :: rest) a w := h
/-- A load of a whole array. -/
theorem ld {ops : Array Oper} {rest : List Oper} {a : Act} {w : World} {Q : Exit → Act → World → Prop} {dst : Option Tmp} {tp : TypeId} {pos : String} {aft : Array Edge} (ty : TypeId) (x : Operand) (n : Nat)
    (hi : (Try.prog.info? ty).map (·.size) = some n) (d : TypeDesc) (hu : Try.prog.underlying ty = some d) (hd : d.isRow = true) (b o : Nat) (cs : List Value) (hl : cs.length = n) (hc : w.rangeAt b o cs) (hx : a.eval x = .pointer (some ⟨b, o, none⟩))
    (h : wpList Try.prog ops Q rest (a.put dst (.agg cs.toArray)) w) : wpList Try.prog ops Q ({ dst := dst, op := .load ty x, type := tp, pos := pos, after := aft, guard := none } :: rest) a w :=
  wpList_load_mid rfl ty x rfl b o hx cs d hc hu hd (by rw [hl]; exact hi) h
/-- A store of a whole array. -/
theorem st {ops : Array Oper} {rest : List Oper} {a : Act} {w : World} {Q : Exit → Act → World → Prop} {dst : Option Tmp} {tp : TypeId} {pos : String} {aft : Array Edge} (ty : TypeId) (x y : Operand) (n : Nat)
    (hi : (Try.prog.info? ty).map (·.size) = some n) (b o : Nat) (cs : List Value) (hl : cs.length = n) (h1 : ∀ v ∈ cs, v.oneCell' = true) (ht : w.there b o n) (hx : a.eval x = .pointer (some ⟨b, o, none⟩)) (hy : a.eval y = .agg cs.toArray)
    (h : wpList Try.prog ops Q rest (a.put dst undef) (w.setCells b o cs)) : wpList Try.prog ops Q ({ dst := dst, op := .store ty x y, type := tp, pos := pos, after := aft, guard := none } :: rest) a w :=
  wpList_store_mid rfl ty x y rfl b o cs.toArray hx hy (by simpa [hl] using ht) (by simpa [hl] using hi) (all_oneCell_toArray h1) h
/-- The same, the world behind it a letter. -/
theorem st' {ops : Array Oper} {rest : List Oper} {a : Act} {w : World} {Q : Exit → Act → World → Prop} {dst : Option Tmp} {tp : TypeId} {pos : String} {aft : Array Edge} (ty : TypeId) (x y : Operand) (n : Nat)
    (hi : (Try.prog.info? ty).map (·.size) = some n) (b o : Nat) (cs : List Value) (hl : cs.length = n) (h1 : ∀ v ∈ cs, v.oneCell' = true) (ht : w.there b o n) (hx : a.eval x = .pointer (some ⟨b, o, none⟩)) (hy : a.eval y = .agg cs.toArray)
    (h : ∀ w', w' = w.setCells b o cs → wpList Try.prog ops Q rest (a.put dst undef) w') : wpList Try.prog ops Q ({ dst := dst, op := .store ty x y, type := tp, pos := pos, after := aft, guard := none } :: rest) a w :=
  st ty x y n hi b o cs hl h1 ht hx hy (h _ rfl)
/-- A whole array, handed back out of a variable. -/
theorem res_blk {fn : Func} {p : Tmp} {ty : TypeId} (h : fn.results = #[.cell p ty]) (tmps : Array Value) (w : World) (g : Nat) (vs : List Value) (m : Nat) (e : TypeId)
    (hp : tmps.getD p undef = .pointer (some ⟨g, 0, none⟩)) (hg : Blk w g vs ty) (hu : Try.prog.underlying ty = some (.array m e)) (n : Nat) (hn : vs.length = n) (hi : (Try.prog.info? ty).map (·.size) = some n) :
    (results fn tmps).run Try.prog w = .ok (.agg vs.toArray) w :=
  results_cell_row h tmps w g ty vs.toArray (0, 0) _ hp hg hu rfl (by simpa [hn] using hi)
theorem at_bd (ty : TypeId) {parts : Array (Nat × Operand)} {ops : Array Oper} {rest : List Oper} {a : Act} {w : World} {Q : Exit → Act → World → Prop} {dst : Option Tmp} {tp : TypeId} {pos : String} {aft : Array Edge}
    (h : wpList Try.prog ops Q ({ dst := dst, op := .build ty parts, type := tp, pos := pos, after := aft, guard := none } :: rest) a w) : wpList Try.prog ops Q ({ dst := dst, op := .build ty parts, type := tp, pos := pos, after := aft, guard := none } :: rest) a w := h
/-- A literal of a struct or an array. -/
theorem bd {ops : Array Oper} {rest : List Oper} {a : Act} {w : World} {Q : Exit → Act → World → Prop} {dst : Option Tmp} {tp : TypeId} {pos : String} {aft : Array Edge} (ty : TypeId) (parts : Array (Nat × Operand)) (vals : List (Nat × Value)) (cells : Array Value)
    (hv : parts.toList.map (fun p => (p.1, a.eval p.2)) = vals) (hf : Try.prog.built ty vals = some cells)
    (h : wpList Try.prog ops Q rest (a.put dst (.agg cells)) w) : wpList Try.prog ops Q ({ dst := dst, op := .build ty parts, type := tp, pos := pos, after := aft, guard := none } :: rest) a w :=
  have hv' : (parts.map fun (i, x) => (i, a.eval x)).toList = vals := by rw [Array.toList_map]; exact hv
  wpList_build rfl ty parts rfl (by rw [hv', hf]; rfl) (by rw [hv', hf]; exact h)
theorem add_none (b o i : Nat) : (Addr.add ⟨b, o, none⟩ i) = ⟨b, o + i, none⟩ := by
  unfold Addr.add
  split
  · subst_vars; rfl
  · rfl

end Go.Proofs.Ytbifikeecmaakaa

/-
  Plain words on rows of bytes in memory: what a slice of bytes holds ('Bs'), what a slice of such slices holds ('Bss'), and how both outlast what a call makes. No condition; no statement of the seat is proved here.
-/
namespace Go.Proofs.Ytbifikeecmaakaa
open Go.RowKit Go.ChangeShapes Go.WideShapes Go.ChangeAt

/-- The i-th byte as a number. -/
def bt (l : List UInt8) (i : Nat) : Int := ((l.getD i 0).toNat : Int)

theorem bt_lo (l : List UInt8) (i : Nat) : 0 ≤ bt l i := by unfold bt; omega
theorem bt_hi (l : List UInt8) (i : Nat) : bt l i ≤ 255 := by
  unfold bt
  have := UInt8.toNat_lt (l.getD i 0)
  omega

/-- The slice (a, n, c) holds the bytes l. -/
def Bs (w : World) (a : Option Addr) (n c : Nat) (l : List UInt8) : Prop :=
  l.length = n ∧ n ≤ c ∧ c ≤ maxLen ∧ (a = none → c = 0) ∧ ∀ i, i < n → ∃ b o, a = some ⟨b, o, none⟩ ∧ w.cell? ⟨b, o + i, none⟩ = some (.int .u8 (bt l i))

theorem Bs.len {w : World} {a : Option Addr} {n c : Nat} {l : List UInt8} (h : Bs w a n c l) : l.length = n := h.1
theorem Bs.cap {w : World} {a : Option Addr} {n c : Nat} {l : List UInt8} (h : Bs w a n c l) : n ≤ c := h.2.1
theorem Bs.max {w : World} {a : Option Addr} {n c : Nat} {l : List UInt8} (h : Bs w a n c l) : n ≤ 9223372036854775807 := by
  have h1 := h.2.1
  have h2 := h.2.2.1
  unfold maxLen at h2
  omega

/-- Not empty: it begins somewhere, and its cells lie there. -/
theorem Bs.at {w : World} {a : Option Addr} {n c : Nat} {l : List UInt8} (h : Bs w a n c l) (hn : 0 < n) :
    ∃ b o, a = some ⟨b, o, none⟩ ∧ b < w.heap.size ∧ ∀ i, i < n → w.cell? ⟨b, o + i, none⟩ = some (.int .u8 (bt l i)) := by
  obtain ⟨b, o, ha, hc⟩ := h.2.2.2.2 0 hn
  refine ⟨b, o, ha, lt_of_cell hc, fun i hi => ?_⟩
  obtain ⟨b', o', ha', hc'⟩ := h.2.2.2.2 i hi
  rw [ha] at ha'
  simp at ha'
  obtain ⟨rfl, rfl⟩ := ha'
  exact hc'

theorem Bs.below {w w' : World} {a : Option Addr} {n c : Nat} {l : List UInt8} (h : Bs w a n c l) {B : Nat} (hb : Below B w w') (hB : w.heap.size ≤ B) : Bs w' a n c l := by
  refine ⟨h.1, h.2.1, h.2.2.1, h.2.2.2.1, fun i hi => ?_⟩
  obtain ⟨b, o, ha, hc⟩ := h.2.2.2.2 i hi
  refine ⟨b, o, ha, ?_⟩
  rw [hb.cell (p := ⟨b, o + i, none⟩) (by have := lt_of_cell hc; simp at this ⊢; omega)]
  exact hc

theorem Bs.nil (w : World) : Bs w none 0 0 [] := ⟨rfl, Nat.le_refl _, Nat.zero_le _, fun _ => rfl, fun i hi => by omega⟩

/-- Out of what the frame of a law gives. -/
theorem Bs.of_row {w : World} {a : Option Addr} {len cap : Nat} {zs : List Int}
    (h : (a = none ∧ len = 0 ∧ cap = 0 ∧ zs = []) ∨ ∃ x, a = some x ∧ len ≤ cap ∧ cap ≤ maxLen ∧ zs.length = cap ∧ (∀ i, i < zs.length → w.cell? (x.add i) = some (.int .u8 (zs.getD i 0))) ∧ ∀ n ∈ zs, (Lit.int .u8 n).wf = true) :
    ∃ l, Bs w a len cap l := by
  rcases h with ⟨rfl, rfl, rfl, rfl⟩ | ⟨x, rfl, hl, hm, hz, hcell, hwf⟩
  · exact ⟨[], Bs.nil w⟩
  · refine ⟨(zs.take len).map (fun z => UInt8.ofNat z.toNat), by simp; omega, hl, hm, by simp, fun i hi => ?_⟩
    have hc := hcell i (by omega)
    obtain ⟨b, o, s⟩ := x
    have hs : s = none := by
      have h0 := hcell 0 (by omega)
      simpa [Addr.add] using World.cell?_spot h0
    subst hs
    refine ⟨b, o, rfl, ?_⟩
    have e : (Addr.add ⟨b, o, none⟩ i) = ⟨b, o + i, none⟩ := by
      unfold Addr.add
      split
      · subst_vars; rfl
      · rfl
    rw [e] at hc
    rw [hc]
    congr 2
    have hlt : i < zs.length := by omega
    have hw := hwf zs[i] (List.getElem_mem hlt)
    have hw := bounds_u8 hw
    have e1 : zs.getD i 0 = zs[i] := by simp [List.getD_eq_getElem?_getD, hlt]
    have e2 : ((zs.take len).map (fun z => UInt8.ofNat z.toNat)).getD i 0 = UInt8.ofNat zs[i].toNat := by
      simp [List.getD_eq_getElem?_getD, hlt, hi]
    rw [e1]
    unfold bt
    rw [e2, UInt8.toNat_ofNat']
    omega

end Go.Proofs.Ytbifikeecmaakaa

/-
  Plain mathematics on lists of bytes and numbers: the number of bytes, the bytes of a number, there and back. No condition; nothing of the program.
-/
namespace Go.Proofs.Ytbifikeecmaakaa
open Go.RowKit

/-- The number of bytes, the highest first, in 64 bits. -/
def getN (l : List UInt8) : Nat := l.foldl (fun a x => (a * 256 + x.toNat) % 18446744073709551616) 0

theorem getN_snoc (l : List UInt8) (x : UInt8) : getN (l ++ [x]) = (getN l * 256 + x.toNat) % 18446744073709551616 := by
  unfold getN
  rw [List.foldl_append]
  rfl

theorem getN_lt (l : List UInt8) : getN l < 18446744073709551616 := by
  unfold getN
  suffices h : ∀ (m : List UInt8) (a : Nat), a < 18446744073709551616 → m.foldl (fun a x => (a * 256 + x.toNat) % 18446744073709551616) a < 18446744073709551616 from h l 0 (by omega)
  intro m
  induction m with
  | nil => intro a h; exact h
  | cons x m ih => intro a _; exact ih _ (Nat.mod_lt _ (by omega))

/-- The lowest so many bytes of a number, the highest first. -/
def putL (n : Nat) : Nat → List UInt8
  | 0 => []
  | s + 1 => putL (n / 256) s ++ [UInt8.ofNat n]

theorem putL_length (s : Nat) : ∀ n, (putL n s).length = s := by
  induction s with
  | zero => intro n; rfl
  | succ s ih => intro n; simp [putL, ih]

theorem putL_cons (t : Nat) : ∀ n, putL n (t + 1) = UInt8.ofNat (n / 256 ^ t) :: putL n t := by
  induction t with
  | zero => intro n; simp [putL]
  | succ t ih =>
    intro n
    rw [putL, ih (n / 256)]
    conv => rhs; rw [putL]
    rw [Nat.div_div_eq_div_mul, Nat.pow_succ, Nat.mul_comm 256]
    simp

theorem putL_zero (s : Nat) : putL 0 s = List.replicate s 0 := by
  induction s with
  | zero => rfl
  | succ s ih => rw [putL, Nat.zero_div, ih]; exact (List.replicate_succ' ..).symm

/-- Behind so many bytes nothing but noughts is left. -/
theorem putL_rest (t : Nat) (d : Nat) : ∀ n, n / 256 ^ t = 0 → List.replicate d 0 ++ putL n t = putL n (d + t) := by
  induction d with
  | zero => intro n _; simp
  | succ d ih =>
    intro n h
    rw [show d + 1 + t = (d + t) + 1 from by omega, putL_cons, ← ih n h, List.replicate_succ]
    have : n / 256 ^ (d + t) = 0 := by
      rw [Nat.pow_add, Nat.mul_comm, ← Nat.div_div_eq_div_mul, h, Nat.zero_div]
    rw [this]
    rfl

theorem getN_putL (s : Nat) : ∀ n, getN (putL n s) = n % 256 ^ s % 18446744073709551616 := by
  induction s with
  | zero => intro n; simp [putL, getN, Nat.mod_one]
  | succ s ih =>
    intro n
    rw [putL, getN_snoc, ih]
    have e : n % 256 ^ (s + 1) = (n / 256) % 256 ^ s * 256 + n % 256 := by
      rw [Nat.pow_succ, Nat.mul_comm, Nat.mod_mul]
      omega
    have e2 : (UInt8.ofNat n).toNat = n % 256 := by simp
    rw [e, e2]
    omega

theorem getN_put8 (n : Nat) (h : n < 18446744073709551616) : getN (putL n 8) = n := by
  rw [getN_putL]
  have : (256 : Nat) ^ 8 = 18446744073709551616 := by decide
  rw [this]
  omega

theorem bt_of_lt {l : List UInt8} {k : Nat} (h : k < l.length) : bt l k = (l[k].toNat : Int) := by
  unfold bt
  simp [List.getD_eq_getElem?_getD, h]

theorem take_snoc {l : List UInt8} {k : Nat} (h : k < l.length) : l.take (k + 1) = l.take k ++ [l[k]] := by
  rw [List.take_succ_eq_append_getElem h]

theorem get_step {l : List UInt8} {k : Nat} (h : k < l.length) : IntKind.u64.wrap (IntKind.u64.wrap ((getN (l.take k) : Int) * 256) + bt l k) = (getN (l.take (k + 1)) : Int) := by
  rw [take_snoc h, getN_snoc, bt_of_lt h, IntKind.wrap_u64, IntKind.wrap_u64]
  omega

theorem get_step_or {l : List UInt8} {k : Nat} (h : k < l.length) : bits .or .u64 (IntKind.u64.wrap ((getN (l.take k) : Int) * 256)) (bt l k) = (getN (l.take (k + 1)) : Int) := by
  have hx := UInt8.toNat_lt l[k]
  rw [take_snoc h, getN_snoc, bt_of_lt h, IntKind.wrap_u64]
  have e : ((getN (l.take k) : Int) * 256) % 18446744073709551616 = ((getN (l.take k) * 256 % 18446744073709551616 : Nat) : Int) := by omega
  rw [e, u64_or_nat _ _ (Nat.mod_lt _ (by omega)) (by omega)]
  rw [nat_join 8 _ _ (by omega) (by omega)]
  omega

theorem get_end {l : List UInt8} {n k : Nat} (H : Hid (l.length = n)) (h : ¬ k < n) : ((getN (l.take k) : Nat) : Int) = (getN l : Nat) := by
  rw [List.take_of_length_le (by rw [H.out]; omega)]

end Go.Proofs.Ytbifikeecmaakaa
