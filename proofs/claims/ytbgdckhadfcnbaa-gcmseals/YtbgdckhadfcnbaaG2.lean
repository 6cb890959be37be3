/-
  8 texts in one. No statement of the seat is proved here.
-/
import Derived.Test.YtbgdckhadfcnbaaG1
import Derived.ChangeSame
import Derived.Deep.MidRow
import Derived.OrdersHeld
import Derived.Deep.RegionHeld3
/-
  How an argument that is an array of 16 bytes is opened into a plain list. No condition; no statement of the seat is proved here.
-/
namespace Go.Proofs.Ytbgdckhadfcnbaa
open Go.RowKit Go.ChangeShapes Go.WideShapes Go.ChangeAt

theorem mapM_each {α β : Type} {f : α → Option β} : ∀ {L : List α} {ys : List β}, L.mapM f = some ys → ∀ i ∈ L, ∃ y, f i = some y
  | [], _, _, i, hi => by simp at hi
  | j :: L, ys, h, i, hi => by
    rw [List.mapM_cons] at h
    simp only [bind, Option.bind_eq_some_iff, pure, Option.some.injEq] at h
    obtain ⟨y, hy, zs, hz, _⟩ := h
    rcases List.mem_cons.1 hi with rfl | hi
    · exact ⟨y, hy⟩
    · exact mapM_each hz i hi

theorem cellsK : Try.prog.cellsOf 48 = 16 := by kernel_rfl
theorem cells5 : Try.prog.cellsOf 5 = 1 := by kernel_rfl

set_option maxRecDepth 100000 in
theorem okWide_arr16 {W : World} {b0 : Nat} {v : Value} (h : Value.okWide Try.prog W .any b0 48 v) : ∃ xs : Array Value, v = .agg xs ∧ xs.size = 16 := by
  simp only [Value.okWide, Try.underlying48] at h
  obtain ⟨cs, h1, h2, _⟩ := h
  exact ⟨cs, h1, by rw [h2, cellsK]⟩

set_option maxRecDepth 100000 in
theorem arr16_of_trod {H : Type} {enc : TypeId × Value → H} {W : World} {base : Nat} {held : Bool} {fuel : Nat} {xs : Array Value} {x : DataW H × List MemPlace} (hs : xs.size = 16)
    (h : DataW.trod enc Try.prog W base (fun _ => true) held fuel 48 (Value.agg xs).cells.toList = some x) : ∃ l : List UInt8, xs = (cs l).toArray ∧ l.length = 16 := by
  cases fuel with
  | zero => simp [DataW.trod] at h
  | succ m =>
    rw [DataW.trod_step] at h
    unfold DataW.trodStep at h
    simp only [Try.underlying48, Value.cells] at h
    rw [if_pos (by rw [cellsK]; simpa using hs)] at h
    simp only [Option.map_eq_some_iff, cells5] at h
    obtain ⟨ys, hy, _⟩ := h
    have hl : xs.toList.length = 16 := by simpa using hs
    have he : ∀ i, i < 16 → ∃ u : UInt8, xs.toList[i]? = some (.int .u8 (u.toNat : Int)) := fun i hi => by
      obtain ⟨y, hy⟩ := mapM_each hy i (by simpa using hi)
      obtain ⟨a, ea, _, wa⟩ := DataW.trod_int Try.underlying5 hy
      have hb := bounds_u8 wa
      refine ⟨UInt8.ofNat a.toNat, ?_⟩
      rw [ofNat_toNat_int a (by omega) (by omega)]
      rw [Nat.mul_one, List.drop_eq_getElem_cons (by omega), List.take_succ_cons, List.take_zero] at ea
      simp only [List.cons.injEq, and_true] at ea
      rw [List.getElem?_eq_getElem (by omega), ea]
    obtain ⟨f, hf⟩ := Deep.choose_lt he
    refine ⟨(List.range 16).map f, ?_, by simp⟩
    apply Array.toList_inj.1
    apply List.ext_getElem?
    intro i
    by_cases hi : i < 16
    · rw [hf i hi]
      simp [cs, hi]
    · rw [List.getElem?_eq_none (by omega), List.getElem?_eq_none (by simp [cs]; omega)]

end Go.Proofs.Ytbgdckhadfcnbaa

/-
  Blocks of memory that are known whole ('Blk'): a variable of a call's own. What is read of them, and what stores make of them; whole arrays loaded and stored. No condition; no statement of the seat is proved here.
-/
namespace Go.Proofs.Ytbgdckhadfcnbaa
open Go.RowKit

/-- A row of bytes as an array value. -/
def bv (l : List UInt8) : Value := .agg (cs l).toArray

/-- Block g is a variable whose cells hold vs. -/
def Blk (w : World) (g : Nat) (vs : List Value) (t : TypeId) : Prop := w.heap[g]? = some (.cells vs.toArray t)

theorem Blk.lt {w : World} {g : Nat} {vs : List Value} {t : TypeId} (h : Blk w g vs t) : g < w.heap.size := (Array.getElem?_eq_some_iff.1 h).1
theorem Blk.cell {w : World} {g : Nat} {vs : List Value} {t : TypeId} (h : Blk w g vs t) (i : Nat) : w.cell? ⟨g, i, none⟩ = vs[i]? := by
  rw [cell_of_row w g i _ t (0, 0) h]; simp
theorem Blk.free {w : World} {g : Nat} {vs : List Value} {t : TypeId} (h : Blk w g vs t) (i : Nat) : w.frozen? ⟨g, i, none⟩ = false := by
  unfold Blk at h
  simp [World.frozen?, h]
theorem Blk.range {w : World} {g : Nat} {vs : List Value} {t : TypeId} (h : Blk w g vs t) (o : Nat) (cs : List Value) (hc : ∀ j v, cs[j]? = some v → vs[o + j]? = some v) : w.rangeAt g o cs :=
  fun j v hv => by rw [h.cell]; exact hc j v hv
theorem Blk.whole {w : World} {g : Nat} {vs : List Value} {t : TypeId} (h : Blk w g vs t) : w.rangeAt g 0 vs := h.range 0 vs fun j v hv => by rw [Nat.zero_add]; exact hv
theorem Blk.there {w : World} {g : Nat} {vs : List Value} {t : TypeId} (h : Blk w g vs t) (o n : Nat) (hn : o + n ≤ vs.length) : w.there g o n :=
  fun j hj => ⟨by rw [h.cell, List.getElem?_eq_getElem (by omega)]; rfl, h.free _⟩
theorem Blk.setC {w : World} {g : Nat} {vs : List Value} {t : TypeId} (h : Blk w g vs t) (i : Nat) (u : Value) : Blk (w.setCell ⟨g, i, none⟩ u) g (vs.set i u) t := by
  unfold Blk
  rw [setCell_eq_setRow w g i _ t (0, 0) u h, setRow_heap w g _ _ t (0, 0) h]
  simp
theorem Blk.setO {w : World} {g : Nat} {vs : List Value} {t : TypeId} (h : Blk w g vs t) {p : Addr} (hp : g ≠ p.block) (u : Value) : Blk (w.setCell p u) g vs t := by
  unfold Blk
  rw [Below.heap_setCell _ _ _ _ hp]
  exact h
theorem Blk.setsO {g : Nat} {vs : List Value} {t : TypeId} {g' : Nat} (hp : g ≠ g') (us : List Value) : ∀ {w : World} (_ : Blk w g vs t) (o : Nat), Blk (w.setCells g' o us) g vs t := by
  induction us with
  | nil => intro w h o; exact h
  | cons u us ih => intro w h o; exact ih (h.setO (p := ⟨g', o, none⟩) hp u) (o + 1)
theorem Blk.sets {g : Nat} {t : TypeId} (us : List Value) : ∀ {w : World} {vs : List Value} (_ : Blk w g vs t) (o : Nat), o + us.length ≤ vs.length → Blk (w.setCells g o us) g (vs.take o ++ us ++ vs.drop (o + us.length)) t := by
  induction us with
  | nil => intro w vs h o _; simpa [World.setCells] using h
  | cons u us ih =>
    intro w vs h o hl
    have := ih (h.setC o u) (o + 1) (by simp at hl ⊢; omega)
    rw [list_seg_step vs o u us (by simpa using hl)] at this
    exact this
theorem Blk.setsW {w : World} {g : Nat} {t : TypeId} {vs : List Value} (h : Blk w g vs t) (us : List Value) (hl : us.length = vs.length) : Blk (w.setCells g 0 us) g us t := by
  have := h.sets us 0 (by omega)
  simpa [hl] using this
theorem Blk.below {w w' : World} {g : Nat} {vs : List Value} {t : TypeId} (h : Blk w g vs t) {B : Nat} (hb : Below B w w') (hB : g < B) : Blk w' g vs t := by
  unfold Blk
  rw [hb.block g hB]
  exact h
theorem Blk.new (w : World) (arr : Array Value) (t : TypeId) : Blk (w.alloc (.cells arr t)) w.heap.size arr.toList t := by
  unfold Blk
  rw [heap_alloc_new]
theorem Blk.newAt (w : World) (arr : Array Value) (t : TypeId) (g : Nat) (hg : w.heap.size = g) (vs : List Value) (hv : arr.toList = vs) : Blk (w.alloc (.cells arr t)) g vs t := by
  subst hg hv
  exact Blk.new w arr t
theorem Blk.old {w : World} {g : Nat} {vs : List Value} {t : TypeId} (h : Blk w g vs t) (o : Obj) : Blk (w.alloc o) g vs t := by
  unfold Blk
  rw [heap_alloc_old w o h.lt]
  exact h
theorem Blk.drN {w : World} {g : Nat} {vs : List Value} {t : TypeId} (h : Blk w g vs t) (n : Nat) : Blk (w.drewN n) g vs t := h
theorem Blk.dr {w : World} {g : Nat} {vs : List Value} {t : TypeId} (h : Blk w g vs t) : Blk w.drew g vs t := h
theorem below_sets {B g : Nat} {a : World} (hg : B ≤ g) (us : List Value) : ∀ {w : World} (_ : Below B a w) (o : Nat), Below B a (w.setCells g o us) := by
  induction us with
  | nil => intro w h o; exact h
  | cons u us ih => intro w h o; exact ih (h.setCell (p := ⟨g, o, none⟩) hg u) (o + 1)
theorem size_sets (g : Nat) (us : List Value) : ∀ (w : World) (o : Nat), (w.setCells g o us).heap.size = w.heap.size := by
  induction us with
  | nil => intro w o; rfl
  | cons u us ih => intro w o; rw [World.setCells, ih]; simp [World.setCell]

/-- The bytes that lie in a block from o on, as a slice. -/
theorem Blk.bs {w : World} {g : Nat} {vs : List Value} {t : TypeId} (h : Blk w g vs t) (o c : Nat) (l : List UInt8) (hl : ∀ j v, (cs l)[j]? = some v → vs[o + j]? = some v) (hc : l.length ≤ c) (hm : c ≤ 1000000) : Bs w (some ⟨g, o, none⟩) l.length c l := by
  refine ⟨rfl, hc, by unfold maxLen; omega, by simp, fun i hi => ⟨g, o, rfl, ?_⟩⟩
  rw [h.cell]
  exact hl i _ (cs_get hi)

theorem add_mid' (g o j : Nat) : (Addr.add ⟨g, o, none⟩ j) = ⟨g, o + j, none⟩ := Addr.add_mid g o j

theorem cs_sub {b : List UInt8} {o n j : Nat} {v : Value} (h : (cs ((b.drop o).take n))[j]? = some v) : (cs b)[o + j]? = some v := by
  simp only [cs, List.getElem?_map, List.getElem?_take, List.getElem?_drop] at h ⊢
  by_cases hj : j < n
  · simpa [hj] using h
  · simp [hj] at h

/-- Looks whether the next operation is a load, a store of that type: for 'with_reducible refine' ahead of the two laws below. -/
theorem at_ld (ty : TypeId) {x : Operand} {ops : Array Oper} {rest : List Oper} {a : Act} {w : World} {Q : Exit → Act → World → Prop} {dst : Option Tmp} {tp : TypeId} {pos : String} {aft : Array Edge}
    (h : wpList Try.prog ops Q ({ dst := dst, op := .load ty x, type := tp, pos := pos, after := aft, guard := none } :: rest) a w) : wpList Try.prog ops Q ({ dst := dst, op := .load ty x, type := tp, pos := pos, after := aft, guard := none } :: rest) a w := h
theorem at_st (ty : TypeId) {x y : Operand} {ops : Array Oper} {rest : List Oper} {a : Act} {w : World} {Q : Exit → Act → World → Prop} {dst : Option Tmp} {tp : TypeId} {pos : String} {aft : Array Edge}
    (h : wpList Try.prog ops Q ({ dst := dst, op := .store ty x y, type := tp, pos := pos, after := aft, guard := none } :: rest) a w) : wpList Try.prog ops Q ({ dst := dst, op := .store ty x y, type := tp, pos := pos, after := aft, guard := none } :: rest) a w := h
/-- A load of a whole array. -/
theorem ld {ops : Array Oper} {rest : List Oper} {a : Act} {w : World} {Q : Exit → Act → World → Prop} {dst : Option Tmp} {tp : TypeId} {pos : String} {aft : Array Edge} (ty : TypeId) (x : Operand) (n : Nat)
    (hi : (Try.prog.info? ty).map (·.size) = some n) (d : TypeDesc) (hu : Try.prog.underlying ty = some d) (hd : d.isRow = true) (b o : Nat) (cs : List Value) (hl : cs.length = n) (hc : w.rangeAt b o cs) (hx : a.eval x = .pointer (some ⟨b, o, none⟩))
    (h : wpList Try.prog ops Q rest (a.put dst (.agg cs.toArray)) w) : wpList Try.prog ops Q ({ dst := dst, op := .load ty x, type := tp, pos := pos, after := aft, guard := none } :: rest) a w :=
  wpList_load_mid rfl ty x rfl b o hx cs d hc hu hd (by rw [hl]; exact hi) h
/-- A store of a whole array. -/
theorem st {ops : Array Oper} {rest : List Oper} {a : Act} {w : World} {Q : Exit → Act → World → Prop} {dst : Option Tmp} {tp : TypeId} {pos : String} {aft : Array Edge} (ty : TypeId) (x y : Operand) (n : Nat)
    (hi : (Try.prog.info? ty).map (·.size) = some n) (b o : Nat) (cs : List Value) (hl : cs.length = n) (h1 : ∀ v ∈ cs, v.oneCell' = true) (ht : w.there b o n) (hx : a.eval x = .pointer (some ⟨b, o, none⟩)) (hy : a.eval y = .agg cs.toArray)
    (h : wpList Try.prog ops Q rest (a.put dst undef) (w.setCells b o cs)) : wpList Try.prog ops Q ({ dst := dst, op := .store ty x y, type := tp, pos := pos, after := aft, guard := none } :: rest) a w :=
  wpList_store_mid rfl ty x y rfl b o cs.toArray hx hy (by simpa [hl] using ht) (by simpa [hl] using hi) (all_oneCell_toArray h1) h

/-- The same, the world behind it a letter. -/
theorem st' {ops : Array Oper} {rest : List Oper} {a : Act} {w : World} {Q : Exit → Act → World → Prop} {dst : Option Tmp} {tp : TypeId} {pos : String} {aft : Array Edge} (ty : TypeId) (x y : Operand) (n : Nat)
    (hi : (Try.prog.info? ty).map (·.size) = some n) (b o : Nat) (cs : List Value) (hl : cs.length = n) (h1 : ∀ v ∈ cs, v.oneCell' = true) (ht : w.there b o n) (hx : a.eval x = .pointer (some ⟨b, o, none⟩)) (hy : a.eval y = .agg cs.toArray)
    (h : ∀ w', w' = w.setCells b o cs → wpList Try.prog ops Q rest (a.put dst undef) w') : wpList Try.prog ops Q ({ dst := dst, op := .store ty x y, type := tp, pos := pos, after := aft, guard := none } :: rest) a w :=
  st ty x y n hi b o cs hl h1 ht hx hy (h _ rfl)

/-- A whole array, handed back out of a variable. -/
theorem res_blk {fn : Func} {p : Tmp} {ty : TypeId} (h : fn.results = #[.cell p ty]) (tmps : Array Value) (w : World) (g : Nat) (vs : List Value) (m : Nat) (e : TypeId)
    (hp : tmps.getD p undef = .pointer (some ⟨g, 0, none⟩)) (hg : Blk w g vs ty) (hu : Try.prog.underlying ty = some (.array m e)) (n : Nat) (hn : vs.length = n) (hi : (Try.prog.info? ty).map (·.size) = some n) :
    (results fn tmps).run Try.prog w = .ok (.agg vs.toArray) w :=
  results_cell_row h tmps w g ty vs.toArray (0, 0) _ hp hg hu rfl (by simpa [hn] using hi)


theorem at_bd (ty : TypeId) {parts : Array (Nat × Operand)} {ops : Array Oper} {rest : List Oper} {a : Act} {w : World} {Q : Exit → Act → World → Prop} {dst : Option Tmp} {tp : TypeId} {pos : String} {aft : Array Edge}
    (h : wpList Try.prog ops Q ({ dst := dst, op := .build ty parts, type := tp, pos := pos, after := aft, guard := none } :: rest) a w) : wpList Try.prog ops Q ({ dst := dst, op := .build ty parts, type := tp, pos := pos, after := aft, guard := none } :: rest) a w := h
/-- A literal of a struct or an array. -/
theorem bd {ops : Array Oper} {rest : List Oper} {a : Act} {w : World} {Q : Exit → Act → World → Prop} {dst : Option Tmp} {tp : TypeId} {pos : String} {aft : Array Edge} (ty : TypeId) (parts : Array (Nat × Operand)) (vals : List (Nat × Value)) (cells : Array Value)
    (hv : parts.toList.map (fun p => (p.1, a.eval p.2)) = vals) (hf : Try.prog.built ty vals = some cells)
    (h : wpList Try.prog ops Q rest (a.put dst (.agg cells)) w) : wpList Try.prog ops Q ({ dst := dst, op := .build ty parts, type := tp, pos := pos, after := aft, guard := none } :: rest) a w :=
  have hv' : (parts.map fun (i, x) => (i, a.eval x)).toList = vals := by rw [Array.toList_map]; exact hv
  wpList_build rfl ty parts rfl (by rw [hv', hf]; rfl) (by rw [hv', hf]; exact h)


end Go.Proofs.Ytbgdckhadfcnbaa

/-
  Arrays of 16 bytes: their size, what is cut out of them. No condition; no statement of the seat is proved here.
-/
namespace Go.Proofs.Ytbgdckhadfcnbaa
open Go.RowKit

theorem sizeK : (Try.prog.info? 48).map (·.size) = some 16 := by kernel_rfl
abbrev z16 : Array Value := #[.int .u8 0, .int .u8 0, .int .u8 0, .int .u8 0, .int .u8 0, .int .u8 0, .int .u8 0, .int .u8 0, .int .u8 0, .int .u8 0, .int .u8 0, .int .u8 0, .int .u8 0, .int .u8 0, .int .u8 0, .int .u8 0]
theorem z16_eq : z16.toList = cs (List.replicate 16 0) := rfl
theorem lenK : Try.prog.arrayLen 48 = 16 := by kernel_rfl
theorem undK : Try.prog.underlying 48 = some (.array (Try.prog.arrayLen 48) (Try.prog.elem 48)) := by kernel_rfl
theorem elK (w : World) : Sem.run Try.prog (sizeOf (Try.prog.elem 48)) w = .ok 1 w := by kernel_rfl
theorem allK (g o : Nat) (w : World) : Sem.run Try.prog (Instr.sliceAt 48 (.pointer (some ⟨g, o, none⟩)) none none none) w = .ok (.slice (some ⟨g, o, none⟩) 16 16) w := by
  rw [run_sliceAt_array_all w 48 _ undK, elK]
  simp only [Result.andThen, slicedAt, lenK]
  rfl
theorem Bs.of_range {w : World} {g o : Nat} {l : List UInt8} (h : w.rangeAt g o (cs l)) {c : Nat} (hc : l.length ≤ c) (hm : c ≤ 1000000) : Bs w (some ⟨g, o, none⟩) l.length c l :=
  ⟨rfl, hc, by unfold maxLen; omega, by simp, fun i hi => ⟨g, o, rfl, h i _ (cs_get hi)⟩⟩
/-- The first eight, and those behind. -/
theorem loK (g : Nat) (w : World) : Sem.run Try.prog (Instr.sliceAt 48 (.pointer (some ⟨g, 0, none⟩)) none (some (.int .i64 8)) none) w = .ok (.slice (some ⟨g, 0, none⟩) 8 16) w := by
  rw [run_sliceAt_array_h w 48 _ undK .i64 _ (by omega) (by rw [lenK]; omega), elK]
  simp only [Result.andThen, slicedAt, lenK]
  rfl
theorem hiK (g : Nat) (w : World) : Sem.run Try.prog (Instr.sliceAt 48 (.pointer (some ⟨g, 0, none⟩)) (some (.int .i64 8)) none none) w = .ok (.slice (some ⟨g, 8, none⟩) 8 8) w := by
  rw [run_sliceAt_array_l w 48 _ undK .i64 _ (by omega) (by rw [lenK]; omega), elK]
  simp only [Result.andThen, slicedAt, lenK]
  rfl

end Go.Proofs.Ytbgdckhadfcnbaa

/-
  How an argument that is an array of 12 bytes is opened into a plain list. No condition; no statement of the seat is proved here.
-/
namespace Go.Proofs.Ytbgdckhadfcnbaa
open Go.RowKit Go.ChangeShapes Go.WideShapes Go.ChangeAt

theorem cellsL : Try.prog.cellsOf 41 = 12 := by kernel_rfl

set_option maxRecDepth 100000 in
theorem okWide_arr12 {W : World} {b0 : Nat} {v : Value} (h : Value.okWide Try.prog W .any b0 41 v) : ∃ xs : Array Value, v = .agg xs ∧ xs.size = 12 := by
  simp only [Value.okWide, Try.underlying41] at h
  obtain ⟨cs, h1, h2, _⟩ := h
  exact ⟨cs, h1, by rw [h2, cellsL]⟩

set_option maxRecDepth 100000 in
theorem arr12_of_trod {H : Type} {enc : TypeId × Value → H} {W : World} {base : Nat} {held : Bool} {fuel : Nat} {xs : Array Value} {x : DataW H × List MemPlace} (hs : xs.size = 12)
    (h : DataW.trod enc Try.prog W base (fun _ => true) held fuel 41 (Value.agg xs).cells.toList = some x) : ∃ l : List UInt8, xs = (cs l).toArray ∧ l.length = 12 := by
  cases fuel with
  | zero => simp [DataW.trod] at h
  | succ m =>
    rw [DataW.trod_step] at h
    unfold DataW.trodStep at h
    simp only [Try.underlying41, Value.cells] at h
    rw [if_pos (by rw [cellsL]; simpa using hs)] at h
    simp only [Option.map_eq_some_iff, cells5] at h
    obtain ⟨ys, hy, _⟩ := h
    have hl : xs.toList.length = 12 := by simpa using hs
    have he : ∀ i, i < 12 → ∃ u : UInt8, xs.toList[i]? = some (.int .u8 (u.toNat : Int)) := fun i hi => by
      obtain ⟨y, hy⟩ := mapM_each hy i (by simpa using hi)
      obtain ⟨a, ea, _, wa⟩ := DataW.trod_int Try.underlying5 hy
      have hb := bounds_u8 wa
      refine ⟨UInt8.ofNat a.toNat, ?_⟩
      rw [ofNat_toNat_int a (by omega) (by omega)]
      rw [Nat.mul_one, List.drop_eq_getElem_cons (by omega), List.take_succ_cons, List.take_zero] at ea
      simp only [List.cons.injEq, and_true] at ea
      rw [List.getElem?_eq_getElem (by omega), ea]
    obtain ⟨f, hf⟩ := Deep.choose_lt he
    refine ⟨(List.range 12).map f, ?_, by simp⟩
    apply Array.toList_inj.1
    apply List.ext_getElem?
    intro i
    by_cases hi : i < 12
    · rw [hf i hi]
      simp [cs, hi]
    · rw [List.getElem?_eq_none (by omega), List.getElem?_eq_none (by simp [cs]; omega)]

theorem sizeL : (Try.prog.info? 41).map (·.size) = some 12 := by kernel_rfl
theorem lenL : Try.prog.arrayLen 41 = 12 := by kernel_rfl
theorem undL : Try.prog.underlying 41 = some (.array (Try.prog.arrayLen 41) (Try.prog.elem 41)) := by kernel_rfl
theorem elL (w : World) : Sem.run Try.prog (sizeOf (Try.prog.elem 41)) w = .ok 1 w := by kernel_rfl
theorem allL (g o : Nat) (w : World) : Sem.run Try.prog (Instr.sliceAt 41 (.pointer (some ⟨g, o, none⟩)) none none none) w = .ok (.slice (some ⟨g, o, none⟩) 12 12) w := by
  rw [run_sliceAt_array_all w 41 _ undL, elL]
  simp only [Result.andThen, slicedAt, lenL]
  rfl

end Go.Proofs.Ytbgdckhadfcnbaa

/-
  Regions that draw their order, with calls and new variables in them: a call whose answer is known, and which only makes memory, may be taken first, if all that follows is shown in every world that has grown. No condition; no statement of the seat is proved here.
-/
namespace Go.Proofs.Ytbgdckhadfcnbaa
open Go.RowKit


/-- The world has only grown. -/
def Grows (w w' : World) : Prop := Below w.heap.size w w'
theorem Grows.refl (w : World) : Grows w w := Below.refl _ _
theorem Grows.trans {a b c : World} (h : Grows a b) (k : Grows b c) : Grows a c := Below.trans h (Below.mono k (Below.size h))

/-- What another operation does to a state in which this one's answer lies already, it does to the state in which it does not lie yet. -/
theorem other_first {P : Program} {ops : Array Oper} {Q : Exit → Act → World → Prop} {j : Nat} {oi oj : Oper} {v : Value} (hj : ops[j]? = some oj) (hap : oi.apart ops oj = true) (hsi : ∀ cs b, oi.op ≠ .select cs b) (hsj : ∀ cs b, oj.op ≠ .select cs b)
    (hQ : ∀ c a w, Q (.panic c) (a.put oi.dst v) w → Q (.panic c) a w) {K : Act → World → Prop} {a : Act} {w : World} (h : wpOp P ops Q j K (a.put oi.dst v) w) :
    wpOp P ops Q j (fun a' w' => (execOp a'.eval oi = execOp a.eval oi ∧ Region.wanted oi (yielded ops a'.tmps) = Region.wanted oi (yielded ops a.tmps)) ∧ K (a'.put oi.dst v) w') a w := by
  obtain ⟨h1, h2, h3⟩ := Oper.apart_spec hap
  have kp : ∀ (b : Act), (execOp b.eval oi = execOp a.eval oi ∧ Region.wanted oi (yielded ops b.tmps) = Region.wanted oi (yielded ops a.tmps)) → ∀ u, execOp (b.put oj.dst u).eval oi = execOp a.eval oi ∧ Region.wanted oi (yielded ops (b.put oj.dst u).tmps) = Region.wanted oi (yielded ops a.tmps) :=
    fun b hb u => ⟨(execOp_put oi hsi b oj.dst u h3).trans hb.1, (wanted_put oi b oj.dst u h3).trans hb.2⟩
  have k0 := kp a ⟨rfl, rfl⟩
  have sw : ∀ (b : Act) u, (b.put oj.dst u).put oi.dst v = (b.put oi.dst v).put oj.dst u := fun b u => (Act.put_comm b v u h2).symm
  have e1 := execOp_put oj hsj a oi.dst v h1
  have e2 := wanted_put oj a oi.dst v h1
  revert h
  unfold wpOp
  simp only [hj, e2]
  by_cases hw : Region.wanted oj (yielded ops a.tmps) = true
  · simp only [hw, if_true]
    rintro (h | ⟨ha, hl⟩)
    · left
      revert h
      unfold Oper.wp
      rw [e1]
      cases (execOp a.eval oj).run P w with
      | halt x w' =>
        intro h
        cases x
        case panic u => exact hQ _ _ _ h
        all_goals exact h
      | ok n w' =>
        intro h
        cases n with
        | value u => exact ⟨k0 u, by rw [sw]; exact h⟩
        | skip => exact ⟨k0 _, by rw [sw]; exact h⟩
        | defer d => exact ⟨kp { a with defers := d :: a.defers } ⟨rfl, rfl⟩ _, by rw [sw, ← Act.put_defers]; exact h⟩
        | enter f args =>
          refine Calls.mono h fun e w'' he => ?_
          cases e with
          | returned u => exact ⟨k0 u, by rw [sw]; exact he⟩
          | panicked c => exact hQ _ _ _ he
          | outgrown => exact he
        | row r args => exact Rows.mono h fun u w'' he => ⟨k0 u, by rw [sw]; exact he⟩
        | _ => exact h
    · right
      refine ⟨?_, hl⟩
      unfold Oper.asks at *
      rw [e1] at ha
      exact ha
  · rw [Bool.not_eq_true] at hw
    simp only [hw, Bool.false_eq_true, if_false]
    intro h
    exact ⟨k0 _, by rw [sw]; exact h⟩


/-- In every world that meets S the operation answers v, and the world has only grown. -/
def Ans (P : Program) (ops : Array Oper) (S : World → Prop) (o : Oper) (v : Value) (a : Act) : Prop :=
  (Region.wanted o (yielded ops a.tmps) = true ∧ ∀ w, S w → (execOp a.eval o).run P w = .ok (.value v) w ∨ ∃ f args, (execOp a.eval o).run P w = .ok (.enter f args) w ∧ Calls P f args w fun e w' => e = .returned v ∧ Grows w w' ∧ S w') ∨
  (Region.wanted o (yielded ops a.tmps) = false ∧ v = undef)
theorem Ans.same {P : Program} {ops : Array Oper} {S : World → Prop} {o : Oper} {v : Value} {a b : Act} (h : Ans P ops S o v a) (he : execOp b.eval o = execOp a.eval o ∧ Region.wanted o (yielded ops b.tmps) = Region.wanted o (yielded ops a.tmps)) : Ans P ops S o v b := by
  unfold Ans at *
  rw [he.1, he.2]
  exact h
theorem Ans.op {P : Program} {ops : Array Oper} {Q : Exit → Act → World → Prop} {S : World → Prop} {i : Nat} {o : Oper} {v : Value} {a : Act} (hi : ops[i]? = some o) (h : Ans P ops S o v a) {K : Act → World → Prop} {w : World} (hS : S w) (k : ∀ w', Grows w w' → S w' → K (a.put o.dst v) w') : wpOp P ops Q i K a w := by
  unfold wpOp
  simp only [hi]
  rcases h with ⟨hw, hv⟩ | ⟨hw, rfl⟩
  · simp only [hw, if_true]
    left
    unfold Oper.wp
    rcases hv w hS with e | ⟨f, args, e, hc⟩
    · rw [e]
      exact k w (Grows.refl w) hS
    · rw [e, Oper.upon_enter]
      refine hc.mono ?_
      rintro e w' ⟨rfl, hg, hs⟩
      exact k w' hg hs
  · simp only [hw, Bool.false_eq_true, if_false]
    exact k w (Grows.refl w) hS

/-- Whatever order is picked from here on, in whatever world has grown of this one. -/
def wpAnyG (P : Program) (md : Region.Mode) (ops : Array Oper) (Q : Exit → Act → World → Prop) (S : World → Prop) : Nat → Array Bool → Act → World → Prop
  | 0, listed, a, w => Region.ready md ops listed = [] ∧ ∀ w', Grows w w' → S w' → Q .normal a w'
  | fuel + 1, listed, a, w => ∀ w', Grows w w' → S w' → (Region.ready md ops listed = [] → Q .normal a w') ∧
      ∀ i ∈ Region.ready md ops listed, wpOp P ops Q i (fun a' w'' => S w'' ∧ wpAnyG P md ops Q S fuel (listed.setIfInBounds i true) a' w'') a w'
theorem wpAnyG.grow {P : Program} {ops : Array Oper} {Q : Exit → Act → World → Prop} {md : Region.Mode} {S : World → Prop} {fuel : Nat} {listed : Array Bool} {a : Act} {w w1 : World} (h : wpAnyG P md ops Q S fuel listed a w) (hg : Grows w w1) : wpAnyG P md ops Q S fuel listed a w1 := by
  cases fuel with
  | zero => exact ⟨h.1, fun w' hw hs => h.2 w' (hg.trans hw) hs⟩
  | succ fuel => exact fun w' hw hs => h w' (hg.trans hw) hs
theorem wpAnyG.any {P : Program} {ops : Array Oper} {Q : Exit → Act → World → Prop} {md : Region.Mode} {S : World → Prop} : ∀ (fuel : Nat) (listed : Array Bool) (a : Act) (w : World), S w → wpAnyG P md ops Q S fuel listed a w → wpAny P md ops Q fuel listed a w
  | 0, _, _, w, hS, h => ⟨h.1, h.2 w (Grows.refl w) hS⟩
  | fuel + 1, _, _, w, hS, h => by
    obtain ⟨h1, h2⟩ := h w (Grows.refl w) hS
    exact ⟨h1, fun i hi => wpOp_mono (fun a' w' hh => wpAnyG.any fuel _ a' w' hh.1 hh.2) (h2 i hi)⟩

theorem firstG {P : Program} {ops : Array Oper} {Q : Exit → Act → World → Prop} {md : Region.Mode} {S : World → Prop} {i : Nat} {oi : Oper} {v : Value} (hi : ops[i]? = some oi) (hsel : ∀ (j : Nat) (o : Oper) cs b, ops[j]? = some o → o.op ≠ .select cs b) (hQ : ∀ c a w, Q (.panic c) (a.put oi.dst v) w → Q (.panic c) a w) :
    ∀ (fuel : Nat) (listed : Array Bool) (a : Act) (w : World),
      (∀ j oj, ops[j]? = some oj → j ≠ i → listed.getD j true = false → (∀ e ∈ oj.after, Region.binds md e = true → e.on ≠ i) → oi.apart ops oj = true) →
      i ∈ Region.ready md ops listed → Ans P ops S oi v a → wpAnyG P md ops Q S fuel (listed.setIfInBounds i true) (a.put oi.dst v) w → wpAnyG P md ops Q S (fuel + 1) listed a w := by
  intro fuel
  induction fuel with
  | zero =>
    intro listed a w _ hr hy H w' hg hS
    refine ⟨fun h => (by rw [h] at hr; cases hr), fun j hj => ?_⟩
    by_cases e : j = i
    · rw [e]
      exact hy.op hi hS fun w'' hg' hs => ⟨hs, H.1, fun w3 h3 hs3 => H.2 w3 (hg.trans (hg'.trans h3)) hs3⟩
    · have := ready_mono hj e
      rw [H.1] at this
      cases this
  | succ fuel ih =>
    intro listed a w hfree hr hy H w' hg hS
    refine ⟨fun h => (by rw [h] at hr; cases hr), fun j hj => ?_⟩
    by_cases e : j = i
    · rw [e]
      exact hy.op hi hS fun w'' hg' hs => ⟨hs, wpAnyG.grow H (hg.trans hg')⟩
    · obtain ⟨hun, oj, hoj, hall⟩ := mem_ready.1 hj
      have hno : ∀ e ∈ oj.after, Region.binds md e = true → e.on ≠ i := fun x hx hb hxi => by
        have h1 := hall x hx hb
        have h0 := (mem_ready.1 hr).1
        rw [hxi] at h1
        rcases Nat.lt_or_ge i listed.size with hl | hl
        · simp [hl] at h0 h1
          rw [h0] at h1
          cases h1
        · simp [Array.getElem?_eq_none hl] at h1
      have hk := other_first hoj (hfree j oj hoj e hun hno) (fun cs b => hsel i oi cs b hi) (fun cs b => hsel j oj cs b hoj) hQ ((H w' hg hS).2 j (ready_mono hj e))
      refine wpOp_mono (fun a' w'' hh => ⟨hh.2.1, ih (listed.setIfInBounds j true) a' w'' ?_ (ready_mono hr (Ne.symm e)) (hy.same hh.1) ?_⟩) hk
      · intro k ok hk hki hun' hno'
        refine hfree k ok hk hki ?_ hno'
        by_cases hjk : j = k
        · rw [← hjk]; exact hun
        · rw [getD_set_ne true hjk] at hun'; exact hun'
      · rw [Array.setIfInBounds_comm _ _ e]
        exact hh.2.2

/-- Take number i first. -/
theorem takeG {P : Program} {ops : Array Oper} {Q : Exit → Act → World → Prop} {md : Region.Mode} {S : World → Prop} (i : Nat) (d : Option Tmp) (v : Value) {oi : Oper} {fuel : Nat} {listed : Array Bool} {a : Act} {w : World} (hi : ops[i]? = some oi) (hd : oi.dst = d)
    (hs : Region.noSelect ops = true) (hf : Region.free md ops listed i = true) (hr : (Region.ready md ops listed).contains i = true)
    (hQ : ∀ c a w, Q (.panic c) (a.put d v) w → Q (.panic c) a w) (hy : Ans P ops S oi v a)
    (h : wpAnyG P md ops Q S fuel (listed.setIfInBounds i true) (a.put d v) w) : wpAnyG P md ops Q S (fuel + 1) listed a w := by
  subst hd
  exact firstG hi (Region.noSelect_spec hs) hQ fuel listed a w (Region.free_spec hi hf) (by simpa using hr) hy h
/-- What only reckons. -/
theorem ans_plain {P : Program} {ops : Array Oper} {S : World → Prop} {oi : Oper} {v : Value} {a : Act} (hw : Region.wanted oi (yielded ops a.tmps) = true) (h : ∀ w, S w → (execOp a.eval oi).run P w = .ok (.value v) w) : Ans P ops S oi v a :=
  Or.inl ⟨hw, fun w hS => Or.inl (h w hS)⟩
/-- A call. -/
theorem ans_call {P : Program} {ops : Array Oper} {S : World → Prop} (f : FuncId) (args : Array Operand) (tys : Array TypeId) (vs : Array Value) {oi : Oper} {v : Value} {a : Act} (ho : oi.op = .call { callee := .value (.func f), args := args, argTypes := tys }) (hw : Region.wanted oi (yielded ops a.tmps) = true) (hv : (args.toList.map a.eval).toArray = vs)
    (hc : ∀ vs w, (callFunc f vs).run P w = .ok (.enter f vs) w) (h : ∀ w, S w → Calls P f vs w fun e w' => e = .returned v ∧ Grows w w' ∧ S w') : Ans P ops S oi v a := by
  have hv' : args.map a.eval = vs := by rw [← hv]; apply Array.toList_inj.1; rw [Array.toList_map]
  subst hv'
  refine Or.inl ⟨hw, fun w hS => Or.inr ⟨f, args.map a.eval, ?_, h w hS⟩⟩
  simp [execOp, ho, resolve, invoke, Act.eval, Deferred.ofValue, hc]
/-- The one that may come up. -/
theorem oneG {P : Program} {ops : Array Oper} {Q : Exit → Act → World → Prop} {md : Region.Mode} {S : World → Prop} (i : Nat) {fuel : Nat} {listed : Array Bool} {a : Act} {w : World} (hr : Region.ready md ops listed = [i])
    (h : ∀ w', Grows w w' → S w' → wpOp P ops Q i (fun a' w'' => S w'' ∧ wpAnyG P md ops Q S fuel (listed.setIfInBounds i true) a' w'') a w') : wpAnyG P md ops Q S (fuel + 1) listed a w :=
  fun w' hg hS => ⟨fun h0 => (by rw [h0] at hr; cases hr), fun j hj => by
    rw [hr] at hj
    rw [List.mem_singleton.1 hj]
    exact h w' hg hS⟩
theorem doneG {P : Program} {ops : Array Oper} {Q : Exit → Act → World → Prop} {md : Region.Mode} {S : World → Prop} {fuel : Nat} {listed : Array Bool} {a : Act} {w : World} (hr : Region.ready md ops listed = []) (h : ∀ w', Grows w w' → S w' → Q .normal a w') : wpAnyG P md ops Q S fuel listed a w := by
  cases fuel with
  | zero => exact ⟨hr, h⟩
  | succ fuel => exact fun w' hg hS => ⟨fun _ => h w' hg hS, fun j hj => by rw [hr] at hj; cases hj⟩
/-- The beginning. -/
theorem regionG {P : Program} {ops : Array Oper} {Q : Exit → Act → World → Prop} {S : World → Prop} {id : Nat} {a : Act} {w : World} (hm : P.follows .mixedOrders = true) (hS : S w.drew) (h : wpAnyG P .any ops Q S ops.size (Array.replicate ops.size false) a w.drew) : (Code.region id ops true).wp P Q a w :=
  wp_region_any hm (wpAnyG.any _ _ _ _ hS h)

/-- An operation that makes a variable. -/
def Makes (P : Program) (ops : Array Oper) (i : Nat) (d : Tmp) (cells : Array Value) (t : TypeId) : Prop :=
  ∃ o, ops[i]? = some o ∧ o.dst = some d ∧ o.guard = none ∧ ∀ (ρ : Operand → Value) (w : World), (execOp ρ o).run P w = .ok (.value (.pointer (some ⟨w.heap.size, 0, none⟩))) (w.alloc (.cells cells t))
theorem Makes.op {P : Program} {ops : Array Oper} {Q : Exit → Act → World → Prop} {i : Nat} {d : Tmp} {cells : Array Value} {t : TypeId} (h : Makes P ops i d cells t) {K : Act → World → Prop} {a : Act} {w : World} (k : K (a.put (some d) (.pointer (some ⟨w.heap.size, 0, none⟩))) (w.alloc (.cells cells t))) : wpOp P ops Q i K a w := by
  obtain ⟨o, hi, hd, hg, hx⟩ := h
  unfold wpOp
  simp only [hi]
  rw [if_pos (by simp [Region.wanted, hg])]
  left
  unfold Oper.wp
  rw [hx, Oper.upon_value, hd]
  exact k
theorem ans_eqB {ops : Array Oper} {S : World → Prop} {oi : Oper} {a : Act} (x y : Operand) (ho : oi.op = .binOp .eql 4 x y 4) (hw : Region.wanted oi (yielded ops a.tmps) = true) (p : Bool) (hx : a.eval x = .bool p) (hy : a.eval y = .bool p) : Ans Try.prog ops S oi (.bool true) a := by
  refine ans_plain hw fun w hS => ?_
  unfold execOp
  simp only [ho, hx, hy]
  go_simp
/-- A call that only makes memory, in whatever world has grown of W. -/
theorem ans_fn {ops : Array Oper} {W : World} {oi : Oper} {a : Act} (f : FuncId) (args : Array Operand) (tys : Array TypeId) (vs : Array Value) {v : Value} (ho : oi.op = .call { callee := .value (.func f), args := args, argTypes := tys }) (hw : Region.wanted oi (yielded ops a.tmps) = true) (hv : (args.toList.map a.eval).toArray = vs)
    (hc : ∀ vs w, (callFunc f vs).run Try.prog w = .ok (.enter f vs) w) (h : ∀ w, Grows W w → Calls Try.prog f vs w fun e w' => e = .returned v ∧ Below w.heap.size w w') : Ans Try.prog ops (Grows W) oi v a :=
  ans_call f args tys vs ho hw hv hc fun w hg => (h w hg).mono fun _ _ h2 => ⟨h2.1, h2.2, Grows.trans hg h2.2⟩
/-- A call whose answer lies in new memory: the one that may come up. -/
theorem callG {ops : Array Oper} {Q : Exit → Act → World → Prop} {md : Region.Mode} {S : World → Prop} (i : Nat) (d : Option Tmp) (f : FuncId) (args : Array Operand) (tys : Array TypeId) (vs : Array Value) {oi : Oper} {fuel : Nat} {listed : Array Bool} {a : Act} {w : World} (hi : ops[i]? = some oi) (hd : oi.dst = d)
    (ho : oi.op = .call { callee := .value (.func f), args := args, argTypes := tys }) (hw : Region.wanted oi (yielded ops a.tmps) = true) (hv : (args.toList.map a.eval).toArray = vs) (hr : Region.ready md ops listed = [i]) (hc : ∀ vs w, (callFunc f vs).run Try.prog w = .ok (.enter f vs) w)
    (h : ∀ w', Grows w w' → S w' → Calls Try.prog f vs w' fun e w'' => ∃ v, e = .returned v ∧ S w'' ∧ wpAnyG Try.prog md ops Q S fuel (listed.setIfInBounds i true) (a.put d v) w'') : wpAnyG Try.prog md ops Q S (fuel + 1) listed a w := by
  subst hd
  have hv' : args.map a.eval = vs := by rw [← hv]; apply Array.toList_inj.1; rw [Array.toList_map]
  subst hv'
  refine oneG i hr fun w' hg hS => ?_
  unfold wpOp
  simp only [hi]
  rw [if_pos hw]
  left
  unfold Oper.wp
  have hx : (execOp a.eval oi).run Try.prog w' = .ok (.enter f (args.map a.eval)) w' := by simp [execOp, ho, resolve, invoke, Act.eval, Deferred.ofValue, hc]
  rw [hx, Oper.upon_enter]
  refine (h w' hg hS).mono ?_
  rintro e w'' ⟨v, rfl, hs, hh⟩
  exact ⟨hs, hh⟩

end Go.Proofs.Ytbgdckhadfcnbaa

/-
  Two and three new variables in a region that draws its order: whichever is made first. No condition; no statement of the seat is proved here.
-/
namespace Go.Proofs.Ytbgdckhadfcnbaa
open Go.RowKit


theorem Grows.alloc (w : World) (o : Obj) : Grows w (w.alloc o) := below_alloc w o
theorem Blk.grows {w w' : World} {g : Nat} {vs : List Value} {t : TypeId} (h : Blk w g vs t) (hg : Grows w w') : Blk w' g vs t := h.below hg h.lt
theorem Bs.grows {w w' : World} {a : Option Addr} {n c : Nat} {l : List UInt8} (h : Bs w a n c l) (hg : Grows w w') : Bs w' a n c l := h.below hg (Nat.le_refl _)

theorem alloc1 {P : Program} {ops : Array Oper} {Q : Exit → Act → World → Prop} {md : Region.Mode} {S : World → Prop} (hS : ∀ w w', S w → Grows w w' → S w') {cells : Array Value} {t : TypeId} (i : Nat) (d : Tmp) (m : Makes P ops i d cells t) {fuel : Nat} {listed : Array Bool} {a : Act} {w : World} (hr : Region.ready md ops listed = [i])
    (h : ∀ g w', Grows w w' → S w' → Blk w' g cells.toList t → w.heap.size ≤ g → wpAnyG P md ops Q S fuel (listed.setIfInBounds i true) (a.put (some d) (.pointer (some ⟨g, 0, none⟩))) w') : wpAnyG P md ops Q S (fuel + 1) listed a w := by
  refine oneG i hr fun w' hg hs => m.op ⟨hS _ _ hs (Grows.alloc _ _), ?_⟩
  exact h _ _ (hg.trans (Grows.alloc _ _)) (hS _ _ hs (Grows.alloc _ _)) (Blk.new w' _ _) (Below.size hg)

theorem alloc2 {P : Program} {ops : Array Oper} {Q : Exit → Act → World → Prop} {md : Region.Mode} {S : World → Prop} (hS : ∀ w w', S w → Grows w w' → S w') {cells : Array Value} {t : TypeId} (i j : Nat) (d e : Tmp) (hij : i ≠ j) (hde : d ≠ e) (mi : Makes P ops i d cells t) (mj : Makes P ops j e cells t) {fuel : Nat} {listed : Array Bool} {a : Act} {w : World} (hr : Region.ready md ops listed = [i, j])
    (hi : Region.ready md ops (listed.setIfInBounds i true) = [j]) (hj : Region.ready md ops (listed.setIfInBounds j true) = [i])
    (h : ∀ g k w', Grows w w' → S w' → Blk w' g cells.toList t → Blk w' k cells.toList t → w.heap.size ≤ g → w.heap.size ≤ k → g ≠ k → wpAnyG P md ops Q S fuel ((listed.setIfInBounds i true).setIfInBounds j true) ((a.put (some d) (.pointer (some ⟨g, 0, none⟩))).put (some e) (.pointer (some ⟨k, 0, none⟩))) w') :
    wpAnyG P md ops Q S (fuel + 1 + 1) listed a w := by
  intro w' hg hs
  refine ⟨fun h0 => (by rw [h0] at hr; cases hr), fun x hx => ?_⟩
  rw [hr] at hx
  rcases List.mem_cons.1 hx with rfl | hx
  · refine mi.op ⟨hS _ _ hs (Grows.alloc _ _), alloc1 hS j e mj hi fun k w2 h2 hs2 b2 hk => ?_⟩
    have b1 := (Blk.new w' cells t).grows h2
    exact h _ k w2 (hg.trans ((Grows.alloc _ _).trans h2)) hs2 b1 b2 (Below.size hg) (Nat.le_trans (Below.size hg) (Nat.le_trans (by simp) hk)) (by rw [World.size_alloc] at hk; omega)
  · rw [List.mem_singleton.1 hx]
    refine mj.op ⟨hS _ _ hs (Grows.alloc _ _), alloc1 hS i d mi hj fun g w2 h2 hs2 b2 hk => ?_⟩
    have b1 := (Blk.new w' cells t).grows h2
    have := h g _ w2 (hg.trans ((Grows.alloc _ _).trans h2)) hs2 b2 b1 (Nat.le_trans (Below.size hg) (Nat.le_trans (by simp) hk)) (Below.size hg) (by rw [World.size_alloc] at hk; omega)
    rw [Array.setIfInBounds_comm _ _ hij, Act.put_comm a _ _ (fun z hz he => by cases hz; cases he; exact hde rfl)] at this
    exact this

theorem alloc3 {P : Program} {ops : Array Oper} {Q : Exit → Act → World → Prop} {md : Region.Mode} {S : World → Prop} (hS : ∀ w w', S w → Grows w w' → S w') {cells : Array Value} {t : TypeId} (i j k : Nat) (d e f : Tmp) (hij : i ≠ j) (hik : i ≠ k) (hjk : j ≠ k) (hde : d ≠ e) (hdf : d ≠ f) (hef : e ≠ f) (mi : Makes P ops i d cells t) (mj : Makes P ops j e cells t) (mk : Makes P ops k f cells t) {fuel : Nat} {listed : Array Bool} {a : Act} {w : World} (hr : Region.ready md ops listed = [i, j, k])
    (hi : Region.ready md ops (listed.setIfInBounds i true) = [j, k]) (hj : Region.ready md ops (listed.setIfInBounds j true) = [i, k]) (hk : Region.ready md ops (listed.setIfInBounds k true) = [i, j])
    (hi1 : Region.ready md ops ((listed.setIfInBounds i true).setIfInBounds j true) = [k]) (hi2 : Region.ready md ops ((listed.setIfInBounds i true).setIfInBounds k true) = [j]) (hi3 : Region.ready md ops ((listed.setIfInBounds j true).setIfInBounds k true) = [i])
    (h : ∀ g0 g1 g2 w', Grows w w' → S w' → Blk w' g0 cells.toList t → Blk w' g1 cells.toList t → Blk w' g2 cells.toList t → w.heap.size ≤ g0 → w.heap.size ≤ g1 → w.heap.size ≤ g2 → g0 ≠ g1 → g0 ≠ g2 → g1 ≠ g2 → wpAnyG P md ops Q S fuel (((listed.setIfInBounds i true).setIfInBounds j true).setIfInBounds k true) (((a.put (some d) (.pointer (some ⟨g0, 0, none⟩))).put (some e) (.pointer (some ⟨g1, 0, none⟩))).put (some f) (.pointer (some ⟨g2, 0, none⟩))) w') :
    wpAnyG P md ops Q S (fuel + 1 + 1 + 1) listed a w := by
  have pc : ∀ (b : Act) {x y : Tmp} (u v : Value), x ≠ y → (b.put (some x) u).put (some y) v = (b.put (some y) v).put (some x) u := fun b x y u v hxy => Act.put_comm b u v (fun z hz he => by cases hz; cases he; exact hxy rfl)
  intro w' hg hs
  refine ⟨fun h0 => (by rw [h0] at hr; cases hr), fun x hx => ?_⟩
  rw [hr] at hx
  rcases List.mem_cons.1 hx with rfl | hx
  · refine mi.op ⟨hS _ _ hs (Grows.alloc _ _), alloc2 hS j k e f hjk hef mj mk hi hi1 hi2 fun g1 g2 w2 h2 hs2 b2 b3 h1 h3 hne => ?_⟩
    have b1 := (Blk.new w' cells t).grows h2
    rw [World.size_alloc] at h1 h3
    have hw := Below.size hg
    exact h _ g1 g2 w2 (hg.trans ((Grows.alloc _ _).trans h2)) hs2 b1 b2 b3 hw (by omega) (by omega) (by omega) (by omega) hne
  · rcases List.mem_cons.1 hx with rfl | hx
    · refine mj.op ⟨hS _ _ hs (Grows.alloc _ _), alloc2 hS i k d f hik hdf mi mk hj (by rw [Array.setIfInBounds_comm _ _ (Ne.symm hij)]; exact hi1) hi3 fun g0 g2 w2 h2 hs2 b2 b3 h1 h3 hne => ?_⟩
      have b1 := (Blk.new w' cells t).grows h2
      rw [World.size_alloc] at h1 h3
      have hw := Below.size hg
      have := h g0 _ g2 w2 (hg.trans ((Grows.alloc _ _).trans h2)) hs2 b2 b1 b3 (by omega) hw (by omega) (by omega) hne (by omega)
      rw [Array.setIfInBounds_comm _ _ hij, pc a _ _ hde] at this
      exact this
    · rw [List.mem_singleton.1 hx]
      refine mk.op ⟨hS _ _ hs (Grows.alloc _ _), alloc2 hS i j d e hij hde mi mj hk (by rw [Array.setIfInBounds_comm _ _ (Ne.symm hik)]; exact hi2) (by rw [Array.setIfInBounds_comm _ _ (Ne.symm hjk)]; exact hi3) fun g0 g1 w2 h2 hs2 b2 b3 h1 h3 hne => ?_⟩
      have b1 := (Blk.new w' cells t).grows h2
      rw [World.size_alloc] at h1 h3
      have hw := Below.size hg
      have := h g0 g1 _ w2 (hg.trans ((Grows.alloc _ _).trans h2)) hs2 b2 b3 b1 (by omega) (by omega) hw hne (by omega) (by omega)
      rw [Array.setIfInBounds_comm _ _ hjk, Array.setIfInBounds_comm _ _ hik, pc _ _ _ hef, pc a _ _ hdf] at this
      exact this
end Go.Proofs.Ytbgdckhadfcnbaa

/-
  Rows of bools in memory: what a slice of bools holds ('Bo'), rows that a call made itself ('OwnB'), append and make over them. No condition; no statement of the seat is proved here.
-/
namespace Go.Proofs.Ytbgdckhadfcnbaa
open Go.RowKit

/-- Bools as cells. -/
def bo (l : List Bool) : List Value := l.map .bool
theorem bo_length (l : List Bool) : (bo l).length = l.length := by simp [bo]
theorem bo_append (l m : List Bool) : bo (l ++ m) = bo l ++ bo m := by simp [bo]
theorem bo_get {l : List Bool} {i : Nat} (h : i < l.length) : (bo l)[i]? = some (.bool (l.getD i false)) := by
  simp [bo, h, List.getD_eq_getElem?_getD]
theorem bo_one {l : List Bool} (u : Value) (h : u ∈ bo l) : u.oneCell' = true := by
  simp only [bo, List.mem_map] at h
  obtain ⟨x, _, rfl⟩ := h
  rfl
theorem bo_set (l : List Bool) (k : Nat) (x : Bool) : (bo l).set k (.bool x) = bo (l.set k x) := by simp [bo, List.map_set]

/-- The slice (a, n, c) holds the bools l. -/
def Bo (w : World) (a : Option Addr) (n c : Nat) (l : List Bool) : Prop :=
  l.length = n ∧ n ≤ c ∧ c ≤ maxLen ∧ (a = none → c = 0) ∧ ∀ i, i < n → ∃ b o, a = some ⟨b, o, none⟩ ∧ w.cell? ⟨b, o + i, none⟩ = some (.bool (l.getD i false))
theorem Bo.len {w : World} {a : Option Addr} {n c : Nat} {l : List Bool} (h : Bo w a n c l) : l.length = n := h.1
theorem Bo.cap {w : World} {a : Option Addr} {n c : Nat} {l : List Bool} (h : Bo w a n c l) : n ≤ c := h.2.1
theorem Bo.at {w : World} {a : Option Addr} {n c : Nat} {l : List Bool} (h : Bo w a n c l) (hn : 0 < n) :
    ∃ b o, a = some ⟨b, o, none⟩ ∧ b < w.heap.size ∧ ∀ i, i < n → w.cell? ⟨b, o + i, none⟩ = some (.bool (l.getD i false)) := by
  obtain ⟨b, o, ha, hc⟩ := h.2.2.2.2 0 hn
  refine ⟨b, o, ha, lt_of_cell hc, fun i hi => ?_⟩
  obtain ⟨b', o', ha', hc'⟩ := h.2.2.2.2 i hi
  rw [ha] at ha'
  simp at ha'
  obtain ⟨rfl, rfl⟩ := ha'
  exact hc'
theorem Bo.below {w w' : World} {a : Option Addr} {n c : Nat} {l : List Bool} (h : Bo w a n c l) {B : Nat} (hb : Below B w w') (hB : w.heap.size ≤ B) : Bo w' a n c l := by
  refine ⟨h.1, h.2.1, h.2.2.1, h.2.2.2.1, fun i hi => ?_⟩
  obtain ⟨b, o, ha, hc⟩ := h.2.2.2.2 i hi
  refine ⟨b, o, ha, ?_⟩
  rw [hb.cell (p := ⟨b, o + i, none⟩) (by have := lt_of_cell hc; simp at this ⊢; omega)]
  exact hc
theorem Bo.setO {w : World} {a : Option Addr} {n c : Nat} {l : List Bool} (h : Bo w a n c l) {p : Addr} (hp : ∀ x, a = some x → x.block ≠ p.block) (u : Value) : Bo (w.setCell p u) a n c l := by
  refine ⟨h.1, h.2.1, h.2.2.1, h.2.2.2.1, fun i hi => ?_⟩
  obtain ⟨b, o, ha, hc⟩ := h.2.2.2.2 i hi
  have hne : b ≠ p.block := hp _ ha
  refine ⟨b, o, ha, ?_⟩
  rw [World.cell?_of_block (w := w) (a := ⟨b, o + i, none⟩) (Below.heap_setCell _ _ _ _ hne)]
  exact hc
theorem Bo.drN {w : World} {a : Option Addr} {n c : Nat} {l : List Bool} (h : Bo w a n c l) (d : Nat) : Bo (w.drewN d) a n c l := h
theorem Bo.dr {w : World} {a : Option Addr} {n c : Nat} {l : List Bool} (h : Bo w a n c l) : Bo w.drew a n c l := h
theorem Blk.bo {w : World} {g : Nat} {l : List Bool} {t : TypeId} (h : Blk w g (bo l) t) (hm : l.length ≤ 1000000) : Bo w (some ⟨g, 0, none⟩) l.length l.length l :=
  ⟨rfl, Nat.le_refl _, by unfold maxLen; omega, by simp, fun i hi => ⟨g, 0, rfl, by rw [Nat.zero_add, h.cell, bo_get hi]⟩⟩
theorem Blk.atB {w : World} {g : Nat} {l : List Bool} {t : TypeId} (h : Blk w g (Go.Proofs.Ytbgdckhadfcnbaa.bo l) t) {k : Nat} (hk : k < l.length) : w.cell? ⟨g, k, none⟩ = some (.bool (l.getD k false)) := by
  rw [h.cell, bo_get hk]
theorem Blk.setB {w : World} {g : Nat} {l : List Bool} {t : TypeId} (h : Blk w g (Go.Proofs.Ytbgdckhadfcnbaa.bo l) t) (k : Nat) (x : Bool) : Blk (w.setCell ⟨g, k, none⟩ (.bool x)) g (Go.Proofs.Ytbgdckhadfcnbaa.bo (l.set k x)) t := by
  have := h.setC k (.bool x)
  rw [bo_set] at this
  exact this

/-- The value v is a slice of the bools l, in memory of the call's own from block 'base' on. -/
def OwnB (w : World) (base : Nat) (v : Value) (l : List Bool) : Prop := w.ownsRow base 4 1 v l.length (bo l)
theorem infoB : (Try.prog.info? 4).map (fun i => (i.zero, i.size, i.bytes)) = some (some (.bool false), 1, 1) := by kernel_rfl
theorem OwnB.nil (w : World) (base : Nat) : OwnB w base (.slice none 0 0) [] := World.ownsRow_nil _ _ _ _
theorem OwnB.below {w w' : World} {base B : Nat} {v : Value} {l : List Bool} (h : OwnB w base v l) (hb : Below B w w') (hB : w.heap.size ≤ B) : OwnB w' base v l := by
  obtain ⟨h1, h2⟩ := h
  refine ⟨h1, ?_⟩
  rcases h2 with h2 | ⟨g, cap, cur, hv, hg, hh, r⟩
  · exact Or.inl h2
  · refine Or.inr ⟨g, cap, cur, hv, hg, ?_, r⟩
    have hlt : g < w.heap.size := by
      by_cases e : g < w.heap.size
      · exact e
      · rw [Array.getElem?_eq_none (by omega)] at hh; simp at hh
    rw [hb.block g (by omega)]
    exact hh
theorem OwnB.size {w : World} {base : Nat} {v : Value} {l : List Bool} (h : OwnB w base v l) : ∀ k, v.ownBlock = some k → base ≤ k := fun k hk => (World.ownsRow.lt h k hk).1
/-- What is owned is a slice of bools. -/
theorem OwnB.bo {w : World} {base : Nat} {v : Value} {l : List Bool} (h : OwnB w base v l) : ∃ a c, v = .slice a l.length c ∧ Bo w a l.length c l ∧ ∀ x, a = some x → base ≤ x.block := by
  have h' := h
  obtain ⟨h1, h2⟩ := h
  rcases h2 with ⟨rfl, h0⟩ | ⟨g, cap, cur, rfl, hg, hh, hn, hm, r⟩
  · have e : l = [] := List.length_eq_zero_iff.1 h0
    subst e
    exact ⟨none, 0, rfl, ⟨rfl, Nat.le_refl _, Nat.zero_le _, fun _ => rfl, fun i hi => by simp at hi⟩, fun x hx => by simp at hx⟩
  · refine ⟨_, cap, rfl, ⟨rfl, hn, hm, by simp, fun i hi => ⟨g, 0, rfl, ?_⟩⟩, fun x hx => by simp only [Option.some.injEq] at hx; subst hx; exact hg⟩
    have := World.ownsRow.cellAt h' i (by omega)
    rw [bo_get hi] at this
    simpa using this
theorem Bo.news {w : World} {ad : Addr} {m c : Nat} {l : List Bool} (h : Bo w (some ad) m c l) (j : Nat) (u : Value) (hj : (Go.Proofs.Ytbgdckhadfcnbaa.bo l)[j]? = some u) : w.cell? (ad.add j) = some u := by
  have hl := h.len
  by_cases hjl : j < l.length
  · rw [bo_get hjl] at hj
    obtain ⟨b, o, ha, hc⟩ := h.2.2.2.2 j (by omega)
    simp only [Option.some.injEq] at ha
    subst ha
    rw [Addr.add_mid, hc]
    exact hj
  · rw [List.getElem?_eq_none (by rw [bo_length]; omega)] at hj
    simp at hj

/-- 'append(out, src...)', out the call's own, src a slice of bools that is not nil. -/
theorem wpList_bapp {ops : Array Oper} {rest : List Oper} {o : Oper} {a : Act} {Q : Exit → Act → World → Prop} (w : World) (hgd : o.guard = none) (s x : Operand)
    (ho : o.op = Op.call { callee := Callee.builtin Builtin.append, args := #[s, x], argTypes := #[35, 35] }) (base : Nat) (v : Value) (l : List Bool) (hs : a.eval s = v) (hown : OwnB w base v l)
    (ad : Addr) (m c : Nat) (news : List Bool) (hx : a.eval x = .slice (some ad) m c) (hb : Bo w (some ad) m c news) (hz : l.length + news.length ≤ 1000000000) (hbase : base ≤ w.heap.size)
    (h : ∀ v' w', OwnB w' base v' (l ++ news) → Below base w w' → wpList Try.prog ops Q rest (a.put o.dst v') w') : wpList Try.prog ops Q (o :: rest) a w := by
  obtain ⟨i0, hi, hz0, hz1, hz2⟩ := info_parts infoB
  have hl := hb.len
  refine wpList_append_own w hgd s x 35 ho base 4 i0 (.bool false) 1 1 Try.underlying35 hi hz0 hz1 hz2 rfl (by decide) v _ _ hs hown ad m c (bo news) hx (by rw [bo_length]; omega) hb.news bo_one (by unfold maxLen; omega) (by omega) hbase ?_
  intro v' w' ho' hg _
  refine h v' w' ?_ ((Below.refl _ _).grown hg hbase (OwnB.size hown))
  unfold OwnB
  rw [bo_append, List.length_append, hl]
  exact ho'
/-- 'make([]bool, n)': a block that is known whole. -/
theorem wpList_bmk {ops : Array Oper} {rest : List Oper} {o : Oper} {a : Act} {Q : Exit → Act → World → Prop} (w : World) (hgd : o.guard = none) (l c : Operand)
    (ho : o.op = Op.makeSlice 35 l c) (n : Nat) (C : Int) (hl : a.eval l = .int .i64 C) (hc : a.eval c = .int .i64 C) (hC : C = n) (hz : n ≤ 2147483647)
    (h : ∀ g w', w.heap.size ≤ g → Blk w' g (bo (List.replicate n false)) 4 → Below w.heap.size w w' → wpList Try.prog ops Q rest (a.put o.dst (.slice (some ⟨g, 0, none⟩) n n)) w') : wpList Try.prog ops Q (o :: rest) a w := by
  obtain ⟨i0, hi, hz0, hz1, hz2⟩ := info_parts infoB
  refine wpList_make_full w hgd l c 35 ho w.heap.size 4 i0 (.bool false) 1 Try.underlying35 hi hz0 hz1 .i64 .i64 C C n hl hc hC hC (by rw [hz2]; omega) (by unfold maxLen; omega) (Nat.le_refl _) ?_
  intro w' ho' hg
  have e : (madeCells (Value.bool false).cells (n * 1)).toList = bo (List.replicate n false) := by
    rw [show (Value.bool false).cells = #[.bool false] from rfl, toList_madeCells_one]
    simp [bo]
  rw [e] at ho'
  refine h w.heap.size w' (Nat.le_refl _) ?_ ((Below.refl _ _).grown hg (Nat.le_refl _) (by simp))
  rcases ho'.2 with ⟨e0, _⟩ | ⟨g, cap, cur, e0, _, hh, _, _, hsz, ht⟩
  · simp at e0
  · simp only [Value.slice.injEq, Option.some.injEq, Addr.mk.injEq] at e0
    obtain ⟨⟨rfl, _⟩, _, rfl⟩ := e0
    unfold Blk
    rw [hh, ← ht, List.take_of_length_le (by simp [hsz])]
/-- What a call that hands back bools in new memory leaves. -/
def GivesB (w : World) (l : List Bool) (e : Ending) (w' : World) : Prop := ∃ a c, e = .returned (.slice a l.length c) ∧ Bo w' a l.length c l ∧ (∀ x, a = some x → w.heap.size ≤ x.block) ∧ Below w.heap.size w w'

end Go.Proofs.Ytbgdckhadfcnbaa

/-
  'make' of bytes and of bools in a region that draws its order. No condition; no statement of the seat is proved here.
-/
namespace Go.Proofs.Ytbgdckhadfcnbaa
open Go.RowKit

/-- 'make([]bool, n)', the one that may come up. -/
theorem opMkB {ops : Array Oper} {Q : Exit → Act → World → Prop} {i : Nat} {oi : Oper} (d : Option Tmp) (hi : ops[i]? = some oi) (hd : oi.dst = d) (hg : oi.guard = none) (l c : Operand) (ho : oi.op = Op.makeSlice 35 l c) {K : Act → World → Prop} {a : Act} {w : World} (n : Nat) (hl : a.eval l = .int .i64 (n : Int)) (hc : a.eval c = .int .i64 (n : Int)) (hz : n ≤ 2147483647)
    (k : ∀ w', Blk w' w.heap.size (bo (List.replicate n false)) 4 → Grows w w' → K (a.put d (.slice (some ⟨w.heap.size, 0, none⟩) n n)) w') : wpOp Try.prog ops Q i K a w := by
  subst hd
  obtain ⟨i0, hi0, hz0, hz1, hz2⟩ := info_parts infoB
  obtain ⟨w', hrun, r1, r2⟩ := run_make_full (P := Try.prog) w w.heap.size 35 4 i0 (.bool false) 1 Try.underlying35 hi0 hz0 hz1 .i64 .i64 n (by rw [hz2]; omega) (by unfold maxLen; omega) (Nat.le_refl _)
  have e : (madeCells (Value.bool false).cells (n * 1)).toList = bo (List.replicate n false) := by
    rw [show (Value.bool false).cells = #[.bool false] from rfl, toList_madeCells_one]
    simp [bo]
  rw [e] at r1
  have hB : Blk w' w.heap.size (bo (List.replicate n false)) 4 := by
    rcases r1.2 with ⟨e0, _⟩ | ⟨g, cap, cur, e0, _, hh, _, _, hsz, ht⟩
    · simp at e0
    · simp only [Value.slice.injEq, Option.some.injEq, Addr.mk.injEq] at e0
      obtain ⟨⟨rfl, _⟩, _, rfl⟩ := e0
      unfold Blk
      rw [hh, ← ht, List.take_of_length_le (by simp [hsz])]
  have hk := k w' hB ((Below.refl _ _).grown r2 (Nat.le_refl _) (by simp))
  unfold wpOp
  simp only [hi]
  rw [if_pos (by simp [Region.wanted, hg])]
  left
  unfold Oper.wp
  simp [execOp, ho, hl, hc, hrun, Result.andThen]
  rw [Oper.upon_value]
  exact hk
/-- 'make([]byte, n)', the one that may come up. -/
theorem opMk8 {ops : Array Oper} {Q : Exit → Act → World → Prop} {i : Nat} {oi : Oper} (d : Option Tmp) (hi : ops[i]? = some oi) (hd : oi.dst = d) (hg : oi.guard = none) (l c : Operand) (ho : oi.op = Op.makeSlice 22 l c) {K : Act → World → Prop} {a : Act} {w : World} (n : Nat) (hl : a.eval l = .int .i64 (n : Int)) (hc : a.eval c = .int .i64 (n : Int)) (hz : n ≤ 2147483647)
    (k : ∀ w', Own w' w.heap.size (.slice (some ⟨w.heap.size, 0, none⟩) n n) (List.replicate n 0) → Grows w w' → K (a.put d (.slice (some ⟨w.heap.size, 0, none⟩) n n)) w') : wpOp Try.prog ops Q i K a w := by
  subst hd
  obtain ⟨i0, hi0, hz0, hz1, hz2⟩ := info_parts info5
  obtain ⟨w', hrun, r1, r2⟩ := run_make_full (P := Try.prog) w w.heap.size 22 5 i0 (.int .u8 0) 1 Try.underlying22 hi0 hz0 hz1 .i64 .i64 n (by rw [hz2]; omega) (by unfold maxLen; omega) (Nat.le_refl _)
  have e : (madeCells (Value.int .u8 0).cells (n * 1)).toList = cs (List.replicate n 0) := by
    rw [show (Value.int .u8 0).cells = #[.int .u8 0] from rfl, toList_madeCells_one]
    simp [cs]
  rw [e] at r1
  have hO : Own w' w.heap.size (.slice (some ⟨w.heap.size, 0, none⟩) n n) (List.replicate n 0) := by
    unfold Own
    rw [List.length_replicate]
    exact r1
  have hk := k w' hO ((Below.refl _ _).grown r2 (Nat.le_refl _) (by simp))
  unfold wpOp
  simp only [hi]
  rw [if_pos (by simp [Region.wanted, hg])]
  left
  unfold Oper.wp
  simp [execOp, ho, hl, hc, hrun, Result.andThen]
  rw [Oper.upon_value]
  exact hk

end Go.Proofs.Ytbgdckhadfcnbaa
