/-
  8 texts in one. No statement of the seat is proved here.
-/
import Derived.Test.YtnmmopneacdgfaaRows
import Derived.WalkKit
import Derived.ProofKit
import Derived.OpenShut
import Derived.ShutString
import Derived.ChangeOld
import Derived.Below
import Derived.WalkSpells
import Derived.WalkLawsBesides
import Derived.Deep.QuietTactic
import Derived.BigQuiet
import Derived.Laws.AppendOwnNone
import Derived.Deep.RegionLaw
import Derived.BigRegion
import Derived.Deep.MidRow
import Derived.Laws.BitsAllLaws
/-
  What no text of ours needs bytes for: worlds that grow, worlds in which one block alone was written, blocks of memory that are known whole ('Blk'): what is read of them, and what stores make of them; whole structs and arrays loaded, stored, built. No condition; no statement of the seat is proved here.
-/
namespace Go.Proofs.Ytnmmopneacdgfaa
open Go.RowKit

theorem lt_of_cell {w : World} {p : Addr} {v : Value} (h : w.cell? p = some v) : p.block < w.heap.size := by
  by_cases hb : p.block < w.heap.size
  · exact hb
  · exfalso
    have : w.heap[p.block]? = none := by simp; omega
    simp [World.cell?, this] at h
theorem ret_int {k : IntKind} {a b : Int} (h : a = b) : Ending.returned (.int k a) = .returned (.int k b) := by rw [h]
theorem ret_bool {a b : Bool} (h : a = b) : Ending.returned (.bool a) = .returned (.bool b) := by rw [h]
theorem below_alloc (w : World) (o : Obj) : Below w.heap.size w (w.alloc o) := (Below.refl _ _).alloc (Nat.le_refl _) _
theorem below_drewN' (w : World) (d : Nat) : Below w.heap.size w (w.drewN d) := ⟨rfl, rfl, rfl, Nat.le_refl _, fun _ _ => rfl⟩
theorem below_drN {B : Nat} {a w : World} (h : Below B a w) (n : Nat) : Below B a (w.drewN n) := ⟨h.os, h.tape, h.output, h.size, h.block⟩
theorem but_trans {a b c : World} {r : Nat} (h : a.grownBy b (some r)) (k : b.grownBy c (some r)) : a.grownBy c (some r) :=
  ⟨k.os.trans h.os, k.tape.trans h.tape, k.output.trans h.output, Nat.le_trans h.size k.size, fun i hi hr => (k.block i (Nat.lt_of_lt_of_le hi h.size) hr).trans (h.block i hi hr)⟩
theorem but_of_below {a b : World} {r : Nat} (h : Below a.heap.size a b) : a.grownBy b (some r) :=
  ⟨h.os, h.tape, h.output, h.size, fun i hi _ => h.block i hi⟩
theorem but_set (w : World) (r o : Nat) (v : Value) : w.grownBy (w.setCell ⟨r, o, none⟩ v) (some r) :=
  ⟨rfl, rfl, rfl, by simp [World.setCell], fun k _ hk => Below.heap_setCell _ _ _ _ (by simpa using hk)⟩
theorem below_of_but {B : Nat} {a b c : World} {r : Nat} (h : Below B a b) (k : b.grownBy c (some r)) (hr : B ≤ r) (hB : B ≤ b.heap.size) : Below B a c :=
  h.grown k hB (fun i hi => by simp at hi; omega)
theorem but_frozen {w w' : World} {r : Nat} (hg : w.grownBy w' (some r)) {p : Addr} (hp : p.block < w.heap.size) (hne : p.block ≠ r) : w'.frozen? p = w.frozen? p :=
  World.frozen?_of_block (w := w) (hg.block p.block hp (by simpa using hne))
theorem cell_new (w : World) (arr : Array Value) (t : TypeId) (f : Nat × Nat) (i : Nat) : (w.alloc (.cells arr t f)).cell? ⟨w.heap.size, i, none⟩ = arr[i]? := by
  unfold World.cell?
  rw [show (w.alloc (.cells arr t f)).heap[w.heap.size]? = some (.cells arr t f) from by show (w.heap.push _)[w.heap.size]? = _; simp]
  simp
theorem below2 (w : World) (o p : Obj) : Below w.heap.size w ((w.alloc o).alloc p) := (below_alloc _ _).alloc (by simp) _
theorem below3 (w : World) (o p q : Obj) : Below w.heap.size w (((w.alloc o).alloc p).alloc q) := (below2 _ _ _).alloc (by simp; omega) _
theorem size2 (w : World) (o p : Obj) : ((w.alloc o).alloc p).heap.size = w.heap.size + 2 := by simp
/-- Block g is a variable whose cells hold vs. -/
def Blk (w : World) (g : Nat) (vs : List Value) (t : TypeId) : Prop := w.heap[g]? = some (.cells vs.toArray t)
theorem Blk.lt {w : World} {g : Nat} {vs : List Value} {t : TypeId} (h : Blk w g vs t) : g < w.heap.size := (Array.getElem?_eq_some_iff.1 h).1
theorem Blk.cell {w : World} {g : Nat} {vs : List Value} {t : TypeId} (h : Blk w g vs t) (i : Nat) : w.cell? ⟨g, i, none⟩ = vs[i]? := by
  rw [cell_of_row w g i _ t (0, 0) h]; simp
theorem Blk.free {w : World} {g : Nat} {vs : List Value} {t : TypeId} (h : Blk w g vs t) (i : Nat) : w.frozen? ⟨g, i, none⟩ = false := by
  unfold Blk at h
  simp [World.frozen?, h]
theorem Blk.range {w : World} {g : Nat} {vs : List Value} {t : TypeId} (h : Blk w g vs t) (o : Nat) (cs : List Value) (hc : ∀ j v, cs[j]? = some v → vs[o + j]? = some v) : w.rangeAt g o cs :=
  fun j v hv => by rw [h.cell]; exact hc j v hv
theorem Blk.whole {w : World} {g : Nat} {vs : List Value} {t : TypeId} (h : Blk w g vs t) : w.rangeAt g 0 vs := h.range 0 vs fun j v hv => by rw [Nat.zero_add]; exact hv
theorem Blk.there {w : World} {g : Nat} {vs : List Value} {t : TypeId} (h : Blk w g vs t) (o n : Nat) (hn : o + n ≤ vs.length) : w.there g o n :=
  fun j hj => ⟨by rw [h.cell, List.getElem?_eq_getElem (by omega)]; rfl, h.free _⟩
theorem Blk.setC {w : World} {g : Nat} {vs : List Value} {t : TypeId} (h : Blk w g vs t) (i : Nat) (u : Value) : Blk (w.setCell ⟨g, i, none⟩ u) g (vs.set i u) t := by
  unfold Blk
  rw [setCell_eq_setRow w g i _ t (0, 0) u h, setRow_heap w g _ _ t (0, 0) h]
  simp
theorem Blk.setO {w : World} {g : Nat} {vs : List Value} {t : TypeId} (h : Blk w g vs t) {p : Addr} (hp : g ≠ p.block) (u : Value) : Blk (w.setCell p u) g vs t := by
  unfold Blk
  rw [Below.heap_setCell _ _ _ _ hp]
  exact h
theorem Blk.setsO {g : Nat} {vs : List Value} {t : TypeId} {g' : Nat} (hp : g ≠ g') (us : List Value) : ∀ {w : World} (_ : Blk w g vs t) (o : Nat), Blk (w.setCells g' o us) g vs t := by
  induction us with
  | nil => intro w h o; exact h
  | cons u us ih => intro w h o; exact ih (h.setO (p := ⟨g', o, none⟩) hp u) (o + 1)
theorem Blk.sets {g : Nat} {t : TypeId} (us : List Value) : ∀ {w : World} {vs : List Value} (_ : Blk w g vs t) (o : Nat), o + us.length ≤ vs.length → Blk (w.setCells g o us) g (vs.take o ++ us ++ vs.drop (o + us.length)) t := by
  induction us with
  | nil => intro w vs h o _; simpa [World.setCells] using h
  | cons u us ih =>
    intro w vs h o hl
    have := ih (h.setC o u) (o + 1) (by simp at hl ⊢; omega)
    rw [list_seg_step vs o u us (by simpa using hl)] at this
    exact this
theorem Blk.setsW {w : World} {g : Nat} {t : TypeId} {vs : List Value} (h : Blk w g vs t) (us : List Value) (hl : us.length = vs.length) : Blk (w.setCells g 0 us) g us t := by
  have := h.sets us 0 (by omega)
  simpa [hl] using this
theorem Blk.below {w w' : World} {g : Nat} {vs : List Value} {t : TypeId} (h : Blk w g vs t) {B : Nat} (hb : Below B w w') (hB : g < B) : Blk w' g vs t := by
  unfold Blk
  rw [hb.block g hB]
  exact h
theorem Blk.new (w : World) (arr : Array Value) (t : TypeId) : Blk (w.alloc (.cells arr t)) w.heap.size arr.toList t := by
  unfold Blk
  rw [heap_alloc_new]
theorem Blk.newAt (w : World) (arr : Array Value) (t : TypeId) (g : Nat) (hg : w.heap.size = g) (vs : List Value) (hv : arr.toList = vs) : Blk (w.alloc (.cells arr t)) g vs t := by
  subst hg hv
  exact Blk.new w arr t
theorem Blk.old {w : World} {g : Nat} {vs : List Value} {t : TypeId} (h : Blk w g vs t) (o : Obj) : Blk (w.alloc o) g vs t := by
  unfold Blk
  rw [heap_alloc_old w o h.lt]
  exact h
theorem below_sets {B g : Nat} {a : World} (hg : B ≤ g) (us : List Value) : ∀ {w : World} (_ : Below B a w) (o : Nat), Below B a (w.setCells g o us) := by
  induction us with
  | nil => intro w h o; exact h
  | cons u us ih => intro w h o; exact ih (h.setCell (p := ⟨g, o, none⟩) hg u) (o + 1)
theorem size_sets (g : Nat) (us : List Value) : ∀ (w : World) (o : Nat), (w.setCells g o us).heap.size = w.heap.size := by
  induction us with
  | nil => intro w o; rfl
  | cons u us ih => intro w o; rw [World.setCells, ih]; simp [World.setCell]
/-- Looks whether the next operation is a load, a store of that type: for 'with_reducible refine' ahead of the two laws below. -/
theorem at_ld (ty : TypeId) {x : Operand} {ops : Array Oper} {rest : List Oper} {a : Act} {w : World} {Q : Exit → Act → World → Prop} {dst : Option Tmp} {tp : TypeId} {pos : String} {aft : Array Edge}
    (h : wpList Try.prog ops Q ({ dst := dst, op := .load ty x, type := tp, pos := pos, after := aft, guard := none } :: rest) a w) : wpList Try.prog ops Q ({ dst := dst, op := .load ty x, type := tp, pos := pos, after := aft, guard := none } :: rest) a w := h
theorem at_st (ty : TypeId) {x y : Operand} {ops : Array Oper} {rest : List Oper} {a : Act} {w : World} {Q : Exit → Act → World → Prop} {dst : Option Tmp} {tp : TypeId} {pos : String} {aft : Array Edge}
    (h : wpList Try.prog ops Q ({ dst := dst, op := .store ty x y, type := tp, pos := pos, after := aft, guard := none } :: rest) a w) : wpList Try.prog ops Q ({ dst := dst, op := .store ty x y, type := tp, pos := pos, after := aft, guard := none } :: rest) a w := h
/-- A load of a whole array. -/
theorem ld {ops : Array Oper} {rest : List Oper} {a : Act} {w : World} {Q : Exit → Act → World → Prop} {dst : Option Tmp} {tp : TypeId} {pos : String} {aft : Array Edge} (ty : TypeId) (x : Operand) (n : Nat)
    (hi : (Try.prog.info? ty).map (·.size) = some n) (d : TypeDesc) (hu : Try.prog.underlying ty = some d) (hd : d.isRow = true) (b o : Nat) (cs : List Value) (hl : cs.length = n) (hc : w.rangeAt b o cs) (hx : a.eval x = .pointer (some ⟨b, o, none⟩))
    (h : wpList Try.prog ops Q rest (a.put dst (.agg cs.toArray)) w) : wpList Try.prog ops Q ({ dst := dst, op := .load ty x, type := tp, pos := pos, after := aft, guard := none } :: rest) a w :=
  wpList_load_mid rfl ty x rfl b o hx cs d hc hu hd (by rw [hl]; exact hi) h
/-- A store of a whole array. -/
theorem st {ops : Array Oper} {rest : List Oper} {a : Act} {w : World} {Q : Exit → Act → World → Prop} {dst : Option Tmp} {tp : TypeId} {pos : String} {aft : Array Edge} (ty : TypeId) (x y : Operand) (n : Nat)
    (hi : (Try.prog.info? ty).map (·.size) = some n) (b o : Nat) (cs : List Value) (hl : cs.length = n) (h1 : ∀ v ∈ cs, v.oneCell' = true) (ht : w.there b o n) (hx : a.eval x = .pointer (some ⟨b, o, none⟩)) (hy : a.eval y = .agg cs.toArray)
    (h : wpList Try.prog ops Q rest (a.put dst undef) (w.setCells b o cs)) : wpList Try.prog ops Q ({ dst := dst, op := .store ty x y, type := tp, pos := pos, after := aft, guard := none } :: rest) a w :=
  wpList_store_mid rfl ty x y rfl b o cs.toArray hx hy (by simpa [hl] using ht) (by simpa [hl] using hi) (all_oneCell_toArray h1) h
/-- The same, the world behind it a letter. -/
theorem st' {ops : Array Oper} {rest : List Oper} {a : Act} {w : World} {Q : Exit → Act → World → Prop} {dst : Option Tmp} {tp : TypeId} {pos : String} {aft : Array Edge} (ty : TypeId) (x y : Operand) (n : Nat)
    (hi : (Try.prog.info? ty).map (·.size) = some n) (b o : Nat) (cs : List Value) (hl : cs.length = n) (h1 : ∀ v ∈ cs, v.oneCell' = true) (ht : w.there b o n) (hx : a.eval x = .pointer (some ⟨b, o, none⟩)) (hy : a.eval y = .agg cs.toArray)
    (h : ∀ w', w' = w.setCells b o cs → wpList Try.prog ops Q rest (a.put dst undef) w') : wpList Try.prog ops Q ({ dst := dst, op := .store ty x y, type := tp, pos := pos, after := aft, guard := none } :: rest) a w :=
  st ty x y n hi b o cs hl h1 ht hx hy (h _ rfl)
theorem add_none (b o i : Nat) : (Addr.add ⟨b, o, none⟩ i) = ⟨b, o + i, none⟩ := by
  unfold Addr.add
  split
  · subst_vars; rfl
  · rfl

end Go.Proofs.Ytnmmopneacdgfaa

/-
  Plain words on rows of bytes in memory: what a slice of bytes holds ('Bs'), what a slice of such slices holds ('Bss'), and how both outlast what a call makes. No condition; no statement of the seat is proved here.
-/
namespace Go.Proofs.Ytnmmopneacdgfaa
open Go.RowKit Go.ChangeShapes Go.WideShapes Go.ChangeAt

/-- The i-th byte as a number. -/
def bt (l : List UInt8) (i : Nat) : Int := ((l.getD i 0).toNat : Int)

theorem bt_lo (l : List UInt8) (i : Nat) : 0 ≤ bt l i := by unfold bt; omega
theorem bt_hi (l : List UInt8) (i : Nat) : bt l i ≤ 255 := by
  unfold bt
  have := UInt8.toNat_lt (l.getD i 0)
  omega

/-- The slice (a, n, c) holds the bytes l. -/
def Bs (w : World) (a : Option Addr) (n c : Nat) (l : List UInt8) : Prop :=
  l.length = n ∧ n ≤ c ∧ c ≤ maxLen ∧ (a = none → c = 0) ∧ ∀ i, i < n → ∃ b o, a = some ⟨b, o, none⟩ ∧ w.cell? ⟨b, o + i, none⟩ = some (.int .u8 (bt l i))

theorem Bs.len {w : World} {a : Option Addr} {n c : Nat} {l : List UInt8} (h : Bs w a n c l) : l.length = n := h.1
theorem Bs.cap {w : World} {a : Option Addr} {n c : Nat} {l : List UInt8} (h : Bs w a n c l) : n ≤ c := h.2.1
theorem Bs.max {w : World} {a : Option Addr} {n c : Nat} {l : List UInt8} (h : Bs w a n c l) : n ≤ 9223372036854775807 := by
  have h1 := h.2.1
  have h2 := h.2.2.1
  unfold maxLen at h2
  omega

/-- Not empty: it begins somewhere, and its cells lie there. -/
theorem Bs.at {w : World} {a : Option Addr} {n c : Nat} {l : List UInt8} (h : Bs w a n c l) (hn : 0 < n) :
    ∃ b o, a = some ⟨b, o, none⟩ ∧ b < w.heap.size ∧ ∀ i, i < n → w.cell? ⟨b, o + i, none⟩ = some (.int .u8 (bt l i)) := by
  obtain ⟨b, o, ha, hc⟩ := h.2.2.2.2 0 hn
  refine ⟨b, o, ha, lt_of_cell hc, fun i hi => ?_⟩
  obtain ⟨b', o', ha', hc'⟩ := h.2.2.2.2 i hi
  rw [ha] at ha'
  simp at ha'
  obtain ⟨rfl, rfl⟩ := ha'
  exact hc'

theorem Bs.below {w w' : World} {a : Option Addr} {n c : Nat} {l : List UInt8} (h : Bs w a n c l) {B : Nat} (hb : Below B w w') (hB : w.heap.size ≤ B) : Bs w' a n c l := by
  refine ⟨h.1, h.2.1, h.2.2.1, h.2.2.2.1, fun i hi => ?_⟩
  obtain ⟨b, o, ha, hc⟩ := h.2.2.2.2 i hi
  refine ⟨b, o, ha, ?_⟩
  rw [hb.cell (p := ⟨b, o + i, none⟩) (by have := lt_of_cell hc; simp at this ⊢; omega)]
  exact hc

theorem Bs.nil (w : World) : Bs w none 0 0 [] := ⟨rfl, Nat.le_refl _, Nat.zero_le _, fun _ => rfl, fun i hi => by omega⟩

/-- Out of what the frame of a law gives. -/
theorem Bs.of_row {w : World} {a : Option Addr} {len cap : Nat} {zs : List Int}
    (h : (a = none ∧ len = 0 ∧ cap = 0 ∧ zs = []) ∨ ∃ x, a = some x ∧ len ≤ cap ∧ cap ≤ maxLen ∧ zs.length = cap ∧ (∀ i, i < zs.length → w.cell? (x.add i) = some (.int .u8 (zs.getD i 0))) ∧ ∀ n ∈ zs, (Lit.int .u8 n).wf = true) :
    ∃ l, Bs w a len cap l := by
  rcases h with ⟨rfl, rfl, rfl, rfl⟩ | ⟨x, rfl, hl, hm, hz, hcell, hwf⟩
  · exact ⟨[], Bs.nil w⟩
  · refine ⟨(zs.take len).map (fun z => UInt8.ofNat z.toNat), by simp; omega, hl, hm, by simp, fun i hi => ?_⟩
    have hc := hcell i (by omega)
    obtain ⟨b, o, s⟩ := x
    have hs : s = none := by
      have h0 := hcell 0 (by omega)
      simpa [Addr.add] using World.cell?_spot h0
    subst hs
    refine ⟨b, o, rfl, ?_⟩
    have e : (Addr.add ⟨b, o, none⟩ i) = ⟨b, o + i, none⟩ := by
      unfold Addr.add
      split
      · subst_vars; rfl
      · rfl
    rw [e] at hc
    rw [hc]
    congr 2
    have hlt : i < zs.length := by omega
    have hw := hwf zs[i] (List.getElem_mem hlt)
    have hw := bounds_u8 hw
    have e1 : zs.getD i 0 = zs[i] := by simp [List.getD_eq_getElem?_getD, hlt]
    have e2 : ((zs.take len).map (fun z => UInt8.ofNat z.toNat)).getD i 0 = UInt8.ofNat zs[i].toNat := by
      simp [List.getD_eq_getElem?_getD, hlt, hi]
    rw [e1]
    unfold bt
    rw [e2, UInt8.toNat_ofNat']
    omega

end Go.Proofs.Ytnmmopneacdgfaa

/-
  Plain mathematics on lists of bytes and numbers: the number of bytes, the bytes of a number, there and back. No condition; nothing of the program.
-/
namespace Go.Proofs.Ytnmmopneacdgfaa
open Go.RowKit

/-- The number of bytes, the highest first, in 64 bits. -/
def getN (l : List UInt8) : Nat := l.foldl (fun a x => (a * 256 + x.toNat) % 18446744073709551616) 0

theorem getN_snoc (l : List UInt8) (x : UInt8) : getN (l ++ [x]) = (getN l * 256 + x.toNat) % 18446744073709551616 := by
  unfold getN
  rw [List.foldl_append]
  rfl

theorem getN_lt (l : List UInt8) : getN l < 18446744073709551616 := by
  unfold getN
  suffices h : ∀ (m : List UInt8) (a : Nat), a < 18446744073709551616 → m.foldl (fun a x => (a * 256 + x.toNat) % 18446744073709551616) a < 18446744073709551616 from h l 0 (by omega)
  intro m
  induction m with
  | nil => intro a h; exact h
  | cons x m ih => intro a _; exact ih _ (Nat.mod_lt _ (by omega))

/-- The lowest so many bytes of a number, the highest first. -/
def putL (n : Nat) : Nat → List UInt8
  | 0 => []
  | s + 1 => putL (n / 256) s ++ [UInt8.ofNat n]

theorem putL_length (s : Nat) : ∀ n, (putL n s).length = s := by
  induction s with
  | zero => intro n; rfl
  | succ s ih => intro n; simp [putL, ih]

theorem putL_cons (t : Nat) : ∀ n, putL n (t + 1) = UInt8.ofNat (n / 256 ^ t) :: putL n t := by
  induction t with
  | zero => intro n; simp [putL]
  | succ t ih =>
    intro n
    rw [putL, ih (n / 256)]
    conv => rhs; rw [putL]
    rw [Nat.div_div_eq_div_mul, Nat.pow_succ, Nat.mul_comm 256]
    simp

/-- Behind so many bytes nothing but noughts is left. -/
theorem putL_rest (t : Nat) (d : Nat) : ∀ n, n / 256 ^ t = 0 → List.replicate d 0 ++ putL n t = putL n (d + t) := by
  induction d with
  | zero => intro n _; simp
  | succ d ih =>
    intro n h
    rw [show d + 1 + t = (d + t) + 1 from by omega, putL_cons, ← ih n h, List.replicate_succ]
    have : n / 256 ^ (d + t) = 0 := by
      rw [Nat.pow_add, Nat.mul_comm, ← Nat.div_div_eq_div_mul, h, Nat.zero_div]
    rw [this]
    rfl

theorem getN_putL (s : Nat) : ∀ n, getN (putL n s) = n % 256 ^ s % 18446744073709551616 := by
  induction s with
  | zero => intro n; simp [putL, getN, Nat.mod_one]
  | succ s ih =>
    intro n
    rw [putL, getN_snoc, ih]
    have e : n % 256 ^ (s + 1) = (n / 256) % 256 ^ s * 256 + n % 256 := by
      rw [Nat.pow_succ, Nat.mul_comm, Nat.mod_mul]
      omega
    have e2 : (UInt8.ofNat n).toNat = n % 256 := by simp
    rw [e, e2]
    omega

theorem bt_of_lt {l : List UInt8} {k : Nat} (h : k < l.length) : bt l k = (l[k].toNat : Int) := by
  unfold bt
  simp [List.getD_eq_getElem?_getD, h]

theorem take_snoc {l : List UInt8} {k : Nat} (h : k < l.length) : l.take (k + 1) = l.take k ++ [l[k]] := by
  rw [List.take_succ_eq_append_getElem h]

theorem get_step {l : List UInt8} {k : Nat} (h : k < l.length) : IntKind.u64.wrap (IntKind.u64.wrap ((getN (l.take k) : Int) * 256) + bt l k) = (getN (l.take (k + 1)) : Int) := by
  rw [take_snoc h, getN_snoc, bt_of_lt h, IntKind.wrap_u64, IntKind.wrap_u64]
  omega

theorem get_step_or {l : List UInt8} {k : Nat} (h : k < l.length) : bits .or .u64 (IntKind.u64.wrap ((getN (l.take k) : Int) * 256)) (bt l k) = (getN (l.take (k + 1)) : Int) := by
  have hx := UInt8.toNat_lt l[k]
  rw [take_snoc h, getN_snoc, bt_of_lt h, IntKind.wrap_u64]
  have e : ((getN (l.take k) : Int) * 256) % 18446744073709551616 = ((getN (l.take k) * 256 % 18446744073709551616 : Nat) : Int) := by omega
  rw [e, u64_or_nat _ _ (Nat.mod_lt _ (by omega)) (by omega)]
  rw [nat_join 8 _ _ (by omega) (by omega)]
  omega

theorem get_end {l : List UInt8} {n k : Nat} (H : Hid (l.length = n)) (h : ¬ k < n) : ((getN (l.take k) : Nat) : Int) = (getN l : Nat) := by
  rw [List.take_of_length_le (by rw [H.out]; omega)]

end Go.Proofs.Ytnmmopneacdgfaa

/-
  Rows of bytes that a call made itself ('Own'), and the laws on append and make over them. No condition; no statement of the seat is proved here.
-/
namespace Go.Proofs.Ytnmmopneacdgfaa
open Go.RowKit

/-- Bytes as cells. -/
def cs (l : List UInt8) : List Value := l.map fun x => .int .u8 (x.toNat : Int)

/-- The value v is a slice of the bytes l, in memory of the call's own from block 'base' on. -/
def Own (w : World) (base : Nat) (v : Value) (l : List UInt8) : Prop := w.ownsRow base 5 1 v l.length (cs l)

theorem info5 : (Try.prog.info? 5).map (fun i => (i.zero, i.size, i.bytes)) = some (some (.int .u8 0), 1, 1) := by kernel_rfl

theorem cs_length (l : List UInt8) : (cs l).length = l.length := by simp [cs]
theorem cs_append (l m : List UInt8) : cs (l ++ m) = cs l ++ cs m := by simp [cs]
theorem cs_get {l : List UInt8} {i : Nat} (h : i < l.length) : (cs l)[i]? = some (.int .u8 (bt l i)) := by
  simp [cs, bt, h, List.getD_eq_getElem?_getD]
theorem cs_one {l : List UInt8} (u : Value) (h : u ∈ cs l) : u.oneCell' = true := by
  simp only [cs, List.mem_map] at h
  obtain ⟨x, _, rfl⟩ := h
  rfl

theorem Own.nil (w : World) (base : Nat) : Own w base (.slice none 0 0) [] := World.ownsRow_nil _ _ _ _

theorem Own.mono {w : World} {base base' : Nat} {v : Value} {l : List UInt8} (h : Own w base v l) (hb : base' ≤ base) : Own w base' v l := by
  obtain ⟨h1, h2⟩ := h
  refine ⟨h1, ?_⟩
  rcases h2 with h2 | ⟨g, cap, cur, hv, hg, r⟩
  · exact Or.inl h2
  · exact Or.inr ⟨g, cap, cur, hv, by omega, r⟩

theorem Own.below {w w' : World} {base B : Nat} {v : Value} {l : List UInt8} (h : Own w base v l) (hb : Below B w w') (hB : w.heap.size ≤ B) : Own w' base v l := by
  obtain ⟨h1, h2⟩ := h
  refine ⟨h1, ?_⟩
  rcases h2 with h2 | ⟨g, cap, cur, hv, hg, hh, r⟩
  · exact Or.inl h2
  · refine Or.inr ⟨g, cap, cur, hv, hg, ?_, r⟩
    have hlt : g < w.heap.size := by
      by_cases e : g < w.heap.size
      · exact e
      · rw [Array.getElem?_eq_none (by omega)] at hh; simp at hh
    rw [hb.block g (by omega)]
    exact hh

theorem Own.size {w : World} {base : Nat} {v : Value} {l : List UInt8} (h : Own w base v l) : ∀ k, v.ownBlock = some k → base ≤ k := fun k hk => (World.ownsRow.lt h k hk).1

/-- What is owned is a slice of bytes. -/
theorem Own.bs {w : World} {base : Nat} {v : Value} {l : List UInt8} (h : Own w base v l) : ∃ a c, v = .slice a l.length c ∧ Bs w a l.length c l := by
  have h' := h
  obtain ⟨h1, h2⟩ := h
  rcases h2 with ⟨rfl, h0⟩ | ⟨g, cap, cur, rfl, hg, hh, hn, hm, r⟩
  · have e : l = [] := List.length_eq_zero_iff.1 h0
    subst e
    exact ⟨none, 0, rfl, Bs.nil w⟩
  · refine ⟨_, cap, rfl, rfl, hn, hm, by simp, fun i hi => ⟨g, 0, rfl, ?_⟩⟩
    have := World.ownsRow.cellAt h' i (by omega)
    rw [cs_get hi] at this
    simpa using this

theorem Bs.news {w : World} {ad : Addr} {m c : Nat} {l : List UInt8} (h : Bs w (some ad) m c l) (j : Nat) (u : Value) (hj : (cs l)[j]? = some u) : w.cell? (ad.add j) = some u := by
  have hl := h.len
  by_cases hjl : j < l.length
  · rw [cs_get hjl] at hj
    obtain ⟨b, o, ha, hc⟩ := h.2.2.2.2 j (by omega)
    simp at ha
    subst ha
    have e : (Addr.add ⟨b, o, none⟩ j) = ⟨b, o + j, none⟩ := by
      unfold Addr.add
      split
      · subst_vars; rfl
      · rfl
    rw [e, hc]
    exact hj
  · rw [List.getElem?_eq_none (by rw [cs_length]; omega)] at hj
    simp at hj

/-- 'append(out, src...)', out the call's own, src whatever slice of bytes. -/
theorem wpList_app {ops : Array Oper} {rest : List Oper} {o : Oper} {a : Act} {Q : Exit → Act → World → Prop} (w : World) (hgd : o.guard = none) (s x : Operand)
    (ho : o.op = Op.call { callee := Callee.builtin Builtin.append, args := #[s, x], argTypes := #[26, 26] }) (base : Nat) (v : Value) (l : List UInt8) (hs : a.eval s = v) (hown : Own w base v l)
    (ao : Option Addr) (m c : Nat) (news : List UInt8) (hx : a.eval x = .slice ao m c) (hb : Bs w ao m c news) (hz : l.length + news.length ≤ 1000000000) (hbase : base ≤ w.heap.size)
    (h : ∀ v' w', Own w' base v' (l ++ news) → Below base w w' → wpList Try.prog ops Q rest (a.put o.dst v') w') : wpList Try.prog ops Q (o :: rest) a w := by
  obtain ⟨i0, hi, hz0, hz1, hz2⟩ := info_parts info5
  have hl := hb.len
  cases ao with
  | none =>
    have hc := hb.2.2.2.1 rfl
    have hcap := hb.cap
    have e : news = [] := List.length_eq_zero_iff.1 (by omega)
    subst e
    obtain rfl : m = 0 := by omega
    subst hc
    refine wpList_append_own_none hgd s x 26 ho base 5 i0 1 Try.underlying26 hi v _ _ hs hown hx ?_
    refine h v w ?_ (Below.refl _ _)
    rw [List.append_nil]
    exact hown
  | some ad =>
    refine wpList_append_own w hgd s x 26 ho base 5 i0 (.int .u8 0) 1 1 Try.underlying26 hi hz0 hz1 hz2 rfl (by decide) v _ _ hs hown ad m c (cs news) hx (by rw [cs_length]; omega) hb.news cs_one (by unfold maxLen; omega) (by omega) hbase ?_
    intro v' w' ho' hg _
    refine h v' w' ?_ ((Below.refl _ _).grown hg hbase (Own.size hown))
    unfold Own
    rw [cs_append, List.length_append, hl]
    exact ho'

/-- 'make([]byte, 0, n)'. -/
theorem wpList_mk0 {ops : Array Oper} {rest : List Oper} {o : Oper} {a : Act} {Q : Exit → Act → World → Prop} (w : World) (hgd : o.guard = none) (l c : Operand)
    (ho : o.op = Op.makeSlice 26 l c) (base : Nat) (C : Int) (hl : a.eval l = .int .i64 0) (hc : a.eval c = .int .i64 C) (h0 : 0 ≤ C) (hz : C ≤ 1000000000) (hbase : base ≤ w.heap.size)
    (h : ∀ v w', Own w' base v [] → Below base w w' → wpList Try.prog ops Q rest (a.put o.dst v) w') : wpList Try.prog ops Q (o :: rest) a w := by
  obtain ⟨i0, hi, hz0, hz1, hz2⟩ := info_parts info5
  refine wpList_make_own w hgd l c 26 ho base 5 i0 (.int .u8 0) 1 Try.underlying26 hi hz0 hz1 .i64 .i64 C C.toNat hl hc (by omega) (by rw [hz2]; omega) (by unfold maxLen; omega) hbase ?_
  intro w' ho' hg
  exact h _ w' ho' ((Below.refl _ _).grown hg hbase (by simp))

/-- 'make([]byte, n)'. -/
theorem wpList_mkn {ops : Array Oper} {rest : List Oper} {o : Oper} {a : Act} {Q : Exit → Act → World → Prop} (w : World) (hgd : o.guard = none) (l c : Operand)
    (ho : o.op = Op.makeSlice 26 l c) (base n : Nat) (C : Int) (hl : a.eval l = .int .i64 C) (hc : a.eval c = .int .i64 C) (hC : C = n) (hz : n ≤ 2147483647) (hbase : base ≤ w.heap.size)
    (h : ∀ g w', base ≤ g → g < w'.heap.size → Own w' base (.slice (some ⟨g, 0, none⟩) n n) (List.replicate n 0) → Below base w w' → wpList Try.prog ops Q rest (a.put o.dst (.slice (some ⟨g, 0, none⟩) n n)) w') : wpList Try.prog ops Q (o :: rest) a w := by
  obtain ⟨i0, hi, hz0, hz1, hz2⟩ := info_parts info5
  refine wpList_make_full w hgd l c 26 ho base 5 i0 (.int .u8 0) 1 Try.underlying26 hi hz0 hz1 .i64 .i64 C C n hl hc hC hC (by rw [hz2]; omega) (by unfold maxLen; omega) hbase ?_
  intro w' ho' hg
  have ho2 : Own w' base (.slice (some ⟨w.heap.size, 0, none⟩) n n) (List.replicate n 0) := by
    unfold Own
    have e : (madeCells (Value.int .u8 0).cells (n * 1)).toList = cs (List.replicate n 0) := by
      rw [show (Value.int .u8 0).cells = #[.int .u8 0] from rfl, toList_madeCells_one]
      simp [cs]
    rw [← e, List.length_replicate]
    exact ho'
  exact h _ w' hbase (World.ownsRow.lt ho2 _ rfl).2 ho2 ((Below.refl _ _).grown hg hbase (by simp))

/-- A store into a row of the call's own. -/
theorem Own.set {w : World} {base g n c : Nat} {l : List UInt8} (h : Own w base (.slice (some ⟨g, 0, none⟩) n c) l) (hn : l.length = n) (j : Nat) (x : UInt8) :
    Own (w.setCell ⟨g, j, none⟩ (.int .u8 (x.toNat : Int))) base (.slice (some ⟨g, 0, none⟩) n c) (l.set j x) := by
  subst hn
  have := (World.ownsRow.stored h j (.int .u8 (x.toNat : Int))).1
  unfold Own
  rw [List.length_set]
  have e : cs (l.set j x) = (cs l).set j (.int .u8 (x.toNat : Int)) := by simp [cs, List.map_set]
  rw [e]
  exact this

theorem Own.cell {w : World} {base g n c : Nat} {l : List UInt8} (h : Own w base (.slice (some ⟨g, 0, none⟩) n c) l) (hn : l.length = n) (j : Nat) (hj : j < n) : ∃ v, w.cell? ⟨g, j, none⟩ = some v := by
  subst hn
  have := World.ownsRow.cellAt h j (by omega)
  rw [cs_get hj] at this
  exact ⟨_, this⟩
theorem Own.free {w : World} {base g n c : Nat} {l : List UInt8} (h : Own w base (.slice (some ⟨g, 0, none⟩) n c) l) (hn : l.length = n) (j : Nat) : w.frozen? ⟨g, j, none⟩ = false := by
  subst hn
  exact World.ownsRow.frozenAt h j

/-- A literal of bytes in a new block. -/
theorem Bs.made (w : World) (l : List UInt8) (arr : Array Value) (h : arr.toList = cs l) (hm : l.length ≤ 1000000) : Bs (w.alloc (.cells arr 5)) (some ⟨w.heap.size, 0, none⟩) l.length l.length l := by
  have hz : arr.size = l.length := by rw [← Array.length_toList, h, cs_length]
  have ho : Own (w.alloc (.cells arr 5)) w.heap.size (.slice (some ⟨w.heap.size, 0, none⟩) l.length l.length) l := by
    unfold Own
    rw [← h]
    exact World.ownsRow_lit w arr l.length (Nat.le_refl _) (by unfold maxLen; omega) (by omega)
  obtain ⟨a, c, e, hb⟩ := ho.bs
  simp only [Value.slice.injEq] at e
  obtain ⟨rfl, _, rfl⟩ := e
  exact hb

theorem ofNat_toNat_int (z : Int) (h0 : 0 ≤ z) (h1 : z ≤ 255) : ((UInt8.ofNat z.toNat).toNat : Int) = z := by
  rw [UInt8.toNat_ofNat']
  omega

theorem Bs.one (w : World) (z : Int) (h0 : 0 ≤ z) (h1 : z ≤ 255) : Bs (w.alloc (.cells #[.int .u8 z] 5)) (some ⟨w.heap.size, 0, none⟩) 1 1 [UInt8.ofNat z.toNat] :=
  Bs.made w [UInt8.ofNat z.toNat] #[.int .u8 z] (by simp only [cs, List.map, ofNat_toNat_int z h0 h1]) (by simp)

theorem Own.toBs {w : World} {base : Nat} {a : Option Addr} {m c : Nat} {l : List UInt8} (h : Own w base (.slice a m c) l) : Bs w a m c l := by
  obtain ⟨a', c', e, hb⟩ := h.bs
  simp only [Value.slice.injEq] at e
  obtain ⟨rfl, rfl, rfl⟩ := e
  exact hb

/-- What a call that hands back bytes in new memory leaves. -/
def Gives (w : World) (l : List UInt8) (e : Ending) (w' : World) : Prop := ∃ a m c, e = .returned (.slice a m c) ∧ Own w' w.heap.size (.slice a m c) l ∧ Below w.heap.size w w'

theorem Gives.mk {w w' : World} {l : List UInt8} {v : Value} (h : Own w' w.heap.size v l) (hb : Below w.heap.size w w') : Gives w l (.returned v) w' := by
  obtain ⟨a, c, rfl, _⟩ := h.bs
  exact ⟨a, _, c, rfl, h, hb⟩

end Go.Proofs.Ytnmmopneacdgfaa

/-
  Slices of slices of bytes: what they hold, how many bytes in all. No condition; no statement of the seat is proved here.
-/
namespace Go.Proofs.Ytnmmopneacdgfaa
open Go.RowKit


/-- The slice (a, n, c) holds slices of the bytes ls. -/
def Bss (w : World) (a : Option Addr) (n c : Nat) (ls : List (List UInt8)) : Prop :=
  ls.length = n ∧ n ≤ c ∧ c ≤ maxLen ∧ ∀ i, i < n → ∃ b o p m q, a = some ⟨b, o, none⟩ ∧ w.cell? ⟨b, o + i, none⟩ = some (.slice p m q) ∧ Bs w p m q (ls.getD i [])

theorem Bss.len {w : World} {a : Option Addr} {n c : Nat} {l : List (List UInt8)} (h : Bss w a n c l) : l.length = n := h.1
theorem Bss.max {w : World} {a : Option Addr} {n c : Nat} {l : List (List UInt8)} (h : Bss w a n c l) : n ≤ 9223372036854775807 := by
  have h1 := h.2.1
  have h2 := h.2.2.1
  unfold maxLen at h2
  omega

theorem Bss.at {w : World} {a : Option Addr} {n c : Nat} {ls : List (List UInt8)} (h : Bss w a n c ls) (hn : 0 < n) :
    ∃ b o, a = some ⟨b, o, none⟩ ∧ b < w.heap.size ∧ ∀ i, i < n → ∃ p m q, w.cell? ⟨b, o + i, none⟩ = some (.slice p m q) ∧ Bs w p m q (ls.getD i []) := by
  obtain ⟨b, o, p, m, q, ha, hc, _⟩ := h.2.2.2 0 hn
  refine ⟨b, o, ha, lt_of_cell hc, fun i hi => ?_⟩
  obtain ⟨b', o', p', m', q', ha', hc', hb'⟩ := h.2.2.2 i hi
  rw [ha] at ha'
  simp at ha'
  obtain ⟨rfl, rfl⟩ := ha'
  exact ⟨p', m', q', hc', hb'⟩

theorem Bss.below {w w' : World} {a : Option Addr} {n c : Nat} {l : List (List UInt8)} (h : Bss w a n c l) {B : Nat} (hb : Below B w w') (hB : w.heap.size ≤ B) : Bss w' a n c l := by
  refine ⟨h.1, h.2.1, h.2.2.1, fun i hi => ?_⟩
  obtain ⟨b, o, p, m, q, ha, hc, hs⟩ := h.2.2.2 i hi
  refine ⟨b, o, p, m, q, ha, ?_, hs.below hb hB⟩
  rw [hb.cell (p := ⟨b, o + i, none⟩) (by have := lt_of_cell hc; simp at this ⊢; omega)]
  exact hc

/-- How many bytes in all. -/
def tot : List (List UInt8) → Nat
  | [] => 0
  | x :: r => x.length + tot r

theorem tot_snoc (l : List (List UInt8)) (x : List UInt8) : tot (l ++ [x]) = tot l + x.length := by
  induction l with
  | nil => simp [tot]
  | cons y r ih => simp [tot, ih]; omega

theorem tot_flatten (l : List (List UInt8)) : l.flatten.length = tot l := by
  induction l with
  | nil => rfl
  | cons y r ih => simp [tot, ← ih]

theorem takes_snoc {l : List (List UInt8)} {k : Nat} (h : k < l.length) : l.take (k + 1) = l.take k ++ [l.getD k []] := by
  rw [List.take_succ_eq_append_getElem h, List.getD_eq_getElem?_getD, List.getElem?_eq_getElem h]
  rfl

theorem tot_take_le (l : List (List UInt8)) (k : Nat) : tot (l.take k) ≤ tot l := by
  induction l generalizing k with
  | nil => simp
  | cons y r ih =>
    cases k with
    | zero => simp [tot]
    | succ k => simp [tot]; exact ih k

theorem tot_step {l : List (List UInt8)} {k m : Nat} (h : k < l.length) (hm : (l.getD k []).length = m) : (tot (l.take k) : Int) + (m : Int) = (tot (l.take (k + 1)) : Nat) := by
  rw [takes_snoc h, tot_snoc, hm]
  omega

/-- A part, asked for in the middle of a loop. -/
theorem Bss.part {w wr : World} {x o n : Nat} {ls : List (List UInt8)} (hc : ∀ i, i < n → ∃ p m q, w.cell? ⟨x, o + i, none⟩ = some (.slice p m q) ∧ Bs w p m q (ls.getD i [])) (hb : Below w.heap.size w wr) (k : Nat) (hk : k < n) :
    ∃ p m q, wr.cell? ⟨x, o + k, none⟩ = some (.slice p m q) ∧ Bs w p m q (ls.getD k []) := by
  obtain ⟨p, m, q, c1, h⟩ := hc k hk
  refine ⟨p, m, q, ?_, h⟩
  rw [hb.cell (p := ⟨x, o + k, none⟩) (lt_of_cell c1)]
  exact c1

theorem flat_step {l : List (List UInt8)} {k : Nat} (h : k < l.length) : (l.take k).flatten ++ l.getD k [] = (l.take (k + 1)).flatten := by
  rw [takes_snoc h]; simp
theorem flat_room {l : List (List UInt8)} {k : Nat} (h : k < l.length) (hz : tot l ≤ 100000) : (l.take k).flatten.length + (l.getD k []).length ≤ 1000000000 := by
  have := tot_take_le l (k + 1)
  rw [takes_snoc h, tot_snoc] at this
  rw [tot_flatten]
  omega
theorem flat_end {w : World} {base n k : Nat} {v : Value} {l : List (List UInt8)} (H : Hid (l.length = n)) (h : ¬ k < n) (ho : Own w base v (l.take k).flatten) : Own w base v l.flatten := by
  rw [List.take_of_length_le (by rw [H.out]; omega)] at ho
  exact ho

end Go.Proofs.Ytnmmopneacdgfaa

/-
  The contract of the reference's Join: parts, one behind the other. Condition: the parts have at most 100000 bytes in all.
-/
namespace Go.Proofs.Ytnmmopneacdgfaa
open Go.RowKit

end Go.Proofs.Ytnmmopneacdgfaa

/-
  The contracts of the program's total and Join: parts, one behind the other. Condition: the parts have at most 100000 bytes in all.
-/
namespace Go.Proofs.Ytnmmopneacdgfaa
open Go.RowKit

set_option maxHeartbeats 400000 in
theorem oTotal (w : World) {a : Option Addr} {n c : Nat} {ls : List (List UInt8)} (ha : Bss w a n c ls) (hz : tot ls ≤ 100000) :
    Calls Try.prog 71 #[.slice a n c] w fun e w' => e = .returned (.int .i64 (tot ls : Nat)) ∧ w = w' := by
  have h1 := ha.max
  by_cases h0 : n = 0
  · subst h0
    have e : ls = [] := List.length_eq_zero_iff.1 ha.len
    subst e
    clear ha
    go_enter Try.func71, Try.ntmps71
    go_wp2
    refine wp_loop_rounds 1 ?_; rw [rounds_succ]; go_wp2
    go_ret
    exact ⟨rfl, rfl⟩
  · obtain ⟨x, o, rfl, hx, hc⟩ := ha.at (by omega)
    have H : Hid (ls.length = n) := ha.len
    clear ha
    go_enter Try.func71, Try.ntmps71
    go_wp2
    go_loop [3, 8] (fun t i => ∃ k : Nat, k ≤ n ∧ i = .int .i64 k ∧ t = .int .i64 (tot (ls.take k) : Nat)) (fun _ i => n - (intOf i).toNat)
    case atStart => exact ⟨0, Nat.zero_le _, rfl, rfl⟩
    case round =>
      obtain ⟨k, hk, rfl, rfl⟩ := hrel
      by_cases hlt : k < n
      · obtain ⟨p, m, q, c1, hb⟩ := hc k hlt
        have b0 := tot_take_le ls (k + 1)
        have b1 := tot_step (by rw [H.out]; exact hlt) hb.len
        have B1 : Hid ((tot (ls.take k) : Int) + (m : Int) = (tot (ls.take (k + 1)) : Nat)) := b1
        have b2 : (tot (ls.take k) : Int) + (m : Int) ≤ 100000 := by omega
        clear hc b0 b1 hb
        go_wp2
        go_round
        case rel => exact ⟨k + 1, by omega, by go_num, by rw [B1.out]⟩
        case measure => simp [intOf]; omega
      · go_wp2
        go_ret
        exact ⟨ret_int (by rw [List.take_of_length_le (by rw [H.out]; omega)]), rfl⟩

set_option maxHeartbeats 400000 in
theorem oJoin (w : World) {a : Option Addr} {n c : Nat} {ls : List (List UInt8)} (ha : Bss w a n c ls) (hz : tot ls ≤ 100000) :
    Calls Try.prog 25 #[.slice a n c] w (Gives w ls.flatten) := by
  have h1 := ha.max
  have hT := oTotal w ha hz
  by_cases h0 : n = 0
  · subst h0
    have e : ls = [] := List.length_eq_zero_iff.1 ha.len
    subst e
    clear ha
    go_enter Try.func25, Try.ntmps25
    go_wp2_with (first | (go_at_call 71; refine hT.mono ?_; rintro e w' ⟨rfl, rfl⟩) | (at_make; refine wpList_mk0 _ rfl _ _ rfl _ _ rfl rfl (by omega) (by omega) (Nat.le_refl _) ?_; intro v1 w1 hown hbel))
    refine wp_loop_rounds 1 ?_; rw [rounds_succ]; go_wp2
    go_ret
    exact Gives.mk hown hbel
  · obtain ⟨x, o, rfl, hx, hc⟩ := ha.at (by omega)
    have H : Hid (ls.length = n) := ha.len
    clear ha
    go_enter Try.func25, Try.ntmps25
    go_wp2_with (first | (go_at_call 71; refine hT.mono ?_; rintro e w' ⟨rfl, rfl⟩) | (at_make; refine wpList_mk0 _ rfl _ _ rfl _ _ rfl rfl (by omega) (by omega) (Nat.le_refl _) ?_; intro v1 w1 hown hbel))
    clear hT
    go_loopw [3, 11] (fun v i wr => ∃ k : Nat, k ≤ n ∧ i = .int .i64 k ∧ Own wr w.heap.size v (ls.take k).flatten ∧ Below w.heap.size w wr) (fun _ i _ => n - (intOf i).toNat)
    case atStart => exact ⟨0, Nat.zero_le _, rfl, hown, hbel⟩
    case round =>
      obtain ⟨k, hk, rfl, ho, hb⟩ := hrel
      clear hown hbel
      by_cases hlt : k < n
      · obtain ⟨p, m, q, c1, hp⟩ := Bss.part hc hb k hlt
        have hr := flat_room (by rw [H.out]; exact hlt) hz
        have hs := hb.size
        have HS : Hid ((ls.take k).flatten ++ ls.getD k [] = (ls.take (k + 1)).flatten) := flat_step (by rw [H.out]; exact hlt)
        go_wp2_with (at_builtin; refine wpList_app _ rfl _ _ rfl w.heap.size _ _ rfl ho _ _ _ _ rfl (hp.below hb (Nat.le_refl _)) hr hs ?_; intro v2 w2 ho2 hb2)
        go_roundw
        case rel => exact ⟨k + 1, by omega, by go_num, by rw [← HS.out]; exact ho2, hb.trans hb2⟩
        case measure => simp [intOf]; omega
      · go_wp2
        go_ret
        exact Gives.mk (flat_end H hlt ho) hb

end Go.Proofs.Ytnmmopneacdgfaa

/-
  The contract of the program's Put: the lowest bytes of a number, the highest first, in memory of the call's own. Conditions: the number fits 64 bits; the size is at most 1000000.
-/
namespace Go.Proofs.Ytnmmopneacdgfaa
open Go.RowKit

theorem put_start {n m : Nat} {w : World} {base : Nat} {L : List UInt8} (e : L = putL n m) {v : Value} (h : Own w base v L) : Own w base v (putL n m) := by rw [← e]; exact h

/-- One byte more, from behind. -/
theorem put_more {n m t q : Nat} (ht : t < m) (hq : q = n / 256 ^ t) : (List.replicate (m - t) 0 ++ putL n t).set (m - 1 - t) (UInt8.ofNat q) = List.replicate (m - (t + 1)) 0 ++ putL n (t + 1) := by
  rw [putL_cons, hq]
  obtain ⟨d, rfl⟩ : ∃ d, m = d + 1 + t := ⟨m - 1 - t, by omega⟩
  rw [show d + 1 + t - t = d + 1 from by omega, show d + 1 + t - 1 - t = d from by omega, show d + 1 + t - (t + 1) = d from by omega, List.replicate_succ', List.append_assoc]
  rw [List.set_append_right _ _ (by simp)]
  simp

theorem put_div {n t q : Nat} (H : Hid (q = n / 256 ^ t)) : (q : Int) / 256 = ((n / 256 ^ (t + 1) : Nat) : Int) := by
  rw [H.out, Nat.pow_succ, ← Nat.div_div_eq_div_mul]
  omega
theorem put_done {n m t : Nat} (ht : t ≤ m) (H : Hid (0 = n / 256 ^ t)) : List.replicate (m - t) 0 ++ putL n t = putL n m := by
  rw [putL_rest t (m - t) n H.out.symm, show m - t + t = m from by omega]
theorem put_full {n m t : Nat} (ht : t ≤ m) (h : ¬ t < m) : List.replicate (m - t) 0 ++ putL n t = putL n m := by
  have : t = m := by omega
  subst this
  simp

set_option maxHeartbeats 400000 in
theorem oPut (n s : Int) (w : World) (hs : s ≤ 1000000) (hn0 : 0 ≤ n) (hn : n ≤ 18446744073709551615) (hlo : -9223372036854775808 ≤ s) :
    Calls Try.prog 26 #[.int .u64 n, .int .i64 s] w (Gives w (putL n.toNat s.toNat)) := by
  by_cases h1 : s < 1
  · have e : s.toNat = 0 := by omega
    rw [e]
    clear e
    go_enter Try.func26, Try.ntmps26
    go_wp2
    go_ret
    exact Gives.mk (Own.nil _ _) (Below.refl _ _)
  · obtain ⟨m, rfl⟩ : ∃ m : Nat, s = m := ⟨s.toNat, by omega⟩
    obtain ⟨n, rfl⟩ : ∃ q : Nat, n = q := ⟨n.toNat, by omega⟩
    rw [Int.toNat_natCast, Int.toNat_natCast]
    have h2 : ¬ (2147483647 : Int) < m := by omega
    go_enter Try.func26, Try.ntmps26
    go_wp2_with (at_make; refine wpList_mkn _ rfl _ _ rfl w.heap.size m _ rfl rfl rfl (by omega) (Nat.le_refl _) ?_; intro g w1 hg hgl hown hbel)
    go_loopw [0, 6] (fun q i wr => ∃ t : Nat, t ≤ m ∧ i = .int .i64 ((m : Int) - 1 - t) ∧ q = .int .u64 ((n / 256 ^ t : Nat) : Int) ∧ Own wr w.heap.size (.slice (some ⟨g, 0, none⟩) m m) (List.replicate (m - t) 0 ++ putL n t) ∧ Below w.heap.size w wr) (fun _ i _ => (intOf i + 1).toNat)
    case atStart => exact ⟨0, Nat.zero_le _, by simp, by simp, by simpa [putL] using hown, hbel⟩
    case round =>
      obtain ⟨t, ht, rfl, rfl, ho, hb⟩ := hrel
      clear hown hbel
      have ex : ∃ q, q = n / 256 ^ t := ⟨_, rfl⟩
      obtain ⟨q, hq⟩ := ex
      rw [← hq]
      have Hq : Hid (q = n / 256 ^ t) := hq
      have hqm : q ≤ 18446744073709551615 := by rw [hq]; exact Nat.le_trans (Nat.div_le_self _ _) (by omega)
      clear hq
      by_cases hc : t < m ∧ 0 < q
      · obtain ⟨h3, h4⟩ := hc
        have i1 : (m : Int) - 1 - t = ((m - 1 - t : Nat) : Int) := by omega
        rw [i1]
        have hlen : (List.replicate (m - t) (0 : UInt8) ++ putL n t).length = m := by rw [List.length_append, putL_length, List.length_replicate]; omega
        obtain ⟨v0, hcell⟩ := ho.cell hlen (m - 1 - t) (by omega)
        have hfr := ho.free hlen (m - 1 - t)
        have ho2 := ho.set hlen (m - 1 - t) (UInt8.ofNat q)
        have hb2 := hb.setCell (p := ⟨g, m - 1 - t, none⟩) hg (.int .u8 ((UInt8.ofNat q).toNat : Int))
        rw [put_more h3 Hq.out] at ho2
        have hu : (((UInt8.ofNat q).toNat : Nat) : Int) = (q : Int) % 256 := by rw [UInt8.toNat_ofNat']; omega
        rw [hu] at ho2 hb2
        have HO : Hid (Own (wr.setCell ⟨g, m - 1 - t, none⟩ (.int .u8 ((q : Int) % 256))) w.heap.size (.slice (some ⟨g, 0, none⟩) m m) (List.replicate (m - (t + 1)) 0 ++ putL n (t + 1))) := ho2
        have HB : Hid (Below w.heap.size w (wr.setCell ⟨g, m - 1 - t, none⟩ (.int .u8 ((q : Int) % 256)))) := hb2
        have h5 : (0 : Int) < q := by omega
        have h6 : (0 : Int) ≤ ((m - 1 - t : Nat) : Int) := by omega
        have h7 : ((m - 1 - t : Nat) : Int) < m := by omega
        clear ho2 hb2 hu hlen ho hb
        go_wp2
        go_roundw
        case rel => exact ⟨t + 1, by omega, by rw [show ((m - 1 - t : Nat) : Int) - 1 = (m : Int) - 1 - ((t + 1 : Nat) : Int) from by omega], by rw [put_div Hq], HO.out, HB.out⟩
        case measure => simp [intOf]
      · by_cases h3 : t < m
        · have h4 : q = 0 := by omega
          subst h4
          have h6 : (0 : Int) ≤ (m : Int) - 1 - t := by omega
          go_wp2
          go_ret
          exact Gives.mk (put_start (put_done ht Hq) ho) hb
        · go_wp2
          go_ret
          exact Gives.mk (put_start (put_full ht h3) ho) hb
end Go.Proofs.Ytnmmopneacdgfaa
