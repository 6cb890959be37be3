/-
  8 texts in one. No statement of the seat is proved here.
-/
import Derived.Test.YtlenmkhmkommcaaGreatG4
import Derived.Deep.Matrix
/-
  Two like rows held against each other. No condition; no statement of the seat is proved here.
-/
namespace Go.Proofs.YtlenmkhmkommcaaGreat
open Go.RowKit

end Go.Proofs.YtlenmkhmkommcaaGreat

/-
  The contract of layer 9's reference's Touches: whether what was seen is the same. Conditions: lists of at most a million.
-/
namespace Go.Proofs.YtlenmkhmkommcaaGreat
open Go.RowKit
set_option linter.unusedVariables false

theorem Sl.touch {A : Nat → Prop} {w : World} {a : Option Addr} {n c : Nat} {l : List Tch} (h : Sl (elT A) 3 A w a n c l) {s : Nat} {x : Tch} (hx : l[s]? = some x) : ∃ b o p m q, a = some ⟨b, o, none⟩ ∧ b < w.heap.size ∧ w.cell? ⟨b, o + s * 3, none⟩ = some (.int .i64 x.1) ∧ w.cell? ⟨b, o + s * 3 + 1, none⟩ = some (.int .i64 x.2.1) ∧ w.cell? ⟨b, o + s * 3 + 2, none⟩ = some (.slice p m q) ∧ Bs w p m q x.2.2 := by
  obtain ⟨b, o, vs, ha, hlt, hrg, hl, p, m, q, rfl, hb, hi⟩ := h.at hx
  exact ⟨b, o, p, m, q, ha, hlt, by have := hrg 0 _ rfl; rwa [Nat.add_zero] at this, hrg 1 _ rfl, hrg 2 _ rfl, hb.bs⟩
theorem take_more {α : Type} {l m : List α} {k : Nat} {x y : α} (h : l.take k = m.take k) (hx : l[k]? = some x) (hy : m[k]? = some y) (e : x = y) : l.take (k + 1) = m.take (k + 1) := by rw [List.take_add_one, List.take_add_one, hx, hy, h, e]

end Go.Proofs.YtlenmkhmkommcaaGreat

/-
  How an argument that is a slice of bytes is opened into a plain list. No condition; no statement of the seat is proved here.
-/
namespace Go.Proofs.YtlenmkhmkommcaaGreat
open Go.RowKit Go.ChangeShapes Go.WideShapes Go.ChangeAt

theorem Bs.of_trod {H : Type} {enc : TypeId × Value → H} {W : World} {base : Nat} {held : Bool} {fuel : Nat} {a : Option Addr} {n c : Nat} {x : DataW H × List MemPlace}
    (h : DataW.trod enc Tryz.prog W base (fun _ => true) held fuel 26 [.slice a n c] = some x) : ∃ l, Bs W a n c l := by
  rcases open_ints Tryz.underlying26 Tryz.underlying5 (by kernel_rfl) h with ⟨hcs, _⟩ | ⟨x, l, c, zs, hcs, _, hl, hm, hz, _, hcell, hwz⟩
  · simp at hcs
    obtain ⟨rfl, rfl, rfl⟩ := hcs
    exact ⟨[], Bs.nil W⟩
  · simp at hcs
    obtain ⟨rfl, rfl, rfl⟩ := hcs
    exact Bs.of_row (zs := zs) (Or.inr ⟨_, rfl, hl, hm, by simpa using hz, hcell, hwz⟩)

end Go.Proofs.YtlenmkhmkommcaaGreat

/-
  How slices of structs and bytes that were handed in are opened. No condition; no statement of the seat is proved here.
-/
namespace Go.Proofs.YtlenmkhmkommcaaGreat
open Go.RowKit Go.ChangeShapes Go.WideShapes Go.ChangeAt

theorem Rel2.map {α β : Type} {R : α → β → Prop} {f : Nat → α} {g : Nat → β} : ∀ {L : List Nat}, (∀ i ∈ L, R (f i) (g i)) → Rel2 R (L.map f) (L.map g)
  | [], _ => trivial
  | a :: L, h => ⟨h a (by simp), Rel2.map fun i hi => h i (by simp [hi])⟩
theorem len_cons {l : List Value} {n : Nat} (h : l.length = n + 1) : ∃ a m, l = a :: m ∧ m.length = n := by
  cases l with
  | nil => simp at h
  | cons a m => exact ⟨a, m, rfl, by simpa using h⟩
theorem len_zero {l : List Value} (h : l.length = 0) : l = [] := List.length_eq_zero_iff.1 h
/-- Rows in memory, each of them a struct, are a slice of structs. -/
theorem Sl.of_rows {α : Type} (z0 : α) {el : World → α → List Value → Prop} {sz : Nat} {A : Nat → Prop} {W : World} {base : Nat} {y : Addr} {n c : Nat} (hsz : 0 < sz) (hl : n ≤ c) (hm : c ≤ maxLen) (hA : ∀ j, j < W.heap.size → A j)
    (hrow : ∀ i, i < n → ∃ cs', W.cells? base (y.add (i * sz)) sz = some cs' ∧ ∃ x, Row el sz W x cs') : ∃ l, Sl el sz A W (some y) n c l := by
  haveI : Inhabited α := ⟨z0⟩
  have hex : ∀ i, i < n → ∃ z : α × List Value, W.cells? base (y.add (i * sz)) sz = some z.2 ∧ Row el sz W z.1 z.2 := by
    intro i hi
    obtain ⟨cs', h1, x, h2⟩ := hrow i hi
    exact ⟨(x, cs'), h1, h2⟩
  obtain ⟨f, hf⟩ := Deep.choose_lt hex
  have hrel : Rel2 (Row el sz W) ((List.range n).map fun i => (f i).1) ((List.range n).map fun i => (f i).2) := Rel2.map fun i hi => (hf i (by simpa using hi)).2
  refine ⟨(List.range n).map fun i => (f i).1, (List.range n).map fun i => (f i).2, hrel, by simp, hl, hm, by simp, fun hn => ?_⟩
  obtain ⟨b, o, s⟩ := y
  have h00 := (hf 0 hn).1
  obtain ⟨_, hlen0, h0⟩ := World.cells?_some h00
  have hc0 := h0 0 hsz
  have hlt : 0 < (f 0).2.length := by omega
  rw [List.getElem?_eq_getElem hlt] at hc0
  have hs : s = none := by
    have := World.cell?_spot hc0
    simpa [Addr.add] using this
  subst hs
  rw [add_none, add_none] at hc0
  refine ⟨b, o, rfl, lt_of_cell hc0, hA _ (lt_of_cell hc0), ?_⟩
  intro j v hj
  have hflen := flatC_len (rel_lens hrel)
  have hjl : j < n * sz := by
    have := (List.getElem?_eq_some_iff.1 hj).1
    rw [hflen] at this
    simpa using this
  have hi : j / sz < n := (Nat.div_lt_iff_lt_mul hsz).2 hjl
  have hr : j % sz < sz := Nat.mod_lt _ hsz
  have hdm : j / sz * sz + j % sz = j := by rw [Nat.mul_comm]; exact Nat.div_add_mod j sz
  have hfl := flat_at (rel_lens hrel) (i := j / sz) (vs := (f (j / sz)).2) (by simp [hi]) (j % sz) hr
  rw [hdm, hj] at hfl
  obtain ⟨_, _, hcell⟩ := World.cells?_some (hf (j / sz) hi).1
  have hc := hcell (j % sz) hr
  rw [add_none, add_none, ← hfl, Nat.add_assoc, hdm] at hc
  exact hc

theorem BA.of_trod {H : Type} {enc : TypeId × Value → H} {W : World} {base : Nat} {held : Bool} {fuel : Nat} {a : Option Addr} {n c : Nat} {x : DataW H × List MemPlace} {A : Nat → Prop} (hA : ∀ j, j < W.heap.size → A j)
    (h : DataW.trod enc Tryz.prog W base (fun _ => true) held fuel 26 [.slice a n c] = some x) : ∃ l, BA A W a n c l := by
  obtain ⟨l, hb⟩ := Bs.of_trod h
  refine ⟨l, hb, fun hn => ?_⟩
  obtain ⟨b, o, ha, hlt, _⟩ := hb.at hn
  exact ⟨_, ha, hA _ hlt, hlt⟩
/-- A slice in a field. -/
theorem slice_of_trod {H : Type} {enc : TypeId × Value → H} {W : World} {base : Nat} {held : Bool} {fuel : Nat} {t e : TypeId} {v : Value} {x : DataW H × List MemPlace} (ht : Tryz.prog.underlying t = some (.slice e))
    (h : DataW.trod enc Tryz.prog W base (fun _ => true) held fuel t [v] = some x) : ∃ a n c, v = .slice a n c := by
  rcases Deep.open_slice ht h with ⟨hcs, _⟩ | ⟨y, len, cap, m, n', D, Pl, hcs, _⟩
  · simp at hcs
    exact ⟨_, _, _, hcs⟩
  · simp at hcs
    exact ⟨_, _, _, hcs⟩

end Go.Proofs.YtlenmkhmkommcaaGreat

/-
  How the arguments of layer 9's laws are opened: slices of pokes, of acts (eleven cells each), of bools. No condition; no statement of the seat is proved here.
-/
namespace Go.Proofs.YtlenmkhmkommcaaGreat
open Go.RowKit Go.ChangeShapes Go.WideShapes Go.ChangeAt

/-- The bools l in a block of those in A. -/
def BoA (A : Nat → Prop) (w : World) (a : Option Addr) (n c : Nat) (l : List Bool) : Prop := Bo w a n c l ∧ (0 < n → ∃ x, a = some x ∧ A x.block ∧ x.block < w.heap.size)
theorem BoA.keep {A : Nat → Prop} {w w' : World} {a : Option Addr} {n c : Nat} {l : List Bool} (h : BoA A w a n c l) (hs : w.heap.size ≤ w'.heap.size) (hk : ∀ j, j < w.heap.size → A j → w'.heap[j]? = w.heap[j]?) : BoA A w' a n c l := by
  obtain ⟨⟨h1, h2, h3, h4, h5⟩, h6⟩ := h
  refine ⟨⟨h1, h2, h3, h4, fun i hi => ?_⟩, fun hn => ?_⟩
  · obtain ⟨x, hx, hax, hlt⟩ := h6 (by omega)
    obtain ⟨b, o, ha, hc⟩ := h5 i hi
    rw [hx] at ha
    obtain rfl := Option.some.inj ha
    refine ⟨b, o, hx, ?_⟩
    rw [World.cell?_of_block (w := w) (hk b hlt hax)]
    exact hc
  · obtain ⟨x, hx, hax, hlt⟩ := h6 hn
    exact ⟨x, hx, hax, by omega⟩
theorem BoA.kp {A F : Nat → Prop} {w w' : World} {a : Option Addr} {n c : Nat} {l : List Bool} (h : BoA A w a n c l) (k : Kp F w w') (hA : ∀ j, A j → ¬ F j) : BoA A w' a n c l :=
  h.keep k.size fun j hj ha => k.block j hj (hA j ha)
theorem BoA.of_trod {H : Type} {enc : TypeId × Value → H} {W : World} {base : Nat} {held : Bool} {fuel : Nat} {a : Option Addr} {n c : Nat} {x : DataW H × List MemPlace} {A : Nat → Prop} (hA : ∀ j, j < W.heap.size → A j)
    (h : DataW.trod enc Tryz.prog W base (fun _ => true) held fuel 23 [.slice a n c] = some x) : ∃ l, BoA A W a n c l := by
  rcases Deep.open_slice1 Tryz.underlying23 (by kernel_rfl) h with ⟨hcs, _⟩ | ⟨y, len, cap, m, n', V, D, Pl, hcs, _, hl, hm, hmm, _, hrow⟩
  · simp at hcs
    obtain ⟨rfl, rfl, rfl⟩ := hcs
    exact ⟨[], ⟨rfl, Nat.le_refl _, Nat.zero_le _, fun _ => rfl, fun i hi => by omega⟩, fun hn => by omega⟩
  · simp at hcs
    obtain ⟨rfl, rfl, rfl⟩ := hcs
    simp at hmm
    subst hmm
    have hex : ∀ i, i < n → ∃ z : Bool, W.cell? (y.add i) = some (.bool z) := by
      intro i hi
      obtain ⟨h1, h2⟩ := hrow i (by omega)
      obtain ⟨z, e, _⟩ := DataW.trod_bool Tryz.underlying4 h2
      simp at e
      exact ⟨z, by rw [h1, e]⟩
    obtain ⟨f, hf⟩ := Deep.choose_lt hex
    obtain ⟨b, o, s⟩ := y
    refine ⟨(List.range n).map f, ⟨by simp, hl, hm, by simp, fun i hi => ?_⟩, fun hn => ?_⟩
    · have hs : s = none := by simpa [Addr.add] using World.cell?_spot (hf 0 (by omega))
      subst hs
      have hc := hf i hi
      rw [add_none] at hc
      have e : ((List.range n).map f).getD i false = f i := by simp [List.getD_eq_getElem?_getD, hi]
      exact ⟨b, o, rfl, by rw [e]; exact hc⟩
    · have hs : s = none := by simpa [Addr.add] using World.cell?_spot (hf 0 hn)
      subst hs
      have hc := hf 0 hn
      rw [add_none] at hc
      exact ⟨_, rfl, hA _ (lt_of_cell hc), lt_of_cell hc⟩
theorem poke_of_trod {H : Type} {enc : TypeId × Value → H} {W : World} {base : Nat} {held : Bool} {fuel : Nat} {cs : List Value} {x : DataW H × List MemPlace} {A : Nat → Prop} (hA : ∀ j, j < W.heap.size → A j)
    (h : DataW.trod enc Tryz.prog W base (fun _ => true) held fuel 28 cs = some x) : ∃ p, Row (elP A) 5 W p cs := by
  obtain ⟨xs, n, rfl, rfl, hl, hx, hf⟩ := DataW.trod_struct Tryz.underlying28 h
  have c3 : Tryz.prog.cellsOf 3 = 1 := by kernel_rfl
  have c6 : Tryz.prog.cellsOf 26 = 1 := by kernel_rfl
  have cP : Tryz.prog.cellsOf 28 = 5 := by kernel_rfl
  rw [cP] at hl
  obtain ⟨v0, cs0, rfl, hl0⟩ := len_cons hl
  obtain ⟨v1, cs1, rfl, hl1⟩ := len_cons hl0
  obtain ⟨v2, cs2, rfl, hl2⟩ := len_cons hl1
  obtain ⟨v3, cs3, rfl, hl3⟩ := len_cons hl2
  obtain ⟨v4, cs4, rfl, hl4⟩ := len_cons hl3
  obtain rfl := len_zero hl4
  have f0 : DataW.trod enc Tryz.prog W base (fun _ => true) held n 3 (List.take (Tryz.prog.cellsOf 3) (List.drop 0 [v0, v1, v2, v3, v4])) = xs[0]? := hf 0 _ rfl
  have f1 : DataW.trod enc Tryz.prog W base (fun _ => true) held n 3 (List.take (Tryz.prog.cellsOf 3) (List.drop 1 [v0, v1, v2, v3, v4])) = xs[1]? := hf 1 _ rfl
  have f2 : DataW.trod enc Tryz.prog W base (fun _ => true) held n 3 (List.take (Tryz.prog.cellsOf 3) (List.drop 2 [v0, v1, v2, v3, v4])) = xs[2]? := hf 2 _ rfl
  have f3 : DataW.trod enc Tryz.prog W base (fun _ => true) held n 26 (List.take (Tryz.prog.cellsOf 26) (List.drop 3 [v0, v1, v2, v3, v4])) = xs[3]? := hf 3 _ rfl
  have f4 : DataW.trod enc Tryz.prog W base (fun _ => true) held n 3 (List.take (Tryz.prog.cellsOf 3) (List.drop 4 [v0, v1, v2, v3, v4])) = xs[4]? := hf 4 _ rfl
  have hx5 : xs.length = 5 := hx
  rw [c3] at f0 f1 f2 f4
  rw [c6] at f3
  rw [List.getElem?_eq_getElem (by omega)] at f0 f1 f2 f3 f4
  obtain ⟨p, e0, _, w0⟩ := DataW.trod_int Tryz.underlying3 f0
  obtain ⟨q, e1, _, w1⟩ := DataW.trod_int Tryz.underlying3 f1
  obtain ⟨r, e2, _, w2⟩ := DataW.trod_int Tryz.underlying3 f2
  obtain ⟨z, e4, _, w4⟩ := DataW.trod_int Tryz.underlying3 f4
  simp only [List.drop_succ_cons, List.drop_zero, List.take_succ_cons, List.take_zero] at f3
  obtain ⟨a, m, c, rfl⟩ := slice_of_trod Tryz.underlying26 f3
  obtain ⟨l, hb⟩ := BA.of_trod hA f3
  simp at e0 e1 e2 e4
  subst e0 e1 e2 e4
  refine ⟨⟨p, q, r, l, z⟩, rfl, ?_, a, m, c, rfl, hb, bounds_i64 w0, bounds_i64 w1, bounds_i64 w2, bounds_i64 w4⟩
  intro u hu
  simp only [List.mem_cons, List.not_mem_nil, or_false] at hu
  rcases hu with rfl | rfl | rfl | rfl | rfl <;> rfl
theorem Pokes.of_trod {H : Type} {enc : TypeId × Value → H} {W : World} {base : Nat} {held : Bool} {fuel : Nat} {a : Option Addr} {n c : Nat} {x : DataW H × List MemPlace} {A : Nat → Prop} (hA : ∀ j, j < W.heap.size → A j)
    (h : DataW.trod enc Tryz.prog W base (fun _ => true) held fuel 24 [.slice a n c] = some x) : ∃ l, Sl (elP A) 5 A W a n c l := by
  rcases Deep.open_slice Tryz.underlying24 h with ⟨hcs, _⟩ | ⟨y, len, cap, m, n', D, Pl, hcs, _, hl, hm, hmm, _, hrow⟩
  · simp at hcs
    obtain ⟨rfl, rfl, rfl⟩ := hcs
    exact ⟨[], Sl.nil _ _ _ _⟩
  · simp at hcs
    obtain ⟨rfl, rfl, rfl⟩ := hcs
    have cP : Tryz.prog.cellsOf 28 = 5 := by kernel_rfl
    rw [cP] at hrow
    simp at hmm
    subst hmm
    refine Sl.of_rows (⟨0, 0, 0, [], 0⟩ : Pok) (base := base) (by omega) hl hm hA fun i hi => ?_
    obtain ⟨cs', h1, h2⟩ := hrow i (by omega)
    exact ⟨cs', h1, poke_of_trod hA h2⟩

/-- An act. -/
structure OpS where
  kind : Int
  at_ : Int
  c : UInt8
  x : Pok
  n : Int
  done : Bool
  keep : List Bool
def oc (o : OpS) (p : Option Addr) (m q : Nat) (a : Option Addr) (k c : Nat) : List Value :=
  [.int .i64 o.kind, .int .i64 o.at_, .int .u8 o.c.toNat, .int .i64 o.x.on, .int .i64 o.x.at_, .int .i64 o.x.kind, .slice p m q, .int .i64 o.x.num, .int .i64 o.n, .bool o.done, .slice a k c]
def elO (A : Nat → Prop) (w : World) (o : OpS) (vs : List Value) : Prop :=
  ∃ p m q a k c, vs = oc o p m q a k c ∧ BA A w p m q o.x.bytes ∧ BoA A w a k c o.keep ∧ i64 o.kind ∧ i64 o.at_ ∧ i64 o.x.on ∧ i64 o.x.at_ ∧ i64 o.x.kind ∧ i64 o.x.num ∧ i64 o.n
theorem elO.keep {A : Nat → Prop} {w w' : World} {o : OpS} {vs : List Value} (h : elO A w o vs) (hs : w.heap.size ≤ w'.heap.size) (hk : ∀ j, j < w.heap.size → A j → w'.heap[j]? = w.heap[j]?) : elO A w' o vs := by
  obtain ⟨p, m, q, a, k, c, e, h1, h2, r⟩ := h
  exact ⟨p, m, q, a, k, c, e, h1.keep hs hk, h2.keep hs hk, r⟩
end Go.Proofs.YtlenmkhmkommcaaGreat

/-
  What layer 9's statements do themselves: Fill (a block of like bytes) and light (how much is waited for). Conditions: none.
-/
namespace Go.Proofs.YtlenmkhmkommcaaGreat
open Go.RowKit

/-- A block of like bytes. -/
def like (c : UInt8) : List UInt8 := List.replicate 512 c
theorem like_length (c : UInt8) : (like c).length = 512 := List.length_replicate
theorem like_get {c : UInt8} {k : Nat} (h : k < 512) : (like c).getD k 0 = c := by rw [List.getD_eq_getElem?_getD, like, List.getElem?_replicate, if_pos h]; rfl
/-- What Fill answers. -/
def Fills (w : World) (l : List UInt8) (e : Ending) (w' : World) : Prop := ∃ g, e = .returned (.slice (some ⟨g, 0, none⟩) 512 512) ∧ w.heap.size ≤ g ∧ B5 (fun j => w.heap.size ≤ j) w' (some ⟨g, 0, none⟩) 512 512 l ∧ Below w.heap.size w w'

set_option maxRecDepth 100000 in
set_option maxHeartbeats 1000000 in
theorem lFill (w : World) (y : UInt8) : Calls Tryz.prog 35 #[.int .u8 (y.toNat : Int)] w (Fills w (like y)) := by
  have HL : Hid ((like y).length = 512) := like_length y
  have HG : Hid (∀ k, k < 512 → (like y).getD k 0 = y) := fun k hk => like_get hk
  obtain ⟨b, hb0⟩ : ∃ b, b = like y := ⟨_, rfl⟩
  rw [← hb0] at HL HG ⊢
  clear hb0
  go_enter Tryz.func35, Tryz.ntmps35
  go_wp2_with (at_make; go_must (refine wpList_mkn _ rfl _ _ rfl w.heap.size 512 512 rfl rfl rfl (by omega) (Nat.le_refl _) ?_); intro g w1 hg hgl hown hbel)
  go_loopw [4] (fun i wr => ∃ k : Nat, k ≤ 512 ∧ i = .int .i64 (k : Int) ∧ Own wr w.heap.size (.slice (some ⟨g, 0, none⟩) 512 512) (b.take k ++ List.replicate (512 - k) 0) ∧ Below w.heap.size w wr) (fun i _ => 512 - (intOf i).toNat)
  case atStart => exact ⟨0, by omega, rfl, by simpa using hown, hbel⟩
  case round =>
    clear hown hbel
    obtain ⟨k, hk, rfl, ho, hb⟩ := hrel
    by_cases h1 : k < 512
    · have i1 : (k : Int) < 512 := by omega
      have hlen : (b.take k ++ List.replicate (512 - k) 0).length = 512 := by have := HL.out; simp; omega
      obtain ⟨u, hu⟩ := ho.cell hlen k h1
      have hfz := ho.free hlen k
      have hst := ho.set hlen k y
      rw [show y = b.getD k 0 from (HG.out k h1).symm, fit_set h1 (by rw [HL.out]; exact h1), HG.out k h1] at hst
      go_wp2_with fail
      go_roundw
      case rel => exact ⟨k + 1, by omega, by go_num, hst, hb.setCell (p := ⟨g, k, none⟩) hg _⟩
      case measure => simp [intOf]; omega
    · have i1 : ¬ (k : Int) < 512 := by omega
      have hk' : k = 512 := by omega
      subst hk'
      go_wp2_with fail
      go_ret
      have e : b.take 512 ++ List.replicate (512 - 512) 0 = b := by
        have := HL.out
        rw [List.take_of_length_le (by omega)]
        simp
      rw [e] at ho
      exact ⟨g, rfl, hg, ho.b5 (A := fun j => w.heap.size ≤ j) (fun j hj _ => hj), hb⟩
/-- All but the first byte. -/
theorem B5.tail {A : Nat → Prop} {w : World} {g : Nat} {l : List UInt8} (h : B5 A w (some ⟨g, 0, none⟩) 512 512 l) : B5 A w (some ⟨g, 1, none⟩) 511 511 l.tail := by
  obtain ⟨⟨h1, h2, h3, h4, h5⟩, h6⟩ := h
  refine ⟨⟨by simp [h1], Nat.le_refl _, by unfold maxLen; omega, by simp, fun i hi => ?_⟩, fun _ => ?_⟩
  · obtain ⟨b, o, e, hc⟩ := h5 (i + 1) (by omega)
    simp only [Option.some.injEq, Addr.mk.injEq] at e
    obtain ⟨rfl, rfl, _⟩ := e
    refine ⟨g, 1, rfl, ?_⟩
    rw [show 0 + (i + 1) = 1 + i from by omega] at hc
    rw [hc]
    cases l with
    | nil => simp at h1
    | cons a l => rfl
  · obtain ⟨x, cur, f, e, ha, hb⟩ := h6 (by omega)
    obtain rfl := Option.some.inj e
    exact ⟨⟨g, 1, none⟩, cur, f, rfl, ha, hb⟩

/-- The i-th act. -/
theorem Sl.act {A : Nat → Prop} {w : World} {a : Option Addr} {n c : Nat} {l : List OpS} (h : Sl (elO A) 11 A w a n c l) {s : Nat} {x : OpS} (hx : l[s]? = some x) :
    ∃ b o p m q ka kn kc, a = some ⟨b, o, none⟩ ∧ b < w.heap.size ∧ w.rangeAt b (o + s * 11) (oc x p m q ka kn kc) ∧ BA A w p m q x.x.bytes ∧ BoA A w ka kn kc x.keep ∧ i64 x.kind ∧ i64 x.at_ ∧ i64 x.x.on ∧ i64 x.x.at_ ∧ i64 x.x.kind ∧ i64 x.x.num ∧ i64 x.n := by
  obtain ⟨b, o, vs, ha, hlt, hrg, hl, p, m, q, ka, kn, kc, rfl, r⟩ := h.at hx
  exact ⟨b, o, p, m, q, ka, kn, kc, ha, hlt, hrg, r⟩
/-- Acts that are waited for. -/
def OpS.light (o : OpS) : Prop := o.keep.length ≤ 60 ∧ o.x.bytes.length ≤ 1000
/-- What light answers. -/
def Lights (w : World) (n : Nat) (l : List OpS) (e : Ending) (w' : World) : Prop := ∃ v, e = .returned (.bool v) ∧ (v = true → n ≤ 40 ∧ ∀ o ∈ l, o.light) ∧ ∃ k, w' = w.drewN k

end Go.Proofs.YtlenmkhmkommcaaGreat

/-
  Plain mathematics of layer 9: how much an act may grow a disk. No condition; nothing of the program.
-/
namespace Go.Proofs.YtlenmkhmkommcaaGreat
open Go.RowKit

def OpS.block (o : OpS) : List UInt8 := if o.n.tmod 9 = 4 then (like o.c).tail else like o.c
def DskS.act (D : DskS) (o : OpS) : DskS :=
  if o.kind = 0 then (D.read o.at_).1 else if o.kind = 1 then (D.write o.at_ o.block).1 else if o.kind = 2 then D.flushed else if o.kind = 3 then D.poke o.x
  else if o.kind = 4 then { D with p := D.p.set o.n o.done } else if o.kind = 5 then { D.crash o.keep with p := D.p.back } else D
theorem DskS.fit.a_mono {D : DskS} {m n : Nat} (h : D.fit m) (hm : m ≤ n) : D.fit n :=
  ⟨PowS.fit_mono h.p hm, h.n, by have := h.safe; omega, by have := h.loose; omega, by have := h.seen; omega, h.plot, by have := h.steps; omega⟩
theorem DskS.fit_new {n : Int} (hn : 1 ≤ n ∧ n ≤ 4096) : (DskS.new PowS.new n).fit 0 := ⟨PowS.fit_new, hn, Nat.le_refl _, Nat.le_refl _, Nat.le_refl _, Nat.zero_le _, Nat.le_refl _⟩
theorem DskS.fit.a_tick {D : DskS} {m : Nat} (h : D.fit m) : D.tick.fit (m + 1) := by
  obtain ⟨a1, a2, a3, a4, a5⟩ := tick_len D
  have h1 := h.safe
  have h2 := h.loose
  have h3 := h.seen
  have h4 := h.plot
  have h5 := h.steps
  refine ⟨PowS.fit_next h.p, by rw [a3]; exact h.n, by omega, by omega, by rw [a4]; omega, by rw [a5]; exact h4, ?_⟩
  show (if D.p.down then D.steps else D.steps + 1) ≤ m + 1
  split <;> omega
theorem DskS.fit.a_see {D : DskS} {m : Nat} (h : D.fit m) (t : Tch) : (D.see t).fit (m + 1) :=
  ⟨PowS.fit_mono h.p (by omega), h.n, by have := h.safe; show D.safe.length ≤ _; omega, by have := h.loose; show D.loose.length ≤ _; omega, by have := h.seen; show (D.seen ++ [t]).length ≤ _; rw [List.length_append]; simp; omega, h.plot, by have := h.steps; show D.steps ≤ _; omega⟩
theorem DskS.fit.a_done {D : DskS} {m : Nat} (h : D.fit m) (t : Tch) : (D.done t).fit (m + 2) := by
  unfold DskS.done
  split
  · exact h.a_tick.a_see t
  · exact h.a_tick.a_mono (by omega)
theorem DskS.fit.a_read {D : DskS} {m : Nat} (h : D.fit m) (at_ : Int) : (D.read at_).1.fit (m + 3) := by
  unfold DskS.read
  split
  · exact h.a_mono (by omega)
  · split <;> exact (h.a_done _).a_mono (by omega)
theorem DskS.fit.a_write {D : DskS} {m : Nat} (h : D.fit m) (at_ : Int) (b : List UInt8) : (D.write at_ b).1.fit (m + 3) := by
  unfold DskS.write
  split
  · exact h.a_mono (by omega)
  · split
    · exact h.a_mono (by omega)
    · show (D.wrote at_ b).fit (m + 3)
      unfold DskS.wrote
      have ht := h.a_tick
      split
      · have h2 := ht.a_see (1, at_, b)
        exact ⟨PowS.fit_mono h2.p (by omega), h2.n, by have := h2.safe; show (D.tick.see (1, at_, b)).safe.length ≤ _; omega, by have := ht.loose; show (D.tick.loose ++ [(at_, b)]).length ≤ _; rw [List.length_append]; simp; omega, by have := h2.seen; show (D.tick.see (1, at_, b)).seen.length ≤ _; omega, h2.plot, by have := h2.steps; show (D.tick.see (1, at_, b)).steps ≤ _; omega⟩
      · exact ht.a_mono (by omega)
theorem DskS.fit.a_flushed {D : DskS} {m : Nat} (h : D.fit m) (hm : m ≤ 280) : D.flushed.fit (m + 3) := by
  unfold DskS.flushed
  have ht := h.a_tick
  split
  · obtain ⟨a1, a2, a3, a4, a5⟩ := tick_len D
    obtain ⟨b1, b2, b3, b4, b5, b6, b7⟩ := settles_len D.tick.loose D.tick
    have h1 := h.safe
    have h2 := h.loose
    have h4 := h.plot
    refine ⟨?_, ?_, ?_, Nat.zero_le _, ?_, ?_, ?_⟩
    · show ((D.tick.settles D.tick.loose).p).fit (m + 3)
      rw [b3]
      exact PowS.fit_mono ht.p (by omega)
    · show 1 ≤ (D.tick.settles D.tick.loose).n ∧ (D.tick.settles D.tick.loose).n ≤ 4096
      rw [b5]
      exact ht.n
    · show (D.tick.settles D.tick.loose).safe.length ≤ 100 * (m + 3)
      omega
    · show ((D.tick.settles D.tick.loose).seen ++ [_]).length ≤ m + 3
      rw [b6, List.length_append]
      have := ht.seen
      simp
      omega
    · show (D.tick.settles D.tick.loose).plot.length ≤ 20
      rw [b7]
      exact ht.plot
    · show (D.tick.settles D.tick.loose).steps ≤ m + 3
      rw [b4]
      have := ht.steps
      omega
  · exact ht.a_mono (by omega)
theorem DskS.fit.a_crash {D : DskS} {m : Nat} (h : D.fit m) (hm : m ≤ 280) (b : List Bool) : (D.crash b).fit (m + 3) := by
  obtain ⟨b1, b2, b3, b4, b5, b6, b7⟩ := settles_len (kept D.loose b) D
  have hk := kept_len D.loose b
  have h1 := h.safe
  have h2 := h.loose
  have h3 := h.seen
  have h5 := h.steps
  refine ⟨?_, ?_, ?_, Nat.zero_le _, ?_, ?_, ?_⟩
  · show ((D.settles (kept D.loose b)).p).fit (m + 3)
    rw [b3]
    exact PowS.fit_mono h.p (by omega)
  · show 1 ≤ (D.settles (kept D.loose b)).n ∧ (D.settles (kept D.loose b)).n ≤ 4096
    rw [b5]
    exact h.n
  · show (D.settles (kept D.loose b)).safe.length ≤ 100 * (m + 3)
    omega
  · show (D.settles (kept D.loose b)).seen.length ≤ m + 3
    rw [b6]
    omega
  · show (D.settles (kept D.loose b)).plot.length ≤ 20
    rw [b7]
    exact h.plot
  · show (D.settles (kept D.loose b)).steps ≤ m + 3
    rw [b4]
    omega
end Go.Proofs.YtlenmkhmkommcaaGreat

/-
  Plain mathematics of layer 9: what is flushed stays; a crash keeps whole blocks. No condition; nothing of the program.
-/
namespace Go.Proofs.YtlenmkhmkommcaaGreat
open Go.RowKit

theorem ago_settle {D : DskS} {at_ k : Int} (h : ¬ at_ = k) (b : List UInt8) (j : Nat) : (D.settle at_ b).ago k j = D.ago k j := by
  unfold DskS.ago DskS.settle
  dsimp only
  rw [List.reverse_append, List.reverse_singleton, List.singleton_append]
  exact agoR_miss h
theorem ago_settles {k : Int} : ∀ {l : List Chg} {D : DskS}, (∀ c ∈ l, ¬ c.1 = k) → ∀ j, (D.settles l).ago k j = D.ago k j
  | [], _, _, _ => rfl
  | c :: l, D, h, j => by
    have e : D.settles (c :: l) = (D.settle c.1 c.2).settles l := rfl
    rw [e, ago_settles (fun x hx => h x (by simp [hx])), ago_settle (h c (by simp))]
theorem look_none {k : Int} : ∀ {l : List Chg}, (∀ c ∈ l, ¬ c.1 = k) → lookR l k = none
  | [], _ => rfl
  | c :: l, h => by rw [lookR_miss (h c (by simp))]; exact look_none fun x hx => h x (by simp [hx])
/-- Block k is safe, holds V, and nobody else plots. -/
structure DskS.firm (D : DskS) (k : Int) (V : List UInt8) : Prop where
  loose : ∀ c ∈ D.loose, ¬ c.1 = k
  ago : D.ago k 0 = V
  plot : D.plot = []
theorem DskS.firm.look {D : DskS} {k : Int} {V : List UInt8} (h : D.firm k V) : D.look k = V := by
  unfold DskS.look
  rw [look_none fun c hc => h.loose c (by simpa using hc)]
  exact h.ago
theorem tick_same {D : DskS} (h : D.plot = []) : D.tick.safe = D.safe ∧ D.tick.loose = D.loose ∧ D.tick.plot = [] ∧ D.tick.n = D.n := by
  unfold DskS.tick
  rw [h]
  exact ⟨rfl, rfl, h, rfl⟩
theorem DskS.firm.tick {D : DskS} {k : Int} {V : List UInt8} (h : D.firm k V) : D.tick.firm k V := by
  obtain ⟨a1, a2, a3, _⟩ := tick_same h.plot
  exact ⟨by rw [a2]; exact h.loose, by unfold DskS.ago; rw [a1]; exact h.ago, a3⟩
theorem DskS.firm.see {D : DskS} {k : Int} {V : List UInt8} (h : D.firm k V) (t : Tch) : (D.see t).firm k V := ⟨h.loose, h.ago, h.plot⟩
theorem DskS.firm.done {D : DskS} {k : Int} {V : List UInt8} (h : D.firm k V) (t : Tch) : (D.done t).firm k V := by
  unfold DskS.done
  split
  · exact h.tick.see t
  · exact h.tick
theorem DskS.firm.read {D : DskS} {k : Int} {V : List UInt8} (h : D.firm k V) (at_ : Int) : (D.read at_).1.firm k V := by
  unfold DskS.read
  split
  · exact h
  · split <;> exact h.done _
theorem DskS.firm.write {D : DskS} {k : Int} {V : List UInt8} (h : D.firm k V) {at_ : Int} (hk : ¬ at_ = k) (b : List UInt8) : (D.write at_ b).1.firm k V := by
  unfold DskS.write
  split
  · exact h
  · split
    · exact h
    · show (D.wrote at_ b).firm k V
      unfold DskS.wrote
      have ht := h.tick
      split
      · refine ⟨fun c hc => ?_, ht.ago, ht.plot⟩
        rcases List.mem_append.1 hc with hc | hc
        · exact ht.loose c hc
        · rw [List.mem_singleton.1 hc]
          exact hk
      · exact ht
theorem DskS.firm.flushed {D : DskS} {k : Int} {V : List UInt8} (h : D.firm k V) : D.flushed.firm k V := by
  unfold DskS.flushed
  have ht := h.tick
  split
  · refine ⟨fun c hc => (by cases hc), ?_, ?_⟩
    · exact (ago_settles ht.loose 0).trans ht.ago
    · exact (settles_len D.tick.loose D.tick).2.2.2.2.2.2.trans ht.plot
  · exact ht
theorem DskS.firm.poke {D : DskS} {k : Int} {V : List UInt8} (h : D.firm k V) {x : Pok} (hk : ¬ x.at_ = k) : (D.poke x).firm k V := by
  unfold DskS.poke
  split
  · exact h
  · refine ⟨fun c hc => h.loose c (List.mem_filter.1 hc).1, ?_, h.plot⟩
    exact (ago_settle hk _ 0).trans h.ago
theorem kept_mem : ∀ {l : List Chg} {b : List Bool} {c : Chg}, c ∈ kept l b → c ∈ l
  | [], b, c, h => by cases b with | nil => cases h | cons x b => cases h
  | a :: l, [], c, h => by cases h
  | a :: l, true :: b, c, h => by
    rcases List.mem_cons.1 h with rfl | h
    · simp
    · exact List.mem_cons_of_mem _ (kept_mem h)
  | a :: l, false :: b, c, h => List.mem_cons_of_mem _ (kept_mem (show c ∈ kept l b from h))
theorem DskS.firm.crash {D : DskS} {k : Int} {V : List UInt8} (h : D.firm k V) (b : List Bool) : (D.crash b).firm k V :=
  ⟨fun c hc => (by cases hc), (ago_settles (fun c hc => h.loose c (kept_mem hc)) 0).trans h.ago, (settles_len (kept D.loose b) D).2.2.2.2.2.2.trans h.plot⟩
/-- The act is of block k. -/
def OpS.on (o : OpS) (k : Int) : Prop := (o.kind = 1 ∧ o.at_ = k) ∨ (o.kind = 3 ∧ o.x.at_ = k)
theorem DskS.firm.act {D : DskS} {k : Int} {V : List UInt8} (h : D.firm k V) {o : OpS} (ho : ¬ o.on k) : (D.act o).firm k V := by
  unfold DskS.act
  split
  · exact h.read _
  split
  · rename_i h1
    exact h.write (fun e => ho (Or.inl ⟨h1, e⟩)) _
  split
  · exact h.flushed
  split
  · rename_i h3
    exact h.poke (fun e => ho (Or.inr ⟨h3, e⟩))
  split
  · exact ⟨h.loose, h.ago, h.plot⟩
  split
  · have h' := h.crash o.keep
    exact ⟨h'.loose, h'.ago, h'.plot⟩
  · exact h
theorem ok_does {S : PowS} (h : S.ok = true) : S.does = true := by
  unfold PowS.ok at h
  unfold PowS.does
  cases hd : S.down <;> simp_all
end Go.Proofs.YtlenmkhmkommcaaGreat
