/-
  3 texts in one. No statement of the seat is proved here.
-/
import Derived.Test.YtbifikeecmaakaaG26

/-
  How the arguments of layer 14's statements are opened: anchors, slices of keys, of anchors, of acts. No condition; no statement of the seat is proved here.
-/
namespace Go.Proofs.Ytbifikeecmaakaa
open Go.RowKit Go.ChangeShapes Go.WideShapes Go.ChangeAt

theorem kek_of_trod {H : Type} {enc : TypeId × Value → H} {W : World} {base : Nat} {held : Bool} {fuel : Nat} {cs : List Value} {x : DataW H × List MemPlace} {A : Nat → Prop} (hA : ∀ j, j < W.heap.size → A j)
    (h : DataW.trod enc Try.prog W base (fun _ => true) held fuel 78 cs = some x) : ∃ o, Row (elK A) 3 W o cs := by
  obtain ⟨xs, n, rfl, rfl, hl, hx, hf⟩ := DataW.trod_struct Try.underlying78 h
  have cP : Try.prog.cellsOf 78 = 3 := by kernel_rfl
  rw [cP] at hl
  have c_3 : Try.prog.cellsOf 3 = 1 := by kernel_rfl
  have c_B : Try.prog.cellsOf 22 = 1 := by kernel_rfl
  obtain ⟨v0, cs0, rfl, hl0⟩ := len_cons hl
  obtain ⟨v1, cs1, rfl, hl1⟩ := len_cons hl0
  obtain ⟨v2, cs2, rfl, hl2⟩ := len_cons hl1
  obtain rfl := len_zero hl2
  have f0 : DataW.trod enc Try.prog W base (fun _ => true) held n 3 (List.take (Try.prog.cellsOf 3) (List.drop 0 [v0, v1, v2])) = xs[0]? := hf 0 _ rfl
  have f1 : DataW.trod enc Try.prog W base (fun _ => true) held n 3 (List.take (Try.prog.cellsOf 3) (List.drop 1 [v0, v1, v2])) = xs[1]? := hf 1 _ rfl
  have f2 : DataW.trod enc Try.prog W base (fun _ => true) held n 22 (List.take (Try.prog.cellsOf 22) (List.drop 2 [v0, v1, v2])) = xs[2]? := hf 2 _ rfl
  have hxl : xs.length = 3 := hx
  rw [c_3] at f0
  rw [c_3] at f1
  rw [c_B] at f2
  rw [List.getElem?_eq_getElem (by omega)] at f0 f1 f2
  obtain ⟨p, e0, _, w0⟩ := DataW.trod_int Try.underlying3 f0
  obtain ⟨q, e1, _, w1⟩ := DataW.trod_int Try.underlying3 f1
  simp only [List.drop_succ_cons, List.drop_zero, List.take_succ_cons, List.take_zero] at f2
  obtain ⟨a, m, c, rfl⟩ := slice_of_trod Try.underlying22 f2
  obtain ⟨l, hb⟩ := BA.of_trod hA f2
  simp at e0 e1
  subst e0 e1
  exact ⟨⟨p, q, l⟩, rfl, kkc_one ⟨p, q, l⟩ a m c, a, m, c, rfl, hb, bounds_i64 w0, bounds_i64 w1⟩
theorem keks_of_trod {H : Type} {enc : TypeId × Value → H} {W : World} {base : Nat} {held : Bool} {fuel : Nat} {a : Option Addr} {n c : Nat} {x : DataW H × List MemPlace} {A : Nat → Prop} (hA : ∀ j, j < W.heap.size → A j)
    (h : DataW.trod enc Try.prog W base (fun _ => true) held fuel 23 [.slice a n c] = some x) : ∃ l, Sl (elK A) 3 A W a n c l := by
  rcases Deep.open_slice Try.underlying23 h with ⟨hcs, _⟩ | ⟨y, len, cap, m, n', D, Pl, hcs, _, hl, hm, hmm, _, hrow⟩
  · simp at hcs
    obtain ⟨rfl, rfl, rfl⟩ := hcs
    exact ⟨[], Sl.nil _ _ _ _⟩
  · simp at hcs
    obtain ⟨rfl, rfl, rfl⟩ := hcs
    have cP : Try.prog.cellsOf 78 = 3 := by kernel_rfl
    rw [cP] at hrow
    simp at hmm
    subst hmm
    refine Sl.of_rows (⟨0, 0, []⟩ : KekS) (base := base) (by omega) hl hm hA fun i hi => ?_
    obtain ⟨cs', h1, h2⟩ := hrow i (by omega)
    exact ⟨cs', h1, kek_of_trod hA h2⟩
/-- An anchor in a slice, of memory of A. -/
def elA (A : Nat → Prop) (w : World) (a : AncS) (vs : List Value) : Prop := ∃ p q, vs = anc a p q ∧ Anc A w a p q
theorem elA.keep {A : Nat → Prop} {w w' : World} (hs : w.heap.size ≤ w'.heap.size) (hk : ∀ j, j < w.heap.size → A j → w'.heap[j]? = w.heap[j]?) : ∀ x vs, elA A w x vs → elA A w' x vs := by
  rintro x vs ⟨p, q, e, h⟩
  exact ⟨p, q, e, h.keep hs hk⟩
theorem anc_of_trod {H : Type} {enc : TypeId × Value → H} {W : World} {base : Nat} {held : Bool} {fuel : Nat} {cs : List Value} {x : DataW H × List MemPlace} {A : Nat → Prop} (hA : ∀ j, j < W.heap.size → A j)
    (h : DataW.trod enc Try.prog W base (fun _ => true) held fuel 25 cs = some x) : ∃ o, Row (elA A) 8 W o cs := by
  obtain ⟨xs, n, rfl, rfl, hl, hx, hf⟩ := DataW.trod_struct Try.underlying25 h
  have cP : Try.prog.cellsOf 25 = 8 := by kernel_rfl
  rw [cP] at hl
  have c_3 : Try.prog.cellsOf 3 = 1 := by kernel_rfl
  have c_B : Try.prog.cellsOf 22 = 1 := by kernel_rfl
  have c_K : Try.prog.cellsOf 23 = 1 := by kernel_rfl
  obtain ⟨v0, cs0, rfl, hl0⟩ := len_cons hl
  obtain ⟨v1, cs1, rfl, hl1⟩ := len_cons hl0
  obtain ⟨v2, cs2, rfl, hl2⟩ := len_cons hl1
  obtain ⟨v3, cs3, rfl, hl3⟩ := len_cons hl2
  obtain ⟨v4, cs4, rfl, hl4⟩ := len_cons hl3
  obtain ⟨v5, cs5, rfl, hl5⟩ := len_cons hl4
  obtain ⟨v6, cs6, rfl, hl6⟩ := len_cons hl5
  obtain ⟨v7, cs7, rfl, hl7⟩ := len_cons hl6
  obtain rfl := len_zero hl7
  have f0 : DataW.trod enc Try.prog W base (fun _ => true) held n 3 (List.take (Try.prog.cellsOf 3) (List.drop 0 [v0, v1, v2, v3, v4, v5, v6, v7])) = xs[0]? := hf 0 _ rfl
  have f1 : DataW.trod enc Try.prog W base (fun _ => true) held n 3 (List.take (Try.prog.cellsOf 3) (List.drop 1 [v0, v1, v2, v3, v4, v5, v6, v7])) = xs[1]? := hf 1 _ rfl
  have f2 : DataW.trod enc Try.prog W base (fun _ => true) held n 3 (List.take (Try.prog.cellsOf 3) (List.drop 2 [v0, v1, v2, v3, v4, v5, v6, v7])) = xs[2]? := hf 2 _ rfl
  have f3 : DataW.trod enc Try.prog W base (fun _ => true) held n 3 (List.take (Try.prog.cellsOf 3) (List.drop 3 [v0, v1, v2, v3, v4, v5, v6, v7])) = xs[3]? := hf 3 _ rfl
  have f4 : DataW.trod enc Try.prog W base (fun _ => true) held n 3 (List.take (Try.prog.cellsOf 3) (List.drop 4 [v0, v1, v2, v3, v4, v5, v6, v7])) = xs[4]? := hf 4 _ rfl
  have f5 : DataW.trod enc Try.prog W base (fun _ => true) held n 3 (List.take (Try.prog.cellsOf 3) (List.drop 5 [v0, v1, v2, v3, v4, v5, v6, v7])) = xs[5]? := hf 5 _ rfl
  have f6 : DataW.trod enc Try.prog W base (fun _ => true) held n 22 (List.take (Try.prog.cellsOf 22) (List.drop 6 [v0, v1, v2, v3, v4, v5, v6, v7])) = xs[6]? := hf 6 _ rfl
  have f7 : DataW.trod enc Try.prog W base (fun _ => true) held n 23 (List.take (Try.prog.cellsOf 23) (List.drop 7 [v0, v1, v2, v3, v4, v5, v6, v7])) = xs[7]? := hf 7 _ rfl
  have hxl : xs.length = 8 := hx
  rw [c_3] at f0
  rw [c_3] at f1
  rw [c_3] at f2
  rw [c_3] at f3
  rw [c_3] at f4
  rw [c_3] at f5
  rw [c_B] at f6
  rw [c_K] at f7
  rw [List.getElem?_eq_getElem (by omega)] at f0 f1 f2 f3 f4 f5 f6 f7
  obtain ⟨n0, e0, _, w0⟩ := DataW.trod_int Try.underlying3 f0
  obtain ⟨n1, e1, _, w1⟩ := DataW.trod_int Try.underlying3 f1
  obtain ⟨n2, e2, _, w2⟩ := DataW.trod_int Try.underlying3 f2
  obtain ⟨n3, e3, _, w3⟩ := DataW.trod_int Try.underlying3 f3
  obtain ⟨n4, e4, _, w4⟩ := DataW.trod_int Try.underlying3 f4
  obtain ⟨n5, e5, _, w5⟩ := DataW.trod_int Try.underlying3 f5
  simp only [List.drop_succ_cons, List.drop_zero, List.take_succ_cons, List.take_zero] at f6 f7
  obtain ⟨pa, pn, pc, rfl⟩ := slice_of_trod Try.underlying22 f6
  obtain ⟨l, hb⟩ := BA.of_trod hA f6
  obtain ⟨qa, qn, qc, rfl⟩ := slice_of_trod Try.underlying23 f7
  obtain ⟨ks, hk⟩ := keks_of_trod hA f7
  simp at e0 e1 e2 e3 e4 e5
  subst e0 e1 e2 e3 e4 e5
  exact ⟨⟨n0, n1, n2, n3, n4, n5, l, ks⟩, rfl, anc_one ⟨n0, n1, n2, n3, n4, n5, l, ks⟩ ⟨pa, pn, pc⟩ ⟨qa, qn, qc⟩, ⟨pa, pn, pc⟩, ⟨qa, qn, qc⟩, rfl, hb, hk, bounds_i64 w0, bounds_i64 w1, bounds_i64 w2, bounds_i64 w3, bounds_i64 w4, bounds_i64 w5⟩
theorem ancs_of_trod {H : Type} {enc : TypeId × Value → H} {W : World} {base : Nat} {held : Bool} {fuel : Nat} {a : Option Addr} {n c : Nat} {x : DataW H × List MemPlace} {A : Nat → Prop} (hA : ∀ j, j < W.heap.size → A j)
    (h : DataW.trod enc Try.prog W base (fun _ => true) held fuel 75 [.slice a n c] = some x) : ∃ l, Sl (elA A) 8 A W a n c l := by
  rcases Deep.open_slice Try.underlying75 h with ⟨hcs, _⟩ | ⟨y, len, cap, m, n', D, Pl, hcs, _, hl, hm, hmm, _, hrow⟩
  · simp at hcs
    obtain ⟨rfl, rfl, rfl⟩ := hcs
    exact ⟨[], Sl.nil _ _ _ _⟩
  · simp at hcs
    obtain ⟨rfl, rfl, rfl⟩ := hcs
    have cP : Try.prog.cellsOf 25 = 8 := by kernel_rfl
    rw [cP] at hrow
    simp at hmm
    subst hmm
    refine Sl.of_rows zeroA (base := base) (by omega) hl hm hA fun i hi => ?_
    obtain ⟨cs', h1, h2⟩ := hrow i (by omega)
    exact ⟨cs', h1, anc_of_trod hA h2⟩
/-- Anchors that were handed in. -/
def Ancs (w : World) (a : Option Addr) (n c : Nat) (l : List AncS) : Prop := Sl (elA fun j => j < w.heap.size) 8 (fun j => j < w.heap.size) w a n c l
theorem Ancs.of_trod {H : Type} {enc : TypeId × Value → H} {W : World} {base : Nat} {held : Bool} {fuel : Nat} {a : Option Addr} {n c : Nat} {x : DataW H × List MemPlace} (h : DataW.trod enc Try.prog W base (fun _ => true) held fuel 75 [.slice a n c] = some x) : ∃ l, Ancs W a n c l := ancs_of_trod (fun _ h => h) h
theorem Ancs.at {w0 wr : World} {a : Option Addr} {n c : Nat} {l : List AncS} (h : Ancs w0 a n c l) (hb : Below w0.heap.size w0 wr) {s : Nat} {x : AncS} (hx : l[s]? = some x) :
    ∃ b o p q, a = some ⟨b, o, none⟩ ∧ b < w0.heap.size ∧ wr.rangeAt b (o + s * 8) (anc x p q) ∧ Anc (fun j => j < w0.heap.size) w0 x p q := by
  obtain ⟨b, o, vs, ha, hlt, hrg, hl, p, q, rfl, hB⟩ := Sl.at h hx
  refine ⟨b, o, p, q, ha, hlt, fun j v hj => ?_, hB⟩
  rw [World.cell?_of_block (w := w0) (hb.block b hlt)]
  exact hrg j v hj

/-- An anchor that was handed in. -/
def AncIn (w : World) (a : AncS) (p q : Tri) : Prop := Anc (fun j => j < w.heap.size) w a p q
set_option maxRecDepth 100000 in
theorem okWide_anc {W : World} {b0 : Nat} {v : Value} (h : Value.okWide Try.prog W .any b0 25 v) : ∃ xs : Array Value, v = .agg xs := by
  simp only [Value.okWide, Try.underlying25] at h
  obtain ⟨cs, h1, _⟩ := h
  exact ⟨cs, h1⟩
theorem anchor_of_trod {H : Type} {enc : TypeId × Value → H} {W : World} {base : Nat} {held : Bool} {fuel : Nat} {xs : Array Value} {x : DataW H × List MemPlace}
    (h : DataW.trod enc Try.prog W base (fun _ => true) held fuel 25 (Value.agg xs).cells.toList = some x) : ∃ a p q, xs = (anc a p q).toArray ∧ AncIn W a p q := by
  obtain ⟨o, _, _, p, q, e, hA⟩ := anc_of_trod (A := fun j => j < W.heap.size) (fun _ h => h) h
  exact ⟨o, p, q, by apply Array.toList_inj.1; exact e, hA⟩

/-- An act. -/
structure Op14 where
  kind : Int
  a : AncS
  epoch : Int
  root : Int
  pending : Int
  n : Int
  done : Bool
def ok14 (o : Op14) (p q : Tri) : List Value := .int .i64 o.kind :: (anc o.a p q ++ [.int .i64 o.epoch, .int .i64 o.root, .int .i64 o.pending, .int .i64 o.n, .bool o.done])
theorem ok14_one (o : Op14) (p q : Tri) : ∀ v ∈ ok14 o p q, v.oneCell' = true := by
  intro v hv
  simp only [ok14, anc, List.cons_append, List.nil_append, List.mem_cons, List.not_mem_nil, or_false] at hv
  rcases hv with rfl | rfl | rfl | rfl | rfl | rfl | rfl | rfl | rfl | rfl | rfl | rfl | rfl | rfl <;> rfl
def Op14.fit (o : Op14) : Prop := i64 o.kind ∧ i64 o.epoch ∧ i64 o.root ∧ i64 o.pending ∧ i64 o.n
def elO14 (A : Nat → Prop) (w : World) (o : Op14) (vs : List Value) : Prop := ∃ p q, vs = ok14 o p q ∧ Anc A w o.a p q ∧ o.fit
theorem op14_of_trod {H : Type} {enc : TypeId × Value → H} {W : World} {base : Nat} {held : Bool} {fuel : Nat} {cs : List Value} {x : DataW H × List MemPlace} {A : Nat → Prop} (hA : ∀ j, j < W.heap.size → A j)
    (h : DataW.trod enc Try.prog W base (fun _ => true) held fuel 59 cs = some x) : ∃ o, Row (elO14 A) 14 W o cs := by
  obtain ⟨xs, n, rfl, rfl, hl, hx, hf⟩ := DataW.trod_struct Try.underlying59 h
  have cP : Try.prog.cellsOf 59 = 14 := by kernel_rfl
  rw [cP] at hl
  have c_3 : Try.prog.cellsOf 3 = 1 := by kernel_rfl
  have c_4 : Try.prog.cellsOf 4 = 1 := by kernel_rfl
  have c_A : Try.prog.cellsOf 25 = 8 := by kernel_rfl
  obtain ⟨v0, cs0, rfl, hl0⟩ := len_cons hl
  obtain ⟨v1, cs1, rfl, hl1⟩ := len_cons hl0
  obtain ⟨v2, cs2, rfl, hl2⟩ := len_cons hl1
  obtain ⟨v3, cs3, rfl, hl3⟩ := len_cons hl2
  obtain ⟨v4, cs4, rfl, hl4⟩ := len_cons hl3
  obtain ⟨v5, cs5, rfl, hl5⟩ := len_cons hl4
  obtain ⟨v6, cs6, rfl, hl6⟩ := len_cons hl5
  obtain ⟨v7, cs7, rfl, hl7⟩ := len_cons hl6
  obtain ⟨v8, cs8, rfl, hl8⟩ := len_cons hl7
  obtain ⟨v9, cs9, rfl, hl9⟩ := len_cons hl8
  obtain ⟨v10, cs10, rfl, hl10⟩ := len_cons hl9
  obtain ⟨v11, cs11, rfl, hl11⟩ := len_cons hl10
  obtain ⟨v12, cs12, rfl, hl12⟩ := len_cons hl11
  obtain ⟨v13, cs13, rfl, hl13⟩ := len_cons hl12
  obtain rfl := len_zero hl13
  have f0 : DataW.trod enc Try.prog W base (fun _ => true) held n 3 (List.take (Try.prog.cellsOf 3) (List.drop 0 [v0, v1, v2, v3, v4, v5, v6, v7, v8, v9, v10, v11, v12, v13])) = xs[0]? := hf 0 _ rfl
  have f1 : DataW.trod enc Try.prog W base (fun _ => true) held n 25 (List.take (Try.prog.cellsOf 25) (List.drop 1 [v0, v1, v2, v3, v4, v5, v6, v7, v8, v9, v10, v11, v12, v13])) = xs[1]? := hf 1 _ rfl
  have f2 : DataW.trod enc Try.prog W base (fun _ => true) held n 3 (List.take (Try.prog.cellsOf 3) (List.drop 9 [v0, v1, v2, v3, v4, v5, v6, v7, v8, v9, v10, v11, v12, v13])) = xs[2]? := hf 2 _ rfl
  have f3 : DataW.trod enc Try.prog W base (fun _ => true) held n 3 (List.take (Try.prog.cellsOf 3) (List.drop 10 [v0, v1, v2, v3, v4, v5, v6, v7, v8, v9, v10, v11, v12, v13])) = xs[3]? := hf 3 _ rfl
  have f4 : DataW.trod enc Try.prog W base (fun _ => true) held n 3 (List.take (Try.prog.cellsOf 3) (List.drop 11 [v0, v1, v2, v3, v4, v5, v6, v7, v8, v9, v10, v11, v12, v13])) = xs[4]? := hf 4 _ rfl
  have f5 : DataW.trod enc Try.prog W base (fun _ => true) held n 3 (List.take (Try.prog.cellsOf 3) (List.drop 12 [v0, v1, v2, v3, v4, v5, v6, v7, v8, v9, v10, v11, v12, v13])) = xs[5]? := hf 5 _ rfl
  have f6 : DataW.trod enc Try.prog W base (fun _ => true) held n 4 (List.take (Try.prog.cellsOf 4) (List.drop 13 [v0, v1, v2, v3, v4, v5, v6, v7, v8, v9, v10, v11, v12, v13])) = xs[6]? := hf 6 _ rfl
  have hxl : xs.length = 7 := hx
  rw [c_3] at f0
  rw [c_A] at f1
  rw [c_3] at f2
  rw [c_3] at f3
  rw [c_3] at f4
  rw [c_3] at f5
  rw [c_4] at f6
  rw [List.getElem?_eq_getElem (by omega)] at f0 f1 f2 f3 f4 f5 f6
  obtain ⟨n0, e0, _, w0⟩ := DataW.trod_int Try.underlying3 f0
  obtain ⟨n2, e2, _, w2⟩ := DataW.trod_int Try.underlying3 f2
  obtain ⟨n3, e3, _, w3⟩ := DataW.trod_int Try.underlying3 f3
  obtain ⟨n4, e4, _, w4⟩ := DataW.trod_int Try.underlying3 f4
  obtain ⟨n5, e5, _, w5⟩ := DataW.trod_int Try.underlying3 f5
  obtain ⟨d, e6, _⟩ := DataW.trod_bool Try.underlying4 f6
  simp only [List.drop_succ_cons, List.drop_zero, List.take_succ_cons, List.take_zero] at f1
  obtain ⟨y, _, _, p, q, ey, hy⟩ := anc_of_trod hA f1
  simp at e0 e2 e3 e4 e5 e6
  simp only [anc, List.cons.injEq, and_true] at ey
  obtain ⟨rfl, rfl, rfl, rfl, rfl, rfl, rfl, rfl⟩ := ey
  subst e0 e2 e3 e4 e5 e6
  exact ⟨⟨n0, y, n2, n3, n4, n5, d⟩, rfl, ok14_one ⟨n0, y, n2, n3, n4, n5, d⟩ p q, p, q, rfl, hy, bounds_i64 w0, bounds_i64 w2, bounds_i64 w3, bounds_i64 w4, bounds_i64 w5⟩
theorem ops14_of_trod {H : Type} {enc : TypeId × Value → H} {W : World} {base : Nat} {held : Bool} {fuel : Nat} {a : Option Addr} {n c : Nat} {x : DataW H × List MemPlace} {A : Nat → Prop} (hA : ∀ j, j < W.heap.size → A j)
    (h : DataW.trod enc Try.prog W base (fun _ => true) held fuel 38 [.slice a n c] = some x) : ∃ l, Sl (elO14 A) 14 A W a n c l := by
  rcases Deep.open_slice Try.underlying38 h with ⟨hcs, _⟩ | ⟨y, len, cap, m, n', D, Pl, hcs, _, hl, hm, hmm, _, hrow⟩
  · simp at hcs
    obtain ⟨rfl, rfl, rfl⟩ := hcs
    exact ⟨[], Sl.nil _ _ _ _⟩
  · simp at hcs
    obtain ⟨rfl, rfl, rfl⟩ := hcs
    have cP : Try.prog.cellsOf 59 = 14 := by kernel_rfl
    rw [cP] at hrow
    simp at hmm
    subst hmm
    refine Sl.of_rows (⟨0, zeroA, 0, 0, 0, 0, false⟩ : Op14) (base := base) (by omega) hl hm hA fun i hi => ?_
    obtain ⟨cs', h1, h2⟩ := hrow i (by omega)
    exact ⟨cs', h1, op14_of_trod hA h2⟩
/-- Acts that were handed in. -/
def Acts14 (w : World) (a : Option Addr) (n c : Nat) (l : List Op14) : Prop := Sl (elO14 fun j => j < w.heap.size) 14 (fun j => j < w.heap.size) w a n c l
theorem acts14_of_trod {H : Type} {enc : TypeId × Value → H} {W : World} {base : Nat} {held : Bool} {fuel : Nat} {a : Option Addr} {n c : Nat} {x : DataW H × List MemPlace} (h : DataW.trod enc Try.prog W base (fun _ => true) held fuel 38 [.slice a n c] = some x) : ∃ l, Acts14 W a n c l := ops14_of_trod (fun _ h => h) h
/-- The i-th act that was handed in. -/
theorem Acts14.at {w0 wr : World} {a : Option Addr} {n c : Nat} {l : List Op14} (h : Acts14 w0 a n c l) (hb : Below w0.heap.size w0 wr) {s : Nat} {x : Op14} (hx : l[s]? = some x) :
    ∃ b o p q, a = some ⟨b, o, none⟩ ∧ b < w0.heap.size ∧ wr.rangeAt b (o + s * 14) (ok14 x p q) ∧ Anc (fun j => j < w0.heap.size) w0 x.a p q ∧ x.fit := by
  obtain ⟨b, o, vs, ha, hlt, hrg, hl, p, q, rfl, hB, i1⟩ := Sl.at h hx
  refine ⟨b, o, p, q, ha, hlt, fun j v hj => ?_, hB, i1⟩
  rw [World.cell?_of_block (w := w0) (hb.block b hlt)]
  exact hrg j v hj
theorem Acts14.cap {w : World} {a : Option Addr} {n c : Nat} {l : List Op14} (h : Acts14 w a n c l) : n ≤ 9223372036854775807 := by
  have h1 := Sl.cap h
  unfold maxLen at h1
  omega

end Go.Proofs.Ytbifikeecmaakaa

/-
  How the program's cell outlasts what layer 10's statements do around it ('StaC'); how their arguments are opened; how much is waited for. No condition.
-/
namespace Go.Proofs.Ytbifikeecmaakaa
open Go.RowKit Go.ChangeShapes Go.WideShapes Go.ChangeAt

theorem Ck.grows {U F : Nat → Prop} {w w' : World} {c r : Nat} {C : CelS} (h : Ck U F w c r C) (hb : Below w.heap.size w w') : Ck U F w' c r C :=
  h.keep (G := fun _ => False) (Kp.of_below hb) (fun _ _ h => h)
/-- The cell C in memory that is all newer than w0. -/
structure StaC (w0 w : World) (c r : Nat) (U F : Nat → Prop) (C : CelS) : Prop where
  ck : Ck U F w c r C
  base : ∀ j, U j → w0.heap.size ≤ j
  bel : Below w0.heap.size w0 w
theorem StaC.after {w0 w w' : World} {c r : Nat} {U F U' F' : Nat → Prop} {C C' : CelS} (h : StaC w0 w c r U F C) (hd : Ck U' F' w' c r C') (hU : Next w U U') (k : Kp F w w') : StaC w0 w' c r U' F' C' :=
  ⟨hd, fun j hj => by
    have := h.bel.size
    rcases hU j hj with h1 | h1
    · exact h.base j h1
    · omega, below_kp h.bel k h.bel.size fun j hj hF => by
    have := h.base j (h.ck.sub j hF)
    omega⟩
theorem StaC.grow {w0 w w' : World} {c r : Nat} {U F : Nat → Prop} {C : CelS} (h : StaC w0 w c r U F C) (k : Below w.heap.size w w') : StaC w0 w' c r U F C := ⟨h.ck.grows k, h.base, h.bel.trans (k.mono h.bel.size)⟩
theorem StaC.old {w0 w : World} {c r : Nat} {U F : Nat → Prop} {C : CelS} (h : StaC w0 w c r U F C) : ∀ j, j < w0.heap.size → ¬ F j := fun j hj hF => by
  have := h.base j (h.ck.sub j hF)
  omega
theorem StaC.power {w0 w w' : World} {c r : Nat} {U F : Nat → Prop} {C : CelS} (h : StaC w0 w c r U F C) {P : PowS} (hp : Pw w' r P) (k : Kp (fun j => j = r) w w') : StaC w0 w' c r U F { C with p := P } :=
  h.after (h.ck.power hp k) (fun j hj => Or.inl hj) (k.mono fun j _ e => by rw [e]; exact h.ck.pw.2)
theorem StaC.first {w0 w w' : World} {c r : Nat} {U F : Nat → Prop} {C : CelS} (hb : Below w0.heap.size w0 w) (hr : w0.heap.size ≤ r) (hd : Ck U F w' c r C) (hU : ∀ j, U j → j = r ∨ w.heap.size ≤ j) (hb' : Below w.heap.size w w') : StaC w0 w' c r U F C :=
  ⟨hd, fun j hj => by
    have := hb.size
    rcases hU j hj with h | h <;> omega, hb.trans (hb'.mono hb.size)⟩
/-- Bytes that were handed in. -/
theorem StaC.arg {w0 w : World} {c r : Nat} {U F : Nat → Prop} {C : CelS} (h : StaC w0 w c r U F C) {p : Option Addr} {m q : Nat} {b : List UInt8} (hb : Bs w0 p m q b) : BA (fun j => ¬ F j) w p m q b :=
  ⟨hb.below h.bel (Nat.le_refl _), fun hm => by
    obtain ⟨x, o, ha, hlt, _⟩ := hb.at hm
    exact ⟨_, ha, h.old _ hlt, Nat.lt_of_lt_of_le hlt h.bel.size⟩⟩
theorem StaC.arg' {w0 w : World} {c r : Nat} {U F : Nat → Prop} {C : CelS} (h : StaC w0 w c r U F C) {p : Option Addr} {m q : Nat} {b : List UInt8} (hb : BA (fun j => j < w0.heap.size) w0 p m q b) : BA (fun j => ¬ F j) w p m q b := h.arg hb.1

/-- An act. -/
structure Op10 where
  kind : Int
  at_ : Int
  b : List UInt8
  n : Int
  done : Bool
def ok10 (o : Op10) (p : Option Addr) (m q : Nat) : List Value := [.int .i64 o.kind, .int .i64 o.at_, .slice p m q, .int .i64 o.n, .bool o.done]
theorem ok10_one (x : Op10) (p : Option Addr) (m q : Nat) : ∀ v ∈ ok10 x p m q, v.oneCell' = true := by
  intro v hv
  simp only [ok10, List.mem_cons, List.not_mem_nil, or_false] at hv
  rcases hv with rfl | rfl | rfl | rfl | rfl <;> rfl
def elO10 (A : Nat → Prop) (w : World) (o : Op10) (vs : List Value) : Prop := ∃ p m q, vs = ok10 o p m q ∧ BA A w p m q o.b ∧ i64 o.kind ∧ i64 o.at_ ∧ i64 o.n
/-- Acts that were handed in. -/
def Acts10 (w : World) (a : Option Addr) (n c : Nat) (l : List Op10) : Prop := Sl (elO10 fun j => j < w.heap.size) 5 (fun j => j < w.heap.size) w a n c l
/-- The i-th act that was handed in. -/
theorem Acts10.at {w0 wr : World} {a : Option Addr} {n c : Nat} {l : List Op10} (h : Acts10 w0 a n c l) (hb : Below w0.heap.size w0 wr) {s : Nat} {x : Op10} (hx : l[s]? = some x) :
    ∃ b o p m q, a = some ⟨b, o, none⟩ ∧ b < w0.heap.size ∧ wr.rangeAt b (o + s * 5) (ok10 x p m q) ∧ BA (fun j => j < w0.heap.size) w0 p m q x.b ∧ i64 x.kind ∧ i64 x.at_ ∧ i64 x.n := by
  obtain ⟨b, o, vs, ha, hlt, hrg, hl, p, m, q, rfl, hB, i1, i2, i3⟩ := Sl.at h hx
  refine ⟨b, o, p, m, q, ha, hlt, fun j v hj => ?_, hB, i1, i2, i3⟩
  rw [World.cell?_of_block (w := w0) (hb.block b hlt)]
  exact hrg j v hj
/-- What light answers. -/
def Lights10 (w : World) (n : Nat) (l : List Op10) (e : Ending) (w' : World) : Prop := ∃ v, e = .returned (.bool v) ∧ (v = true → n ≤ 40 ∧ ∀ o ∈ l, o.b.length ≤ 1100) ∧ w = w'

end Go.Proofs.Ytbifikeecmaakaa

/-
  How the program's keeper outlasts what layer 14's statements do around it ('StaK'); how much is waited for ('light'). No condition.
-/
namespace Go.Proofs.Ytbifikeecmaakaa
open Go.RowKit

/-- The keeper K in memory that is all newer than w0. -/
structure StaK (w0 w : World) (k c r : Nat) (K : KepS) (p q : Tri) : Prop where
  kk : Kk w k c r K p q
  base : ∀ j, Fk k c r j → w0.heap.size ≤ j
  bel : Below w0.heap.size w0 w
theorem StaK.after {w0 w w' : World} {k c r : Nat} {K K' : KepS} {p q p' q' : Tri} (h : StaK w0 w k c r K p q) (hk : Kk w' k c r K' p' q') (kp : Kp (Fk k c r) w w') : StaK w0 w' k c r K' p' q' :=
  ⟨hk, h.base, below_kp h.bel kp h.bel.size fun j hj hF => by have := h.base j hF; omega⟩
theorem StaK.grow {w0 w w' : World} {k c r : Nat} {K : KepS} {p q : Tri} (h : StaK w0 w k c r K p q) (hb : Below w.heap.size w w') : StaK w0 w' k c r K p q :=
  ⟨h.kk.grow hb, h.base, h.bel.trans (hb.mono h.bel.size)⟩
theorem Kk.power {w w' : World} {k c r : Nat} {K : KepS} {p q : Tri} (h : Kk w k c r K p q) {P : PowS} (hp : Pw w' r P) (kr : Kp (fun j => j = r) w w') : Kk w' k c r ⟨{ K.c with p := P }, K.last⟩ p q :=
  ⟨h.ck.power hp kr, kr.blk h.b (fun e => h.nr e), h.an.kp kr (fun _ hj e => hj (Or.inr (Or.inr e))), h.nc, h.nr, h.ok⟩
theorem StaK.power {w0 w w' : World} {k c r : Nat} {K : KepS} {p q : Tri} (h : StaK w0 w k c r K p q) {P : PowS} (hp : Pw w' r P) (kr : Kp (fun j => j = r) w w') : StaK w0 w' k c r ⟨{ K.c with p := P }, K.last⟩ p q :=
  h.after (h.kk.power hp kr) (kr.mono fun _ _ e => Or.inr (Or.inr e))
theorem StaK.first {w0 v v' : World} {k c r : Nat} {U F : Nat → Prop} {C : CelS} {p q : Tri} (S : StaC w0 v c r U F C) (hk : v.heap.size ≤ k) (h : Kk v' k c r ⟨C, openA C⟩ p q) (hb : Below v.heap.size v v') : StaK w0 v' k c r ⟨C, openA C⟩ p q :=
  ⟨h, fun j hj => by
    have := S.bel.size
    rcases hj with rfl | hj
    · omega
    · exact S.base j ((S.ck.u j).2 hj), S.bel.trans (hb.mono S.bel.size)⟩
theorem StaK.opened {w0 v v' : World} {k k' c r : Nat} {K : KepS} {p q p' q' : Tri} (S : StaK w0 v k c r K p q) (hk : v.heap.size ≤ k') (h : Kk v' k' c r ⟨K.c, openA K.c⟩ p' q') (hb : Below v.heap.size v v') : StaK w0 v' k' c r ⟨K.c, openA K.c⟩ p' q' :=
  ⟨h, fun j hj => by
    have := S.bel.size
    rcases hj with rfl | hj
    · omega
    · exact S.base j (Or.inr hj), S.bel.trans (hb.mono S.bel.size)⟩
theorem StaK.old {w0 w : World} {k c r : Nat} {K : KepS} {p q : Tri} (h : StaK w0 w k c r K p q) : ∀ j, j < w0.heap.size → ¬ Fk k c r j := fun j hj hF => by
  have := h.base j hF
  omega
theorem StaK.pw {w0 w : World} {k c r : Nat} {K : KepS} {p q : Tri} (h : StaK w0 w k c r K p q) : Pw w r K.c.p := h.kk.ck.po
/-- An anchor that was handed in. -/
theorem StaK.arg {w0 w : World} {k c r : Nat} {K : KepS} {p q : Tri} (h : StaK w0 w k c r K p q) {a : AncS} {p' q' : Tri} (ha : Anc (fun j => j < w0.heap.size) w0 a p' q') : Anc (fun j => j < w0.heap.size) w a p' q' := ha.below h.bel

/-- Anchors that are waited for. -/
def okL (a : AncS) : Prop := a.master.length ≤ 100 ∧ a.keks.length ≤ 30 ∧ ∀ x ∈ a.keks, x.key.length ≤ 100
/-- What light answers. -/
def Lights14 (w : World) (a : AncS) (e : Ending) (w' : World) : Prop := ∃ v, e = .returned (.bool v) ∧ (v = true → okL a) ∧ Below w.heap.size w w'
set_option maxRecDepth 100000 in
set_option maxHeartbeats 2000000 in
theorem lLight14 (w : World) {A : Nat → Prop} {a : AncS} {p q : Tri} (h : Anc A w a p q) : Calls Try.prog 7 #[.agg (anc a p q).toArray] w (Lights14 w a) := by
  obtain ⟨pa, pn, pc⟩ := p
  obtain ⟨qa, qn, qc⟩ := q
  have hml : a.master.length = pn := h.ml
  have hkl : a.keks.length = qn := h.kl
  have hmx := h.max
  dsimp only at hmx
  obtain ⟨W0, hW0⟩ : ∃ W0, W0 = w.alloc (.cells (anc a ⟨pa, pn, pc⟩ ⟨qa, qn, qc⟩).toArray 25) := ⟨_, rfl⟩
  have z0 : Blk W0 w.heap.size (anc a ⟨pa, pn, pc⟩ ⟨qa, qn, qc⟩) 25 := by rw [hW0]; exact Blk.newAt w _ _ w.heap.size rfl _ rfl
  have k0 : Below w.heap.size w W0 := by rw [hW0]; exact below_alloc _ _
  have d6 : W0.cell? ⟨w.heap.size, 6, none⟩ = some (.slice pa pn pc) := z0.cell 6
  have d7 : W0.cell? ⟨w.heap.size, 7, none⟩ = some (.slice qa qn qc) := z0.cell 7
  have l0 := z0.lt
  have HA : Hid (Anc A W0 a ⟨pa, pn, pc⟩ ⟨qa, qn, qc⟩) := h.below k0
  clear h z0
  by_cases h1 : pn ≤ 100
  · have j1 : ¬ (100 : Int) < (pn : Int) := by omega
    by_cases h2 : qn ≤ 30
    · have j2 : ¬ (30 : Int) < (qn : Int) := by omega
      go_enter Try.func7, Try.ntmps7
      go_upto_region 1 with fail
      rw [← hW0]
      clear hW0
      go_wp2_with fail
      go_loopw [3] (fun i wr => ∃ j : Nat, j ≤ qn ∧ i = .int .i64 (j : Int) ∧ Hid (∀ x ∈ a.keks.take j, x.key.length ≤ 100) ∧ W0 = wr) (fun i _ => qn - (intOf i).toNat)
      case atStart => exact ⟨0, Nat.zero_le _, rfl, fun o ho => by simp at ho, rfl⟩
      case round =>
        obtain ⟨j, hj, rfl, HI, rfl⟩ := hrel
        by_cases hlt : j < qn
        · have i0 : (j : Int) < (qn : Int) := by omega
          obtain ⟨x, hx⟩ : ∃ x, a.keks[j]? = some x := ⟨_, List.getElem?_eq_getElem (by omega)⟩
          obtain ⟨b, o, s, m, c, e0, hlb, hrg, hB, -, -⟩ := HA.out.at (x := x) (k := j) hx
          dsimp only at e0
          subst e0
          have c2 : W0.cell? ⟨b, o + j * 3 + 2, none⟩ = some (.slice s m c) := hrg 2 _ rfl
          have hbl := hB.1.len
          have hbm := hB.1.max
          by_cases h3 : m ≤ 100
          · have i3 : ¬ (100 : Int) < (m : Int) := by omega
            have HN : Hid (∀ x ∈ a.keks.take (j + 1), x.key.length ≤ 100) := fun o' ho => by
              rw [List.take_add_one, hx] at ho
              rcases List.mem_append.1 ho with ho | ho
              · exact HI.out o' ho
              · simp at ho
                subst ho
                omega
            clear hrg hB hx HI
            go_wp2_with fail
            go_roundw
            case rel => exact ⟨j + 1, by omega, by go_num, HN, (by first | rfl | trivial)⟩
            case measure => simp [intOf]; omega
          · have i3 : (100 : Int) < (m : Int) := by omega
            clear hrg hB hx HI
            go_wp2_with fail
            go_ret
            exact ⟨_, rfl, fun hv => by simp at hv, k0⟩
        · have i0 : ¬ (j : Int) < (qn : Int) := by omega
          have HN : Hid (okL a) := ⟨by omega, by omega, fun x hx => HI.out x (by rw [List.take_of_length_le (by omega)]; exact hx)⟩
          clear HI
          go_wp2_with fail
          go_ret
          exact ⟨_, rfl, fun _ => HN.out, k0⟩
    · have j2 : (30 : Int) < (qn : Int) := by omega
      go_enter Try.func7, Try.ntmps7
      go_upto_region 1 with fail
      rw [← hW0]
      clear hW0
      go_wp2_with fail
      go_ret
      exact ⟨_, rfl, fun hv => by simp at hv, k0⟩
  · have j1 : (100 : Int) < (pn : Int) := by omega
    go_enter Try.func7, Try.ntmps7
    go_upto_region 1 with fail
    rw [← hW0]
    clear hW0
    go_wp2_with fail
    go_ret
    exact ⟨_, rfl, fun hv => by simp at hv, k0⟩

end Go.Proofs.Ytbifikeecmaakaa
