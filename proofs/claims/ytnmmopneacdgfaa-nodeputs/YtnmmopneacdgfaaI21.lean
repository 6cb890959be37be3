/-
  2 texts in one. No statement of the seat is proved here.
-/
import Derived.Test.YtnmmopneacdgfaaI20

/-
  Contracts of layer 18 in the form in which its law of pages uses them. Conditions: what each says.
-/
namespace Go.Proofs.Ytnmmopneacdgfaa
open Go.RowKit
set_option linter.unusedVariables false
theorem pPutF {u : World} {n : NodeS} {p q : Tri} (h : Nd (fun _ => True) u n p q) (hl : Lit n) {z : Int} (hc : chkN n = z) {b : List UInt8} (hb : putN n = b) : Calls Try.prog 9 #[ndv n p q] u fun e w' => ∃ s m c, e = .returned (.tuple #[.slice s m c, .int .i64 z]) ∧ Bs w' s m c b ∧ Below u.heap.size u w' := by
  subst hb hc
  exact (oPutN u h hl).mono fun e w' h => by obtain ⟨s, m, c, h1, h2, h3⟩ := h; exact ⟨s, m, c, h1, h2.toBs, h3⟩
theorem qPutF {u : World} {n : NodeS} {p q : Tri} (h : Nd (fun _ => True) u n p q) (hl : Lit n) {z : Int} (hc : chkN n = z) {b : List UInt8} (hb : putN n = b) : Calls Try.prog 10 #[ndv n p q] u fun e w' => ∃ s m c, e = .returned (.tuple #[.slice s m c, .int .i64 z]) ∧ Bs w' s m c b ∧ Below u.heap.size u w' := by
  subst hb hc
  exact rPutN u h hl
theorem qGetB {u : World} {b : List UInt8} {s : Option Addr} {m c : Nat} (hb : Bs u s m c b) {X : NodeS} {y : Int} (hX : getNd b = (X, y)) : Calls Try.prog 12 #[.slice s m c] u fun e w' => ∃ p q, e = .returned (.tuple #[ndv X p q, .int .i64 y]) ∧ Nd (fun _ => True) w' X p q ∧ Below u.heap.size u w' := by
  have := rGetN u hb
  rw [hX] at this
  exact this
theorem pChkF {u : World} {n : NodeS} {p q : Tri} (h : Nd (fun _ => True) u n p q) (hl : Lit n) {z : Int} (hc : chkN n = z) : Calls Try.prog 14 #[ndv n p q] u fun e w' => e = .returned (.int .i64 z) ∧ Below u.heap.size u w' := by
  subst hc
  exact oCheckN u h hl
theorem pSizF {u : World} {n : NodeS} {p q : Tri} (h : Nd (fun _ => True) u n p q) (hl : Lit n) {s : Nat} (hs : sizeN n = s) : Calls Try.prog 16 #[ndv n p q] u fun e w' => e = .returned (.int .i64 (s : Int)) ∧ Below u.heap.size u w' := by
  subst hs
  exact oSizeN u h hl
theorem qSizF {u : World} {n : NodeS} {p q : Tri} (h : Nd (fun _ => True) u n p q) (hl : Lit n) {s : Nat} (hs : sizeN n = s) : Calls Try.prog 17 #[ndv n p q] u fun e w' => e = .returned (.int .i64 (s : Int)) ∧ Below u.heap.size u w' := by
  subst hs
  exact rSizeN u h hl
theorem get_lit {b : List UInt8} {X : NodeS} {y : Int} (h : getNd b = (X, y)) : Lit X := by
  have hz : Lit zeroN := ⟨by simp [zeroN], by simp [zeroN], (by intro x hx; cases hx), by intro x hx; cases hx⟩
  have e : X = nodR b ∨ X = zeroN := by
    unfold getNd at h
    split at h
    · split at h
      · split at h
        · split at h
          · split at h
            · cases h; exact Or.inl rfl
            · cases h; exact Or.inr rfl
          · cases h; exact Or.inr rfl
        · cases h; exact Or.inr rfl
      · cases h; exact Or.inr rfl
    · cases h; exact Or.inr rfl
  rcases e with rfl | rfl
  · exact nodR_lit b
  · exact hz
theorem pSameF {u : World} {n : NodeS} {p q : Tri} {r s : Tri} (h1 : Nd (fun _ => True) u n p q) (h2 : Nd (fun _ => True) u n r s) (hL : Lit n) : Calls Try.prog 18 #[ndv n p q, ndv n r s] u fun e w' => e = .returned (.bool true) ∧ Below u.heap.size u w' := rSameN u h1 h2 hL.ps hL.ks
theorem ans_eqI {ops : Array Oper} {S : World → Prop} {oi : Oper} {a : Act} {t : TypeId} (x y : Operand) (ho : oi.op = .binOp .eql t x y t) (hw : Region.wanted oi (yielded ops a.tmps) = true) (p : Int) (hx : a.eval x = .int .i64 p) (hy : a.eval y = .int .i64 p) : Ans Try.prog ops S oi (.bool true) a := by
  refine ans_plain hw fun w hS => ?_
  unfold execOp
  simp only [ho, hx, hy]
  go_simp

end Go.Proofs.Ytnmmopneacdgfaa

/-
  How the arguments of layer 18's statements are opened: nodes. No condition; no statement of the seat is proved here.
-/
namespace Go.Proofs.Ytnmmopneacdgfaa
open Go.RowKit Go.ChangeShapes Go.WideShapes Go.ChangeAt
set_option linter.unusedVariables false

theorem pair_of_trod {H : Type} {enc : TypeId × Value → H} {W : World} {base : Nat} {held : Bool} {fuel : Nat} {cs : List Value} {x : DataW H × List MemPlace} {A : Nat → Prop} (hA : ∀ j, j < W.heap.size → A j)
    (h : DataW.trod enc Try.prog W base (fun _ => true) held fuel 44 cs = some x) : ∃ o, Row (elPr A) 2 W o cs := by
  obtain ⟨xs, n, rfl, rfl, hl, hx, hf⟩ := DataW.trod_struct Try.underlying44 h
  have cP : Try.prog.cellsOf 44 = 2 := by kernel_rfl
  rw [cP] at hl
  have c_B : Try.prog.cellsOf 26 = 1 := by kernel_rfl
  obtain ⟨v0, cs0, rfl, hl0⟩ := len_cons hl
  obtain ⟨v1, cs1, rfl, hl1⟩ := len_cons hl0
  obtain rfl := len_zero hl1
  have f0 : DataW.trod enc Try.prog W base (fun _ => true) held n 26 (List.take (Try.prog.cellsOf 26) (List.drop 0 [v0, v1])) = xs[0]? := hf 0 _ rfl
  have f1 : DataW.trod enc Try.prog W base (fun _ => true) held n 26 (List.take (Try.prog.cellsOf 26) (List.drop 1 [v0, v1])) = xs[1]? := hf 1 _ rfl
  have hxl : xs.length = 2 := hx
  rw [c_B] at f0 f1
  rw [List.getElem?_eq_getElem (by omega)] at f0 f1
  simp only [List.drop_succ_cons, List.drop_zero, List.take_succ_cons, List.take_zero] at f0 f1
  obtain ⟨a, m, c, rfl⟩ := slice_of_trod Try.underlying26 f0
  obtain ⟨l, hb⟩ := BA.of_trod hA f0
  obtain ⟨a2, m2, c2, rfl⟩ := slice_of_trod Try.underlying26 f1
  obtain ⟨l2, hb2⟩ := BA.of_trod hA f1
  exact ⟨⟨l, l2⟩, elPr.row ⟨a, m, c, a2, m2, c2, rfl, hb, hb2⟩⟩
theorem kid_of_trod {H : Type} {enc : TypeId × Value → H} {W : World} {base : Nat} {held : Bool} {fuel : Nat} {cs : List Value} {x : DataW H × List MemPlace} {A : Nat → Prop} (hA : ∀ j, j < W.heap.size → A j)
    (h : DataW.trod enc Try.prog W base (fun _ => true) held fuel 46 cs = some x) : ∃ o, Row (elKd A) 3 W o cs := by
  obtain ⟨xs, n, rfl, rfl, hl, hx, hf⟩ := DataW.trod_struct Try.underlying46 h
  have cP : Try.prog.cellsOf 46 = 3 := by kernel_rfl
  rw [cP] at hl
  have c_3 : Try.prog.cellsOf 3 = 1 := by kernel_rfl
  have c_B : Try.prog.cellsOf 26 = 1 := by kernel_rfl
  obtain ⟨v0, cs0, rfl, hl0⟩ := len_cons hl
  obtain ⟨v1, cs1, rfl, hl1⟩ := len_cons hl0
  obtain ⟨v2, cs2, rfl, hl2⟩ := len_cons hl1
  obtain rfl := len_zero hl2
  have f0 : DataW.trod enc Try.prog W base (fun _ => true) held n 26 (List.take (Try.prog.cellsOf 26) (List.drop 0 [v0, v1, v2])) = xs[0]? := hf 0 _ rfl
  have f1 : DataW.trod enc Try.prog W base (fun _ => true) held n 3 (List.take (Try.prog.cellsOf 3) (List.drop 1 [v0, v1, v2])) = xs[1]? := hf 1 _ rfl
  have f2 : DataW.trod enc Try.prog W base (fun _ => true) held n 3 (List.take (Try.prog.cellsOf 3) (List.drop 2 [v0, v1, v2])) = xs[2]? := hf 2 _ rfl
  have hxl : xs.length = 3 := hx
  rw [c_B] at f0
  rw [c_3] at f1 f2
  rw [List.getElem?_eq_getElem (by omega)] at f0 f1 f2
  obtain ⟨p, e1, _, w1⟩ := DataW.trod_int Try.underlying3 f1
  obtain ⟨q, e2, _, w2⟩ := DataW.trod_int Try.underlying3 f2
  simp only [List.drop_zero, List.take_succ_cons, List.take_zero] at f0
  obtain ⟨a, m, c, rfl⟩ := slice_of_trod Try.underlying26 f0
  obtain ⟨l, hb⟩ := BA.of_trod hA f0
  simp at e1 e2
  subst e1 e2
  exact ⟨⟨l, p, q⟩, elKd.row ⟨a, m, c, rfl, hb, bounds_i64 w1, bounds_i64 w2⟩⟩
theorem pairs_of_trod {H : Type} {enc : TypeId × Value → H} {W : World} {base : Nat} {held : Bool} {fuel : Nat} {a : Option Addr} {n c : Nat} {x : DataW H × List MemPlace} {A : Nat → Prop} (hA : ∀ j, j < W.heap.size → A j)
    (h : DataW.trod enc Try.prog W base (fun _ => true) held fuel 22 [.slice a n c] = some x) : ∃ l, SlP A W a n c l := by
  rcases Deep.open_slice Try.underlying22 h with ⟨hcs, _⟩ | ⟨y, len, cap, m, n', D, Pl, hcs, _, hl, hm, hmm, _, hrow⟩
  · simp at hcs
    obtain ⟨rfl, rfl, rfl⟩ := hcs
    exact ⟨[], Sl.nil _ _ _ _⟩
  · simp at hcs
    obtain ⟨rfl, rfl, rfl⟩ := hcs
    have cP : Try.prog.cellsOf 44 = 2 := by kernel_rfl
    rw [cP] at hrow
    simp at hmm
    subst hmm
    refine Sl.of_rows (⟨[], []⟩ : PairS) (base := base) (by omega) hl hm hA fun i hi => ?_
    obtain ⟨cs', h1, h2⟩ := hrow i (by omega)
    exact ⟨cs', h1, pair_of_trod hA h2⟩
theorem kids_of_trod {H : Type} {enc : TypeId × Value → H} {W : World} {base : Nat} {held : Bool} {fuel : Nat} {a : Option Addr} {n c : Nat} {x : DataW H × List MemPlace} {A : Nat → Prop} (hA : ∀ j, j < W.heap.size → A j)
    (h : DataW.trod enc Try.prog W base (fun _ => true) held fuel 23 [.slice a n c] = some x) : ∃ l, SlD A W a n c l := by
  rcases Deep.open_slice Try.underlying23 h with ⟨hcs, _⟩ | ⟨y, len, cap, m, n', D, Pl, hcs, _, hl, hm, hmm, _, hrow⟩
  · simp at hcs
    obtain ⟨rfl, rfl, rfl⟩ := hcs
    exact ⟨[], Sl.nil _ _ _ _⟩
  · simp at hcs
    obtain ⟨rfl, rfl, rfl⟩ := hcs
    have cP : Try.prog.cellsOf 46 = 3 := by kernel_rfl
    rw [cP] at hrow
    simp at hmm
    subst hmm
    refine Sl.of_rows (⟨[], 0, 0⟩ : KidS) (base := base) (by omega) hl hm hA fun i hi => ?_
    obtain ⟨cs', h1, h2⟩ := hrow i (by omega)
    exact ⟨cs', h1, kid_of_trod hA h2⟩
/-- A node that was handed in. -/
def NdIn (w : World) (n : NodeS) (p q : Tri) : Prop := Nd (fun j => j < w.heap.size) w n p q
set_option maxRecDepth 100000 in
theorem okWide_nd {W : World} {b0 : Nat} {v : Value} (h : Value.okWide Try.prog W .any b0 25 v) : ∃ xs : Array Value, v = .agg xs := by
  simp only [Value.okWide, Try.underlying25] at h
  obtain ⟨cs, h1, _⟩ := h
  exact ⟨cs, h1⟩
theorem node_of_trod {H : Type} {enc : TypeId × Value → H} {W : World} {base : Nat} {held : Bool} {fuel : Nat} {xs : Array Value} {x : DataW H × List MemPlace}
    (h : DataW.trod enc Try.prog W base (fun _ => true) held fuel 25 (Value.agg xs).cells.toList = some x) : ∃ a p q, xs = (ndc a p q).toArray ∧ NdIn W a p q := by
  have h' : DataW.trod enc Try.prog W base (fun _ => true) held fuel 25 xs.toList = some x := h
  obtain ⟨ys, n, rfl, rfl, hl, hx, hf⟩ := DataW.trod_struct Try.underlying25 h'
  have cP : Try.prog.cellsOf 25 = 3 := by kernel_rfl
  rw [cP] at hl
  have c_4 : Try.prog.cellsOf 4 = 1 := by kernel_rfl
  have c_P : Try.prog.cellsOf 22 = 1 := by kernel_rfl
  have c_K : Try.prog.cellsOf 23 = 1 := by kernel_rfl
  obtain ⟨v0, cs0, e0, hl0⟩ := len_cons hl
  obtain ⟨v1, cs1, rfl, hl1⟩ := len_cons hl0
  obtain ⟨v2, cs2, rfl, hl2⟩ := len_cons hl1
  obtain rfl := len_zero hl2
  rw [e0] at hf
  have f0 : DataW.trod enc Try.prog W base (fun _ => true) held n 4 (List.take (Try.prog.cellsOf 4) (List.drop 0 [v0, v1, v2])) = ys[0]? := hf 0 _ rfl
  have f1 : DataW.trod enc Try.prog W base (fun _ => true) held n 22 (List.take (Try.prog.cellsOf 22) (List.drop 1 [v0, v1, v2])) = ys[1]? := hf 1 _ rfl
  have f2 : DataW.trod enc Try.prog W base (fun _ => true) held n 23 (List.take (Try.prog.cellsOf 23) (List.drop 2 [v0, v1, v2])) = ys[2]? := hf 2 _ rfl
  have hxl : ys.length = 3 := hx
  rw [c_4] at f0
  rw [c_P] at f1
  rw [c_K] at f2
  rw [List.getElem?_eq_getElem (by omega)] at f0 f1 f2
  obtain ⟨d, e4, _⟩ := DataW.trod_bool Try.underlying4 f0
  simp only [List.drop_succ_cons, List.drop_zero, List.take_succ_cons, List.take_zero] at f1 f2
  obtain ⟨pa, pn, pc, rfl⟩ := slice_of_trod Try.underlying22 f1
  obtain ⟨ps, hp⟩ := pairs_of_trod (A := fun j => j < W.heap.size) (fun _ h => h) f1
  obtain ⟨qa, qn, qc, rfl⟩ := slice_of_trod Try.underlying23 f2
  obtain ⟨ks, hk⟩ := kids_of_trod (A := fun j => j < W.heap.size) (fun _ h => h) f2
  simp at e4
  subst e4
  exact ⟨⟨d, ps, ks⟩, ⟨pa, pn, pc⟩, ⟨qa, qn, qc⟩, by apply Array.toList_inj.1; exact e0, hp, hk⟩

end Go.Proofs.Ytnmmopneacdgfaa
