/-
  3 texts in one. No statement of the seat is proved here.
-/
import Derived.Test.YtnmmopneacdgfaaI15
import Derived.Deep.DeepCutAuto
/-
  The contract of layer 18's law's side: works, the smoke. No condition.
-/
namespace Go.Proofs.Ytnmmopneacdgfaa
open Go.RowKit
set_option linter.unusedVariables false
def wN1 : NodeS := ⟨true, [⟨[97], [49]⟩, ⟨[99], [50]⟩], []⟩
def wN2 : NodeS := ⟨false, [], [⟨[97], 3, 0⟩, ⟨[102], 4, 0⟩]⟩
theorem wN1_ok : chkN wN1 = 0 := by decide +kernel
theorem wN2_ok : chkN wN2 = 0 := by decide +kernel
theorem wN1_rise : riseB keyP wN1.pairs = true := by decide +kernel
theorem wN2_rise : riseB keyD wN2.kids = true := by decide +kernel
theorem wN1_lit : Lit wN1 := ⟨by decide, by decide, (by intro x hx; simp only [wN1, List.mem_cons, List.not_mem_nil, or_false] at hx; rcases hx with rfl | rfl <;> decide), by intro x hx; cases hx⟩
theorem wN2_lit : Lit wN2 := ⟨by decide, by decide, (by intro x hx; cases hx), by intro x hx; simp only [wN2, List.mem_cons, List.not_mem_nil, or_false] at hx; rcases hx with rfl | rfl <;> decide⟩
theorem wFind : findN wN1 [98] = (1, false) := by decide +kernel
theorem wWay : wayN wN2 [122] = 1 := by decide +kernel
theorem wSize : sizeN wN1 = 11 := by decide +kernel
theorem wSplit : splitN wN2 = (⟨false, [], [⟨[97], 3, 0⟩]⟩, ⟨false, [], [⟨[102], 4, 0⟩]⟩, true) := by rfl
theorem run_conv_at (w : World) (g n c : Nat) (C : Array Value) (h : w.heap[g]? = some (.cells C 5)) : Sem.run Try.prog (convert 26 26 (.slice (some ⟨g, 0, none⟩) n c)) w = .ok (.slice (some ⟨g, 0, none⟩) n c) (w.freeze ⟨g, C.size, none⟩ 1) := by
  have hsh : w.shape? g = some (5, C.size) := by
    unfold World.shape?
    rw [h]
  simp [convert, run_underlying Try.underlying26, run_underlying Try.underlying5, markStringish, hsh]
theorem freeze_kp (w : World) (g k : Nat) : Kp (fun j => j = g) w (w.freeze ⟨g, k, none⟩ 1) := by
  unfold World.freeze
  rw [if_neg (by decide)]
  refine ⟨rfl, rfl, rfl, by simp, fun j hj hn => ?_⟩
  show (w.heap.modify g _)[j]? = _
  rw [Array.getElem?_modify, if_neg (fun e => hn e.symm)]
theorem freeze_blk (w : World) (g : Nat) (C : Array Value) (h : w.heap[g]? = some (.cells C 5)) : (w.freeze ⟨g, C.size, none⟩ 1).heap[g]? = some (.cells C 5 (C.size, C.size + 1)) := by
  unfold World.freeze
  rw [if_neg (by decide)]
  show (w.heap.modify g _)[g]? = _
  rw [Array.getElem?_modify, if_pos rfl, h]
  rfl
theorem Bs.ofMark {w : World} {g : Nat} {l : List UInt8} {f : Nat × Nat} {C : Array Value} (h : w.heap[g]? = some (.cells C 5 f)) (hC : C.toList = cs l) (hl : l.length ≤ 1000000) : Bs w (some ⟨g, 0, none⟩) l.length l.length l := by
  refine ⟨rfl, Nat.le_refl _, by unfold maxLen; omega, by simp, fun i hi => ⟨g, 0, rfl, ?_⟩⟩
  rw [Nat.zero_add, cell_of_row w g i C 5 f h, ← Array.getElem?_toList, hC, cs_get hi]

theorem wpList_ung18 {ops : Array Oper} {rest : List Oper} {o : Oper} {a : Act} {Q : Exit → Act → World → Prop} {w : World} (hw : Region.wanted o (yielded ops a.tmps) = true) (h : wpList Try.prog ops Q ({ o with guard := none } :: rest) a w) : wpList Try.prog ops Q (o :: rest) a w := by
  unfold wpList at h ⊢
  rw [if_pos hw]
  rw [if_pos (by rfl)] at h
  obtain ⟨d, op, ty, ps, af, gd⟩ := o
  exact h
theorem at_ldg18 (ty : TypeId) {x : Operand} {gd : Nat × Bool} {ops : Array Oper} {rest : List Oper} {a : Act} {w : World} {Q : Exit → Act → World → Prop} {dst : Option Tmp} {tp : TypeId} {pos : String} {aft : Array Edge} (h : wpList Try.prog ops Q ({ dst := dst, op := .load ty x, type := tp, pos := pos, after := aft, guard := some gd } :: rest) a w) : wpList Try.prog ops Q ({ dst := dst, op := .load ty x, type := tp, pos := pos, after := aft, guard := some gd } :: rest) a w := h
theorem ldg18 {gd : Nat × Bool} {ops : Array Oper} {rest : List Oper} {a : Act} {w : World} {Q : Exit → Act → World → Prop} {dst : Option Tmp} {tp : TypeId} {pos : String} {aft : Array Edge} (ty : TypeId) (x : Operand) (n : Nat) (hw : Region.wanted { dst := dst, op := .load ty x, type := tp, pos := pos, after := aft, guard := some gd } (yielded ops a.tmps) = true)
    (hi : (Try.prog.info? ty).map (·.size) = some n) (d : TypeDesc) (hu : Try.prog.underlying ty = some d) (hd : d.isRow = true) (b o : Nat) (cs : List Value) (hl : cs.length = n) (hc : w.rangeAt b o cs) (hx : a.eval x = .pointer (some ⟨b, o, none⟩))
    (h : wpList Try.prog ops Q rest (a.put dst (.agg cs.toArray)) w) : wpList Try.prog ops Q ({ dst := dst, op := .load ty x, type := tp, pos := pos, after := aft, guard := some gd } :: rest) a w :=
  wpList_ung18 hw (ld ty x n hi d hu hd b o cs hl hc hx h)
theorem mark_at (w : World) (z : UInt8) (zi : Int) (hz : zi = (z.toNat : Int)) : ∃ w', w' = (w.alloc (.cells #[.int .u8 zi] 5)).freeze ⟨w.heap.size, 1, none⟩ 1 ∧ Below w.heap.size w w' ∧ w'.heap.size = w.heap.size + 1 ∧ BA (fun j => w.heap.size ≤ j) w' (some ⟨w.heap.size, 0, none⟩) 1 1 [z] := by
  subst hz
  have hb : (w.alloc (.cells #[.int .u8 (z.toNat : Int)] 5)).heap[w.heap.size]? = some (.cells #[.int .u8 (z.toNat : Int)] 5) := heap_alloc_new _ _
  have hk := freeze_kp (w.alloc (.cells #[.int .u8 (z.toNat : Int)] 5)) w.heap.size 1
  have hf := freeze_blk (w.alloc (.cells #[.int .u8 (z.toNat : Int)] 5)) w.heap.size _ hb
  have hs : ((w.alloc (.cells #[.int .u8 (z.toNat : Int)] 5)).freeze ⟨w.heap.size, 1, none⟩ 1).heap.size = w.heap.size + 1 := by
    unfold World.freeze
    rw [if_neg (by decide)]
    simp
  have hB : Below w.heap.size (w.alloc (.cells #[.int .u8 (z.toNat : Int)] 5)) ((w.alloc (.cells #[.int .u8 (z.toNat : Int)] 5)).freeze ⟨w.heap.size, 1, none⟩ 1) := hk.below (by simp) (fun j hj e => by omega)
  refine ⟨_, rfl, (below_alloc w _).trans hB, hs, Bs.ofMark (l := [z]) hf rfl (by simp), fun _ => ⟨_, rfl, Nat.le_refl _, by show w.heap.size < _; rw [hs]; omega⟩⟩
/-- A literal of one byte and its mark, in the order of the text. -/
theorem lit1 (z : UInt8) {zi : Int} {ops : Array Oper} {rest : List Oper} {a : Act} {w : World} {Q : Exit → Act → World → Prop} {d1 d2 : Option Tmp} {t1 t2 : TypeId} {p1 p2 : String} {f1 f2 : Array Edge} {x : Operand}
    (hz : zi = (z.toNat : Int)) (hx : ∀ v, (a.put d1 v).eval x = v)
    (h : ∀ w', Below w.heap.size w w' → w'.heap.size = w.heap.size + 1 → BA (fun j => w.heap.size ≤ j) w' (some ⟨w.heap.size, 0, none⟩) 1 1 [z] → wpList Try.prog ops Q rest ((a.put d1 (.slice (some ⟨w.heap.size, 0, none⟩) 1 1)).put d2 (.slice (some ⟨w.heap.size, 0, none⟩) 1 1)) w') :
    wpList Try.prog ops Q ({ dst := d1, op := .buildSlice 26 1 #[(0, .const (.int .u8 zi))], type := t1, pos := p1, after := f1, guard := none } :: { dst := d2, op := .convert 26 26 x, type := t2, pos := p2, after := f2, guard := none } :: rest) a w := by
  obtain ⟨w', ew, k1, k2, k3⟩ := mark_at w z zi hz
  have hR := h w' k1 k2 k3
  clear h k1 k2 k3
  have hb : (w.alloc (.cells #[.int .u8 zi] 5)).heap[w.heap.size]? = some (.cells #[.int .u8 zi] 5) := heap_alloc_new _ _
  have hr := run_conv_at (w.alloc (.cells #[.int .u8 zi] 5)) w.heap.size 1 1 #[.int .u8 zi] hb
  have hxx := hx (.slice (some ⟨w.heap.size, 0, none⟩) 1 1)
  refine wpList_plain rfl fun K1 hK1 => ?_
  have hK1' := hK1 (a.put d1 (.slice (some ⟨w.heap.size, 0, none⟩) 1 1)) (w.alloc (.cells #[.int .u8 zi] 5)) ?_
  · clear hK1 hR hr hb hxx hx
    have HK : Hid _ := hK1'
    clear hK1' hz
    unfold Oper.wp execOp
    go_simp
    cases d1 <;> exact HK.out
  · refine wpList_plain rfl fun K2 hK2 => ?_
    have hK2' := hK2 _ w' hR
    clear hK2 hK1 hR
    unfold Oper.wp execOp
    simp only [hxx, hr, Sem.run_bind, Sem.run_pure, Result.andThen_ok]
    rw [ew] at hK2'
    exact hK2'
theorem lit1g (z : UInt8) {zi : Int} {g1 g2 : Option (Nat × Bool)} {ops : Array Oper} {rest : List Oper} {a : Act} {w : World} {Q : Exit → Act → World → Prop} {d1 d2 : Option Tmp} {t1 t2 : TypeId} {p1 p2 : String} {f1 f2 : Array Edge} {x : Operand}
    (hz : zi = (z.toNat : Int)) (hx : ∀ v, (a.put d1 v).eval x = v)
    (h1 : Region.wanted { dst := d1, op := .buildSlice 26 1 #[(0, .const (.int .u8 zi))], type := t1, pos := p1, after := f1, guard := g1 } (yielded ops a.tmps) = true)
    (h2 : ∀ v, Region.wanted { dst := d2, op := .convert 26 26 x, type := t2, pos := p2, after := f2, guard := g2 } (yielded ops (a.put d1 v).tmps) = true)
    (h : ∀ w', Below w.heap.size w w' → w'.heap.size = w.heap.size + 1 → BA (fun j => w.heap.size ≤ j) w' (some ⟨w.heap.size, 0, none⟩) 1 1 [z] → wpList Try.prog ops Q rest ((a.put d1 (.slice (some ⟨w.heap.size, 0, none⟩) 1 1)).put d2 (.slice (some ⟨w.heap.size, 0, none⟩) 1 1)) w') :
    wpList Try.prog ops Q ({ dst := d1, op := .buildSlice 26 1 #[(0, .const (.int .u8 zi))], type := t1, pos := p1, after := f1, guard := g1 } :: { dst := d2, op := .convert 26 26 x, type := t2, pos := p2, after := f2, guard := g2 } :: rest) a w := by
  obtain ⟨w', ew, k1, k2, k3⟩ := mark_at w z zi hz
  have hR := h w' k1 k2 k3
  clear h k1 k2 k3
  have hb : (w.alloc (.cells #[.int .u8 zi] 5)).heap[w.heap.size]? = some (.cells #[.int .u8 zi] 5) := heap_alloc_new _ _
  have hr := run_conv_at (w.alloc (.cells #[.int .u8 zi] 5)) w.heap.size 1 1 #[.int .u8 zi] hb
  have hxx := hx (.slice (some ⟨w.heap.size, 0, none⟩) 1 1)
  have h2' := h2 (.slice (some ⟨w.heap.size, 0, none⟩) 1 1)
  clear h2
  refine wpList_ung18 h1 ?_
  clear h1
  dsimp only
  refine wpList_plain rfl fun K1 hK1 => ?_
  have hK1' := hK1 (a.put d1 (.slice (some ⟨w.heap.size, 0, none⟩) 1 1)) (w.alloc (.cells #[.int .u8 zi] 5)) ?_
  · clear hK1 hR hr hb hxx hx h2'
    have HK : Hid _ := hK1'
    clear hK1' hz
    unfold Oper.wp execOp
    go_simp
    cases d1 <;> exact HK.out
  · refine wpList_ung18 h2' ?_
    dsimp only
    refine wpList_plain rfl fun K2 hK2 => ?_
    have hK2' := hK2 _ w' hR
    clear hK2 hK1 hR h2'
    unfold Oper.wp execOp
    simp only [hxx, hr, Sem.run_bind, Sem.run_pure, Result.andThen_ok]
    rw [ew] at hK2'
    exact hK2'
theorem bs2p {ops : Array Oper} {rest : List Oper} {a : Act} {w : World} {Q : Exit → Act → World → Prop} {d : Tmp} {tp : TypeId} {pos : String} {aft : Array Edge} {x y : Operand} (u1 u2 v1 v2 : Value) (hx : a.eval x = .agg #[u1, u2]) (hy : a.eval y = .agg #[v1, v2])
    (h : wpList Try.prog ops Q rest (a.put (some d) (.slice (some ⟨w.heap.size, 0, none⟩) 2 2)) (w.alloc (.cells #[u1, u2, v1, v2] 44))) :
    wpList Try.prog ops Q ({ dst := some d, op := .buildSlice 22 2 #[(0, x), (1, y)], type := tp, pos := pos, after := aft, guard := none } :: rest) a w := by
  refine wpList_plain rfl fun K hK => ?_
  have hK' : Hid _ := hK _ _ h
  clear hK h
  unfold Oper.wp execOp
  simp only [List.map_toArray, List.map_cons, List.map_nil, hx, hy]
  clear hx hy
  go_simp
  exact hK'.out
theorem bs2k {ops : Array Oper} {rest : List Oper} {a : Act} {w : World} {Q : Exit → Act → World → Prop} {d : Tmp} {tp : TypeId} {pos : String} {aft : Array Edge} {x y : Operand} (u1 u2 u3 v1 v2 v3 : Value) (hx : a.eval x = .agg #[u1, u2, u3]) (hy : a.eval y = .agg #[v1, v2, v3])
    (h : wpList Try.prog ops Q rest (a.put (some d) (.slice (some ⟨w.heap.size, 0, none⟩) 2 2)) (w.alloc (.cells #[u1, u2, u3, v1, v2, v3] 46))) :
    wpList Try.prog ops Q ({ dst := some d, op := .buildSlice 23 2 #[(0, x), (1, y)], type := tp, pos := pos, after := aft, guard := none } :: rest) a w := by
  refine wpList_plain rfl fun K hK => ?_
  have hK' : Hid _ := hK _ _ h
  clear hK h
  unfold Oper.wp execOp
  simp only [List.map_toArray, List.map_cons, List.map_nil, hx, hy]
  clear hx hy
  go_simp
  exact hK'.out
theorem at_bs (ty : TypeId) {n : Nat} {parts : Array (Nat × Operand)} {ops : Array Oper} {rest : List Oper} {a : Act} {w : World} {Q : Exit → Act → World → Prop} {dst : Option Tmp} {tp : TypeId} {pos : String} {aft : Array Edge}
    (h : wpList Try.prog ops Q ({ dst := dst, op := .buildSlice ty n parts, type := tp, pos := pos, after := aft, guard := none } :: rest) a w) : wpList Try.prog ops Q ({ dst := dst, op := .buildSlice ty n parts, type := tp, pos := pos, after := aft, guard := none } :: rest) a w := h
theorem Sl.pair {α : Type} {el : World → α → List Value → Prop} {sz : Nat} {A : Nat → Prop} {w : World} {g : Nat} {us vs : List Value} {t : TypeId} {x y : α} (hb : Blk w g (us ++ vs) t) (hx : Row el sz w x us) (hy : Row el sz w y vs) (hA : A g) : Sl el sz A w (some ⟨g, 0, none⟩) 2 2 [x, y] :=
  ⟨[us, vs], ⟨hx, hy, trivial⟩, rfl, Nat.le_refl _, by unfold maxLen; omega, fun e => by simp at e, fun _ => ⟨g, 0, rfl, hb.lt, hA, by simpa using hb.whole⟩⟩
theorem wSz {u : World} {p q : Tri} (h : Nd (fun _ => True) u wN1 p q) : Calls Try.prog 16 #[ndv wN1 p q] u fun e w' => e = .returned (.int .i64 11) ∧ Below u.heap.size u w' := by
  have := oSizeN u h wN1_lit
  rw [wSize] at this
  exact this
theorem wWy {u : World} {p q : Tri} (h : Nd (fun _ => True) u wN2 p q) {ka : Option Addr} {kn kz : Nat} (hk : Bs u ka kn kz [122]) : Calls Try.prog 21 #[ndv wN2 p q, .slice ka kn kz] u fun e w' => e = .returned (.int .i64 1) ∧ Below u.heap.size u w' := by
  have := oWayN u h (by decide) wN2_rise hk
  rw [wWay] at this
  exact this
theorem wCk {u : World} {p q : Tri} (h : Nd (fun _ => True) u wN2 p q) : Calls Try.prog 14 #[ndv wN2 p q] u fun e w' => e = .returned (.int .i64 0) ∧ Below u.heap.size u w' := by
  have := oCheckN u h wN2_lit
  rw [wN2_ok] at this
  exact this
theorem BA.bel18 {A : Nat → Prop} {w w' : World} {p : Option Addr} {m q : Nat} {b : List UInt8} (h : BA A w p m q b) (hb : Below w.heap.size w w') : BA A w' p m q b := h.keep hb.size fun j hj _ => hb.block j hj
theorem box3 (u : World) (g : Nat) (vs : List Value) (hv : vs.length = 3) (hg : g = u.heap.size) {W : World} (hW : W = (u.alloc (.cells #[.bool false, .slice none 0 0, .slice none 0 0] 25)).setCells g 0 vs) : Below u.heap.size u W ∧ W.heap.size = u.heap.size + 1 ∧ Blk W g vs 25 := by
  subst hg hW
  refine ⟨below_sets (Nat.le_refl _) _ (below_alloc _ _) 0, by rw [size_sets]; simp, Blk.setsW (Blk.newAt u _ _ _ rfl _ rfl) vs hv⟩
theorem box3w (u : World) (g : Nat) (vs : List Value) (hv : vs.length = 3) (t : Blk u g [.bool false, .slice none 0 0, .slice none 0 0] 25) {B : Nat} (hB : B ≤ g) {W : World} (hW : W = u.setCells g 0 vs) : Below B u W ∧ W.heap.size = u.heap.size ∧ Blk W g vs 25 := by
  subst hW
  exact ⟨below_sets hB _ (Below.refl _ _) 0, size_sets _ _ _ _, Blk.setsW t vs hv⟩
set_option maxRecDepth 100000 in
set_option maxHeartbeats 8000000 in
theorem lWorks18 (w : World) : Calls Try.prog 8 #[] w fun e w' => e = .returned (.bool true) ∧ Below w.heap.size w w' := by
  go_enter Try.func8, Try.ntmps8
  go_wp2_with (first | ((with_reducible refine lit1 97 (zi := 97) ?_ ?_ ?_); (focus rfl); (focus (intro v; rfl)); intro w1 b1 s1 m1) | ((with_reducible refine lit1 49 (zi := 49) ?_ ?_ ?_); (focus rfl); (focus (intro v; rfl)); intro w2 b2 s2 m2) | ((with_reducible refine lit1 99 (zi := 99) ?_ ?_ ?_); (focus rfl); (focus (intro v; rfl)); intro w3 b3 s3 m3) | ((with_reducible refine lit1 50 (zi := 50) ?_ ?_ ?_); (focus rfl); (focus (intro v; rfl)); intro w4 b4 s4 m4) | (with_reducible refine at_bs 22 ?_; with_reducible refine Hid.out ?_))
  unfold Hid
  refine bs2p _ _ _ _ rfl rfl ?_
  go_wp2_with (first | (with_reducible refine at_st 25 ?_; with_reducible refine Hid.out ?_))
  unfold Hid
  rw [s1] at m2 s2
  rw [s2] at m3 s3
  rw [s3] at m4 s4
  have c1 : BA (fun _ => True) w4 _ 1 1 [97] := (((m1.bel18 b2).bel18 b3).bel18 b4).mono fun _ _ _ => trivial
  have c2 : BA (fun _ => True) w4 _ 1 1 [49] := ((m2.bel18 b3).bel18 b4).mono fun _ _ _ => trivial
  have c3 : BA (fun _ => True) w4 _ 1 1 [99] := (m3.bel18 b4).mono fun _ _ _ => trivial
  have c4 : BA (fun _ => True) w4 _ 1 1 [50] := m4.mono fun _ _ _ => trivial
  have q : Below w.heap.size w w4 := ((b1.trans (b2.mono (by omega))).trans (b3.mono (by omega))).trans (b4.mono (by omega))
  clear m1 m2 m3 m4 b1 b2 b3 b4 s1 s2 s3
  obtain ⟨V, hV⟩ : ∃ V, V = w4.alloc (.cells #[.slice (some ⟨w.heap.size, 0, none⟩) 1 1, .slice (some ⟨w.heap.size + 1, 0, none⟩) 1 1, .slice (some ⟨w.heap.size + 1 + 1, 0, none⟩) 1 1, .slice (some ⟨w.heap.size + 1 + 1 + 1, 0, none⟩) 1 1] 44) := ⟨_, rfl⟩
  rw [← hV]
  have kV : Below w4.heap.size w4 V := by rw [hV]; exact below_alloc _ _
  have sV : V.heap.size = w.heap.size + 1 + 1 + 1 + 1 + 1 := by rw [hV]; simp [s4]
  have tV : Blk V (w.heap.size + 1 + 1 + 1 + 1) ([.slice (some ⟨w.heap.size, 0, none⟩) 1 1, .slice (some ⟨w.heap.size + 1, 0, none⟩) 1 1] ++ [.slice (some ⟨w.heap.size + 1 + 1, 0, none⟩) 1 1, .slice (some ⟨w.heap.size + 1 + 1 + 1, 0, none⟩) 1 1]) 44 := by rw [hV]; exact Blk.newAt w4 _ _ _ s4 _ rfl
  clear hV
  have N1 : Nd (fun _ => True) V wN1 ⟨some ⟨w.heap.size + 1 + 1 + 1 + 1, 0, none⟩, 2, 2⟩ T0 := ⟨Sl.pair tV (elPr.row ⟨_, _, _, _, _, _, rfl, c1.bel18 kV, c2.bel18 kV⟩) (elPr.row ⟨_, _, _, _, _, _, rfl, c3.bel18 kV, c4.bel18 kV⟩) trivial, Sl.nil _ _ _ _⟩
  replace q := q.trans (kV.mono q.size)
  clear tV c1 c2 c3 c4 kV s4
  obtain ⟨U, hU⟩ : ∃ U, U = V.alloc (.cells #[.bool false, .slice none 0 0, .slice none 0 0] 25) := ⟨_, rfl⟩
  rw [← hU]
  have tU : Blk U (w.heap.size + 1 + 1 + 1 + 1 + 1) [.bool false, .slice none 0 0, .slice none 0 0] 25 := by rw [hU]; exact Blk.newAt V _ _ _ sV _ rfl
  refine st' 25 (.tmp 1) (.tmp 23) 3 sizeNd (w.heap.size + 1 + 1 + 1 + 1 + 1) 0 [.bool true, .slice (some ⟨w.heap.size + 1 + 1 + 1 + 1, 0, none⟩) 2 2, .slice none 0 0] rfl (ndc_one wN1 ⟨some ⟨w.heap.size + 1 + 1 + 1 + 1, 0, none⟩, 2, 2⟩ T0) (tU.there 0 3 (by decide)) rfl rfl ?_
  intro W1 hW
  rw [hU] at hW
  clear tU hU
  obtain ⟨kW, sW, X1⟩ := box3 V _ _ rfl sV.symm hW
  clear hW
  replace N1 := N1.below kW
  replace q := q.trans (kW.mono q.size)
  clear kW
  rw [sV] at sW
  clear sV
  have hL : (nodeL wN1).length = 496 := nodeL_len (by rw [wSize]; decide)
  have CP : Hid (Calls Try.prog 9 #[.agg (List.toArray [.bool true, .slice (some ⟨w.heap.size + 1 + 1 + 1 + 1, 0, none⟩) 2 2, .slice none 0 0])] W1 fun e w' => ∃ s m c, e = .returned (.tuple #[.slice s m c, .int .i64 0]) ∧ Bs w' s m c (nodeL wN1) ∧ Below W1.heap.size W1 w') := by
    have := oPutN W1 N1 wN1_lit
    rw [wN1_ok, show putN wN1 = nodeL wN1 from if_pos wN1_ok] at this
    exact this.mono fun e w' h => by obtain ⟨s, m, c, h1, h2, h3⟩ := h; exact ⟨s, m, c, h1, h2.toBs, h3⟩
  go_wp2_with (first | ((with_reducible refine at_ld 25 ?_); refine ld 25 (.tmp 1) 3 sizeNd _ Try.underlying25 rfl (w.heap.size + 1 + 1 + 1 + 1 + 1) 0 [.bool true, .slice (some ⟨w.heap.size + 1 + 1 + 1 + 1, 0, none⟩) 2 2, .slice none 0 0] rfl X1.whole rfl ?_) | (go_at_call 9; go_must (refine CP.out.mono ?_); rintro e W2 ⟨s, m, c, rfl, HB, k2⟩) | (with_reducible refine at_st 25 ?_; with_reducible refine Hid.out ?_) | (go_at_call 11; with_reducible refine Hid.out ?_))
  replace X1 := X1.below k2 X1.lt
  replace N1 := N1.below k2
  replace q := q.trans (k2.mono q.size)
  clear k2 CP
  unfold Hid
  have hm : m = 496 := by rw [← HB.len]; exact hL
  have CG := oGetN W2 HB (by omega)
  rw [node_back wN1_ok] at CG
  refine CG.mono ?_
  clear CG
  rintro e W3 ⟨p2, q2, rfl, N4, k3⟩
  dsimp only at N4
  replace X1 := X1.below k3 X1.lt
  replace N1 := N1.below k3
  replace q := q.trans (k3.mono q.size)
  replace HB := HB.below k3 (Nat.le_refl _)
  replace N4 : Nd (fun _ => True) W3 wN1 p2 q2 := N4.mono fun _ _ _ => trivial
  clear k3 hL
  go_wp2_with (first | (with_reducible refine at_st 25 ?_; with_reducible refine Hid.out ?_))
  unfold Hid
  obtain ⟨U, hU⟩ : ∃ U, U = W3.alloc (.cells #[.bool false, .slice none 0 0, .slice none 0 0] 25) := ⟨_, rfl⟩
  rw [← hU]
  have tU : Blk U W3.heap.size [.bool false, .slice none 0 0, .slice none 0 0] 25 := by rw [hU]; exact Blk.newAt W3 _ _ _ rfl _ rfl
  refine st' 25 (.tmp 4) (.tmp 32) 3 sizeNd W3.heap.size 0 (ndc wN1 p2 q2) rfl (ndc_one wN1 p2 q2) (tU.there 0 3 (by decide)) rfl rfl ?_
  intro W4 hW
  rw [hU] at hW
  clear tU hU
  obtain ⟨k4, s4, X4⟩ := box3 W3 _ _ rfl rfl hW
  clear hW
  obtain ⟨g4, hg4⟩ : ∃ g, g = W3.heap.size := ⟨_, rfl⟩
  rw [← hg4] at X4 ⊢
  replace X1 := X1.below k4 X1.lt
  replace N1 := N1.below k4
  replace q := q.trans (k4.mono q.size)
  replace HB := HB.below k4 (Nat.le_refl _)
  replace N4 := N4.below k4
  clear hg4 k4 s4
  go_wp2_with (first | ((with_reducible refine at_ld 25 ?_); refine ld 25 (.tmp 1) 3 sizeNd _ Try.underlying25 rfl (w.heap.size + 1 + 1 + 1 + 1 + 1) 0 [.bool true, .slice (some ⟨w.heap.size + 1 + 1 + 1 + 1, 0, none⟩) 2 2, .slice none 0 0] rfl X1.whole rfl ?_) | ((with_reducible refine lit1 98 (zi := 98) ?_ ?_ ?_); (focus rfl); (focus (intro v; rfl)); intro w5 b5 s5 m5) | (go_at_call 19; with_reducible refine Hid.out ?_))
  unfold Hid
  replace X1 := X1.below b5 X1.lt
  replace N1 := N1.below b5
  replace q := q.trans (b5.mono q.size)
  replace HB := HB.below b5 (Nat.le_refl _)
  replace N4 := N4.below b5
  replace X4 := X4.below b5 X4.lt
  have CF := oFindN w5 N1 (by decide) wN1_rise m5.1
  rw [wFind] at CF
  refine CF.mono ?_
  clear CF m5 s5 b5
  rintro e W6 ⟨rfl, k6⟩
  replace X1 := X1.below k6 X1.lt
  replace N1 := N1.below k6
  replace q := q.trans (k6.mono q.size)
  replace HB := HB.below k6 (Nat.le_refl _)
  replace N4 := N4.below k6
  replace X4 := X4.below k6 X4.lt
  clear k6
  go_wp2_with (first | ((with_reducible refine lit1 97 (zi := 97) ?_ ?_ ?_); (focus rfl); (focus (intro v; rfl)); intro w7 b7 s7 m7) | ((with_reducible refine lit1 102 (zi := 102) ?_ ?_ ?_); (focus rfl); (focus (intro v; rfl)); intro w8 b8 s8 m8) | (with_reducible refine at_bs 23 ?_; with_reducible refine Hid.out ?_))
  unfold Hid
  refine bs2k _ _ _ _ _ _ rfl rfl ?_
  go_wp2_with (first | (with_reducible refine at_st 25 ?_; with_reducible refine Hid.out ?_))
  unfold Hid
  rw [s7] at m8 s8
  have c7 : BA (fun _ => True) w8 _ 1 1 [97] := (m7.bel18 b8).mono fun _ _ _ => trivial
  have c8 : BA (fun _ => True) w8 _ 1 1 [102] := m8.mono fun _ _ _ => trivial
  replace X1 := X1.below b7 X1.lt
  replace N1 := N1.below b7
  replace q := q.trans (b7.mono q.size)
  replace HB := HB.below b7 (Nat.le_refl _)
  replace N4 := N4.below b7
  replace X4 := X4.below b7 X4.lt
  replace X1 := X1.below b8 X1.lt
  replace N1 := N1.below b8
  replace q := q.trans (b8.mono q.size)
  replace HB := HB.below b8 (Nat.le_refl _)
  replace N4 := N4.below b8
  replace X4 := X4.below b8 X4.lt
  clear m7 m8 b7 b8 s7
  obtain ⟨V, hV⟩ : ∃ V, V = w8.alloc (.cells #[.slice (some ⟨W6.heap.size, 0, none⟩) 1 1, .int .i64 3, .int .i64 0, .slice (some ⟨W6.heap.size + 1, 0, none⟩) 1 1, .int .i64 4, .int .i64 0] 46) := ⟨_, rfl⟩
  rw [← hV]
  have kV : Below w8.heap.size w8 V := by rw [hV]; exact below_alloc _ _
  have sV : V.heap.size = W6.heap.size + 1 + 1 + 1 := by rw [hV]; simp [s8]
  have tV : Blk V (W6.heap.size + 1 + 1) ([.slice (some ⟨W6.heap.size, 0, none⟩) 1 1, .int .i64 3, .int .i64 0] ++ [.slice (some ⟨W6.heap.size + 1, 0, none⟩) 1 1, .int .i64 4, .int .i64 0]) 46 := by rw [hV]; exact Blk.newAt w8 _ _ _ s8 _ rfl
  clear hV
  have N2 : Nd (fun _ => True) V wN2 T0 ⟨some ⟨W6.heap.size + 1 + 1, 0, none⟩, 2, 2⟩ := ⟨Sl.nil _ _ _ _, Sl.pair tV (elKd.row ⟨_, _, _, rfl, c7.bel18 kV, by unfold i64; decide, by unfold i64; decide⟩) (elKd.row ⟨_, _, _, rfl, c8.bel18 kV, by unfold i64; decide, by unfold i64; decide⟩) trivial⟩
  replace X1 := X1.below kV X1.lt
  replace N1 := N1.below kV
  replace q := q.trans (kV.mono q.size)
  replace HB := HB.below kV (Nat.le_refl _)
  replace N4 := N4.below kV
  replace X4 := X4.below kV X4.lt
  clear tV c7 c8 kV s8
  obtain ⟨U, hU⟩ : ∃ U, U = V.alloc (.cells #[.bool false, .slice none 0 0, .slice none 0 0] 25) := ⟨_, rfl⟩
  rw [← hU]
  have tU : Blk U (W6.heap.size + 1 + 1 + 1) [.bool false, .slice none 0 0, .slice none 0 0] 25 := by rw [hU]; exact Blk.newAt V _ _ _ sV _ rfl
  refine st' 25 (.tmp 8) (.tmp 48) 3 sizeNd (W6.heap.size + 1 + 1 + 1) 0 [.bool false, .slice none 0 0, .slice (some ⟨W6.heap.size + 1 + 1, 0, none⟩) 2 2] rfl (ndc_one wN2 T0 ⟨some ⟨W6.heap.size + 1 + 1, 0, none⟩, 2, 2⟩) (tU.there 0 3 (by decide)) rfl rfl ?_
  intro W9 hW
  rw [hU] at hW
  clear tU hU
  obtain ⟨kW, sW, X8⟩ := box3 V _ _ rfl sV.symm hW
  clear hW sV
  replace X1 := X1.below kW X1.lt
  replace N1 := N1.below kW
  replace q := q.trans (kW.mono q.size)
  replace HB := HB.below kW (Nat.le_refl _)
  replace N4 := N4.below kW
  replace X4 := X4.below kW X4.lt
  replace N2 := N2.below kW
  clear kW sW
  have CS0 := oSplitN W9 N2 wN2_lit
  rw [wSplit] at CS0
  dsimp only at CS0
  have CS : Hid (Calls Try.prog 23 #[.agg (List.toArray [.bool false, .slice none 0 0, .slice (some ⟨W6.heap.size + 1 + 1, 0, none⟩) 2 2])] W9 fun e w' => ∃ p1 q1 p2 q2, e = .returned (.tuple #[ndv ⟨false, [], [⟨[97], 3, 0⟩]⟩ p1 q1, ndv ⟨false, [], [⟨[102], 4, 0⟩]⟩ p2 q2, .bool true]) ∧ Nd (fun j => W9.heap.size ≤ j) w' ⟨false, [], [⟨[97], 3, 0⟩]⟩ p1 q1 ∧ Nd (fun j => W9.heap.size ≤ j) w' ⟨false, [], [⟨[102], 4, 0⟩]⟩ p2 q2 ∧ Below W9.heap.size W9 w') := CS0
  clear CS0
  go_wp2_with (first | ((with_reducible refine at_ld 25 ?_); refine ld 25 (.tmp 8) 3 sizeNd _ Try.underlying25 rfl (W6.heap.size + 1 + 1 + 1) 0 [.bool false, .slice none 0 0, .slice (some ⟨W6.heap.size + 1 + 1, 0, none⟩) 2 2] rfl X8.whole rfl ?_) | (go_at_call 23; go_must (refine CS.out.mono ?_); rintro e W10 ⟨⟨pa, pn, pc⟩, ⟨qa, qn, qc⟩, ⟨ra, rn, rc⟩, ⟨sa, sn, sc⟩, rfl, Na, Nb, k10⟩) | (with_reducible refine at_st 25 ?_; with_reducible refine Hid.out ?_))
  unfold Hid
  have e1 : qn = 1 := Na.lk.symm
  have e2 : sn = 1 := Nb.lk.symm
  subst e1 e2
  clear Na Nb
  replace X1 := X1.below k10 X1.lt
  replace N1 := N1.below k10
  replace q := q.trans (k10.mono q.size)
  replace HB := HB.below k10 (Nat.le_refl _)
  replace N4 := N4.below k10
  replace X4 := X4.below k10 X4.lt
  replace N2 := N2.below k10
  replace X8 := X8.below k10 X8.lt
  clear k10 CS
  obtain ⟨U, hU⟩ : ∃ U, U = (W10.alloc (.cells #[.bool false, .slice none 0 0, .slice none 0 0] 25)).alloc (.cells #[.bool false, .slice none 0 0, .slice none 0 0] 25) := ⟨_, rfl⟩
  rw [← hU]
  have t9 : Blk U W10.heap.size [.bool false, .slice none 0 0, .slice none 0 0] 25 := by rw [hU]; exact (Blk.newAt W10 _ _ _ rfl _ rfl).old _
  have t10 : Blk U (W10.heap.size + 1) [.bool false, .slice none 0 0, .slice none 0 0] 25 := by rw [hU]; exact Blk.newAt (W10.alloc _) _ _ _ (by simp) _ rfl
  have kU : Below W10.heap.size W10 U := by rw [hU]; exact (below_alloc W10 _).alloc (by simp) _
  clear hU
  refine st' 25 (.tmp 9) (.tmp 52) 3 sizeNd W10.heap.size 0 [.bool false, .slice pa pn pc, .slice qa 1 qc] rfl (ndc_one ⟨false, [], []⟩ ⟨pa, pn, pc⟩ ⟨qa, 1, qc⟩) (t9.there 0 3 (by decide)) rfl rfl ?_
  intro W11 hW
  have t10' : Blk W11 (W10.heap.size + 1) [.bool false, .slice none 0 0, .slice none 0 0] 25 := by rw [hW]; exact Blk.setsO (by omega) _ t10 0
  obtain ⟨k11, s11, X9⟩ := box3w U _ _ rfl t9 (Nat.le_refl _) hW
  clear hW t9 t10
  go_wp2_with (first | (with_reducible refine at_st 25 ?_; with_reducible refine Hid.out ?_))
  unfold Hid
  refine st' 25 (.tmp 10) (.tmp 53) 3 sizeNd (W10.heap.size + 1) 0 [.bool false, .slice ra rn rc, .slice sa 1 sc] rfl (ndc_one ⟨false, [], []⟩ ⟨ra, rn, rc⟩ ⟨sa, 1, sc⟩) (t10'.there 0 3 (by decide)) rfl rfl ?_
  intro W12 hW
  replace X9 : Blk W12 W10.heap.size [.bool false, .slice pa pn pc, .slice qa 1 qc] 25 := by rw [hW]; exact Blk.setsO (by omega) _ X9 0
  obtain ⟨k12, s12, X10⟩ := box3w W11 _ _ rfl t10' (B := W10.heap.size) (by omega) hW
  clear hW t10'
  replace kU : Below W10.heap.size W10 W12 := (kU.trans k11).trans k12
  clear k11 k12 s11 s12
  replace X1 := X1.below kU X1.lt
  replace N1 := N1.below kU
  replace q := q.trans (kU.mono q.size)
  replace HB := HB.below kU (Nat.le_refl _)
  replace N4 := N4.below kU
  replace X4 := X4.below kU X4.lt
  replace N2 := N2.below kU
  replace X8 := X8.below kU X8.lt
  clear kU
  have CM0 := rSameN W12 N1 N4 (by decide) (by decide)
  have CM : Hid (Calls Try.prog 18 #[.agg (List.toArray [.bool true, .slice (some ⟨w.heap.size + 1 + 1 + 1 + 1, 0, none⟩) 2 2, .slice none 0 0]), .agg (ndc wN1 p2 q2).toArray] W12 fun e w' => e = .returned (.bool true) ∧ Below W12.heap.size W12 w') := CM0
  clear CM0
  go_wp2_with (first | ((with_reducible refine at_ldg18 25 ?_); refine ldg18 25 (.tmp 1) 3 (by rfl) sizeNd _ Try.underlying25 rfl (w.heap.size + 1 + 1 + 1 + 1 + 1) 0 [.bool true, .slice (some ⟨w.heap.size + 1 + 1 + 1 + 1, 0, none⟩) 2 2, .slice none 0 0] rfl X1.whole rfl ?_) | ((with_reducible refine at_ldg18 25 ?_); refine ldg18 25 (.tmp 4) 3 (by rfl) sizeNd _ Try.underlying25 rfl (g4) 0 (ndc wN1 p2 q2) rfl X4.whole rfl ?_) | (go_at_call 18; go_must (refine CM.out.mono ?_); rintro e W13 ⟨rfl, k13⟩; replace X1 := X1.below k13 X1.lt; replace N1 := N1.below k13; replace q := q.trans (k13.mono q.size); replace HB := HB.below k13 (Nat.le_refl _); replace N4 := N4.below k13; replace X4 := X4.below k13 X4.lt; replace N2 := N2.below k13; replace X8 := X8.below k13 X8.lt; replace X9 := X9.below k13 X9.lt; replace X10 := X10.below k13 X10.lt; clear k13) | (go_at_call 16; go_must (refine (wSz N1).mono ?_); rintro e W14 ⟨rfl, k14⟩; replace X1 := X1.below k14 X1.lt; replace N1 := N1.below k14; replace q := q.trans (k14.mono q.size); replace HB := HB.below k14 (Nat.le_refl _); replace N4 := N4.below k14; replace X4 := X4.below k14 X4.lt; replace N2 := N2.below k14; replace X8 := X8.below k14 X8.lt; replace X9 := X9.below k14 X9.lt; replace X10 := X10.below k14 X10.lt; clear k14) | ((with_reducible refine at_ldg18 25 ?_); refine ldg18 25 (.tmp 8) 3 (by rfl) sizeNd _ Try.underlying25 rfl (W6.heap.size + 1 + 1 + 1) 0 [.bool false, .slice none 0 0, .slice (some ⟨W6.heap.size + 1 + 1, 0, none⟩) 2 2] rfl X8.whole rfl ?_) | ((with_reducible refine lit1g 122 (zi := 122) ?_ ?_ ?_ ?_ ?_); (focus rfl); (focus (intro v; rfl)); (focus rfl); (focus (intro v; rfl)); intro w15 b15 s15 m15; replace X1 := X1.below b15 X1.lt; replace N1 := N1.below b15; replace q := q.trans (b15.mono q.size); replace HB := HB.below b15 (Nat.le_refl _); replace N4 := N4.below b15; replace X4 := X4.below b15 X4.lt; replace N2 := N2.below b15; replace X8 := X8.below b15 X8.lt; replace X9 := X9.below b15 X9.lt; replace X10 := X10.below b15 X10.lt; clear b15; clear s15) | (go_at_call 21; go_must (refine (wWy N2 m15.1).mono ?_); rintro e W16 ⟨rfl, k16⟩; replace X1 := X1.below k16 X1.lt; replace N1 := N1.below k16; replace q := q.trans (k16.mono q.size); replace HB := HB.below k16 (Nat.le_refl _); replace N4 := N4.below k16; replace X4 := X4.below k16 X4.lt; replace N2 := N2.below k16; replace X8 := X8.below k16 X8.lt; replace X9 := X9.below k16 X9.lt; replace X10 := X10.below k16 X10.lt; clear k16; clear m15; have Y9 : W16.cell? ⟨W10.heap.size, 2, none⟩ = some (.slice qa 1 qc) := X9.cell 2; have Y10 : W16.cell? ⟨W10.heap.size + 1, 2, none⟩ = some (.slice sa 1 sc) := X10.cell 2) | (go_at_call 14; go_must (refine (wCk N2).mono ?_); rintro e W17 ⟨rfl, k17⟩; replace X1 := X1.below k17 X1.lt; replace N1 := N1.below k17; replace q := q.trans (k17.mono q.size); replace HB := HB.below k17 (Nat.le_refl _); replace N4 := N4.below k17; replace X4 := X4.below k17 X4.lt; replace N2 := N2.below k17; replace X8 := X8.below k17 X8.lt; replace X9 := X9.below k17 X9.lt; replace X10 := X10.below k17 X10.lt; clear k17))
  go_ret
  exact ⟨rfl, q⟩

end Go.Proofs.Ytnmmopneacdgfaa

/-
  The contract of layer 18's law's side: Light. No condition.
-/
namespace Go.Proofs.Ytnmmopneacdgfaa
open Go.RowKit
set_option linter.unusedVariables false
structure Ltd (n : NodeS) : Prop where
  ps : n.pairs.length ≤ 40
  ks : n.kids.length ≤ 60
  p : ∀ x ∈ n.pairs, x.key.length ≤ 300 ∧ x.value.length ≤ 300
  k : ∀ x ∈ n.kids, x.key.length ≤ 300
theorem Ltd.lit {n : NodeS} (h : Ltd n) : Lit n := ⟨Nat.le_trans h.ps (by decide), Nat.le_trans h.ks (by decide), fun x hx => by have := h.p x hx; omega, fun x hx => by have := h.k x hx; omega⟩
theorem all_of {α : Type} {l : List α} {P : α → Prop} (h : ∀ (j : Nat) (x : α), j < l.length → l[j]? = some x → P x) : ∀ x ∈ l, P x := fun x hx => by
  obtain ⟨j, hj, e⟩ := List.getElem_of_mem hx
  exact h j x hj (by rw [List.getElem?_eq_getElem hj, e])
set_option maxRecDepth 100000 in
set_option maxHeartbeats 4000000 in
theorem lLight18 (w : World) {A : Nat → Prop} {n : NodeS} {p q : Tri} (h : Nd A w n p q) : Calls Try.prog 7 #[ndv n p q] w fun e w' => ∃ z : Int, e = .returned (.int .i64 z) ∧ (z = 0 ∧ Ltd n ∨ z = 1) ∧ Below w.heap.size w w' := by
  have l1 := h.lp
  have l2 := h.lk
  have hc1 := Sl.cap h.ps
  have hc2 := Sl.cap h.ks
  unfold maxLen at hc1 hc2
  obtain ⟨lf, ps, ks⟩ := n
  obtain ⟨pa, pn, pc⟩ := p
  obtain ⟨qa, qn, qc⟩ := q
  dsimp only at *
  obtain ⟨V, hV⟩ : ∃ V, V = w.alloc (.cells (List.toArray [.bool lf, .slice pa pn pc, .slice qa qn qc]) 25) := ⟨_, rfl⟩
  have bV : Blk V w.heap.size [.bool lf, .slice pa pn pc, .slice qa qn qc] 25 := by rw [hV]; exact Blk.newAt w _ _ w.heap.size rfl _ rfl
  have kW : Below w.heap.size w V := by rw [hV]; exact below_alloc _ _
  have X1 : V.cell? ⟨w.heap.size, 1, none⟩ = some (.slice pa pn pc) := bV.cell 1
  have X2 : V.cell? ⟨w.heap.size, 2, none⟩ = some (.slice qa qn qc) := bV.cell 2
  have HP : Hid (SlP A V pa pn pc ps) := h.ps.below kW
  have HK : Hid (SlD A V qa qn qc ks) := h.ks.below kW
  unfold ndv ndc
  dsimp only
  have HX1 : Hid (∀ u, Below V.heap.size V u → u.cell? ⟨w.heap.size, 1, none⟩ = some (.slice pa pn pc)) := fun u hu => (bV.below hu bV.lt).cell 1
  have HX2 : Hid (∀ u, Below V.heap.size V u → u.cell? ⟨w.heap.size, 2, none⟩ = some (.slice qa qn qc)) := fun u hu => (bV.below hu bV.lt).cell 2
  have hW : ∀ u, Below V.heap.size V u → Below w.heap.size w u := fun u hu => kW.trans (hu.mono kW.size)
  have HD : Hid (pn ≤ 40 → qn ≤ 60 → (∀ (j : Nat) (x : PairS), j < pn → ps[j]? = some x → x.key.length ≤ 300 ∧ x.value.length ≤ 300) → (∀ (j : Nat) (x : KidS), j < qn → ks[j]? = some x → x.key.length ≤ 300) → Ltd ⟨lf, ps, ks⟩) := fun a b c d => ⟨by show ps.length ≤ _; omega, by show ks.length ≤ _; omega, all_of fun j x hj hx => c j x (by rw [← l1]; exact hj) hx, all_of fun j x hj hx => d j x (by rw [← l2]; exact hj) hx⟩
  clear h bV
  by_cases a1 : 40 < pn
  · have b1 : (40 : Int) < (pn : Int) := by omega
    go_enter Try.func7, Try.ntmps7
    go_upto_region 1 with fail
    rw [← hV]
    clear hV
    go_wp2_with fail
    go_ret
    exact ⟨1, rfl, Or.inr rfl, kW⟩
  · have b1 : ¬ (40 : Int) < (pn : Int) := by omega
    by_cases a2 : 60 < qn
    · have b2 : (60 : Int) < (qn : Int) := by omega
      go_enter Try.func7, Try.ntmps7
      go_upto_region 1 with fail
      rw [← hV]
      clear hV
      go_wp2_with fail
      go_ret
      exact ⟨1, rfl, Or.inr rfl, kW⟩
    · have b2 : ¬ (60 : Int) < (qn : Int) := by omega
      go_enter Try.func7, Try.ntmps7
      go_upto_region 1 with fail
      rw [← hV]
      clear hV
      go_wp2_with fail
      go_loopw [3] (fun i wr => ∃ k : Nat, k ≤ pn ∧ i = .int .i64 (k : Int) ∧ Hid (∀ (j : Nat) (x : PairS), j < k → ps[j]? = some x → x.key.length ≤ 300 ∧ x.value.length ≤ 300) ∧ Below V.heap.size V wr) (fun i _ => pn - (intOf i).toNat)
      case atStart => exact ⟨0, Nat.zero_le _, rfl, (fun j x hj => by omega), Below.refl _ _⟩
      case round =>
        clear X1 X2
        obtain ⟨k, hk, rfl, HI, hb⟩ := hrel
        have X1 := HX1.out wr hb
        by_cases hlt : k < pn
        · have i0 : (k : Int) < (pn : Int) := by omega
          obtain ⟨x, hx⟩ : ∃ x, ps[k]? = some x := ⟨_, List.getElem?_eq_getElem (by omega)⟩
          obtain ⟨b, o, kp, km, kc, vp, vm, vc, ea, c1, c2, hB1, hB2, -, -⟩ := HP.out.cells hb hx
          subst ea
          have e1 : x.key.length = km := hB1.1.len
          have e2 : x.value.length = vm := hB2.1.len
          clear hB1 hB2
          by_cases h1 : 300 < km
          · have d1 : (300 : Int) < (km : Int) := by omega
            clear hx
            go_wp2_with fail
            go_ret
            exact ⟨1, rfl, Or.inr rfl, hW wr hb⟩
          · have d1 : ¬ (300 : Int) < (km : Int) := by omega
            by_cases h2 : 300 < vm
            · have d2 : (300 : Int) < (vm : Int) := by omega
              clear hx
              go_wp2_with fail
              go_ret
              exact ⟨1, rfl, Or.inr rfl, hW wr hb⟩
            · have d2 : ¬ (300 : Int) < (vm : Int) := by omega
              have HN : Hid (∀ (j : Nat) (x : PairS), j < k + 1 → ps[j]? = some x → x.key.length ≤ 300 ∧ x.value.length ≤ 300) := fun j y hj hy => by
                by_cases e : j = k
                · subst e
                  rw [hx] at hy
                  rw [← Option.some.inj hy]
                  omega
                · exact HI.out j y (by omega) hy
              clear hx HI
              go_wp2_with fail
              go_roundw
              case rel => exact ⟨k + 1, by omega, by go_num, HN, hb⟩
              case measure => simp [intOf]; omega
        · have i0 : ¬ (k : Int) < (pn : Int) := by omega
          have HI1 : Hid (∀ (j : Nat) (x : PairS), j < pn → ps[j]? = some x → x.key.length ≤ 300 ∧ x.value.length ≤ 300) := fun j x hj hx => HI.out j x (by omega) hx
          clear HI HP
          go_wp2_with fail
          rename World => wo
          go_loopw [4] (fun i wr => ∃ k : Nat, k ≤ qn ∧ i = .int .i64 (k : Int) ∧ Hid (∀ (j : Nat) (x : KidS), j < k → ks[j]? = some x → x.key.length ≤ 300) ∧ Below V.heap.size V wr) (fun i _ => qn - (intOf i).toNat)
          case atStart => exact ⟨0, Nat.zero_le _, rfl, (fun j x hj => by omega), hb⟩
          case round =>
            clear X1 hb
            obtain ⟨k2, hk2, rfl, HI2, hb⟩ := hrel
            have X2 := HX2.out wr hb
            by_cases hlt2 : k2 < qn
            · have i1 : (k2 : Int) < (qn : Int) := by omega
              obtain ⟨x, hx⟩ : ∃ x, ks[k2]? = some x := ⟨_, List.getElem?_eq_getElem (by omega)⟩
              obtain ⟨b, o, kp, km, kc, ea, c1, -, -, hB1, -, -⟩ := HK.out.cells hb hx
              subst ea
              have e1 : x.key.length = km := hB1.1.len
              clear hB1
              by_cases h1 : 300 < km
              · have d1 : (300 : Int) < (km : Int) := by omega
                clear hx
                go_wp2_with fail
                go_ret
                exact ⟨1, rfl, Or.inr rfl, hW wr hb⟩
              · have d1 : ¬ (300 : Int) < (km : Int) := by omega
                have HN : Hid (∀ (j : Nat) (x : KidS), j < k2 + 1 → ks[j]? = some x → x.key.length ≤ 300) := fun j y hj hy => by
                  by_cases e : j = k2
                  · subst e
                    rw [hx] at hy
                    rw [← Option.some.inj hy]
                    omega
                  · exact HI2.out j y (by omega) hy
                clear hx HI2
                go_wp2_with fail
                go_roundw
                case rel => exact ⟨k2 + 1, by omega, by go_num, HN, hb⟩
                case measure => simp [intOf]; omega
            · have i1 : ¬ (k2 : Int) < (qn : Int) := by omega
              have HL : Hid (Ltd ⟨lf, ps, ks⟩) := HD.out (by omega) (by omega) HI1.out (fun j x hj hx => HI2.out j x (by omega) hx)
              clear HI1 HI2
              go_wp2_with fail
              go_ret
              exact ⟨0, rfl, Or.inl ⟨rfl, HL.out⟩, hW wr hb⟩

end Go.Proofs.Ytnmmopneacdgfaa

/-
  Contracts of layer 18's reference: what is wrong with a pair or a kid. Condition: a node of at most a hundred thousand things, keys and values of at most a thousand bytes.
-/
namespace Go.Proofs.Ytnmmopneacdgfaa
open Go.RowKit
set_option linter.unusedVariables false
set_option maxRecDepth 100000 in
set_option maxHeartbeats 4000000 in
theorem rPartsN (w : World) {A : Nat → Prop} {n : NodeS} {p q : Tri} (h : Nd A w n p q) (hl : Lit n) : Calls Try.prog 51 #[ndv n p q] w fun e w' => e = .returned (.int .i64 (if firstC chkP n.pairs = 0 then firstC chkD n.kids else firstC chkP n.pairs)) ∧ Below w.heap.size w w' := by
  have l1 := h.lp
  have l2 := h.lk
  have hps := hl.ps
  have hks := hl.ks
  obtain ⟨lf, ps, ks⟩ := n
  obtain ⟨pa, pn, pc⟩ := p
  obtain ⟨qa, qn, qc⟩ := q
  dsimp only at *
  obtain ⟨V, hV⟩ : ∃ V, V = w.alloc (.cells (List.toArray [.bool lf, .slice pa pn pc, .slice qa qn qc]) 25) := ⟨_, rfl⟩
  have bV : Blk V w.heap.size [.bool lf, .slice pa pn pc, .slice qa qn qc] 25 := by rw [hV]; exact Blk.newAt w _ _ w.heap.size rfl _ rfl
  have kW : Below w.heap.size w V := by rw [hV]; exact below_alloc _ _
  have X1 : V.cell? ⟨w.heap.size, 1, none⟩ = some (.slice pa pn pc) := bV.cell 1
  have X2 : V.cell? ⟨w.heap.size, 2, none⟩ = some (.slice qa qn qc) := bV.cell 2
  have HP : Hid (SlP A V pa pn pc ps) := h.ps.below kW
  have HK : Hid (SlD A V qa qn qc ks) := h.ks.below kW
  unfold ndv ndc
  dsimp only
  have FP : Hid (∀ k x, ps[k]? = some x → firstC chkP (ps.drop k) = if chkP x = 0 then firstC chkP (ps.drop (k + 1)) else chkP x) := fun k x hx => firstC_drop chkP hx
  have FK : Hid (∀ k x, ks[k]? = some x → firstC chkD (ks.drop k) = if chkD x = 0 then firstC chkD (ks.drop (k + 1)) else chkD x) := fun k x hx => firstC_drop chkD hx
  have F1 : Hid (firstC chkP ps = firstC chkP (ps.drop 0)) := rfl
  have F2 : Hid (firstC chkD ks = firstC chkD (ks.drop 0)) := rfl
  have HX1 : Hid (∀ u, Below V.heap.size V u → u.cell? ⟨w.heap.size, 1, none⟩ = some (.slice pa pn pc)) := fun u hu => (bV.below hu bV.lt).cell 1
  have HX2 : Hid (∀ u, Below V.heap.size V u → u.cell? ⟨w.heap.size, 2, none⟩ = some (.slice qa qn qc)) := fun u hu => (bV.below hu bV.lt).cell 2
  generalize firstC chkP ps = K1 at *
  generalize firstC chkD ks = K2 at *
  obtain ⟨CV, hCV⟩ : ∃ c, (if K1 = 0 then K2 else K1) = c := ⟨_, rfl⟩
  rw [hCV]
  have HCV : Hid ((if K1 = 0 then K2 else K1) = CV) := hCV
  have hW : ∀ u, Below V.heap.size V u → Below w.heap.size w u := fun u hu => kW.trans (hu.mono kW.size)
  clear h hl bV hCV
  go_enter Try.func51, Try.ntmps51
  go_upto_region 1 with fail
  rw [← hV]
  clear hV
  go_wp2_with fail
  go_loopw [3] (fun i wr => ∃ k : Nat, k ≤ pn ∧ i = .int .i64 (k : Int) ∧ Hid (K1 = firstC chkP (ps.drop k)) ∧ Below V.heap.size V wr) (fun i _ => pn - (intOf i).toNat)
  case atStart => exact ⟨0, Nat.zero_le _, rfl, F1.out, Below.refl _ _⟩
  case round =>
    clear F1 X1
    obtain ⟨k, hk, rfl, HI, hb⟩ := hrel
    have X1 := HX1.out wr hb
    by_cases hlt : k < pn
    · have i0 : (k : Int) < (pn : Int) := by omega
      obtain ⟨x, hx⟩ : ∃ x, ps[k]? = some x := ⟨_, List.getElem?_eq_getElem (by omega)⟩
      obtain ⟨b, o, kp, km, kc, vp, vm, vc, ea, c1, c2, hB1, hB2, -, -⟩ := HP.out.cells hb hx
      subst ea
      have e1 : x.key.length = km := hB1.1.len
      have e2 : x.value.length = vm := hB2.1.len
      have hd := HI.out.trans (FP.out k x hx)
      unfold chkP at hd
      rw [e1, e2] at hd
      clear hB1 hB2 e1 e2 hx HI X2
      by_cases h1 : 64 < km
      · have b1 : (64 : Int) < (km : Int) := by omega
        rw [if_pos (Or.inl h1), if_neg (by decide)] at hd
        have HN : Hid (CV = 17) := by show _ = _; rw [← HCV.out, hd]; rfl
        clear hd HCV
        go_wp2_with fail
        go_ret
        exact ⟨by rw [HN.out]; rfl, hW wr hb⟩
      · have b1 : ¬ (64 : Int) < (km : Int) := by omega
        by_cases h2 : 160 < vm
        · have b2 : (160 : Int) < (vm : Int) := by omega
          rw [if_pos (Or.inr h2), if_neg (by decide)] at hd
          have HN : Hid (CV = 17) := by show _ = _; rw [← HCV.out, hd]; rfl
          clear hd HCV
          go_wp2_with fail
          go_ret
          exact ⟨by rw [HN.out]; rfl, hW wr hb⟩
        · have b2 : ¬ (160 : Int) < (vm : Int) := by omega
          rw [if_neg (show ¬ (64 < km ∨ 160 < vm) by omega), if_pos rfl] at hd
          have HN : Hid (K1 = firstC chkP (ps.drop (k + 1))) := hd
          clear hd
          go_wp2_with fail
          go_roundw
          case rel => exact ⟨k + 1, by omega, by go_num, HN, hb⟩
          case measure => simp [intOf]; omega
    · have i0 : ¬ (k : Int) < (pn : Int) := by omega
      have HN1 : Hid (K1 = 0) := by show _ = _; rw [HI.out, List.drop_of_length_le (by omega)]; rfl
      have HC2 : Hid (CV = K2) := by show _ = _; rw [← HCV.out, if_pos HN1.out]
      clear HI HCV HN1 FP HP hlt X2
      go_wp2_with fail
      rename World => wo
      go_loopw [4] (fun i wr => ∃ k : Nat, k ≤ qn ∧ i = .int .i64 (k : Int) ∧ Hid (K2 = firstC chkD (ks.drop k)) ∧ Below V.heap.size V wr) (fun i _ => qn - (intOf i).toNat)
      case atStart => exact ⟨0, Nat.zero_le _, rfl, F2.out, hb⟩
      case round =>
        clear F2 X1 hb
        obtain ⟨k2, hk2, rfl, HI2, hb⟩ := hrel
        have X2 := HX2.out wr hb
        by_cases hlt2 : k2 < qn
        · have i1 : (k2 : Int) < (qn : Int) := by omega
          obtain ⟨x, hx⟩ : ∃ x, ks[k2]? = some x := ⟨_, List.getElem?_eq_getElem (by omega)⟩
          obtain ⟨b, o, kp, km, kc, ea, -, -, -, hB1, hlb, hrg⟩ := HK.out.cells hb hx
          subst ea
          have e1 : x.key.length = km := hB1.1.len
          have hd := HI2.out.trans (FK.out k2 x hx)
          unfold chkD at hd
          rw [e1] at hd
          generalize x.page = pg at *
          generalize x.epoch = ep at *
          obtain ⟨g, hg⟩ : ∃ g, g = wr.heap.size := ⟨_, rfl⟩
          have z9 : Blk (wr.alloc (.cells #[.slice none 0 0, .int .i64 0, .int .i64 0] 46)) g [.slice none 0 0, .int .i64 0, .int .i64 0] 46 := Blk.newAt wr _ _ g hg.symm _ rfl
          have k9 : Below V.heap.size V (wr.alloc (.cells #[.slice none 0 0, .int .i64 0, .int .i64 0] 46)) := hb.alloc hb.size _
          clear hB1 e1 hx HI2
          by_cases h1 : 64 < km
          · have b1 : (64 : Int) < (km : Int) := by omega
            rw [if_pos h1, if_neg (by decide)] at hd
            have HN : Hid (CV = 17) := by show _ = _; rw [HC2.out, hd]
            clear hd HC2
            go_wp2_with (first | ((with_reducible refine at_ld 46 ?_); (refine ld 46 (.tmp 41) 3 sizeKd _ Try.underlying46 rfl b (o + k2 * 3) [.slice kp km kc, .int .i64 pg, .int .i64 ep] rfl hrg rfl ?_)) | ((with_reducible refine at_st 46 ?_); (refine st' 46 (.tmp 5) (.tmp 42) 3 sizeKd wr.heap.size 0 [.slice kp km kc, .int .i64 pg, .int .i64 ep] rfl (by intro u hu; simp only [List.mem_cons, List.not_mem_nil, or_false] at hu; rcases hu with rfl | rfl | rfl <;> rfl) (by rw [← hg]; exact z9.there 0 3 (by simp)) rfl rfl ?_); intro v5 hv5; have b5 : Blk v5 g [.slice kp km kc, .int .i64 pg, .int .i64 ep] 46 := (by rw [hv5, ← hg]; exact z9.setsW _ rfl); have k5 : Below V.heap.size V v5 := (by rw [hv5]; exact below_sets hb.size _ k9 0); have f0 : v5.cell? ⟨wr.heap.size, 0, none⟩ = some (.slice kp km kc) := (by rw [← hg]; exact b5.cell 0); have f1 : v5.cell? ⟨wr.heap.size, 1, none⟩ = some (.int .i64 pg) := (by rw [← hg]; exact b5.cell 1); have f2 : v5.cell? ⟨wr.heap.size, 2, none⟩ = some (.int .i64 ep) := (by rw [← hg]; exact b5.cell 2); clear hv5))
            go_ret
            exact ⟨by rw [HN.out]; rfl, hW v5 k5⟩
          · have b1 : ¬ (64 : Int) < (km : Int) := by omega
            by_cases t0 : pg < 0
            · have d0 : (pg : Int) < 0 := t0
              rw [if_neg h1, if_neg (show ¬ (0 ≤ pg ∧ pg ≤ 4095 ∧ 0 ≤ ep ∧ ep ≤ 1099511627776) by omega), if_neg (by decide)] at hd
              have HN : Hid (CV = 2) := by show _ = _; rw [HC2.out, hd]
              clear hd HC2
              go_wp2_with (first | ((with_reducible refine at_ld 46 ?_); (refine ld 46 (.tmp 41) 3 sizeKd _ Try.underlying46 rfl b (o + k2 * 3) [.slice kp km kc, .int .i64 pg, .int .i64 ep] rfl hrg rfl ?_)) | ((with_reducible refine at_st 46 ?_); (refine st' 46 (.tmp 5) (.tmp 42) 3 sizeKd wr.heap.size 0 [.slice kp km kc, .int .i64 pg, .int .i64 ep] rfl (by intro u hu; simp only [List.mem_cons, List.not_mem_nil, or_false] at hu; rcases hu with rfl | rfl | rfl <;> rfl) (by rw [← hg]; exact z9.there 0 3 (by simp)) rfl rfl ?_); intro v5 hv5; have b5 : Blk v5 g [.slice kp km kc, .int .i64 pg, .int .i64 ep] 46 := (by rw [hv5, ← hg]; exact z9.setsW _ rfl); have k5 : Below V.heap.size V v5 := (by rw [hv5]; exact below_sets hb.size _ k9 0); have f0 : v5.cell? ⟨wr.heap.size, 0, none⟩ = some (.slice kp km kc) := (by rw [← hg]; exact b5.cell 0); have f1 : v5.cell? ⟨wr.heap.size, 1, none⟩ = some (.int .i64 pg) := (by rw [← hg]; exact b5.cell 1); have f2 : v5.cell? ⟨wr.heap.size, 2, none⟩ = some (.int .i64 ep) := (by rw [← hg]; exact b5.cell 2); clear hv5))
              go_ret
              exact ⟨by rw [HN.out]; rfl, hW v5 k5⟩
            · have d0 : ¬ (pg : Int) < 0 := t0
              by_cases t1 : 4096 ≤ pg
              · have d1 : (4096 : Int) ≤ pg := t1
                rw [if_neg h1, if_neg (show ¬ (0 ≤ pg ∧ pg ≤ 4095 ∧ 0 ≤ ep ∧ ep ≤ 1099511627776) by omega), if_neg (by decide)] at hd
                have HN : Hid (CV = 2) := by show _ = _; rw [HC2.out, hd]
                clear hd HC2
                go_wp2_with (first | ((with_reducible refine at_ld 46 ?_); (refine ld 46 (.tmp 41) 3 sizeKd _ Try.underlying46 rfl b (o + k2 * 3) [.slice kp km kc, .int .i64 pg, .int .i64 ep] rfl hrg rfl ?_)) | ((with_reducible refine at_st 46 ?_); (refine st' 46 (.tmp 5) (.tmp 42) 3 sizeKd wr.heap.size 0 [.slice kp km kc, .int .i64 pg, .int .i64 ep] rfl (by intro u hu; simp only [List.mem_cons, List.not_mem_nil, or_false] at hu; rcases hu with rfl | rfl | rfl <;> rfl) (by rw [← hg]; exact z9.there 0 3 (by simp)) rfl rfl ?_); intro v5 hv5; have b5 : Blk v5 g [.slice kp km kc, .int .i64 pg, .int .i64 ep] 46 := (by rw [hv5, ← hg]; exact z9.setsW _ rfl); have k5 : Below V.heap.size V v5 := (by rw [hv5]; exact below_sets hb.size _ k9 0); have f0 : v5.cell? ⟨wr.heap.size, 0, none⟩ = some (.slice kp km kc) := (by rw [← hg]; exact b5.cell 0); have f1 : v5.cell? ⟨wr.heap.size, 1, none⟩ = some (.int .i64 pg) := (by rw [← hg]; exact b5.cell 1); have f2 : v5.cell? ⟨wr.heap.size, 2, none⟩ = some (.int .i64 ep) := (by rw [← hg]; exact b5.cell 2); clear hv5))
                go_ret
                exact ⟨by rw [HN.out]; rfl, hW v5 k5⟩
              · have d1 : ¬ (4096 : Int) ≤ pg := t1
                by_cases t2 : ep < 0
                · have d2 : (ep : Int) < 0 := t2
                  rw [if_neg h1, if_neg (show ¬ (0 ≤ pg ∧ pg ≤ 4095 ∧ 0 ≤ ep ∧ ep ≤ 1099511627776) by omega), if_neg (by decide)] at hd
                  have HN : Hid (CV = 2) := by show _ = _; rw [HC2.out, hd]
                  clear hd HC2
                  go_wp2_with (first | ((with_reducible refine at_ld 46 ?_); (refine ld 46 (.tmp 41) 3 sizeKd _ Try.underlying46 rfl b (o + k2 * 3) [.slice kp km kc, .int .i64 pg, .int .i64 ep] rfl hrg rfl ?_)) | ((with_reducible refine at_st 46 ?_); (refine st' 46 (.tmp 5) (.tmp 42) 3 sizeKd wr.heap.size 0 [.slice kp km kc, .int .i64 pg, .int .i64 ep] rfl (by intro u hu; simp only [List.mem_cons, List.not_mem_nil, or_false] at hu; rcases hu with rfl | rfl | rfl <;> rfl) (by rw [← hg]; exact z9.there 0 3 (by simp)) rfl rfl ?_); intro v5 hv5; have b5 : Blk v5 g [.slice kp km kc, .int .i64 pg, .int .i64 ep] 46 := (by rw [hv5, ← hg]; exact z9.setsW _ rfl); have k5 : Below V.heap.size V v5 := (by rw [hv5]; exact below_sets hb.size _ k9 0); have f0 : v5.cell? ⟨wr.heap.size, 0, none⟩ = some (.slice kp km kc) := (by rw [← hg]; exact b5.cell 0); have f1 : v5.cell? ⟨wr.heap.size, 1, none⟩ = some (.int .i64 pg) := (by rw [← hg]; exact b5.cell 1); have f2 : v5.cell? ⟨wr.heap.size, 2, none⟩ = some (.int .i64 ep) := (by rw [← hg]; exact b5.cell 2); clear hv5))
                  go_ret
                  exact ⟨by rw [HN.out]; rfl, hW v5 k5⟩
                · have d2 : ¬ (ep : Int) < 0 := t2
                  by_cases t3 : 1099511627776 < ep
                  · have d3 : (1099511627776 : Int) < ep := t3
                    rw [if_neg h1, if_neg (show ¬ (0 ≤ pg ∧ pg ≤ 4095 ∧ 0 ≤ ep ∧ ep ≤ 1099511627776) by omega), if_neg (by decide)] at hd
                    have HN : Hid (CV = 2) := by show _ = _; rw [HC2.out, hd]
                    clear hd HC2
                    go_wp2_with (first | ((with_reducible refine at_ld 46 ?_); (refine ld 46 (.tmp 41) 3 sizeKd _ Try.underlying46 rfl b (o + k2 * 3) [.slice kp km kc, .int .i64 pg, .int .i64 ep] rfl hrg rfl ?_)) | ((with_reducible refine at_st 46 ?_); (refine st' 46 (.tmp 5) (.tmp 42) 3 sizeKd wr.heap.size 0 [.slice kp km kc, .int .i64 pg, .int .i64 ep] rfl (by intro u hu; simp only [List.mem_cons, List.not_mem_nil, or_false] at hu; rcases hu with rfl | rfl | rfl <;> rfl) (by rw [← hg]; exact z9.there 0 3 (by simp)) rfl rfl ?_); intro v5 hv5; have b5 : Blk v5 g [.slice kp km kc, .int .i64 pg, .int .i64 ep] 46 := (by rw [hv5, ← hg]; exact z9.setsW _ rfl); have k5 : Below V.heap.size V v5 := (by rw [hv5]; exact below_sets hb.size _ k9 0); have f0 : v5.cell? ⟨wr.heap.size, 0, none⟩ = some (.slice kp km kc) := (by rw [← hg]; exact b5.cell 0); have f1 : v5.cell? ⟨wr.heap.size, 1, none⟩ = some (.int .i64 pg) := (by rw [← hg]; exact b5.cell 1); have f2 : v5.cell? ⟨wr.heap.size, 2, none⟩ = some (.int .i64 ep) := (by rw [← hg]; exact b5.cell 2); clear hv5))
                    go_ret
                    exact ⟨by rw [HN.out]; rfl, hW v5 k5⟩
                  · have d3 : ¬ (1099511627776 : Int) < ep := t3
                    rw [if_neg h1, if_pos (show (0 ≤ pg ∧ pg ≤ 4095 ∧ 0 ≤ ep ∧ ep ≤ 1099511627776) by omega), if_pos rfl] at hd
                    have HN : Hid (K2 = firstC chkD (ks.drop (k2 + 1))) := hd
                    clear hd
                    go_wp2_with (first | ((with_reducible refine at_ld 46 ?_); (refine ld 46 (.tmp 41) 3 sizeKd _ Try.underlying46 rfl b (o + k2 * 3) [.slice kp km kc, .int .i64 pg, .int .i64 ep] rfl hrg rfl ?_)) | ((with_reducible refine at_st 46 ?_); (refine st' 46 (.tmp 5) (.tmp 42) 3 sizeKd wr.heap.size 0 [.slice kp km kc, .int .i64 pg, .int .i64 ep] rfl (by intro u hu; simp only [List.mem_cons, List.not_mem_nil, or_false] at hu; rcases hu with rfl | rfl | rfl <;> rfl) (by rw [← hg]; exact z9.there 0 3 (by simp)) rfl rfl ?_); intro v5 hv5; have b5 : Blk v5 g [.slice kp km kc, .int .i64 pg, .int .i64 ep] 46 := (by rw [hv5, ← hg]; exact z9.setsW _ rfl); have k5 : Below V.heap.size V v5 := (by rw [hv5]; exact below_sets hb.size _ k9 0); have f0 : v5.cell? ⟨wr.heap.size, 0, none⟩ = some (.slice kp km kc) := (by rw [← hg]; exact b5.cell 0); have f1 : v5.cell? ⟨wr.heap.size, 1, none⟩ = some (.int .i64 pg) := (by rw [← hg]; exact b5.cell 1); have f2 : v5.cell? ⟨wr.heap.size, 2, none⟩ = some (.int .i64 ep) := (by rw [← hg]; exact b5.cell 2); clear hv5))
                    go_roundw
                    case rel => exact ⟨k2 + 1, by omega, by go_num, HN, k5⟩
                    case measure => simp [intOf]; omega
        · have i1 : ¬ (k2 : Int) < (qn : Int) := by omega
          have HN : Hid (CV = 0) := by show _ = _; rw [HC2.out, HI2.out, List.drop_of_length_le (by omega)]; rfl
          clear HI2
          go_wp2_with fail
          go_ret
          exact ⟨by rw [HN.out]; rfl, hW wr hb⟩

end Go.Proofs.Ytnmmopneacdgfaa
