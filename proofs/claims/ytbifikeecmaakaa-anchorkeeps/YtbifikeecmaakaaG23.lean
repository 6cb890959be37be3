/-
  3 texts in one. No statement of the seat is proved here.
-/
import Derived.Test.YtbifikeecmaakaaG22
import Derived.Deep.CutBlock
/-
  Parts of bytes that are put one behind the other: those that were handed in, and those that a call made itself ('elM'); append of several of them; an anchor's numbers, one by one. No condition; no statement of the seat is proved here.
-/
namespace Go.Proofs.Ytbifikeecmaakaa
open Go.RowKit

/-- Bytes as a part: in a block of bytes, or in memory that was there ahead of all. -/
def elM (B : Nat) (w : World) (b : List UInt8) (vs : List Value) : Prop := ∃ p m q, vs = [.slice p m q] ∧ (B5 (fun _ => True) w p m q b ∨ BA (fun j => j < B) w p m q b)
theorem elM.keep {B : Nat} {w w' : World} (hs : w.heap.size ≤ w'.heap.size) (h5 : ∀ (j : Nat) (cur : Array Value) (f : Nat × Nat), w.heap[j]? = some (Obj.cells cur 5 f) → w'.heap[j]? = w.heap[j]?) (hb : ∀ j, j < w.heap.size → j < B → w'.heap[j]? = w.heap[j]?) : ∀ x vs, elM B w x vs → elM B w' x vs := by
  rintro x vs ⟨p, m, q, e, h | h⟩
  · exact ⟨p, m, q, e, Or.inl (h.keep fun j cur f _ hh => h5 j cur f hh)⟩
  · exact ⟨p, m, q, e, Or.inr (h.keep hs hb)⟩
theorem elM.below {B : Nat} {w w' : World} (hb : Below w.heap.size w w') : ∀ x vs, elM B w x vs → elM B w' x vs := elM.keep hb.size (fun j _ _ hh => hb.block j (Array.getElem?_eq_some_iff.1 hh).1) (fun j hj _ => hb.block j hj)
theorem elM.bs {B : Nat} {w : World} {x : List UInt8} {vs : List Value} (h : elM B w x vs) : ∃ p m q, vs = [.slice p m q] ∧ Bs w p m q x := by
  obtain ⟨p, m, q, e, h | h⟩ := h
  · exact ⟨p, m, q, e, h.1⟩
  · exact ⟨p, m, q, e, h.1⟩
theorem elM.row {B : Nat} {w : World} {x : List UInt8} {p : Option Addr} {m q : Nat} (h : B5 (fun _ => True) w p m q x ∨ BA (fun j => j < B) w p m q x) : Row (elM B) 1 w x [.slice p m q] := ⟨rfl, one_one, p, m, q, rfl, h⟩
theorem Sl.bss {B : Nat} {A : Nat → Prop} {w : World} {a : Option Addr} {n c : Nat} {ls : List (List UInt8)} (h : Sl (elM B) 1 A w a n c ls) : Bss w a n c ls := by
  refine ⟨Sl.len h, (Sl.cap h).1, (Sl.cap h).2, fun i hi => ?_⟩
  have hl := Sl.len h
  obtain ⟨b, o, vs, ha, hlt, hrg, hv, he⟩ := Sl.at h (i := i) (x := ls.getD i []) (by rw [List.getD_eq_getElem?_getD, List.getElem?_eq_getElem (by omega)]; rfl)
  obtain ⟨p, m, q, rfl, hb⟩ := he.bs
  exact ⟨b, o, p, m, q, ha, by have := hrg 0 _ rfl; rwa [Nat.add_zero, Nat.mul_one] at this, hb⟩
theorem Sl.two {α : Type} {el : World → α → List Value → Prop} {A : Nat → Prop} {w : World} {g : Nat} {u v : Value} {t : TypeId} {x y : α} (hb : Blk w g [u, v] t) (hx : Row el 1 w x [u]) (hy : Row el 1 w y [v]) (hA : A g) : Sl el 1 A w (some ⟨g, 0, none⟩) 2 2 [x, y] :=
  ⟨[[u], [v]], ⟨hx, hy, trivial⟩, rfl, Nat.le_refl _, by unfold maxLen; omega, fun e => by simp at e, fun _ => ⟨g, 0, rfl, hb.lt, hA, by simpa using hb.whole⟩⟩
theorem Sl.three {α : Type} {el : World → α → List Value → Prop} {A : Nat → Prop} {w : World} {g : Nat} {u v s : Value} {t : TypeId} {x y z : α} (hb : Blk w g [u, v, s] t) (hx : Row el 1 w x [u]) (hy : Row el 1 w y [v]) (hz : Row el 1 w z [s]) (hA : A g) : Sl el 1 A w (some ⟨g, 0, none⟩) 3 3 [x, y, z] :=
  ⟨[[u], [v], [s]], ⟨hx, hy, hz, trivial⟩, rfl, Nat.le_refl _, by unfold maxLen; omega, fun e => by simp at e, fun _ => ⟨g, 0, rfl, hb.lt, hA, by simpa using hb.whole⟩⟩
/-- append of several, as an operation of a region that draws its order. -/
theorem opAppS {α : Type} (el : World → α → List Value → Prop) (sz by_ : Nat) (t e : TypeId) (z : Value) (ht : Try.prog.underlying t = some (.slice e)) (hi : (Try.prog.info? e).map (fun i => (i.zero, i.size, i.bytes)) = some (some z, sz, by_)) (hzs : z.cells.size = sz) (hsz : 0 < sz) (hby : by_ ≤ 1000)
    {ops : Array Oper} {i : Nat} {oi : Oper} {a : Act} {Q : Exit → Act → World → Prop} {K : Act → World → Prop} (w : World) (hii : ops[i]? = some oi) (hgd : oi.guard = none) (d : Option Tmp) (hd : oi.dst = d) (s x : Operand)
    (ho : oi.op = Op.call { callee := Callee.builtin Builtin.append, args := #[s, x], argTypes := #[t, t] }) (base : Nat) (v : Value) (l : List α) (hs : a.eval s = v) (hown : OwS el sz e w base v l)
    (A : Nat → Prop) (ao : Option Addr) (m c : Nat) (news : List α) (hx : a.eval x = .slice ao m c) (hsrc : Sl el sz A w ao m c news) (hm : 0 < m) (hz : l.length + news.length ≤ 1000000) (hbase : base ≤ w.heap.size)
    (hel : ∀ w' x vs, w.grownBy w' v.ownBlock → el w x vs → el w' x vs)
    (h : ∀ v' w', OwS el sz e w' base v' (l ++ news) → w.grownBy w' v.ownBlock → K (a.put d v') w') : wpOp Try.prog ops Q i K a w := by
  subst hd
  obtain ⟨i0, hi, hz0, hz1, hz2⟩ := info_parts hi
  obtain ⟨rows, hr, howr⟩ := hown
  obtain ⟨rows2, hr2, hl2, hn2, hc2, ha2, hb2⟩ := hsrc
  obtain ⟨b, o', rfl, hlt, hA, hrg⟩ := hb2 hm
  have hfl := flatC_len (rel_lens hr2)
  have hrl := hr2.len
  unfold wpOp
  simp only [hii]
  rw [if_pos (by simp [Region.wanted, hgd])]
  left
  refine wp_append_own w s x t ho base e i0 z sz by_ ht hi hz0 hz1 hz2 hzs hsz v _ _ hs howr ⟨b, o', none⟩ m c rows2.flatten hx (by rw [hfl, ← hrl, hl2]) (fun j u hj => by rw [add_none]; exact hrg j u hj) (rel_ones hr2) (by unfold maxLen; omega) (by have := Nat.mul_le_mul (show l.length + m ≤ 1000000 by omega) hby; omega) hbase ?_
  intro v' w' ho' hg _
  refine h v' w' ⟨rows ++ rows2, ?_, ?_⟩ hg
  · exact (hr.mono fun y vs ⟨a1, a2, a3⟩ => ⟨a1, a2, hel w' y vs hg a3⟩).append (hr2.mono fun y vs ⟨a1, a2, a3⟩ => ⟨a1, a2, hel w' y vs hg a3⟩)
  · rw [List.flatten_append, List.length_append, hl2]
    exact ho'
/-- Literals of two and of three slices, the one that may come up. -/
theorem opBSd {ops : Array Oper} {Q : Exit → Act → World → Prop} {i : Nat} {oi : Oper} (d : Option Tmp) (hi : ops[i]? = some oi) (hd : oi.dst = d) (hg : oi.guard = none) (x y : Operand) (ho : oi.op = .buildSlice 49 2 #[(0, x), (1, y)]) {K : Act → World → Prop} {a : Act} {w : World} (s1 s2 : Option Addr) (n1 c1 n2 c2 : Nat) (hx : a.eval x = .slice s1 n1 c1) (hy : a.eval y = .slice s2 n2 c2)
    (k : K (a.put d (.slice (some ⟨w.heap.size, 0, none⟩) 2 2)) (w.alloc (.cells #[.slice s1 n1 c1, .slice s2 n2 c2] 22))) : wpOp Try.prog ops Q i K a w := by
  subst hd
  have hK : Hid _ := k
  clear k
  unfold wpOp
  simp only [hi]
  rw [if_pos (by simp [Region.wanted, hg])]
  left
  unfold Oper.wp execOp
  simp only [ho, List.map_toArray, List.map_cons, List.map_nil, hx, hy]
  go_simp
  exact hK.out
theorem opBSt {ops : Array Oper} {Q : Exit → Act → World → Prop} {i : Nat} {oi : Oper} (d : Option Tmp) (hi : ops[i]? = some oi) (hd : oi.dst = d) (hg : oi.guard = none) (x y z : Operand) (ho : oi.op = .buildSlice 49 3 #[(0, x), (1, y), (2, z)]) {K : Act → World → Prop} {a : Act} {w : World} (s1 s2 s3 : Option Addr) (n1 c1 n2 c2 n3 c3 : Nat) (hx : a.eval x = .slice s1 n1 c1) (hy : a.eval y = .slice s2 n2 c2) (hz : a.eval z = .slice s3 n3 c3)
    (k : K (a.put d (.slice (some ⟨w.heap.size, 0, none⟩) 3 3)) (w.alloc (.cells #[.slice s1 n1 c1, .slice s2 n2 c2, .slice s3 n3 c3] 22))) : wpOp Try.prog ops Q i K a w := by
  subst hd
  have hK : Hid _ := k
  clear k
  unfold wpOp
  simp only [hi]
  rw [if_pos (by simp [Region.wanted, hg])]
  left
  unfold Oper.wp execOp
  simp only [ho, List.map_toArray, List.map_cons, List.map_nil, hx, hy, hz]
  go_simp
  exact hK.out
theorem Ans.opD {P : Program} {ops : Array Oper} {Q : Exit → Act → World → Prop} {S : World → Prop} {i : Nat} {o : Oper} {v : Value} {a : Act} (d : Option Tmp) (hi : ops[i]? = some o) (hd : o.dst = d) (h : Ans P ops S o v a) {K : Act → World → Prop} {w : World} (hS : S w) (k : ∀ w', Grows w w' → S w' → K (a.put d v) w') : wpOp P ops Q i K a w := by
  subst hd
  exact Ans.op hi h hS k
/-- Parts so far. -/
structure PtI (w : World) (a : AncS) (p q : Tri) (v : Value) (ls : List (List UInt8)) (wr : World) : Prop where
  b0 : Blk wr w.heap.size (anc a p q) 25
  ow : OwS (elM w.heap.size) 1 22 wr (w.heap.size + 1) v ls
  be : Below w.heap.size w wr
theorem PtI.hel {w : World} {a : AncS} {p q : Tri} {v : Value} {ls : List (List UInt8)} {wr : World} (H : PtI w a p q v ls wr) : ∀ w' x vs, wr.grownBy w' v.ownBlock → elM w.heap.size wr x vs → elM w.heap.size w' x vs := fun w' x vs hg hx =>
  elM.keep hg.size (fun j cur f hh => hg.block j (Array.getElem?_eq_some_iff.1 hh).1 (fun e => H.ow.not5 neB5 j cur f e.symm hh)) (fun j hj hB => hg.block j hj (fun e => by have := (H.ow.lt j e.symm).1; omega)) x vs hx
theorem PtI.grow {w : World} {a : AncS} {p q : Tri} {v : Value} {ls : List (List UInt8)} {wr w' : World} (H : PtI w a p q v ls wr) (hb : Below wr.heap.size wr w') : PtI w a p q v ls w' :=
  ⟨H.b0.below hb H.b0.lt, OwS.keep H.ow (elM.below hb) (fun j hj => hb.block j (H.ow.lt j hj).2), H.be.trans (hb.mono H.be.size)⟩
theorem PtI.app {w : World} {a : AncS} {p q : Tri} {v v' : Value} {ls ls' : List (List UInt8)} {wr w' : World} (H : PtI w a p q v ls wr) (ho : OwS (elM w.heap.size) 1 22 w' (w.heap.size + 1) v' ls') (hg : wr.grownBy w' v.ownBlock) : PtI w a p q v' ls' w' := by
  refine ⟨?_, ho, H.be.grown hg H.be.size fun j hj => by have := (H.ow.lt j hj).1; omega⟩
  unfold Blk
  rw [hg.block _ H.b0.lt (fun e => by have := (H.ow.lt _ e.symm).1; omega)]
  exact H.b0
theorem PtI.kp {w : World} {a : AncS} {p q : Tri} {v : Value} {ls : List (List UInt8)} {wr u : World} (H : PtI w a p q v ls wr) (hk : Kp (fun j => v.ownBlock = some j) wr u) (i : Nat) : u.cell? ⟨w.heap.size, i, none⟩ = (anc a p q)[i]? :=
  (hk.blk H.b0 (fun e => by have := (H.ow.lt _ e).1; omega)).cell i
/-- An anchor's numbers, where nothing is wrong. -/
theorem u6_ok {a : AncS} (h : chkA a = 0) : u6 a = (nums a).map (fun n => Value.int .u64 n) := by
  obtain ⟨⟨n1, n2, n3, n4⟩, ⟨b1, b2⟩, _⟩ := chkA_ok h
  have e : ∀ x : Int, 0 ≤ x → x ≤ 1099511627777 → IntKind.u64.wrap x = x := fun x h1 h2 => by rw [IntKind.wrap_u64]; omega
  unfold u6 nums
  simp only [List.map_cons, List.map_nil]
  rw [show wrap64 (a.root + 1) = a.root + 1 from by unfold wrap64; omega, e a.seq (by omega) (by omega), e a.epoch (by omega) (by omega), e a.given (by omega) (by omega), e (a.root + 1) (by omega) (by omega), e a.rootEpoch (by omega) (by omega), e a.pending (by omega) (by omega)]
theorem nums_ok {a : AncS} (h : chkA a = 0) : ∀ n ∈ nums a, 0 ≤ n ∧ n ≤ 1099511627777 := by
  obtain ⟨⟨n1, n2, n3, n4⟩, ⟨b1, b2⟩, _⟩ := chkA_ok h
  intro n hn
  simp only [nums, List.mem_cons, List.not_mem_nil, or_false] at hn
  rcases hn with rfl | rfl | rfl | rfl | rfl | rfl <;> omega
theorem undN : Try.prog.underlying 80 = some (.array 6 79) := by kernel_rfl
theorem undU : Try.prog.underlying 79 = some (.int .u64) := by kernel_rfl
theorem idxN (N : List Int) (k : Nat) (n : Int) (hl : N.length = 6) (hk : N[k]? = some n) (w : World) : Sem.run Try.prog (Instr.index 80 (.agg (N.map (fun n => Value.int .u64 n)).toArray) (.int .i64 (k : Int))) w = .ok (.int .u64 n) w := by
  have h6 : k < 6 := by have := (List.getElem?_eq_some_iff.1 hk).1; omega
  simp [Instr.index, asIntOf, run_underlying undN, run_underlying undU, part, isAgg, hk]
  omega
def numP (N : List Int) : List (List UInt8) := N.map fun n => putL n.toNat 8
def kekP (l : List KekS) : List (List UInt8) := (l.map fun k => [putL k.bucket.toNat 2, putL k.gen.toNat 2, k.key]).flatten
theorem kekP_flat : ∀ l, (kekP l).flatten = (l.map kekL).flatten
  | [] => rfl
  | k :: l => by
    unfold kekP kekL
    have := kekP_flat l
    unfold kekP at this
    simp only [List.map_cons, List.flatten_cons, List.flatten_append, List.flatten_nil, List.append_nil, List.append_assoc] at this ⊢
    rw [this]
    rfl
theorem parts_flat (a : AncS) : ([markL] ++ numP (nums a) ++ [a.master, putL a.keks.length 1] ++ kekP a.keks).flatten = ancL a := by
  rw [List.flatten_append, kekP_flat]
  unfold ancL numsL numP
  simp only [List.flatten_append, List.flatten_cons, List.flatten_nil, List.append_nil, List.append_assoc]
theorem tot_flat : ∀ l : List (List UInt8), tot l = l.flatten.length
  | [] => rfl
  | x :: l => by rw [tot, List.flatten_cons, List.length_append, tot_flat l]
theorem kekP_snoc {l : List KekS} {k : Nat} {x : KekS} (hx : l[k]? = some x) : kekP (l.take (k + 1)) = kekP (l.take k) ++ [putL x.bucket.toNat 2, putL x.gen.toNat 2, x.key] := by
  rw [List.take_add_one, hx]
  unfold kekP
  simp
theorem numP_snoc {l : List Int} {k : Nat} {x : Int} (hx : l[k]? = some x) : numP (l.take (k + 1)) = numP (l.take k) ++ [putL x.toNat 8] := by
  rw [List.take_add_one, hx]
  unfold numP
  simp
theorem kekP_len : ∀ l : List KekS, (kekP l).length = 3 * l.length
  | [] => rfl
  | k :: l => by
    have := kekP_len l
    unfold kekP at this ⊢
    simp only [List.map_cons, List.flatten_cons, List.length_append, List.length_cons, List.length_nil] at this ⊢
    omega
theorem numP_len (l : List Int) : (numP l).length = l.length := by simp [numP]

end Go.Proofs.Ytbifikeecmaakaa

/-
  The contract of layer 14's program: Put. Conditions: none.
-/
namespace Go.Proofs.Ytbifikeecmaakaa
open Go.RowKit

set_option maxRecDepth 100000 in
set_option maxHeartbeats 8000000 in
theorem oPutA (w : World) {A : Nat → Prop} {a : AncS} {p q : Tri} (h : Anc A w a p q) : Calls Try.prog 9 #[anV a p q] w fun e w' => ∃ s m c, e = .returned (.tuple #[.slice s m c, .int .i64 (chkA a)]) ∧ Own w' w.heap.size (.slice s m c) (if chkA a = 0 then ancL a else []) ∧ Below w.heap.size w w' := by
  obtain ⟨qa, qn, qc⟩ := q
  obtain ⟨W0, hW0⟩ : ∃ W0, W0 = w.alloc (.cells (anc a p ⟨qa, qn, qc⟩).toArray 25) := ⟨_, rfl⟩
  have z0 : Blk W0 w.heap.size (anc a p ⟨qa, qn, qc⟩) 25 := by rw [hW0]; exact Blk.newAt w _ _ w.heap.size rfl _ rfl
  have k0 : Below w.heap.size w W0 := by rw [hW0]; exact below_alloc _ _
  have s0 : W0.heap.size = w.heap.size + 1 := by rw [hW0]; simp
  have CC : Hid (Calls Try.prog 14 #[.agg (anc a p ⟨qa, qn, qc⟩).toArray] W0 fun e w' => e = .returned (.int .i64 (chkA a)) ∧ Below W0.heap.size W0 w') := oCheckA W0 (h.below k0)
  unfold anV
  by_cases hc : chkA a = 0
  · rw [if_pos hc]
    rw [hc] at CC ⊢
    obtain ⟨hN, hB, hm32, hk16, hks0⟩ := chkA_ok hc
    have hpt := parts_flat a
    have hlen := ancL_le hc
    have hu := u6_ok hc
    have hno := nums_ok hc
    have HT : Hid (([markL] ++ numP (nums a) ++ [a.master, putL a.keks.length 1] ++ kekP a.keks).flatten = ancL a) := hpt
    have HTL : Hid ((ancL a).length ≤ 665) := hlen
    have hkl := h.kl
    dsimp only at hkl
    have hqn : qn ≤ 16 := by omega
    have HA : Hid (∀ u, Below w.heap.size w u → Anc (fun j => j < w.heap.size) u a p ⟨qa, qn, qc⟩) := fun u hu => (h.mono fun j hj _ => hj).below hu
    have CN : Hid (∀ u, Calls Try.prog 38 #[.agg (anc a p ⟨qa, qn, qc⟩).toArray] u fun e w' => e = .returned (.agg ((nums a).map (fun n => Value.int .u64 n)).toArray) ∧ Below u.heap.size u w') := fun u => by have := oNumbersA u a p ⟨qa, qn, qc⟩; rw [hu] at this; exact this
    have hnl : (nums a).length = 6 := rfl
    have hix : ∀ (k : Nat) (n : Int), (nums a)[k]? = some n → ∀ w, Sem.run Try.prog (Instr.index 80 (.agg ((nums a).map (fun n => Value.int .u64 n)).toArray) (.int .i64 (k : Int))) w = .ok (.int .u64 n) w := fun k n hk w => idxN (nums a) k n hnl hk w
    have kc := fun (w : World) (C : Array Value) (n c : Nat) => Lib.run_convert_bytes_const (P := Try.prog) w 22 5 C n c Try.underlying22 Try.underlying5
    clear hpt hlen hu hN hB hc h
    generalize hNN : nums a = N at *
    clear hNN
    go_enter Try.func9, Try.ntmps9
    go_wp2_with ((with_reducible refine at_ld 25 ?_); (refine ld 25 (.tmp 1) 8 sizeAn _ Try.underlying25 rfl w.heap.size 0 (anc a p ⟨qa, qn, qc⟩) rfl (by rw [← hW0]; exact z0.whole) rfl ?_))
    rw [← hW0]
    clear hW0
    refine CC.out.mono ?_
    rintro e w1 ⟨rfl, hb1⟩
    have z1 := z0.below hb1 z0.lt
    have k1 : Below w.heap.size w w1 := k0.trans (hb1.mono k0.size)
    have s1 : w.heap.size + 1 ≤ w1.heap.size := by have := hb1.size; omega
    clear CC hb1 k0 z0 s0
    have PI0 : PtI w a p ⟨qa, qn, qc⟩ (.slice (some ⟨w1.heap.size + 1, 0, none⟩) 1 1) [markL] ((w1.alloc (.cells #[.int .u8 100, .int .u8 101, .int .u8 101, .int .u8 100, .int .u8 98, .int .u8 111, .int .u8 120, .int .u8 49] 5 (8, 9))).alloc (.cells #[.slice (some ⟨w1.heap.size, 0, none⟩) 8 8] 22)) := by
      have b1 : Bs (w1.alloc (.cells #[.int .u8 100, .int .u8 101, .int .u8 101, .int .u8 100, .int .u8 98, .int .u8 111, .int .u8 120, .int .u8 49] 5 (8, 9))) (some ⟨w1.heap.size, 0, none⟩) 8 8 markL := Bs.marked w1 markL #[.int .u8 100, .int .u8 101, .int .u8 101, .int .u8 100, .int .u8 98, .int .u8 111, .int .u8 120, .int .u8 49] (8, 9) rfl (by decide)
      have h5 : B5 (fun _ => True) (w1.alloc (.cells #[.int .u8 100, .int .u8 101, .int .u8 101, .int .u8 100, .int .u8 98, .int .u8 111, .int .u8 120, .int .u8 49] 5 (8, 9))) (some ⟨w1.heap.size, 0, none⟩) 8 8 markL := ⟨b1, fun _ => ⟨⟨w1.heap.size, 0, none⟩, _, _, rfl, trivial, heap_alloc_new _ _⟩⟩
      have bl : Blk ((w1.alloc (.cells #[.int .u8 100, .int .u8 101, .int .u8 101, .int .u8 100, .int .u8 98, .int .u8 111, .int .u8 120, .int .u8 49] 5 (8, 9))).alloc (.cells #[.slice (some ⟨w1.heap.size, 0, none⟩) 8 8] 22)) (w1.heap.size + 1) [.slice (some ⟨w1.heap.size, 0, none⟩) 8 8] 22 := Blk.newAt (w1.alloc _) _ _ (w1.heap.size + 1) (by simp) _ rfl
      refine ⟨(z1.old _).old _, ⟨[[.slice (some ⟨w1.heap.size, 0, none⟩) 8 8]], ⟨elM.row (Or.inl (h5.below (below_alloc _ _))), trivial⟩, ?_⟩, (k1.alloc k1.size _).alloc (by simp; omega) _⟩
      have hl := World.ownsRow_lit (w1.alloc (.cells #[.int .u8 100, .int .u8 101, .int .u8 101, .int .u8 100, .int .u8 98, .int .u8 111, .int .u8 120, .int .u8 49] 5 (8, 9))) (e := 22) (size := 1) #[.slice (some ⟨w1.heap.size, 0, none⟩) 8 8] 1 (Nat.le_refl _) (by unfold maxLen; omega) (by simp)
      rw [World.size_alloc] at hl
      refine ⟨hl.1, ?_⟩
      rcases hl.2 with hh | ⟨g, cap, cur, e1, e2, e3⟩
      · exact Or.inl hh
      · exact Or.inr ⟨g, cap, cur, e1, by omega, e3⟩
    go_wp2_with ((with_reducible refine at_ld 25 ?_); (refine ld 25 (.tmp 1) 8 sizeAn _ Try.underlying25 rfl w.heap.size 0 (anc a p ⟨qa, qn, qc⟩) rfl PI0.b0.whole rfl ?_))
    generalize w1.heap.size + 1 = G1 at *
    generalize (w1.alloc (.cells #[.int .u8 100, .int .u8 101, .int .u8 101, .int .u8 100, .int .u8 98, .int .u8 111, .int .u8 120, .int .u8 49] 5 (8, 9))).alloc (.cells #[.slice (some ⟨w1.heap.size, 0, none⟩) 8 8] 22) = w2 at *
    refine (CN.out w2).mono ?_
    rintro e w3 ⟨rfl, hb3⟩
    have PI1 : Hid (PtI w a p ⟨qa, qn, qc⟩ (.slice (some ⟨G1, 0, none⟩) 1 1) ([markL] ++ numP (N.take 0)) w3) := PI0.grow hb3
    clear PI0 hb3 CN k1 z1 s1
    go_wp2_with fail
    go_loopw [5, 20] (fun v i wr => ∃ (k : Nat) (oa : Option Addr) (on oc : Nat), k ≤ 6 ∧ i = .int .i64 (k : Int) ∧ v = .slice oa on oc ∧ Hid (PtI w a p ⟨qa, qn, qc⟩ (.slice oa on oc) ([markL] ++ numP (N.take k)) wr)) (fun _ i _ => 6 - (intOf i).toNat)
    case atStart => exact ⟨0, _, _, _, Nat.zero_le _, rfl, rfl, PI1⟩
    case round =>
      clear PI1
      obtain ⟨k, oa, on, oc, hk, rfl, rfl, PI⟩ := hrel
      by_cases hlt : k < 6
      · have i0 : (k : Int) < 6 := by omega
        obtain ⟨n, hn⟩ : ∃ n, N[k]? = some n := ⟨_, List.getElem?_eq_getElem (by omega)⟩
        have hxk := hix k n hn
        obtain ⟨n0, n1⟩ := hno n (List.mem_of_getElem? hn)
        have CP : Hid (Calls Try.prog 39 #[.int .u64 n, .int .i64 8] wr (Gives wr (putL n.toNat 8))) := oPut n 8 wr (by decide) (by omega) (by omega) (by decide)
        have hsn := numP_snoc hn
        have hll : ([markL] ++ numP (N.take k)).length ≤ 7 := by rw [List.length_append, numP_len, List.length_take]; simp; omega
        clear hn hix
        go_wp2_with fail
        refine CP.out.mono ?_
        rintro e w4 ⟨a4, m4, c4, rfl, o4, hb4⟩
        have PI4 := PI.out.grow hb4
        have h54 : B5 (fun _ => True) w4 a4 m4 c4 (putL n.toNat 8) := o4.b5 (fun _ _ _ => trivial)
        have bl : Blk (w4.alloc (.cells #[.slice a4 m4 c4] 22)) w4.heap.size [.slice a4 m4 c4] 22 := Blk.newAt w4 _ _ w4.heap.size rfl _ rfl
        have PI5 := PI4.grow (below_alloc w4 (.cells #[.slice a4 m4 c4] 22))
        have src : Sl (elM w.heap.size) 1 (fun _ => True) (w4.alloc (.cells #[.slice a4 m4 c4] 22)) (some ⟨w4.heap.size, 0, none⟩) 1 1 [putL n.toNat 8] := Sl.one bl (elM.row (Or.inl (h54.below (below_alloc _ _)))) trivial
        have hbs : w.heap.size + 1 ≤ (w4.alloc (.cells #[.slice a4 m4 c4] 22)).heap.size := by have := PI4.b0.lt; simp; omega
        clear CP hb4 o4 PI PI4 bl h54
        go_wp2_with (at_builtin; refine wpList_slapp (elM w.heap.size) 1 24 49 22 _ Try.underlying49 infoBy rfl (by decide) (by decide) (w4.alloc (.cells #[.slice a4 m4 c4] 22)) rfl (.tmp 23) (.tmp 26) rfl (w.heap.size + 1) (.slice oa on oc) ([markL] ++ numP (N.take k)) rfl PI5.ow (fun _ => True) (some ⟨w4.heap.size, 0, none⟩) 1 1 [putL n.toNat 8] rfl src (by simp at hll ⊢; omega) hbs PI5.hel ?_; intro v6 w6 o6 g6; obtain ⟨a6, m6, c6, rfl, hm6⟩ := o6.shape)
        have PI6 : Hid (PtI w a p ⟨qa, qn, qc⟩ (.slice a6 m6 c6) ([markL] ++ numP (N.take (k + 1))) w6) := by
          rw [hsn, ← List.append_assoc]
          exact PI5.app o6 g6
        clear PI5 o6 g6 src hbs
        go_roundw
        case rel => exact ⟨k + 1, a6, m6, c6, by omega, by go_num, rfl, PI6⟩
        case measure => simp [intOf]; omega
      · have i0 : ¬ (k : Int) < 6 := by omega
        rw [List.take_of_length_le (by omega)] at PI
        clear hix hno
        generalize k = k1 at *
        have hqw : IntKind.u64.wrap (qn : Int) = (qn : Int) := by rw [IntKind.wrap_u64]; omega
        have Z6 : ∀ u, Kp (fun j => (Value.slice oa on oc).ownBlock = some j) wr u → u.cell? ⟨w.heap.size, 6, none⟩ = some (.slice p.la p.ln p.lc) := fun u hu => PI.out.kp hu 6
        have Z7 : ∀ u, Kp (fun j => (Value.slice oa on oc).ownBlock = some j) wr u → u.cell? ⟨w.heap.size, 7, none⟩ = some (.slice qa qn qc) := fun u hu => PI.out.kp hu 7
        go_wp2_with fail
        refine regionE 10 (S := Kp (fun j => (Value.slice oa on oc).ownBlock = some j) wr) (by kernel_rfl) ((Kp.refl _ wr).drew 1) ?_
        refine takeT 0 (some 29) (.slice oa on oc) rfl rfl (by kernel_rfl) (fun _ _ _ h => h) (ans_plain (by rfl) (fun w _ => rfl)) ?_
        simp only [Act.put, List.setIfInBounds_toArray, List.set_cons_zero, List.set_cons_succ]
        refine takeT 1 (some 30) (.pointer (some ⟨w.heap.size, 6, none⟩)) rfl rfl (by kernel_rfl) (fun _ _ _ h => h) (ans_plain (by rfl) (fun w _ => by unfold execOp; go_simp)) ?_
        simp only [Act.put, List.setIfInBounds_toArray, List.set_cons_zero, List.set_cons_succ]
        refine takeT 2 (some 31) (.slice p.la p.ln p.lc) rfl rfl (by kernel_rfl) (fun _ _ _ h => h) (ans_plain (by rfl) (fun w h => by have hc := Z6 w h; unfold execOp; go_simp)) ?_
        simp only [Act.put, List.setIfInBounds_toArray, List.set_cons_zero, List.set_cons_succ]
        refine takeT 3 (some 32) (.pointer (some ⟨w.heap.size, 7, none⟩)) rfl rfl (by kernel_rfl) (fun _ _ _ h => h) (ans_plain (by rfl) (fun w _ => by unfold execOp; go_simp)) ?_
        simp only [Act.put, List.setIfInBounds_toArray, List.set_cons_zero, List.set_cons_succ]
        refine takeT 4 (some 33) (.slice qa qn qc) rfl rfl (by kernel_rfl) (fun _ _ _ h => h) (ans_plain (by rfl) (fun w h => by have hc := Z7 w h; unfold execOp; go_simp)) ?_
        simp only [Act.put, List.setIfInBounds_toArray, List.set_cons_zero, List.set_cons_succ]
        refine takeT 5 (some 34) (.int .i64 (qn : Int)) rfl rfl (by kernel_rfl) (fun _ _ _ h => h) (ans_plain (by rfl) (fun w _ => by unfold execOp; go_simp)) ?_
        simp only [Act.put, List.setIfInBounds_toArray, List.set_cons_zero, List.set_cons_succ]
        refine takeT 6 (some 35) (.int .u64 (qn : Int)) rfl rfl (by kernel_rfl) (fun _ _ _ h => h) (ans_plain (by rfl) (fun w _ => by unfold execOp; go_simp)) ?_
        simp only [Act.put, List.setIfInBounds_toArray, List.set_cons_zero, List.set_cons_succ]
        refine callE 7 (some 36) 39 #[.tmp 35, .const (.int .i64 1)] #[79, 3] #[.int .u64 (qn : Int), .int .i64 1] rfl rfl rfl (by rfl) (by rfl) (by kernel_rfl) (by kernel_rfl) Try.call39 fun u1 hgu1 hsu1 => ?_
        refine (oPut (qn : Int) 1 u1 (by decide) (by omega) (by omega) (by decide)).mono ?_
        rintro e u2 ⟨a2, m2, c2, rfl, o2, b2⟩
        refine ⟨_, rfl, hsu1.trans (Kp.of_below b2), ?_⟩
        simp only [Act.put, List.setIfInBounds_toArray, List.set_cons_zero, List.set_cons_succ]
        have PI2 := PI.out.grow (Grows.trans (Grows.trans (show Grows wr wr.drew from below_drewN' wr 1) hgu1) b2)
        have h52 : B5 (fun _ => True) u2 a2 m2 c2 (putL (qn : Int).toNat (1 : Int).toNat) := o2.b5 (fun _ _ _ => trivial)
        refine oneE 8 (by kernel_rfl) (by kernel_rfl) fun u3 hg3 hs3 => ?_
        refine opBSd (some 37) rfl rfl rfl (.tmp 31) (.tmp 36) rfl p.la a2 p.ln p.lc m2 c2 rfl rfl ⟨hs3.alloc _, ?_⟩
        simp only [Act.put, List.setIfInBounds_toArray, List.set_cons_zero, List.set_cons_succ]
        have bl : Blk (u3.alloc (.cells #[.slice p.la p.ln p.lc, .slice a2 m2 c2] 22)) u3.heap.size [.slice p.la p.ln p.lc, .slice a2 m2 c2] 22 := Blk.newAt u3 _ _ u3.heap.size rfl _ rfl
        have k23 : Below u2.heap.size u2 (u3.alloc (.cells #[.slice p.la p.ln p.lc, .slice a2 m2 c2] 22)) := Below.trans hg3 ((below_alloc u3 _).mono (Below.size hg3))
        generalize u3.heap.size = gl at *
        generalize u3.alloc (.cells #[.slice p.la p.ln p.lc, .slice a2 m2 c2] 22) = u4 at *
        refine oneE 9 (by kernel_rfl) (by kernel_rfl) fun u5 hg5 hs5 => ?_
        have k25 : Below u2.heap.size u2 u5 := k23.trans (Below.mono hg5 k23.size)
        have PI5 := PI2.grow k25
        have src : Sl (elM w.heap.size) 1 (fun _ => True) u5 (some ⟨gl, 0, none⟩) 2 2 [a.master, putL (qn : Int).toNat (1 : Int).toNat] := Sl.two (bl.below hg5 bl.lt) (elM.row (Or.inr (HA.out u5 PI5.be).ma)) (elM.row (Or.inl (h52.below k25))) trivial
        have hbs : w.heap.size + 1 ≤ u5.heap.size := by have := PI5.b0.lt; omega
        have hll : ([markL] ++ numP N).length = 7 := by rw [List.length_append, numP_len]; simp; omega
        refine opAppS (elM w.heap.size) 1 24 49 22 _ Try.underlying49 infoBy rfl (by decide) (by decide) u5 rfl rfl (some 38) rfl (.tmp 29) (.tmp 37) rfl (w.heap.size + 1) (.slice oa on oc) ([markL] ++ numP N) rfl PI5.ow (fun _ => True) (some ⟨gl, 0, none⟩) 2 2 [a.master, putL (qn : Int).toNat (1 : Int).toNat] rfl src (by decide) (by rw [hll]; simp) hbs PI5.hel ?_
        intro v6 u6 o6 g6
        obtain ⟨a6, m6, c6, rfl, hm6⟩ := o6.shape
        have PI6 := PI5.app o6 g6
        refine ⟨hs5.trans ⟨g6.os, g6.tape, g6.output, g6.size, fun j hj hn => g6.block j hj (fun e => hn e.symm)⟩, ?_⟩
        simp only [Act.put, List.setIfInBounds_toArray, List.set_cons_zero, List.set_cons_succ]
        refine lastE (by kernel_rfl) (by kernel_rfl) (by kernel_rfl) (by kernel_rfl) fun u7 hg7 hs7 => ?_
        refine Ans.opD (S := fun _ => True) (v := .slice a6 m6 c6) (some 5) rfl rfl (ans_plain (by rfl) (fun w _ => rfl)) trivial fun u8 hg8 _ => ?_
        intro u9 hg9
        simp only [Act.put, List.setIfInBounds_toArray, List.set_cons_zero, List.set_cons_succ]
        have PI9 : Hid (PtI w a p ⟨qa, qn, qc⟩ (.slice a6 m6 c6) ([markL] ++ numP N ++ [a.master, putL a.keks.length 1] ++ kekP (a.keks.take 0)) u9) := by
          have e : putL (qn : Int).toNat (1 : Int).toNat = putL a.keks.length 1 := by rw [hkl]; rfl
          rw [e] at PI6
          have := PI6.grow (Below.trans hg7 (Below.trans (Below.mono hg8 (Below.size hg7)) (Below.mono hg9 (Nat.le_trans (Below.size hg7) (Below.size hg8)))))
          show PtI w a p ⟨qa, qn, qc⟩ _ _ u9
          simpa [kekP] using this
        clear PI6 hg7 hs7 hg8 hg9 o6 g6 src hbs hll PI5 k25 hg5 hs5 bl k23 hs3 hg3 h52 PI2 o2 b2 hgu1 hsu1 Z6 Z7 PI hqw
        have c7 : u9.cell? ⟨w.heap.size, 7, none⟩ = some (.slice qa qn qc) := PI9.out.b0.cell 7
        have l7 := PI9.out.b0.lt
        go_wp2_with fail
        go_loopw [5, 42] (fun v i wr => ∃ (k : Nat) (oa : Option Addr) (on oc : Nat), k ≤ qn ∧ i = .int .i64 (k : Int) ∧ v = .slice oa on oc ∧ Hid (PtI w a p ⟨qa, qn, qc⟩ (.slice oa on oc) ([markL] ++ numP N ++ [a.master, putL a.keks.length 1] ++ kekP (a.keks.take k)) wr)) (fun _ i _ => qn - (intOf i).toNat)
        case atStart => exact ⟨0, _, _, _, Nat.zero_le _, rfl, rfl, PI9⟩
        case round =>
          clear PI9 c7 l7 hlt hk
          obtain ⟨k, ob, om, od, hk, rfl, rfl, PI⟩ := hrel
          by_cases hlt : k < qn
          · have i1 : (k : Int) < (qn : Int) := by omega
            obtain ⟨x, hx⟩ : ∃ x, a.keks[k]? = some x := ⟨_, List.getElem?_eq_getElem (by omega)⟩
            have hck := chkK_ok (chkKs_all hks0 x (List.mem_of_getElem? hx))
            obtain ⟨b, o, s, m, c, e0, hlb, hrg, hB, -, -⟩ := (HA.out wr PI.out.be).at hx
            dsimp only at e0
            subst e0
            have hsn := kekP_snoc hx
            obtain ⟨kb, kg, kk⟩ := x
            dsimp only at hck hB hsn
            obtain ⟨⟨kb0, kb1, kg0, kg1⟩, hkk⟩ := hck
            clear hkk
            have wb : IntKind.u64.wrap kb = kb := by rw [IntKind.wrap_u64]; omega
            have wg : IntKind.u64.wrap kg = kg := by rw [IntKind.wrap_u64]; omega
            obtain ⟨gk, hgk⟩ : ∃ gk, gk = wr.heap.size := ⟨_, rfl⟩
            have z9 : Blk (wr.alloc (.cells #[.int .i64 0, .int .i64 0, .slice none 0 0] 78)) gk [.int .i64 0, .int .i64 0, .slice none 0 0] 78 := Blk.newAt wr _ _ gk hgk.symm _ rfl
            have k9 : Below wr.heap.size wr (wr.alloc (.cells #[.int .i64 0, .int .i64 0, .slice none 0 0] 78)) := below_alloc _ _
            go_wp2_with (first | ((with_reducible refine at_ld 78 ?_); (refine ld 78 (.tmp 44) 3 sizeKk _ Try.underlying78 rfl b (o + k * 3) (kkc ⟨kb, kg, kk⟩ s m c) rfl hrg rfl ?_)) | ((with_reducible refine at_st 78 ?_); (refine st' 78 (.tmp 9) (.tmp 45) 3 sizeKk wr.heap.size 0 (kkc ⟨kb, kg, kk⟩ s m c) rfl (kkc_one _ _ _ _) (by rw [← hgk]; exact z9.there 0 3 (by simp)) rfl rfl ?_); intro v5 hv5; have b5 : Blk v5 gk (kkc ⟨kb, kg, kk⟩ s m c) 78 := (by rw [hv5, ← hgk]; exact z9.setsW _ rfl); have k5 : Below wr.heap.size wr v5 := (by rw [hv5]; exact below_sets (Nat.le_refl _) _ k9 0); clear hv5))
            rw [← hgk]
            have hgw : wr.heap.size ≤ gk := by omega
            clear z9 k9 hgk hrg
            have PI5 := PI.out.grow k5
            have hB5 := hB.grow k5
            have hlo := PI.out.ow.lt
            have Y0 : ∀ u, Kp (fun j => (Value.slice ob om od).ownBlock = some j) v5 u → u.cell? ⟨gk, 0, none⟩ = some (.int .i64 kb) := fun u hu => (hu.blk b5 (fun e => by have := (hlo _ e).2; omega)).cell 0
            have Y1 : ∀ u, Kp (fun j => (Value.slice ob om od).ownBlock = some j) v5 u → u.cell? ⟨gk, 1, none⟩ = some (.int .i64 kg) := fun u hu => (hu.blk b5 (fun e => by have := (hlo _ e).2; omega)).cell 1
            have Y2 : ∀ u, Kp (fun j => (Value.slice ob om od).ownBlock = some j) v5 u → u.cell? ⟨gk, 2, none⟩ = some (.slice s m c) := fun u hu => (hu.blk b5 (fun e => by have := (hlo _ e).2; omega)).cell 2
            refine regionE 13 (S := Kp (fun j => (Value.slice ob om od).ownBlock = some j) v5) (by kernel_rfl) ((Kp.refl _ v5).drew 1) ?_
            refine takeT 0 (some 46) (.slice ob om od) rfl rfl (by kernel_rfl) (fun _ _ _ h => h) (ans_plain (by rfl) (fun w _ => rfl)) ?_
            simp only [Act.put, List.setIfInBounds_toArray, List.set_cons_zero, List.set_cons_succ]
            refine takeT 1 (some 47) (.pointer (some ⟨gk, 0, none⟩)) rfl rfl (by kernel_rfl) (fun _ _ _ h => h) (ans_plain (by rfl) (fun w _ => by unfold execOp; go_simp)) ?_
            simp only [Act.put, List.setIfInBounds_toArray, List.set_cons_zero, List.set_cons_succ]
            refine takeT 2 (some 48) (.int .i64 kb) rfl rfl (by kernel_rfl) (fun _ _ _ h => h) (ans_plain (by rfl) (fun w h => by have hc := Y0 w h; unfold execOp; go_simp)) ?_
            simp only [Act.put, List.setIfInBounds_toArray, List.set_cons_zero, List.set_cons_succ]
            refine takeT 3 (some 49) (.int .u64 kb) rfl rfl (by kernel_rfl) (fun _ _ _ h => h) (ans_plain (by rfl) (fun w _ => by unfold execOp; go_simp)) ?_
            simp only [Act.put, List.setIfInBounds_toArray, List.set_cons_zero, List.set_cons_succ]
            refine takeT 5 (some 51) (.pointer (some ⟨gk, 1, none⟩)) rfl rfl (by kernel_rfl) (fun _ _ _ h => h) (ans_plain (by rfl) (fun w _ => by unfold execOp; go_simp)) ?_
            simp only [Act.put, List.setIfInBounds_toArray, List.set_cons_zero, List.set_cons_succ]
            refine takeT 6 (some 52) (.int .i64 kg) rfl rfl (by kernel_rfl) (fun _ _ _ h => h) (ans_plain (by rfl) (fun w h => by have hc := Y1 w h; unfold execOp; go_simp)) ?_
            simp only [Act.put, List.setIfInBounds_toArray, List.set_cons_zero, List.set_cons_succ]
            refine takeT 7 (some 53) (.int .u64 kg) rfl rfl (by kernel_rfl) (fun _ _ _ h => h) (ans_plain (by rfl) (fun w _ => by unfold execOp; go_simp)) ?_
            simp only [Act.put, List.setIfInBounds_toArray, List.set_cons_zero, List.set_cons_succ]
            refine takeT 9 (some 55) (.pointer (some ⟨gk, 2, none⟩)) rfl rfl (by kernel_rfl) (fun _ _ _ h => h) (ans_plain (by rfl) (fun w _ => by unfold execOp; go_simp)) ?_
            simp only [Act.put, List.setIfInBounds_toArray, List.set_cons_zero, List.set_cons_succ]
            refine takeT 10 (some 56) (.slice s m c) rfl rfl (by kernel_rfl) (fun _ _ _ h => h) (ans_plain (by rfl) (fun w h => by have hc := Y2 w h; unfold execOp; go_simp)) ?_
            simp only [Act.put, List.setIfInBounds_toArray, List.set_cons_zero, List.set_cons_succ]
            refine callE 4 (some 50) 39 #[.tmp 49, .const (.int .i64 2)] #[79, 3] #[.int .u64 kb, .int .i64 2] rfl rfl rfl (by rfl) (by rfl) (by kernel_rfl) (by kernel_rfl) Try.call39 fun u1 hgu1 hsu1 => ?_
            refine (oPut kb 2 u1 (by decide) (by omega) (by omega) (by decide)).mono ?_
            rintro e u2 ⟨a2, m2, c2, rfl, o2, b2⟩
            refine ⟨_, rfl, hsu1.trans (Kp.of_below b2), ?_⟩
            simp only [Act.put, List.setIfInBounds_toArray, List.set_cons_zero, List.set_cons_succ]
            refine callE 8 (some 54) 39 #[.tmp 53, .const (.int .i64 2)] #[79, 3] #[.int .u64 kg, .int .i64 2] rfl rfl rfl (by rfl) (by rfl) (by kernel_rfl) (by kernel_rfl) Try.call39 fun u3 hgu3 hsu3 => ?_
            refine (oPut kg 2 u3 (by decide) (by omega) (by omega) (by decide)).mono ?_
            rintro e u4 ⟨a4, m4, c4, rfl, o4, b4⟩
            refine ⟨_, rfl, hsu3.trans (Kp.of_below b4), ?_⟩
            simp only [Act.put, List.setIfInBounds_toArray, List.set_cons_zero, List.set_cons_succ]
            have PI4 := PI5.grow (Grows.trans (Grows.trans (Grows.trans (Grows.trans (show Grows v5 v5.drew from below_drewN' v5 1) hgu1) b2) hgu3) b4)
            have h54 : B5 (fun _ => True) u4 a4 m4 c4 (putL kg.toNat (2 : Int).toNat) := o4.b5 (fun _ _ _ => trivial)
            have h52 : B5 (fun _ => True) u4 a2 m2 c2 (putL kb.toNat (2 : Int).toNat) := ((o2.b5 (A := fun _ => True) (fun _ _ _ => trivial)).below hgu3).below b4
            refine oneE 11 (by kernel_rfl) (by kernel_rfl) fun u5 hg5 hs5 => ?_
            refine opBSt (some 57) rfl rfl rfl (.tmp 50) (.tmp 54) (.tmp 56) rfl a2 a4 s m2 c2 m4 c4 m c rfl rfl rfl ⟨hs5.alloc _, ?_⟩
            simp only [Act.put, List.setIfInBounds_toArray, List.set_cons_zero, List.set_cons_succ]
            have bl : Blk (u5.alloc (.cells #[.slice a2 m2 c2, .slice a4 m4 c4, .slice s m c] 22)) u5.heap.size [.slice a2 m2 c2, .slice a4 m4 c4, .slice s m c] 22 := Blk.newAt u5 _ _ u5.heap.size rfl _ rfl
            have k45 : Below u4.heap.size u4 (u5.alloc (.cells #[.slice a2 m2 c2, .slice a4 m4 c4, .slice s m c] 22)) := Below.trans hg5 ((below_alloc u5 _).mono (Below.size hg5))
            generalize u5.heap.size = gl at *
            generalize u5.alloc (.cells #[.slice a2 m2 c2, .slice a4 m4 c4, .slice s m c] 22) = u6 at *
            refine oneE 12 (by kernel_rfl) (by kernel_rfl) fun u7 hg7 hs7 => ?_
            have k47 : Below u4.heap.size u4 u7 := k45.trans (Below.mono hg7 k45.size)
            have PI7 := PI4.grow k47
            have s51 : v5.drew.heap.size ≤ u1.heap.size := Below.size hgu1
            have hB7 : BA (fun j => j < w.heap.size) u7 s m c kk := by
              exact hB5.keep (Nat.le_trans (Nat.le_trans (show v5.heap.size ≤ u1.heap.size from s51) (Nat.le_trans b2.size (Nat.le_trans (Below.size hgu3) b4.size))) k47.size) (fun j hj hjw => by
                have h1 : v5.heap[j]? = w.heap[j]? := PI5.be.block j hjw
                rw [h1]
                exact PI7.be.block j hjw)
            have src : Sl (elM w.heap.size) 1 (fun _ => True) u7 (some ⟨gl, 0, none⟩) 3 3 [putL kb.toNat (2 : Int).toNat, putL kg.toNat (2 : Int).toNat, kk] := Sl.three (bl.below hg7 bl.lt) (elM.row (Or.inl (h52.below k47))) (elM.row (Or.inl (h54.below k47))) (elM.row (Or.inr hB7)) trivial
            have hbs : w.heap.size + 1 ≤ u7.heap.size := by have := PI7.b0.lt; omega
            have hll : ([markL] ++ numP N ++ [a.master, putL a.keks.length 1] ++ kekP (a.keks.take k)).length ≤ 100 := by rw [List.length_append, kekP_len, List.length_append, List.length_append, numP_len, List.length_take]; simp; omega
            refine opAppS (elM w.heap.size) 1 24 49 22 _ Try.underlying49 infoBy rfl (by decide) (by decide) u7 rfl rfl (some 58) rfl (.tmp 46) (.tmp 57) rfl (w.heap.size + 1) (.slice ob om od) _ rfl PI7.ow (fun _ => True) (some ⟨gl, 0, none⟩) 3 3 [putL kb.toNat (2 : Int).toNat, putL kg.toNat (2 : Int).toNat, kk] rfl src (by decide) (Nat.le_trans (Nat.add_le_add_right hll _) (by simp)) hbs PI7.hel ?_
            intro v8 u8 o8 g8
            obtain ⟨a8, m8, c8, rfl, hm8⟩ := o8.shape
            have PI8 := PI7.app o8 g8
            refine ⟨hs7.trans ⟨g8.os, g8.tape, g8.output, g8.size, fun j hj hn => g8.block j hj (fun e => hn e.symm)⟩, ?_⟩
            simp only [Act.put, List.setIfInBounds_toArray, List.set_cons_zero, List.set_cons_succ]
            refine lastE (by kernel_rfl) (by kernel_rfl) (by kernel_rfl) (by kernel_rfl) fun u9 hg9 hs9 => ?_
            refine Ans.opD (S := fun _ => True) (v := .slice a8 m8 c8) (some 5) rfl rfl (ans_plain (by rfl) (fun w _ => rfl)) trivial fun u10 hg10 _ => ?_
            intro u11 hg11
            simp only [Act.put, List.setIfInBounds_toArray, List.set_cons_zero, List.set_cons_succ]
            have PIN : Hid (PtI w a p ⟨some ⟨b, o, none⟩, qn, qc⟩ (.slice a8 m8 c8) ([markL] ++ numP N ++ [a.master, putL a.keks.length 1] ++ kekP (a.keks.take (k + 1))) u11) := by
              rw [hsn, ← List.append_assoc]
              exact PI8.grow (Below.trans hg9 (Below.trans (Below.mono hg10 (Below.size hg9)) (Below.mono hg11 (Nat.le_trans (Below.size hg9) (Below.size hg10)))))
            clear PI8 hg9 hs9 hg10 hg11 o8 g8 src hbs hll PI7 hB7 k47 hg7 hs7 bl k45 hs5 hg5 h52 h54 PI4 o4 b4 o2 b2 hgu1 hsu1 hgu3 hsu3 Y0 Y1 Y2 PI5 hB5 b5 k5 hB PI hsn hx hlo hlb
            go_wp2_with fail
            go_roundw
            case rel => exact ⟨k + 1, a8, m8, c8, by omega, by go_num, rfl, PIN⟩
            case measure => simp [intOf]; omega
          · have i1 : ¬ (k : Int) < (qn : Int) := by omega
            rw [List.take_of_length_le (by omega)] at PI
            have hsl := (PI.out.ow.sl3 (A := fun _ => True) (fun _ _ _ => trivial)).bss
            have CJ : Hid (Calls Try.prog 40 #[.slice ob om od] wr (Gives wr (ancL a))) := by
              have := oJoin wr hsl (by rw [tot_flat, HT.out]; have := HTL.out; omega)
              rw [HT.out] at this
              exact this
            have HB : Hid (Below w.heap.size w wr) := PI.out.be
            clear hsl PI HT HTL HA
            go_wp2_with fail
            refine CJ.out.mono ?_
            rintro e w9 ⟨a9, m9, c9, rfl, o9, hb9⟩
            go_wp2_with fail
            go_ret2
            exact ⟨a9, m9, c9, rfl, o9.mono HB.out.size, HB.out.trans (hb9.mono HB.out.size)⟩
  · rw [if_neg hc]
    have bc : (chkA a == 0) = false := by simp [hc]
    generalize chkA a = cd at *
    clear h hc
    go_enter Try.func9, Try.ntmps9
    go_wp2_with ((with_reducible refine at_ld 25 ?_); (refine ld 25 (.tmp 1) 8 sizeAn _ Try.underlying25 rfl w.heap.size 0 (anc a p ⟨qa, qn, qc⟩) rfl (by rw [← hW0]; exact z0.whole) rfl ?_))
    rw [← hW0]
    clear hW0
    refine CC.out.mono ?_
    rintro e w1 ⟨rfl, hb1⟩
    have k1 : Below w.heap.size w w1 := k0.trans (hb1.mono k0.size)
    clear CC hb1 k0 z0
    go_wp2_with fail
    go_ret2
    exact ⟨none, 0, 0, rfl, Own.nil _ _, k1⟩

end Go.Proofs.Ytbifikeecmaakaa

/-
  The contract of layer 14's program: Save. Conditions: fewer than 5000 writes.
-/
namespace Go.Proofs.Ytbifikeecmaakaa
open Go.RowKit

/-- What Save leaves. -/
def SaveR (w : World) (k c r : Nat) (K : KepS) (a : AncS) (e : Ending) (w' : World) : Prop := ∃ p q, e = .returned (.int .i64 (K.save a).2) ∧ Kk w' k c r (K.save a).1 p q ∧ Kp (Fk k c r) w w'
theorem nextA_nums {K : KepS} {a : AncS} (h : okA K.last) (hn : numsI a) : numsI (nextA K a) := by
  obtain ⟨_, h2, h3, h4, h5, h6⟩ := hn
  have := h.seq
  exact ⟨⟨by show _ ≤ K.last.seq + 1; omega, by show K.last.seq + 1 ≤ _; omega⟩, h2, h3, h4, h5, h6⟩
theorem keep_put {x : Value} {l u : List Value} (hl : l.length = 8) (hu : u.length = 8) : (x :: l).take 1 ++ u ++ (x :: l).drop (1 + u.length) = x :: u := by
  rw [hu, show (1 + 8 : Nat) = 8 + 1 from rfl, List.drop_succ_cons, List.drop_of_length_le (by omega), List.append_nil]
  rfl
set_option maxRecDepth 100000 in
set_option maxHeartbeats 4000000 in
theorem oKSave (w : World) {k c r : Nat} {K : KepS} {p q : Tri} (h : Kk w k c r K p q) {mm : Nat} (hf : K.c.fit mm) (hmm : mm ≤ 5000) {A : Nat → Prop} {a : AncS} {p' q' : Tri} (ha : Anc A w a p' q') (hA : ∀ j, A j → ¬ Fk k c r j) : Calls Try.prog 26 #[.pointer (some ⟨k, 0, none⟩), anV a p' q'] w (SaveR w k c r K a) := by
  have hsq := h.ok.seq
  have hx : Anc (fun j => ¬ Fk k c r j ∧ j < w.heap.size) w (nextA K a) p' q' := (ha.mono fun j hj hh => ⟨hA j hh, hj⟩).nums rfl rfl (nextA_nums h.ok ha.ns)
  obtain ⟨x, hxe⟩ : ∃ x, x = nextA K a := ⟨_, rfl⟩
  rw [← hxe] at hx
  have hx0 : x.seq = K.last.seq + 1 := by rw [hxe]; rfl
  have HC : Hid (anc x p' q' = .int .i64 (K.last.seq + 1) :: (anc a p' q').drop 1) := by rw [hxe]; rfl
  have HS : Hid (K.save a = if chkA x ≠ 0 then (K, chkA x) else if (K.c.write (x.seq % 2) (ancL x)).2 ≠ 0 then (⟨(K.c.write (x.seq % 2) (ancL x)).1, K.last⟩, (K.c.write (x.seq % 2) (ancL x)).2) else (⟨(K.c.write (x.seq % 2) (ancL x)).1, x⟩, 0)) := by rw [hxe]; rfl
  unfold SaveR
  generalize K.save a = out at *
  clear hxe
  obtain ⟨W0, hW0⟩ : ∃ W0, W0 = w.alloc (.cells (anc a p' q').toArray 25) := ⟨_, rfl⟩
  have z0 : Blk W0 w.heap.size (anc a p' q') 25 := by rw [hW0]; exact Blk.newAt w _ _ w.heap.size rfl _ rfl
  have k0 : Below w.heap.size w W0 := by rw [hW0]; exact below_alloc _ _
  have c1 : W0.cell? ⟨k, 1, none⟩ = some (.int .i64 K.last.seq) := (h.grow k0).b.cell 1
  have hlk := (h.grow k0).b.lt
  have hlk0 := h.b.lt
  have hF : ∀ j, Fk k c r j → j < w.heap.size := h.lt
  have d0 : W0.cell? ⟨w.heap.size, 0, none⟩ = some (.int .i64 a.seq) := z0.cell 0
  have e0 := z0.free 0
  have l0 := z0.lt
  have y0 := z0.setC 0 (.int .i64 (K.last.seq + 1))
  rw [show (anc a p' q').set 0 (.int .i64 (K.last.seq + 1)) = anc x p' q' from by rw [HC.out]; rfl] at y0
  have k1 : Below w.heap.size w (W0.setCell ⟨w.heap.size, 0, none⟩ (.int .i64 (K.last.seq + 1))) := k0.setCell (Nat.le_refl _) _
  have s1 : w.heap.size < (W0.setCell ⟨w.heap.size, 0, none⟩ (.int .i64 (K.last.seq + 1))).heap.size := y0.lt
  have CP : Hid (Calls Try.prog 9 #[.agg (anc x p' q').toArray] (W0.setCell ⟨w.heap.size, 0, none⟩ (.int .i64 (K.last.seq + 1))) fun e w' => ∃ s m c, e = .returned (.tuple #[.slice s m c, .int .i64 (chkA x)]) ∧ Own w' (W0.setCell ⟨w.heap.size, 0, none⟩ (.int .i64 (K.last.seq + 1))).heap.size (.slice s m c) (if chkA x = 0 then ancL x else []) ∧ Below (W0.setCell ⟨w.heap.size, 0, none⟩ (.int .i64 (K.last.seq + 1))).heap.size (W0.setCell ⟨w.heap.size, 0, none⟩ (.int .i64 (K.last.seq + 1))) w') := oPutA _ (hx.below k1)
  have HK : Hid (Kk w k c r K p q) := h
  have HX : Hid (Anc (fun j => ¬ Fk k c r j ∧ j < w.heap.size) w x p' q') := hx
  have HFk : Hid (∀ j, Fk k c r j → j < w.heap.size) := hF
  obtain ⟨t2, ht2⟩ : ∃ t2, t2 = x.seq % 2 := ⟨_, rfl⟩
  have htm : x.seq.tmod 2 = t2 := by rw [ht2, Int.tmod_eq_emod_of_nonneg (by omega)]
  have hti : i64 t2 := ⟨by omega, by omega⟩
  rw [← ht2] at HS
  have hnc := h.nc
  have hnr := h.nr
  have hnw : ¬ w.heap.size = c ∧ ¬ w.heap.size = r := ⟨fun e => by have := hF c (Or.inr (Or.inl rfl)); omega, fun e => by have := hF r (Or.inr (Or.inr rfl)); omega⟩
  have hb1 : K.last.seq + 1 ≤ 9223372036854775807 := by omega
  have hb2 : -9223372036854775808 ≤ K.last.seq + 1 := by omega
  have hkw : ¬ k = w.heap.size := by omega
  clear h hx hF ha z0 k0 ht2 HC hx0
  unfold anV
  go_enter Try.func26, Try.ntmps26
  go_upto_region 1 with fail
  rw [← hW0]
  clear hW0
  go_wp2_with ((with_reducible refine at_ld 25 ?_); (refine ld 25 (.tmp 3) 8 sizeAn _ Try.underlying25 rfl w.heap.size 0 (anc x p' q') rfl y0.whole rfl ?_))
  generalize W0.setCell ⟨w.heap.size, 0, none⟩ (.int .i64 (K.last.seq + 1)) = W1 at *
  refine CP.out.mono ?_
  rintro e w2 ⟨s, m, z, rfl, o2, hb2'⟩
  have k2 : Below w.heap.size w w2 := k1.trans (hb2'.mono (by omega))
  have y2 := y0.below hb2' y0.lt
  clear CP c1 hlk d0 e0 l0 hb1 hb2
  by_cases hc : chkA x = 0
  · rw [if_pos hc] at o2
    rw [hc] at HS ⊢
    have B2 : BA (fun j => ¬ UC c r j) w2 s m z (ancL x) := ((o2.b5 (A := fun j => W1.heap.size ≤ j) (fun j hj _ => hj)).ba).mono (fun j _ hj hu => by have := HFk.out j (Or.inr hu); omega)
    have K2 := HK.out.grow k2
    have CW : Hid (Calls Try.prog 59 #[.pointer (some ⟨k, 0, none⟩), .int .i64 t2, .slice s m z] w2 fun e w' => e = .returned (.int .i64 (K.c.write t2 (ancL x)).2) ∧ Ck (UC c r) (UC c r) w' c r (K.c.write t2 (ancL x)).1 ∧ Kp (UC c r) w2 w') := oKPut w2 K2 hf hmm t2 hti B2
    have X2 := HX.out.below k2
    have g0 : w2.cell? ⟨w.heap.size, 0, none⟩ = some (.int .i64 x.seq) := y2.cell 0
    have l2 := y2.lt
    have HS' : Hid (out = if (K.c.write t2 (ancL x)).2 ≠ 0 then (⟨(K.c.write t2 (ancL x)).1, K.last⟩, (K.c.write t2 (ancL x)).2) else (⟨(K.c.write t2 (ancL x)).1, x⟩, 0)) := by show _ = _; rw [HS.out, if_neg (by simp)]
    have hsm := (show okA x from Or.inl hc).small
    have HOK : Hid (okA x) := Or.inl hc
    generalize K.c.write t2 (ancL x) = cw at *
    clear HS B2 o2 hb2' hf
    go_wp2_with fail
    refine CW.out.mono ?_
    rintro e w3 ⟨rfl, ck3, kp3⟩
    have K3b : Blk w3 k (.pointer (some ⟨c, 0, none⟩) :: anc K.last p q) 114 := kp3.blk K2.b (fun e => e.elim hnc hnr)
    have K3a : Anc (fun j => ¬ Fk k c r j) w3 K.last p q := K2.an.kp kp3 (fun j hj hu => hj (Or.inr hu))
    have y3 := kp3.blk y2 (fun e => e.elim hnw.1 hnw.2)
    have X3 := X2.kp kp3 (fun j hj hu => hj.1 (Or.inr hu))
    have q3 : Kp (Fk k c r) w w3 := (Kp.of_below k2).trans (kp3.mono fun j _ hj => Or.inr hj)
    have l3 := y3.lt
    have lk3 := K3b.lt
    have hfr := K3b.free
    clear CW K2 X2 y2 kp3 g0
    by_cases hw : cw.2 = 0
    · have bw : (cw.2 == 0) = true := by simp [hw]
      have HO : Hid (out = (⟨cw.1, x⟩, 0)) := by show _ = _; rw [HS'.out, if_neg (by rw [hw]; simp)]
      have CC : Hid (Calls Try.prog 18 #[.agg (anc x p' q').toArray] w3 fun e w' => ∃ p1 q1, e = .returned (anV x p1 q1) ∧ Anc (fun j => (¬ Fk k c r j ∧ j < w.heap.size) ∨ w3.heap.size ≤ j) w' x p1 q1 ∧ Below w3.heap.size w3 w') := oCopyA w3 X3 (by rw [← X3.ml]; omega) (by rw [← X3.kl]; omega) (fun y hy => by have := hsm.2.2 y hy; omega)
      rw [hw]
      clear HS' bw hw K3a X3 hsm
      go_wp2_with ((with_reducible refine at_ld 25 ?_); (refine ld 25 (.tmp 3) 8 sizeAn _ Try.underlying25 rfl w.heap.size 0 (anc x p' q') rfl y3.whole rfl ?_))
      refine CC.out.mono ?_
      rintro e w4 ⟨p4, q4, rfl, an4, hb4⟩
      have K4b := K3b.below hb4 K3b.lt
      have ck4 := ck3.keep (G := fun _ => False) (Kp.of_below hb4) (fun _ _ h => h)
      have q4' : Kp (Fk k c r) w w4 := q3.trans (Kp.of_below hb4)
      have l4 := K4b.lt
      have HL3 : Hid (w.heap.size ≤ w3.heap.size) := q3.size
      unfold anV
      clear CC K3b y3 ck3 q3 hb4 hfr
      go_wp2_with ((with_reducible refine at_st 25 ?_); (refine st' 25 (.tmp 36) (.tmp 34) 8 sizeAn k 1 (anc x p4 q4) rfl (anc_one _ _ _) (K4b.there 1 8 (by simp [anc])) rfl rfl ?_); intro w8 hw8; have b8 := K4b.sets (anc x p4 q4) 1 (by simp [anc]); rw [keep_put (by simp [anc]) (by simp [anc]), ← hw8] at b8; have g8 : Kp (fun j => j = k) w4 w8 := (by rw [hw8]; exact Kp.of_grown (but_cells' _ _ _ _)); clear hw8)
      go_ret
      rw [HO.out]
      refine ⟨p4, q4, rfl, ⟨ck4.keep g8 (fun j hj e => by rcases hj with hj | hj; exact hnc (e.symm.trans hj); exact hnr (e.symm.trans hj)), b8, ?_, hnc, hnr, HOK.out⟩, q4'.trans (g8.mono fun j _ e => Or.inl e)⟩
      have hn4 : ∀ j, (¬ Fk k c r j ∧ j < w.heap.size) ∨ w3.heap.size ≤ j → ¬ Fk k c r j := fun j hj hu => by
        rcases hj with hj | hj
        · exact hj.1 hu
        · have := HFk.out j hu
          have := HL3.out
          omega
      exact (an4.mono fun j _ hj => hn4 j hj).kp g8 (fun j hj e => hj (Or.inl e))
    · have bw : (cw.2 == 0) = false := by simp [hw]
      have HO : Hid (out = (⟨cw.1, K.last⟩, cw.2)) := by show _ = _; rw [HS'.out, if_pos hw]
      generalize hcd : cw.2 = cd at *
      clear HS' hw hcd X3 y3 hfr
      go_wp2_with fail
      go_ret
      rw [HO.out]
      exact ⟨p, q, rfl, ⟨ck3, K3b, K3a, hnc, hnr, HK.out.ok⟩, q3⟩
  · have bc : (chkA x == 0) = false := by simp [hc]
    have HO : Hid (out = (K, chkA x)) := by show _ = _; rw [HS.out, if_pos hc]
    generalize chkA x = cd at *
    clear HS hc o2 y2 hb2'
    go_wp2_with fail
    go_ret
    rw [HO.out]
    exact ⟨p, q, rfl, HK.out.grow k2, Kp.of_below k2⟩

end Go.Proofs.Ytbifikeecmaakaa
