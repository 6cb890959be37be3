/-
  3 texts in one. No statement of the seat is proved here.
-/
import Derived.Test.YtbifikeecmaakaaG19
import Derived.Deep.CutBlock
/-
  The builtin copy of bytes into a block that is known whole, as an operation of its own. No condition; no statement of the seat is proved here.
-/
namespace Go.Proofs.Ytbifikeecmaakaa
open Go.RowKit

/-- Looks whether the next operation is a copy: for 'with_reducible refine' ahead of the law below. -/
theorem at_cp {args : Array Operand} {tys : Array TypeId} {ops : Array Oper} {rest : List Oper} {a : Act} {w : World} {Q : Exit → Act → World → Prop} {dst : Option Tmp} {tp : TypeId} {pos : String} {aft : Array Edge}
    (h : wpList Try.prog ops Q ({ dst := dst, op := .call { callee := .builtin .copy, args := args, argTypes := tys }, type := tp, pos := pos, after := aft, guard := none } :: rest) a w) : wpList Try.prog ops Q ({ dst := dst, op := .call { callee := .builtin .copy, args := args, argTypes := tys }, type := tp, pos := pos, after := aft, guard := none } :: rest) a w := h
/-- 'copy(block[:], b)' into a block that is known whole: as many as there are in both. -/
theorem wpList_cpm {ops : Array Oper} {rest : List Oper} {o : Oper} {a : Act} {Q : Exit → Act → World → Prop} (w : World) (hgd : o.guard = none) (d s : Operand)
    (ho : o.op = .call { callee := .builtin .copy, args := #[d, s], argTypes := #[22, 22] }) (g dl dc : Nat) (hd : a.eval d = .slice (some ⟨g, 0, none⟩) dl dc)
    (sp : Option Addr) (m c : Nat) (hs : a.eval s = .slice sp m c) (l : List UInt8) (hb : Bs w sp m c l) (vs : List Value) (t : TypeId) (blk : Blk w g vs t) (hfit : vs.length = dl)
    (h : ∀ v w', Blk w' g (cs (l.take dl) ++ vs.drop (min m dl)) t → Below g w w' → (∀ k us u, k ≠ g → Blk w k us u → Blk w' k us u) → wpList Try.prog ops Q rest (a.put o.dst v) w') : wpList Try.prog ops Q (o :: rest) a w := by
  have hl := hb.len
  obtain ⟨i0, hi, hz0, hz1, hz2⟩ := info_parts info5
  have hsz : (Try.prog.info? 5).map (·.size) = some 1 := by rw [hi]; simp [hz1]
  by_cases h0 : m = 0
  · subst h0
    obtain rfl : l = [] := List.length_eq_zero_iff.1 hl
    refine wpList_copy_nothing hgd d s 22 22 ho 5 Try.underlying22 hsz _ sp dl dc 0 c hd hs (by simp) ?_
    exact h _ w (by simpa [cs] using blk) (Below.refl _ _) (fun _ _ _ _ b => b)
  · obtain ⟨b, o', rfl, _, _⟩ := hb.at (by omega)
    have hcl : (cs (l.take dl)).length = min m dl := by rw [cs_length, List.length_take, hl, Nat.min_comm]
    refine wpList_copy_own hgd d s 22 22 ho 5 Try.underlying22 hsz g 0 dl dc ⟨b, o', none⟩ m c hd hs vs.toArray t blk (cs (l.take dl)) (by rw [hcl]) (fun j v hj => hb.news j v (cs_sub' hj)) (by rw [hcl]; simp; omega) cs_one ?_
    refine h _ _ ?_ ((Below.refl _ _).trans ⟨rfl, rfl, rfl, by simp [World.setRow], fun k hk => setRow_other w g k _ (by omega)⟩) (fun k us u hk b => ?_)
    · unfold Blk
      rw [setRow_heap w g _ _ t (0, 0) blk]
      simp [hcl]
    · unfold Blk
      rw [setRow_other w g k _ hk]
      exact b

end Go.Proofs.Ytbifikeecmaakaa

/-
  Contracts of layer 10's program: put, which writes a sector wholly. Conditions: there is such a sector, the bytes are at most 1024; fewer than 2^40 writes.
-/
namespace Go.Proofs.Ytbifikeecmaakaa
open Go.RowKit

/-- A sector of noughts. -/
def zSec : Array Value := (cs z1k).toArray
theorem zSec_ne : ¬ zSec = #[] := by
  intro h
  have := congrArg Array.size h
  unfold zSec at this
  rw [List.size_toArray, cs_length, z1k_length] at this
  simp at this
set_option maxRecDepth 100000 in
theorem zeroSec : Try.zeroCells109 = zSec := by kernel_rfl
theorem sizeSec : (Try.prog.info? 109).map (·.size) = some 1024 := by kernel_rfl
attribute [local go_sem] zeroSec
theorem cs_fitK {b : List UInt8} (h : b.length ≤ 1024) : cs (b.take 1024) ++ (cs z1k).drop (min b.length 1024) = cs (fitK b) := by
  rw [fitK_eq h, List.take_of_length_le h, cs_append, Nat.min_eq_left h]
  congr 1
  unfold cs z1k
  rw [← List.map_drop, List.drop_replicate]
/-- What stands in the cell behind a write. -/
theorem celC_put (r : Nat) {L S : List UInt8} (n : Nat) {k : Nat} (hL : L.length = 4096) (hS : S.length = 1024) (hk : k < 4) : (celC r L n).take (1 + k * 1024) ++ cs S ++ (celC r L n).drop (1 + k * 1024 + (cs S).length) = celC r (L.take (k * 1024) ++ S ++ L.drop (k * 1024 + 1024)) n := by
  unfold celC
  rw [cs_length, hS, Nat.add_comm 1, List.take_succ_cons, show k * 1024 + 1 + 1024 = (k * 1024 + 1024) + 1 from by omega, List.drop_succ_cons, List.take_append_of_le_length (by rw [cs_length]; omega), List.drop_append_of_le_length (by rw [cs_length]; omega)]
  simp only [cs_append, List.cons_append, List.append_assoc]
  unfold cs
  rw [List.map_take, List.map_drop]
theorem celC_setN (r : Nat) {L : List UInt8} (n : Nat) (hL : L.length = 4096) : (celC r L n).set 4097 (.int .i64 ((n : Int) + 1)) = celC r L (n + 1) := by
  unfold celC
  rw [List.set_cons_succ, List.set_append_right _ _ (by rw [cs_length]; omega), cs_length, hL]
  rfl
theorem flat_put {l : List (List UInt8)} {S : List UInt8} {k : Nat} (hl : l.length = 4) (hs : ∀ x ∈ l, x.length = 1024) (hk : k < 4) : l.flatten.take (k * 1024) ++ S ++ l.flatten.drop (k * 1024 + 1024) = (l.set k S).flatten := by
  match l, hl with
  | [a, b, c, d], _ =>
    have h1 := hs a (by simp)
    have h2 := hs b (by simp)
    have h3 := hs c (by simp)
    have h4 := hs d (by simp)
    match k, hk with
    | 0, _ => simp [h1]
    | 1, _ => simp [List.drop_append, h1, h2, List.drop_eq_nil_of_le]
    | 2, _ => simp [List.take_append, List.drop_append, h1, h2, h3, List.take_of_length_le, List.drop_eq_nil_of_le]
    | 3, _ => simp [List.take_append, h1, h2, h3, h4, List.take_of_length_le, List.drop_eq_nil_of_le]
/-- A store of an array into a place of a variable. -/
theorem opStM {ops : Array Oper} {Q : Exit → Act → World → Prop} (i : Nat) (ty : TypeId) (x y : Operand) (n : Nat) {oi : Oper} {K : Act → World → Prop} {a : Act} {w : World} (hi : ops[i]? = some oi) (hd : oi.dst = none) (ho : oi.op = .store ty x y) (hg : oi.guard = none) (g o : Nat) (us vs : List Value) (t : TypeId) (hb : Blk w g us t) (hn : o + n ≤ us.length) (hm : vs.length = n) (h1 : ∀ v ∈ vs, v.oneCell' = true) (hz : (Try.prog.info? ty).map (·.size) = some n)
    (hx : a.eval x = .pointer (some ⟨g, o, none⟩)) (hy : a.eval y = .agg vs.toArray)
    (k : ∀ w', Blk w' g (us.take o ++ vs ++ us.drop (o + vs.length)) t → Kp (fun j => j = g) w w' → K a w') : wpOp Try.prog ops Q i K a w := by
  have hr := run_storeAt_mid (P := Try.prog) w g o ty vs.toArray (by rw [List.size_toArray, hm]; exact hb.there o n hn) (by rw [List.size_toArray, hm]; exact hz) (all_oneCell_toArray h1)
  have hkp : Kp (fun j => j = g) w (w.setCells g o vs) := by
    have hh : ∀ (us : List Value) (w0 : World) (o : Nat), Kp (fun j => j = g) w0 (w0.setCells g o us) := by
      intro us
      induction us with
      | nil => intro w0 o; exact Kp.refl _ _
      | cons u us ih => intro w0 o; exact (Kp.of_grown (but_set w0 g o u)).trans (ih _ _)
    exact hh vs w o
  have hK : Hid _ := k (w.setCells g o vs) (hb.sets _ _ (by omega)) hkp
  clear k
  unfold wpOp
  simp only [hi]
  rw [if_pos (by simp [Region.wanted, hg])]
  left
  unfold Oper.wp
  simp [execOp, ho, hx, hy, hr, Result.andThen]
  simp only [Oper.upon, hd]
  exact hK.out

set_option maxRecDepth 100000 in
set_option maxHeartbeats 1000000 in
theorem oCPut (w : World) {c r : Nat} {L : List UInt8} {n : Nat} (hb : Blk w c (celC r L n) 112) (hL : L.length = 4096) (hn : n ≤ 5000) {k : Nat} (hk : k < 4) {p : Option Addr} {m q : Nat} {b : List UInt8} (hp : Bs w p m q b) (hm : m ≤ 1024) :
    Calls Try.prog 76 #[.pointer (some ⟨c, 0, none⟩), .int .i64 (k : Int), .slice p m q] w fun e w' => e = .returned (.tuple #[]) ∧ Blk w' c (celC r (L.take (k * 1024) ++ fitK b ++ L.drop (k * 1024 + 1024)) (n + 1)) 112 ∧ Kp (fun j => j = c) w w' := by
  have hne := zSec_ne
  have hall := allSec
  have hl := hb.lt
  have hbl : b.length = m := hp.len
  have hz : Blk (w.alloc (.cells zSec 109)) w.heap.size (cs z1k) 109 := Blk.new w _ _
  have hp1 : Bs (w.alloc (.cells zSec 109)) p m q b := hp.below (below_alloc _ _) (Nat.le_refl _)
  have hb1 : Blk (w.alloc (.cells zSec 109)) c (celC r L n) 112 := hb.old _
  have HK0 : Hid (Kp (fun j => j = c) w (w.alloc (.cells zSec 109))) := Kp.of_below (below_alloc _ _)
  have hzl : (cs z1k).length = 1024 := by rw [cs_length, z1k_length]
  have hcw : ¬ c = w.heap.size := by omega
  clear hb hp
  have HE : Hid (cs (b.take 1024) ++ (cs z1k).drop (min m 1024) = cs (fitK b)) := by show _ = _; rw [← hbl]; exact cs_fitK (by omega)
  have HSL : Hid ((cs (fitK b)).length = 1024) := by show _ = _; rw [cs_length, fitK_length]
  have HFL : Hid ((fitK b).length = 1024) := fitK_length b
  generalize fitK b = S at *
  have HL5 : Hid ((L.take (k * 1024) ++ S ++ L.drop (k * 1024 + 1024)).length = 4096) := by
    show _ = _
    have := HFL.out
    simp only [List.length_append, List.length_take, List.length_drop]
    omega
  have HPT : Hid ((celC r L n).take (1 + k * 1024) ++ cs S ++ (celC r L n).drop (1 + k * 1024 + (cs S).length) = celC r (L.take (k * 1024) ++ S ++ L.drop (k * 1024 + 1024)) n) := celC_put r n hL HFL.out hk
  generalize L.take (k * 1024) ++ S ++ L.drop (k * 1024 + 1024) = L' at *
  have hk' : (k : Int) < 4 := by omega
  go_enter Try.func76, Try.ntmps76
  go_wp2_with (with_reducible refine at_cp ?_; refine wpList_cpm _ rfl (.tmp 7) (.tmp 8) rfl w.heap.size 1024 1024 rfl p m q rfl b hp1 (cs z1k) 109 hz hzl ?_; intro v w1 d1 k1 o1)
  rw [HE.out] at d1
  have c1 := o1 c _ _ hcw hb1
  have HK1 : Hid (Kp (fun j => j = c) w w1) := Kp.of_below ((below_alloc w _).trans k1)
  clear HE hz hp1 hb1 o1 hne hbl hzl HK0 k1
  refine regionE 6 (S := Grows w1) (by kernel_rfl) (Below.refl _ w1).drew ?_
  refine takeT 0 (some 10) (.pointer (some ⟨c, 0, none⟩)) rfl rfl (by kernel_rfl) (fun _ _ _ h => h) (ans_plain (by rfl) (fun w _ => by unfold execOp; go_simp)) ?_
  simp only [Act.put, List.setIfInBounds_toArray, List.set_cons_zero, List.set_cons_succ]
  refine takeT 1 (some 11) (.int .i64 (k : Int)) rfl rfl (by kernel_rfl) (fun _ _ _ h => h) (ans_plain (by rfl) (fun w _ => by unfold execOp; go_simp)) ?_
  simp only [Act.put, List.setIfInBounds_toArray, List.set_cons_zero, List.set_cons_succ]
  refine takeT 2 (some 12) (.agg (cs S).toArray) rfl rfl (by kernel_rfl) (fun _ _ _ h => h) (ans_row 109 (.tmp 6) _ 1024 rfl (by rfl) w.heap.size 0 rfl (cs S) (fun u hu => (d1.below hu d1.lt).whole) Try.underlying109 rfl HSL.out sizeSec) ?_
  simp only [Act.put, List.setIfInBounds_toArray, List.set_cons_zero, List.set_cons_succ]
  refine takeT 3 (some 13) (.pointer (some ⟨c, 0, none⟩)) rfl rfl (by kernel_rfl) (fun _ _ _ h => h) (ans_plain (by rfl) (fun w _ => by unfold execOp; go_simp)) ?_
  simp only [Act.put, List.setIfInBounds_toArray, List.set_cons_zero, List.set_cons_succ]
  refine takeT 4 (some 14) (.pointer (some ⟨c, 1, none⟩)) rfl rfl (by kernel_rfl) (fun _ _ _ h => h) (ans_plain (by rfl) (fun w _ => by unfold execOp; go_simp)) ?_
  simp only [Act.put, List.setIfInBounds_toArray, List.set_cons_zero, List.set_cons_succ]
  refine takeT 5 (some 15) (.pointer (some ⟨c, 1 + k * 1024, none⟩)) rfl rfl (by kernel_rfl) (fun _ _ _ h => h) (ans_plain (by rfl) (fun w _ => by unfold execOp; go_simp)) ?_
  simp only [Act.put, List.setIfInBounds_toArray, List.set_cons_zero, List.set_cons_succ]
  refine goE (by kernel_rfl) (by kernel_rfl) (by kernel_rfl) fun u3 hg3 hs3 => ?_
  refine opStM 6 109 (.tmp 15) (.tmp 12) 1024 rfl rfl rfl rfl c (1 + k * 1024) _ (cs S) 112 (c1.below hs3 c1.lt) (by rw [celC_length, hL]; omega) HSL.out cs_one sizeSec rfl rfl ?_
  intro u4 c4 k4
  refine endE (by kernel_rfl) fun u5 hg5 => ?_
  rw [HPT.out] at c4
  have c5 := c4.below hg5 c4.lt
  have HK5 : Hid (Kp (fun j => j = c) w u5) := ((HK1.out.trans (Kp.of_below hs3)).trans k4).trans (Kp.of_below hg5)
  have hl5 := c5.lt
  have n5 : u5.cell? ⟨c, 4097, none⟩ = some (.int .i64 (n : Int)) := by rw [c5.cell]; exact celC_last r n HL5.out
  have z5 := c5.free 4097
  clear HK1 c4 k4 hg5 c1 d1 hg3 hs3
  go_wp2_with fail
  go_end0
  refine ⟨rfl, ?_, HK5.out.trans (kp_set u5 c 4097 _)⟩
  have := c5.setC 4097 (.int .i64 ((n : Int) + 1))
  rw [celC_setN r n HL5.out] at this
  exact this

end Go.Proofs.Ytbifikeecmaakaa

/-
  The contract of layer 14's program: Copy. Conditions: at most a million bytes, a hundred thousand keys, each of at most a million bytes.
-/
namespace Go.Proofs.Ytbifikeecmaakaa
open Go.RowKit

/-- A slice of bytes stored into a cell, the one that may come up. -/
theorem opStB {ops : Array Oper} {Q : Exit → Act → World → Prop} {i : Nat} {oi : Oper} (hi : ops[i]? = some oi) (hd : oi.dst = none) (hg : oi.guard = none) (x y : Operand) (ho : oi.op = .store 22 x y) {K : Act → World → Prop} {a : Act} {w : World} (g o : Nat) (hx : a.eval x = .pointer (some ⟨g, o, none⟩)) (s : Option Addr) (n c : Nat) (hy : a.eval y = .slice s n c) (u : Value) (hc : w.cell? ⟨g, o, none⟩ = some u) (hf : w.frozen? ⟨g, o, none⟩ = false)
    (k : K a (w.setCell ⟨g, o, none⟩ (.slice s n c))) : wpOp Try.prog ops Q i K a w := by
  have hl := lt_of_cell hc
  have hK : Hid _ := k
  clear k
  unfold wpOp
  simp only [hi]
  rw [if_pos (by simp [Region.wanted, hg])]
  left
  unfold Oper.wp execOp
  simp only [ho, hx, hy]
  go_simp
  exact hK.out
/-- Memory of what was copied: what was there, and what is new but for the row of keys. -/
def cpA (A : Nat → Prop) (w : World) (a2 : Option Addr) (j : Nat) : Prop := (A j ∧ j < w.heap.size) ∨ (w.heap.size + 2 ≤ j ∧ ∀ y, a2 = some y → y.block ≠ j)
/-- Behind some rounds of Copy's loop. -/
structure CpI (A : Nat → Prop) (w : World) (a : AncS) (p2 q2 : Tri) (wr : World) : Prop where
  b0 : Blk wr w.heap.size (anc a p2 q2) 25
  b1 : Blk wr (w.heap.size + 1) zanc 25
  ks : OwS (elK (cpA A w q2.la)) 3 78 wr (w.heap.size + 2) (.slice q2.la q2.ln q2.lc) a.keks
  ma : BA (cpA A w q2.la) wr p2.la p2.ln p2.lc a.master
  be : Below w.heap.size w wr
theorem CpI.grow {A : Nat → Prop} {w : World} {a : AncS} {p2 q2 : Tri} {wr w' : World} (h : CpI A w a p2 q2 wr) (hb : Below wr.heap.size wr w') : CpI A w a p2 q2 w' :=
  ⟨h.b0.below hb h.b0.lt, h.b1.below hb h.b1.lt, OwK.below h.ks hb, h.ma.grow hb, h.be.trans (hb.mono h.be.size)⟩
/-- Another key's bytes. -/
theorem CpI.set {A : Nat → Prop} {w : World} {a : AncS} {p2 q2 : Tri} {wr : World} (h : CpI A w a p2 q2 wr) {k : Nat} {x : KekS} (hx : a.keks[k]? = some x) :
    ∃ g s m q, q2.la = some ⟨g, 0, none⟩ ∧ w.heap.size + 2 ≤ g ∧ g < wr.heap.size ∧ wr.rangeAt g (k * 3) (kkc x s m q) ∧ BA (cpA A w q2.la) wr s m q x.key ∧
      ∀ w', CpI A w a p2 q2 w' → w'.heap.size ≥ wr.heap.size → w'.heap[g]? = wr.heap[g]? → ∃ u, w'.cell? ⟨g, k * 3 + 2, none⟩ = some u ∧ w'.frozen? ⟨g, k * 3 + 2, none⟩ = false ∧ ∀ {p : Option Addr} {m' q' : Nat}, BA (fun j => wr.heap.size ≤ j) w' p m' q' x.key → CpI A w a p2 q2 (w'.setCell ⟨g, k * 3 + 2, none⟩ (.slice p m' q')) := by
  obtain ⟨g, s, m, q, e, hg, hlt, hrg, hb, hfz, _⟩ := OwK.set h.ks hx
  refine ⟨g, s, m, q, e, hg, hlt, hrg, hb, fun w' h' hs hgw => ?_⟩
  obtain ⟨g', s', m', q', e', hg', hlt', hrg', hb', hfz', hset⟩ := OwK.set h'.ks hx
  rw [e] at e'
  have eg : g = g' := by simpa using e'
  subst eg
  refine ⟨.slice s' m' q', hrg' 2 _ rfl, hfz', fun {p m' q'} hB => ?_⟩
  have hA : ∀ j, cpA A w q2.la j → j ≠ g := fun j hj => by
    rcases hj with ⟨_, h1⟩ | ⟨_, h1⟩
    · omega
    · exact fun hjg => h1 _ e hjg.symm
  have hB2 : BA (cpA A w q2.la) w' p m' q' x.key := hB.mono fun j _ hj => Or.inr ⟨by omega, fun y hy => by rw [e] at hy; cases hy; show g ≠ j; omega⟩
  have hn0 : ¬ w.heap.size = g := by omega
  have hn1 : ¬ w.heap.size + 1 = g := by omega
  exact ⟨h'.b0.setO hn0 _, h'.b1.setO hn1 _, hset hB2 hA, h'.ma.keep (by simp [World.setCell]) (fun j hj ha => (but_set w' g (k * 3 + 2) _).block j hj (fun e => hA j ha (Option.some.inj e))), h'.be.setCell (by show w.heap.size ≤ g; omega) _⟩

set_option maxRecDepth 100000 in
set_option maxHeartbeats 4000000 in
theorem oCopyA (w : World) {A : Nat → Prop} {a : AncS} {p q : Tri} (h : Anc A w a p q) (hm : p.ln ≤ 1000000) (hk : q.ln ≤ 100000) (hkk : ∀ x ∈ a.keks, x.key.length ≤ 1000000) : Calls Try.prog 18 #[anV a p q] w fun e w' => ∃ p' q', e = .returned (anV a p' q') ∧ Anc (fun j => A j ∨ w.heap.size ≤ j) w' a p' q' ∧ Below w.heap.size w w' := by
  obtain ⟨sq, ep, gi, ro, re, pe, ma, ks⟩ := a
  obtain ⟨pa, pn, pc⟩ := p
  obtain ⟨qa, qn, qc⟩ := q
  dsimp only at hm hk hkk
  have hkl : ks.length = qn := h.kl
  have HNS : Hid (numsI (⟨sq, ep, gi, ro, re, pe, ma, ks⟩ : AncS)) := h.ns
  obtain ⟨W0, hW0⟩ : ∃ W0, W0 = (w.alloc (.cells #[.int .i64 sq, .int .i64 ep, .int .i64 gi, .int .i64 ro, .int .i64 re, .int .i64 pe, .slice pa pn pc, .slice qa qn qc] 25)).alloc (.cells #[.int .i64 0, .int .i64 0, .int .i64 0, .int .i64 0, .int .i64 0, .int .i64 0, .slice none 0 0, .slice none 0 0] 25) := ⟨_, rfl⟩
  have z0 : Blk W0 w.heap.size (anc (⟨sq, ep, gi, ro, re, pe, ma, ks⟩ : AncS) ⟨pa, pn, pc⟩ ⟨qa, qn, qc⟩) 25 := by rw [hW0]; exact (Blk.newAt w _ _ w.heap.size rfl _ rfl).old _
  have z1 : Blk W0 (w.heap.size + 1) zanc 25 := by rw [hW0]; exact Blk.newAt (w.alloc _) _ _ (w.heap.size + 1) (by simp) _ rfl
  have k0 : Below w.heap.size w W0 := by rw [hW0]; exact below2 _ _ _
  have s0 : W0.heap.size = w.heap.size + 2 := by rw [hW0]; simp
  have h0 : Anc (fun j => A j ∧ j < w.heap.size) W0 (⟨sq, ep, gi, ro, re, pe, ma, ks⟩ : AncS) ⟨pa, pn, pc⟩ ⟨qa, qn, qc⟩ := (h.mono fun j hj ha => ⟨ha, hj⟩).below k0
  have C1 : Hid (Calls Try.prog 55 #[.slice pa pn pc] W0 (Gives W0 ma)) := oCloneB W0 h0.ma.1 hm
  have c6 : W0.cell? ⟨w.heap.size, 6, none⟩ = some (.slice pa pn pc) := z0.cell 6
  have l0 := z0.lt
  have H0 : Hid (Anc (fun j => A j ∧ j < w.heap.size) W0 (⟨sq, ep, gi, ro, re, pe, ma, ks⟩ : AncS) ⟨pa, pn, pc⟩ ⟨qa, qn, qc⟩) := h0
  clear h h0
  unfold anV anc
  dsimp only
  go_enter Try.func18, Try.ntmps18
  go_wp2_with fail
  rw [← hW0]
  clear hW0
  refine C1.out.mono ?_
  rintro e w1 ⟨a1, m1, c1, rfl, o1, hb1⟩
  have y0 := z0.below hb1 z0.lt
  have y1 := z1.below hb1 z1.lt
  have k1 : Below w.heap.size w w1 := k0.trans (hb1.mono k0.size)
  have s1 : W0.heap.size ≤ w1.heap.size := hb1.size
  have H1 : Hid (Sl (elK fun j => A j ∧ j < w.heap.size) 3 (fun j => A j ∧ j < w.heap.size) w1 qa qn qc ks) := (H0.out.below hb1).ks
  have M1 : Hid (BA (fun j => W0.heap.size ≤ j ∧ j < w1.heap.size) w1 a1 m1 c1 ma) := ((o1.b5 (fun j hj hl => ⟨hj, hl⟩)).ba)
  have f6 := y0.free 6
  have d6 : w1.cell? ⟨w.heap.size, 6, none⟩ = some (.slice pa pn pc) := y0.cell 6
  have d7 : w1.cell? ⟨w.heap.size, 7, none⟩ = some (.slice qa qn qc) := y0.cell 7
  have l1 := y0.lt
  have x0 : Blk (w1.setCell ⟨w.heap.size, 6, none⟩ (.slice a1 m1 c1)) w.heap.size (anc (⟨sq, ep, gi, ro, re, pe, ma, ks⟩ : AncS) ⟨a1, m1, c1⟩ ⟨qa, qn, qc⟩) 25 := y0.setC 6 _
  have x1 : Blk (w1.setCell ⟨w.heap.size, 6, none⟩ (.slice a1 m1 c1)) (w.heap.size + 1) zanc 25 := y1.setO (by simp) _
  have k2 : Below w.heap.size w (w1.setCell ⟨w.heap.size, 6, none⟩ (.slice a1 m1 c1)) := k1.setCell (Nat.le_refl _) _
  have gb := but_set w1 w.heap.size 6 (.slice a1 m1 c1)
  have s2 : (w1.setCell ⟨w.heap.size, 6, none⟩ (.slice a1 m1 c1)).heap.size = w1.heap.size := by simp [World.setCell]
  have H2 : Sl (elK fun j => A j ∧ j < w.heap.size) 3 (fun j => A j ∧ j < w.heap.size) (w1.setCell ⟨w.heap.size, 6, none⟩ (.slice a1 m1 c1)) qa qn qc ks := H1.out.keep gb.size (elK.keep gb.size fun j hj ha => gb.block j hj (fun e => by have := Option.some.inj e; omega)) (fun j hj ha => gb.block j hj (fun e => by have := Option.some.inj e; omega))
  have M2 : Hid (BA (fun j => W0.heap.size ≤ j ∧ j < w1.heap.size) (w1.setCell ⟨w.heap.size, 6, none⟩ (.slice a1 m1 c1)) a1 m1 c1 ma) := M1.out.keep gb.size (fun j hj ha => gb.block j hj (fun e => by have := Option.some.inj e; omega))
  have C2 : Hid (Calls Try.prog 56 #[.slice qa qn qc] (w1.setCell ⟨w.heap.size, 6, none⟩ (.slice a1 m1 c1)) fun e w' => ∃ a' m' c', e = .returned (.slice a' m' c') ∧ OwS (elK fun j => (A j ∧ j < w.heap.size) ∧ j < (w1.setCell ⟨w.heap.size, 6, none⟩ (.slice a1 m1 c1)).heap.size) 3 78 w' (w1.setCell ⟨w.heap.size, 6, none⟩ (.slice a1 m1 c1)).heap.size (.slice a' m' c') ks ∧ Below (w1.setCell ⟨w.heap.size, 6, none⟩ (.slice a1 m1 c1)).heap.size (w1.setCell ⟨w.heap.size, 6, none⟩ (.slice a1 m1 c1)) w') := oCloneK _ H2 hk
  have e7 : (w1.setCell ⟨w.heap.size, 6, none⟩ (.slice a1 m1 c1)).cell? ⟨w.heap.size, 7, none⟩ = some (.slice qa qn qc) := x0.cell 7
  have l2 := x0.lt
  clear H1 M1 y0 y1 gb H2 k1 z0 z1 k0 o1 hb1 C1 c6 H0 l0
  go_wp2_with fail
  generalize w1.setCell ⟨w.heap.size, 6, none⟩ (.slice a1 m1 c1) = w2 at *
  refine C2.out.mono ?_
  rintro e w3 ⟨a2, m2, c2, rfl, o3, hb3⟩
  have y0 := x0.below hb3 x0.lt
  have y1 := x1.below hb3 x1.lt
  have k3 : Below w.heap.size w w3 := k2.trans (hb3.mono k2.size)
  have hm2 : ks.length = m2 := by obtain ⟨_, _, _, e, hh⟩ := o3.shape; simp only [Value.slice.injEq] at e; omega
  have hlt3 := o3.lt
  have hs3 := hb3.size
  have M3 := M2.out.grow hb3
  have f7 := y0.free 7
  have d7 : w3.cell? ⟨w.heap.size, 7, none⟩ = some (.slice qa qn qc) := y0.cell 7
  have l3 := y0.lt
  have CI : Hid (CpI A w (⟨sq, ep, gi, ro, re, pe, ma, ks⟩ : AncS) ⟨a1, m1, c1⟩ ⟨a2, m2, c2⟩ (w3.setCell ⟨w.heap.size, 7, none⟩ (.slice a2 m2 c2))) := by
    have gb := but_set w3 w.heap.size 7 (.slice a2 m2 c2)
    have hA : ∀ j, j < w3.heap.size → ((A j ∧ j < w.heap.size) ∧ j < w2.heap.size) → cpA A w a2 j := fun j _ hj => Or.inl hj.1
    refine ⟨y0.setC 7 _, y1.setO (by simp) _, ?_, ?_, k3.setCell (Nat.le_refl _) _⟩
    · have o4 : OwS (elK (cpA A w a2)) 3 78 w3 w2.heap.size (.slice a2 m2 c2) ks := OwK.mono o3 hA
      have o5 := OwK.keep o4 gb.size (fun j hj ha => gb.block j hj (fun e => by have := Option.some.inj e; rcases ha with h | h <;> omega)) (fun j hj => gb.block j (hlt3 j hj).2 (fun e => by have := Option.some.inj e; have := (hlt3 j hj).1; omega))
      obtain ⟨rows, hr, o6⟩ := o5
      refine ⟨rows, hr, o6.1, ?_⟩
      rcases o6.2 with h | ⟨g, cap, cur, h1, h2, h3⟩
      · exact Or.inl h
      · exact Or.inr ⟨g, cap, cur, h1, by omega, h3⟩
    · have M4 : BA (cpA A w a2) w3 a1 m1 c1 ma := M3.mono fun j _ hj => Or.inr ⟨by omega, fun y hy hyj => by have := (hlt3 y.block (by subst hy; rfl)).1; omega⟩
      exact M4.keep gb.size (fun j hj ha => gb.block j hj (fun e => by have := Option.some.inj e; rcases ha with h | h <;> omega))
  have e7 := CI.out.b0.cell 7
  have l4 := CI.out.b0.lt
  simp only [anc, List.getElem?_cons_succ, List.getElem?_cons_zero] at e7
  clear M3 M2 y0 y1 k3 k2 o3 hb3 C2 x0 x1 hlt3 hs3 s1 s2 l1 l2 f6 d6
  go_wp2_with fail
  generalize w3.setCell ⟨w.heap.size, 7, none⟩ (.slice a2 m2 c2) = w4 at *
  clear d7 f7 l3
  go_loopw [16] (fun i wr => ∃ k : Nat, k ≤ m2 ∧ i = .int .i64 (k : Int) ∧ Hid (CpI A w (⟨sq, ep, gi, ro, re, pe, ma, ks⟩ : AncS) ⟨a1, m1, c1⟩ ⟨a2, m2, c2⟩ wr)) (fun i _ => m2 - (intOf i).toNat)
  case atStart => exact ⟨0, Nat.zero_le _, rfl, CI⟩
  case round =>
    clear CI e7 l4
    obtain ⟨k, hkm, rfl, CI⟩ := hrel
    by_cases hlt : k < m2
    · have i0 : (k : Int) < (m2 : Int) := by omega
      obtain ⟨x, hx⟩ : ∃ x, ks[k]? = some x := ⟨_, List.getElem?_eq_getElem (by omega)⟩
      obtain ⟨g, s, m, q, e0, hg, hgl, hrg, hB, hset⟩ := CI.out.set (x := x) (k := k) hx
      dsimp only at e0
      subst e0
      have hmm : m ≤ 1000000 := by rw [← hB.1.len]; exact hkk x (List.mem_of_getElem? hx)
      obtain ⟨gk, hgk⟩ : ∃ gk, gk = wr.heap.size := ⟨_, rfl⟩
      have z9 : Blk (wr.alloc (.cells #[.int .i64 0, .int .i64 0, .slice none 0 0] 78)) gk [.int .i64 0, .int .i64 0, .slice none 0 0] 78 := Blk.newAt wr _ _ gk hgk.symm _ rfl
      have k9 : Below wr.heap.size wr (wr.alloc (.cells #[.int .i64 0, .int .i64 0, .slice none 0 0] 78)) := below_alloc _ _
      go_wp2_with (first | ((with_reducible refine at_ld 78 ?_); (refine ld 78 (.tmp 19) 3 sizeKk _ Try.underlying78 rfl g (k * 3) (kkc x s m q) rfl hrg rfl ?_)) | ((with_reducible refine at_st 78 ?_); (refine st' 78 (.tmp 4) (.tmp 20) 3 sizeKk wr.heap.size 0 (kkc x s m q) rfl (kkc_one _ _ _ _) (by rw [← hgk]; exact z9.there 0 3 (by simp)) rfl rfl ?_); intro v5 hv5; have b5 : Blk v5 gk (kkc x s m q) 78 := (by rw [hv5, ← hgk]; exact z9.setsW _ rfl); have k5 : Below wr.heap.size wr v5 := (by rw [hv5]; exact below_sets (Nat.le_refl _) _ k9 0); clear hv5))
      rw [← hgk]
      clear z9 k9 hgk
      have hi5 := CI.out.grow k5
      have hb5 := hB.grow k5
      have ig : (k : Int) < (m2 : Int) := i0
      have hlg5 : g < v5.heap.size := Nat.lt_of_lt_of_le hgl k5.size
      have hlb5 := b5.lt
      have hl05 := hi5.b0.lt
      have X7 : ∀ u, Grows v5 u → u.cell? ⟨w.heap.size, 7, none⟩ = some (.slice (some ⟨g, 0, none⟩) m2 c2) := fun u hu => (hi5.b0.below hu hi5.b0.lt).cell 7
      have X2 : ∀ u, Grows v5 u → u.cell? ⟨gk, 2, none⟩ = some (.slice s m q) := fun u hu => (b5.below hu b5.lt).cell 2
      go_wp2_with fail
      refine regionE 8 (S := Grows v5) (by kernel_rfl) (Below.refl _ v5).drew ?_
      refine takeT 0 (some 21) (.pointer (some ⟨w.heap.size, 7, none⟩)) rfl rfl (by kernel_rfl) (fun _ _ _ h => h) (ans_plain (by rfl) (fun w _ => by unfold execOp; go_simp)) ?_
      simp only [Act.put, List.setIfInBounds_toArray, List.set_cons_zero, List.set_cons_succ]
      refine takeT 1 (some 22) (.slice (some ⟨g, 0, none⟩) m2 c2) rfl rfl (by kernel_rfl) (fun _ _ _ h => h) (ans_plain (by rfl) (fun w h => by have hc := X7 w h; unfold execOp; go_simp)) ?_
      simp only [Act.put, List.setIfInBounds_toArray, List.set_cons_zero, List.set_cons_succ]
      refine takeT 2 (some 23) (.int .i64 (k : Int)) rfl rfl (by kernel_rfl) (fun _ _ _ h => h) (ans_plain (by rfl) (fun w _ => rfl)) ?_
      simp only [Act.put, List.setIfInBounds_toArray, List.set_cons_zero, List.set_cons_succ]
      refine takeT 3 (some 24) (.pointer (some ⟨gk, 2, none⟩)) rfl rfl (by kernel_rfl) (fun _ _ _ h => h) (ans_plain (by rfl) (fun w _ => by unfold execOp; go_simp)) ?_
      simp only [Act.put, List.setIfInBounds_toArray, List.set_cons_zero, List.set_cons_succ]
      refine takeT 4 (some 25) (.slice s m q) rfl rfl (by kernel_rfl) (fun _ _ _ h => h) (ans_plain (by rfl) (fun w h => by have hc := X2 w h; unfold execOp; go_simp)) ?_
      simp only [Act.put, List.setIfInBounds_toArray, List.set_cons_zero, List.set_cons_succ]
      refine callE 5 (some 26) 55 #[.tmp 25] #[22] #[.slice s m q] rfl rfl rfl (by rfl) (by rfl) (by kernel_rfl) (by kernel_rfl) Try.call55 fun u6 hg6 hs6 => ?_
      refine (oCloneB u6 (hb5.grow hs6).1 hmm).mono ?_
      rintro e u7 ⟨a7, m7, c7, rfl, o7, hb7⟩
      refine ⟨_, rfl, hs6.trans hb7, ?_⟩
      simp only [Act.put, List.setIfInBounds_toArray, List.set_cons_zero, List.set_cons_succ]
      refine takeT 6 (some 27) (.pointer (some ⟨g, k * 3, none⟩)) rfl rfl (by kernel_rfl) (fun _ _ _ h => h) (ans_plain (by rfl) (fun w _ => by unfold execOp; go_simp)) ?_
      simp only [Act.put, List.setIfInBounds_toArray, List.set_cons_zero, List.set_cons_succ]
      refine takeT 7 (some 28) (.pointer (some ⟨g, k * 3 + 2, none⟩)) rfl rfl (by kernel_rfl) (fun _ _ _ h => h) (ans_plain (by rfl) (fun w _ => by unfold execOp; go_simp)) ?_
      simp only [Act.put, List.setIfInBounds_toArray, List.set_cons_zero, List.set_cons_succ]
      refine lastE (by kernel_rfl) (by kernel_rfl) (by kernel_rfl) (by kernel_rfl) fun u8 hg8 hs8 => ?_
      have h78 : Below u7.heap.size u7 u8 := hg8
      have CI8 := CI.out.grow (k5.trans (Below.mono hs8 k5.size))
      have o8 : BA (fun j => wr.heap.size ≤ j) u8 a7 m7 c7 x.key := ((o7.b5 (A := fun j => wr.heap.size ≤ j) (fun j hj _ => Nat.le_trans (Nat.le_trans k5.size (Below.size hs6)) hj)).ba).grow h78
      have ge8 : u8.heap.size ≥ wr.heap.size := Nat.le_trans k5.size (Below.size hs8)
      obtain ⟨uv, hc8, hf8, hfin⟩ := hset u8 CI8 ge8 ((Below.block (k5.trans (Below.mono hs8 k5.size)) g hgl))
      refine opStB rfl rfl rfl (.tmp 28) (.tmp 26) rfl g (k * 3 + 2) rfl a7 m7 c7 rfl uv hc8 hf8 ?_
      intro u9 hg9
      have CI9 : Hid (CpI A w (⟨sq, ep, gi, ro, re, pe, ma, ks⟩ : AncS) ⟨a1, m1, c1⟩ ⟨some ⟨g, 0, none⟩, m2, c2⟩ u9) := (hfin o8).grow hg9
      clear hfin hc8 hf8 o8 CI8 h78 hg9 hs8 hg8 hb7 o7 hs6 hg6 X7 X2 hi5 hb5 hset hrg hB b5 k5 CI hx
      go_wp2_with fail
      go_roundw
      case rel => exact ⟨k + 1, by omega, by go_num, CI9⟩
      case measure => simp [intOf]; omega
    · have i0 : ¬ (k : Int) < (m2 : Int) := by omega
      have r0 := CI.out.b0
      have r1 := CI.out.b1
      have HB1 : Hid (Below w.heap.size w wr) := CI.out.be
      go_wp2_with (first | ((with_reducible refine at_ld 25 ?_); (refine ld 25 (.tmp 1) 8 sizeAn _ Try.underlying25 rfl w.heap.size 0 (anc (⟨sq, ep, gi, ro, re, pe, ma, ks⟩ : AncS) ⟨a1, m1, c1⟩ ⟨a2, m2, c2⟩) rfl r0.whole rfl ?_)) | ((with_reducible refine at_st 25 ?_); (refine st' 25 (.tmp 2) (.tmp 30) 8 sizeAn (w.heap.size + 1) 0 (anc (⟨sq, ep, gi, ro, re, pe, ma, ks⟩ : AncS) ⟨a1, m1, c1⟩ ⟨a2, m2, c2⟩) rfl (anc_one _ _ _) (r1.there 0 8 (by simp [zanc])) rfl rfl ?_); intro v8 hv8; have b8 : Blk v8 (w.heap.size + 1) (anc (⟨sq, ep, gi, ro, re, pe, ma, ks⟩ : AncS) ⟨a1, m1, c1⟩ ⟨a2, m2, c2⟩) 25 := (by rw [hv8]; exact r1.setsW _ rfl); have g8 : wr.grownBy v8 (some (w.heap.size + 1)) := (by rw [hv8]; exact but_cells' _ _ _ _); have k8 : Below w.heap.size w v8 := (by rw [hv8]; exact below_sets (by omega) _ HB1.out 0); clear hv8))
      have hs : Sl (elK (cpA A w a2)) 3 (fun j => w.heap.size + 2 ≤ j) wr a2 m2 c2 ks := CI.out.ks.sl3 (fun j hj _ => hj)
      have hk8 : ∀ j, j < wr.heap.size → cpA A w a2 j → v8.heap[j]? = wr.heap[j]? := fun j hj ha => g8.block j hj (fun e => by have := Option.some.inj e; rcases ha with h | h <;> omega)
      have han : Anc (fun j => A j ∨ w.heap.size ≤ j) v8 (⟨sq, ep, gi, ro, re, pe, ma, ks⟩ : AncS) ⟨a1, m1, c1⟩ ⟨a2, m2, c2⟩ := by
        have hmo : ∀ j, j < v8.heap.size → cpA A w a2 j → A j ∨ w.heap.size ≤ j := fun j _ hj => by rcases hj with h | h; exact Or.inl h.1; exact Or.inr (by omega)
        refine ⟨(CI.out.ma.keep g8.size hk8).mono hmo, ?_, HNS.out⟩
        exact (hs.keep g8.size (elK.keep g8.size hk8) (fun j hj ha => g8.block j hj (fun e => by have := Option.some.inj e; omega))).mono (elK.mono hmo) (fun j _ hj => Or.inr (by omega))
      exact bodyPost_ret (v := anV (⟨sq, ep, gi, ro, re, pe, ma, ks⟩ : AncS) ⟨a1, m1, c1⟩ ⟨a2, m2, c2⟩) (results_cell_row Try.results18 _ _ (w.heap.size + 1) 25 (anc (⟨sq, ep, gi, ro, re, pe, ma, ks⟩ : AncS) ⟨a1, m1, c1⟩ ⟨a2, m2, c2⟩).toArray (0, 0) _ rfl b8 Try.underlying25 rfl sizeAn) rfl ⟨⟨a1, m1, c1⟩, ⟨a2, m2, c2⟩, rfl, han, k8⟩

end Go.Proofs.Ytbifikeecmaakaa
