/-
  3 texts in one. No statement of the seat is proved here.
-/
import Derived.Test.YtbifikeecmaakaaG24
import Derived.Deep.CutBlock
/-
  The contracts of layer 14's program: number, read. Condition: at most 100000 bytes.
-/
namespace Go.Proofs.Ytbifikeecmaakaa
open Go.RowKit

theorem rN_len {s : RdS} (h : s.1.length ≤ 100000) (k : Int) : (rN s k).1.length ≤ 100000 := rdBytes_len s.1 s.2 k h
theorem rNs_len {s : RdS} (h : s.1.length ≤ 100000) : ∀ n, (rNs n s).1.length ≤ 100000
  | 0 => h
  | n + 1 => rN_len (rNs_len h n) 8
theorem rKs_len {s : RdS} (h : s.1.length ≤ 100000) : ∀ n, (rKs n s).1.length ≤ 100000
  | 0 => h
  | n + 1 => rN_len (rN_len (rN_len (rKs_len h n) 2) 2) 32
theorem cap62_le (n : Nat) : 0 ≤ cap62 n ∧ cap62 n ≤ 4611686018427387904 := by
  unfold cap62
  split <;> omega
/-- Fewer bytes, smaller numbers. -/
theorem getN_small : ∀ (l : List UInt8), l.length ≤ 2 → getN l ≤ 65535 ∧ (l.length ≤ 1 → getN l ≤ 255)
  | [], _ => ⟨by decide, fun _ => by decide⟩
  | [x], _ => by
    have := UInt8.toNat_lt x
    have e : getN [x] = x.toNat := by
      show (0 * 256 + x.toNat) % 18446744073709551616 = x.toNat
      omega
    rw [e]
    exact ⟨by omega, fun _ => by omega⟩
  | [x, y], _ => by
    have h1 := UInt8.toNat_lt x
    have h2 := UInt8.toNat_lt y
    have e : getN [x, y] = x.toNat * 256 + y.toNat := by
      show ((0 * 256 + x.toNat) % 18446744073709551616 * 256 + y.toNat) % 18446744073709551616 = _
      omega
    rw [e]
    exact ⟨by omega, fun h => by simp at h⟩
  | _ :: _ :: _ :: _, h => by simp at h
theorem rB_len (s : RdS) (k : Nat) : (rB s (k : Nat)).length ≤ k := by
  unfold rB rdBytes
  split
  · simp
  · split
    · simp
    · simp; omega
theorem rV2 (s : RdS) : rV s 2 ≤ 65535 := (getN_small _ (rB_len s 2)).1
theorem rV1 (s : RdS) : rV s 1 ≤ 255 := (getN_small _ (Nat.le_trans (show (rB s 1).length ≤ 1 from rB_len s 1) (by decide))).2 (rB_len s 1)

set_option maxRecDepth 100000 in
theorem oNumA (w : World) (r : Nat) {s : RdS} (h : Rd w r s.1 s.2) (hz : s.1.length ≤ 100000) : Calls Try.prog 63 #[.pointer (some ⟨r, 0, none⟩)] w fun e w' => e = .returned (.int .i64 (cap62 (rV s 8))) ∧ Rd w' r (rN s 8).1 (rN s 8).2 ∧ w.grownBy w' (some r) := by
  have C : Hid (Calls Try.prog 64 #[.pointer (some ⟨r, 0, none⟩), .int .i64 8] w fun e w' => e = .returned (.int .u64 (rV s 8 : Nat)) ∧ Rd w' r (rN s 8).1 (rN s 8).2 ∧ w.grownBy w' (some r)) := oNumber w r h 8 hz (by decide) (by decide)
  have hlt : rV s 8 < 18446744073709551616 := getN_lt _
  clear h
  unfold cap62
  generalize rV s 8 = g at *
  generalize rN s 8 = s' at *
  by_cases h2 : 4611686018427387904 < g
  · rw [if_pos h2]
    have i2 : ¬ (g : Int) < 4611686018427387904 := by omega
    have i3 : (4611686018427387904 : Int) < (g : Int) := by omega
    go_enter Try.func63, Try.ntmps63
    go_wp2_with fail
    refine C.out.mono ?_
    rintro e w1 ⟨rfl, hr, hg⟩
    go_wp2_with fail
    go_ret
    exact ⟨rfl, hr, hg⟩
  · rw [if_neg h2]
    by_cases h3 : g = 4611686018427387904
    · subst h3
      go_enter Try.func63, Try.ntmps63
      go_wp2_with fail
      refine C.out.mono ?_
      rintro e w1 ⟨rfl, hr, hg⟩
      go_wp2_with fail
      go_ret
      exact ⟨rfl, hr, hg⟩
    · have i2 : (g : Int) < 4611686018427387904 := by omega
      have i3 : ¬ (4611686018427387904 : Int) < (g : Int) := by omega
      go_enter Try.func63, Try.ntmps63
      go_wp2_with fail
      refine C.out.mono ?_
      rintro e w1 ⟨rfl, hr, hg⟩
      go_wp2_with fail
      go_ret
      exact ⟨rfl, hr, hg⟩

/-- A key whose bytes lie in a block of bytes, of those in A. -/
def el5 (A : Nat → Prop) (w : World) (k : KekS) (vs : List Value) : Prop := ∃ p m c, vs = kkc k p m c ∧ B5 A w p m c k.key ∧ i64 k.bucket ∧ i64 k.gen
theorem el5.keep {A : Nat → Prop} {w w' : World} (hk : ∀ j cur f, A j → w.heap[j]? = some (.cells cur 5 f) → w'.heap[j]? = w.heap[j]?) : ∀ x vs, el5 A w x vs → el5 A w' x vs := by
  rintro x vs ⟨p, m, c, e, hb, h⟩
  exact ⟨p, m, c, e, hb.keep hk, h⟩
theorem el5.elK {A : Nat → Prop} {w : World} : ∀ x vs, el5 A w x vs → elK A w x vs := by
  rintro x vs ⟨p, m, c, e, hb, h⟩
  exact ⟨p, m, c, e, hb.ba, h⟩
/-- Ahead of read's numbers. -/
def RdP (w : World) (r : Nat) (s : RdS) (u : World) (b : Nat) : Prop := Rd u r s.1 s.2 ∧ Blk u b zanc 25 ∧ w.grownBy u (some r)
theorem RdP.num {w : World} {r : Nat} {s : RdS} {b : Nat} (hz : s.1.length ≤ 100000) (hb : b ≠ r) (i : Nat) : ∀ u, RdP w r (rNs i s) u b → Calls Try.prog 63 #[.pointer (some ⟨r, 0, none⟩)] u fun e u' => e = .returned (.int .i64 (numR s i)) ∧ RdP w r (rNs (i + 1) s) u' b := fun u h => by
  refine (oNumA u r h.1 (rNs_len hz i)).mono ?_
  rintro e u' ⟨rfl, h1, h2⟩
  refine ⟨rfl, h1, ?_, but_trans h.2.2 h2⟩
  unfold Blk
  rw [h2.block b h.2.1.lt (fun e => hb (Option.some.inj e))]
  exact h.2.1
/-- Behind some keys. -/
structure RdI (w : World) (r : Nat) (s : RdS) (h : AncS) (a1 q2 : Tri) (b g : Nat) (k : Nat) (wr : World) : Prop where
  rd : Rd wr r (rKs k s).1 (rKs k s).2
  b0 : Blk wr b zanc 25
  b1 : Blk wr g (anc h a1 q2) 25
  ks : OwS (el5 fun j => w.heap.size ≤ j) 3 78 wr w.heap.size (.slice q2.la q2.ln q2.lc) (keksR k s)
  ma : B5 (fun j => w.heap.size ≤ j) wr a1.la a1.ln a1.lc h.master
  by_ : w.grownBy wr (some r)
/-- The reader was turned. -/
theorem RdI.turn {w : World} {r : Nat} {s : RdS} {h : AncS} {a1 q2 : Tri} {b g k : Nat} {wr w' : World} (H : RdI w r s h a1 q2 b g k wr) (hr : r < w.heap.size) (hb : w.heap.size ≤ b) (hg : w.heap.size ≤ g) (hk : wr.grownBy w' (some r)) :
    Blk w' b zanc 25 ∧ Blk w' g (anc h a1 q2) 25 ∧ OwS (el5 fun j => w.heap.size ≤ j) 3 78 w' w.heap.size (.slice q2.la q2.ln q2.lc) (keksR k s) ∧ B5 (fun j => w.heap.size ≤ j) w' a1.la a1.ln a1.lc h.master ∧ w.grownBy w' (some r) := by
  have hn : ∀ j, w.heap.size ≤ j → ¬ some j = some r := fun j hj e => by have := Option.some.inj e; omega
  refine ⟨?_, ?_, OwS.keep H.ks (el5.keep fun j _ _ ha hh => hk.block j (Array.getElem?_eq_some_iff.1 hh).1 (hn j ha)) (fun j hj => hk.block j (H.ks.lt j hj).2 (hn j (H.ks.lt j hj).1)), H.ma.keep (fun j _ _ ha hh => hk.block j (Array.getElem?_eq_some_iff.1 hh).1 (hn j ha)), but_trans H.by_ hk⟩
  · unfold Blk
    rw [hk.block b H.b0.lt (hn b hb)]
    exact H.b0
  · unfold Blk
    rw [hk.block g H.b1.lt (hn g hg)]
    exact H.b1
theorem Blk.not5k {w : World} {g : Nat} {vs : List Value} {t : TypeId} (h : Blk w g vs t) (ht : t ≠ 5) {cur : Array Value} {f : Nat × Nat} : w.heap[g]? ≠ some (.cells cur 5 f) := fun hh => by
  rw [show w.heap[g]? = _ from h] at hh
  simp only [Option.some.injEq, Obj.cells.injEq] at hh
  exact ht hh.2.1
/-- One key more: behind its reading (w3), the literal (block w4's last), the append (w5), the store. -/
theorem RdI.more {w : World} {r : Nat} {s : RdS} {h : AncS} {a1 q2 : Tri} {b g k : Nat} {w5 : World} {a5 : Option Addr} {n5 c5 : Nat} (hr : r < w.heap.size) (hg : w.heap.size ≤ g) (hbg : b ≠ g) (hrd : Rd w5 r (rKs (k + 1) s).1 (rKs (k + 1) s).2) (h0 : Blk w5 b zanc 25) (h1 : Blk w5 g (anc h a1 q2) 25)
    (hks : OwS (el5 fun j => w.heap.size ≤ j) 3 78 w5 w.heap.size (.slice a5 n5 c5) (keksR (k + 1) s)) (hma : B5 (fun j => w.heap.size ≤ j) w5 a1.la a1.ln a1.lc h.master) (hby : w.grownBy w5 (some r)) :
    RdI w r s h a1 ⟨a5, n5, c5⟩ b g (k + 1) (w5.setCell ⟨g, 7, none⟩ (.slice a5 n5 c5)) := by
  have gb := but_set w5 g 7 (.slice a5 n5 c5)
  have h5 : ∀ j cur f, w.heap.size ≤ j → w5.heap[j]? = some (.cells cur 5 f) → (w5.setCell ⟨g, 7, none⟩ (.slice a5 n5 c5)).heap[j]? = w5.heap[j]? := fun j _ _ _ hh => gb.block j (Array.getElem?_eq_some_iff.1 hh).1 (fun e => by obtain rfl := Option.some.inj e; exact h1.not5k neAn5 hh)
  refine ⟨?_, h0.setO (by exact hbg) _, h1.setC 7 _, OwS.keep hks (el5.keep h5) (fun j hj => gb.block j (hks.lt j hj).2 (fun e => ?_)), hma.keep h5, ?_⟩
  · exact hrd.but gb (by omega)
  · have ej : j = g := Option.some.inj e
    rw [ej] at hj
    obtain ⟨cur, hc⟩ := hks.type _ hj
    rw [show w5.heap[g]? = _ from h1] at hc
    simp only [Option.some.injEq, Obj.cells.injEq] at hc
    exact neAnKk hc.2.1
  · refine ⟨hby.os, hby.tape, hby.output, Nat.le_trans hby.size gb.size, fun j hj hn => ?_⟩
    rw [gb.block j (Nat.lt_of_lt_of_le hj hby.size) (fun e => by have := Option.some.inj e; omega)]
    exact hby.block j hj hn

theorem RdI.grow {w : World} {r : Nat} {s : RdS} {h : AncS} {a1 q2 : Tri} {b g k : Nat} {wr w' : World} (H : RdI w r s h a1 q2 b g k wr) (hb : Below wr.heap.size wr w') : RdI w r s h a1 q2 b g k w' :=
  ⟨H.rd.below hb (Nat.le_refl _), H.b0.below hb H.b0.lt, H.b1.below hb H.b1.lt, OwS.keep H.ks (el5.keep fun j _ _ _ hh => hb.block j (Array.getElem?_eq_some_iff.1 hh).1) (fun j hj => hb.block j (H.ks.lt j hj).2), H.ma.below hb, but_trans H.by_ (but_of_below hb)⟩
/-- A literal of one key, the one that may come up. -/
theorem opBSK {ops : Array Oper} {Q : Exit → Act → World → Prop} {i : Nat} {oi : Oper} (d : Option Tmp) (hi : ops[i]? = some oi) (hd : oi.dst = d) (hg : oi.guard = none) (x : Operand) (ho : oi.op = .buildSlice 23 1 #[(0, x)]) {K : Act → World → Prop} {a : Act} {w : World} (u v s : Value) (hx : a.eval x = .agg #[u, v, s])
    (k : K (a.put d (.slice (some ⟨w.heap.size, 0, none⟩) 1 1)) (w.alloc (.cells #[u, v, s] 78))) : wpOp Try.prog ops Q i K a w := by
  subst hd
  have hK : Hid _ := k
  clear k
  unfold wpOp
  simp only [hi]
  rw [if_pos (by simp [Region.wanted, hg])]
  left
  unfold Oper.wp execOp
  simp only [ho, List.map_toArray, List.map_cons, List.map_nil, hx]
  go_simp
  exact hK.out
/-- A slice of keys stored into a field, the one that may come up. -/
theorem opStK {ops : Array Oper} {Q : Exit → Act → World → Prop} {i : Nat} {oi : Oper} (hi : ops[i]? = some oi) (hd : oi.dst = none) (hg : oi.guard = none) (x y : Operand) (ho : oi.op = .store 23 x y) {K : Act → World → Prop} {a : Act} {w : World} (g o : Nat) (hx : a.eval x = .pointer (some ⟨g, o, none⟩)) (s : Option Addr) (n c : Nat) (hy : a.eval y = .slice s n c) (vs : List Value) (t : TypeId) (hb : Blk w g vs t) (ho2 : o < vs.length)
    (k : K a (w.setCell ⟨g, o, none⟩ (.slice s n c))) : wpOp Try.prog ops Q i K a w := by
  have hc := hb.cell o
  rw [List.getElem?_eq_getElem ho2] at hc
  have hf := hb.free o
  have hl := hb.lt
  have hK : Hid _ := k
  clear k
  unfold wpOp
  simp only [hi]
  rw [if_pos (by simp [Region.wanted, hg])]
  left
  unfold Oper.wp execOp
  simp only [ho, hx, hy]
  go_simp
  exact hK.out

set_option maxRecDepth 100000 in
set_option maxHeartbeats 8000000 in
theorem oReadA (w : World) (r : Nat) {s : RdS} (h : Rd w r s.1 s.2) (hz : s.1.length ≤ 100000) : Calls Try.prog 44 #[.pointer (some ⟨r, 0, none⟩)] w fun e w' => ∃ p q, e = .returned (anV (readR s) p q) ∧ Anc (fun j => w.heap.size ≤ j) w' (readR s) p q ∧ Rd w' r (restR s).1 (restR s).2 ∧ w.grownBy w' (some r) := by
  have hr := h.lt
  have P0 : Hid (RdP w r (rNs 0 s) (w.alloc (.cells #[.int .i64 0, .int .i64 0, .int .i64 0, .int .i64 0, .int .i64 0, .int .i64 0, .slice none 0 0, .slice none 0 0] 25)) w.heap.size) := ⟨h.below (below_alloc _ _) (Nat.le_refl _), Blk.newAt w _ _ w.heap.size rfl _ rfl, but_of_below (below_alloc _ _)⟩
  have hbr : w.heap.size ≠ r := by omega
  have C0 : Hid (∀ u, RdP w r (rNs 0 s) u w.heap.size → Calls Try.prog 63 #[.pointer (some ⟨r, 0, none⟩)] u fun e u' => e = .returned (.int .i64 (numR s 0)) ∧ RdP w r (rNs 1 s) u' w.heap.size) := RdP.num hz hbr 0
  have C1 : Hid (∀ u, RdP w r (rNs 1 s) u w.heap.size → Calls Try.prog 63 #[.pointer (some ⟨r, 0, none⟩)] u fun e u' => e = .returned (.int .i64 (numR s 1)) ∧ RdP w r (rNs 2 s) u' w.heap.size) := RdP.num hz hbr 1
  have C2 : Hid (∀ u, RdP w r (rNs 2 s) u w.heap.size → Calls Try.prog 63 #[.pointer (some ⟨r, 0, none⟩)] u fun e u' => e = .returned (.int .i64 (numR s 2)) ∧ RdP w r (rNs 3 s) u' w.heap.size) := RdP.num hz hbr 2
  have C3 : Hid (∀ u, RdP w r (rNs 3 s) u w.heap.size → Calls Try.prog 63 #[.pointer (some ⟨r, 0, none⟩)] u fun e u' => e = .returned (.int .i64 (numR s 3)) ∧ RdP w r (rNs 4 s) u' w.heap.size) := RdP.num hz hbr 3
  have C4 : Hid (∀ u, RdP w r (rNs 4 s) u w.heap.size → Calls Try.prog 63 #[.pointer (some ⟨r, 0, none⟩)] u fun e u' => e = .returned (.int .i64 (numR s 4)) ∧ RdP w r (rNs 5 s) u' w.heap.size) := RdP.num hz hbr 4
  have C5 : Hid (∀ u, RdP w r (rNs 5 s) u w.heap.size → Calls Try.prog 63 #[.pointer (some ⟨r, 0, none⟩)] u fun e u' => e = .returned (.int .i64 (numR s 5)) ∧ RdP w r (rNs 6 s) u' w.heap.size) := RdP.num hz hbr 5
  have CB : Hid (∀ u, RdP w r (rNs 6 s) u w.heap.size → Calls Try.prog 43 #[.pointer (some ⟨r, 0, none⟩), .int .i64 32] u (Reads u r (rdBytes (rNs 6 s).1 (rNs 6 s).2 32))) := fun u hu => oBytes u r hu.1 32 (rNs_len hz 6) (by decide) (by decide)
  have z32 : (s32 s).1.length ≤ 100000 := rN_len (rNs_len hz 6) 32
  have CN : Hid (∀ u, Rd u r (s32 s).1 (s32 s).2 → Calls Try.prog 64 #[.pointer (some ⟨r, 0, none⟩), .int .i64 1] u fun e u' => e = .returned (.int .u64 (sCnt s : Nat)) ∧ Rd u' r (sKek s).1 (sKek s).2 ∧ u.grownBy u' (some r)) := fun u hu => oNumber u r hu 1 z32 (by decide) (by decide)
  have zK : (sKek s).1.length ≤ 100000 := rN_len z32 1
  have hcnt : sCnt s ≤ 255 := rV1 _
  have HS32 : Hid (((rdBytes (rNs 6 s).1 (rNs 6 s).2 32).1, (rdBytes (rNs 6 s).1 (rNs 6 s).2 32).2.1) = s32 s) := rfl
  have HM : Hid ((rdBytes (rNs 6 s).1 (rNs 6 s).2 32).2.2 = rB (rNs 6 s) 32) := rfl
  unfold readR headR restR
  have hn3 := cap62_le (rV (rNs 3 s) 8)
  rw [show cap62 (rV (rNs 3 s) 8) = numR s 3 from rfl] at hn3
  have hb0 : 0 ≤ numR s 0 ∧ numR s 0 ≤ 4611686018427387904 := cap62_le _
  have hb1 : 0 ≤ numR s 1 ∧ numR s 1 ≤ 4611686018427387904 := cap62_le _
  have hb2 : 0 ≤ numR s 2 ∧ numR s 2 ≤ 4611686018427387904 := cap62_le _
  have hb3 : 0 ≤ numR s 3 ∧ numR s 3 ≤ 4611686018427387904 := cap62_le _
  have hb4 : 0 ≤ numR s 4 ∧ numR s 4 ≤ 4611686018427387904 := cap62_le _
  have hb5 : 0 ≤ numR s 5 ∧ numR s 5 ≤ 4611686018427387904 := cap62_le _
  generalize numR s 0 = n0 at *
  generalize numR s 1 = n1 at *
  generalize numR s 2 = n2 at *
  generalize numR s 3 = n3 at *
  generalize numR s 4 = n4 at *
  generalize numR s 5 = n5 at *
  have HNI : Hid (numsI (⟨n0, n1, n2, n3 - 1, n4, n5, rB (rNs 6 s) 32, []⟩ : AncS)) := ⟨⟨by show _ ≤ n0; omega, by show n0 ≤ _; omega⟩, ⟨by show _ ≤ n1; omega, by show n1 ≤ _; omega⟩, ⟨by show _ ≤ n2; omega, by show n2 ≤ _; omega⟩, ⟨by show _ ≤ n3 - 1; omega, by show n3 - 1 ≤ _; omega⟩, ⟨by show _ ≤ n4; omega, by show n4 ≤ _; omega⟩, ⟨by show _ ≤ n5; omega, by show n5 ≤ _; omega⟩⟩
  obtain ⟨h3a, h3b⟩ := hn3
  generalize rB (rNs 6 s) 32 = mb at *
  generalize rdBytes (rNs 6 s).1 (rNs 6 s).2 32 = s6 at *
  generalize s32 s = t32 at *
  generalize sKek s = sk at *
  generalize sCnt s = cnt at *
  clear h hb0 hb1 hb2 hb3 hb4 hb5 hz z32
  go_enter Try.func44, Try.ntmps44
  go_wp2_with fail
  generalize w.alloc (.cells #[.int .i64 0, .int .i64 0, .int .i64 0, .int .i64 0, .int .i64 0, .int .i64 0, .slice none 0 0, .slice none 0 0] 25) = v0 at *
  refine (C0.out _ P0.out).mono ?_
  rintro e v1 ⟨rfl, p1⟩
  have P1 : Hid _ := p1
  clear p1 P0 C0
  go_wp2_with fail
  refine (C1.out _ P1.out).mono ?_
  rintro e v2 ⟨rfl, p2⟩
  have P2 : Hid _ := p2
  clear p2 P1 C1
  go_wp2_with fail
  refine (C2.out _ P2.out).mono ?_
  rintro e v3 ⟨rfl, p3⟩
  have P3 : Hid _ := p3
  clear p3 P2 C2
  go_wp2_with fail
  refine (C3.out _ P3.out).mono ?_
  rintro e v4 ⟨rfl, p4⟩
  have P4 : Hid _ := p4
  clear p4 P3 C3
  go_wp2_with fail
  refine (C4.out _ P4.out).mono ?_
  rintro e v5 ⟨rfl, p5⟩
  have P5 : Hid _ := p5
  clear p5 P4 C4
  go_wp2_with fail
  refine (C5.out _ P5.out).mono ?_
  rintro e v6 ⟨rfl, p6⟩
  have P6 : Hid _ := p6
  clear p6 P5 C5
  go_wp2_with fail
  refine (CB.out _ P6.out).mono ?_
  rintro e v7 ⟨am, mm, cm, rfl, o7, rd7, g7⟩
  rw [HM.out] at o7
  have rd7b : Rd v7 r t32.1 t32.2 := by rw [← HS32.out]; exact rd7
  have z7 : Blk v7 w.heap.size zanc 25 := by unfold Blk; rw [g7.block w.heap.size P6.out.2.1.lt (fun e => hbr (Option.some.inj e))]; exact P6.out.2.1
  have y7 : w.grownBy v7 (some r) := but_trans P6.out.2.2 g7
  have M7 : B5 (fun j => w.heap.size ≤ j) v7 am mm cm mb := o7.b5 (fun j hj _ => Nat.le_trans P6.out.2.2.size hj)
  clear o7 rd7 g7 P6 CB HM HS32
  obtain ⟨g, hg⟩ : ∃ g, g = v7.heap.size := ⟨_, rfl⟩
  have zg : Blk (v7.alloc (.cells #[.int .i64 0, .int .i64 0, .int .i64 0, .int .i64 0, .int .i64 0, .int .i64 0, .slice none 0 0, .slice none 0 0] 25)) g zanc 25 := Blk.newAt v7 _ _ g hg.symm _ rfl
  have kg : Below v7.heap.size v7 (v7.alloc (.cells #[.int .i64 0, .int .i64 0, .int .i64 0, .int .i64 0, .int .i64 0, .int .i64 0, .slice none 0 0, .slice none 0 0] 25)) := below_alloc _ _
  go_wp2_with ((with_reducible refine at_st 25 ?_); (refine st' 25 (.tmp 3) (.tmp 19) 8 sizeAn v7.heap.size 0 (anc (⟨n0, n1, n2, n3 - 1, n4, n5, mb, []⟩ : AncS) ⟨am, mm, cm⟩ t0) rfl (anc_one _ _ _) (by rw [← hg]; exact zg.there 0 8 (by simp [zanc])) rfl rfl ?_); intro v8 hv8; have b8 : Blk v8 g (anc (⟨n0, n1, n2, n3 - 1, n4, n5, mb, []⟩ : AncS) ⟨am, mm, cm⟩ t0) 25 := (by rw [hv8, ← hg]; exact zg.setsW _ rfl); have k8 : Below v7.heap.size v7 v8 := (by rw [hv8]; exact below_sets (Nat.le_refl _) _ kg 0); clear hv8)
  rw [← hg]
  have hwg : w.heap.size < g := by have := z7.lt; omega
  have rd8 := rd7b.below k8 (Nat.le_refl _)
  have z8 := z7.below k8 z7.lt
  have y8 : w.grownBy v8 (some r) := but_trans y7 (but_of_below k8)
  have M8 := M7.below k8
  clear zg kg rd7b z7 y7 M7 k8 hg
  refine (CN.out v8 rd8).mono ?_
  rintro e v9 ⟨rfl, rd9, g9⟩
  have hn : ∀ j, w.heap.size ≤ j → ¬ some j = some r := fun j hj e => by have := Option.some.inj e; omega
  have I0 : Hid (RdI w r sk (⟨n0, n1, n2, n3 - 1, n4, n5, mb, []⟩ : AncS) ⟨am, mm, cm⟩ t0 w.heap.size g 0 v9) := by
    refine ⟨rd9, ?_, ?_, OwS.nil _ _ _ _ _, M8.keep (fun j _ _ ha hh => g9.block j (Array.getElem?_eq_some_iff.1 hh).1 (hn j ha)), but_trans y8 g9⟩
    · unfold Blk; rw [g9.block _ z8.lt (hn _ (Nat.le_refl _))]; exact z8
    · unfold Blk; rw [g9.block _ b8.lt (hn _ (by omega))]; exact b8
  clear rd8 z8 y8 M8 rd9 g9 b8 CN hn
  go_wp2_with fail
  go_loopw [22] (fun i wr => ∃ (k : Nat) (q2 : Tri), k ≤ cnt ∧ i = .int .u64 (k : Int) ∧ Hid (RdI w r sk (⟨n0, n1, n2, n3 - 1, n4, n5, mb, []⟩ : AncS) ⟨am, mm, cm⟩ q2 w.heap.size g k wr)) (fun i _ => cnt - (intOf i).toNat)
  case atStart => exact ⟨0, t0, Nat.zero_le _, rfl, I0⟩
  case round =>
    clear I0
    obtain ⟨k, q2, hk, rfl, HI⟩ := hrel
    obtain ⟨a2, l2, c2⟩ := q2
    by_cases hlt : k < cnt
    · have i0 : (k : Int) < (cnt : Int) := by omega
      have hkl := keksR_len k sk
      have hks := HI.out.ks
      dsimp only at hks
      have hlz := rKs_len zK k
      obtain ⟨s1, hs1⟩ : ∃ s1, s1 = rKs k sk := ⟨_, rfl⟩
      rw [← hs1] at hlz
      have D1 : Hid (∀ u, Rd u r s1.1 s1.2 → Calls Try.prog 64 #[.pointer (some ⟨r, 0, none⟩), .int .i64 2] u fun e u' => e = .returned (.int .u64 (rV s1 2 : Nat)) ∧ Rd u' r (rN s1 2).1 (rN s1 2).2 ∧ u.grownBy u' (some r)) := fun u hu => oNumber u r hu 2 hlz (by decide) (by decide)
      have D2 : Hid (∀ u, Rd u r (rN s1 2).1 (rN s1 2).2 → Calls Try.prog 64 #[.pointer (some ⟨r, 0, none⟩), .int .i64 2] u fun e u' => e = .returned (.int .u64 (rV (rN s1 2) 2 : Nat)) ∧ Rd u' r (rN (rN s1 2) 2).1 (rN (rN s1 2) 2).2 ∧ u.grownBy u' (some r)) := fun u hu => oNumber u r hu 2 (rN_len hlz 2) (by decide) (by decide)
      have D3 : Hid (∀ u, Rd u r (rN (rN s1 2) 2).1 (rN (rN s1 2) 2).2 → Calls Try.prog 43 #[.pointer (some ⟨r, 0, none⟩), .int .i64 32] u (Reads u r (rdBytes (rN (rN s1 2) 2).1 (rN (rN s1 2) 2).2 32))) := fun u hu => oBytes u r hu 32 (rN_len (rN_len hlz 2) 2) (by decide) (by decide)
      have E1 := rV2 s1
      have E2 := rV2 (rN s1 2)
      have EK : Hid (keksR (k + 1) sk = keksR k sk ++ [⟨(rV s1 2 : Nat), (rV (rN s1 2) 2 : Nat), (rdBytes (rN (rN s1 2) 2).1 (rN (rN s1 2) 2).2 32).2.2⟩]) := by rw [hs1]; exact rfl
      have ER : Hid (rKs (k + 1) sk = ((rdBytes (rN (rN s1 2) 2).1 (rN (rN s1 2) 2).2 32).1, (rdBytes (rN (rN s1 2) 2).1 (rN (rN s1 2) 2).2 32).2.1)) := by rw [hs1]; exact rfl
      have HR1 : Hid (Rd wr r s1.1 s1.2) := by rw [hs1]; exact HI.out.rd
      generalize rdBytes (rN (rN s1 2) 2).1 (rN (rN s1 2) 2).2 32 = y3 at *
      generalize rV s1 2 = e1 at *
      generalize rV (rN s1 2) 2 = e2 at *
      generalize rN (rN s1 2) 2 = y2 at *
      generalize rN s1 2 = y1 at *
      clear hs1 hlz
      have we1 : IntKind.i64.wrap (e1 : Int) = (e1 : Int) := by rw [IntKind.wrap_i64]; omega
      have we2 : IntKind.i64.wrap (e2 : Int) = (e2 : Int) := by rw [IntKind.wrap_i64]; omega
      have ZS : ∀ u, Kp (fun j => j = r ∨ (Value.slice a2 l2 c2).ownBlock = some j) wr u → u.cell? ⟨g, 7, none⟩ = some (.slice a2 l2 c2) := fun u hu => (hu.blk HI.out.b1 (fun e => by
        rcases e with e | e
        · omega
        · obtain ⟨cur, hc⟩ := hks.type _ e
          rw [show wr.heap[g]? = _ from HI.out.b1] at hc
          simp only [Option.some.injEq, Obj.cells.injEq] at hc
          exact neAnKk hc.2.1)).cell 7
      have hlg := HI.out.b1.lt
      have ZL : ∀ u, Kp (fun j => j = r ∨ (Value.slice a2 l2 c2).ownBlock = some j) wr u → g < u.heap.size := fun u hu => Nat.lt_of_lt_of_le hlg hu.size
      go_wp2_with fail
      refine regionE 14 (S := Kp (fun j => j = r ∨ (Value.slice a2 l2 c2).ownBlock = some j) wr) (by kernel_rfl) ((Kp.refl _ wr).drew 1) ?_
      refine takeT 0 (some 24) (.pointer (some ⟨g, 7, none⟩)) rfl rfl (by kernel_rfl) (fun _ _ _ h => h) (ans_plain (by rfl) (fun w _ => by unfold execOp; go_simp)) ?_
      simp only [Act.put, List.setIfInBounds_toArray, List.set_cons_zero, List.set_cons_succ]
      refine takeT 1 (some 25) (.slice a2 l2 c2) rfl rfl (by kernel_rfl) (fun _ _ _ h => h) (ans_plain (by rfl) (fun w h => by have hc := ZS w h; unfold execOp; go_simp)) ?_
      simp only [Act.put, List.setIfInBounds_toArray, List.set_cons_zero, List.set_cons_succ]
      refine takeT 2 (some 26) (.pointer (some ⟨r, 0, none⟩)) rfl rfl (by kernel_rfl) (fun _ _ _ h => h) (ans_plain (by rfl) (fun w _ => rfl)) ?_
      simp only [Act.put, List.setIfInBounds_toArray, List.set_cons_zero, List.set_cons_succ]
      refine takeT 5 (some 29) (.pointer (some ⟨r, 0, none⟩)) rfl rfl (by kernel_rfl) (fun _ _ _ h => h) (ans_plain (by rfl) (fun w _ => rfl)) ?_
      simp only [Act.put, List.setIfInBounds_toArray, List.set_cons_zero, List.set_cons_succ]
      refine takeT 8 (some 32) (.pointer (some ⟨r, 0, none⟩)) rfl rfl (by kernel_rfl) (fun _ _ _ h => h) (ans_plain (by rfl) (fun w _ => rfl)) ?_
      simp only [Act.put, List.setIfInBounds_toArray, List.set_cons_zero, List.set_cons_succ]
      refine callE 3 (some 27) 64 #[.tmp 26, .const (.int .i64 2)] #[85, 3] #[.pointer (some ⟨r, 0, none⟩), .int .i64 2] rfl rfl rfl (by rfl) (by rfl) (by kernel_rfl) (by kernel_rfl) Try.call64 fun u1 hgu1 hsu1 => ?_
      refine (D1.out u1 (HR1.out.below (Below.trans (below_drewN' wr 1) hgu1) (Nat.le_refl _))).mono ?_
      rintro e u2 ⟨rfl, rd2, g2⟩
      refine ⟨_, rfl, (hsu1.trans ((Kp.of_grown g2).mono fun j _ e => Or.inl e)), ?_⟩
      simp only [Act.put, List.setIfInBounds_toArray, List.set_cons_zero, List.set_cons_succ]
      refine takeT 4 (some 28) (.int .i64 (e1 : Int)) rfl rfl (by kernel_rfl) (fun _ _ _ h => h) (ans_plain (by rfl) (fun w _ => by unfold execOp; go_simp)) ?_
      simp only [Act.put, List.setIfInBounds_toArray, List.set_cons_zero, List.set_cons_succ]
      refine callE 6 (some 30) 64 #[.tmp 29, .const (.int .i64 2)] #[85, 3] #[.pointer (some ⟨r, 0, none⟩), .int .i64 2] rfl rfl rfl (by rfl) (by rfl) (by kernel_rfl) (by kernel_rfl) Try.call64 fun u3 hgu3 hsu3 => ?_
      refine (D2.out u3 (rd2.below hgu3 (Nat.le_refl _))).mono ?_
      rintro e u4 ⟨rfl, rd4, g4⟩
      refine ⟨_, rfl, (hsu3.trans ((Kp.of_grown g4).mono fun j _ e => Or.inl e)), ?_⟩
      simp only [Act.put, List.setIfInBounds_toArray, List.set_cons_zero, List.set_cons_succ]
      refine takeT 7 (some 31) (.int .i64 (e2 : Int)) rfl rfl (by kernel_rfl) (fun _ _ _ h => h) (ans_plain (by rfl) (fun w _ => by unfold execOp; go_simp)) ?_
      simp only [Act.put, List.setIfInBounds_toArray, List.set_cons_zero, List.set_cons_succ]
      refine callE 9 (some 33) 43 #[.tmp 32, .const (.int .i64 32)] #[85, 3] #[.pointer (some ⟨r, 0, none⟩), .int .i64 32] rfl rfl rfl (by rfl) (by rfl) (by kernel_rfl) (by kernel_rfl) Try.call43 fun u5 hgu5 hsu5 => ?_
      refine (D3.out u5 (rd4.below hgu5 (Nat.le_refl _))).mono ?_
      rintro e u6 ⟨a6, m6, c6, rfl, o6, rd6, g6⟩
      refine ⟨_, rfl, (hsu5.trans ((Kp.of_grown g6).mono fun j _ e => Or.inl e)), ?_⟩
      simp only [Act.put, List.setIfInBounds_toArray, List.set_cons_zero, List.set_cons_succ]
      have kR : wr.grownBy u6 (some r) := but_trans (but_of_below (Below.trans (below_drewN' wr 1) hgu1)) (but_trans g2 (but_trans (but_of_below hgu3) (but_trans g4 (but_trans (but_of_below hgu5) g6))))
      obtain ⟨t0b, t1b, tks, tma, tby⟩ := HI.out.turn hr (Nat.le_refl _) (Nat.le_of_lt hwg) kR
      have o6b : B5 (fun j => w.heap.size ≤ j) u6 a6 m6 c6 y3.2.2 := o6.b5 (fun j hj _ => Nat.le_trans (Nat.le_trans HI.out.by_.size (Nat.le_trans (Nat.le_trans (but_of_below (r := r) (Below.trans (below_drewN' wr 1) hgu1)).size g2.size) (Nat.le_trans hgu3.size (Nat.le_trans g4.size hgu5.size)))) hj)
      refine takeT 10 (some 34) (.agg #[.int .i64 (e1 : Int), .int .i64 (e2 : Int), .slice a6 m6 c6]) rfl rfl (by kernel_rfl) (fun _ _ _ h => h) (ans_plain (by rfl) (fun w _ => by unfold execOp; go_simp)) ?_
      simp only [Act.put, List.setIfInBounds_toArray, List.set_cons_zero, List.set_cons_succ]
      refine oneE 11 (by kernel_rfl) (by kernel_rfl) fun u7 hg7 hs7 => ?_
      refine opBSK (some 35) rfl rfl rfl (.tmp 34) rfl (.int .i64 (e1 : Int)) (.int .i64 (e2 : Int)) (.slice a6 m6 c6) rfl ⟨hs7.alloc _, ?_⟩
      simp only [Act.put, List.setIfInBounds_toArray, List.set_cons_zero, List.set_cons_succ]
      have hlit : Blk (u7.alloc (.cells #[.int .i64 (e1 : Int), .int .i64 (e2 : Int), .slice a6 m6 c6] 78)) u7.heap.size (kkc ⟨(e1 : Int), (e2 : Int), y3.2.2⟩ a6 m6 c6) 78 := Blk.newAt u7 _ _ u7.heap.size rfl _ rfl
      have k67 : Below u6.heap.size u6 (u7.alloc (.cells #[.int .i64 (e1 : Int), .int .i64 (e2 : Int), .slice a6 m6 c6] 78)) := Below.trans hg7 ((below_alloc u7 _).mono (Below.size hg7))
      generalize hgl : u7.heap.size = gl at *
      generalize u7.alloc (.cells #[.int .i64 (e1 : Int), .int .i64 (e2 : Int), .slice a6 m6 c6] 78) = u8 at *
      refine oneE 12 (by kernel_rfl) (by kernel_rfl) fun u9 hg9 hs9 => ?_
      have k69 : Below u6.heap.size u6 u9 := k67.trans (Below.mono hg9 k67.size)
      have kks : OwS (el5 fun j => w.heap.size ≤ j) 3 78 u9 w.heap.size (.slice a2 l2 c2) (keksR k sk) := OwS.keep tks (el5.keep fun j _ _ _ hh => k69.block j (Array.getElem?_eq_some_iff.1 hh).1) (fun j hj => k69.block j (tks.lt j hj).2)
      have hlit9 := hlit.below hg9 hlit.lt
      have hrow : Row (el5 fun j => w.heap.size ≤ j) 3 u9 (⟨(e1 : Int), (e2 : Int), y3.2.2⟩ : KekS) (kkc ⟨(e1 : Int), (e2 : Int), y3.2.2⟩ a6 m6 c6) := ⟨rfl, kkc_one _ _ _ _, a6, m6, c6, rfl, o6b.below k69, ⟨by show _ ≤ (e1 : Int); omega, by show (e1 : Int) ≤ _; omega⟩, ⟨by show _ ≤ (e2 : Int); omega, by show (e2 : Int) ≤ _; omega⟩⟩
      have N5 := kks.not5 neKk5
      refine opApp1 (el5 fun j => w.heap.size ≤ j) 3 40 23 78 _ Try.underlying23 infoKk rfl (by decide) (by decide) u9 rfl rfl (some 36) rfl (.tmp 25) (.tmp 35) rfl w.heap.size (.slice a2 l2 c2) (keksR k sk) rfl kks gl 1 (⟨(e1 : Int), (e2 : Int), y3.2.2⟩ : KekS) (kkc ⟨(e1 : Int), (e2 : Int), y3.2.2⟩ a6 m6 c6) rfl hlit9.whole hrow (by rw [hkl]; omega) (Nat.le_trans tby.size k69.size) (fun w' x vs hgr hx => el5.keep (fun j cur f _ hh => hgr.block j (Array.getElem?_eq_some_iff.1 hh).1 (fun e => N5 j cur f e.symm hh)) x vs hx) ?_
      intro v10 u10 o10 g10
      obtain ⟨a10, n10, c10, rfl, hn10⟩ := o10.shape
      rw [← EK.out] at o10
      refine ⟨hs9.trans ⟨g10.os, g10.tape, g10.output, g10.size, fun j hj hn => g10.block j hj (fun e => hn (Or.inr e.symm))⟩, ?_⟩
      simp only [Act.put, List.setIfInBounds_toArray, List.set_cons_zero, List.set_cons_succ]
      refine takeT 13 (some 37) (.pointer (some ⟨g, 7, none⟩)) rfl rfl (by kernel_rfl) (fun _ _ _ h => h) (ans_plain (by rfl) (fun w _ => by unfold execOp; go_simp)) ?_
      simp only [Act.put, List.setIfInBounds_toArray, List.set_cons_zero, List.set_cons_succ]
      refine lastE (by kernel_rfl) (by kernel_rfl) (by kernel_rfl) (by kernel_rfl) fun u11 hg11 hs11 => ?_
      have hno : ∀ j, w.heap.size ≤ j → ∀ vs, Blk u9 j vs 25 → u10.heap[j]? = u9.heap[j]? := fun j hj vs hb => g10.block j hb.lt (fun e => by obtain ⟨cur, hc⟩ := kks.type _ e.symm; rw [show u9.heap[j]? = _ from hb] at hc; simp only [Option.some.injEq, Obj.cells.injEq] at hc; exact neAnKk hc.2.1)
      have b0a := t0b.below k69 t0b.lt
      have b1a := t1b.below k69 t1b.lt
      have b0b : Blk u10 w.heap.size zanc 25 := by unfold Blk; rw [hno _ (Nat.le_refl _) _ b0a]; exact b0a
      have b1b : Blk u10 g (anc (⟨n0, n1, n2, n3 - 1, n4, n5, mb, []⟩ : AncS) ⟨am, mm, cm⟩ ⟨a2, l2, c2⟩) 25 := by unfold Blk; rw [hno _ (Nat.le_of_lt hwg) _ b1a]; exact b1a
      have rd6b : Rd u6 r (rKs (k + 1) sk).1 (rKs (k + 1) sk).2 := by rw [ER.out]; exact rd6
      have rd9b := rd6b.below k69 (Nat.le_refl _)
      have rd10 : Rd u10 r (rKs (k + 1) sk).1 (rKs (k + 1) sk).2 := by
        cases hob : (Value.slice a2 l2 c2).ownBlock with
        | none => exact rd9b.below (⟨g10.os, g10.tape, g10.output, g10.size, fun j hj => g10.block j hj (by rw [hob]; exact fun e => nomatch e)⟩ : Below u9.heap.size u9 u10) (Nat.le_refl _)
        | some X => rw [hob] at g10; exact rd9b.but g10 (by have := (kks.lt X hob).1; omega)
      have by10 : w.grownBy u10 (some r) := by
        refine ⟨g10.os.trans (k69.os.trans tby.os), g10.tape.trans (k69.tape.trans tby.tape), g10.output.trans (k69.output.trans tby.output), Nat.le_trans tby.size (Nat.le_trans k69.size g10.size), fun j hj hn => ?_⟩
        rw [g10.block j (Nat.lt_of_lt_of_le hj (Nat.le_trans tby.size k69.size)) (fun e => by have := (kks.lt j e.symm).1; omega), k69.block j (Nat.lt_of_lt_of_le hj tby.size)]
        exact tby.block j hj hn
      have ma9 := tma.below k69
      have ma10 : B5 (fun j => w.heap.size ≤ j) u10 am mm cm mb := ma9.keep (fun j cur f _ hh => g10.block j (Array.getElem?_eq_some_iff.1 hh).1 (fun e => N5 j cur f e.symm hh))
      have o11 : OwS (el5 fun j => w.heap.size ≤ j) 3 78 u11 w.heap.size (.slice a10 n10 c10) (keksR (k + 1) sk) := OwS.keep o10 (el5.keep fun j _ _ _ hh => Below.block hg11 j (Array.getElem?_eq_some_iff.1 hh).1) (fun j hj => Below.block hg11 j (o10.lt j hj).2)
      have b0c := b0b.below hg11 b0b.lt
      have b1c := b1b.below hg11 b1b.lt
      have FIN := RdI.more hr (Nat.le_of_lt hwg) (by omega) (rd10.below hg11 (Nat.le_refl _)) b0c b1c o11 (ma10.below hg11) (but_trans by10 (but_of_below hg11))
      refine opStK rfl rfl rfl (.tmp 37) (.tmp 36) rfl g 7 rfl a10 n10 c10 rfl _ _ b1c (by simp [anc]) ?_
      intro u12 hg12
      have HF : Hid (RdI w r sk (⟨n0, n1, n2, n3 - 1, n4, n5, mb, []⟩ : AncS) ⟨am, mm, cm⟩ ⟨a10, n10, c10⟩ w.heap.size g (k + 1) u12) := FIN.grow hg12
      clear FIN o11 b0c b1c rd10 by10 ma10 ma9 b0b b1b b0a b1a hno hs11 hg11 o10 g10 N5 hrow hlit9 kks k69 hs9 hg9 hlit k67 hgl hs7 hg7 o6b t0b t1b tks tma tby kR rd6 g6 o6 hgu5 hsu5 rd4 g4 hgu3 hsu3 rd2 g2 hgu1 hsu1 D1 D2 D3 EK ER HR1 ZS ZL HI hks rd6b rd9b
      go_wp2_with fail
      go_roundw
      case rel => exact ⟨k + 1, ⟨a10, n10, c10⟩, by omega, by go_num, HF⟩
      case measure => simp [intOf]; omega
    · have i0 : ¬ (k : Int) < (cnt : Int) := by omega
      obtain rfl : k = cnt := by omega
      have r0 := HI.out.b0
      have r1 := HI.out.b1
      go_wp2_with (first | ((with_reducible refine at_ld 25 ?_); (refine ld 25 (.tmp 3) 8 sizeAn _ Try.underlying25 rfl g 0 (anc (⟨n0, n1, n2, n3 - 1, n4, n5, mb, []⟩ : AncS) ⟨am, mm, cm⟩ ⟨a2, l2, c2⟩) rfl r1.whole rfl ?_)) | ((with_reducible refine at_st 25 ?_); (refine st' 25 (.tmp 2) (.tmp 39) 8 sizeAn w.heap.size 0 (anc (⟨n0, n1, n2, n3 - 1, n4, n5, mb, []⟩ : AncS) ⟨am, mm, cm⟩ ⟨a2, l2, c2⟩) rfl (anc_one _ _ _) (r0.there 0 8 (by simp [zanc])) rfl rfl ?_); intro w8 hw8; have b8 : Blk w8 w.heap.size (anc (⟨n0, n1, n2, n3 - 1, n4, n5, mb, []⟩ : AncS) ⟨am, mm, cm⟩ ⟨a2, l2, c2⟩) 25 := (by rw [hw8]; exact r0.setsW _ rfl); have g8 : wr.grownBy w8 (some w.heap.size) := (by rw [hw8]; exact but_cells' _ _ _ _); clear hw8))
      have h5 : ∀ j cur f, w.heap.size ≤ j → wr.heap[j]? = some (.cells cur 5 f) → w8.heap[j]? = wr.heap[j]? := fun j _ _ _ hh => g8.block j (Array.getElem?_eq_some_iff.1 hh).1 (fun e => by obtain rfl := Option.some.inj e; exact r0.not5k neAn5 hh)
      have hks := HI.out.ks
      dsimp only at hks
      have k8 := OwS.keep hks (el5.keep h5) (fun j hj => g8.block j (hks.lt j hj).2 (fun e => by have ej : j = w.heap.size := Option.some.inj e; rw [ej] at hj; obtain ⟨cur, hc⟩ := hks.type _ hj; rw [show wr.heap[w.heap.size]? = _ from r0] at hc; simp only [Option.some.injEq, Obj.cells.injEq] at hc; exact neAnKk hc.2.1))
      have m8 := (HI.out.ma.keep h5).ba
      have hrd8 : Rd w8 r (rKs k sk).1 (rKs k sk).2 := HI.out.rd.but g8 hr
      have by8 : w.grownBy w8 (some r) := by
        have hby := HI.out.by_
        refine ⟨g8.os.trans hby.os, g8.tape.trans hby.tape, g8.output.trans hby.output, Nat.le_trans hby.size g8.size, fun j hj hn => ?_⟩
        rw [g8.block j (Nat.lt_of_lt_of_le hj hby.size) (fun e => by have := Option.some.inj e; omega)]
        exact hby.block j hj hn
      have han : Anc (fun j => w.heap.size ≤ j) w8 { (⟨n0, n1, n2, n3 - 1, n4, n5, mb, []⟩ : AncS) with keks := keksR k sk } ⟨am, mm, cm⟩ ⟨a2, l2, c2⟩ := ⟨m8, (k8.sl3 (A := fun j => w.heap.size ≤ j) (fun j hj _ => hj)).mono el5.elK (fun _ _ h => h), HNI.out⟩
      exact bodyPost_ret (v := anV { (⟨n0, n1, n2, n3 - 1, n4, n5, mb, []⟩ : AncS) with keks := keksR k sk } ⟨am, mm, cm⟩ ⟨a2, l2, c2⟩) (results_cell_row Try.results44 _ _ w.heap.size 25 (anc (⟨n0, n1, n2, n3 - 1, n4, n5, mb, []⟩ : AncS) ⟨am, mm, cm⟩ ⟨a2, l2, c2⟩).toArray (0, 0) _ rfl b8 Try.underlying25 rfl sizeAn) rfl ⟨⟨am, mm, cm⟩, ⟨a2, l2, c2⟩, rfl, han, hrd8, by8⟩

end Go.Proofs.Ytbifikeecmaakaa

/-
  The contract of layer 14's program: Get. Condition: at most 100000 bytes.
-/
namespace Go.Proofs.Ytbifikeecmaakaa
open Go.RowKit

theorem below_of_new {w w1 w2 : World} {r : Nat} (h : Below w.heap.size w w1) (k : w1.grownBy w2 (some r)) (hr : w.heap.size ≤ r) : Below w.heap.size w w2 := below_of_but h k hr h.size
/-- What Get hands back. -/
def GotA (w : World) (x : AncS × Int) (e : Ending) (w' : World) : Prop := ∃ p q, e = .returned (.tuple #[anV x.1 p q, .int .i64 x.2]) ∧ Anc (fun j => w.heap.size ≤ j) w' x.1 p q ∧ Below w.heap.size w w'
set_option maxRecDepth 100000 in
set_option maxHeartbeats 4000000 in
theorem oGetA (w : World) {a : Option Addr} {n c : Nat} {b : List UInt8} (h : Bs w a n c b) (hn : n ≤ 100000) : Calls Try.prog 11 #[.slice a n c] w (GotA w (getA b)) := by
  have hl := h.len
  obtain ⟨W0, hW0⟩ : ∃ W0, W0 = w.alloc (.cells #[.int .i64 0, .int .i64 0, .int .i64 0, .int .i64 0, .int .i64 0, .int .i64 0, .slice none 0 0, .slice none 0 0] 25) := ⟨_, rfl⟩
  have z0 : Blk W0 w.heap.size zanc 25 := by rw [hW0]; exact Blk.newAt w _ _ w.heap.size rfl _ rfl
  have k0 : Below w.heap.size w W0 := by rw [hW0]; exact below_alloc _ _
  have s0 : W0.heap.size = w.heap.size + 1 := by rw [hW0]; simp
  have CR : Hid (Calls Try.prog 42 #[.slice a n c] W0 fun e w' => ∃ r, e = .returned (.pointer (some ⟨r, 0, none⟩)) ∧ W0.heap.size ≤ r ∧ Rd w' r b 0 ∧ Below W0.heap.size W0 w') := oRead W0 (h.below k0 (Nat.le_refl _)) hn
  have hz : ((b, 0) : RdS).1.length ≤ 100000 := by show b.length ≤ _; omega
  have CB : Hid (∀ u r, Rd u r b 0 → Calls Try.prog 43 #[.pointer (some ⟨r, 0, none⟩), .int .i64 8] u fun e u' => ∃ a' m' c', e = .returned (.slice a' m' c') ∧ Own u' u.heap.size (.slice a' m' c') (rB (b, 0) 8) ∧ Rd u' r (rN (b, 0) 8).1 (rN (b, 0) 8).2 ∧ u.grownBy u' (some r)) := fun u r hu => oBytes u r hu 8 hz (by decide) (by decide)
  have CA : Hid (∀ u r, Rd u r (rN (b, 0) 8).1 (rN (b, 0) 8).2 → Calls Try.prog 44 #[.pointer (some ⟨r, 0, none⟩)] u fun e w' => ∃ p q, e = .returned (anV (readR (rN (b, 0) 8)) p q) ∧ Anc (fun j => u.heap.size ≤ j) w' (readR (rN (b, 0) 8)) p q ∧ Rd w' r (restR (rN (b, 0) 8)).1 (restR (rN (b, 0) 8)).2 ∧ u.grownBy w' (some r)) := fun u r hu => oReadA u r hu (rN_len hz 8)
  have HG : Hid (getA b = if rB (b, 0) 8 ≠ markL then (zeroA, 9) else if (restR (rN (b, 0) 8)).2 ≠ 0 then (zeroA, (restR (rN (b, 0) 8)).2) else if chkA (readR (rN (b, 0) 8)) ≠ 0 then (zeroA, chkA (readR (rN (b, 0) 8))) else (readR (rN (b, 0) 8), 0)) := rfl
  generalize getA b = out at *
  generalize readR (rN (b, 0) 8) = A at *
  generalize restR (rN (b, 0) 8) = R at *
  generalize rN (b, 0) 8 = S at *
  generalize rB (b, 0) 8 = M at *
  clear h hz
  go_enter Try.func11, Try.ntmps11
  go_wp2_with fail
  rw [← hW0]
  clear hW0
  refine CR.out.mono ?_
  rintro e w1 ⟨r, rfl, hr1, rd1, hb1⟩
  have z1 := z0.below hb1 z0.lt
  have k1 : Below w.heap.size w w1 := k0.trans (hb1.mono k0.size)
  clear CR z0 k0 hb1
  go_wp2_with fail
  refine (CB.out w1 r rd1).mono ?_
  rintro e w2 ⟨a2, m2, c2, rfl, o2, rd2, g2⟩
  have k2 : Below w.heap.size w w2 := below_of_new k1 g2 (by omega)
  have z2 : Blk w2 w.heap.size zanc 25 := by unfold Blk; rw [g2.block _ z1.lt (fun e => by have := Option.some.inj e; omega)]; exact z1
  have hstr := o2.str
  have l2 := z2.lt
  clear CB rd1 z1 k1 o2 g2
  by_cases hM : M = markL
  · subst hM
    go_wp2_with fail
    refine (CA.out w2 r rd2).mono ?_
    rintro e w3 ⟨p3, q3, rfl, an3, rd3, g3⟩
    have k3 : Below w.heap.size w w3 := below_of_new k2 g3 (by omega)
    have z3 : Blk w3 w.heap.size zanc 25 := by unfold Blk; rw [g3.block _ z2.lt (fun e => by have := Option.some.inj e; omega)]; exact z2
    have an3b : Anc (fun j => w.heap.size < j) w3 A p3 q3 := an3.mono fun j _ hj => by omega
    clear CA rd2 z2 k2 g3 an3 hstr
    obtain ⟨g, hg⟩ : ∃ g, g = w3.heap.size := ⟨_, rfl⟩
    have zg : Blk (w3.alloc (.cells #[.int .i64 0, .int .i64 0, .int .i64 0, .int .i64 0, .int .i64 0, .int .i64 0, .slice none 0 0, .slice none 0 0] 25)) g zanc 25 := Blk.newAt w3 _ _ g hg.symm _ rfl
    have kg : Below w3.heap.size w3 (w3.alloc (.cells #[.int .i64 0, .int .i64 0, .int .i64 0, .int .i64 0, .int .i64 0, .int .i64 0, .slice none 0 0, .slice none 0 0] 25)) := below_alloc _ _
    unfold anV
    go_wp2_with ((with_reducible refine at_st 25 ?_); (refine st' 25 (.tmp 5) (.tmp 16) 8 sizeAn w3.heap.size 0 (anc A p3 q3) rfl (anc_one _ _ _) (by rw [← hg]; exact zg.there 0 8 (by simp [zanc])) rfl rfl ?_); intro w4 hw4; have b4 : Blk w4 g (anc A p3 q3) 25 := (by rw [hw4, ← hg]; exact zg.setsW _ rfl); have k4 : Below w3.heap.size w3 w4 := (by rw [hw4]; exact below_sets (Nat.le_refl _) _ kg 0); clear hw4)
    rw [← hg]
    have an4 := an3b.below k4
    have rd4 := rd3.below k4 (Nat.le_refl _)
    have z4 := z3.below k4 z3.lt
    have kw4 : Below w.heap.size w w4 := k3.trans (k4.mono k3.size)
    have CC : Hid (∀ u, Below w4.heap.size w4 u → Calls Try.prog 14 #[.agg (anc A p3 q3).toArray] u fun e w' => e = .returned (.int .i64 (chkA A)) ∧ Below u.heap.size u w') := fun u hu => oCheckA u (an4.below hu)
    have CO := oCode w4 r rd4
    generalize chkA A = cd at *
    have lg := b4.lt
    have l4 := z4.lt
    clear zg kg k4 an3b rd3 z3 k3 hg
    refine CO.mono ?_
    rintro e w5 ⟨rfl, rfl⟩
    clear CO
    by_cases hR : R.2 = 0
    · have bR : (R.2 == 0) = true := by simp [hR]
      rw [hR]
      clear bR
      go_wp2_with ((with_reducible refine at_ld 25 ?_); (refine ld 25 (.tmp 5) 8 sizeAn _ Try.underlying25 rfl g 0 (anc A p3 q3) rfl b4.whole rfl ?_))
      refine (CC.out w5 (Below.refl _ _)).mono ?_
      rintro e w6 ⟨rfl, hb6⟩
      have an6 := an4.below hb6
      have z6 := z4.below hb6 z4.lt
      have b6 := b4.below hb6 b4.lt
      have kw6 : Below w.heap.size w w6 := kw4.trans (hb6.mono kw4.size)
      clear CC an4 z4 b4 kw4 rd4 hb6
      by_cases hc : cd = 0
      · subst hc
        have HO : Hid (out = (A, 0)) := by show _ = _; rw [HG.out, if_neg (by simp), if_neg (by rw [hR]; simp), if_neg (by simp)]
        clear HG hR
        go_wp2_with (first | ((with_reducible refine at_ld 25 ?_); (refine ld 25 (.tmp 5) 8 sizeAn _ Try.underlying25 rfl g 0 (anc A p3 q3) rfl b6.whole rfl ?_)) | ((with_reducible refine at_st 25 ?_); (refine st' 25 (.tmp 2) (.tmp 29) 8 sizeAn w.heap.size 0 (anc A p3 q3) rfl (anc_one _ _ _) (z6.there 0 8 (by simp [zanc])) rfl rfl ?_); intro w8 hw8; have b8 : Blk w8 w.heap.size (anc A p3 q3) 25 := (by rw [hw8]; exact z6.setsW _ rfl); have k8 : Below w.heap.size w w8 := (by rw [hw8]; exact below_sets (Nat.le_refl _) _ kw6 0); have g8 : w6.grownBy w8 (some w.heap.size) := (by rw [hw8]; exact but_cells' _ _ _ _); clear hw8))
        have an8 : Anc (fun j => w.heap.size < j) w8 A p3 q3 := an6.keep g8.size fun j hj ha => g8.block j hj (fun e => by have := Option.some.inj e; omega)
        refine bodyPost_ret (v := .tuple #[anV A p3 q3, .int .i64 0]) (resCT Try.results11 _ _ w.heap.size _ rfl (run_loadVar_row w8 w.heap.size 25 25 _ (0, 0) _ b8 Try.underlying25 rfl sizeAn) _ rfl) rfl ?_
        rw [HO.out]
        exact ⟨p3, q3, rfl, an8.mono (fun j _ hj => Nat.le_of_lt hj), k8⟩
      · have bc : (cd == 0) = false := by simp [hc]
        have HO : Hid (out = (zeroA, cd)) := by show _ = _; rw [HG.out, if_neg (by simp), if_neg (by rw [hR]; simp), if_pos hc]
        clear HG hR hc an6
        go_wp2_with ((with_reducible refine at_st 25 ?_); (refine st' 25 (.tmp 2) (.tmp 27) 8 sizeAn w.heap.size 0 zanc rfl (anc_one zeroA t0 t0) (z6.there 0 8 (by simp [zanc])) rfl rfl ?_); intro w8 hw8; have b8 : Blk w8 w.heap.size zanc 25 := (by rw [hw8]; exact z6.setsW _ rfl); have k8 : Below w.heap.size w w8 := (by rw [hw8]; exact below_sets (Nat.le_refl _) _ kw6 0); clear hw8)
        refine bodyPost_ret (v := .tuple #[anV zeroA t0 t0, .int .i64 cd]) (resCT Try.results11 _ _ w.heap.size _ rfl (run_loadVar_row w8 w.heap.size 25 25 _ (0, 0) _ b8 Try.underlying25 rfl sizeAn) _ rfl) rfl ?_
        rw [HO.out]
        exact ⟨t0, t0, rfl, Anc.zero _ _, k8⟩
    · have bR : (R.2 == 0) = false := by simp [hR]
      have HO : Hid (out = (zeroA, R.2)) := by show _ = _; rw [HG.out, if_neg (by simp), if_pos hR]
      generalize R.2 = rc at *
      clear HG hR CC an4 b4 rd4
      go_wp2_with ((with_reducible refine at_st 25 ?_); (refine st' 25 (.tmp 2) (.tmp 21) 8 sizeAn w.heap.size 0 zanc rfl (anc_one zeroA t0 t0) (z4.there 0 8 (by simp [zanc])) rfl rfl ?_); intro w8 hw8; have b8 : Blk w8 w.heap.size zanc 25 := (by rw [hw8]; exact z4.setsW _ rfl); have k8 : Below w.heap.size w w8 := (by rw [hw8]; exact below_sets (Nat.le_refl _) _ kw4 0); clear hw8)
      refine bodyPost_ret (v := .tuple #[anV zeroA t0 t0, .int .i64 rc]) (resCT Try.results11 _ _ w.heap.size _ rfl (run_loadVar_row w8 w.heap.size 25 25 _ (0, 0) _ b8 Try.underlying25 rfl sizeAn) _ rfl) rfl ?_
      rw [HO.out]
      exact ⟨t0, t0, rfl, Anc.zero _ _, k8⟩
  · have bM : (M == [100, 101, 101, 100, 98, 111, 120, 49]) = false := by
      rw [beq_eq_false_iff_ne]
      exact hM
    have HO : Hid (out = (zeroA, 9)) := by show _ = _; rw [HG.out, if_pos hM]
    clear HG hM CA
    go_wp2_with ((with_reducible refine at_st 25 ?_); (refine st' 25 (.tmp 2) (.tmp 14) 8 sizeAn w.heap.size 0 zanc rfl (anc_one zeroA t0 t0) (z2.there 0 8 (by simp [zanc])) rfl rfl ?_); intro w8 hw8; have b8 : Blk w8 w.heap.size zanc 25 := (by rw [hw8]; exact z2.setsW _ rfl); have k8 : Below w.heap.size w w8 := (by rw [hw8]; exact below_sets (Nat.le_refl _) _ k2 0); clear hw8)
    refine bodyPost_ret (v := .tuple #[anV zeroA t0 t0, .int .i64 9]) (resCT Try.results11 _ _ w.heap.size _ rfl (run_loadVar_row w8 w.heap.size 25 25 _ (0, 0) _ b8 Try.underlying25 rfl sizeAn) _ rfl) rfl ?_
    rw [HO.out]
    exact ⟨t0, t0, rfl, Anc.zero _ _, k8⟩

end Go.Proofs.Ytbifikeecmaakaa

/-
  Plain mathematics of layer 10's second statement: a write at which the power goes. No condition; nothing of the program.
-/
namespace Go.Proofs.Ytbifikeecmaakaa
open Go.RowKit

/-- The power is there, and does not go. -/
def PowS.live (P : PowS) : Prop := P.fuse < 0 ∧ P.down = false
theorem live_ok {P : PowS} (h : P.live) : P.ok = true ∧ P.does = true ∧ P.next.live := by
  obtain ⟨n, f, d, g⟩ := P
  obtain ⟨h1, h2⟩ := h
  dsimp only at h1 h2
  subst h2
  refine ⟨?_, ?_, ?_⟩
  · unfold PowS.ok
    dsimp only
    rw [decide_eq_false (by omega)]
    rfl
  · unfold PowS.does
    dsimp only
    rw [decide_eq_false (by omega)]
    rfl
  · unfold PowS.next
    dsimp only
    rw [if_neg (by simp), if_pos h1]
    exact ⟨h1, rfl⟩
theorem live_write {C : CelS} (h : C.p.live) (at_ : Int) (b : List UInt8) : (C.write at_ b).1.p.live := by
  obtain ⟨h1, h2, h3⟩ := live_ok h
  unfold CelS.write
  split
  · exact h
  · split
    · exact h
    · show (C.wrote at_ b).p.live
      unfold CelS.wrote
      rw [if_pos h2]
      exact h3
theorem fitK_take {b : List UInt8} (h : b.length ≤ 1024) : (fitK b).take b.length = b := by
  rw [fitK_eq h, List.take_left']
  rfl
theorem read_eq {C : CelS} {k : Nat} (hk : k < 4) (hd : C.p.down = false) : C.read (k : Int) = (C.l.getD k [], 0) := by
  unfold CelS.read
  rw [if_neg (by omega), if_neg (by rw [hd]; simp), Int.toNat_natCast]
/-- A write, a fuse at the next step, another write, the power there again. -/
theorem whole10 {C : CelS} {m : Nat} (hf : C.fit m) (hl : C.p.live) {k j : Nat} (hk : k < 4) (hj : j < 4) (hkj : k ≠ j) {a b : List UInt8} (ha : a.length ≤ 1024) (hb : b.length ≤ 1024) (d : Bool) :
    let C1 := (C.write (k : Int) a).1
    let C2 : CelS := { C1 with p := C1.p.set 0 d }
    let C3 := (C2.write (k : Int) b).1
    let C4 : CelS := { C3 with p := C3.p.back }
    (C.write (k : Int) a).2 = 0 ∧ (C2.write (k : Int) b).2 = 5 ∧ (C4.read (k : Int)).2 = 0 ∧ (C4.read (j : Int)).2 = 0 ∧ (C4.read (k : Int)).1 = fitK (if d then b else a) ∧ (C1.read (j : Int)).1 = (C4.read (j : Int)).1 := by
  obtain ⟨h1, h2, h3⟩ := live_ok hl
  have hfl := hf.l
  have e1 : C.write (k : Int) a = (⟨C.p.next, C.l.set k (fitK a), C.writes + 1⟩, 0) := by
    unfold CelS.write CelS.wrote
    rw [if_neg (by omega), if_neg (by omega), if_pos h2, if_pos h1]
    rfl
  dsimp only
  rw [e1]
  dsimp only
  obtain ⟨P1, hP1⟩ : ∃ P1, P1 = C.p.next := ⟨_, rfl⟩
  rw [← hP1] at h3 ⊢
  have hok : (P1.set 0 d).ok = false := by
    unfold PowS.set PowS.ok
    rw [if_neg (by omega)]
    simp
  have hdo : (P1.set 0 d).does = d := by
    unfold PowS.set PowS.does
    rw [if_neg (by omega)]
    simp [h3.2]
  have e2 : (CelS.write ⟨P1.set 0 d, C.l.set k (fitK a), C.writes + 1⟩ (k : Int) b).2 = 5 := by
    unfold CelS.write
    rw [if_neg (by omega), if_neg (by omega), if_neg (by rw [hok]; simp)]
  have e3 : (CelS.write ⟨P1.set 0 d, C.l.set k (fitK a), C.writes + 1⟩ (k : Int) b).1 = CelS.wrote ⟨P1.set 0 d, C.l.set k (fitK a), C.writes + 1⟩ (k : Int) b := by
    unfold CelS.write
    rw [if_neg (by omega), if_neg (by omega)]
  refine ⟨rfl, e2, ?_⟩
  rw [e3]
  rw [read_eq (C := ⟨P1, C.l.set k (fitK a), C.writes + 1⟩) hj h3.2]
  unfold CelS.wrote
  dsimp only
  rw [hdo, Int.toNat_natCast]
  cases d with
  | true =>
    rw [if_pos rfl]
    dsimp only
    rw [read_eq hk (by rfl), read_eq hj (by rfl)]
    refine ⟨rfl, rfl, ?_, ?_⟩
    · show (((C.l.set k (fitK a)).set k (fitK b)).getD k []) = fitK b
      rw [List.getD_eq_getElem?_getD, List.getElem?_set_self (by rw [List.length_set]; omega)]
      rfl
    · show ((C.l.set k (fitK a)).getD j []) = (((C.l.set k (fitK a)).set k (fitK b)).getD j [])
      rw [List.getD_eq_getElem?_getD, List.getD_eq_getElem?_getD, List.getElem?_set_ne hkj, List.getElem?_set_ne hkj, List.getElem?_set_ne hkj]
  | false =>
    rw [if_neg (by simp)]
    dsimp only
    rw [read_eq hk (by rfl), read_eq hj (by rfl)]
    refine ⟨rfl, rfl, ?_, rfl⟩
    show ((C.l.set k (fitK a)).getD k []) = fitK a
    rw [List.getD_eq_getElem?_getD, List.getElem?_set_self (by omega)]
    rfl

end Go.Proofs.Ytbifikeecmaakaa
