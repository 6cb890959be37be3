/-
  Plain mathematics of layer 9: what a disk is, and what each call makes of it; how the reference's disk lies in memory ('RD'). No condition; nothing of the program.
-/
import Derived.Test.YtphkkbkfioaikaaSlc
namespace Go.Proofs.Ytphkkbkfioaikaa
open Go.RowKit

abbrev Chg := Int × List UInt8
abbrev Tch := Int × Int × List UInt8
structure Pok where
  on : Int
  at_ : Int
  kind : Int
  bytes : List UInt8
  num : Int
/-- A disk: the power, how many blocks, all that is safe (the eldest first), what waits, what was seen, what somebody else does, how many steps there were. -/
structure DskS where
  p : PowS
  n : Int
  safe : List Chg
  loose : List Chg
  seen : List Tch
  plot : List Pok
  steps : Nat

def z512 : List UInt8 := List.replicate 512 0
/-- Bytes as a block. -/
def fitB (b : List UInt8) : List UInt8 := (b ++ z512).take 512
theorem z512_length : z512.length = 512 := List.length_replicate
theorem fitB_length (b : List UInt8) : (fitB b).length = 512 := by
  unfold fitB
  rw [List.length_take, List.length_append, z512_length]
  omega
/-- A block so many changes ago, of changes the newest first. -/
def agoR : List Chg → Int → Nat → List UInt8
  | [], _, _ => z512
  | c :: l, at_, k => if c.1 = at_ then (match k with | 0 => c.2 | k + 1 => agoR l at_ k) else agoR l at_ k
theorem agoR_zero {c : Chg} {l : List Chg} {at_ : Int} (h : c.1 = at_) : agoR (c :: l) at_ 0 = c.2 := by unfold agoR; rw [if_pos h]
theorem agoR_succ {c : Chg} {l : List Chg} {at_ : Int} {k : Nat} (h : c.1 = at_) : agoR (c :: l) at_ (k + 1) = agoR l at_ k := by rw [agoR, if_pos h]
theorem agoR_miss {c : Chg} {l : List Chg} {at_ : Int} {k : Nat} (h : ¬ c.1 = at_) : agoR (c :: l) at_ k = agoR l at_ k := by cases k <;> (rw [agoR, if_neg h])
def lookR : List Chg → Int → Option (List UInt8)
  | [], _ => none
  | c :: l, at_ => if c.1 = at_ then some c.2 else lookR l at_
theorem lookR_hit {c : Chg} {l : List Chg} {at_ : Int} (h : c.1 = at_) : lookR (c :: l) at_ = some c.2 := by unfold lookR; rw [if_pos h]
theorem lookR_miss {c : Chg} {l : List Chg} {at_ : Int} (h : ¬ c.1 = at_) : lookR (c :: l) at_ = lookR l at_ := by rw [lookR, if_neg h]
def DskS.ago (D : DskS) (at_ : Int) (k : Nat) : List UInt8 := agoR D.safe.reverse at_ k
def DskS.look (D : DskS) (at_ : Int) : List UInt8 := (lookR D.loose.reverse at_).getD (D.ago at_ 0)
def DskS.settle (D : DskS) (at_ : Int) (b : List UInt8) : DskS := { D with safe := D.safe ++ [(at_, fitB b)] }
/-- What somebody else does is nothing. -/
abbrev DskS.idle (D : DskS) (x : Pok) : Prop := x.at_ < 0 ∨ D.n ≤ x.at_ ∨ x.kind < 0 ∨ 2 < x.kind ∨ (0 < x.kind ∧ x.num < 0) ∨ (x.kind = 1 ∧ D.n ≤ x.num)
def DskS.bytesOf (D : DskS) (x : Pok) : List UInt8 := if x.kind = 2 then D.ago x.at_ x.num.toNat else if x.kind = 1 then D.look x.num else x.bytes
def DskS.poke (D : DskS) (x : Pok) : DskS := if D.idle x then D else { D.settle x.at_ (D.bytesOf x) with loose := D.loose.filter fun c => decide (c.1 ≠ x.at_) }
def DskS.pokes (D : DskS) (s : Nat) (l : List Pok) : DskS := l.foldl (fun out x => if x.on = (s : Int) then out.poke x else out) D
def DskS.tick (D : DskS) : DskS := { D.pokes D.steps D.plot with p := D.p.next, steps := if D.p.down then D.steps else D.steps + 1 }
def DskS.see (D : DskS) (t : Tch) : DskS := { D with seen := D.seen ++ [t] }
def DskS.new (p : PowS) (n : Int) : DskS := ⟨p, n, [], [], [], [], 0⟩

/-- Bytes in a block of A. -/
def BA (A : Nat → Prop) (w : World) (p : Option Addr) (m q : Nat) (b : List UInt8) : Prop := Bs w p m q b ∧ (0 < m → ∃ x, p = some x ∧ A x.block ∧ x.block < w.heap.size)
theorem BA.keep {A : Nat → Prop} {w w' : World} {p : Option Addr} {m q : Nat} {b : List UInt8} (h : BA A w p m q b) (hs : w.heap.size ≤ w'.heap.size) (hk : ∀ j, j < w.heap.size → A j → w'.heap[j]? = w.heap[j]?) : BA A w' p m q b := by
  obtain ⟨⟨h1, h2, h3, h4, h5⟩, h6⟩ := h
  refine ⟨⟨h1, h2, h3, h4, fun i hi => ?_⟩, fun hm => ?_⟩
  · obtain ⟨x, hp, ha, hb⟩ := h6 (by omega)
    obtain ⟨bb, o, hp', hc⟩ := h5 i hi
    refine ⟨bb, o, hp', ?_⟩
    rw [hp] at hp'
    obtain rfl := Option.some.inj hp'
    rw [World.cell?_of_block (w := w) (hk bb hb ha)]
    exact hc
  · obtain ⟨x, hp, ha, hb⟩ := h6 hm
    exact ⟨x, hp, ha, Nat.lt_of_lt_of_le hb hs⟩
theorem B5.ba {A : Nat → Prop} {w : World} {p : Option Addr} {m q : Nat} {b : List UInt8} (h : B5 A w p m q b) : BA A w p m q b := ⟨h.1, fun hm => by
  obtain ⟨x, cur, f, hp, ha, hb⟩ := h.2 hm
  exact ⟨x, hp, ha, (Array.getElem?_eq_some_iff.1 hb).1⟩⟩

def i64 (x : Int) : Prop := -9223372036854775808 ≤ x ∧ x ≤ 9223372036854775807
def elC (A : Nat → Prop) (w : World) (c : Chg) (vs : List Value) : Prop := ∃ p m q, vs = [.int .i64 c.1, .slice p m q] ∧ B5 A w p m q c.2 ∧ i64 c.1
def elT (A : Nat → Prop) (w : World) (t : Tch) (vs : List Value) : Prop := ∃ p m q, vs = [.int .i64 t.1, .int .i64 t.2.1, .slice p m q] ∧ B5 A w p m q t.2.2 ∧ i64 t.1 ∧ i64 t.2.1
def elP (A : Nat → Prop) (w : World) (x : Pok) (vs : List Value) : Prop := ∃ p m q, vs = [.int .i64 x.on, .int .i64 x.at_, .int .i64 x.kind, .slice p m q, .int .i64 x.num] ∧ BA A w p m q x.bytes ∧ i64 x.on ∧ i64 x.at_ ∧ i64 x.kind ∧ i64 x.num
/-- The four slices of the reference's disk. -/
structure Quad where
  sa : Option Addr
  sn : Nat
  sc : Nat
  la : Option Addr
  ln : Nat
  lc : Nat
  ta : Option Addr
  tn : Nat
  tc : Nat
  pa : Option Addr
  pn : Nat
  pq : Nat
/-- Its cells. -/
def dc (D : DskS) (q : Quad) : List Value := [.int .i64 (D.p.steps : Int), .int .i64 D.p.fuse, .bool D.p.done, .bool D.p.down, .int .i64 D.n, .slice q.sa q.sn q.sc, .slice q.la q.ln q.lc, .slice q.ta q.tn q.tc, .slice q.pa q.pn q.pq, .int .i64 (D.steps : Int)]
def dv (D : DskS) (q : Quad) : Value := .agg (dc D q).toArray
theorem dc_length (D : DskS) (q : Quad) : (dc D q).length = 10 := rfl
theorem dc_one (D : DskS) (q : Quad) : ∀ v ∈ dc D q, v.oneCell' = true := by
  intro v hv
  simp only [dc, List.mem_cons, List.not_mem_nil, or_false] at hv
  rcases hv with rfl | rfl | rfl | rfl | rfl | rfl | rfl | rfl | rfl | rfl <;> rfl
/-- The reference's disk in memory. -/
structure RD (A : Nat → Prop) (w : World) (D : DskS) (q : Quad) : Prop where
  safe : Sl (elC A) 2 A w q.sa q.sn q.sc D.safe
  loose : Sl (elC A) 2 A w q.la q.ln q.lc D.loose
  seen : Sl (elT A) 3 A w q.ta q.tn q.tc D.seen
  plot : Sl (elP A) 5 A w q.pa q.pn q.pq D.plot
/-- What is too much. -/
structure DskS.fit (D : DskS) (m : Nat) : Prop where
  p : D.p.fit m
  n : 1 ≤ D.n ∧ D.n ≤ 4096
  safe : D.safe.length ≤ 100 * m
  loose : D.loose.length ≤ m
  seen : D.seen.length ≤ m
  plot : D.plot.length ≤ 20
  steps : D.steps ≤ m

theorem elC.keep {A : Nat → Prop} {w w' : World} (hk : ∀ j, j < w.heap.size → A j → w'.heap[j]? = w.heap[j]?) : ∀ c vs, elC A w c vs → elC A w' c vs := by
  rintro c vs ⟨p, m, q, e, hb, hi⟩
  exact ⟨p, m, q, e, hb.keep fun j _ _ ha hh => hk j (Array.getElem?_eq_some_iff.1 hh).1 ha, hi⟩
theorem elT.keep {A : Nat → Prop} {w w' : World} (hk : ∀ j, j < w.heap.size → A j → w'.heap[j]? = w.heap[j]?) : ∀ c vs, elT A w c vs → elT A w' c vs := by
  rintro c vs ⟨p, m, q, e, hb, hi⟩
  exact ⟨p, m, q, e, hb.keep fun j _ _ ha hh => hk j (Array.getElem?_eq_some_iff.1 hh).1 ha, hi⟩
theorem elP.keep {A : Nat → Prop} {w w' : World} (hs : w.heap.size ≤ w'.heap.size) (hk : ∀ j, j < w.heap.size → A j → w'.heap[j]? = w.heap[j]?) : ∀ c vs, elP A w c vs → elP A w' c vs := by
  rintro c vs ⟨p, m, q, e, hb, hi⟩
  exact ⟨p, m, q, e, hb.keep hs hk, hi⟩
theorem RD.keep {A : Nat → Prop} {w w' : World} {D : DskS} {q : Quad} (h : RD A w D q) (hs : w.heap.size ≤ w'.heap.size) (hk : ∀ j, j < w.heap.size → A j → w'.heap[j]? = w.heap[j]?) : RD A w' D q :=
  ⟨h.safe.keep hs (elC.keep hk) hk, h.loose.keep hs (elC.keep hk) hk, h.seen.keep hs (elT.keep hk) hk, h.plot.keep hs (elP.keep hs hk) hk⟩
theorem BA.mono {A A' : Nat → Prop} {w : World} {p : Option Addr} {m q : Nat} {b : List UInt8} (h : BA A w p m q b) (hA : ∀ j, j < w.heap.size → A j → A' j) : BA A' w p m q b :=
  ⟨h.1, fun hm => by
    obtain ⟨x, hp, ha, hb⟩ := h.2 hm
    exact ⟨x, hp, hA _ hb ha, hb⟩⟩
theorem RD.mono {A A' : Nat → Prop} {w : World} {D : DskS} {q : Quad} (h : RD A w D q) (hA : ∀ j, j < w.heap.size → A j → A' j) : RD A' w D q :=
  ⟨h.safe.mono (fun _ _ ⟨p, m, q, e, hb, hi⟩ => ⟨p, m, q, e, hb.mono hA, hi⟩) hA, h.loose.mono (fun _ _ ⟨p, m, q, e, hb, hi⟩ => ⟨p, m, q, e, hb.mono hA, hi⟩) hA, h.seen.mono (fun _ _ ⟨p, m, q, e, hb, hi⟩ => ⟨p, m, q, e, hb.mono hA, hi⟩) hA, h.plot.mono (fun _ _ ⟨p, m, q, e, hb, hi⟩ => ⟨p, m, q, e, hb.mono hA, hi⟩) hA⟩
theorem RD.below {A : Nat → Prop} {w w' : World} {D : DskS} {q : Quad} (h : RD A w D q) (hb : Below w.heap.size w w') : RD A w' D q := h.keep hb.size fun j hj _ => hb.block j hj
theorem RD.kp {A F : Nat → Prop} {w w' : World} {D : DskS} {q : Quad} (h : RD A w D q) (k : Kp F w w') (hA : ∀ j, A j → ¬ F j) : RD A w' D q := h.keep k.size fun j hj ha => k.block j hj (hA j ha)
/-- Of structs that hold bytes in blocks of bytes nothing is lost where another row of structs is written. -/
theorem elC.grown {A : Nat → Prop} {w w' : World} {r : Option Nat} (g : w.grownBy w' r) (hr : ∀ j cur f, r = some j → w.heap[j]? ≠ some (.cells cur 5 f)) : ∀ c vs, elC A w c vs → elC A w' c vs := by
  rintro c vs ⟨p, m, q, e, hb, hi⟩
  exact ⟨p, m, q, e, hb.grown g hr, hi⟩
theorem elT.grown {A : Nat → Prop} {w w' : World} {r : Option Nat} (g : w.grownBy w' r) (hr : ∀ j cur f, r = some j → w.heap[j]? ≠ some (.cells cur 5 f)) : ∀ c vs, elT A w c vs → elT A w' c vs := by
  rintro c vs ⟨p, m, q, e, hb, hi⟩
  exact ⟨p, m, q, e, hb.grown g hr, hi⟩

end Go.Proofs.Ytphkkbkfioaikaa
