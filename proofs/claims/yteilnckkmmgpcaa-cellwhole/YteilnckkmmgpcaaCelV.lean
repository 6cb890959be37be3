/-
  How the program's cell outlasts what layer 10's statements do around it ('StaC'); how their arguments are opened; how much is waited for. No condition.
-/
import Derived.Test.YteilnckkmmgpcaaCelP
import Derived.Test.YteilnckkmmgpcaaSlO
namespace Go.Proofs.Yteilnckkmmgpcaa
open Go.RowKit Go.ChangeShapes Go.WideShapes Go.ChangeAt

theorem Ck.grows {U F : Nat → Prop} {w w' : World} {c r : Nat} {C : CelS} (h : Ck U F w c r C) (hb : Below w.heap.size w w') : Ck U F w' c r C :=
  h.keep (G := fun _ => False) (Kp.of_below hb) (fun _ _ h => h)
/-- The cell C in memory that is all newer than w0. -/
structure StaC (w0 w : World) (c r : Nat) (U F : Nat → Prop) (C : CelS) : Prop where
  ck : Ck U F w c r C
  base : ∀ j, U j → w0.heap.size ≤ j
  bel : Below w0.heap.size w0 w
theorem StaC.after {w0 w w' : World} {c r : Nat} {U F U' F' : Nat → Prop} {C C' : CelS} (h : StaC w0 w c r U F C) (hd : Ck U' F' w' c r C') (hU : Next w U U') (k : Kp F w w') : StaC w0 w' c r U' F' C' :=
  ⟨hd, fun j hj => by
    have := h.bel.size
    rcases hU j hj with h1 | h1
    · exact h.base j h1
    · omega, below_kp h.bel k h.bel.size fun j hj hF => by
    have := h.base j (h.ck.sub j hF)
    omega⟩
theorem StaC.grow {w0 w w' : World} {c r : Nat} {U F : Nat → Prop} {C : CelS} (h : StaC w0 w c r U F C) (k : Below w.heap.size w w') : StaC w0 w' c r U F C := ⟨h.ck.grows k, h.base, h.bel.trans (k.mono h.bel.size)⟩
theorem StaC.old {w0 w : World} {c r : Nat} {U F : Nat → Prop} {C : CelS} (h : StaC w0 w c r U F C) : ∀ j, j < w0.heap.size → ¬ F j := fun j hj hF => by
  have := h.base j (h.ck.sub j hF)
  omega
theorem StaC.power {w0 w w' : World} {c r : Nat} {U F : Nat → Prop} {C : CelS} (h : StaC w0 w c r U F C) {P : PowS} (hp : Pw w' r P) (k : Kp (fun j => j = r) w w') : StaC w0 w' c r U F { C with p := P } :=
  h.after (h.ck.power hp k) (fun j hj => Or.inl hj) (k.mono fun j _ e => by rw [e]; exact h.ck.pw.2)
theorem StaC.first {w0 w w' : World} {c r : Nat} {U F : Nat → Prop} {C : CelS} (hb : Below w0.heap.size w0 w) (hr : w0.heap.size ≤ r) (hd : Ck U F w' c r C) (hU : ∀ j, U j → j = r ∨ w.heap.size ≤ j) (hb' : Below w.heap.size w w') : StaC w0 w' c r U F C :=
  ⟨hd, fun j hj => by
    have := hb.size
    rcases hU j hj with h | h <;> omega, hb.trans (hb'.mono hb.size)⟩
/-- Bytes that were handed in. -/
theorem StaC.arg {w0 w : World} {c r : Nat} {U F : Nat → Prop} {C : CelS} (h : StaC w0 w c r U F C) {p : Option Addr} {m q : Nat} {b : List UInt8} (hb : Bs w0 p m q b) : BA (fun j => ¬ F j) w p m q b :=
  ⟨hb.below h.bel (Nat.le_refl _), fun hm => by
    obtain ⟨x, o, ha, hlt, _⟩ := hb.at hm
    exact ⟨_, ha, h.old _ hlt, Nat.lt_of_lt_of_le hlt h.bel.size⟩⟩
theorem StaC.arg' {w0 w : World} {c r : Nat} {U F : Nat → Prop} {C : CelS} (h : StaC w0 w c r U F C) {p : Option Addr} {m q : Nat} {b : List UInt8} (hb : BA (fun j => j < w0.heap.size) w0 p m q b) : BA (fun j => ¬ F j) w p m q b := h.arg hb.1

/-- An act. -/
structure Op10 where
  kind : Int
  at_ : Int
  b : List UInt8
  n : Int
  done : Bool
def ok10 (o : Op10) (p : Option Addr) (m q : Nat) : List Value := [.int .i64 o.kind, .int .i64 o.at_, .slice p m q, .int .i64 o.n, .bool o.done]
theorem ok10_one (x : Op10) (p : Option Addr) (m q : Nat) : ∀ v ∈ ok10 x p m q, v.oneCell' = true := by
  intro v hv
  simp only [ok10, List.mem_cons, List.not_mem_nil, or_false] at hv
  rcases hv with rfl | rfl | rfl | rfl | rfl <;> rfl
def elO10 (A : Nat → Prop) (w : World) (o : Op10) (vs : List Value) : Prop := ∃ p m q, vs = ok10 o p m q ∧ BA A w p m q o.b ∧ i64 o.kind ∧ i64 o.at_ ∧ i64 o.n
theorem op10_of_trod {H : Type} {enc : TypeId × Value → H} {W : World} {base : Nat} {held : Bool} {fuel : Nat} {cs : List Value} {x : DataW H × List MemPlace} {A : Nat → Prop} (hA : ∀ j, j < W.heap.size → A j)
    (h : DataW.trod enc Try.prog W base (fun _ => true) held fuel 40 cs = some x) : ∃ o, Row (elO10 A) 5 W o cs := by
  obtain ⟨xs, n, rfl, rfl, hl, hx, hf⟩ := DataW.trod_struct Try.underlying40 h
  have c3 : Try.prog.cellsOf 3 = 1 := by kernel_rfl
  have c4 : Try.prog.cellsOf 4 = 1 := by kernel_rfl
  have c6 : Try.prog.cellsOf 38 = 1 := by kernel_rfl
  have cP : Try.prog.cellsOf 40 = 5 := by kernel_rfl
  rw [cP] at hl
  obtain ⟨v0, cs0, rfl, hl0⟩ := len_cons hl
  obtain ⟨v1, cs1, rfl, hl1⟩ := len_cons hl0
  obtain ⟨v2, cs2, rfl, hl2⟩ := len_cons hl1
  obtain ⟨v3, cs3, rfl, hl3⟩ := len_cons hl2
  obtain ⟨v4, cs4, rfl, hl4⟩ := len_cons hl3
  obtain rfl := len_zero hl4
  have f0 : DataW.trod enc Try.prog W base (fun _ => true) held n 3 (List.take (Try.prog.cellsOf 3) (List.drop 0 [v0, v1, v2, v3, v4])) = xs[0]? := hf 0 _ rfl
  have f1 : DataW.trod enc Try.prog W base (fun _ => true) held n 3 (List.take (Try.prog.cellsOf 3) (List.drop 1 [v0, v1, v2, v3, v4])) = xs[1]? := hf 1 _ rfl
  have f2 : DataW.trod enc Try.prog W base (fun _ => true) held n 38 (List.take (Try.prog.cellsOf 38) (List.drop 2 [v0, v1, v2, v3, v4])) = xs[2]? := hf 2 _ rfl
  have f3 : DataW.trod enc Try.prog W base (fun _ => true) held n 3 (List.take (Try.prog.cellsOf 3) (List.drop 3 [v0, v1, v2, v3, v4])) = xs[3]? := hf 3 _ rfl
  have f4 : DataW.trod enc Try.prog W base (fun _ => true) held n 4 (List.take (Try.prog.cellsOf 4) (List.drop 4 [v0, v1, v2, v3, v4])) = xs[4]? := hf 4 _ rfl
  have hx5 : xs.length = 5 := hx
  rw [c3] at f0 f1 f3
  rw [c6] at f2
  rw [c4] at f4
  rw [List.getElem?_eq_getElem (by omega)] at f0 f1 f2 f3 f4
  obtain ⟨p, e0, _, w0⟩ := DataW.trod_int Try.underlying3 f0
  obtain ⟨q, e1, _, w1⟩ := DataW.trod_int Try.underlying3 f1
  obtain ⟨z, e3, _, w3⟩ := DataW.trod_int Try.underlying3 f3
  obtain ⟨d, e4, _⟩ := DataW.trod_bool Try.underlying4 f4
  simp only [List.drop_succ_cons, List.drop_zero, List.take_succ_cons, List.take_zero] at f2
  obtain ⟨a, m, c, rfl⟩ := slice_of_trod Try.underlying38 f2
  obtain ⟨l, hb⟩ := BA.of_trod hA f2
  simp at e0 e1 e3 e4
  subst e0 e1 e3 e4
  refine ⟨⟨p, q, l, z, d⟩, rfl, ?_, a, m, c, rfl, hb, bounds_i64 w0, bounds_i64 w1, bounds_i64 w3⟩
  exact ok10_one ⟨p, q, l, z, d⟩ a m c
/-- Acts that were handed in. -/
def Acts10 (w : World) (a : Option Addr) (n c : Nat) (l : List Op10) : Prop := Sl (elO10 fun j => j < w.heap.size) 5 (fun j => j < w.heap.size) w a n c l
theorem acts10_of_trod {H : Type} {enc : TypeId × Value → H} {W : World} {base : Nat} {held : Bool} {fuel : Nat} {a : Option Addr} {n c : Nat} {x : DataW H × List MemPlace} (h : DataW.trod enc Try.prog W base (fun _ => true) held fuel 22 [.slice a n c] = some x) : ∃ l, Acts10 W a n c l := by
  rcases Deep.open_slice Try.underlying22 h with ⟨hcs, _⟩ | ⟨y, len, cap, m, n', D, Pl, hcs, _, hl, hm, hmm, _, hrow⟩
  · simp at hcs
    obtain ⟨rfl, rfl, rfl⟩ := hcs
    exact ⟨[], Sl.nil _ _ _ _⟩
  · simp at hcs
    obtain ⟨rfl, rfl, rfl⟩ := hcs
    have cP : Try.prog.cellsOf 40 = 5 := by kernel_rfl
    rw [cP] at hrow
    simp at hmm
    subst hmm
    refine Sl.of_rows (⟨0, 0, [], 0, false⟩ : Op10) (base := base) (by omega) hl hm (fun _ h => h) fun i hi => ?_
    obtain ⟨cs', h1, h2⟩ := hrow i (by omega)
    exact ⟨cs', h1, op10_of_trod (fun _ h => h) h2⟩
/-- The i-th act that was handed in. -/
theorem Acts10.at {w0 wr : World} {a : Option Addr} {n c : Nat} {l : List Op10} (h : Acts10 w0 a n c l) (hb : Below w0.heap.size w0 wr) {s : Nat} {x : Op10} (hx : l[s]? = some x) :
    ∃ b o p m q, a = some ⟨b, o, none⟩ ∧ b < w0.heap.size ∧ wr.rangeAt b (o + s * 5) (ok10 x p m q) ∧ BA (fun j => j < w0.heap.size) w0 p m q x.b ∧ i64 x.kind ∧ i64 x.at_ ∧ i64 x.n := by
  obtain ⟨b, o, vs, ha, hlt, hrg, hl, p, m, q, rfl, hB, i1, i2, i3⟩ := Sl.at h hx
  refine ⟨b, o, p, m, q, ha, hlt, fun j v hj => ?_, hB, i1, i2, i3⟩
  rw [World.cell?_of_block (w := w0) (hb.block b hlt)]
  exact hrg j v hj
/-- What light answers. -/
def Lights10 (w : World) (n : Nat) (l : List Op10) (e : Ending) (w' : World) : Prop := ∃ v, e = .returned (.bool v) ∧ (v = true → n ≤ 40 ∧ ∀ o ∈ l, o.b.length ≤ 1100) ∧ w = w'

set_option maxRecDepth 100000 in
set_option maxHeartbeats 2000000 in
theorem lLight10 (w : World) {a : Option Addr} {n c : Nat} {l : List Op10} (h : Acts10 w a n c l) :
    Calls Try.prog 5 #[.slice a n c] w (Lights10 w n l) := by
  have HL : Hid (l.length = n) := Sl.len h
  have hmax := Sl.cap h
  by_cases hn : n ≤ 40
  · have j0 : ¬ (40 : Int) < (n : Int) := by omega
    go_enter Try.func5, Try.ntmps5
    go_wp2_with fail
    go_loopw [3] (fun i wr => ∃ k : Nat, k ≤ n ∧ i = .int .i64 (k : Int) ∧ Hid (∀ o ∈ l.take k, o.b.length ≤ 1100) ∧ w = wr) (fun i _ => n - (intOf i).toNat)
    case atStart => exact ⟨0, Nat.zero_le _, rfl, fun o ho => by simp at ho, rfl⟩
    case round =>
      obtain ⟨k, hk, rfl, HI, rfl⟩ := hrel
      by_cases hlt : k < n
      · have i0 : (k : Int) < (n : Int) := by omega
        obtain ⟨x, hx⟩ : ∃ x, l[k]? = some x := ⟨_, List.getElem?_eq_getElem (by rw [HL.out]; exact hlt)⟩
        obtain ⟨b, o, p, m, q, rfl, hlb, hrg, hB, _⟩ := h.at (Below.refl _ w) hx
        have c2 : w.cell? ⟨b, o + k * 5 + 2, none⟩ = some (.slice p m q) := hrg 2 _ rfl
        have hbl := hB.1.len
        by_cases h2 : m ≤ 1100
        · have i2 : ¬ (1100 : Int) < (m : Int) := by omega
          have HN : Hid (∀ o ∈ l.take (k + 1), o.b.length ≤ 1100) := fun o' ho => by
            rw [List.take_add_one, hx] at ho
            rcases List.mem_append.1 ho with ho | ho
            · exact HI.out o' ho
            · simp at ho
              subst ho
              omega
          clear hrg hB hx HI
          go_wp2_with fail
          go_roundw
          case rel => exact ⟨k + 1, by omega, by go_num, HN, (by first | rfl | trivial)⟩
          case measure => simp [intOf]; omega
        · have i2 : (1100 : Int) < (m : Int) := by omega
          clear hrg hB hx HI
          go_wp2_with fail
          go_ret
          exact ⟨_, rfl, fun hv => by simp at hv, rfl⟩
      · have i0 : ¬ (k : Int) < (n : Int) := by omega
        go_wp2_with fail
        go_ret
        exact ⟨_, rfl, fun _ => ⟨hn, fun o ho => HI.out o (by rw [List.take_of_length_le (by rw [HL.out]; omega)]; exact ho)⟩, rfl⟩
  · have j0 : (40 : Int) < (n : Int) := by omega
    go_enter Try.func5, Try.ntmps5
    go_wp2_with fail
    go_ret
    exact ⟨_, rfl, fun hv => by simp at hv, rfl⟩

end Go.Proofs.Yteilnckkmmgpcaa
