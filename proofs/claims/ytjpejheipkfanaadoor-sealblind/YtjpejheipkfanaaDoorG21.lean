/-
  6 texts in one. No statement of the seat is proved here.
-/
import Derived.Test.YtjpejheipkfanaaDoorG20

/-
  How the arguments of layer 12's statements are opened (acts of seven cells); keys of numbers; how much is waited for; how a sealer outlasts what the statements do around it ('StaS'). No condition.
-/
namespace Go.Proofs.YtjpejheipkfanaaDoor
open Go.RowKit Go.ChangeShapes Go.WideShapes Go.ChangeAt
set_option linter.unusedVariables false

/-- An act. -/
structure Op12 where
  kind : Int
  key : Nat
  nonce : Nat
  beside : List UInt8
  text : List UInt8
  turn : Nat
  short : Bool
def ok12 (o : Op12) (p : Option Addr) (m q : Nat) (p' : Option Addr) (m' q' : Nat) : List Value := [.int .i64 o.kind, .int .u8 (o.key : Int), .int .u8 (o.nonce : Int), .slice p m q, .slice p' m' q', .int .u16 (o.turn : Int), .bool o.short]
theorem ok12_one (x : Op12) (p : Option Addr) (m q : Nat) (p' : Option Addr) (m' q' : Nat) : ∀ v ∈ ok12 x p m q p' m' q', v.oneCell' = true := by
  intro v hv
  simp only [ok12, List.mem_cons, List.not_mem_nil, or_false] at hv
  rcases hv with rfl | rfl | rfl | rfl | rfl | rfl | rfl <;> rfl
def Op12.fit (o : Op12) : Prop := i64 o.kind ∧ o.key ≤ 255 ∧ o.nonce ≤ 255 ∧ o.turn ≤ 65535
def elO12 (A : Nat → Prop) (w : World) (o : Op12) (vs : List Value) : Prop := ∃ p m q p' m' q', vs = ok12 o p m q p' m' q' ∧ BA A w p m q o.beside ∧ BA A w p' m' q' o.text ∧ o.fit
theorem op12_of_trod {H : Type} {enc : TypeId × Value → H} {W : World} {base : Nat} {held : Bool} {fuel : Nat} {cs : List Value} {x : DataW H × List MemPlace} {A : Nat → Prop} (hA : ∀ j, j < W.heap.size → A j)
    (h : DataW.trod enc Tryd.prog W base (fun _ => true) held fuel 25 cs = some x) : ∃ o, Row (elO12 A) 7 W o cs := by
  obtain ⟨xs, n, rfl, rfl, hl, hx, hf⟩ := DataW.trod_struct Tryd.underlying25 h
  have c3 : Tryd.prog.cellsOf 3 = 1 := by kernel_rfl
  have c4 : Tryd.prog.cellsOf 4 = 1 := by kernel_rfl
  have c5 : Tryd.prog.cellsOf 5 = 1 := by kernel_rfl
  have c6 : Tryd.prog.cellsOf 22 = 1 := by kernel_rfl
  have c7 : Tryd.prog.cellsOf 23 = 1 := by kernel_rfl
  have cP : Tryd.prog.cellsOf 25 = 7 := by kernel_rfl
  rw [cP] at hl
  obtain ⟨v0, cs0, rfl, hl0⟩ := len_cons hl
  obtain ⟨v1, cs1, rfl, hl1⟩ := len_cons hl0
  obtain ⟨v2, cs2, rfl, hl2⟩ := len_cons hl1
  obtain ⟨v3, cs3, rfl, hl3⟩ := len_cons hl2
  obtain ⟨v4, cs4, rfl, hl4⟩ := len_cons hl3
  obtain ⟨v5, cs5, rfl, hl5⟩ := len_cons hl4
  obtain ⟨v6, cs6, rfl, hl6⟩ := len_cons hl5
  obtain rfl := len_zero hl6
  have f0 : DataW.trod enc Tryd.prog W base (fun _ => true) held n 3 (List.take (Tryd.prog.cellsOf 3) (List.drop 0 [v0, v1, v2, v3, v4, v5, v6])) = xs[0]? := hf 0 _ rfl
  have f1 : DataW.trod enc Tryd.prog W base (fun _ => true) held n 5 (List.take (Tryd.prog.cellsOf 5) (List.drop 1 [v0, v1, v2, v3, v4, v5, v6])) = xs[1]? := hf 1 _ rfl
  have f2 : DataW.trod enc Tryd.prog W base (fun _ => true) held n 5 (List.take (Tryd.prog.cellsOf 5) (List.drop 2 [v0, v1, v2, v3, v4, v5, v6])) = xs[2]? := hf 2 _ rfl
  have f3 : DataW.trod enc Tryd.prog W base (fun _ => true) held n 22 (List.take (Tryd.prog.cellsOf 22) (List.drop 3 [v0, v1, v2, v3, v4, v5, v6])) = xs[3]? := hf 3 _ rfl
  have f4 : DataW.trod enc Tryd.prog W base (fun _ => true) held n 22 (List.take (Tryd.prog.cellsOf 22) (List.drop 4 [v0, v1, v2, v3, v4, v5, v6])) = xs[4]? := hf 4 _ rfl
  have f5 : DataW.trod enc Tryd.prog W base (fun _ => true) held n 23 (List.take (Tryd.prog.cellsOf 23) (List.drop 5 [v0, v1, v2, v3, v4, v5, v6])) = xs[5]? := hf 5 _ rfl
  have f6 : DataW.trod enc Tryd.prog W base (fun _ => true) held n 4 (List.take (Tryd.prog.cellsOf 4) (List.drop 6 [v0, v1, v2, v3, v4, v5, v6])) = xs[6]? := hf 6 _ rfl
  have hx7 : xs.length = 7 := hx
  rw [c3] at f0
  rw [c5] at f1 f2
  rw [c6] at f3 f4
  rw [c7] at f5
  rw [c4] at f6
  rw [List.getElem?_eq_getElem (by omega)] at f0 f1 f2 f3 f4 f5 f6
  obtain ⟨k, e0, _, w0⟩ := DataW.trod_int Tryd.underlying3 f0
  obtain ⟨y, e1, _, w1⟩ := DataW.trod_int Tryd.underlying5 f1
  obtain ⟨z, e2, _, w2⟩ := DataW.trod_int Tryd.underlying5 f2
  obtain ⟨u, e5, _, w5⟩ := DataW.trod_int Tryd.underlying23 f5
  obtain ⟨d, e6, _⟩ := DataW.trod_bool Tryd.underlying4 f6
  simp only [List.drop_succ_cons, List.drop_zero, List.take_succ_cons, List.take_zero] at f3 f4
  obtain ⟨a3, m3, q3, rfl⟩ := slice_of_trod Tryd.underlying22 f3
  obtain ⟨l3, hb3⟩ := BA.of_trod hA f3
  obtain ⟨a4, m4, q4, rfl⟩ := slice_of_trod Tryd.underlying22 f4
  obtain ⟨l4, hb4⟩ := BA.of_trod hA f4
  simp at e0 e1 e2 e5 e6
  have b1 := bounds_u8 w1
  have b2 := bounds_u8 w2
  have b5 := bounds_u16 w5
  obtain ⟨y, rfl⟩ : ∃ y' : Nat, y = y' := ⟨y.toNat, by omega⟩
  obtain ⟨z, rfl⟩ : ∃ z' : Nat, z = z' := ⟨z.toNat, by omega⟩
  obtain ⟨u, rfl⟩ : ∃ u' : Nat, u = u' := ⟨u.toNat, by omega⟩
  subst e0 e1 e2 e5 e6
  refine ⟨⟨k, y, z, l3, l4, u, d⟩, rfl, ?_, a3, m3, q3, a4, m4, q4, rfl, hb3, hb4, bounds_i64 w0, ?_, ?_, ?_⟩
  · exact ok12_one ⟨k, y, z, l3, l4, u, d⟩ a3 m3 q3 a4 m4 q4
  · show y ≤ 255
    omega
  · show z ≤ 255
    omega
  · show u ≤ 65535
    omega
/-- Acts in memory of A. -/
def ActsA (A : Nat → Prop) (w : World) (a : Option Addr) (n c : Nat) (l : List Op12) : Prop := Sl (elO12 A) 7 A w a n c l
/-- Acts that were handed in. -/
def Acts12 (w : World) (a : Option Addr) (n c : Nat) (l : List Op12) : Prop := ActsA (fun j => j < w.heap.size) w a n c l
theorem acts12_of_trod {H : Type} {enc : TypeId × Value → H} {W : World} {base : Nat} {held : Bool} {fuel : Nat} {a : Option Addr} {n c : Nat} {x : DataW H × List MemPlace} (h : DataW.trod enc Tryd.prog W base (fun _ => true) held fuel 26 [.slice a n c] = some x) : ∃ l, Acts12 W a n c l := by
  rcases Deep.open_slice Tryd.underlying26 h with ⟨hcs, _⟩ | ⟨y, len, cap, m, n', D, Pl, hcs, _, hl, hm, hmm, _, hrow⟩
  · simp at hcs
    obtain ⟨rfl, rfl, rfl⟩ := hcs
    exact ⟨[], Sl.nil _ _ _ _⟩
  · simp at hcs
    obtain ⟨rfl, rfl, rfl⟩ := hcs
    have cP : Tryd.prog.cellsOf 25 = 7 := by kernel_rfl
    rw [cP] at hrow
    simp at hmm
    subst hmm
    refine Sl.of_rows (⟨0, 0, 0, [], [], 0, false⟩ : Op12) (base := base) (by omega) hl hm (fun _ h => h) fun i hi => ?_
    obtain ⟨cs', h1, h2⟩ := hrow i (by omega)
    exact ⟨cs', h1, op12_of_trod (fun _ h => h) h2⟩
/-- The i-th act. -/
theorem ActsA.at {A : Nat → Prop} {w0 wr : World} {a : Option Addr} {n c : Nat} {l : List Op12} (h : ActsA A w0 a n c l) (hb : Below w0.heap.size w0 wr) {s : Nat} {x : Op12} (hx : l[s]? = some x) :
    ∃ b o p m q p' m' q', a = some ⟨b, o, none⟩ ∧ b < w0.heap.size ∧ wr.rangeAt b (o + s * 7) (ok12 x p m q p' m' q') ∧ BA A w0 p m q x.beside ∧ BA A w0 p' m' q' x.text ∧ x.fit := by
  obtain ⟨b, o, vs, ha, hlt, hrg, hl, p, m, q, p', m', q', rfl, hB, hB', hf⟩ := Sl.at h hx
  refine ⟨b, o, p, m, q, p', m', q', ha, hlt, fun j v hj => ?_, hB, hB', hf⟩
  rw [World.cell?_of_block (w := w0) (hb.block b hlt)]
  exact hrg j v hj
set_option maxRecDepth 100000 in
/-- A struct that was handed in. -/
theorem okWide_op12 {W : World} {b0 : Nat} {v : Value} (h : Value.okWide Tryd.prog W .any b0 25 v) : ∃ xs : Array Value, v = .agg xs := by
  simp only [Value.okWide, Tryd.underlying25] at h
  obtain ⟨cs, h1, _⟩ := h
  exact ⟨cs, h1⟩
/-- The struct o as cells, what it leads to lies in w. -/
def OpArg (w : World) (xs : Array Value) (o : Op12) : Prop := ∃ p m q p' m' q', xs = (ok12 o p m q p' m' q').toArray ∧ BA (fun j => j < w.heap.size) w p m q o.beside ∧ BA (fun j => j < w.heap.size) w p' m' q' o.text ∧ o.fit
theorem oparg_of_trod {H : Type} {enc : TypeId × Value → H} {W : World} {base : Nat} {held : Bool} {fuel : Nat} {xs : Array Value} {x : DataW H × List MemPlace} (h : DataW.trod enc Tryd.prog W base (fun _ => true) held fuel 25 (Value.agg xs).cells.toList = some x) : ∃ o, OpArg W xs o := by
  obtain ⟨o, _, _, p, m, q, p', m', q', e, h1, h2, h3⟩ := op12_of_trod (A := fun j => j < W.heap.size) (fun _ h => h) h
  refine ⟨o, p, m, q, p', m', q', ?_, h1, h2, h3⟩
  rw [← e]
  rfl
/-- What light answers. -/
def Lights12 (w : World) (n : Nat) (most : Int) (l : List Op12) (e : Ending) (w' : World) : Prop := ∃ v, e = .returned (.bool v) ∧ (v = true → (n : Int) ≤ most ∧ ∀ o ∈ l, o.beside.length ≤ 60 ∧ o.text.length ≤ 60) ∧ w = w'

theorem light_step {l : List Op12} {k : Nat} {x : Op12} (HI : Hid (∀ o ∈ l.take k, o.beside.length ≤ 60 ∧ o.text.length ≤ 60)) (hx : l[k]? = some x) (h1 : x.beside.length ≤ 60) (h2 : x.text.length ≤ 60) : Hid (∀ o ∈ l.take (k + 1), o.beside.length ≤ 60 ∧ o.text.length ≤ 60) := fun o' ho => by
  rw [List.take_add_one, hx] at ho
  rcases List.mem_append.1 ho with ho | ho
  · exact HI.out o' ho
  · simp at ho
    subst ho
    exact ⟨h1, h2⟩
set_option maxRecDepth 100000 in
set_option maxHeartbeats 2000000 in
theorem lLight12 (w : World) {A : Nat → Prop} {a : Option Addr} {n c : Nat} {l : List Op12} (h : ActsA A w a n c l) (most : Int) (h0 : 0 ≤ most) (h1 : most ≤ 1000) :
    Calls Tryd.prog 6 #[.slice a n c, .int .i64 most] w (Lights12 w n most l) := by
  have HL : Hid (l.length = n) := Sl.len h
  have hmax := Sl.cap h
  by_cases hn : (n : Int) ≤ most
  · have j0 : ¬ most < (n : Int) := by omega
    go_enter Tryd.func6, Tryd.ntmps6
    go_wp2_with fail
    go_loopw [5] (fun i wr => ∃ k : Nat, k ≤ n ∧ i = .int .i64 (k : Int) ∧ Hid (∀ o ∈ l.take k, o.beside.length ≤ 60 ∧ o.text.length ≤ 60) ∧ w = wr) (fun i _ => n - (intOf i).toNat)
    case atStart => exact ⟨0, Nat.zero_le _, rfl, fun o ho => by simp at ho, rfl⟩
    case round =>
      obtain ⟨k, hk, rfl, HI, rfl⟩ := hrel
      by_cases hlt : k < n
      · have i0 : (k : Int) < (n : Int) := by omega
        obtain ⟨x, hx⟩ : ∃ x, l[k]? = some x := ⟨_, List.getElem?_eq_getElem (by rw [HL.out]; exact hlt)⟩
        obtain ⟨b, o, p, m, q, p', m', q', rfl, hlb, hrg, hB, hB', _⟩ := h.at (Below.refl _ w) hx
        have c3 : w.cell? ⟨b, o + k * 7 + 3, none⟩ = some (.slice p m q) := hrg 3 _ rfl
        have c4 : w.cell? ⟨b, o + k * 7 + 4, none⟩ = some (.slice p' m' q') := hrg 4 _ rfl
        have hbl := hB.1.len
        have hbl' := hB'.1.len
        by_cases h2 : m ≤ 60
        · have i2 : ¬ (60 : Int) < (m : Int) := by omega
          by_cases h3 : m' ≤ 60
          · have i3 : ¬ (60 : Int) < (m' : Int) := by omega
            have HN : Hid (∀ o ∈ l.take (k + 1), o.beside.length ≤ 60 ∧ o.text.length ≤ 60) := light_step HI hx (by omega) (by omega)
            clear hrg hB hB' hx HI hbl hbl'
            go_wp2_with fail
            go_roundw
            case rel => exact ⟨k + 1, by omega, by go_num, HN, (by first | rfl | trivial)⟩
            case measure => simp [intOf]; omega
          · have i3 : (60 : Int) < (m' : Int) := by omega
            clear hrg hB hB' hx HI hbl hbl'
            go_wp2_with fail
            go_ret
            exact ⟨_, rfl, fun hv => by simp at hv, rfl⟩
        · have i2 : (60 : Int) < (m : Int) := by omega
          clear hrg hB hB' hx HI hbl hbl'
          go_wp2_with fail
          go_ret
          exact ⟨_, rfl, fun hv => by simp at hv, rfl⟩
      · have i0 : ¬ (k : Int) < (n : Int) := by omega
        go_wp2_with fail
        go_ret
        exact ⟨_, rfl, fun _ => ⟨hn, fun o ho => HI.out o (by rw [List.take_of_length_le (by rw [HL.out]; omega)]; exact ho)⟩, rfl⟩
  · have j0 : most < (n : Int) := by omega
    go_enter Tryd.func6, Tryd.ntmps6
    go_wp2_with fail
    go_ret
    exact ⟨_, rfl, fun hv => by simp at hv, rfl⟩

/-- The key of a number. -/
def keyB (n : Nat) : List UInt8 := UInt8.ofNat (n % 4) :: List.replicate 31 0
theorem keyB_length (n : Nat) : (keyB n).length = 32 := by simp [keyB]
theorem keyB_inj (a b : Nat) : keyB a = keyB b ↔ a % 4 = b % 4 := by
  constructor
  · intro h
    simp only [keyB, List.cons.injEq, and_true] at h
    have := congrArg UInt8.toNat h
    simp only [UInt8.toNat_ofNat'] at this
    omega
  · intro h
    unfold keyB
    rw [h]
def KeysL (w : World) (n : Nat) (e : Ending) (w' : World) : Prop := ∃ g, e = .returned (.slice (some ⟨g, 0, none⟩) 32 32) ∧ w.heap.size ≤ g ∧ Own w' w.heap.size (.slice (some ⟨g, 0, none⟩) 32 32) (keyB n) ∧ Below w.heap.size w w'
theorem keyB_set (n : Nat) : (List.replicate 32 (0 : UInt8)).set 0 (UInt8.ofNat (n % 4)) = keyB n := rfl
theorem key_rem (n : Nat) : ((UInt8.ofNat (n % 4)).toNat : Int) = (n : Int) % 4 := by
  rw [UInt8.toNat_ofNat']
  omega
set_option maxHeartbeats 1000000 in
theorem lKey12 (w : World) (n : Nat) (hn : n ≤ 255) : Calls Tryd.prog 11 #[.int .u8 (n : Int)] w (KeysL w n) := by
  have h1 : (n : Int).tmod 4 = (n : Int) % 4 := by rw [Int.tmod_eq_emod_of_nonneg (by omega)]
  go_enter Tryd.func11, Tryd.ntmps11
  go_wp2_with (at_make; refine wpList_mkn _ rfl _ _ rfl w.heap.size 32 _ rfl rfl rfl (by omega) (Nat.le_refl _) ?_; intro g w1 hg hgl hown hbel
               have hlen : (List.replicate 32 (0 : UInt8)).length = 32 := by simp
               obtain ⟨v0, hcell⟩ := hown.cell hlen 0 (by omega)
               have hfr := hown.free hlen 0)
  go_ret
  have hlen : (List.replicate 32 (0 : UInt8)).length = 32 := by simp
  have ho2 := hown.set hlen 0 (UInt8.ofNat (n % 4))
  rw [keyB_set] at ho2
  have hb2 := hbel.setCell (p := ⟨g, 0, none⟩) hg (.int .u8 ((UInt8.ofNat (n % 4)).toNat : Int))
  rw [key_rem] at ho2 hb2
  exact ⟨g, rfl, hg, ho2, hb2⟩

end Go.Proofs.YtjpejheipkfanaaDoor

/-
  How sealers outlast what layer 12's statements do around them ('StaS', 'TwoS'); plain laws: what was sealed opens as it was. No condition.
-/
namespace Go.Proofs.YtjpejheipkfanaaDoor
open Go.RowKit
set_option linter.unusedVariables false

/-- The sealer S in memory that is all newer than w0. -/
structure StaS (w0 w : World) (r : Nat) (U : Nat → Prop) (S : SeaS) (M : SeaM) : Prop where
  se : Se U w r S M
  ok : S.Ok
  base : ∀ j, U j → w0.heap.size ≤ j
  bel : Below w0.heap.size w0 w
theorem StaS.grow {w0 w w' : World} {r : Nat} {U : Nat → Prop} {S : SeaS} {M : SeaM} (h : StaS w0 w r U S M) (k : Below w.heap.size w w') : StaS w0 w' r U S M := ⟨h.se.grow k, h.ok, h.base, h.bel.trans (k.mono h.bel.size)⟩
theorem StaS.after {w0 w w' : World} {r : Nat} {U : Nat → Prop} {S S' : SeaS} {M : SeaM} (h : StaS w0 w r U S M) (hs : Se U w' r S' M) (ho : S'.Ok) (k : Kp U w w') : StaS w0 w' r U S' M :=
  ⟨hs, ho, h.base, below_kp h.bel k h.bel.size fun j hj hU => by have := h.base j hU; omega⟩
theorem StaS.kp {w0 w w' : World} {r : Nat} {U F : Nat → Prop} {S : SeaS} {M : SeaM} (h : StaS w0 w r U S M) (k : Kp F w w') (hF : ∀ j, U j → ¬ F j) (h0 : ∀ j, F j → w0.heap.size ≤ j) : StaS w0 w' r U S M :=
  ⟨h.se.kp k hF, h.ok, h.base, below_kp h.bel k h.bel.size fun j hj hU => by have := h0 j hU; omega⟩
theorem StaS.first {w0 w w' : World} {r : Nat} {U : Nat → Prop} {i : Bool} {M : SeaM} (hb : Below w0.heap.size w0 w) (hs : Se U w' r (SeaS.new i) M) (hU : ∀ j, U j → w.heap.size ≤ j) (hb' : Below w.heap.size w w') : StaS w0 w' r U (SeaS.new i) M :=
  ⟨hs, SeaS.Ok.new i, fun j hj => Nat.le_trans hb.size (hU j hj), hb.trans (hb'.mono hb.size)⟩
/-- Bytes that were handed in. -/
theorem StaS.arg {w0 w : World} {r : Nat} {U : Nat → Prop} {S : SeaS} {M : SeaM} (h : StaS w0 w r U S M) {p : Option Addr} {m q : Nat} {b : List UInt8} (hb : Bs w0 p m q b) : BA (fun j => ¬ U j) w p m q b :=
  ⟨hb.below h.bel (Nat.le_refl _), fun hm => by
    obtain ⟨x, o, ha, hlt, _⟩ := hb.at hm
    exact ⟨_, ha, fun hU => by have := h.base _ hU; dsimp only at this hlt; omega, Nat.lt_of_lt_of_le hlt h.bel.size⟩⟩
theorem BA.mono' {A A' : Nat → Prop} {w : World} {p : Option Addr} {m q : Nat} {b : List UInt8} (h : BA A w p m q b) (hA : ∀ j, j < w.heap.size → A j → A' j) : BA A' w p m q b :=
  ⟨h.1, fun hm => by
    obtain ⟨x, hp, ha, hlt⟩ := h.2 hm
    exact ⟨x, hp, hA _ hlt ha, hlt⟩⟩
/-- Bytes that a call made itself, behind the sealer. -/
theorem Own.no {U : Nat → Prop} {w : World} {base : Nat} {p : Option Addr} {m q : Nat} {l : List UInt8} (h : Own w base (.slice p m q) l) (hU : ∀ j, U j → j < base) : BA (fun j => ¬ U j) w p m q l := h.ba.mono' fun j _ hj hu => by have := hU j hu; omega
theorem BA.no {U : Nat → Prop} {w : World} {base : Nat} {p : Option Addr} {m q : Nat} {l : List UInt8} (h : BA (fun j => base ≤ j) w p m q l) (hU : ∀ j, U j → j < base) : BA (fun j => ¬ U j) w p m q l := h.mono' fun j _ hj hu => by have := hU j hu; omega
/-- Bytes of a text, laid for the call. -/
theorem BA.mark {U : Nat → Prop} {w : World} (l : List UInt8) (arr : Array Value) (f : Nat × Nat) (h : arr.toList = cs l) (hm : l.length ≤ 1000000) (hU : ∀ j, U j → j < w.heap.size) : BA (fun j => ¬ U j) (w.alloc (.cells arr 5 f)) (some ⟨w.heap.size, 0, none⟩) l.length l.length l :=
  ⟨Bs.marked w l arr f h hm, fun _ => ⟨_, rfl, fun hu => by have := hU _ hu; dsimp only at this; omega, by simp⟩⟩
/-- Two sealers, apart. -/
structure TwoS (w0 w : World) (r1 : Nat) (U1 : Nat → Prop) (S1 : SeaS) (M1 : SeaM) (r2 : Nat) (U2 : Nat → Prop) (S2 : SeaS) (M2 : SeaM) : Prop where
  a : StaS w0 w r1 U1 S1 M1
  b : StaS w0 w r2 U2 S2 M2
  ap : ∀ j, U1 j → ¬ U2 j
theorem TwoS.grow {w0 w w' : World} {r1 r2 : Nat} {U1 U2 : Nat → Prop} {S1 S2 : SeaS} {M1 M2 : SeaM} (h : TwoS w0 w r1 U1 S1 M1 r2 U2 S2 M2) (k : Below w.heap.size w w') : TwoS w0 w' r1 U1 S1 M1 r2 U2 S2 M2 := ⟨h.a.grow k, h.b.grow k, h.ap⟩
theorem TwoS.left {w0 w w' : World} {r1 r2 : Nat} {U1 U2 : Nat → Prop} {S1 S1' S2 : SeaS} {M1 M2 : SeaM} (h : TwoS w0 w r1 U1 S1 M1 r2 U2 S2 M2) (hs : Se U1 w' r1 S1' M1) (ho : S1'.Ok) (k : Kp U1 w w') : TwoS w0 w' r1 U1 S1' M1 r2 U2 S2 M2 :=
  ⟨h.a.after hs ho k, h.b.kp k (fun j hj hj' => h.ap j hj' hj) h.a.base, h.ap⟩
theorem TwoS.right {w0 w w' : World} {r1 r2 : Nat} {U1 U2 : Nat → Prop} {S1 S2 S2' : SeaS} {M1 M2 : SeaM} (h : TwoS w0 w r1 U1 S1 M1 r2 U2 S2 M2) (hs : Se U2 w' r2 S2' M2) (ho : S2'.Ok) (k : Kp U2 w w') : TwoS w0 w' r1 U1 S1 M1 r2 U2 S2' M2 :=
  ⟨h.a.kp k h.ap h.b.base, h.b.after hs ho k, h.ap⟩
theorem TwoS.first {w0 w1 w2 : World} {r1 r2 : Nat} {U1 U2 : Nat → Prop} {S1 : SeaS} {i : Bool} {M1 M2 : SeaM} (h1 : StaS w0 w1 r1 U1 S1 M1) (hs : Se U2 w2 r2 (SeaS.new i) M2) (hU : ∀ j, U2 j → w1.heap.size ≤ j) (hb : Below w1.heap.size w1 w2) : TwoS w0 w2 r1 U1 S1 M1 r2 U2 (SeaS.new i) M2 :=
  ⟨h1.grow hb, StaS.first h1.bel hs hU hb, fun j h h' => by have := h1.se.lt j h; have := hU j h'; omega⟩

/-- What was sealed stands in the book. -/
theorem SeaS.known_own (S : SeaS) (k n b t : List UInt8) : ((S.seal k n b t).known k n b (S.made k n b t)).isSome = true := by
  rw [S.seal_add]
  show ((({ S with count := S.next } : SeaS).add k n b t (S.made k n b t)).known k n b (S.made k n b t)).isSome = true
  rw [SeaS.known_add]
  cases SeaS.known { S with count := S.next } k n b (S.made k n b t) with
  | some t0 => rfl
  | none => simp
theorem SeaS.known_seal (S : SeaS) (k n b t k' n' b' s' : List UInt8) : (S.seal k n b t).known k' n' b' s' = match S.known k' n' b' s' with | some e => some e | none => if k = k' ∧ n = n' ∧ b = b' ∧ S.made k n b t = s' then some t else none := by
  rw [S.seal_add]
  show (({ S with count := S.next } : SeaS).add k n b t (S.made k n b t)).known k' n' b' s' = _
  rw [SeaS.known_add]
  rfl
/-- What was sealed is opened as it was. -/
theorem SeaS.opens_own {S : SeaS} (h : S.Ok) {k n : List UInt8} (hk : k.length = 32) (hn : n.length = 12) (b t : List UInt8) : (S.seal k n b t).opens k n b (S.made k n b t) = some t := by
  unfold SeaS.opens
  show (if S.ideal = true then _ else _) = _
  by_cases hi : S.ideal = true
  · rw [if_pos hi, S.known_seal, h.made_new k n b t hi]
    simp
  · rw [if_neg hi]
    have : S.made k n b t = sealL (keyF k) n b t := by unfold SeaS.made; rw [if_neg hi]
    rw [this]
    exact opens_seal hk hn
theorem SeaS.opens_stays {S : SeaS} {k n b s t : List UInt8} (h : S.opens k n b s = some t) (k' n' b' t' : List UInt8) : (S.seal k' n' b' t').opens k n b s = some t := by
  unfold SeaS.opens at h ⊢
  show (if S.ideal = true then _ else _) = _
  by_cases hi : S.ideal = true
  · rw [if_pos hi] at h ⊢
    rw [S.known_seal, h]
  · rw [if_neg hi] at h ⊢
    exact h
theorem SeaS.derive_count (S : SeaS) (u p : List UInt8) : (S.derive u p).count ≤ S.count + 1 := by
  unfold SeaS.derive
  split
  · omega
  · exact Nat.le_refl _
theorem SeaS.seal_count (S : SeaS) (k n b t : List UInt8) : (S.seal k n b t).count ≤ S.count + 1 := by
  show S.next ≤ _
  unfold SeaS.next
  split <;> omega
theorem SeaS.seal_len (S : SeaS) (k n b t : List UInt8) : (S.seal k n b t).book.length = S.book.length + 1 := by simp [SeaS.seal]
theorem SeaS.made_len {S : SeaS} {k n : List UInt8} (hk : k.length = 32) (hn : n.length = 12) (b t : List UInt8) : (S.made k n b t).length = t.length + 16 := by
  unfold SeaS.made
  split
  · rw [noiseL_length]
  · rw [sealL_length (keyF_length hk) hn]

end Go.Proofs.YtjpejheipkfanaaDoor

/-
  The contract of layer 12's program's New: a sealer, its book empty. No condition.
-/
namespace Go.Proofs.YtjpejheipkfanaaDoor
open Go.RowKit
set_option linter.unusedVariables false

def noneK {κ : Type} : κ → Option Value := fun _ => none
theorem fst_new (i : Bool) : fstK (SeaS.new i) = noneK := rfl
theorem kid_new (i : Bool) : kidK (SeaS.new i) = noneK := rfl
theorem txt_new (i : Bool) : TxtK (SeaS.new i) noneK := fun o => rfl
theorem builtBook (m1 m2 : Option Nat) : Tryd.prog.built 50 [(1, .map m1), (2, .map m2)] = some #[.int .i64 0, .map m1, .map m2] := by kernel_rfl
theorem builtSea (b : Bool) (c m1 m2 : Value) : Tryd.prog.built 55 [(0, .bool b), (2, .agg #[c, m1, m2])] = some #[.bool b, .pointer none, c, m1, m2, .bool false, .bool false, .int .u64 0, .map none] := by kernel_rfl
theorem mkP (w : World) : Sem.run Tryd.prog (Instr.makeMap 47 none) w = .ok (.map (some w.heap.size)) (w.alloc (.map #[] 0)) := rfl
theorem mkO (w : World) : Sem.run Tryd.prog (Instr.makeMap 48 none) w = .ok (.map (some w.heap.size)) (w.alloc (.map #[] 0)) := rfl
theorem mkE (w : World) : Sem.run Tryd.prog (Instr.makeMap 53 none) w = .ok (.map (some w.heap.size)) (w.alloc (.map #[] 0)) := rfl

set_option maxHeartbeats 1000000 in
theorem oNewBook (w : World) : Calls Tryd.prog 22 #[] w fun e w' => ∃ m1 m2, e = .returned (.agg #[.int .i64 0, .map (some m1), .map (some m2)]) ∧ m1 ≠ m2 ∧ w.heap.size ≤ m1 ∧ w.heap.size ≤ m2 ∧ Mks kvP okKP w' m1 noneK ∧ Mks kvO okKO w' m2 noneK ∧ Below w.heap.size w w' := by
  have h1 := mkP
  have h2 := mkO
  have h3 := builtBook
  go_enter Tryd.func22, Tryd.ntmps22
  go_wp2_with fail
  refine bodyPost_ret (results_cell_row rfl _ _ w.heap.size 50 #[.int .i64 0, .map (some (w.heap.size + 1)), .map (some (w.heap.size + 1 + 1))] (0, 0) _ rfl (((Blk.new w _ _).old _).old _) Tryd.underlying50 rfl (by kernel_rfl)) rfl ?_
  refine ⟨_, _, rfl, by omega, by omega, by omega, ?_, ?_, ?_⟩
  · have h := Mks.new kvP okKP (w.alloc (.cells #[.int .i64 0, .map (some (w.heap.size + 1)), .map (some (w.heap.size + 1 + 1))] 50))
    have e : (w.alloc (.cells #[.int .i64 0, .map (some (w.heap.size + 1)), .map (some (w.heap.size + 1 + 1))] 50)).heap.size = w.heap.size + 1 := by simp
    rw [e] at h
    exact h.same (heap_alloc_old _ _ h.lt)
  · have h := Mks.new kvO okKO ((w.alloc (.cells #[.int .i64 0, .map (some (w.heap.size + 1)), .map (some (w.heap.size + 1 + 1))] 50)).alloc (.map #[] 0))
    have e : ((w.alloc (.cells #[.int .i64 0, .map (some (w.heap.size + 1)), .map (some (w.heap.size + 1 + 1))] 50)).alloc (.map #[] 0)).heap.size = w.heap.size + 1 + 1 := by simp
    rw [e] at h
    exact h
  · exact ((below_alloc w _).trans ((below_alloc _ _).mono (below_alloc w _).size)).trans ((below_alloc _ _).mono (by simp; omega))

/-- What a new sealer is. -/
def NewS (i : Bool) (w : World) (e : Ending) (w' : World) : Prop := ∃ r U M, e = .returned (.pointer (some ⟨r, 0, none⟩)) ∧ Se U w' r (SeaS.new i) M ∧ (∀ j, U j → w.heap.size ≤ j) ∧ Below w.heap.size w w'
theorem seC_new (i : Bool) (M : SeaM) : seC (SeaS.new i) M = [.bool i, .pointer M.tb, .int .i64 0, .map (some M.m1), .map (some M.m2), .bool false, .bool false, .int .u64 0, .map M.ks] := rfl

set_option maxHeartbeats 1000000 in
theorem oSNew (i : Bool) (w : World) : Calls Tryd.prog 8 #[.bool i] w (NewS i w) := by
  have h1 := mkE
  have h3 := builtSea
  cases i with
  | true =>
    go_enter Tryd.func8, Tryd.ntmps8
    go_wp2_with fail
    refine (oNewBook w).mono ?_
    rintro e w1 ⟨m1, m2, rfl, hne, hm1, hm2, k1, k2, hb1⟩
    go_wp2_with fail
    go_ret
    have hB : Blk ((w1.alloc (.cells #[.bool true, .pointer none, .int .i64 0, .map (some m1), .map (some m2), .bool false, .bool false, .int .u64 0, .map (some (w1.heap.size + 1))] 55)).alloc (.map #[] 0)) w1.heap.size (seC (SeaS.new true) ⟨m1, m2, none, some (w1.heap.size + 1)⟩) 55 := (Blk.new w1 _ _).old _
    have h3 := Mks.new kvP okKP (w1.alloc (.cells #[.bool true, .pointer none, .int .i64 0, .map (some m1), .map (some m2), .bool false, .bool false, .int .u64 0, .map (some (w1.heap.size + 1))] 55))
    have e : (w1.alloc (.cells #[.bool true, .pointer none, .int .i64 0, .map (some m1), .map (some m2), .bool false, .bool false, .int .u64 0, .map (some (w1.heap.size + 1))] 55)).heap.size = w1.heap.size + 1 := by simp
    rw [e] at h3
    have l1 := k1.lt
    have l2 := k2.lt
    have hs := hb1.size
    have q : Below w1.heap.size w1 ((w1.alloc (.cells #[.bool true, .pointer none, .int .i64 0, .map (some m1), .map (some m2), .bool false, .bool false, .int .u64 0, .map (some (w1.heap.size + 1))] 55)).alloc (.map #[] 0)) := (below_alloc w1 _).trans ((below_alloc _ _).mono (below_alloc w1 _).size)
    generalize (w1.alloc (.cells #[.bool true, .pointer none, .int .i64 0, .map (some m1), .map (some m2), .bool false, .bool false, .int .u64 0, .map (some (w1.heap.size + 1))] 55)).alloc (.map #[] 0) = w9 at *
    have l3 := h3.lt
    refine ⟨w1.heap.size, fun j => w.heap.size ≤ j ∧ j < w9.heap.size, ⟨m1, m2, none, some (w1.heap.size + 1)⟩, rfl, ⟨fun j hj => hj.2, ⟨hs, by omega⟩, hB, ⟨hm1, by dsimp only; omega⟩, ⟨hm2, by dsimp only; omega⟩, hne, k1.same (q.block _ l1), ⟨noneK, k2.same (q.block _ l2), txt_new true⟩, fun _ => ⟨w1.heap.size + 1, rfl, ⟨by omega, l3⟩, by dsimp only; omega, by dsimp only; omega, h3⟩, fun h => (by cases h), by decide⟩, fun j hj => hj.1, hb1.trans (q.mono hs)⟩
  | false =>
    go_enter Tryd.func8, Tryd.ntmps8
    go_wp2_with fail
    refine (oNewBook w).mono ?_
    rintro e w1 ⟨m1, m2, rfl, hne, hm1, hm2, k1, k2, hb1⟩
    go_wp2_with fail
    refine (oBuild _).mono ?_
    rintro e w2 ⟨g, rfl, hg, hT, hb2⟩
    have hlg : g < w2.heap.size := hT.lt
    have l1 := k1.lt
    have l2 := k2.lt
    have hs := hb1.size
    have hB1 := (Blk.new w1 #[.bool false, .pointer none, .int .i64 0, .map (some m1), .map (some m2), .bool false, .bool false, .int .u64 0, .map none] 55)
    have q1 : Below w1.heap.size w1 w2 := (below_alloc w1 _).trans (hb2.mono (below_alloc w1 _).size)
    have hB2 : Blk w2 w1.heap.size [.bool false, .pointer none, .int .i64 0, .map (some m1), .map (some m2), .bool false, .bool false, .int .u64 0, .map none] 55 := hB1.below hb2 hB1.lt
    have hgr : g ≠ w1.heap.size := fun e => by
      rw [e] at hT
      unfold Blk at hT hB2
      rw [hB2] at hT
      simp only [Option.some.injEq, Obj.cells.injEq] at hT
      exact absurd hT.2.1 (by decide)
    have hg1 : w1.heap.size ≤ g := Nat.le_trans (below_alloc w1 _).size hg
    have c1 : w2.cell? ⟨w1.heap.size, 1, none⟩ = some (.pointer none) := hB2.cell 1
    have f1 := hB2.free 1
    have lr := hB2.lt
    have hB3 : Hid (Blk (w2.setCell ⟨w1.heap.size, 1, none⟩ (.pointer (some ⟨g, 0, none⟩))) w1.heap.size (seC (SeaS.new false) ⟨m1, m2, some ⟨g, 0, none⟩, none⟩) 55) := hB2.setC 1 _
    have HT : Hid (Blk (w2.setCell ⟨w1.heap.size, 1, none⟩ (.pointer (some ⟨g, 0, none⟩))) g (cs tabT) 77) := hT.setO (p := ⟨w1.heap.size, 1, none⟩) hgr _
    have Q : Hid (Below w1.heap.size w1 (w2.setCell ⟨w1.heap.size, 1, none⟩ (.pointer (some ⟨g, 0, none⟩)))) := q1.setCell (p := ⟨w1.heap.size, 1, none⟩) (Nat.le_refl _) _
    have hz : (w2.setCell ⟨w1.heap.size, 1, none⟩ (.pointer (some ⟨g, 0, none⟩))).heap.size = w2.heap.size := by simp [World.setCell]
    clear hg hT hb2 hB1 q1 hB2
    go_wp2_with fail
    go_ret
    generalize w2.setCell ⟨w1.heap.size, 1, none⟩ (.pointer (some ⟨g, 0, none⟩)) = w9 at *
    exact ⟨w1.heap.size, fun j => w.heap.size ≤ j ∧ j < w9.heap.size, ⟨m1, m2, some ⟨g, 0, none⟩, none⟩, rfl, ⟨fun j hj => hj.2, ⟨hs, by omega⟩, hB3.out, ⟨hm1, by dsimp only; omega⟩, ⟨hm2, by dsimp only; omega⟩, hne, k1.same (Q.out.block _ l1), ⟨noneK, k2.same (Q.out.block _ l2), txt_new false⟩, fun h => (by cases h), fun _ => ⟨g, rfl, ⟨by omega, by omega⟩, HT.out⟩, by decide⟩, fun j hj => hj.1, hb1.trans (Q.out.mono hs)⟩

end Go.Proofs.YtjpejheipkfanaaDoor

/-
  The contract of layer 12's smoke: it answers true, and leaves all as it was. No condition.
-/
namespace Go.Proofs.YtjpejheipkfanaaDoor
open Go.RowKit
set_option linter.unusedVariables false

theorem BA.mark1 {A : Nat → Prop} {w : World} (l : List UInt8) (arr : Array Value) (f : Nat × Nat) (h : arr.toList = cs l) (hm : l.length ≤ 1000000) (hA : ∀ j, w.heap.size ≤ j → A j) : BA A (w.alloc (.cells arr 5 f)) (some ⟨w.heap.size, 0, none⟩) l.length l.length l :=
  ⟨Bs.marked w l arr f h hm, fun _ => ⟨_, rfl, hA _ (Nat.le_refl _), by simp⟩⟩
theorem BA.mark2 {A : Nat → Prop} {w : World} (o : Obj) (l : List UInt8) (arr : Array Value) (f : Nat × Nat) (h : arr.toList = cs l) (hm : l.length ≤ 1000000) (hA : ∀ j, w.heap.size ≤ j → A j) : BA A ((w.alloc o).alloc (.cells arr 5 f)) (some ⟨w.heap.size + 1, 0, none⟩) l.length l.length l := by
  have := BA.mark1 (A := A) (w := w.alloc o) l arr f h hm (fun j hj => hA j (by simp at hj; omega))
  rw [show (w.alloc o).heap.size = w.heap.size + 1 from by simp] at this
  exact this
theorem Own.both {A : Nat → Prop} {w : World} {base : Nat} {p : Option Addr} {m q : Nat} {l : List UInt8} (h : Own w base (.slice p m q) l) (hA : ∀ j, base ≤ j → A j) : BA A w p m q l := h.ba.mono' fun j _ hj => hA j hj
/-- Where neither of two sealers lies. -/
def AA (U1 U2 : Nat → Prop) : Nat → Prop := fun j => ¬ U1 j ∧ ¬ U2 j
theorem TwoS.aa {w0 w : World} {r1 r2 : Nat} {U1 U2 : Nat → Prop} {S1 S2 : SeaS} {M1 M2 : SeaM} (h : TwoS w0 w r1 U1 S1 M1 r2 U2 S2 M2) : ∀ j, w.heap.size ≤ j → AA U1 U2 j := fun j hj => ⟨fun hu => by have := h.a.se.lt j hu; omega, fun hu => by have := h.b.se.lt j hu; omega⟩
theorem BA.n1 {U1 U2 : Nat → Prop} {w : World} {p : Option Addr} {m q : Nat} {l : List UInt8} (h : BA (AA U1 U2) w p m q l) : BA (fun j => ¬ U1 j) w p m q l := h.mono' fun _ _ h => h.1
theorem BA.n2 {U1 U2 : Nat → Prop} {w : World} {p : Option Addr} {m q : Nat} {l : List UInt8} (h : BA (AA U1 U2) w p m q l) : BA (fun j => ¬ U2 j) w p m q l := h.mono' fun _ _ h => h.2
theorem BA.k1 {U1 U2 : Nat → Prop} {w w' : World} {p : Option Addr} {m q : Nat} {l : List UInt8} (h : BA (AA U1 U2) w p m q l) (k : Kp U1 w w') : BA (AA U1 U2) w' p m q l := h.kp k fun j hj => hj.1
theorem BA.k2 {U1 U2 : Nat → Prop} {w w' : World} {p : Option Addr} {m q : Nat} {l : List UInt8} (h : BA (AA U1 U2) w p m q l) (k : Kp U2 w w') : BA (AA U1 U2) w' p m q l := h.kp k fun j hj => hj.2
theorem non_apart : ¬ nonL 1 2 = nonL 1 3 := by decide
theorem ok_opens_ideal (S : SeaS) (h : S.Ok) (k n b s : List UInt8) : (S.opened k n b s).Ok := h.opened k n b s
/-- Under another nonce nothing opens. -/
theorem works_not : ((SeaS.new true).seal (keyB 1) (nonL 1 2) [120] [97, 98, 99]).opens (keyB 1) (nonL 1 3) [120] ((SeaS.new true).made (keyB 1) (nonL 1 2) [120] [97, 98, 99]) = none := by
  unfold SeaS.opens
  show (if true = true then _ else _) = _
  rw [if_pos rfl, SeaS.known_seal]
  show (if _ then _ else _) = _
  rw [if_neg (fun h => non_apart h.2.1)]
theorem works_forged (S : SeaS) (hf : S.forged = false) (k n b t : List UInt8) : ((S.seal k n b t).opened k n b (S.made k n b t)).forged = false := by
  have h1 := S.known_own k n b t
  unfold SeaS.opened
  show (S.forged || _) = false
  rw [hf, Option.isNone_eq_false_iff.2 h1]
  simp
theorem works_reused (i : Bool) (k n b t k' n' b' s' : List UInt8) : (((SeaS.new i).seal k n b t).opened k' n' b' s').reused = false := rfl
theorem SeaS.derive_ideal (S : SeaS) (u p : List UInt8) : (S.derive u p).ideal = S.ideal := by
  unfold SeaS.derive
  split <;> rfl
theorem SeaS.derive_book (S : SeaS) (u p : List UInt8) : (S.derive u p).book = S.book := by
  unfold SeaS.derive
  split <;> rfl
theorem works_ideal (i : Bool) (k n b t k' n' b' s' : List UInt8) : (((SeaS.new i).seal k n b t).opened k' n' b' s').ideal = i := rfl

set_option maxRecDepth 100000 in
set_option maxHeartbeats 8000000 in
theorem lWorks12 (w : World) : Calls Tryd.prog 7 #[] w fun e w' => e = .returned (.bool true) ∧ Below w.heap.size w w' := by
  have HZ : Hid (((SeaS.new true).seal (keyB 1) (nonL 1 2) [120] [97, 98, 99]).opens (keyB 1) (nonL 1 2) [120] ((SeaS.new true).made (keyB 1) (nonL 1 2) [120] [97, 98, 99]) = some [97, 98, 99]) := SeaS.opens_own (SeaS.Ok.new true) (keyB_length 1) (nonL_length 1 2) _ _
  have HY : Hid (((SeaS.new false).seal (keyB 1) (nonL 1 2) [] [97, 98, 99]).opens (keyB 1) (nonL 1 2) [] ((SeaS.new false).made (keyB 1) (nonL 1 2) [] [97, 98, 99]) = some [97, 98, 99]) := SeaS.opens_own (SeaS.Ok.new false) (keyB_length 1) (nonL_length 1 2) _ _
  have HN : Hid (((SeaS.new true).seal (keyB 1) (nonL 1 2) [120] [97, 98, 99]).opens (keyB 1) (nonL 1 3) [120] ((SeaS.new true).made (keyB 1) (nonL 1 2) [120] [97, 98, 99]) = none) := works_not
  have HO1 : Hid (∀ k n b s, ((SeaS.new true).seal (keyB 1) (nonL 1 2) [120] [97, 98, 99]).opened k n b s = (SeaS.new true).seal (keyB 1) (nonL 1 2) [120] [97, 98, 99]) := fun k n b s => SeaS.opened_ideal rfl k n b s
  have HK1 : Hid (((SeaS.new true).seal (keyB 1) (nonL 1 2) [120] [97, 98, 99]).Ok) := (SeaS.Ok.new true).seal (by decide) _ _ _ _
  have HK2 : Hid (((SeaS.new false).seal (keyB 1) (nonL 1 2) [] [97, 98, 99]).Ok) := (SeaS.Ok.new false).seal (by decide) _ _ _ _
  have HL1 : Hid (((SeaS.new true).made (keyB 1) (nonL 1 2) [120] [97, 98, 99]).length = 19) := by show _ = _; rw [SeaS.made_len (keyB_length 1) (nonL_length 1 2)]; rfl
  have HL2 : Hid (((SeaS.new false).made (keyB 1) (nonL 1 2) [] [97, 98, 99]).length = 19) := by show _ = _; rw [SeaS.made_len (keyB_length 1) (nonL_length 1 2)]; rfl
  have HF : Hid ((((SeaS.new false).seal (keyB 1) (nonL 1 2) [] [97, 98, 99]).opened (keyB 1) (nonL 1 2) [] ((SeaS.new false).made (keyB 1) (nonL 1 2) [] [97, 98, 99])).forged = false) := works_forged _ rfl _ _ _ _
  have HR : Hid ((((SeaS.new false).seal (keyB 1) (nonL 1 2) [] [97, 98, 99]).opened (keyB 1) (nonL 1 2) [] ((SeaS.new false).made (keyB 1) (nonL 1 2) [] [97, 98, 99])).reused = false) := rfl
  have HI1 : Hid (((SeaS.new true).seal (keyB 1) (nonL 1 2) [120] [97, 98, 99]).ideal = true ∧ ((SeaS.new true).seal (keyB 1) (nonL 1 2) [120] [97, 98, 99]).book.length = 1 ∧ ((SeaS.new true).seal (keyB 1) (nonL 1 2) [120] [97, 98, 99]).count = 1) := ⟨rfl, rfl, rfl⟩
  obtain ⟨A1, hA1⟩ : ∃ A, A = (SeaS.new true).made (keyB 1) (nonL 1 2) [120] [97, 98, 99] := ⟨_, rfl⟩
  obtain ⟨A2, hA2⟩ : ∃ A, A = (SeaS.new false).made (keyB 1) (nonL 1 2) [] [97, 98, 99] := ⟨_, rfl⟩
  obtain ⟨Z1, hZ1⟩ : ∃ S, S = (SeaS.new true).seal (keyB 1) (nonL 1 2) [120] [97, 98, 99] := ⟨_, rfl⟩
  obtain ⟨Z2, hZ2⟩ : ∃ S, S = (SeaS.new false).seal (keyB 1) (nonL 1 2) [] [97, 98, 99] := ⟨_, rfl⟩
  rw [← hZ1, ← hA1] at HZ HN
  rw [← hZ2, ← hA2] at HY HF HR
  rw [← hZ1] at HO1 HK1 HI1
  rw [← hZ2] at HK2
  rw [← hA1] at HL1
  rw [← hA2] at HL2
  have C1 : Hid (∀ (u : World) (U : Nat → Prop) (r : Nat) (M : SeaM) (ak an ab at' : Option Addr) (ck cn cb ct : Nat), Se U u r (SeaS.new true) M → BA (fun j => ¬ U j) u ak 32 ck (keyB 1) → BA (fun j => ¬ U j) u an 12 cn (nonL 1 2) → BA (fun j => ¬ U j) u ab 1 cb [120] → BA (fun j => ¬ U j) u at' 3 ct [97, 98, 99] → Calls Tryd.prog 10 #[.pointer (some ⟨r, 0, none⟩), .slice ak 32 ck, .slice an 12 cn, .slice ab 1 cb, .slice at' 3 ct] u (Mades U r Z1 M A1 u)) := fun u U r M ak an ab at' ck cn cb ct hs h1 h2 h3 h4 => by
    rw [hZ1, hA1]
    exact oSSeal u hs (SeaS.Ok.new true) h1 h2 h3 h4 (by omega) (by omega) (by decide)
  have C2 : Hid (∀ (u : World) (U : Nat → Prop) (r : Nat) (M : SeaM) (ak an ab at' : Option Addr) (ck cn cb ct : Nat), Se U u r (SeaS.new false) M → BA (fun j => ¬ U j) u ak 32 ck (keyB 1) → BA (fun j => ¬ U j) u an 12 cn (nonL 1 2) → BA (fun j => ¬ U j) u ab 0 cb [] → BA (fun j => ¬ U j) u at' 3 ct [97, 98, 99] → Calls Tryd.prog 10 #[.pointer (some ⟨r, 0, none⟩), .slice ak 32 ck, .slice an 12 cn, .slice ab 0 cb, .slice at' 3 ct] u (Mades U r Z2 M A2 u)) := fun u U r M ak an ab at' ck cn cb ct hs h1 h2 h3 h4 => by
    rw [hZ2, hA2]
    exact oSSeal u hs (SeaS.Ok.new false) h1 h2 h3 h4 (by omega) (by omega) (by decide)
  clear hZ1 hZ2 hA1 hA2
  go_enter Tryd.func7, Tryd.ntmps7
  go_wp2_with fail
  refine (oSNew true w).mono ?_
  rintro e w1 ⟨s, U1, M1, rfl, hs1, hU1, hb1⟩
  have T1 : Hid (StaS w w1 s U1 (SeaS.new true) M1) := StaS.first (Below.refl _ w) hs1 hU1 hb1
  clear hs1 hU1 hb1
  go_wp2_with fail
  refine (oSNew false w1).mono ?_
  rintro e w2 ⟨r, U2, M2, rfl, hs2, hU2, hb2⟩
  have T2 : Hid (TwoS w w2 s U1 (SeaS.new true) M1 r U2 (SeaS.new false) M2) := TwoS.first T1.out hs2 hU2 hb2
  clear hs2 hU2 hb2 T1
  go_wp2_with fail
  refine (lKey12 w2 1 (by omega)).mono ?_
  rintro e w3 ⟨g3, rfl, _, o3, hb3⟩
  have T3 : Hid (TwoS w w3 s U1 (SeaS.new true) M1 r U2 (SeaS.new false) M2) := T2.out.grow hb3
  have K_3 := o3.both T2.out.aa
  clear T2 o3 hb3
  go_wp2_with fail
  refine (oSNonce w3 1 2 (by omega) (by omega)).mono ?_
  rintro e w4 ⟨a4, m4, c4, rfl, o4, hb4⟩
  have l4 := o4.toBs.len
  rw [nonL_length] at l4
  subst l4
  have T4 : Hid (TwoS w w4 s U1 (SeaS.new true) M1 r U2 (SeaS.new false) M2) := T3.out.grow hb4
  have K_4 := K_3.below' hb4
  have N_4 := o4.both T3.out.aa
  clear T3 o4 hb4 K_3
  have hbm : Below w4.heap.size w4 ((w4.alloc (.cells #[.int .u8 120] 5 (1, 2))).alloc (.cells #[.int .u8 97, .int .u8 98, .int .u8 99] 5 (3, 4))) := (below_alloc w4 _).trans ((below_alloc _ _).mono (below_alloc w4 _).size)
  have X_5 := (BA.mark1 (A := AA U1 U2) (w := w4) [120] #[.int .u8 120] (1, 2) rfl (by decide) T4.out.aa).below' (below_alloc _ (.cells #[.int .u8 97, .int .u8 98, .int .u8 99] 5 (3, 4)))
  have Y_5 := BA.mark2 (A := AA U1 U2) (w := w4) (.cells #[.int .u8 120] 5 (1, 2)) [97, 98, 99] #[.int .u8 97, .int .u8 98, .int .u8 99] (3, 4) rfl (by decide) T4.out.aa
  have T5 : Hid (TwoS w ((w4.alloc (.cells #[.int .u8 120] 5 (1, 2))).alloc (.cells #[.int .u8 97, .int .u8 98, .int .u8 99] 5 (3, 4))) s U1 (SeaS.new true) M1 r U2 (SeaS.new false) M2) := T4.out.grow hbm
  have K_5 := K_4.below' hbm
  have N_5 := N_4.below' hbm
  clear T4 hbm K_4 N_4
  have kc := fun (w : World) (C : Array Value) (n c : Nat) => Lib.run_convert_bytes_const (P := Tryd.prog) w 22 5 C n c Tryd.underlying22 Tryd.underlying5
  have kd := conv2
  go_wp2_with fail
  clear kc kd
  obtain ⟨x5, hx5⟩ : ∃ x, x = w4.heap.size := ⟨_, rfl⟩
  obtain ⟨y5, hy5⟩ : ∃ x, x = w4.heap.size + 1 := ⟨_, rfl⟩
  rw [← hy5] at Y_5 ⊢
  rw [← hx5] at X_5 ⊢
  clear hx5 hy5
  generalize (w4.alloc (.cells #[.int .u8 120] 5 (1, 2))).alloc (.cells #[.int .u8 97, .int .u8 98, .int .u8 99] 5 (3, 4)) = w5 at *
  refine (C1.out w5 U1 s M1 _ _ _ _ _ _ _ _ T5.out.a.se K_5.n1 N_5.n1 X_5.n1 Y_5.n1).mono ?_
  rintro e w6 ⟨as', ms, cs', rfl, oS, seS, kpS⟩
  have lS := oS.toBs.len
  rw [HL1.out] at lS
  subst lS
  have T6 : Hid (TwoS w w6 s U1 Z1 M1 r U2 (SeaS.new false) M2) := T5.out.left seS HK1.out kpS
  have A_6 := oS.both T5.out.aa
  clear T5 oS seS kpS K_5 N_5 X_5 Y_5 C1
  go_wp2_with fail
  refine (lKey12 w6 1 (by omega)).mono ?_
  rintro e w7 ⟨g7, rfl, _, o7, hb7⟩
  have T7 : Hid (TwoS w w7 s U1 Z1 M1 r U2 (SeaS.new false) M2) := T6.out.grow hb7
  have A_7 := A_6.below' hb7
  have K_7 := o7.both T6.out.aa
  clear T6 o7 hb7 A_6
  go_wp2_with fail
  refine (oSNonce w7 1 2 (by omega) (by omega)).mono ?_
  rintro e w8 ⟨a8, m8, c8, rfl, o8, hb8⟩
  have l8 := o8.toBs.len
  rw [nonL_length] at l8
  subst l8
  have T8 : Hid (TwoS w w8 s U1 Z1 M1 r U2 (SeaS.new false) M2) := T7.out.grow hb8
  have A_8 := A_7.below' hb8
  have K_8 := K_7.below' hb8
  have N_8 := o8.both T7.out.aa
  clear T7 o8 hb8 A_7 K_7
  have hbm : Below w8.heap.size w8 (w8.alloc (.cells #[.int .u8 120] 5 (1, 2))) := below_alloc w8 _
  have X_9 := BA.mark1 (A := AA U1 U2) (w := w8) [120] #[.int .u8 120] (1, 2) rfl (by decide) T8.out.aa
  have T9 : Hid (TwoS w (w8.alloc (.cells #[.int .u8 120] 5 (1, 2))) s U1 Z1 M1 r U2 (SeaS.new false) M2) := T8.out.grow hbm
  have A_9 := A_8.below' hbm
  have K_9 := K_8.below' hbm
  have N_9 := N_8.below' hbm
  clear T8 hbm A_8 K_8 N_8
  have kc := fun (w : World) (C : Array Value) (n c : Nat) => Lib.run_convert_bytes_const (P := Tryd.prog) w 22 5 C n c Tryd.underlying22 Tryd.underlying5
  have kd := conv2
  go_wp2_with fail
  clear kc kd
  obtain ⟨x9, hx9⟩ : ∃ x, x = w8.heap.size := ⟨_, rfl⟩
  rw [← hx9] at X_9 ⊢
  clear hx9
  generalize w8.alloc (.cells #[.int .u8 120] 5 (1, 2)) = w9 at *
  have CO := oSOpen w9 T9.out.a.se K_9.1 N_9.1 X_9.1 A_9.1 (by decide) (by omega)
  rw [HO1.out, HZ.out] at CO
  refine CO.mono ?_
  rintro e w10 ⟨pb, mb, cb, rfl, oB, seB, kpB⟩
  have T10 : Hid (TwoS w w10 s U1 Z1 M1 r U2 (SeaS.new false) M2) := T9.out.left seB HK1.out kpB
  have B_10 : BA (AA U1 U2) w10 pb mb cb [97, 98, 99] := BA.mono' oB fun j _ hj => T9.out.aa j hj
  have A_10 := A_9.k1 kpB
  clear CO T9 oB seB kpB K_9 N_9 X_9 A_9
  simp only [Option.isSome_some, if_true]
  go_wp2_with fail
  refine (lKey12 w10 1 (by omega)).mono ?_
  rintro e w11 ⟨g11, rfl, _, o11, hb11⟩
  have T11 : Hid (TwoS w w11 s U1 Z1 M1 r U2 (SeaS.new false) M2) := T10.out.grow hb11
  have A_11 := A_10.below' hb11
  have B_11 := B_10.below' hb11
  have K_11 := o11.both T10.out.aa
  clear T10 o11 hb11 A_10 B_10
  go_wp2_with fail
  refine (oSNonce w11 1 3 (by omega) (by omega)).mono ?_
  rintro e w12 ⟨a12, m12, c12, rfl, o12, hb12⟩
  have l12 := o12.toBs.len
  rw [nonL_length] at l12
  subst l12
  have T12 : Hid (TwoS w w12 s U1 Z1 M1 r U2 (SeaS.new false) M2) := T11.out.grow hb12
  have A_12 := A_11.below' hb12
  have B_12 := B_11.below' hb12
  have K_12 := K_11.below' hb12
  have N_12 := o12.both T11.out.aa
  clear T11 o12 hb12 A_11 B_11 K_11
  have hbm : Below w12.heap.size w12 (w12.alloc (.cells #[.int .u8 120] 5 (1, 2))) := below_alloc w12 _
  have X_13 := BA.mark1 (A := AA U1 U2) (w := w12) [120] #[.int .u8 120] (1, 2) rfl (by decide) T12.out.aa
  have T13 : Hid (TwoS w (w12.alloc (.cells #[.int .u8 120] 5 (1, 2))) s U1 Z1 M1 r U2 (SeaS.new false) M2) := T12.out.grow hbm
  have A_13 := A_12.below' hbm
  have B_13 := B_12.below' hbm
  have K_13 := K_12.below' hbm
  have N_13 := N_12.below' hbm
  clear T12 hbm A_12 B_12 K_12 N_12
  have kc := fun (w : World) (C : Array Value) (n c : Nat) => Lib.run_convert_bytes_const (P := Tryd.prog) w 22 5 C n c Tryd.underlying22 Tryd.underlying5
  have kd := conv2
  go_wp2_with fail
  clear kc kd
  obtain ⟨x13, hx13⟩ : ∃ x, x = w12.heap.size := ⟨_, rfl⟩
  rw [← hx13] at X_13 ⊢
  clear hx13
  generalize w12.alloc (.cells #[.int .u8 120] 5 (1, 2)) = w13 at *
  have CO := oSOpen w13 T13.out.a.se K_13.1 N_13.1 X_13.1 A_13.1 (by decide) (by omega)
  rw [HO1.out, HN.out] at CO
  refine CO.mono ?_
  rintro e w14 ⟨pn, mn, cn, rfl, oB, seB, kpB⟩
  have T14 : Hid (TwoS w w14 s U1 Z1 M1 r U2 (SeaS.new false) M2) := T13.out.left seB HK1.out kpB
  have B_14 := B_13.k1 kpB
  clear CO T13 oB seB kpB K_13 N_13 X_13 A_13 B_13
  simp only [Option.isSome_none, Bool.false_eq_true, if_false]
  go_wp2_with fail
  refine (lKey12 w14 1 (by omega)).mono ?_
  rintro e w15 ⟨g15, rfl, _, o15, hb15⟩
  have T15 : Hid (TwoS w w15 s U1 Z1 M1 r U2 (SeaS.new false) M2) := T14.out.grow hb15
  have B_15 := B_14.below' hb15
  have K_15 := o15.both T14.out.aa
  clear T14 o15 hb15 B_14
  go_wp2_with fail
  refine (oSNonce w15 1 2 (by omega) (by omega)).mono ?_
  rintro e w16 ⟨a16, m16, c16, rfl, o16, hb16⟩
  have l16 := o16.toBs.len
  rw [nonL_length] at l16
  subst l16
  have T16 : Hid (TwoS w w16 s U1 Z1 M1 r U2 (SeaS.new false) M2) := T15.out.grow hb16
  have B_16 := B_15.below' hb16
  have K_16 := K_15.below' hb16
  have N_16 := o16.both T15.out.aa
  clear T15 o16 hb16 B_15 K_15
  have hbm : Below w16.heap.size w16 (w16.alloc (.cells #[.int .u8 97, .int .u8 98, .int .u8 99] 5 (3, 4))) := below_alloc w16 _
  have Y_17 := BA.mark1 (A := AA U1 U2) (w := w16) [97, 98, 99] #[.int .u8 97, .int .u8 98, .int .u8 99] (3, 4) rfl (by decide) T16.out.aa
  have T17 : Hid (TwoS w (w16.alloc (.cells #[.int .u8 97, .int .u8 98, .int .u8 99] 5 (3, 4))) s U1 Z1 M1 r U2 (SeaS.new false) M2) := T16.out.grow hbm
  have B_17 := B_16.below' hbm
  have K_17 := K_16.below' hbm
  have N_17 := N_16.below' hbm
  clear T16 hbm B_16 K_16 N_16
  have kc := fun (w : World) (C : Array Value) (n c : Nat) => Lib.run_convert_bytes_const (P := Tryd.prog) w 22 5 C n c Tryd.underlying22 Tryd.underlying5
  have kd := conv2
  go_wp2_with fail
  clear kc kd
  obtain ⟨x17, hx17⟩ : ∃ x, x = w16.heap.size := ⟨_, rfl⟩
  rw [← hx17] at Y_17 ⊢
  clear hx17
  generalize w16.alloc (.cells #[.int .u8 97, .int .u8 98, .int .u8 99] 5 (3, 4)) = w17 at *
  refine (C2.out w17 U2 r M2 _ _ _ _ _ _ _ _ T17.out.b.se K_17.n2 N_17.n2 (BA.nil _ _) Y_17.n2).mono ?_
  rintro e w18 ⟨az, mz, cz, rfl, oS, seS, kpS⟩
  have lS := oS.toBs.len
  rw [HL2.out] at lS
  subst lS
  have T18 : Hid (TwoS w w18 s U1 Z1 M1 r U2 Z2 M2) := T17.out.right seS HK2.out kpS
  have A_18 := oS.both T17.out.aa
  have B_18 := B_17.k2 kpS
  clear T17 oS seS kpS K_17 N_17 Y_17 C2 B_17
  go_wp2_with fail
  refine (lKey12 w18 1 (by omega)).mono ?_
  rintro e w19 ⟨g19, rfl, _, o19, hb19⟩
  have T19 : Hid (TwoS w w19 s U1 Z1 M1 r U2 Z2 M2) := T18.out.grow hb19
  have B_19 := B_18.below' hb19
  have A_19 := A_18.below' hb19
  have K_19 := o19.both T18.out.aa
  clear T18 o19 hb19 B_18 A_18
  go_wp2_with fail
  refine (oSNonce w19 1 2 (by omega) (by omega)).mono ?_
  rintro e w20 ⟨a20, m20, c20, rfl, o20, hb20⟩
  have l20 := o20.toBs.len
  rw [nonL_length] at l20
  subst l20
  have T20 : Hid (TwoS w w20 s U1 Z1 M1 r U2 Z2 M2) := T19.out.grow hb20
  have B_20 := B_19.below' hb20
  have A_20 := A_19.below' hb20
  have K_20 := K_19.below' hb20
  have N_20 := o20.both T19.out.aa
  clear T19 o20 hb20 B_19 A_19 K_19
  go_wp2_with fail
  have CO := oSOpen w20 T20.out.b.se K_20.1 N_20.1 (BA.nil (fun _ => True) w20).1 A_20.1 (by decide) (by omega)
  rw [HY.out] at CO
  have HK3 : Hid ((Z2.opened (keyB 1) (nonL 1 2) [] A2).Ok) := HK2.out.opened _ _ _ _
  obtain ⟨Z3, hZ3⟩ : ∃ Z, Z = Z2.opened (keyB 1) (nonL 1 2) [] A2 := ⟨_, rfl⟩
  rw [← hZ3] at CO HK3 HF HR
  clear hZ3
  refine CO.mono ?_
  rintro e w21 ⟨pd, md, cd, rfl, oB, seB, kpB⟩
  have T21 : Hid (TwoS w w21 s U1 Z1 M1 r U2 Z3 M2) := T20.out.right seB HK3.out kpB
  have D_21 : BA (AA U1 U2) w21 pd md cd [97, 98, 99] := BA.mono' oB fun j _ hj => T20.out.aa j hj
  have B_21 := B_20.k2 kpB
  clear CO T20 oB seB kpB K_20 N_20 A_20 B_20
  simp only [Option.isSome_some, if_true]
  have sB := B_21.1.str
  have sD := D_21.1.str
  have e3 : sv [97, 98, 99] = .string ⟨#[97, 98, 99]⟩ := rfl
  rw [e3] at sB sD
  clear B_21 D_21 e3
  go_wp2_with fail
  refine (lKey12 w21 1 (by omega)).mono ?_
  rintro e w22 ⟨g22, rfl, _, o22, hb22⟩
  have T22 : Hid (TwoS w w22 s U1 Z1 M1 r U2 Z3 M2) := T21.out.grow hb22
  have K_22 := o22.both T21.out.aa
  clear T21 o22 hb22
  clear sB sD
  have kc := fun (w : World) (C : Array Value) (n c : Nat) => Lib.run_convert_bytes_const (P := Tryd.prog) w 22 5 C n c Tryd.underlying22 Tryd.underlying5
  have hbm : Below w22.heap.size w22 (w22.alloc (.cells #[.int .u8 112] 5 (1, 2))) := below_alloc w22 _
  have B9 : Bs (w22.alloc (.cells #[.int .u8 112] 5 (1, 2))) (some ⟨w22.heap.size, 0, none⟩) 1 1 [112] := (BA.mark1 (A := AA U1 U2) (w := w22) [112] #[.int .u8 112] (1, 2) rfl (by decide) T22.out.aa).1
  have P_23 := Bss.one1 B9
  have hbn : Below w22.heap.size w22 ((w22.alloc (.cells #[.int .u8 112] 5 (1, 2))).alloc (.cells #[.slice (some ⟨w22.heap.size, 0, none⟩) 1 1] 22)) := hbm.trans ((below_alloc _ _).mono hbm.size)
  rw [show (w22.alloc (.cells #[.int .u8 112] 5 (1, 2))).heap.size = w22.heap.size + 1 from by simp] at P_23
  have T23 : Hid (TwoS w ((w22.alloc (.cells #[.int .u8 112] 5 (1, 2))).alloc (.cells #[.slice (some ⟨w22.heap.size, 0, none⟩) 1 1] 22)) s U1 Z1 M1 r U2 Z3 M2) := T22.out.grow hbn
  have K_23 := K_22.below' hbn
  clear T22 K_22 hbm hbn B9
  go_wp2_with fail
  clear kc
  generalize (w22.alloc (.cells #[.int .u8 112] 5 (1, 2))).alloc (.cells #[.slice (some ⟨w22.heap.size, 0, none⟩) 1 1] 22) = v9 at *
  have CD := oSDeriveI v9 T23.out.a.se HK1.out HI1.out.1 K_23.1 P_23 (by omega) (by omega) (by decide) (by rw [HI1.out.2.1, HI1.out.2.2]; decide)
  have HKD : Hid ((Z1.derive (keyB 1) (packL [[112]])).Ok ∧ (Z1.derive (keyB 1) (packL [[112]])).ideal = true ∧ (Z1.derive (keyB 1) (packL [[112]])).book.length = 1) := ⟨HK1.out.derive (by rw [HI1.out.2.1, HI1.out.2.2]; decide) _ _, by rw [SeaS.derive_ideal]; exact HI1.out.1, by rw [SeaS.derive_book]; exact HI1.out.2.1⟩
  refine CD.mono ?_
  rintro e wD ⟨aD, mD, cD, rfl, oD, seD, kpD⟩
  have lD := oD.toBs.len
  rw [noiseL_length] at lD
  subst lD
  have TD : Hid (TwoS w wD s U1 (Z1.derive (keyB 1) (packL [[112]])) M1 r U2 Z3 M2) := T23.out.left seD HKD.out.1 kpD
  clear CD oD seD kpD T23 K_23 P_23
  go_wp2_with fail
  have CI := oSIdeal wD TD.out.a.se
  rw [HKD.out.2.1] at CI
  refine CI.mono ?_
  rintro e w8 ⟨rfl, rfl⟩
  clear CI
  go_wp2_with fail
  have CR := oSReused wD TD.out.b.se
  rw [HR.out] at CR
  refine CR.mono ?_
  rintro e w8 ⟨rfl, rfl⟩
  clear CR
  go_wp2_with fail
  have CG := oSForged wD TD.out.b.se
  rw [HF.out] at CG
  refine CG.mono ?_
  rintro e w8 ⟨rfl, rfl⟩
  clear CG
  go_wp2_with fail
  have CS := oSSealed wD TD.out.a.se
  rw [HKD.out.2.2] at CS
  refine CS.mono ?_
  rintro e w8 ⟨rfl, rfl⟩
  clear CS
  have FIN := TD.out.a.bel
  go_wp2_with fail
  go_ret
  exact ⟨rfl, FIN⟩

end Go.Proofs.YtjpejheipkfanaaDoor

/-
  Slices of rows of bytes that a call made itself: literals of one row, storing such a slice into a field, how they outlast what is written. No condition; no statement of the seat is proved here.
-/
namespace Go.Proofs.YtjpejheipkfanaaDoor
open Go.RowKit

theorem infoBy : (Tryd.prog.info? 22).map (fun i => (i.zero, i.size, i.bytes)) = some (some (.slice none 0 0), 1, 24) := by kernel_rfl
theorem neB5 : 22 ≠ 5 := by decide
/-- A literal of one slice, the one that may come up. -/
theorem opBS1 {ops : Array Oper} {Q : Exit → Act → World → Prop} {i : Nat} {oi : Oper} (d : Option Tmp) (hi : ops[i]? = some oi) (hd : oi.dst = d) (hg : oi.guard = none) (x : Operand) (ho : oi.op = .buildSlice 40 1 #[(0, x)]) {K : Act → World → Prop} {a : Act} {w : World} (s : Option Addr) (n c : Nat) (hx : a.eval x = .slice s n c)
    (k : K (a.put d (.slice (some ⟨w.heap.size, 0, none⟩) 1 1)) (w.alloc (.cells #[.slice s n c] 22))) : wpOp Tryd.prog ops Q i K a w := by
  subst hd
  have hK : Hid _ := k
  clear k
  unfold wpOp
  simp only [hi]
  rw [if_pos (by simp [Region.wanted, hg])]
  left
  unfold Oper.wp execOp
  simp only [ho, List.map_toArray, List.map_cons, List.map_nil, hx]
  go_simp
  exact hK.out
/-- A slice of slices stored into a field, the one that may come up. -/
theorem opStS {ops : Array Oper} {Q : Exit → Act → World → Prop} {i : Nat} {oi : Oper} (hi : ops[i]? = some oi) (hd : oi.dst = none) (hg : oi.guard = none) (x y : Operand) (ho : oi.op = .store 40 x y) {K : Act → World → Prop} {a : Act} {w : World} (g o : Nat) (hx : a.eval x = .pointer (some ⟨g, o, none⟩)) (s : Option Addr) (n c : Nat) (hy : a.eval y = .slice s n c) (vs : List Value) (t : TypeId) (hb : Blk w g vs t) (ho2 : o < vs.length)
    (k : K a (w.setCell ⟨g, o, none⟩ (.slice s n c))) : wpOp Tryd.prog ops Q i K a w := by
  have hc := hb.cell o
  rw [List.getElem?_eq_getElem ho2] at hc
  have hf := hb.free o
  have hl := hb.lt
  have hK : Hid _ := k
  clear k
  unfold wpOp
  simp only [hi]
  rw [if_pos (by simp [Region.wanted, hg])]
  left
  unfold Oper.wp execOp
  simp only [ho, hx, hy]
  go_simp
  exact hK.out
theorem Blk.not5' {w : World} {g : Nat} {vs : List Value} {t : TypeId} (h : Blk w g vs t) (ht : t ≠ 5) : ∀ cur f, w.heap[g]? ≠ some (.cells cur 5 f) := fun cur f hh => by
  rw [show w.heap[g]? = _ from h] at hh
  simp only [Option.some.injEq, Obj.cells.injEq] at hh
  exact ht hh.2.1
theorem but_cells' (g : Nat) : ∀ (us : List Value) (w : World) (o : Nat), w.grownBy (w.setCells g o us) (some g)
  | [], _, _ => World.grownBy.refl _ _
  | u :: us, w, o => but_trans (but_set w g o u) (but_cells' g us _ (o + 1))
theorem OwB.grown {A : Nat → Prop} {e : TypeId} {w w' : World} {base r : Nat} {v : Value} {l : List (List UInt8)} (h : OwS (elB A) 1 e w base v l) (g : w.grownBy w' (some r)) (hr : r < base) (h5 : ∀ cur f, w.heap[r]? ≠ some (.cells cur 5 f)) : OwS (elB A) 1 e w' base v l :=
  h.keep (elB.grown g (fun j cur f hj => by obtain rfl := Option.some.inj hj; exact h5 cur f)) (fun j hj => g.block j (h.lt j hj).2 (fun e => by have := (h.lt j hj).1; have := Option.some.inj e; omega))
theorem OwB.below {A : Nat → Prop} {e : TypeId} {w w' : World} {base : Nat} {v : Value} {l : List (List UInt8)} (h : OwS (elB A) 1 e w base v l) (g : Below w.heap.size w w') : OwS (elB A) 1 e w' base v l :=
  h.keep (elB.keep fun j hj _ => g.block j hj) (fun j hj => g.block j (h.lt j hj).2)

end Go.Proofs.YtjpejheipkfanaaDoor

/-
  The contract of Short. No condition but that lengths fit.
-/
namespace Go.Proofs.YtjpejheipkfanaaDoor
open Go.RowKit

set_option maxHeartbeats 400000 in
theorem lShort (w : World) {a : Option Addr} {n c : Nat} {ls : List (List UInt8)} (ha : Bss w a n c ls) :
    Calls Tryd.prog 14 #[.slice a n c] w fun e w' => ∃ r : Int, e = .returned (.int .i64 r) ∧ w = w' ∧ (r = 1 ∨ r = 0 ∧ n ≤ 40 ∧ tot ls ≤ 6000) := by
  have h1 := ha.max
  by_cases h40 : n ≤ 40
  · by_cases h0 : n = 0
    · subst h0
      have e : ls = [] := List.length_eq_zero_iff.1 ha.len
      subst e
      clear ha
      go_enter Tryd.func14, Tryd.ntmps14
      go_wp2
      refine wp_loop_rounds 1 ?_; rw [rounds_succ]; go_wp2
      go_ret
      exact ⟨0, rfl, rfl, Or.inr ⟨rfl, by omega, by simp [tot]⟩⟩
    · obtain ⟨x, o, rfl, hx, hc⟩ := ha.at (by omega)
      have H : Hid (ls.length = n) := ha.len
      clear ha
      go_enter Tryd.func14, Tryd.ntmps14
      go_wp2
      go_loop [3, 4] (fun t i => ∃ k : Nat, k ≤ n ∧ i = .int .i64 k ∧ t = .int .i64 (tot (ls.take k) : Nat) ∧ tot (ls.take k) ≤ 6000) (fun _ i => n - (intOf i).toNat)
      case atStart => exact ⟨0, Nat.zero_le _, rfl, rfl, by simp [tot]⟩
      case round =>
        obtain ⟨k, hk, rfl, rfl, h6⟩ := hrel
        by_cases hlt : k < n
        · obtain ⟨p, m, q, c1, hb⟩ := hc k hlt
          have b1 := tot_step (by rw [H.out]; exact hlt) hb.len
          have B1 : Hid ((tot (ls.take k) : Int) + (m : Int) = (tot (ls.take (k + 1)) : Nat)) := b1
          clear hc b1 hb
          by_cases h3 : m ≤ 3000
          · by_cases h7 : (tot (ls.take k) : Int) + (m : Int) ≤ 6000
            · go_wp2
              go_round
              case rel => exact ⟨k + 1, by omega, by go_num, by rw [B1.out], by have := B1.out; omega⟩
              case measure => simp [intOf]; omega
            · go_wp2
              go_ret
              exact ⟨1, rfl, rfl, Or.inl rfl⟩
          · go_wp2
            go_ret
            exact ⟨1, rfl, rfl, Or.inl rfl⟩
        · go_wp2
          go_ret
          rw [List.take_of_length_le (by rw [H.out]; omega)] at h6
          exact ⟨0, rfl, rfl, by omega⟩
  · clear ha
    go_enter Tryd.func14, Tryd.ntmps14
    go_wp2
    go_ret
    exact ⟨1, rfl, rfl, Or.inl rfl⟩
end Go.Proofs.YtjpejheipkfanaaDoor
