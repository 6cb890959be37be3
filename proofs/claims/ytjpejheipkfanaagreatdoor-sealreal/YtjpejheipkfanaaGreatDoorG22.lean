/-
  4 texts in one. No statement of the seat is proved here.
-/
import Derived.Test.YtjpejheipkfanaaGreatDoorG21

/-
  How the arguments of layer 12's statements are opened (acts of seven cells); keys of numbers; how much is waited for; how a sealer outlasts what the statements do around it ('StaS'). No condition.
-/
namespace Go.Proofs.YtjpejheipkfanaaGreatDoor
open Go.RowKit Go.ChangeShapes Go.WideShapes Go.ChangeAt
set_option linter.unusedVariables false

/-- An act. -/
structure Op12 where
  kind : Int
  key : Nat
  nonce : Nat
  beside : List UInt8
  text : List UInt8
  turn : Nat
  short : Bool
def ok12 (o : Op12) (p : Option Addr) (m q : Nat) (p' : Option Addr) (m' q' : Nat) : List Value := [.int .i64 o.kind, .int .u8 (o.key : Int), .int .u8 (o.nonce : Int), .slice p m q, .slice p' m' q', .int .u16 (o.turn : Int), .bool o.short]
theorem ok12_one (x : Op12) (p : Option Addr) (m q : Nat) (p' : Option Addr) (m' q' : Nat) : ∀ v ∈ ok12 x p m q p' m' q', v.oneCell' = true := by
  intro v hv
  simp only [ok12, List.mem_cons, List.not_mem_nil, or_false] at hv
  rcases hv with rfl | rfl | rfl | rfl | rfl | rfl | rfl <;> rfl
def Op12.fit (o : Op12) : Prop := i64 o.kind ∧ o.key ≤ 255 ∧ o.nonce ≤ 255 ∧ o.turn ≤ 65535
def elO12 (A : Nat → Prop) (w : World) (o : Op12) (vs : List Value) : Prop := ∃ p m q p' m' q', vs = ok12 o p m q p' m' q' ∧ BA A w p m q o.beside ∧ BA A w p' m' q' o.text ∧ o.fit
theorem op12_of_trod {H : Type} {enc : TypeId × Value → H} {W : World} {base : Nat} {held : Bool} {fuel : Nat} {cs : List Value} {x : DataW H × List MemPlace} {A : Nat → Prop} (hA : ∀ j, j < W.heap.size → A j)
    (h : DataW.trod enc Tryz.prog W base (fun _ => true) held fuel 37 cs = some x) : ∃ o, Row (elO12 A) 7 W o cs := by
  obtain ⟨xs, n, rfl, rfl, hl, hx, hf⟩ := DataW.trod_struct Tryz.underlying37 h
  have c3 : Tryz.prog.cellsOf 3 = 1 := by kernel_rfl
  have c4 : Tryz.prog.cellsOf 4 = 1 := by kernel_rfl
  have c5 : Tryz.prog.cellsOf 5 = 1 := by kernel_rfl
  have c6 : Tryz.prog.cellsOf 32 = 1 := by kernel_rfl
  have c7 : Tryz.prog.cellsOf 35 = 1 := by kernel_rfl
  have cP : Tryz.prog.cellsOf 37 = 7 := by kernel_rfl
  rw [cP] at hl
  obtain ⟨v0, cs0, rfl, hl0⟩ := len_cons hl
  obtain ⟨v1, cs1, rfl, hl1⟩ := len_cons hl0
  obtain ⟨v2, cs2, rfl, hl2⟩ := len_cons hl1
  obtain ⟨v3, cs3, rfl, hl3⟩ := len_cons hl2
  obtain ⟨v4, cs4, rfl, hl4⟩ := len_cons hl3
  obtain ⟨v5, cs5, rfl, hl5⟩ := len_cons hl4
  obtain ⟨v6, cs6, rfl, hl6⟩ := len_cons hl5
  obtain rfl := len_zero hl6
  have f0 : DataW.trod enc Tryz.prog W base (fun _ => true) held n 3 (List.take (Tryz.prog.cellsOf 3) (List.drop 0 [v0, v1, v2, v3, v4, v5, v6])) = xs[0]? := hf 0 _ rfl
  have f1 : DataW.trod enc Tryz.prog W base (fun _ => true) held n 5 (List.take (Tryz.prog.cellsOf 5) (List.drop 1 [v0, v1, v2, v3, v4, v5, v6])) = xs[1]? := hf 1 _ rfl
  have f2 : DataW.trod enc Tryz.prog W base (fun _ => true) held n 5 (List.take (Tryz.prog.cellsOf 5) (List.drop 2 [v0, v1, v2, v3, v4, v5, v6])) = xs[2]? := hf 2 _ rfl
  have f3 : DataW.trod enc Tryz.prog W base (fun _ => true) held n 32 (List.take (Tryz.prog.cellsOf 32) (List.drop 3 [v0, v1, v2, v3, v4, v5, v6])) = xs[3]? := hf 3 _ rfl
  have f4 : DataW.trod enc Tryz.prog W base (fun _ => true) held n 32 (List.take (Tryz.prog.cellsOf 32) (List.drop 4 [v0, v1, v2, v3, v4, v5, v6])) = xs[4]? := hf 4 _ rfl
  have f5 : DataW.trod enc Tryz.prog W base (fun _ => true) held n 35 (List.take (Tryz.prog.cellsOf 35) (List.drop 5 [v0, v1, v2, v3, v4, v5, v6])) = xs[5]? := hf 5 _ rfl
  have f6 : DataW.trod enc Tryz.prog W base (fun _ => true) held n 4 (List.take (Tryz.prog.cellsOf 4) (List.drop 6 [v0, v1, v2, v3, v4, v5, v6])) = xs[6]? := hf 6 _ rfl
  have hx7 : xs.length = 7 := hx
  rw [c3] at f0
  rw [c5] at f1 f2
  rw [c6] at f3 f4
  rw [c7] at f5
  rw [c4] at f6
  rw [List.getElem?_eq_getElem (by omega)] at f0 f1 f2 f3 f4 f5 f6
  obtain ⟨k, e0, _, w0⟩ := DataW.trod_int Tryz.underlying3 f0
  obtain ⟨y, e1, _, w1⟩ := DataW.trod_int Tryz.underlying5 f1
  obtain ⟨z, e2, _, w2⟩ := DataW.trod_int Tryz.underlying5 f2
  obtain ⟨u, e5, _, w5⟩ := DataW.trod_int Tryz.underlying35 f5
  obtain ⟨d, e6, _⟩ := DataW.trod_bool Tryz.underlying4 f6
  simp only [List.drop_succ_cons, List.drop_zero, List.take_succ_cons, List.take_zero] at f3 f4
  obtain ⟨a3, m3, q3, rfl⟩ := slice_of_trod Tryz.underlying32 f3
  obtain ⟨l3, hb3⟩ := BA.of_trod hA f3
  obtain ⟨a4, m4, q4, rfl⟩ := slice_of_trod Tryz.underlying32 f4
  obtain ⟨l4, hb4⟩ := BA.of_trod hA f4
  simp at e0 e1 e2 e5 e6
  have b1 := bounds_u8 w1
  have b2 := bounds_u8 w2
  have b5 := bounds_u16 w5
  obtain ⟨y, rfl⟩ : ∃ y' : Nat, y = y' := ⟨y.toNat, by omega⟩
  obtain ⟨z, rfl⟩ : ∃ z' : Nat, z = z' := ⟨z.toNat, by omega⟩
  obtain ⟨u, rfl⟩ : ∃ u' : Nat, u = u' := ⟨u.toNat, by omega⟩
  subst e0 e1 e2 e5 e6
  refine ⟨⟨k, y, z, l3, l4, u, d⟩, rfl, ?_, a3, m3, q3, a4, m4, q4, rfl, hb3, hb4, bounds_i64 w0, ?_, ?_, ?_⟩
  · exact ok12_one ⟨k, y, z, l3, l4, u, d⟩ a3 m3 q3 a4 m4 q4
  · show y ≤ 255
    omega
  · show z ≤ 255
    omega
  · show u ≤ 65535
    omega
/-- Acts in memory of A. -/
def ActsA (A : Nat → Prop) (w : World) (a : Option Addr) (n c : Nat) (l : List Op12) : Prop := Sl (elO12 A) 7 A w a n c l
/-- Acts that were handed in. -/
def Acts12 (w : World) (a : Option Addr) (n c : Nat) (l : List Op12) : Prop := ActsA (fun j => j < w.heap.size) w a n c l
theorem acts12_of_trod {H : Type} {enc : TypeId × Value → H} {W : World} {base : Nat} {held : Bool} {fuel : Nat} {a : Option Addr} {n c : Nat} {x : DataW H × List MemPlace} (h : DataW.trod enc Tryz.prog W base (fun _ => true) held fuel 22 [.slice a n c] = some x) : ∃ l, Acts12 W a n c l := by
  rcases Deep.open_slice Tryz.underlying22 h with ⟨hcs, _⟩ | ⟨y, len, cap, m, n', D, Pl, hcs, _, hl, hm, hmm, _, hrow⟩
  · simp at hcs
    obtain ⟨rfl, rfl, rfl⟩ := hcs
    exact ⟨[], Sl.nil _ _ _ _⟩
  · simp at hcs
    obtain ⟨rfl, rfl, rfl⟩ := hcs
    have cP : Tryz.prog.cellsOf 37 = 7 := by kernel_rfl
    rw [cP] at hrow
    simp at hmm
    subst hmm
    refine Sl.of_rows (⟨0, 0, 0, [], [], 0, false⟩ : Op12) (base := base) (by omega) hl hm (fun _ h => h) fun i hi => ?_
    obtain ⟨cs', h1, h2⟩ := hrow i (by omega)
    exact ⟨cs', h1, op12_of_trod (fun _ h => h) h2⟩
/-- The i-th act. -/
theorem ActsA.at {A : Nat → Prop} {w0 wr : World} {a : Option Addr} {n c : Nat} {l : List Op12} (h : ActsA A w0 a n c l) (hb : Below w0.heap.size w0 wr) {s : Nat} {x : Op12} (hx : l[s]? = some x) :
    ∃ b o p m q p' m' q', a = some ⟨b, o, none⟩ ∧ b < w0.heap.size ∧ wr.rangeAt b (o + s * 7) (ok12 x p m q p' m' q') ∧ BA A w0 p m q x.beside ∧ BA A w0 p' m' q' x.text ∧ x.fit := by
  obtain ⟨b, o, vs, ha, hlt, hrg, hl, p, m, q, p', m', q', rfl, hB, hB', hf⟩ := Sl.at h hx
  refine ⟨b, o, p, m, q, p', m', q', ha, hlt, fun j v hj => ?_, hB, hB', hf⟩
  rw [World.cell?_of_block (w := w0) (hb.block b hlt)]
  exact hrg j v hj
set_option maxRecDepth 100000 in
/-- A struct that was handed in. -/
theorem okWide_op12 {W : World} {b0 : Nat} {v : Value} (h : Value.okWide Tryz.prog W .any b0 37 v) : ∃ xs : Array Value, v = .agg xs := by
  simp only [Value.okWide, Tryz.underlying37] at h
  obtain ⟨cs, h1, _⟩ := h
  exact ⟨cs, h1⟩
/-- The struct o as cells, what it leads to lies in w. -/
def OpArg (w : World) (xs : Array Value) (o : Op12) : Prop := ∃ p m q p' m' q', xs = (ok12 o p m q p' m' q').toArray ∧ BA (fun j => j < w.heap.size) w p m q o.beside ∧ BA (fun j => j < w.heap.size) w p' m' q' o.text ∧ o.fit
theorem oparg_of_trod {H : Type} {enc : TypeId × Value → H} {W : World} {base : Nat} {held : Bool} {fuel : Nat} {xs : Array Value} {x : DataW H × List MemPlace} (h : DataW.trod enc Tryz.prog W base (fun _ => true) held fuel 37 (Value.agg xs).cells.toList = some x) : ∃ o, OpArg W xs o := by
  obtain ⟨o, _, _, p, m, q, p', m', q', e, h1, h2, h3⟩ := op12_of_trod (A := fun j => j < W.heap.size) (fun _ h => h) h
  refine ⟨o, p, m, q, p', m', q', ?_, h1, h2, h3⟩
  rw [← e]
  rfl
/-- What light answers. -/
def Lights12 (w : World) (n : Nat) (most : Int) (l : List Op12) (e : Ending) (w' : World) : Prop := ∃ v, e = .returned (.bool v) ∧ (v = true → (n : Int) ≤ most ∧ ∀ o ∈ l, o.beside.length ≤ 60 ∧ o.text.length ≤ 60) ∧ w = w'

theorem light_step {l : List Op12} {k : Nat} {x : Op12} (HI : Hid (∀ o ∈ l.take k, o.beside.length ≤ 60 ∧ o.text.length ≤ 60)) (hx : l[k]? = some x) (h1 : x.beside.length ≤ 60) (h2 : x.text.length ≤ 60) : Hid (∀ o ∈ l.take (k + 1), o.beside.length ≤ 60 ∧ o.text.length ≤ 60) := fun o' ho => by
  rw [List.take_add_one, hx] at ho
  rcases List.mem_append.1 ho with ho | ho
  · exact HI.out o' ho
  · simp at ho
    subst ho
    exact ⟨h1, h2⟩
set_option maxRecDepth 100000 in
set_option maxHeartbeats 2000000 in
theorem lLight12 (w : World) {A : Nat → Prop} {a : Option Addr} {n c : Nat} {l : List Op12} (h : ActsA A w a n c l) (most : Int) (h0 : 0 ≤ most) (h1 : most ≤ 1000) :
    Calls Tryz.prog 5 #[.slice a n c, .int .i64 most] w (Lights12 w n most l) := by
  have HL : Hid (l.length = n) := Sl.len h
  have hmax := Sl.cap h
  by_cases hn : (n : Int) ≤ most
  · have j0 : ¬ most < (n : Int) := by omega
    go_enter Tryz.func5, Tryz.ntmps5
    go_wp2_with fail
    go_loopw [5] (fun i wr => ∃ k : Nat, k ≤ n ∧ i = .int .i64 (k : Int) ∧ Hid (∀ o ∈ l.take k, o.beside.length ≤ 60 ∧ o.text.length ≤ 60) ∧ w = wr) (fun i _ => n - (intOf i).toNat)
    case atStart => exact ⟨0, Nat.zero_le _, rfl, fun o ho => by simp at ho, rfl⟩
    case round =>
      obtain ⟨k, hk, rfl, HI, rfl⟩ := hrel
      by_cases hlt : k < n
      · have i0 : (k : Int) < (n : Int) := by omega
        obtain ⟨x, hx⟩ : ∃ x, l[k]? = some x := ⟨_, List.getElem?_eq_getElem (by rw [HL.out]; exact hlt)⟩
        obtain ⟨b, o, p, m, q, p', m', q', rfl, hlb, hrg, hB, hB', _⟩ := h.at (Below.refl _ w) hx
        have c3 : w.cell? ⟨b, o + k * 7 + 3, none⟩ = some (.slice p m q) := hrg 3 _ rfl
        have c4 : w.cell? ⟨b, o + k * 7 + 4, none⟩ = some (.slice p' m' q') := hrg 4 _ rfl
        have hbl := hB.1.len
        have hbl' := hB'.1.len
        by_cases h2 : m ≤ 60
        · have i2 : ¬ (60 : Int) < (m : Int) := by omega
          by_cases h3 : m' ≤ 60
          · have i3 : ¬ (60 : Int) < (m' : Int) := by omega
            have HN : Hid (∀ o ∈ l.take (k + 1), o.beside.length ≤ 60 ∧ o.text.length ≤ 60) := light_step HI hx (by omega) (by omega)
            clear hrg hB hB' hx HI hbl hbl'
            go_wp2_with fail
            go_roundw
            case rel => exact ⟨k + 1, by omega, by go_num, HN, (by first | rfl | trivial)⟩
            case measure => simp [intOf]; omega
          · have i3 : (60 : Int) < (m' : Int) := by omega
            clear hrg hB hB' hx HI hbl hbl'
            go_wp2_with fail
            go_ret
            exact ⟨_, rfl, fun hv => by simp at hv, rfl⟩
        · have i2 : (60 : Int) < (m : Int) := by omega
          clear hrg hB hB' hx HI hbl hbl'
          go_wp2_with fail
          go_ret
          exact ⟨_, rfl, fun hv => by simp at hv, rfl⟩
      · have i0 : ¬ (k : Int) < (n : Int) := by omega
        go_wp2_with fail
        go_ret
        exact ⟨_, rfl, fun _ => ⟨hn, fun o ho => HI.out o (by rw [List.take_of_length_le (by rw [HL.out]; omega)]; exact ho)⟩, rfl⟩
  · have j0 : most < (n : Int) := by omega
    go_enter Tryz.func5, Tryz.ntmps5
    go_wp2_with fail
    go_ret
    exact ⟨_, rfl, fun hv => by simp at hv, rfl⟩

/-- The key of a number. -/
def keyB (n : Nat) : List UInt8 := UInt8.ofNat (n % 4) :: List.replicate 31 0
theorem keyB_length (n : Nat) : (keyB n).length = 32 := by simp [keyB]
theorem keyB_inj (a b : Nat) : keyB a = keyB b ↔ a % 4 = b % 4 := by
  constructor
  · intro h
    simp only [keyB, List.cons.injEq, and_true] at h
    have := congrArg UInt8.toNat h
    simp only [UInt8.toNat_ofNat'] at this
    omega
  · intro h
    unfold keyB
    rw [h]
def KeysL (w : World) (n : Nat) (e : Ending) (w' : World) : Prop := ∃ g, e = .returned (.slice (some ⟨g, 0, none⟩) 32 32) ∧ w.heap.size ≤ g ∧ Own w' w.heap.size (.slice (some ⟨g, 0, none⟩) 32 32) (keyB n) ∧ Below w.heap.size w w'
theorem keyB_set (n : Nat) : (List.replicate 32 (0 : UInt8)).set 0 (UInt8.ofNat (n % 4)) = keyB n := rfl
theorem key_rem (n : Nat) : ((UInt8.ofNat (n % 4)).toNat : Int) = (n : Int) % 4 := by
  rw [UInt8.toNat_ofNat']
  omega
set_option maxHeartbeats 1000000 in
theorem lKey12 (w : World) (n : Nat) (hn : n ≤ 255) : Calls Tryz.prog 13 #[.int .u8 (n : Int)] w (KeysL w n) := by
  have h1 : (n : Int).tmod 4 = (n : Int) % 4 := by rw [Int.tmod_eq_emod_of_nonneg (by omega)]
  go_enter Tryz.func13, Tryz.ntmps13
  go_wp2_with (at_make; refine wpList_mkn _ rfl _ _ rfl w.heap.size 32 _ rfl rfl rfl (by omega) (Nat.le_refl _) ?_; intro g w1 hg hgl hown hbel
               have hlen : (List.replicate 32 (0 : UInt8)).length = 32 := by simp
               obtain ⟨v0, hcell⟩ := hown.cell hlen 0 (by omega)
               have hfr := hown.free hlen 0)
  go_ret
  have hlen : (List.replicate 32 (0 : UInt8)).length = 32 := by simp
  have ho2 := hown.set hlen 0 (UInt8.ofNat (n % 4))
  rw [keyB_set] at ho2
  have hb2 := hbel.setCell (p := ⟨g, 0, none⟩) hg (.int .u8 ((UInt8.ofNat (n % 4)).toNat : Int))
  rw [key_rem] at ho2 hb2
  exact ⟨g, rfl, hg, ho2, hb2⟩

end Go.Proofs.YtjpejheipkfanaaGreatDoor

/-
  How sealers outlast what layer 12's statements do around them ('StaS', 'TwoS'); plain laws: what was sealed opens as it was. No condition.
-/
namespace Go.Proofs.YtjpejheipkfanaaGreatDoor
open Go.RowKit
set_option linter.unusedVariables false

/-- The sealer S in memory that is all newer than w0. -/
structure StaS (w0 w : World) (r : Nat) (U : Nat → Prop) (S : SeaS) (M : SeaM) : Prop where
  se : Se U w r S M
  ok : S.Ok
  base : ∀ j, U j → w0.heap.size ≤ j
  bel : Below w0.heap.size w0 w
theorem StaS.grow {w0 w w' : World} {r : Nat} {U : Nat → Prop} {S : SeaS} {M : SeaM} (h : StaS w0 w r U S M) (k : Below w.heap.size w w') : StaS w0 w' r U S M := ⟨h.se.grow k, h.ok, h.base, h.bel.trans (k.mono h.bel.size)⟩
theorem StaS.after {w0 w w' : World} {r : Nat} {U : Nat → Prop} {S S' : SeaS} {M : SeaM} (h : StaS w0 w r U S M) (hs : Se U w' r S' M) (ho : S'.Ok) (k : Kp U w w') : StaS w0 w' r U S' M :=
  ⟨hs, ho, h.base, below_kp h.bel k h.bel.size fun j hj hU => by have := h.base j hU; omega⟩
theorem StaS.kp {w0 w w' : World} {r : Nat} {U F : Nat → Prop} {S : SeaS} {M : SeaM} (h : StaS w0 w r U S M) (k : Kp F w w') (hF : ∀ j, U j → ¬ F j) (h0 : ∀ j, F j → w0.heap.size ≤ j) : StaS w0 w' r U S M :=
  ⟨h.se.kp k hF, h.ok, h.base, below_kp h.bel k h.bel.size fun j hj hU => by have := h0 j hU; omega⟩
theorem StaS.first {w0 w w' : World} {r : Nat} {U : Nat → Prop} {i : Bool} {M : SeaM} (hb : Below w0.heap.size w0 w) (hs : Se U w' r (SeaS.new i) M) (hU : ∀ j, U j → w.heap.size ≤ j) (hb' : Below w.heap.size w w') : StaS w0 w' r U (SeaS.new i) M :=
  ⟨hs, SeaS.Ok.new i, fun j hj => Nat.le_trans hb.size (hU j hj), hb.trans (hb'.mono hb.size)⟩
/-- Bytes that were handed in. -/
theorem StaS.arg {w0 w : World} {r : Nat} {U : Nat → Prop} {S : SeaS} {M : SeaM} (h : StaS w0 w r U S M) {p : Option Addr} {m q : Nat} {b : List UInt8} (hb : Bs w0 p m q b) : BA (fun j => ¬ U j) w p m q b :=
  ⟨hb.below h.bel (Nat.le_refl _), fun hm => by
    obtain ⟨x, o, ha, hlt, _⟩ := hb.at hm
    exact ⟨_, ha, fun hU => by have := h.base _ hU; dsimp only at this hlt; omega, Nat.lt_of_lt_of_le hlt h.bel.size⟩⟩
theorem BA.mono' {A A' : Nat → Prop} {w : World} {p : Option Addr} {m q : Nat} {b : List UInt8} (h : BA A w p m q b) (hA : ∀ j, j < w.heap.size → A j → A' j) : BA A' w p m q b :=
  ⟨h.1, fun hm => by
    obtain ⟨x, hp, ha, hlt⟩ := h.2 hm
    exact ⟨x, hp, hA _ hlt ha, hlt⟩⟩
/-- Bytes that a call made itself, behind the sealer. -/
theorem Own.no {U : Nat → Prop} {w : World} {base : Nat} {p : Option Addr} {m q : Nat} {l : List UInt8} (h : Own w base (.slice p m q) l) (hU : ∀ j, U j → j < base) : BA (fun j => ¬ U j) w p m q l := h.ba.mono' fun j _ hj hu => by have := hU j hu; omega
theorem BA.no {U : Nat → Prop} {w : World} {base : Nat} {p : Option Addr} {m q : Nat} {l : List UInt8} (h : BA (fun j => base ≤ j) w p m q l) (hU : ∀ j, U j → j < base) : BA (fun j => ¬ U j) w p m q l := h.mono' fun j _ hj hu => by have := hU j hu; omega
/-- Bytes of a text, laid for the call. -/
theorem BA.mark {U : Nat → Prop} {w : World} (l : List UInt8) (arr : Array Value) (f : Nat × Nat) (h : arr.toList = cs l) (hm : l.length ≤ 1000000) (hU : ∀ j, U j → j < w.heap.size) : BA (fun j => ¬ U j) (w.alloc (.cells arr 5 f)) (some ⟨w.heap.size, 0, none⟩) l.length l.length l :=
  ⟨Bs.marked w l arr f h hm, fun _ => ⟨_, rfl, fun hu => by have := hU _ hu; dsimp only at this; omega, by simp⟩⟩
/-- Two sealers, apart. -/
structure TwoS (w0 w : World) (r1 : Nat) (U1 : Nat → Prop) (S1 : SeaS) (M1 : SeaM) (r2 : Nat) (U2 : Nat → Prop) (S2 : SeaS) (M2 : SeaM) : Prop where
  a : StaS w0 w r1 U1 S1 M1
  b : StaS w0 w r2 U2 S2 M2
  ap : ∀ j, U1 j → ¬ U2 j
theorem TwoS.grow {w0 w w' : World} {r1 r2 : Nat} {U1 U2 : Nat → Prop} {S1 S2 : SeaS} {M1 M2 : SeaM} (h : TwoS w0 w r1 U1 S1 M1 r2 U2 S2 M2) (k : Below w.heap.size w w') : TwoS w0 w' r1 U1 S1 M1 r2 U2 S2 M2 := ⟨h.a.grow k, h.b.grow k, h.ap⟩
theorem TwoS.left {w0 w w' : World} {r1 r2 : Nat} {U1 U2 : Nat → Prop} {S1 S1' S2 : SeaS} {M1 M2 : SeaM} (h : TwoS w0 w r1 U1 S1 M1 r2 U2 S2 M2) (hs : Se U1 w' r1 S1' M1) (ho : S1'.Ok) (k : Kp U1 w w') : TwoS w0 w' r1 U1 S1' M1 r2 U2 S2 M2 :=
  ⟨h.a.after hs ho k, h.b.kp k (fun j hj hj' => h.ap j hj' hj) h.a.base, h.ap⟩
theorem TwoS.right {w0 w w' : World} {r1 r2 : Nat} {U1 U2 : Nat → Prop} {S1 S2 S2' : SeaS} {M1 M2 : SeaM} (h : TwoS w0 w r1 U1 S1 M1 r2 U2 S2 M2) (hs : Se U2 w' r2 S2' M2) (ho : S2'.Ok) (k : Kp U2 w w') : TwoS w0 w' r1 U1 S1 M1 r2 U2 S2' M2 :=
  ⟨h.a.kp k h.ap h.b.base, h.b.after hs ho k, h.ap⟩
theorem TwoS.first {w0 w1 w2 : World} {r1 r2 : Nat} {U1 U2 : Nat → Prop} {S1 : SeaS} {i : Bool} {M1 M2 : SeaM} (h1 : StaS w0 w1 r1 U1 S1 M1) (hs : Se U2 w2 r2 (SeaS.new i) M2) (hU : ∀ j, U2 j → w1.heap.size ≤ j) (hb : Below w1.heap.size w1 w2) : TwoS w0 w2 r1 U1 S1 M1 r2 U2 (SeaS.new i) M2 :=
  ⟨h1.grow hb, StaS.first h1.bel hs hU hb, fun j h h' => by have := h1.se.lt j h; have := hU j h'; omega⟩

/-- What was sealed stands in the book. -/
theorem SeaS.known_own (S : SeaS) (k n b t : List UInt8) : ((S.seal k n b t).known k n b (S.made k n b t)).isSome = true := by
  rw [S.seal_add]
  show ((({ S with count := S.next } : SeaS).add k n b t (S.made k n b t)).known k n b (S.made k n b t)).isSome = true
  rw [SeaS.known_add]
  cases SeaS.known { S with count := S.next } k n b (S.made k n b t) with
  | some t0 => rfl
  | none => simp
theorem SeaS.known_seal (S : SeaS) (k n b t k' n' b' s' : List UInt8) : (S.seal k n b t).known k' n' b' s' = match S.known k' n' b' s' with | some e => some e | none => if k = k' ∧ n = n' ∧ b = b' ∧ S.made k n b t = s' then some t else none := by
  rw [S.seal_add]
  show (({ S with count := S.next } : SeaS).add k n b t (S.made k n b t)).known k' n' b' s' = _
  rw [SeaS.known_add]
  rfl
/-- What was sealed is opened as it was. -/
theorem SeaS.opens_own {S : SeaS} (h : S.Ok) {k n : List UInt8} (hk : k.length = 32) (hn : n.length = 12) (b t : List UInt8) : (S.seal k n b t).opens k n b (S.made k n b t) = some t := by
  unfold SeaS.opens
  show (if S.ideal = true then _ else _) = _
  by_cases hi : S.ideal = true
  · rw [if_pos hi, S.known_seal, h.made_new k n b t hi]
    simp
  · rw [if_neg hi]
    have : S.made k n b t = sealL (keyF k) n b t := by unfold SeaS.made; rw [if_neg hi]
    rw [this]
    exact opens_seal hk hn
theorem SeaS.opens_stays {S : SeaS} {k n b s t : List UInt8} (h : S.opens k n b s = some t) (k' n' b' t' : List UInt8) : (S.seal k' n' b' t').opens k n b s = some t := by
  unfold SeaS.opens at h ⊢
  show (if S.ideal = true then _ else _) = _
  by_cases hi : S.ideal = true
  · rw [if_pos hi] at h ⊢
    rw [S.known_seal, h]
  · rw [if_neg hi] at h ⊢
    exact h
theorem SeaS.derive_count (S : SeaS) (u p : List UInt8) : (S.derive u p).count ≤ S.count + 1 := by
  unfold SeaS.derive
  split
  · omega
  · exact Nat.le_refl _
theorem SeaS.seal_count (S : SeaS) (k n b t : List UInt8) : (S.seal k n b t).count ≤ S.count + 1 := by
  show S.next ≤ _
  unfold SeaS.next
  split <;> omega
theorem SeaS.seal_len (S : SeaS) (k n b t : List UInt8) : (S.seal k n b t).book.length = S.book.length + 1 := by simp [SeaS.seal]
theorem SeaS.made_len {S : SeaS} {k n : List UInt8} (hk : k.length = 32) (hn : n.length = 12) (b t : List UInt8) : (S.made k n b t).length = t.length + 16 := by
  unfold SeaS.made
  split
  · rw [noiseL_length]
  · rw [sealL_length (keyF_length hk) hn]

end Go.Proofs.YtjpejheipkfanaaGreatDoor

/-
  Layer 12's reference's sealer in memory ('RS'); contracts of its Nonce and known. Conditions: a book of at most a thousand things.
-/
namespace Go.Proofs.YtjpejheipkfanaaGreatDoor
open Go.RowKit
set_option linter.unusedVariables false

def elE (A : Nat → Prop) (w : World) (e : Ent) (vs : List Value) : Prop := ∃ p0 m0 q0 p1 m1 q1 p2 m2 q2 p3 m3 q3 p4 m4 q4, vs = [.slice p0 m0 q0, .slice p1 m1 q1, .slice p2 m2 q2, .slice p3 m3 q3, .slice p4 m4 q4] ∧ BA A w p0 m0 q0 e.key ∧ BA A w p1 m1 q1 e.nonce ∧ BA A w p2 m2 q2 e.beside ∧ BA A w p3 m3 q3 e.text ∧ BA A w p4 m4 q4 e.sealed
def elD (A : Nat → Prop) (w : World) (c : Kid) (vs : List Value) : Prop := ∃ p0 m0 q0 p1 m1 q1 p2 m2 q2, vs = [.slice p0 m0 q0, .slice p1 m1 q1, .slice p2 m2 q2] ∧ BA A w p0 m0 q0 c.up ∧ BA A w p1 m1 q1 c.what ∧ BA A w p2 m2 q2 (noiseL c.num 32)
theorem elE.keep {A : Nat → Prop} {w w' : World} (hs : w.heap.size ≤ w'.heap.size) (hk : ∀ j, j < w.heap.size → A j → w'.heap[j]? = w.heap[j]?) : ∀ c vs, elE A w c vs → elE A w' c vs := by
  rintro c vs ⟨p0, m0, q0, p1, m1, q1, p2, m2, q2, p3, m3, q3, p4, m4, q4, e, h0, h1, h2, h3, h4⟩
  exact ⟨p0, m0, q0, p1, m1, q1, p2, m2, q2, p3, m3, q3, p4, m4, q4, e, h0.keep hs hk, h1.keep hs hk, h2.keep hs hk, h3.keep hs hk, h4.keep hs hk⟩
theorem elD.keep {A : Nat → Prop} {w w' : World} (hs : w.heap.size ≤ w'.heap.size) (hk : ∀ j, j < w.heap.size → A j → w'.heap[j]? = w.heap[j]?) : ∀ c vs, elD A w c vs → elD A w' c vs := by
  rintro c vs ⟨p0, m0, q0, p1, m1, q1, p2, m2, q2, e, h0, h1, h2⟩
  exact ⟨p0, m0, q0, p1, m1, q1, p2, m2, q2, e, h0.keep hs hk, h1.keep hs hk, h2.keep hs hk⟩
/-- The two slices of the reference's sealer. -/
structure Du where
  ba : Option Addr
  bn : Nat
  bc : Nat
  ca : Option Addr
  cn : Nat
  cc : Nat
/-- Its cells. -/
def rsC (S : SeaS) (d : Du) : List Value := [.bool S.ideal, .slice d.ba d.bn d.bc, .slice d.ca d.cn d.cc, .int .u64 (S.count : Int), .bool S.reused, .bool S.forged]
def rsV (S : SeaS) (d : Du) : Value := .agg (rsC S d).toArray
theorem rsC_one (S : SeaS) (d : Du) : ∀ v ∈ rsC S d, v.oneCell' = true := by
  intro v hv
  simp only [rsC, List.mem_cons, List.not_mem_nil, or_false] at hv
  rcases hv with rfl | rfl | rfl | rfl | rfl | rfl <;> rfl
/-- The reference's sealer. -/
structure RS (A : Nat → Prop) (w : World) (S : SeaS) (d : Du) : Prop where
  book : Sl (elE A) 5 A w d.ba d.bn d.bc S.book
  kids : Sl (elD A) 3 A w d.ca d.cn d.cc S.kids
theorem RS.keep {A : Nat → Prop} {w w' : World} {S : SeaS} {d : Du} (h : RS A w S d) (hs : w.heap.size ≤ w'.heap.size) (hk : ∀ j, j < w.heap.size → A j → w'.heap[j]? = w.heap[j]?) : RS A w' S d :=
  ⟨h.book.keep hs (elE.keep hs hk) hk, h.kids.keep hs (elD.keep hs hk) hk⟩
theorem RS.grow {A : Nat → Prop} {w w' : World} {S : SeaS} {d : Du} (h : RS A w S d) (hb : Below w.heap.size w w') : RS A w' S d := h.keep hb.size fun j hj _ => hb.block j hj
theorem RS.kp {A F : Nat → Prop} {w w' : World} {S : SeaS} {d : Du} (h : RS A w S d) (k : Kp F w w') (hA : ∀ j, A j → ¬ F j) : RS A w' S d := h.keep k.size fun j hj ha => k.block j hj (hA j ha)
theorem sizeRS : (Tryz.prog.info? 31).map (·.size) = some 6 := by kernel_rfl
theorem sizeEn5 : (Tryz.prog.info? 88).map (·.size) = some 5 := by kernel_rfl
theorem sizeCh : (Tryz.prog.info? 99).map (·.size) = some 3 := by kernel_rfl

set_option maxHeartbeats 1000000 in
theorem rNonce12 (w : World) (h l : Nat) (hh : h ≤ 18446744073709551615) (hl : l ≤ 4294967295) :
    Calls Tryz.prog 21 #[.int .u64 (h : Int), .int .u32 (l : Int)] w (Gives w (nonL h l)) := by
  have hl2 : (l : Int) ≤ 4294967295 := by omega
  go_enter Tryz.func21, Tryz.ntmps21
  go_wp2_with fail
  refine (rPut 8 (h : Int) 8 w (by omega) (by omega) (by omega) (by omega) (by omega)).mono ?_
  rintro e w1 ⟨a1, m1, c1, rfl, o1, hb1⟩
  go_wp2_with fail
  refine (rPut 4 (l : Int) 4 w1 (by omega) (by omega) (by omega) (by omega) (by omega)).mono ?_
  rintro e w2 ⟨a2, m2, c2, rfl, o2, hb2⟩
  have q2 := hb1.trans (hb2.mono hb1.size)
  have O1 : Own w2 w.heap.size (.slice a1 m1 c1) (putL (h : Int).toNat (8 : Int).toNat) := o1.below hb2 (Nat.le_refl _)
  have O2 := o2.toBs
  go_wp2_with (at_builtin; refine wpList_app _ rfl (.tmp 6) (.tmp 9) rfl w.heap.size _ _ rfl O1 _ _ _ _ rfl O2 (by simp [putL_length]) q2.size ?_; intro v3 w3 o3 hb3)
  go_ret
  rw [Int.toNat_natCast, Int.toNat_natCast] at o3
  exact Gives.mk o3 (q2.trans hb3)

/-- What known answers. -/
def Knows (A : Nat → Prop) (o : Option (List UInt8)) (w : World) (e : Ending) (w' : World) : Prop := ∃ a m c, e = .returned (.tuple #[.slice a m c, .bool o.isSome]) ∧ BA A w' a m c (o.getD []) ∧ Below w.heap.size w w'
theorem known_step {S : SeaS} {k n b s : List UInt8} {i : Nat} {e : Ent} (hi : S.book[i]? = some e) (hn : ∀ x ∈ S.book.take i, x.is k n b s = false) (he : e.is k n b s = true) : S.known k n b s = some e.text := by
  have hs : S.book = S.book.take i ++ e :: S.book.drop (i + 1) := by
    have hlt := (List.getElem?_eq_some_iff.1 hi).1
    rw [← (List.getElem?_eq_some_iff.1 hi).2, List.getElem_cons_drop hlt, List.take_append_drop]
  unfold SeaS.known
  rw [hs, List.find?_append, List.find?_eq_none.2 (fun x hx => by rw [hn x hx]; decide), Option.none_or, List.find?_cons, he]
  rfl
theorem known_none {S : SeaS} {k n b s : List UInt8} (hn : ∀ x ∈ S.book, x.is k n b s = false) : S.known k n b s = none := by
  unfold SeaS.known
  rw [List.find?_eq_none.2 (fun x hx => by rw [hn x hx]; decide)]
  rfl
theorem take_all {α : Type} {P : α → Prop} {l : List α} {i : Nat} {x : α} (hi : l[i]? = some x) (h : ∀ y ∈ l.take i, P y) (hx : P x) : ∀ y ∈ l.take (i + 1), P y := by
  intro y hy
  rw [List.take_add_one, hi] at hy
  rcases List.mem_append.1 hy with hy | hy
  · exact h y hy
  · simp at hy
    subst hy
    exact hx

end Go.Proofs.YtjpejheipkfanaaGreatDoor

/-
  The contract of layer 12's reference's known: the text of the first thing in the book that is so. Condition: a book of at most a thousand things.
-/
namespace Go.Proofs.YtjpejheipkfanaaGreatDoor
open Go.RowKit
set_option linter.unusedVariables false

theorem sameD (w : World) {a b : Option Addr} {n c n' c' : Nat} {l m : List UInt8} (ha : Bs w a n c l) (hb : Bs w b n' c' m) : Calls Tryz.prog 20 #[.slice a n c, .slice b n' c'] w fun e w' => e = .returned (.bool (decide (l = m))) ∧ Below w.heap.size w w' :=
  (rSame w ha hb).mono (by
    rintro e w' ⟨rfl, k', rfl⟩
    exact ⟨rfl, below_drewN' _ _⟩)

set_option maxRecDepth 100000 in
set_option maxHeartbeats 4000000 in
theorem rKnown12 (w : World) {A : Nat → Prop} {S : SeaS} {d : Du} (h : RS A w S d) {k n b s : List UInt8} {ak an ab as' : Option Addr} {nk ck nn cn nb cb ns cs' : Nat} (hk : Bs w ak nk ck k) (hn : Bs w an nn cn n) (hb : Bs w ab nb cb b) (hs : Bs w as' ns cs' s) (hz : S.book.length ≤ 1000) :
    Calls Tryz.prog 45 #[rsV S d, .slice ak nk ck, .slice an nn cn, .slice ab nb cb, .slice as' ns cs'] w (Knows A (S.known k n b s) w) := by
  have HR : Hid (RS A w S d) := h
  have HK : Hid (Bs w ak nk ck k) := hk
  have HN : Hid (Bs w an nn cn n) := hn
  have HB : Hid (Bs w ab nb cb b) := hb
  have HC : Hid (Bs w as' ns cs' s) := hs
  have hbl : S.book.length = d.bn := Sl.len h.book
  have HL : Hid (S.book.length = d.bn) := hbl
  have hbn : d.bn ≤ 1000 := by omega
  clear h hk hn hb hs hbl hz
  obtain ⟨ba, bn, bc, ca, cn', cc⟩ := d
  dsimp only at HL hbn
  unfold rsV rsC
  dsimp only
  go_enter Tryz.func45, Tryz.ntmps45
  go_wp2_with fail
  obtain ⟨x5, hx5⟩ : ∃ x, x = w.heap.size := ⟨_, rfl⟩
  have B5 := Blk.new w #[.bool S.ideal, .slice ba bn bc, .slice ca cn' cc, .int .u64 (S.count : Int), .bool S.reused, .bool S.forged] 31
  have q1 : Below w.heap.size w (w.alloc (.cells #[.bool S.ideal, .slice ba bn bc, .slice ca cn' cc, .int .u64 (S.count : Int), .bool S.reused, .bool S.forged] 31)) := below_alloc w _
  rw [← hx5] at B5 ⊢
  clear hx5
  generalize w.alloc (.cells #[.bool S.ideal, .slice ba bn bc, .slice ca cn' cc, .int .u64 (S.count : Int), .bool S.reused, .bool S.forged] 31) = w1 at *
  have HB5 : Hid (Blk w1 x5 [.bool S.ideal, .slice ba bn bc, .slice ca cn' cc, .int .u64 (S.count : Int), .bool S.reused, .bool S.forged] 31) := B5
  have Q1 : Hid (Below w.heap.size w w1) := q1
  clear B5 q1
  go_loopw [12] (fun i wr => ∃ t : Nat, t ≤ bn ∧ i = .int .i64 (t : Int) ∧ Hid ((∀ x ∈ S.book.take t, x.is k n b s = false) ∧ Below w1.heap.size w1 wr)) (fun i _ => bn - (intOf i).toNat)
  case atStart => exact ⟨0, Nat.zero_le _, rfl, fun x hx => by simp at hx, Below.refl _ _⟩
  case round =>
    obtain ⟨t, ht, rfl, HI⟩ := hrel
    have QR : Hid (Below w.heap.size w wr) := Q1.out.trans (HI.out.2.mono Q1.out.size)
    have BR := HB5.out.below HI.out.2 HB5.out.lt
    have c1 : wr.cell? ⟨x5, 1, none⟩ = some (.slice ba bn bc) := BR.cell 1
    have lx : x5 < wr.heap.size := BR.lt
    clear BR
    by_cases hlt : t < bn
    · have i0 : (t : Int) < (bn : Int) := by omega
      obtain ⟨e, he⟩ : ∃ e, S.book[t]? = some e := ⟨_, List.getElem?_eq_getElem (by rw [HL.out]; exact hlt)⟩
      obtain ⟨bb, oo, vs, hba, hlb, hrg, hvl, p0, m0, q0, p1, m1, q1, p2, m2, q2, p3, m3, q3, p4, m4, q4, rfl, b0, b1, b2, b3, b4⟩ := Sl.at (HR.out.grow QR.out).book he
      dsimp only at hba
      subst hba
      have e0 : wr.cell? ⟨bb, oo + t * 5, none⟩ = some (.slice p0 m0 q0) := hrg 0 _ rfl
      have e1 : wr.cell? ⟨bb, oo + t * 5 + 1, none⟩ = some (.slice p1 m1 q1) := hrg 1 _ rfl
      have e2 : wr.cell? ⟨bb, oo + t * 5 + 2, none⟩ = some (.slice p2 m2 q2) := hrg 2 _ rfl
      have e3 : wr.cell? ⟨bb, oo + t * 5 + 3, none⟩ = some (.slice p3 m3 q3) := hrg 3 _ rfl
      have e4 : wr.cell? ⟨bb, oo + t * 5 + 4, none⟩ = some (.slice p4 m4 q4) := hrg 4 _ rfl
      have hcb : bn ≤ bc := (Sl.cap HR.out.book).1
      have hcm : bc ≤ maxLen := (Sl.cap HR.out.book).2
      have G0 : Hid (BA A wr p0 m0 q0 e.key) := b0
      have G1 : Hid (BA A wr p1 m1 q1 e.nonce) := b1
      have G2 : Hid (BA A wr p2 m2 q2 e.beside) := b2
      have G3 : Hid (BA A wr p3 m3 q3 e.text) := b3
      have G4 : Hid (BA A wr p4 m4 q4 e.sealed) := b4
      have HE : Hid (S.book[t]? = some e) := he
      obtain ⟨D0, hD0⟩ : ∃ D, D = decide (e.key = k) := ⟨_, rfl⟩
      obtain ⟨D1, hD1⟩ : ∃ D, D = decide (e.nonce = n) := ⟨_, rfl⟩
      obtain ⟨D2, hD2⟩ : ∃ D, D = decide (e.beside = b) := ⟨_, rfl⟩
      obtain ⟨D3, hD3⟩ : ∃ D, D = decide (e.sealed = s) := ⟨_, rfl⟩
      have C0 : Hid (∀ u, Below wr.heap.size wr u → Calls Tryz.prog 20 #[.slice p0 m0 q0, .slice ak nk ck] u fun e w' => e = .returned (.bool D0) ∧ Below u.heap.size u w') := fun u hu => by rw [hD0]; exact sameD u (G0.out.below' hu).1 (HK.out.below (QR.out.trans (hu.mono QR.out.size)) (Nat.le_refl _))
      have C1 : Hid (∀ u, Below wr.heap.size wr u → Calls Tryz.prog 20 #[.slice p1 m1 q1, .slice an nn cn] u fun e w' => e = .returned (.bool D1) ∧ Below u.heap.size u w') := fun u hu => by rw [hD1]; exact sameD u (G1.out.below' hu).1 (HN.out.below (QR.out.trans (hu.mono QR.out.size)) (Nat.le_refl _))
      have C2 : Hid (∀ u, Below wr.heap.size wr u → Calls Tryz.prog 20 #[.slice p2 m2 q2, .slice ab nb cb] u fun e w' => e = .returned (.bool D2) ∧ Below u.heap.size u w') := fun u hu => by rw [hD2]; exact sameD u (G2.out.below' hu).1 (HB.out.below (QR.out.trans (hu.mono QR.out.size)) (Nat.le_refl _))
      have C3 : Hid (∀ u, Below wr.heap.size wr u → Calls Tryz.prog 20 #[.slice p4 m4 q4, .slice as' ns cs'] u fun e w' => e = .returned (.bool D3) ∧ Below u.heap.size u w') := fun u hu => by rw [hD3]; exact sameD u (G4.out.below' hu).1 (HC.out.below (QR.out.trans (hu.mono QR.out.size)) (Nat.le_refl _))
      have HD : Hid (e.is k n b s = (D0 && D1 && D2 && D3)) := by show _ = _; rw [hD0, hD1, hD2, hD3]; rfl
      have q2' : Below wr.heap.size wr (wr.alloc (.cells #[.slice p0 m0 q0, .slice p1 m1 q1, .slice p2 m2 q2, .slice p3 m3 q3, .slice p4 m4 q4] 88)) := below_alloc wr _
      have BE := Blk.new wr #[.slice p0 m0 q0, .slice p1 m1 q1, .slice p2 m2 q2, .slice p3 m3 q3, .slice p4 m4 q4] 88
      have Q2 : Hid (Below wr.heap.size wr (wr.alloc (.cells #[.slice p0 m0 q0, .slice p1 m1 q1, .slice p2 m2 q2, .slice p3 m3 q3, .slice p4 m4 q4] 88))) := q2'
      clear b0 b1 b2 b3 b4 hrg he hD0 hD1 hD2 hD3 q2'
      go_wp2_with fail
      obtain ⟨xe, hxe⟩ : ∃ x, x = wr.heap.size := ⟨_, rfl⟩
      rw [← hxe] at BE ⊢
      have HBE : Hid (Blk (wr.alloc (.cells #[.slice p0 m0 q0, .slice p1 m1 q1, .slice p2 m2 q2, .slice p3 m3 q3, .slice p4 m4 q4] 88)) xe [.slice p0 m0 q0, .slice p1 m1 q1, .slice p2 m2 q2, .slice p3 m3 q3, .slice p4 m4 q4] 88) := BE
      clear hxe BE c1 lx e0 e1 e2 e3 e4
      generalize wr.alloc (.cells #[.slice p0 m0 q0, .slice p1 m1 q1, .slice p2 m2 q2, .slice p3 m3 q3, .slice p4 m4 q4] 88) = w2 at *
      refine (C0.out w2 Q2.out).mono ?_
      rintro _ w3 ⟨rfl, hb3⟩
      have Q3 : Hid (Below wr.heap.size wr w3) := Q2.out.trans (hb3.mono Q2.out.size)
      have B3 := HBE.out.below hb3 HBE.out.lt
      have f1 : w3.cell? ⟨xe, 1, none⟩ = some (.slice p1 m1 q1) := B3.cell 1
      have l3 := B3.lt
      have NX : Hid (∀ u, Below wr.heap.size wr u → (D0 && D1 && D2 && D3) = false → (∀ x ∈ S.book.take (t + 1), x.is k n b s = false) ∧ Below w1.heap.size w1 u) := fun u hu hf => ⟨take_all HE.out HI.out.1 (by rw [HD.out, hf]), HI.out.2.trans (hu.mono HI.out.2.size)⟩
      cases D0 with
      | false =>
        clear B3 f1
        go_wp2_with fail
        go_roundw
        case rel => exact ⟨t + 1, by omega, by go_num, NX.out _ Q3.out rfl⟩
        case measure => simp [intOf]; omega
      | true =>
        go_wp2_with fail
        refine (C1.out w3 Q3.out).mono ?_
        rintro _ w4 ⟨rfl, hb4⟩
        have Q4 : Hid (Below wr.heap.size wr w4) := Q3.out.trans (hb4.mono Q3.out.size)
        have B4 := B3.below hb4 B3.lt
        have f2 : w4.cell? ⟨xe, 2, none⟩ = some (.slice p2 m2 q2) := B4.cell 2
        have l4 := B4.lt
        clear f1 B3 l3
        cases D1 with
        | false =>
          clear B4 f2
          go_wp2_with fail
          go_roundw
          case rel => exact ⟨t + 1, by omega, by go_num, NX.out _ Q4.out rfl⟩
          case measure => simp [intOf]; omega
        | true =>
          go_wp2_with fail
          refine (C2.out w4 Q4.out).mono ?_
          rintro _ w5 ⟨rfl, hb5⟩
          have Q5 : Hid (Below wr.heap.size wr w5) := Q4.out.trans (hb5.mono Q4.out.size)
          have B5 := B4.below hb5 B4.lt
          have f3 : w5.cell? ⟨xe, 4, none⟩ = some (.slice p4 m4 q4) := B5.cell 4
          have l5 := B5.lt
          clear f2 B4 l4
          cases D2 with
          | false =>
            clear B5 f3
            go_wp2_with fail
            go_roundw
            case rel => exact ⟨t + 1, by omega, by go_num, NX.out _ Q5.out rfl⟩
            case measure => simp [intOf]; omega
          | true =>
            go_wp2_with fail
            refine (C3.out w5 Q5.out).mono ?_
            rintro _ w6 ⟨rfl, hb6⟩
            have Q6 : Hid (Below wr.heap.size wr w6) := Q5.out.trans (hb6.mono Q5.out.size)
            have B6 := B5.below hb6 B5.lt
            have f4 : w6.cell? ⟨xe, 3, none⟩ = some (.slice p3 m3 q3) := B6.cell 3
            have l6 := B6.lt
            clear f3 B5 l5
            cases D3 with
            | false =>
              clear B6 f4
              go_wp2_with fail
              go_roundw
              case rel => exact ⟨t + 1, by omega, by go_num, NX.out _ Q6.out rfl⟩
              case measure => simp [intOf]; omega
            | true =>
              clear B6
              go_wp2_with fail
              go_ret2
              have hkn := known_step HE.out HI.out.1 HD.out
              exact ⟨p3, m3, q3, by rw [hkn]; rfl, by rw [hkn]; exact G3.out.below' Q6.out, QR.out.trans (Q6.out.mono QR.out.size)⟩
    · have i0 : ¬ (t : Int) < (bn : Int) := by omega
      go_wp2_with fail
      go_ret2
      have hkn : S.known k n b s = none := known_none fun x hx => HI.out.1 x (by rw [List.take_of_length_le (by rw [HL.out]; omega)]; exact hx)
      exact ⟨none, 0, 0, by rw [hkn]; rfl, by rw [hkn]; exact BA.nil _ _, QR.out⟩

end Go.Proofs.YtjpejheipkfanaaGreatDoor
