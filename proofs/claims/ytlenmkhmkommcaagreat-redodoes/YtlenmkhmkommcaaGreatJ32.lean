/-
  3 texts in one. No statement of the seat is proved here.
-/
import Derived.Test.YtlenmkhmkommcaaGreatJ31
import Derived.Deep.Matrix
/-
  Regions that draw their order and end in a store: two operations that may come up, a variable's making. No condition; no statement of the seat is proved here.
-/
namespace Go.Proofs.YtlenmkhmkommcaaGreat
open Go.RowKit

/-- One of two. -/
theorem forkE {P : Program} {ops : Array Oper} {Q : Exit → Act → World → Prop} {md : Region.Mode} {S : World → Prop} {e : Nat} (i j : Nat) {fuel : Nat} {listed : Array Bool} {a : Act} {w : World} (hr : Region.ready md ops listed = [i, j]) (he : listed.getD e true = false)
    (hi : ∀ w', Grows w w' → S w' → wpOp P ops Q i (fun a' w'' => S w'' ∧ wpAnyE P md ops Q S e fuel (listed.setIfInBounds i true) a' w'') a w')
    (hj : ∀ w', Grows w w' → S w' → wpOp P ops Q j (fun a' w'' => S w'' ∧ wpAnyE P md ops Q S e fuel (listed.setIfInBounds j true) a' w'') a w') : wpAnyE P md ops Q S e (fuel + 1) listed a w :=
  fun w' hg hS => ⟨fun h0 => (by rw [h0] at hr; cases hr), fun x hx => by
    rw [hr] at hx
    rcases List.mem_cons.1 hx with rfl | hx
    · exact wpOp_mono (fun _ _ hh => ⟨Or.inr hh.1, hh.2⟩) (hi w' hg (hS.got he))
    · rw [List.mem_singleton.1 hx]
      exact wpOp_mono (fun _ _ hh => ⟨Or.inr hh.1, hh.2⟩) (hj w' hg (hS.got he))⟩
/-- A variable made, wherever it comes. -/
theorem opMakeE {P : Program} {ops : Array Oper} {Q : Exit → Act → World → Prop} {md : Region.Mode} {S : World → Prop} {e : Nat} (hS : ∀ w w', S w → Grows w w' → S w') {cells : Array Value} {t : TypeId} {i : Nat} {d : Tmp} (m : Makes P ops i d cells t) {fuel : Nat} {L : Array Bool} {a : Act} {w : World} (hs : S w)
    (h : ∀ g w', Grows w w' → S w' → Blk w' g cells.toList t → w.heap.size ≤ g → wpAnyE P md ops Q S e fuel L (a.put (some d) (.pointer (some ⟨g, 0, none⟩))) w') : wpOp P ops Q i (fun a' w'' => S w'' ∧ wpAnyE P md ops Q S e fuel L a' w'') a w :=
  m.op ⟨hS _ _ hs (below_alloc _ _), h _ _ (below_alloc _ _) (hS _ _ hs (below_alloc _ _)) (Blk.new w _ _) (Nat.le_refl _)⟩

end Go.Proofs.YtlenmkhmkommcaaGreat

/-
  Both sides of RedoDoes: the program's disk and sealer, the reference's in variables of the statement ('DoI', 'DoT'), and what each act makes of them. No condition.
-/
namespace Go.Proofs.YtlenmkhmkommcaaGreat
open Go.RowKit
set_option linter.unusedVariables false

/-- Memory of neither of the program's objects, nor the reference's variable. -/
abbrev NX (U V : Nat → Prop) (X : Nat) : Nat → Prop := fun j => Out U V j ∧ j ≠ X
/-- The program holds D and S, the reference's disk in variable X is E. -/
structure DoI (w0 w : World) (U F V : Nat → Prop) (d r s X : Nat) (D E : DskS) (S : SeaS) (M : SeaM) (q : Quad) : Prop where
  st : StaB w0 w U F V d r s D S M
  bx : Blk w X (dc E q) 42
  rd : RD (NX U V X) w E q
  xo : Out U V X
  xw : w0.heap.size ≤ X
theorem DoI.grow {w0 w w' : World} {U F V : Nat → Prop} {d r s X : Nat} {D E : DskS} {S : SeaS} {M : SeaM} {q : Quad} (h : DoI w0 w U F V d r s X D E S M q) (k : Below w.heap.size w w') : DoI w0 w' U F V d r s X D E S M q :=
  ⟨h.st.grow k, h.bx.below k h.bx.lt, h.rd.below k, h.xo, h.xw⟩
theorem nx_new {w0 w : World} {U F V : Nat → Prop} {d r s X : Nat} {D E : DskS} {S : SeaS} {M : SeaM} {q : Quad} (h : DoI w0 w U F V d r s X D E S M q) : ∀ j, w.heap.size ≤ j → NX U V X j := fun j hj => ⟨h.st.lt j hj, by have := h.bx.lt; omega⟩
theorem nx_after {U F V U' : Nat → Prop} {X : Nat} {w w' : World} (k : Kp (fun j => F j ∨ V j) w w') (hF : ∀ j, F j → U j) (n : Next w U U') : (∀ j, j < w.heap.size → NX U V X j → w'.heap[j]? = w.heap[j]?) ∧ ∀ j, j < w.heap.size → NX U V X j → NX U' V X j := by
  obtain ⟨h1, h2⟩ := out_after k hF n
  exact ⟨fun j hj ho => h1 j hj ho.1, fun j hj ho => ⟨h2 j hj ho.1, ho.2⟩⟩
/-- The program acted. -/
theorem DoI.prog {w0 w w' : World} {U F V U' F' : Nat → Prop} {d r s X : Nat} {D D' E : DskS} {S S' : SeaS} {M : SeaM} {q : Quad} (h : DoI w0 w U F V d r s X D E S M q) (hb : Bth U' F' V w' d r s D' S' M) (n : Next w U U') (k : Kp (fun j => F j ∨ V j) w w') : DoI w0 w' U' F' V d r s X D' E S' M q := by
  obtain ⟨h1, h2⟩ := nx_after (X := X) k h.st.b.dk.sub n
  have hx := h.bx.lt
  refine ⟨h.st.after hb n k, k.blk h.bx fun e => ?_, ?_, ⟨fun hu => ?_, h.xo.2⟩, h.xw⟩
  · rcases e with e | e
    · exact h.xo.1 (h.st.b.dk.sub X e)
    · exact h.xo.2 e
  · have r0 : RD (fun j => NX U V X j ∧ j < w.heap.size) w E q := h.rd.mono fun j hj ha => ⟨ha, hj⟩
    exact (r0.keep k.size fun j hj ha => h1 j hj ha.1).mono fun j _ ha => h2 j ha.2 ha.1
  · rcases n X hu with e | e
    · exact h.xo.1 e
    · omega
/-- The program's disk alone acted. -/
theorem DoI.disk {w0 w w' : World} {U F V U' F' : Nat → Prop} {d r s X : Nat} {D D' E : DskS} {S : SeaS} {M : SeaM} {q : Quad} (h : DoI w0 w U F V d r s X D E S M q) (hd : Dk U' F' w' d r D') (n : Next w U U') (k : Kp F w w') : DoI w0 w' U' F' V d r s X D' E S M q :=
  h.prog (h.st.b.disk hd k n) n (k.mono fun j _ hj => Or.inl hj)
/-- Its power alone was turned. -/
theorem DoI.power {w0 w w' : World} {U F V : Nat → Prop} {d r s X : Nat} {D E : DskS} {S : SeaS} {M : SeaM} {q : Quad} (h : DoI w0 w U F V d r s X D E S M q) {P : PowS} (hp : Pw w' r P) (k : Kp (fun j => j = r) w w') : DoI w0 w' U F V d r s X { D with p := P } E S M q :=
  h.disk (h.st.b.dk.power hp k) (fun j hj => Or.inl hj) (k.mono fun j _ e => by rw [e]; exact h.st.b.dk.pw.2)
/-- The statement's variable was written. -/
theorem DoI.store {w0 w w' : World} {U F V : Nat → Prop} {d r s X : Nat} {D E E' : DskS} {S : SeaS} {M : SeaM} {q q' : Quad} (h : DoI w0 w U F V d r s X D E S M q) (hr : RD (NX U V X) w E' q') (b : Blk w' X (dc E' q') 42) (k : Kp (fun j => j = X) w w') : DoI w0 w' U F V d r s X D E' S M q' := by
  refine ⟨⟨⟨h.st.b.dk.keep k fun j hj e => h.xo.1 (e ▸ hj), h.st.b.se.kp k fun j hj e => h.xo.2 (e ▸ hj), h.st.b.ok, h.st.b.ap⟩, h.st.baseU, h.st.baseV, below_kp h.st.bel k h.st.bel.size fun j hj e => by have := h.xw; omega⟩, b, hr.kp k fun j hj e => hj.2 e, h.xo, h.xw⟩
/-- The reference's sealer in a variable of its own. -/
structure DoT (w : World) (U V : Nat → Prop) (X T : Nat) (S : SeaS) (d2 : Du) : Prop where
  rs : RS (NX U V X) w S d2
  bt : Blk w T (rsC S d2) 54
  nx : NX U V X T
theorem DoT.keep {w w' : World} {U V U' V' : Nat → Prop} {X T : Nat} {S : SeaS} {d2 : Du} (h : DoT w U V X T S d2) (hs : w.heap.size ≤ w'.heap.size) (h1 : ∀ j, j < w.heap.size → NX U V X j → w'.heap[j]? = w.heap[j]?) (h2 : ∀ j, j < w.heap.size → NX U V X j → NX U' V' X j) : DoT w' U' V' X T S d2 := by
  have r0 : RS (fun j => NX U V X j ∧ j < w.heap.size) w S d2 := h.rs.mono fun j hj ha => ⟨ha, hj⟩
  exact ⟨(r0.keep hs fun j hj ha => h1 j hj ha.1).mono fun j _ ha => h2 j ha.2 ha.1, h.bt.same (h1 T h.bt.lt h.nx), h2 T h.bt.lt h.nx⟩
theorem DoT.grow {w w' : World} {U V : Nat → Prop} {X T : Nat} {S : SeaS} {d2 : Du} (h : DoT w U V X T S d2) (k : Below w.heap.size w w') : DoT w' U V X T S d2 := h.keep k.size (fun j hj _ => k.block j hj) fun _ _ h => h
theorem DoT.prog {w w' : World} {U F V U' : Nat → Prop} {X T : Nat} {S : SeaS} {d2 : Du} (h : DoT w U V X T S d2) (k : Kp (fun j => F j ∨ V j) w w') (hF : ∀ j, F j → U j) (n : Next w U U') : DoT w' U' V X T S d2 := by
  obtain ⟨h1, h2⟩ := nx_after (X := X) k hF n
  exact h.keep k.size h1 h2
theorem DoT.store {w w' : World} {U V : Nat → Prop} {X T : Nat} {S : SeaS} {d2 : Du} (h : DoT w U V X T S d2) (k : Kp (fun j => j = X) w w') : DoT w' U V X T S d2 := h.keep k.size (fun j hj ho => k.block j hj fun e => ho.2 e) fun _ _ h => h
theorem Imgs.nx {w w' : World} {U F V U' : Nat → Prop} {X : Nat} {a : Option Addr} {n c : Nat} {l : List Chg} (h : Imgs (NX U V X) w a n c l) (k : Kp (fun j => F j ∨ V j) w w') (hF : ∀ j, F j → U j) (nx : Next w U U') : Imgs (NX U' V X) w' a n c l := by
  obtain ⟨h1, h2⟩ := nx_after (X := X) k hF nx
  have r0 : Imgs (fun j => NX U V X j ∧ j < w.heap.size) w a n c l := h.mono fun j hj ha => ⟨ha, hj⟩
  exact (r0.keep k.size fun j hj ha => h1 j hj ha.1).mono fun j _ ha => h2 j ha.2 ha.1
theorem Imgs.store {w w' : World} {U V : Nat → Prop} {X : Nat} {a : Option Addr} {n c : Nat} {l : List Chg} (h : Imgs (NX U V X) w a n c l) (k : Kp (fun j => j = X) w w') : Imgs (NX U V X) w' a n c l := h.kp k fun j hj e => hj.2 e
theorem DoI.first {w0 w w' : World} {U F V : Nat → Prop} {d r s : Nat} {D : DskS} {S : SeaS} {M : SeaM} {n : Int} (h : StaB w0 w U F V d r s D S M) (b : Blk w' w.heap.size (dc (DskS.new PowS.new n) q0) 42) (k : Below w.heap.size w w') : DoI w0 w' U F V d r s w.heap.size D (DskS.new PowS.new n) S M q0 :=
  ⟨h.grow k, b, RD.new _ _ _ _, h.lt _ (Nat.le_refl _), h.bel.size⟩
def du0 : Du := ⟨none, 0, 0, none, 0, 0⟩
theorem RS.new0 (A : Nat → Prop) (w : World) (i : Bool) : RS A w (SeaS.new i) du0 := ⟨Sl.nil _ _ _ _, Sl.nil _ _ _ _⟩
theorem Imgs.off {A : Nat → Prop} {w : World} {x : Nat} {a : Option Addr} {n c : Nat} {l : List Chg} (h : Imgs A w a n c l) (hx : w.heap.size ≤ x) : Imgs (Off A x) w a n c l := h.mono fun j hj ha => ⟨ha, by omega⟩
/-- Another variable of the statement's was written. -/
theorem DoI.other {w0 w w' : World} {U F V : Nat → Prop} {d r s X g : Nat} {D E : DskS} {S : SeaS} {M : SeaM} {q : Quad} (h : DoI w0 w U F V d r s X D E S M q) (k : Kp (fun j => j = g) w w') (hg : NX U V X g) (hw : w0.heap.size ≤ g) (hr : RD (Off (NX U V X) g) w E q) : DoI w0 w' U F V d r s X D E S M q :=
  ⟨⟨⟨h.st.b.dk.keep k fun j hj e => hg.1.1 (e ▸ hj), h.st.b.se.kp k fun j hj e => hg.1.2 (e ▸ hj), h.st.b.ok, h.st.b.ap⟩, h.st.baseU, h.st.baseV, below_kp h.st.bel k h.st.bel.size fun j hj e => by omega⟩, k.blk h.bx (fun e => hg.2 e.symm), (hr.kp k fun j hj e => hj.2 e).mono fun j _ hj => hj.1, h.xo, h.xw⟩
/-- What the statement plays, step by step. -/
theorem fit_power {D : DskS} {m : Nat} (h : D.fit m) {P : PowS} (hp : P.fit m) : ({ D with p := P } : DskS).fit m := ⟨hp, h.n, h.safe, h.loose, h.seen, h.plot, h.steps⟩
/-- Pokes, one behind the other. -/
def DskS.pokeR (D : DskS) (l : List Pok) : DskS := l.foldl (fun D x => D.poke x) D
theorem pokeR_step (D : DskS) {l : List Pok} {k : Nat} {x : Pok} (hx : l[k]? = some x) : D.pokeR (l.take (k + 1)) = (D.pokeR (l.take k)).poke x := by
  unfold DskS.pokeR
  rw [List.take_add_one, hx, Option.toList_some, List.foldl_append]
  rfl
theorem pokeR_fit {l : List Pok} : ∀ {D : DskS} {m : Nat}, D.fit m → (D.pokeR l).fit (m + l.length) := by
  induction l with
  | nil => intro D m h; exact h
  | cons x l ih =>
    intro D m h
    have := ih (h.a_poke x)
    rw [List.length_cons]
    exact DskS.fit.a_mono this (by omega)
theorem readD_len {ps : List Int} : ∀ {D : DskS} {k : Nat} {acc : List Chg}, (readD D k acc ps).2.1.length ≤ acc.length + ps.length := by
  induction ps with
  | nil => intro D k acc; rw [readD_nil]; simp
  | cons p ps ih =>
    intro D k acc
    by_cases hz : (D.read (k : Int)).2.2 = 0
    · rw [readD_ok hz]
      refine Nat.le_trans ih ?_
      simp
      omega
    · rw [readD_not hz]
      simp
theorem redD_len (D : DskS) (S : SeaS) (k : List UInt8) (e n : Int) : (redD D S k e n).2.1.length ≤ 23 := by
  unfold redD
  split
  · simp
  · rename_i hb
    split
    · split
      · simp
      · split
        · refine Nat.le_trans readD_len ?_
          rw [pagL_length]
          unfold badR at hb
          simp
          omega
        · simp
    · simp
theorem read_n (D : DskS) (k : Int) : (D.read k).1.n = D.n := by
  unfold DskS.read
  split
  · rfl
  · split <;> exact (done_same _ _).1
theorem applyD_n {l : List Chg} : ∀ {D : DskS}, (applyD D l).1.n = D.n := by
  induction l with
  | nil => intro D; rw [applyD_nil]; exact flushed_n D
  | cons c l ih =>
    intro D
    by_cases hz : (D.write c.1 c.2).2 = 0
    · rw [applyD_ok hz, ih, write_n]
    · rw [applyD_not hz, write_n]
theorem readD_n {ps : List Int} : ∀ {D : DskS} {k : Nat} {acc : List Chg}, (readD D k acc ps).1.n = D.n := by
  induction ps with
  | nil => intro D k acc; rw [readD_nil]
  | cons p ps ih =>
    intro D k acc
    by_cases hz : (D.read (k : Int)).2.2 = 0
    · rw [readD_ok hz, ih, read_n]
    · rw [readD_not hz, read_n]
theorem wrtD_n (D : DskS) (S : SeaS) (k : List UInt8) (e : Int) (l : List Chg) : (wrtD D S k e l).1.n = D.n := by
  unfold wrtD
  split
  · rfl
  · split
    · exact applyD_n
    · rfl
theorem redD_n (D : DskS) (S : SeaS) (k : List UInt8) (e n : Int) : (redD D S k e n).1.n = D.n := by
  unfold redD
  split
  · rfl
  · split
    · split
      · exact read_n D 0
      · split
        · exact readD_n.trans (read_n D 0)
        · exact read_n D 0
    · exact read_n D 0
theorem crash_n (D : DskS) (b : List Bool) : (D.crash b).n = D.n := (settles_len (kept D.loose b) D).2.2.2.2.1
theorem pokeR_n {l : List Pok} : ∀ {D : DskS}, (D.pokeR l).n = D.n := by
  induction l with
  | nil => intro D; rfl
  | cons x l ih =>
    intro D
    exact (ih (D := D.poke x)).trans (poke_len D x).2.2.2.2.1
theorem Dk.read_len' {U F : Nat → Prop} {w : World} {d r : Nat} {D : DskS} (h : Dk U F w d r D) {mm : Nat} (hf : D.fit mm) (hmm : mm ≤ 5000) : (D.read 0).2.2 = 0 → (D.read 0).2.1.length = 512 := fun hz => by
  obtain ⟨e, w', fr, ⟨p, m, c, _, U', F', hd, _⟩, _⟩ := (oDReadB w h hf hmm 0 (by constructor <;> omega)) []
  exact hd.read_len hz
/-- One of the pokes that were handed in. -/
theorem Pokes.at {w wr : World} {a : Option Addr} {n c : Nat} {l : List Pok} (h : Pokes w a n c l) (hb : Below w.heap.size w wr) {s : Nat} {x : Pok} (hx : l[s]? = some x) :
    ∃ b o p m q, a = some ⟨b, o, none⟩ ∧ b < w.heap.size ∧ wr.rangeAt b (o + s * 5) [.int .i64 x.on, .int .i64 x.at_, .int .i64 x.kind, .slice p m q, .int .i64 x.num] ∧ BA (fun j => j < w.heap.size) wr p m q x.bytes ∧ i64 x.on ∧ i64 x.at_ ∧ i64 x.kind ∧ i64 x.num := by
  obtain ⟨b, o, vs, ha, hlt, hrg, hl, p, m, q, rfl, hB, h1, h2, h3, h4⟩ := Sl.at h hx
  refine ⟨b, o, p, m, q, ha, hlt, fun j v hj => ?_, hB.below' hb, h1, h2, h3, h4⟩
  rw [World.cell?_of_block (w := w) (hb.block b hlt)]
  exact hrg j v hj
/-- All that RedoDoes plays, in plain terms. -/
structure Play (E fuse : Int) (L : List Chg) (kp : List Bool) (pk : List Pok) (Y n : Int) (D1 D4 D5 D6 : DskS) (S1 : SeaS) (LL : List Chg) (z1 z2 z3 : Int) : Prop where
  wr : wrtD { DskS.new PowS.new 40 with p := PowS.new.set fuse true } (SeaS.new true) (keyC 1) E L = (D1, z1)
  ws : wrtS (SeaS.new true) (keyC 1) E L = S1
  po : ({ D1.crash kp with p := (D1.crash kp).p.back } : DskS).pokeR pk = D4
  re : redD D4 S1 (keyC 1) Y n = (D5, LL, z2)
  rs : redS D4 S1 (keyC 1) Y n = S1
  ap : applyD D5 LL = (D6, z3)
  f0 : ({ DskS.new PowS.new 40 with p := PowS.new.set fuse true } : DskS).fit 0
  f1 : D1.fit 75
  f3 : ({ D1.crash kp with p := (D1.crash kp).p.back } : DskS).fit 78
  f4 : D4.fit 88
  f5 : D5.fit 163
  f6 : D6.fit 235
  n6 : D6.n = 40
  ll : LL.length ≤ 23
  bk : S1.book.length ≤ 1000 ∧ S1.count ≤ 1000000
theorem Play.mk' {E fuse : Int} (hfu : fuse ≤ 9223372036854775807) (L : List Chg) (kp : List Bool) {pk : List Pok} (hpk : pk.length ≤ 10) (Y n : Int) : ∃ D1 D4 D5 D6 S1 LL z1 z2 z3, Play E fuse L kp pk Y n D1 D4 D5 D6 S1 LL z1 z2 z3 := by
  have f0 : ({ DskS.new PowS.new 40 with p := PowS.new.set fuse true } : DskS).fit 0 := fit_power (DskS.fit_new (by omega)) (PowS.fit_set PowS.fit_new hfu true)
  have f1 := wrtD_fit f0 (by omega) (SeaS.new true) (keyC 1) E L
  obtain ⟨D1, hD1⟩ : ∃ D1, D1 = (wrtD { DskS.new PowS.new 40 with p := PowS.new.set fuse true } (SeaS.new true) (keyC 1) E L).1 := ⟨_, rfl⟩
  obtain ⟨S1, hS1⟩ : ∃ S1, S1 = wrtS (SeaS.new true) (keyC 1) E L := ⟨_, rfl⟩
  have n1 : D1.n = 40 := by rw [hD1, wrtD_n]; rfl
  rw [← hD1] at f1
  have f2 : (D1.crash kp).fit 78 := f1.a_crash (by omega) kp
  have f3 : ({ D1.crash kp with p := (D1.crash kp).p.back } : DskS).fit 78 := fit_power f2 (PowS.fit_back f2.p)
  have f4 := pokeR_fit (l := pk) f3
  obtain ⟨D4, hD4⟩ : ∃ D4, D4 = ({ D1.crash kp with p := (D1.crash kp).p.back } : DskS).pokeR pk := ⟨_, rfl⟩
  have n4 : D4.n = 40 := by rw [hD4, pokeR_n]; show (D1.crash kp).n = 40; rw [crash_n, n1]
  rw [← hD4] at f4
  have f4' : D4.fit 88 := f4.a_mono (by omega)
  have f5 := redD_fit f4' S1 (keyC 1) Y n
  have l5 := redD_len D4 S1 (keyC 1) Y n
  have n5 := redD_n D4 S1 (keyC 1) Y n
  obtain ⟨R, hR⟩ : ∃ R, R = redD D4 S1 (keyC 1) Y n := ⟨_, rfl⟩
  rw [← hR] at f5 l5 n5
  have f6 := applyD_fit (l := R.2.1) f5 (by omega)
  have hi : S1.ideal = true := by rw [hS1, wrtS_ideal]; rfl
  have hc := wrtS_count (SeaS.new true) (keyC 1) E L
  rw [← hS1] at hc
  have hc2 : S1.count + S1.book.length ≤ 2 := hc
  exact ⟨D1, D4, R.1, (applyD R.1 R.2.1).1, S1, R.2.1, _, R.2.2, (applyD R.1 R.2.1).2, ⟨Prod.ext hD1.symm rfl, hS1.symm, hD4.symm, hR.symm, redS_ideal hi _ _ _ _, rfl, f0, f1, f3, f4', f5, f6.a_mono (by omega), by rw [applyD_n, n5, n4], l5, by omega, by omega⟩⟩

end Go.Proofs.YtlenmkhmkommcaaGreat

/-
  How an argument that is a slice of slices of bytes is opened into plain lists. No condition; no statement of the seat is proved here.
-/
namespace Go.Proofs.YtlenmkhmkommcaaGreat
open Go.RowKit Go.ChangeShapes Go.WideShapes Go.ChangeAt

theorem Bss.of_trod {H : Type} {enc : TypeId × Value → H} {W : World} {base : Nat} {held : Bool} {fuel : Nat} {a : Option Addr} {n c : Nat} {x : DataW H × List MemPlace}
    (h : DataW.trod enc Tryz.prog W base (fun _ => true) held fuel 147 [.slice a n c] = some x) : ∃ ls, Bss W a n c ls := by
  rcases Deep.open_int_rows Tryz.underlying147 Tryz.underlying26 Tryz.underlying5 (by kernel_rfl) (by kernel_rfl) h with ⟨hcs, _⟩ | ⟨y, len, cap, A, L, C, Z, hcs, _, hl, hm, _, hrow⟩
  · simp at hcs
    obtain ⟨rfl, rfl, rfl⟩ := hcs
    exact ⟨[], rfl, Nat.le_refl _, Nat.zero_le _, fun i hi => by omega⟩
  · simp at hcs
    obtain ⟨rfl, rfl, rfl⟩ := hcs
    have hex : ∀ r, r < n → ∃ l, Bs W (A r) (L r) (C r) l := by
      intro r hr
      obtain ⟨_, h1, h2, h3, h4, h5, h6⟩ := hrow r (by omega)
      cases hA : A r with
      | none =>
        have := h5 hA
        exact Bs.of_row (zs := []) (Or.inl ⟨rfl, by omega, this, rfl⟩)
      | some x =>
        exact Bs.of_row (zs := Z r) (Or.inr ⟨x, rfl, h1, h2, h3, fun i hi => (h6 x hA).2 i (by omega), h4⟩)
    obtain ⟨f, hf⟩ := Deep.choose_lt hex
    refine ⟨(List.range n).map f, by simp, hl, hm, fun i hi => ?_⟩
    obtain ⟨b, o, s⟩ := y
    have hs : s = none := by
      have h0 := (hrow 0 (by omega)).1
      simpa [Addr.add] using World.cell?_spot h0
    subst hs
    refine ⟨b, o, A i, L i, C i, rfl, ?_, ?_⟩
    · have := (hrow i (by omega)).1
      rw [add_none] at this
      exact this
    · have e : ((List.range n).map f).getD i [] = f i := by simp [List.getD_eq_getElem?_getD, hi]
      rw [e]
      exact hf i hi
end Go.Proofs.YtlenmkhmkommcaaGreat
