/-
  8 texts in one. No statement of the seat is proved here.
-/
import Derived.Test.YtlenmkhmkommcaaGreatG11

/-
  Layer 12's program's sealer in memory ('Se'): its struct, its maps, its tables; keys of the three maps. No condition; no statement of the seat is proved here.
-/
namespace Go.Proofs.YtlenmkhmkommcaaGreat
open Go.RowKit

abbrev KeyP := List UInt8 × List UInt8
abbrev KeyO := List UInt8 × List UInt8 × List UInt8 × List UInt8
def kvP (p : KeyP) : Value := .agg #[sv p.1, sv p.2]
def kvO (o : KeyO) : Value := .agg #[sv o.1, sv o.2.1, sv o.2.2.1, sv o.2.2.2]
/-- What is sealed, as a value. -/
def ctv (b t : List UInt8) : Value := .agg #[sv b, sv t]
def fitW (l : List UInt8) : Prop := l.length ≤ 1000000
def okKP (p : KeyP) : Prop := fitW p.1 ∧ fitW p.2
def okKO (o : KeyO) : Prop := fitW o.1 ∧ fitW o.2.1 ∧ fitW o.2.2.1 ∧ fitW o.2.2.2
theorem fitW.size {l : List UInt8} (h : fitW l) : (ByteArray.mk l.toArray).size ≤ maxLen := by
  unfold fitW at h
  have : (ByteArray.mk l.toArray).size = l.length := by simp [ByteArray.size]
  rw [this]
  unfold maxLen
  omega
theorem types_size : ∃ n, Tryz.prog.types.size + 1 = n + 3 := ⟨Tryz.prog.types.size - 2, by have : 2 ≤ Tryz.prog.types.size := of_decide_eq_true (by kernel_rfl); omega⟩
theorem cells9 : Tryz.prog.cellsOf 9 = 1 := by kernel_rfl
theorem cellsP : Tryz.prog.cellsOf 159 = 2 := by kernel_rfl
theorem cellsO : Tryz.prog.cellsOf 168 = 4 := by kernel_rfl
theorem ktP : Tryz.prog.keyType 159 = true := by kernel_rfl
theorem ktO : Tryz.prog.keyType 168 = true := by kernel_rfl
theorem keysP : KeyS 159 kvP okKP where
  law := deep_law (m := 3) (by omega) (by kernel_rfl) (by kernel_rfl) (by kernel_rfl)
  key := fun a ha => by
    obtain ⟨n, hn⟩ := types_size
    have h1 := ha.1.size
    have h2 := ha.2.size
    refine Option.isSome_iff_exists.1 ?_
    unfold keyOf
    rw [Tryz.underlying159, hn]
    simp [ktP, kvP, sv, Value.formed, Tryz.underlying159, cellsP, cells9, Program.keyLits, Value.cells, Tryz.underlying9, h1, h2]
  inj := fun a b h => by
    simp only [kvP, Value.agg.injEq, Array.mk.injEq, List.cons.injEq, and_true] at h
    exact Prod.ext (sv_inj h.1) (sv_inj h.2)
theorem keysO : KeyS 168 kvO okKO where
  law := deep_law (m := 4) (by omega) (by kernel_rfl) (by kernel_rfl) (by kernel_rfl)
  key := fun a ha => by
    obtain ⟨n, hn⟩ := types_size
    have h1 := ha.1.size
    have h2 := ha.2.1.size
    have h3 := ha.2.2.1.size
    have h4 := ha.2.2.2.size
    refine Option.isSome_iff_exists.1 ?_
    unfold keyOf
    rw [Tryz.underlying168, hn]
    simp [ktO, kvO, sv, Value.formed, Tryz.underlying168, Tryz.underlying159, cellsP, cellsO, cells9, Program.keyLits, Value.cells, Tryz.underlying9, h1, h2, h3, h4]
    rw [if_pos (by
      intro i hi
      match i, hi with
      | 0, _ => simp
      | 1, _ => simp)]
    rfl
  inj := fun a b h => by
    simp only [kvO, Value.agg.injEq, Array.mk.injEq, List.cons.injEq, and_true] at h
    exact Prod.ext (sv_inj h.1) (Prod.ext (sv_inj h.2.1) (Prod.ext (sv_inj h.2.2.1) (sv_inj h.2.2.2)))

/-- Where a sealer's parts lie: the map of first things, that of openings, the tables, the map of keys. -/
structure SeaM where
  m1 : Nat
  m2 : Nat
  tb : Option Addr
  ks : Option Nat
def seC (S : SeaS) (M : SeaM) : List Value := [.bool S.ideal, .pointer M.tb, .int .i64 (S.book.length : Int), .map (some M.m1), .map (some M.m2), .bool S.reused, .bool S.forged, .int .u64 (S.count : Int), .map M.ks]
def fstK (S : SeaS) : KeyP → Option Value := fun p => (S.first p.1 p.2).map fun e => ctv e.beside e.text
def kidK (S : SeaS) : KeyP → Option Value := fun p => (S.kid p.1 p.2).map fun c => .int .u64 (c.num : Int)
/-- What an opening has in the map: something just if it stands in the book; ideally the text of the first thing. -/
def TxtK (S : SeaS) (g : KeyO → Option Value) : Prop := ∀ o : KeyO, match S.known o.1 o.2.1 o.2.2.1 o.2.2.2 with
  | none => g o = none
  | some t => ∃ t', g o = some (ctv o.2.2.1 t') ∧ fitW t' ∧ (S.ideal = true → t' = t)
/-- The sealer in block r; all its blocks are in U. -/
structure Se (U : Nat → Prop) (w : World) (r : Nat) (S : SeaS) (M : SeaM) : Prop where
  lt : ∀ j, U j → j < w.heap.size
  inR : U r
  blk : Blk w r (seC S M) 100
  in1 : U M.m1
  in2 : U M.m2
  ne12 : M.m1 ≠ M.m2
  first : Mks kvP okKP w M.m1 (fstK S)
  texts : ∃ g, Mks kvO okKO w M.m2 g ∧ TxtK S g
  keys : S.ideal = true → ∃ m3, M.ks = some m3 ∧ U m3 ∧ m3 ≠ M.m1 ∧ m3 ≠ M.m2 ∧ Mks kvP okKP w m3 (kidK S)
  tab : S.ideal = false → ∃ g, M.tb = some ⟨g, 0, none⟩ ∧ U g ∧ Blk w g (cs tabT) 140
  bound : S.count + S.book.length ≤ 1000000

theorem Blk.same {w w' : World} {g : Nat} {vs : List Value} {t : TypeId} (h : Blk w g vs t) (e : w'.heap[g]? = w.heap[g]?) : Blk w' g vs t := by
  unfold Blk
  rw [e]
  exact h
/-- What is not the sealer's was written. -/
theorem Se.keep {U : Nat → Prop} {w w' : World} {r : Nat} {S : SeaS} {M : SeaM} (h : Se U w r S M) (hs : w.heap.size ≤ w'.heap.size) (hk : ∀ j, U j → w'.heap[j]? = w.heap[j]?) : Se U w' r S M := by
  refine ⟨fun j hj => Nat.lt_of_lt_of_le (h.lt j hj) hs, h.inR, h.blk.same (hk r h.inR), h.in1, h.in2, h.ne12, h.first.same (hk _ h.in1), ?_, fun hi => ?_, fun hi => ?_, h.bound⟩
  · obtain ⟨g, h1, h2⟩ := h.texts
    exact ⟨g, h1.same (hk _ h.in2), h2⟩
  · obtain ⟨m3, h1, h2, h3, h4, h5⟩ := h.keys hi
    exact ⟨m3, h1, h2, h3, h4, h5.same (hk _ h2)⟩
  · obtain ⟨g, h1, h2, h3⟩ := h.tab hi
    exact ⟨g, h1, h2, h3.same (hk _ h2)⟩
theorem Se.grow {U : Nat → Prop} {w w' : World} {r : Nat} {S : SeaS} {M : SeaM} (h : Se U w r S M) (hb : Below w.heap.size w w') : Se U w' r S M := h.keep hb.size fun j hj => hb.block j (h.lt j hj)
theorem Se.kp {U F : Nat → Prop} {w w' : World} {r : Nat} {S : SeaS} {M : SeaM} (h : Se U w r S M) (k : Kp F w w') (hF : ∀ j, U j → ¬ F j) : Se U w' r S M := h.keep k.size fun j hj => k.block j (h.lt j hj) (hF j hj)
/-- The struct alone was written: a field of it. -/
theorem Se.put {U : Nat → Prop} {w w' : World} {r : Nat} {S S' : SeaS} {M : SeaM} (h : Se U w r S M) (k : Kp (fun j => j = r) w w') (hb : Blk w' r (seC S' M) 100) (hi : S'.ideal = S.ideal) (hbk : S'.book = S.book) (hkd : S'.kids = S.kids) (hn : S'.count + S'.book.length ≤ 1000000) : Se U w' r S' M := by
  have hf : fstK S' = fstK S := by unfold fstK SeaS.first; rw [hbk]
  have hkk : kidK S' = kidK S := by unfold kidK SeaS.kid; rw [hkd]
  refine ⟨fun j hj => Nat.lt_of_lt_of_le (h.lt j hj) k.size, h.inR, hb, h.in1, h.in2, h.ne12, ?_, ?_, fun hi' => ?_, fun hi' => ?_, hn⟩
  · rw [hf]
    exact h.first.same (k.block _ h.first.lt (h.first.notCells h.blk).symm)
  · obtain ⟨g, h1, h2⟩ := h.texts
    refine ⟨g, h1.same (k.block _ h1.lt (h1.notCells h.blk).symm), ?_⟩
    unfold TxtK SeaS.known at h2 ⊢
    rw [hbk, hi]
    exact h2
  · obtain ⟨m3, h1, h2, h3, h4, h5⟩ := h.keys (hi ▸ hi')
    exact ⟨m3, h1, h2, h3, h4, by rw [hkk]; exact h5.same (k.block _ h5.lt (h5.notCells h.blk).symm)⟩
  · obtain ⟨g, h1, h2, h3⟩ := h.tab (hi ▸ hi')
    refine ⟨g, h1, h2, k.blk h3 fun e => ?_⟩
    rw [e] at h3
    have h4 := h.blk
    unfold Blk at h3 h4
    rw [h4] at h3
    simp only [Option.some.injEq, Obj.cells.injEq] at h3
    exact absurd h3.2.1 (by decide)

end Go.Proofs.YtlenmkhmkommcaaGreat

/-
  Two and three new variables in a region that draws its order: whichever is made first. No condition; no statement of the seat is proved here.
-/
namespace Go.Proofs.YtlenmkhmkommcaaGreat
open Go.RowKit


theorem Grows.alloc (w : World) (o : Obj) : Grows w (w.alloc o) := below_alloc w o
theorem Blk.grows {w w' : World} {g : Nat} {vs : List Value} {t : TypeId} (h : Blk w g vs t) (hg : Grows w w') : Blk w' g vs t := h.below hg h.lt
theorem alloc1 {P : Program} {ops : Array Oper} {Q : Exit → Act → World → Prop} {md : Region.Mode} {S : World → Prop} (hS : ∀ w w', S w → Grows w w' → S w') {cells : Array Value} {t : TypeId} (i : Nat) (d : Tmp) (m : Makes P ops i d cells t) {fuel : Nat} {listed : Array Bool} {a : Act} {w : World} (hr : Region.ready md ops listed = [i])
    (h : ∀ g w', Grows w w' → S w' → Blk w' g cells.toList t → w.heap.size ≤ g → wpAnyG P md ops Q S fuel (listed.setIfInBounds i true) (a.put (some d) (.pointer (some ⟨g, 0, none⟩))) w') : wpAnyG P md ops Q S (fuel + 1) listed a w := by
  refine oneG i hr fun w' hg hs => m.op ⟨hS _ _ hs (Grows.alloc _ _), ?_⟩
  exact h _ _ (hg.trans (Grows.alloc _ _)) (hS _ _ hs (Grows.alloc _ _)) (Blk.new w' _ _) (Below.size hg)

end Go.Proofs.YtlenmkhmkommcaaGreat

/-
  Slices of bytes in a world that has only grown. No condition; no statement of the seat is proved here.
-/
namespace Go.Proofs.YtlenmkhmkommcaaGreat
open Go.RowKit

theorem Bs.grows {w w' : World} {a : Option Addr} {n c : Nat} {l : List UInt8} (h : Bs w a n c l) (hg : Grows w w') : Bs w' a n c l := h.below hg (Nat.le_refl _)

end Go.Proofs.YtlenmkhmkommcaaGreat

/-
  'make' of bytes in a region that draws its order. No condition; no statement of the seat is proved here.
-/
namespace Go.Proofs.YtlenmkhmkommcaaGreat
open Go.RowKit

end Go.Proofs.YtlenmkhmkommcaaGreat

/-
  'make' of bytes and of bools in a region that draws its order. No condition; no statement of the seat is proved here.
-/
namespace Go.Proofs.YtlenmkhmkommcaaGreat
open Go.RowKit

end Go.Proofs.YtlenmkhmkommcaaGreat

/-
  Two operations of a region that draws its order, each of which answers new memory: whichever comes first. No condition; no statement of the seat is proved here.
-/
namespace Go.Proofs.YtlenmkhmkommcaaGreat
open Go.RowKit

/-- The operation leaves a value and a world of which A holds, and the world has only grown. -/
def Mk (P : Program) (ops : Array Oper) (Q : Exit → Act → World → Prop) (S : World → Prop) (i : Nat) (d : Tmp) (A : Value → World → Prop) (a : Act) : Prop :=
  ∀ (K : Act → World → Prop) (w : World), S w → (∀ v w', A v w' → Grows w w' → S w' → K (a.put (some d) v) w') → wpOp P ops Q i K a w
end Go.Proofs.YtlenmkhmkommcaaGreat

/-
  Regions that draw their order and end in a store into what they read ('x = f(x)'): as in Grow, but what is kept between the operations need not outlast the store. No condition; no statement of the seat is proved here.
-/
namespace Go.Proofs.YtlenmkhmkommcaaGreat
open Go.RowKit

end Go.Proofs.YtlenmkhmkommcaaGreat

/-
  Elements as two words of 64 bits, the first bit the highest: what a shift down is, what a table of sixteen products gives, four bits at a time. Plain mathematics; no condition; nothing of the program.
-/
namespace Go.Proofs.YtlenmkhmkommcaaGreat

theorem txN_xor (n : Nat) (a b : Fe) : txN (a ^^^ b) n = txN a n ^^^ txN b n := txN_adds n a b
/-- Two maps that go part by part are the same if they are on each power of x. -/
theorem basis {n : Nat} (g k : Fe → BitVec n) (hg : ∀ a b, g (a ^^^ b) = g a ^^^ g b) (hk : ∀ a b, k (a ^^^ b) = k a ^^^ k b) (hb : ∀ i : Fin 128, g ((1 : Fe) <<< i.val) = k ((1 : Fe) <<< i.val)) (a : Fe) : g a = k a := by
  have g0 : g 0 = 0 := by
    have := hg 0 0
    rw [fx_self] at this
    rw [this]
    exact BitVec.xor_self
  have k0 : k 0 = 0 := by
    have := hk 0 0
    rw [fx_self] at this
    rw [this]
    exact BitVec.xor_self
  have : ∀ m, m ≤ 128 → g (lin a (fun i => (1 : Fe) <<< i) m) = k (lin a (fun i => (1 : Fe) <<< i) m) := by
    intro m
    induction m with
    | zero => intro _; show g 0 = k 0; rw [g0, k0]
    | succ m ih =>
      intro hm
      rw [lin, hg, hk, ih (by omega)]
      cases a.getLsbD m
      · simp only [Bool.false_eq_true, if_false]
        rw [g0, k0]
      · simp only [if_true]
        exact congrArg _ (hb ⟨m, by omega⟩)
  have := this 128 (Nat.le_refl _)
  rw [lin_self] at this
  exact this

/-- An element read from its other end: the first bit the highest. -/
def rv (a : Fe) : Fe := lin a (fun i => (1 : Fe) <<< (127 - i)) 128
theorem rv_bits (a : Fe) (n : Nat) (hn : n ≤ 128) {j : Nat} (hj : j < 128) : (lin a (fun i => (1 : Fe) <<< (127 - i)) n).getLsbD j = (decide (127 - j < n) && a.getLsbD (127 - j)) := by
  induction n with
  | zero => simp [lin]
  | succ n ih =>
    rw [lin, BitVec.getLsbD_xor, ih (by omega), one_bit (by omega)]
    by_cases e : 127 - j = n
    · have e2 : j = 127 - n := by omega
      subst e2
      rw [show 127 - (127 - n) = n from by omega]
      simp
    · have e2 : ¬ j = 127 - n := by omega
      by_cases hl : 127 - j < n
      · have : 127 - j < n + 1 := by omega
        simp [hl, e2, this]
      · have : ¬ 127 - j < n + 1 := by omega
        simp [hl, e2, this]
theorem rv_bit (a : Fe) {j : Nat} (hj : j < 128) : (rv a).getLsbD j = a.getLsbD (127 - j) := by
  unfold rv
  rw [rv_bits a 128 (Nat.le_refl _) hj]
  have : 127 - j < 128 := by omega
  simp [this]

/-- Its two words. -/
def hB (a : Fe) : BitVec 64 := (rv a).extractLsb' 64 64
def lB (a : Fe) : BitVec 64 := (rv a).extractLsb' 0 64
theorem hB_bit (a : Fe) {i : Nat} (hi : i < 64) : (hB a).getLsbD i = a.getLsbD (63 - i) := by
  unfold hB
  rw [BitVec.getLsbD_extractLsb', rv_bit a (by omega), show 127 - (64 + i) = 63 - i from by omega]
  simp [hi]
theorem lB_bit (a : Fe) {i : Nat} (hi : i < 64) : (lB a).getLsbD i = a.getLsbD (127 - i) := by
  unfold lB
  rw [BitVec.getLsbD_extractLsb', rv_bit a (by omega), show 127 - (0 + i) = 127 - i from by omega]
  simp [hi]
theorem hB_xor (a b : Fe) : hB (a ^^^ b) = hB a ^^^ hB b := by
  apply BitVec.eq_of_getLsbD_eq
  intro i hi
  rw [hB_bit _ hi, BitVec.getLsbD_xor, BitVec.getLsbD_xor, hB_bit _ hi, hB_bit _ hi]
theorem lB_xor (a b : Fe) : lB (a ^^^ b) = lB a ^^^ lB b := by
  apply BitVec.eq_of_getLsbD_eq
  intro i hi
  rw [lB_bit _ hi, BitVec.getLsbD_xor, BitVec.getLsbD_xor, lB_bit _ hi, lB_bit _ hi]
theorem words_ext {a b : Fe} (h : hB a = hB b) (l : lB a = lB b) : a = b := by
  apply BitVec.eq_of_getLsbD_eq
  intro i hi
  by_cases hl : i < 64
  · have e := hB_bit a (i := 63 - i) (by omega)
    have f := hB_bit b (i := 63 - i) (by omega)
    rw [show 63 - (63 - i) = i from by omega] at e f
    rw [← e, ← f, h]
  · have e := lB_bit a (i := 127 - i) (by omega)
    have f := lB_bit b (i := 127 - i) (by omega)
    rw [show 127 - (127 - i) = i from by omega] at e f
    rw [← e, ← f, l]
theorem hB_zero : hB 0 = 0 := by decide +kernel
theorem lB_zero : lB 0 = 0 := by decide +kernel

/-- Times x^k, word by word. -/
def rsO (k : Nat) (l : BitVec 64) : BitVec 64 := l <<< (64 - k)
def rsH (k : Nat) (h l : BitVec 64) : BitVec 64 := (h >>> k) ^^^ rsO k l ^^^ (rsO k l >>> 1) ^^^ (rsO k l >>> 2) ^^^ (rsO k l >>> 7)
def rsL (k : Nat) (h l : BitVec 64) : BitVec 64 := (l >>> k) ^^^ (h <<< (64 - k))
theorem w_four (a b c d : BitVec 64) : (a ^^^ b) ^^^ (c ^^^ d) = (a ^^^ c) ^^^ (b ^^^ d) := by
  rw [BitVec.xor_assoc, BitVec.xor_assoc, ← BitVec.xor_assoc b c d, BitVec.xor_comm b c, BitVec.xor_assoc c b d]
theorem rsO_xor (k : Nat) (l m : BitVec 64) : rsO k (l ^^^ m) = rsO k l ^^^ rsO k m := BitVec.shiftLeft_xor_distrib _ _ _
theorem rsH_xor (k : Nat) (h i l m : BitVec 64) : rsH k (h ^^^ i) (l ^^^ m) = rsH k h l ^^^ rsH k i m := by
  unfold rsH
  rw [rsO_xor, BitVec.ushiftRight_xor_distrib, BitVec.ushiftRight_xor_distrib, BitVec.ushiftRight_xor_distrib, BitVec.ushiftRight_xor_distrib, w_four (h >>> k), w_four (h >>> k ^^^ rsO k l), w_four (h >>> k ^^^ rsO k l ^^^ rsO k l >>> 1), w_four (h >>> k ^^^ rsO k l ^^^ rsO k l >>> 1 ^^^ rsO k l >>> 2)]
theorem rsL_xor (k : Nat) (h i l m : BitVec 64) : rsL k (h ^^^ i) (l ^^^ m) = rsL k h l ^^^ rsL k i m := by
  unfold rsL
  rw [BitVec.ushiftRight_xor_distrib, BitVec.shiftLeft_xor_distrib, w_four]
theorem rsH_1 (a : Fe) : hB (txN a 1) = rsH 1 (hB a) (lB a) :=
  basis (fun a => hB (txN a 1)) (fun a => rsH 1 (hB a) (lB a)) (fun a b => by show hB (txN (a ^^^ b) 1) = _; rw [txN_xor, hB_xor]) (fun a b => by show rsH 1 (hB (a ^^^ b)) (lB (a ^^^ b)) = _; rw [hB_xor, lB_xor, rsH_xor]) (by decide +kernel) a
theorem rsL_1 (a : Fe) : lB (txN a 1) = rsL 1 (hB a) (lB a) :=
  basis (fun a => lB (txN a 1)) (fun a => rsL 1 (hB a) (lB a)) (fun a b => by show lB (txN (a ^^^ b) 1) = _; rw [txN_xor, lB_xor]) (fun a b => by show rsL 1 (hB (a ^^^ b)) (lB (a ^^^ b)) = _; rw [hB_xor, lB_xor, rsL_xor]) (by decide +kernel) a
theorem rsH_4 (a : Fe) : hB (txN a 4) = rsH 4 (hB a) (lB a) :=
  basis (fun a => hB (txN a 4)) (fun a => rsH 4 (hB a) (lB a)) (fun a b => by show hB (txN (a ^^^ b) 4) = _; rw [txN_xor, hB_xor]) (fun a b => by show rsH 4 (hB (a ^^^ b)) (lB (a ^^^ b)) = _; rw [hB_xor, lB_xor, rsH_xor]) (by decide +kernel) a
theorem rsL_4 (a : Fe) : lB (txN a 4) = rsL 4 (hB a) (lB a) :=
  basis (fun a => lB (txN a 4)) (fun a => rsL 4 (hB a) (lB a)) (fun a b => by show lB (txN (a ^^^ b) 4) = _; rw [txN_xor, lB_xor]) (fun a b => by show rsL 4 (hB (a ^^^ b)) (lB (a ^^^ b)) = _; rw [hB_xor, lB_xor, rsL_xor]) (by decide +kernel) a

/-- An element times the polynomial of the four bits of n, the first one the highest. -/
def pr (h : Fe) (n : Nat) : Fe := ((if n.testBit 3 then h else 0) ^^^ (if n.testBit 2 then txN h 1 else 0)) ^^^ ((if n.testBit 1 then txN h 2 else 0) ^^^ (if n.testBit 0 then txN h 3 else 0))
/-- A product so far, with k times four bits of a word taken. -/
def tkF (h p : Fe) (w : Nat) : Nat → Fe
  | 0 => p
  | k + 1 => txN (tkF h p w k) 4 ^^^ pr h (w / 16 ^ k % 16)
theorem fmul_ite (c : Bool) (a h : Fe) : fmul (if c then a else 0) h = if c then fmul a h else 0 := (fmul_left h).ite c a
theorem fmul_pr (h : Fe) (n : Nat) : fmul (pr 1 n) h = pr h n := by
  have l := fmul_left h
  have hx : ∀ a b, fmul (a ^^^ b) h = fmul a h ^^^ fmul b h := l
  unfold pr
  rw [hx, hx, hx, fmul_ite, fmul_ite, fmul_ite, fmul_ite, fmul_txN', fmul_txN', fmul_txN', one_fmul]
theorem fmul_tk (h p : Fe) (w k : Nat) : fmul (tkF 1 p w k) h = tkF h (fmul p h) w k := by
  induction k with
  | zero => rfl
  | succ k ih =>
    have hx : ∀ a b, fmul (a ^^^ b) h = fmul a h ^^^ fmul b h := fmul_left h
    rw [tkF, hx, fmul_txN', ih, fmul_pr]
    rfl
theorem nib_bit (w k : Nat) {j : Nat} (hj : j < 4) : (w / 16 ^ k % 16).testBit j = w.testBit (4 * k + j) := by
  rw [show (16 : Nat) ^ k = 2 ^ (4 * k) from by rw [Nat.pow_mul]]
  rw [show w / 2 ^ (4 * k) % 16 = w / 2 ^ (4 * k) % 2 ^ 4 from rfl, Nat.testBit_mod_two_pow, Nat.testBit_div_two_pow, Nat.add_comm]
  simp [hj]
theorem ite_xor (c d : Bool) (a : Fe) : (if (c ^^ d) then a else 0) = (if c then a else 0) ^^^ (if d then a else 0) := by
  cases c <;> cases d <;> simp
theorem pr_xor (h : Fe) (w v k : Nat) : pr h ((w ^^^ v) / 16 ^ k % 16) = pr h (w / 16 ^ k % 16) ^^^ pr h (v / 16 ^ k % 16) := by
  unfold pr
  rw [nib_bit _ k (j := 3) (by omega), nib_bit _ k (j := 2) (by omega), nib_bit _ k (j := 1) (by omega), nib_bit _ k (j := 0) (by omega)]
  rw [nib_bit w k (j := 3) (by omega), nib_bit w k (j := 2) (by omega), nib_bit w k (j := 1) (by omega), nib_bit w k (j := 0) (by omega)]
  rw [nib_bit v k (j := 3) (by omega), nib_bit v k (j := 2) (by omega), nib_bit v k (j := 1) (by omega), nib_bit v k (j := 0) (by omega)]
  simp only [Nat.testBit_xor, ite_xor]
  generalize (if w.testBit (4 * k + 3) then h else 0) = a3
  generalize (if w.testBit (4 * k + 2) then txN h 1 else 0) = a2
  generalize (if w.testBit (4 * k + 1) then txN h 2 else 0) = a1
  generalize (if w.testBit (4 * k + 0) then txN h 3 else 0) = a0
  generalize (if v.testBit (4 * k + 3) then h else 0) = b3
  generalize (if v.testBit (4 * k + 2) then txN h 1 else 0) = b2
  generalize (if v.testBit (4 * k + 1) then txN h 2 else 0) = b1
  generalize (if v.testBit (4 * k + 0) then txN h 3 else 0) = b0
  rw [fx_four a3 b3 a2 b2, fx_four a1 b1 a0 b0, fx_four]
theorem tk_xor (h p q : Fe) (w v k : Nat) : tkF h (p ^^^ q) (w ^^^ v) k = tkF h p w k ^^^ tkF h q v k := by
  induction k with
  | zero => rfl
  | succ k ih =>
    rw [tkF, ih, pr_xor, txN_xor, fx_four]
    rfl
/-- Both words taken: the product. -/
theorem tk_one (e : Fe) : tkF 1 (tkF 1 0 (lB e).toNat 16) (hB e).toNat 16 = e :=
  basis (fun e => tkF 1 (tkF 1 0 (lB e).toNat 16) (hB e).toNat 16) (fun e => e) (fun a b => by
    show tkF 1 (tkF 1 0 (lB (a ^^^ b)).toNat 16) (hB (a ^^^ b)).toNat 16 = _
    rw [lB_xor, hB_xor, BitVec.toNat_xor, BitVec.toNat_xor]
    have := tk_xor 1 0 0 (lB a).toNat (lB b).toNat 16
    rw [fx_self] at this
    rw [this, tk_xor]) (fun _ _ => rfl) (by decide +kernel) e
theorem tk_mul (e h : Fe) : tkF h (tkF h 0 (lB e).toNat 16) (hB e).toNat 16 = fmul e h := by
  have := fmul_tk h (tkF 1 0 (lB e).toNat 16) (hB e).toNat 16
  rw [tk_one, fmul_tk h 0, fmul_comm 0 h, fmul_zero] at this
  exact this.symm

/-- The bits of the number of at most eight bytes. -/
theorem getN_bit : ∀ (m : Nat) (l : List UInt8), l.length = m → m ≤ 8 → getN l < 2 ^ (8 * m) ∧ ∀ i, i < 8 * m → (getN l).testBit (8 * m - 1 - i) = bitB l i := by
  intro m
  induction m with
  | zero => intro l hl _; rw [List.length_eq_zero_iff.1 hl]; exact ⟨by decide, fun i hi => by omega⟩
  | succ m ih =>
    intro l hl hm
    have hne : l ≠ [] := by intro e; rw [e] at hl; simp at hl
    obtain ⟨r, x, rfl⟩ : ∃ r x, l = r ++ [x] := ⟨l.dropLast, l.getLast hne, (List.dropLast_concat_getLast hne).symm⟩
    have hr : r.length = m := by simp at hl; exact hl
    obtain ⟨hb, hi⟩ := ih r hr (by omega)
    have hx := UInt8.toNat_lt x
    have hp : (2 : Nat) ^ (8 * (m + 1)) = 2 ^ (8 * m) * 256 := by rw [show 8 * (m + 1) = 8 * m + 8 from by omega, Nat.pow_add]
    have hp2 : (2 : Nat) ^ (8 * (m + 1)) ≤ 2 ^ 64 := Nat.pow_le_pow_right (by omega) (by omega)
    have e : getN (r ++ [x]) = 2 ^ 8 * getN r + x.toNat := by
      rw [getN_snoc, Nat.mod_eq_of_lt]
      · omega
      · rw [show (18446744073709551616 : Nat) = 2 ^ 64 from rfl]
        omega
    refine ⟨by rw [e]; omega, fun i hlt => ?_⟩
    rw [e, Nat.testBit_two_pow_mul_add _ hx]
    by_cases h8 : 8 * (m + 1) - 1 - i < 8
    · rw [if_pos h8]
      have hq : i / 8 = m := by omega
      unfold bitB
      rw [hq, show (r ++ [x]).getD m 0 = x from by rw [List.getD_eq_getElem?_getD, ← hr]; simp]
      have hl2 : m < (r ++ [x]).length := by simp [hr]
      simp only [hl2, decide_true, Bool.true_and]
      have hs : 8 * (m + 1) - 1 - i = 7 - i % 8 := by omega
      rw [hs]
      have : ∀ b : Fin 256, ∀ s : Fin 8, (UInt8.ofNat b.val).toNat.testBit s.val = decide ((UInt8.ofNat b.val >>> UInt8.ofNat s.val) &&& 1 = 1) := by decide +kernel
      have h := this ⟨x.toNat, hx⟩ ⟨7 - i % 8, by omega⟩
      simpa using h
    · rw [if_neg h8]
      have := hi i (by omega)
      rw [show 8 * (m + 1) - 1 - i - 8 = 8 * m - 1 - i from by omega, this]
      unfold bitB
      have h1 : i / 8 < r.length := by omega
      have h2 : i / 8 < (r ++ [x]).length := by simp; omega
      simp only [h1, h2, decide_true, Bool.true_and]
      rw [show (r ++ [x]).getD (i / 8) 0 = r.getD (i / 8) 0 from by rw [List.getD_eq_getElem?_getD, List.getD_eq_getElem?_getD, List.getElem?_append_left h1]]
theorem hB_feB {l m : List UInt8} (hl : l.length = 8) : (hB (feB (l ++ m))).toNat = getN l := by
  obtain ⟨hb, hi⟩ := getN_bit 8 l hl (by omega)
  apply Nat.eq_of_testBit_eq
  intro i
  by_cases h : i < 64
  · have e1 : (hB (feB (l ++ m))).toNat.testBit i = (feB (l ++ m)).getLsbD (63 - i) := hB_bit _ h
    have := hi (63 - i) (by omega)
    rw [show 8 * 8 - 1 - (63 - i) = i from by omega] at this
    rw [e1, this, feB_bit _ (by omega)]
    unfold bitB
    have h1 : (63 - i) / 8 < l.length := by omega
    have h2 : (63 - i) / 8 < (l ++ m).length := by simp; omega
    simp only [h1, h2, decide_true, Bool.true_and]
    rw [show (l ++ m).getD ((63 - i) / 8) 0 = l.getD ((63 - i) / 8) 0 from by rw [List.getD_eq_getElem?_getD, List.getD_eq_getElem?_getD, List.getElem?_append_left h1]]
  · have hp : (2 : Nat) ^ 64 ≤ 2 ^ i := Nat.pow_le_pow_right (by omega) (by omega)
    rw [Nat.testBit_lt_two_pow (Nat.lt_of_lt_of_le (hB _).isLt hp), Nat.testBit_lt_two_pow (Nat.lt_of_lt_of_le hb hp)]
theorem lB_feB {l m : List UInt8} (hl : l.length = 8) (hm : m.length = 8) : (lB (feB (l ++ m))).toNat = getN m := by
  obtain ⟨hb, hi⟩ := getN_bit 8 m hm (by omega)
  apply Nat.eq_of_testBit_eq
  intro i
  by_cases h : i < 64
  · have e1 : (lB (feB (l ++ m))).toNat.testBit i = (feB (l ++ m)).getLsbD (127 - i) := lB_bit _ h
    have := hi (63 - i) (by omega)
    rw [show 8 * 8 - 1 - (63 - i) = i from by omega] at this
    rw [e1, this, feB_bit _ (by omega)]
    unfold bitB
    have h1 : (63 - i) / 8 < m.length := by omega
    have h2 : (127 - i) / 8 < (l ++ m).length := by simp; omega
    simp only [h1, h2, decide_true, Bool.true_and]
    rw [show (l ++ m).getD ((127 - i) / 8) 0 = m.getD ((63 - i) / 8) 0 from by rw [List.getD_eq_getElem?_getD, List.getD_eq_getElem?_getD, List.getElem?_append_right (by omega), show (127 - i) / 8 - l.length = (63 - i) / 8 from by omega]]
    rw [show (127 - i) % 8 = (63 - i) % 8 from by omega]
  · have hp : (2 : Nat) ^ 64 ≤ 2 ^ i := Nat.pow_le_pow_right (by omega) (by omega)
    rw [Nat.testBit_lt_two_pow (Nat.lt_of_lt_of_le (lB _).isLt hp), Nat.testBit_lt_two_pow (Nat.lt_of_lt_of_le hb hp)]
/-- An element's bytes are those of its two words. -/
theorem byF_words (a : Fe) : putL (hB a).toNat 8 ++ putL (lB a).toNat 8 = byF a := by
  have h8 := putL_length 8 (hB a).toNat
  have l8 := putL_length 8 (lB a).toNat
  rw [← byF_feB (l := putL (hB a).toNat 8 ++ putL (lB a).toNat 8) (by rw [List.length_append, h8, l8])]
  congr 1
  apply words_ext
  · apply BitVec.eq_of_toNat_eq
    rw [hB_feB h8, getN_put8 _ (hB a).isLt]
  · apply BitVec.eq_of_toNat_eq
    rw [lB_feB h8 l8, getN_put8 _ (lB a).isLt]
/-- Only the first sixteen bytes count, and noughts behind fewer. -/
theorem feB_pad (l : List UInt8) (n : Nat) : feB (l.take 16 ++ List.replicate n 0) = feB l := by
  apply BitVec.eq_of_getLsbD_eq
  intro i hi
  rw [feB_bit _ hi, feB_bit _ hi]
  unfold bitB
  by_cases h1 : i / 8 < l.length
  · have h2 : i / 8 < (l.take 16).length := by simp; omega
    have h3 : i / 8 < (l.take 16 ++ List.replicate n 0).length := by rw [List.length_append]; omega
    simp only [h1, h3, decide_true, Bool.true_and]
    rw [show (l.take 16 ++ List.replicate n (0 : UInt8)).getD (i / 8) 0 = l.getD (i / 8) 0 from by rw [List.getD_eq_getElem?_getD, List.getD_eq_getElem?_getD, List.getElem?_append_left h2, List.getElem?_take_of_lt (by omega)]]
  · have h2 : (l.take 16).length ≤ i / 8 := by simp; omega
    have : (l.take 16 ++ List.replicate n 0).getD (i / 8) 0 = 0 := by
      rw [List.getD_eq_getElem?_getD, List.getElem?_append_right h2, List.getElem?_replicate]
      split <;> rfl
    rw [this]
    have hz : ∀ s : Fin 8, decide (((0 : UInt8) >>> UInt8.ofNat (7 - s.val)) &&& 1 = 1) = false := by decide +kernel
    have := hz ⟨i % 8, by omega⟩
    simp only [] at this
    rw [this]
    simp [h1]

end Go.Proofs.YtlenmkhmkommcaaGreat
