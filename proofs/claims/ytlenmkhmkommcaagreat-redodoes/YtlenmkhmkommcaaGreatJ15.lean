/-
  8 texts in one. No statement of the seat is proved here.
-/
import Derived.Test.YtlenmkhmkommcaaGreatJ14
import Derived.Laws.BytesArg
import Derived.Laws.IdiomStrings
import Derived.Lib.ConvBytes
import Derived.Laws.AppendOwn
/-
  'string(b)' of bytes of the call's own. No condition; no statement of the seat is proved here.
-/
namespace Go.Proofs.YtlenmkhmkommcaaGreat
open Go.RowKit

theorem Own.shape {w : World} {base : Nat} {v : Value} {l : List UInt8} (h : Own w base v l) : ∃ a m c, v = .slice a m c ∧ (a = none ∨ ∃ g, a = some ⟨g, 0, none⟩) := by
  obtain ⟨_, h2⟩ := h
  rcases h2 with ⟨rfl, _⟩ | ⟨g, cap, cur, rfl, _⟩
  · exact ⟨none, 0, 0, rfl, Or.inl rfl⟩
  · exact ⟨_, _, cap, rfl, Or.inr ⟨g, rfl⟩⟩

/-- 'string(b)' of bytes of the call's own. -/
theorem Own.str {w : World} {base : Nat} {a : Option Addr} {m c : Nat} {l : List UInt8} (h : Own w base (.slice a m c) l) : Sem.run Tryz.prog (convert 26 9 (.slice a m c)) w = .ok (.string ⟨l.toArray⟩) w := by
  have hb := h.toBs
  obtain ⟨a', m', c', e, hs⟩ := h.shape
  simp only [Value.slice.injEq] at e
  obtain ⟨rfl, rfl, rfl⟩ := e
  rcases hs with rfl | ⟨g, rfl⟩
  · have hc := hb.2.2.2.1 rfl
    have hcap := hb.cap
    have e : l = [] := List.length_eq_zero_iff.1 (by rw [hb.len]; omega)
    subst e
    rw [run_convert_bytes_nil w 26 5 Tryz.underlying26 Tryz.underlying5 m c 9 Tryz.underlying9]
    rfl
  · rw [run_convert_bytes_arg w 26 5 Tryz.underlying26 Tryz.underlying5 g 0 m c (l.map fun x => (x.toNat : Int)) (by simp [hb.len]) ?_ 9 Tryz.underlying9]
    · have e : strOfNums (l.map fun x => (x.toNat : Int)) = ⟨l.toArray⟩ := by
        unfold strOfNums
        simp [Function.comp_def]
      rw [e]
    · intro i hi
      obtain ⟨b, o, ha, hc⟩ := hb.2.2.2.2 i hi
      simp at ha
      obtain ⟨rfl, rfl⟩ := ha
      rw [hc]
      have hi' : i < l.length := by rw [hb.len]; exact hi
      rw [bt_of_lt hi']
      simp [List.getD_eq_getElem?_getD, hi']
end Go.Proofs.YtlenmkhmkommcaaGreat

/-
  Bytes as a text and a text as bytes: 'string(b)' of whatever bytes, '[]byte(s)' of whatever text. No condition; no statement of the seat is proved here.
-/
namespace Go.Proofs.YtlenmkhmkommcaaGreat
open Go.RowKit

/-- Bytes as a text. -/
def sv (l : List UInt8) : Value := .string ⟨l.toArray⟩
theorem sv_inj {l m : List UInt8} (h : sv l = sv m) : l = m := by
  simp only [sv, Value.string.injEq, ByteArray.mk.injEq] at h
  simpa using h
/-- 'string(b)'. -/
theorem Bs.str {w : World} {a : Option Addr} {m c : Nat} {l : List UInt8} (h : Bs w a m c l) : Sem.run Tryz.prog (convert 26 9 (.slice a m c)) w = .ok (sv l) w := by
  have hl := h.len
  by_cases h0 : m = 0
  · subst h0
    have e : l = [] := List.length_eq_zero_iff.1 hl
    subst e
    rw [run_convert_bytes_string w 26 9 5 a 0 c Tryz.underlying26 Tryz.underlying5 Tryz.underlying9]
    cases a <;> simp [Conv.bytesToString, sv, loadCells] <;> rfl
  · obtain ⟨b, o, rfl, _, hc⟩ := h.at (by omega)
    rw [run_convert_bytes_arg w 26 5 Tryz.underlying26 Tryz.underlying5 b o m c (l.map fun x => (x.toNat : Int)) (by simp [hl]) ?_ 9 Tryz.underlying9]
    · have e : strOfNums (l.map fun x => (x.toNat : Int)) = ⟨l.toArray⟩ := by
        unfold strOfNums
        simp [Function.comp_def]
      rw [e]
      rfl
    · intro i hi
      rw [hc i hi]
      have hi' : i < l.length := by rw [hl]; exact hi
      rw [bt_of_lt hi']
      simp [List.getD_eq_getElem?_getD, hi']
/-- '[]byte(s)'. -/
theorem str_bytes (w : World) (l : List UInt8) (hl : l.length ≤ 1000000) : ∃ c w', Sem.run Tryz.prog (convert 9 26 (sv l)) w = .ok (.slice (some ⟨w.heap.size, 0, none⟩) l.length c) w' ∧ Bs w' (some ⟨w.heap.size, 0, none⟩) l.length c l ∧ w.heap.size < w'.heap.size ∧ Below w.heap.size w w' := by
  have hs : (ByteArray.mk l.toArray).size = l.length := by simp [ByteArray.size]
  refine ⟨grownCap w l.length 0 5, Lib.bytesWorld w 5 ⟨l.toArray⟩, ?_, ⟨rfl, grownCap_ge _ _ _ _, grownCap_le_maxLen _ _ _ _ (by unfold maxLen; omega), fun h => by simp at h, fun i hi => ⟨w.heap.size, 0, rfl, ?_⟩⟩, ?_, ?_⟩
  · have := Lib.run_convert_string_bytes (P := Tryz.prog) w 9 26 5 ⟨l.toArray⟩ Tryz.underlying9 Tryz.underlying26 Tryz.underlying5
    rw [hs] at this
    exact this
  · rw [Nat.zero_add, Lib.bytesWorld_cell w 5 ⟨l.toArray⟩ i (by rw [hs]; exact hi)]
    rfl
  · rw [Lib.bytesWorld_size]
    exact Nat.lt_succ_self _
  · refine ⟨rfl, rfl, rfl, by rw [Lib.bytesWorld_size]; omega, fun k hk => Lib.bytesWorld_at_old w 5 _ k hk⟩

end Go.Proofs.YtlenmkhmkommcaaGreat

/-
  Layer 12's program's sealer in memory ('Se'): its struct, its maps, its tables; keys of the three maps. No condition; no statement of the seat is proved here.
-/
namespace Go.Proofs.YtlenmkhmkommcaaGreat
open Go.RowKit

abbrev KeyP := List UInt8 × List UInt8
abbrev KeyO := List UInt8 × List UInt8 × List UInt8 × List UInt8
def kvP (p : KeyP) : Value := .agg #[sv p.1, sv p.2]
def kvO (o : KeyO) : Value := .agg #[sv o.1, sv o.2.1, sv o.2.2.1, sv o.2.2.2]
/-- What is sealed, as a value. -/
def ctv (b t : List UInt8) : Value := .agg #[sv b, sv t]
def fitW (l : List UInt8) : Prop := l.length ≤ 1000000
def okKP (p : KeyP) : Prop := fitW p.1 ∧ fitW p.2
def okKO (o : KeyO) : Prop := fitW o.1 ∧ fitW o.2.1 ∧ fitW o.2.2.1 ∧ fitW o.2.2.2
theorem fitW.size {l : List UInt8} (h : fitW l) : (ByteArray.mk l.toArray).size ≤ maxLen := by
  unfold fitW at h
  have : (ByteArray.mk l.toArray).size = l.length := by simp [ByteArray.size]
  rw [this]
  unfold maxLen
  omega
theorem types_size : ∃ n, Tryz.prog.types.size + 1 = n + 3 := ⟨Tryz.prog.types.size - 2, by have : 2 ≤ Tryz.prog.types.size := of_decide_eq_true (by kernel_rfl); omega⟩
theorem cells9 : Tryz.prog.cellsOf 9 = 1 := by kernel_rfl
theorem cellsP : Tryz.prog.cellsOf 159 = 2 := by kernel_rfl
theorem cellsO : Tryz.prog.cellsOf 168 = 4 := by kernel_rfl
theorem ktP : Tryz.prog.keyType 159 = true := by kernel_rfl
theorem ktO : Tryz.prog.keyType 168 = true := by kernel_rfl
theorem keysP : KeyS 159 kvP okKP where
  law := deep_law (m := 3) (by omega) (by kernel_rfl) (by kernel_rfl) (by kernel_rfl)
  key := fun a ha => by
    obtain ⟨n, hn⟩ := types_size
    have h1 := ha.1.size
    have h2 := ha.2.size
    refine Option.isSome_iff_exists.1 ?_
    unfold keyOf
    rw [Tryz.underlying159, hn]
    simp [ktP, kvP, sv, Value.formed, Tryz.underlying159, cellsP, cells9, Program.keyLits, Value.cells, Tryz.underlying9, h1, h2]
  inj := fun a b h => by
    simp only [kvP, Value.agg.injEq, Array.mk.injEq, List.cons.injEq, and_true] at h
    exact Prod.ext (sv_inj h.1) (sv_inj h.2)
theorem keysO : KeyS 168 kvO okKO where
  law := deep_law (m := 4) (by omega) (by kernel_rfl) (by kernel_rfl) (by kernel_rfl)
  key := fun a ha => by
    obtain ⟨n, hn⟩ := types_size
    have h1 := ha.1.size
    have h2 := ha.2.1.size
    have h3 := ha.2.2.1.size
    have h4 := ha.2.2.2.size
    refine Option.isSome_iff_exists.1 ?_
    unfold keyOf
    rw [Tryz.underlying168, hn]
    simp [ktO, kvO, sv, Value.formed, Tryz.underlying168, Tryz.underlying159, cellsP, cellsO, cells9, Program.keyLits, Value.cells, Tryz.underlying9, h1, h2, h3, h4]
    rw [if_pos (by
      intro i hi
      match i, hi with
      | 0, _ => simp
      | 1, _ => simp)]
    rfl
  inj := fun a b h => by
    simp only [kvO, Value.agg.injEq, Array.mk.injEq, List.cons.injEq, and_true] at h
    exact Prod.ext (sv_inj h.1) (Prod.ext (sv_inj h.2.1) (Prod.ext (sv_inj h.2.2.1) (sv_inj h.2.2.2)))

/-- Where a sealer's parts lie: the map of first things, that of openings, the tables, the map of keys. -/
structure SeaM where
  m1 : Nat
  m2 : Nat
  tb : Option Addr
  ks : Option Nat
def seC (S : SeaS) (M : SeaM) : List Value := [.bool S.ideal, .pointer M.tb, .int .i64 (S.book.length : Int), .map (some M.m1), .map (some M.m2), .bool S.reused, .bool S.forged, .int .u64 (S.count : Int), .map M.ks]
def fstK (S : SeaS) : KeyP → Option Value := fun p => (S.first p.1 p.2).map fun e => ctv e.beside e.text
def kidK (S : SeaS) : KeyP → Option Value := fun p => (S.kid p.1 p.2).map fun c => .int .u64 (c.num : Int)
/-- What an opening has in the map: something just if it stands in the book; ideally the text of the first thing. -/
def TxtK (S : SeaS) (g : KeyO → Option Value) : Prop := ∀ o : KeyO, match S.known o.1 o.2.1 o.2.2.1 o.2.2.2 with
  | none => g o = none
  | some t => ∃ t', g o = some (ctv o.2.2.1 t') ∧ fitW t' ∧ (S.ideal = true → t' = t)
/-- The sealer in block r; all its blocks are in U. -/
structure Se (U : Nat → Prop) (w : World) (r : Nat) (S : SeaS) (M : SeaM) : Prop where
  lt : ∀ j, U j → j < w.heap.size
  inR : U r
  blk : Blk w r (seC S M) 100
  in1 : U M.m1
  in2 : U M.m2
  ne12 : M.m1 ≠ M.m2
  first : Mks kvP okKP w M.m1 (fstK S)
  texts : ∃ g, Mks kvO okKO w M.m2 g ∧ TxtK S g
  keys : S.ideal = true → ∃ m3, M.ks = some m3 ∧ U m3 ∧ m3 ≠ M.m1 ∧ m3 ≠ M.m2 ∧ Mks kvP okKP w m3 (kidK S)
  tab : S.ideal = false → ∃ g, M.tb = some ⟨g, 0, none⟩ ∧ U g ∧ Blk w g (cs tabT) 140
  bound : S.count + S.book.length ≤ 1000000

theorem Blk.same {w w' : World} {g : Nat} {vs : List Value} {t : TypeId} (h : Blk w g vs t) (e : w'.heap[g]? = w.heap[g]?) : Blk w' g vs t := by
  unfold Blk
  rw [e]
  exact h
/-- What is not the sealer's was written. -/
theorem Se.keep {U : Nat → Prop} {w w' : World} {r : Nat} {S : SeaS} {M : SeaM} (h : Se U w r S M) (hs : w.heap.size ≤ w'.heap.size) (hk : ∀ j, U j → w'.heap[j]? = w.heap[j]?) : Se U w' r S M := by
  refine ⟨fun j hj => Nat.lt_of_lt_of_le (h.lt j hj) hs, h.inR, h.blk.same (hk r h.inR), h.in1, h.in2, h.ne12, h.first.same (hk _ h.in1), ?_, fun hi => ?_, fun hi => ?_, h.bound⟩
  · obtain ⟨g, h1, h2⟩ := h.texts
    exact ⟨g, h1.same (hk _ h.in2), h2⟩
  · obtain ⟨m3, h1, h2, h3, h4, h5⟩ := h.keys hi
    exact ⟨m3, h1, h2, h3, h4, h5.same (hk _ h2)⟩
  · obtain ⟨g, h1, h2, h3⟩ := h.tab hi
    exact ⟨g, h1, h2, h3.same (hk _ h2)⟩
theorem Se.grow {U : Nat → Prop} {w w' : World} {r : Nat} {S : SeaS} {M : SeaM} (h : Se U w r S M) (hb : Below w.heap.size w w') : Se U w' r S M := h.keep hb.size fun j hj => hb.block j (h.lt j hj)
theorem Se.kp {U F : Nat → Prop} {w w' : World} {r : Nat} {S : SeaS} {M : SeaM} (h : Se U w r S M) (k : Kp F w w') (hF : ∀ j, U j → ¬ F j) : Se U w' r S M := h.keep k.size fun j hj => k.block j (h.lt j hj) (hF j hj)
/-- The struct alone was written: a field of it. -/
theorem Se.put {U : Nat → Prop} {w w' : World} {r : Nat} {S S' : SeaS} {M : SeaM} (h : Se U w r S M) (k : Kp (fun j => j = r) w w') (hb : Blk w' r (seC S' M) 100) (hi : S'.ideal = S.ideal) (hbk : S'.book = S.book) (hkd : S'.kids = S.kids) (hn : S'.count + S'.book.length ≤ 1000000) : Se U w' r S' M := by
  have hf : fstK S' = fstK S := by unfold fstK SeaS.first; rw [hbk]
  have hkk : kidK S' = kidK S := by unfold kidK SeaS.kid; rw [hkd]
  refine ⟨fun j hj => Nat.lt_of_lt_of_le (h.lt j hj) k.size, h.inR, hb, h.in1, h.in2, h.ne12, ?_, ?_, fun hi' => ?_, fun hi' => ?_, hn⟩
  · rw [hf]
    exact h.first.same (k.block _ h.first.lt (h.first.notCells h.blk).symm)
  · obtain ⟨g, h1, h2⟩ := h.texts
    refine ⟨g, h1.same (k.block _ h1.lt (h1.notCells h.blk).symm), ?_⟩
    unfold TxtK SeaS.known at h2 ⊢
    rw [hbk, hi]
    exact h2
  · obtain ⟨m3, h1, h2, h3, h4, h5⟩ := h.keys (hi ▸ hi')
    exact ⟨m3, h1, h2, h3, h4, by rw [hkk]; exact h5.same (k.block _ h5.lt (h5.notCells h.blk).symm)⟩
  · obtain ⟨g, h1, h2, h3⟩ := h.tab (hi ▸ hi')
    refine ⟨g, h1, h2, k.blk h3 fun e => ?_⟩
    rw [e] at h3
    have h4 := h.blk
    unfold Blk at h3 h4
    rw [h4] at h3
    simp only [Option.some.injEq, Obj.cells.injEq] at h3
    exact absurd h3.2.1 (by decide)

end Go.Proofs.YtlenmkhmkommcaaGreat

/-
  Two and three new variables in a region that draws its order: whichever is made first. No condition; no statement of the seat is proved here.
-/
namespace Go.Proofs.YtlenmkhmkommcaaGreat
open Go.RowKit


theorem Grows.alloc (w : World) (o : Obj) : Grows w (w.alloc o) := below_alloc w o
theorem Blk.grows {w w' : World} {g : Nat} {vs : List Value} {t : TypeId} (h : Blk w g vs t) (hg : Grows w w') : Blk w' g vs t := h.below hg h.lt
theorem alloc1 {P : Program} {ops : Array Oper} {Q : Exit → Act → World → Prop} {md : Region.Mode} {S : World → Prop} (hS : ∀ w w', S w → Grows w w' → S w') {cells : Array Value} {t : TypeId} (i : Nat) (d : Tmp) (m : Makes P ops i d cells t) {fuel : Nat} {listed : Array Bool} {a : Act} {w : World} (hr : Region.ready md ops listed = [i])
    (h : ∀ g w', Grows w w' → S w' → Blk w' g cells.toList t → w.heap.size ≤ g → wpAnyG P md ops Q S fuel (listed.setIfInBounds i true) (a.put (some d) (.pointer (some ⟨g, 0, none⟩))) w') : wpAnyG P md ops Q S (fuel + 1) listed a w := by
  refine oneG i hr fun w' hg hs => m.op ⟨hS _ _ hs (Grows.alloc _ _), ?_⟩
  exact h _ _ (hg.trans (Grows.alloc _ _)) (hS _ _ hs (Grows.alloc _ _)) (Blk.new w' _ _) (Below.size hg)

end Go.Proofs.YtlenmkhmkommcaaGreat

/-
  Slices of bytes in a world that has only grown. No condition; no statement of the seat is proved here.
-/
namespace Go.Proofs.YtlenmkhmkommcaaGreat
open Go.RowKit

theorem Bs.grows {w w' : World} {a : Option Addr} {n c : Nat} {l : List UInt8} (h : Bs w a n c l) (hg : Grows w w') : Bs w' a n c l := h.below hg (Nat.le_refl _)

end Go.Proofs.YtlenmkhmkommcaaGreat

/-
  'make' of bytes in a region that draws its order. No condition; no statement of the seat is proved here.
-/
namespace Go.Proofs.YtlenmkhmkommcaaGreat
open Go.RowKit

end Go.Proofs.YtlenmkhmkommcaaGreat

/-
  'make' of bytes and of bools in a region that draws its order. No condition; no statement of the seat is proved here.
-/
namespace Go.Proofs.YtlenmkhmkommcaaGreat
open Go.RowKit

end Go.Proofs.YtlenmkhmkommcaaGreat

/-
  Two operations of a region that draws its order, each of which answers new memory: whichever comes first. No condition; no statement of the seat is proved here.
-/
namespace Go.Proofs.YtlenmkhmkommcaaGreat
open Go.RowKit

/-- The operation leaves a value and a world of which A holds, and the world has only grown. -/
def Mk (P : Program) (ops : Array Oper) (Q : Exit → Act → World → Prop) (S : World → Prop) (i : Nat) (d : Tmp) (A : Value → World → Prop) (a : Act) : Prop :=
  ∀ (K : Act → World → Prop) (w : World), S w → (∀ v w', A v w' → Grows w w' → S w' → K (a.put (some d) v) w') → wpOp P ops Q i K a w
end Go.Proofs.YtlenmkhmkommcaaGreat
