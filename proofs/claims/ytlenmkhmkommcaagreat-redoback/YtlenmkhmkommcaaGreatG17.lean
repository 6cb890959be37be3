/-
  8 texts in one. No statement of the seat is proved here.
-/
import Derived.Test.YtlenmkhmkommcaaGreatG16
import Derived.Deep.RegionHeld3
/-
  The contracts of the reference's roundKey, shifted and mixed. Conditions: blocks of 16 bytes; the box of all bytes, and the words of all rounds' keys, lie where the slices lead.
-/
namespace Go.Proofs.YtlenmkhmkommcaaGreat
open Go.RowKit

/-- The words of all rounds' keys. -/
def wdsL (F : List UInt8) : List (List UInt8) := (List.range 60).map (wd F)
end Go.Proofs.YtlenmkhmkommcaaGreat

/-
  The contract of the reference's mixed. Condition: a block of 16 bytes.
-/
namespace Go.Proofs.YtlenmkhmkommcaaGreat
open Go.RowKit

/-- Multiplied, by a number as the program has it. -/
def tmsI (x : UInt8) (z : Int) : UInt8 := tms x (UInt8.ofNat z.toNat)
end Go.Proofs.YtlenmkhmkommcaaGreat

/-
  The contract of the reference's Words: the words of all rounds' keys. Condition: a key of 32 bytes; the box of all bytes lies where the slice leads.
-/
namespace Go.Proofs.YtlenmkhmkommcaaGreat
open Go.RowKit

/-- A slice that lies in old memory, or in a block of bytes. -/
def Bytes5 (w : World) (base : Nat) (p : Option Addr) : Prop := ∀ x, p = some x → x.block < w.heap.size ∧ (x.block < base ∨ ∃ cur f, w.heap[x.block]? = some (.cells cur 5 f))
/-- The slices vs hold the words of F, each in old memory, or in a block of bytes. -/
def WordsIn (w : World) (base : Nat) (F : List UInt8) (vs : List Value) : Prop := ∀ i, i < vs.length → ∃ p q, vs[i]? = some (.slice p 4 q) ∧ Bs w p 4 q (wd F i) ∧ Bytes5 w base p

theorem Bytes5.below {w w' : World} {base : Nat} {p : Option Addr} (h : Bytes5 w base p) (hb : Below w.heap.size w w') : Bytes5 w' base p := fun x hx => by
  obtain ⟨h1, h2⟩ := h x hx
  refine ⟨Nat.lt_of_lt_of_le h1 hb.size, ?_⟩
  rcases h2 with h2 | ⟨cur, f, h2⟩
  · exact Or.inl h2
  · exact Or.inr ⟨cur, f, by rw [hb.block _ h1]; exact h2⟩
theorem WordsIn.below {w w' : World} {base : Nat} {F : List UInt8} {vs : List Value} (h : WordsIn w base F vs) (hb : Below w.heap.size w w') : WordsIn w' base F vs := fun i hi => by
  obtain ⟨p, q, e, hB, h5⟩ := h i hi
  exact ⟨p, q, e, hB.below hb (Nat.le_refl _), h5.below hb⟩
theorem OwnV.not5 {w : World} {base : Nat} {v : Value} {vs : List Value} (h : OwnV w base v vs) {p : Option Addr} (h5 : Bytes5 w base p) (x : Addr) (hx : p = some x) : v.ownBlock ≠ some x.block := fun e => by
  obtain ⟨h1, h2⟩ := h5 x hx
  rcases h2 with h2 | ⟨cur, f, h2⟩
  · have := h.size _ e
    omega
  · rcases h.2 with ⟨rfl, _⟩ | ⟨g, cap, cur', rfl, _, hg, _⟩
    · simp [Value.ownBlock] at e
    · simp only [Value.ownBlock, Option.some.injEq] at e
      rw [e, h2] at hg
      simp only [Option.some.injEq, Obj.cells.injEq] at hg
      exact absurd hg.2.1 (by decide)
theorem Bytes5.grown {w w' : World} {base : Nat} {r : Option Nat} {p : Option Addr} (h : Bytes5 w base p) (hg : w.grownBy w' r) (hr : ∀ x, p = some x → r ≠ some x.block) : Bytes5 w' base p := fun x hx => by
  obtain ⟨h1, h2⟩ := h x hx
  refine ⟨Nat.lt_of_lt_of_le h1 hg.size, ?_⟩
  rcases h2 with h2 | ⟨cur, f, h2⟩
  · exact Or.inl h2
  · exact Or.inr ⟨cur, f, by rw [hg.block _ h1 (fun e => hr x hx e.symm)]; exact h2⟩
/-- Slices of slices that are owned begin somewhere. -/
theorem OwnV.at {w : World} {base : Nat} {v : Value} {vs : List Value} (h : OwnV w base v vs) (hn : 0 < vs.length) : ∃ g cap, v = .slice (some ⟨g, 0, none⟩) vs.length cap ∧ ∀ i, i < vs.length → w.cell? ⟨g, i, none⟩ = vs[i]? := by
  have h' := h
  rcases h.2 with ⟨_, h0⟩ | ⟨g, cap, cur, rfl, _, _, _⟩
  · omega
  · refine ⟨g, cap, rfl, fun i hi => ?_⟩
    have := World.ownsRow.cellAt h' i (by omega)
    simpa using this
end Go.Proofs.YtlenmkhmkommcaaGreat

/-
  The contract of the reference's Block. Conditions: a block of 16 bytes; the box of all bytes, and the words of all rounds' keys, lie where the slices lead.
-/
namespace Go.Proofs.YtlenmkhmkommcaaGreat
open Go.RowKit

end Go.Proofs.YtlenmkhmkommcaaGreat

/-
  The contract of the reference's Put: the lowest bytes of a number, the highest first, in memory of the call's own. Conditions: the number fits 64 bits; the size is at most 1000000.
-/
namespace Go.Proofs.YtlenmkhmkommcaaGreat
open Go.RowKit

end Go.Proofs.YtlenmkhmkommcaaGreat

/-
  The contract of layer 6's reference's counter: the sealed block of a nonce and a number. Conditions: the key's parts lie where its slices lead; a nonce of 12 bytes; a number below 2^32.
-/
namespace Go.Proofs.YtlenmkhmkommcaaGreat
open Go.RowKit

/-- A key of the reference, in its parts: the box, the words, the element's bits. -/
structure KeyR (w : World) (K : List UInt8) (a1 a2 a3 : Option Addr) (c1 c2 c3 : Nat) : Prop where
  box : Bs w a1 256 c1 boxT
  words : Bss w a2 60 c2 (wdsL K)
  elem : Bo w a3 128 c3 (fb (hKey K))
theorem KeyR.below {w w' : World} {K : List UInt8} {a1 a2 a3 : Option Addr} {c1 c2 c3 : Nat} (h : KeyR w K a1 a2 a3 c1 c2 c3) (hb : Below w.heap.size w w') : KeyR w' K a1 a2 a3 c1 c2 c3 :=
  ⟨h.box.below hb (Nat.le_refl _), h.words.below hb (Nat.le_refl _), h.elem.below hb (Nat.le_refl _)⟩
def kv (a1 a2 a3 : Option Addr) (c1 c2 c3 : Nat) : Value := .agg #[.slice a1 256 c1, .slice a2 60 c2, .slice a3 128 c3]

end Go.Proofs.YtlenmkhmkommcaaGreat

/-
  append of bytes that tells which block alone was written. No condition; no statement of the seat is proved here.
-/
namespace Go.Proofs.YtlenmkhmkommcaaGreat
open Go.RowKit

theorem Own.lt {w : World} {base : Nat} {v : Value} {l : List UInt8} (h : Own w base v l) : ∀ k, v.ownBlock = some k → k < w.heap.size := fun k hk => (World.ownsRow.lt h k hk).2

end Go.Proofs.YtlenmkhmkommcaaGreat

/-
  append of bytes as one step of a region that draws its order, told which block alone was written, and where the answer lies. No condition; no statement of the seat is proved here.
-/
namespace Go.Proofs.YtlenmkhmkommcaaGreat
open Go.RowKit

end Go.Proofs.YtlenmkhmkommcaaGreat
