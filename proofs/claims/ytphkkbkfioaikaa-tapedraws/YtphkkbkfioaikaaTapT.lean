/-
  Both tapes of layer 11's statements, side by side ('TwoT'): the program's, and the reference's in a variable. No condition; no statement of the seat is proved here.
-/
import Derived.Test.YtphkkbkfioaikaaTapRB
import Derived.Test.YtphkkbkfioaikaaTapRC
namespace Go.Proofs.Ytphkkbkfioaikaa
open Go.RowKit

/-- The program's tape T, the reference's R, whose keys lie in blocks from B1 up to B2, in the variable X; all newer than w0. -/
structure TwoT (w0 wr : World) (X t kb B1 B2 : Nat) (q : Tri) (T R : TapS) : Prop where
  tp : Tp wr t kb T
  rt : RT (fun j => B1 ≤ j ∧ j < B2) wr R.l q
  bx : Blk wr X (tcC R q) 28
  bel : Below w0.heap.size w0 wr
  ht : w0.heap.size ≤ t ∧ t < B1 ∧ kb < B1 ∧ B1 ≤ B2 ∧ B2 ≤ X ∧ w0.heap.size ≤ X
theorem TwoT.grow {w0 wr w' : World} {X t kb B1 B2 : Nat} {q : Tri} {T R : TapS} (h : TwoT w0 wr X t kb B1 B2 q T R) (k : Below wr.heap.size wr w') : TwoT w0 w' X t kb B1 B2 q T R :=
  ⟨h.tp.grow k, h.rt.below k, h.bx.below k h.bx.lt, h.bel.trans (k.mono h.bel.size), h.ht⟩
theorem TwoT.ref {w0 wr w' : World} {X t kb B1 B2 : Nat} {q : Tri} {T R R' : TapS} (h : TwoT w0 wr X t kb B1 B2 q T R) (k : Kp (fun j => j = X) wr w') (hb : Blk w' X (tcC R' q) 28) (hl : R'.l = R.l) : TwoT w0 w' X t kb B1 B2 q T R' :=
  ⟨h.tp.keep k (by have := h.ht; omega) (by have := h.ht; omega), by rw [hl]; exact h.rt.kp k fun j hj e => by have := h.ht; omega, hb, h.bel.trans (k.below h.bel.size fun j hj e => by have := h.ht; omega), h.ht⟩
theorem TwoT.prog {w0 wr w' : World} {X t kb B1 B2 : Nat} {q : Tri} {T R T' : TapS} (h : TwoT w0 wr X t kb B1 B2 q T R) (k : Kp (fun j => j = t) wr w') (hb : Tp w' t kb T') : TwoT w0 w' X t kb B1 B2 q T' R :=
  ⟨hb, h.rt.kp k fun j hj e => by have := h.ht; omega, k.blk h.bx (by have := h.ht; omega), h.bel.trans (k.below h.bel.size fun j hj e => by have := h.ht; omega), h.ht⟩
theorem TapS.draw_l (T : TapS) : T.draw.1.l = T.l := by
  unfold TapS.draw
  split <;> rfl
theorem TapS.draw_x {T : TapS} (h : T.next ≤ T.l.length) : T.draw.1.next ≤ T.draw.1.l.length := by
  unfold TapS.draw
  split
  · show T.next + 1 ≤ T.l.length
    omega
  · exact h
theorem TapS.draw_c (T : TapS) : T.draw.2.2 = 0 ∨ T.draw.2.2 = 8 := by
  unfold TapS.draw
  split
  · exact Or.inl rfl
  · exact Or.inr rfl
theorem tcV_new (l : List (List UInt8)) (la : Option Addr) (ln lc : Nat) : tcV (TapS.new l) ⟨la, ln, lc⟩ = .agg #[.slice la ln lc, .int .i64 0] := rfl
theorem tcC_new (l : List (List UInt8)) (la : Option Addr) (ln lc : Nat) : tcC (TapS.new l) ⟨la, ln, lc⟩ = [.slice la ln lc, .int .i64 0] := rfl
theorem tcV_eq (T : TapS) (la : Option Addr) (ln lc : Nat) : tcV T ⟨la, ln, lc⟩ = .agg #[.slice la ln lc, .int .i64 (T.next : Int)] := rfl
theorem tcC_eq (T : TapS) (la : Option Addr) (ln lc : Nat) : tcC T ⟨la, ln, lc⟩ = [.slice la ln lc, .int .i64 (T.next : Int)] := rfl

end Go.Proofs.Ytphkkbkfioaikaa
