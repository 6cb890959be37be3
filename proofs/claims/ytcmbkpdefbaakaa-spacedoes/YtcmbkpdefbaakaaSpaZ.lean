/-
  Both spaces of SpaceDoes: the program's and the reference's, in memory of their own. Conditions: none but that the space may be.
-/
import Derived.Test.YtcmbkpdefbaakaaSpaV
import Derived.Test.YtcmbkpdefbaakaaSpaW
namespace Go.Proofs.Ytcmbkpdefbaakaa
open Go.RowKit

/-- Whatever the law does not write by itself: neither the reference's variable, nor the program's blocks. -/
def Free15 (X t : Nat) (j : Nat) : Prop := j ≠ X ∧ j ≠ t
/-- Both spaces: the program's in s and t, the reference's in the variable X. -/
structure Two15 (w : World) (s t X n f : Nat) (S : SpS) (p : Option Addr) (c : Nat) : Prop where
  sp : Sp w s t S
  bx : Blk w X [.int .i64 (f : Int), .slice p n c] 30
  rz : RZ (Free15 X t) w S p c
  good : S.good
  fst : S.first = f
  len : S.l.length = n
  ne1 : X ≠ s
  ne2 : X ≠ t
theorem Two15.grow {w w' : World} {s t X n f : Nat} {S : SpS} {p : Option Addr} {c : Nat} (h : Two15 w s t X n f S p c) (k : Below w.heap.size w w') : Two15 w' s t X n f S p c := ⟨h.sp.grow k, h.bx.below k h.bx.lt, h.rz.grow k, h.good, h.fst, h.len, h.ne1, h.ne2⟩
theorem Two15.new {w : World} {s t X n f : Nat} {S : SpS} {p : Option Addr} {c : Nat} (h : Two15 w s t X n f S p c) : ∀ j, w.heap.size ≤ j → Free15 X t j := fun j hj => by
  have h1 := h.bx.lt
  have h2 := h.sp.lt2
  exact ⟨by omega, by omega⟩
theorem tFree {w : World} {s t X n f : Nat} {S : SpS} {p : Option Addr} {c : Nat} (h : Two15 w s t X n f S p c) : Calls Try.prog 10 #[.agg #[.int .i64 (f : Int), .slice p n c]] w fun e w' => e = .returned (.int .i64 (freeL S.l : Int)) ∧ Below w.heap.size w w' := by
  have := rFree15 w h.rz h.sp.ok
  rw [zc_eq, h.fst, h.len] at this
  exact this
theorem tTake {w : World} {s t X n f : Nat} {S : SpS} {p : Option Addr} {c : Nat} (h : Two15 w s t X n f S p c) (z : Int) : Calls Try.prog 11 #[.agg #[.int .i64 (f : Int), .slice p n c], .int .i64 z] w fun e w' => ∃ p' c', e = .returned (.tuple #[.agg #[.int .i64 (f : Int), .slice p' n c'], .int .i64 (S.take z).2.1, .int .i64 (S.take z).2.2]) ∧ RZ (Free15 X t) w' (S.take z).1 p' c' ∧ Below w.heap.size w w' := by
  have := rTake15 w h.new h.rz h.sp.ok h.good z
  simp only [zc_eq] at this
  rw [(S.take_len z).1, (S.take_len z).2, h.fst, h.len] at this
  exact this
theorem tMark {w : World} {s t X n f : Nat} {S : SpS} {p : Option Addr} {c : Nat} (h : Two15 w s t X n f S p c) (y z : Int) : Calls Try.prog 13 #[.agg #[.int .i64 (f : Int), .slice p n c], .int .i64 y, .int .i64 z] w fun e w' => ∃ p' c', e = .returned (.tuple #[.agg #[.int .i64 (f : Int), .slice p' n c'], .int .i64 (S.mark y z).2]) ∧ RZ (Free15 X t) w' (S.mark y z).1 p' c' ∧ Below w.heap.size w w' := by
  have := rMark15 w h.new h.rz h.sp.ok y z
  simp only [zc_eq] at this
  rw [show (S.mark y z).1.l.length = S.l.length from (S.run_len y z true 10).1, show (S.mark y z).1.first = S.first from (S.run_len y z true 10).2, h.fst, h.len] at this
  exact this
theorem tGive {w : World} {s t X n f : Nat} {S : SpS} {p : Option Addr} {c : Nat} (h : Two15 w s t X n f S p c) (y z : Int) : Calls Try.prog 15 #[.agg #[.int .i64 (f : Int), .slice p n c], .int .i64 y, .int .i64 z] w fun e w' => ∃ p' c', e = .returned (.tuple #[.agg #[.int .i64 (f : Int), .slice p' n c'], .int .i64 (S.give y z).2]) ∧ RZ (Free15 X t) w' (S.give y z).1 p' c' ∧ Below w.heap.size w w' := by
  have := rGive15 w h.new h.rz h.sp.ok y z
  simp only [zc_eq] at this
  rw [show (S.give y z).1.l.length = S.l.length from (S.run_len y z false 9).1, show (S.give y z).1.first = S.first from (S.run_len y z false 9).2, h.fst, h.len] at this
  exact this
/-- The law stores what the reference answered: the program's space is as it was. -/
structure Half15 (w : World) (s t X n f : Nat) (S T : SpS) (p : Option Addr) (c : Nat) : Prop where
  sp : Sp w s t S
  bx : Blk w X [.int .i64 (f : Int), .slice p n c] 30
  rz : RZ (Free15 X t) w T p c
  good : T.good
  fst : T.first = f
  len : T.l.length = n
  ne1 : X ≠ s
  ne2 : X ≠ t
theorem Two15.stored {w w' : World} {s t X n f : Nat} {S T : SpS} {p p' : Option Addr} {c c' : Nat} (h : Two15 w s t X n f S p c) (k : Below w.heap.size w w') (rz : RZ (Free15 X t) w' T p' c') (good : T.good) (fst : T.first = f) (len : T.l.length = n) : Half15 ((w'.setCell ⟨X, 0, none⟩ (.int .i64 (f : Int))).setCell ⟨X, 1, none⟩ (.slice p' n c')) s t X n f S T p' c' := by
  have kk : Kp (fun j => j = X) w' ((w'.setCell ⟨X, 0, none⟩ (.int .i64 (f : Int))).setCell ⟨X, 1, none⟩ (.slice p' n c')) := (Kp.setC (F := fun j => j = X) rfl 0 _).trans (Kp.setC (F := fun j => j = X) rfl 1 _)
  have hb := h.bx.below k h.bx.lt
  exact ⟨(h.sp.grow k).keep kk (fun e => h.ne1 e.symm) (fun e => h.ne2 e.symm), (hb.setC 0 (.int .i64 (f : Int))).setC 1 (.slice p' n c'), rz.keep kk fun _ hj e => hj.1 e, good, fst, len, h.ne1, h.ne2⟩
theorem Half15.grow {w w' : World} {s t X n f : Nat} {S T : SpS} {p : Option Addr} {c : Nat} (h : Half15 w s t X n f S T p c) (k : Below w.heap.size w w') : Half15 w' s t X n f S T p c := ⟨h.sp.grow k, h.bx.below k h.bx.lt, h.rz.grow k, h.good, h.fst, h.len, h.ne1, h.ne2⟩
/-- Then the program does it, too. -/
theorem Half15.done {w w' : World} {s t X n f : Nat} {S T : SpS} {p : Option Addr} {c : Nat} (h : Half15 w s t X n f S T p c) (sp : Sp w' s t T) (k : Kp (fun j => j = t) w w') : Two15 w' s t X n f T p c :=
  ⟨sp, k.blk h.bx h.ne2, h.rz.keep k fun _ hj e => hj.2 e, h.good, h.fst, h.len, h.ne1, h.ne2⟩
theorem Two15.cell {w : World} {s t X n f : Nat} {S : SpS} {p : Option Addr} {c : Nat} (h : Two15 w s t X n f S p c) : w.cell? ⟨X, 0, none⟩ = some (.int .i64 (f : Int)) ∧ w.cell? ⟨X, 1, none⟩ = some (.slice p n c) := ⟨h.bx.cell 0, h.bx.cell 1⟩
theorem Two15.at_ {w : World} {s t X n f : Nat} {S : SpS} {p : Option Addr} {c : Nat} (h : Two15 w s t X n f S p c) : ∃ b o, p = some ⟨b, o, none⟩ ∧ b < w.heap.size ∧ ∀ i, i < n → w.cell? ⟨b, o + i, none⟩ = some (.bool (S.l.getD i false)) := by
  have := h.rz.b.at h.sp.ok.n1
  rw [h.len] at this
  exact this

end Go.Proofs.Ytcmbkpdefbaakaa
