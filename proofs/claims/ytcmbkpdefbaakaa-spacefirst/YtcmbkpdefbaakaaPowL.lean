/-
  Plain mathematics of layer 8: what power is, and what each call makes of it; and what a call leaves that writes some blocks alone ('Kp'). No condition; nothing of the program.
-/
import Derived.Test.YtcmbkpdefbaakaaKit0
namespace Go.Proofs.Ytcmbkpdefbaakaa
open Go.RowKit

/-- Of all that lay in w, the blocks of F alone may be others in w'. -/
structure Kp (F : Nat → Prop) (w w' : World) : Prop where
  os : w'.os = w.os
  tape : w'.tape = w.tape
  output : w'.output = w.output
  size : w.heap.size ≤ w'.heap.size
  block : ∀ k, k < w.heap.size → ¬ F k → w'.heap[k]? = w.heap[k]?

theorem Kp.refl (F : Nat → Prop) (w : World) : Kp F w w := ⟨rfl, rfl, rfl, Nat.le_refl _, fun _ _ _ => rfl⟩
theorem Kp.trans {F : Nat → Prop} {a b c : World} (h : Kp F a b) (k : Kp F b c) : Kp F a c :=
  ⟨k.os.trans h.os, k.tape.trans h.tape, k.output.trans h.output, Nat.le_trans h.size k.size, fun i hi hn => (k.block i (Nat.lt_of_lt_of_le hi h.size) hn).trans (h.block i hi hn)⟩
theorem Kp.mono {F G : Nat → Prop} {w w' : World} (h : Kp F w w') (hG : ∀ k, k < w.heap.size → F k → G k) : Kp G w w' :=
  ⟨h.os, h.tape, h.output, h.size, fun k hk hn => h.block k hk (fun hf => hn (hG k hk hf))⟩
theorem Kp.of_below {F : Nat → Prop} {w w' : World} (h : Below w.heap.size w w') : Kp F w w' := ⟨h.os, h.tape, h.output, h.size, fun k hk _ => h.block k hk⟩
theorem Kp.below {F : Nat → Prop} {w w' : World} (h : Kp F w w') {B : Nat} (hB : B ≤ w.heap.size) (hF : ∀ k, k < B → ¬ F k) : Below B w w' := ⟨h.os, h.tape, h.output, h.size, fun k hk => h.block k (by omega) (hF k hk)⟩
theorem Kp.of_grown {w w' : World} {r : Nat} (h : w.grownBy w' (some r)) : Kp (fun k => k = r) w w' := ⟨h.os, h.tape, h.output, h.size, fun k hk hn => h.block k hk (fun e => hn (Option.some.inj e))⟩
theorem Kp.grown {w w' : World} {r : Nat} (h : Kp (fun k => k = r) w w') : w.grownBy w' (some r) := ⟨h.os, h.tape, h.output, h.size, fun k hk hn => h.block k hk (fun e => hn (by rw [e]))⟩
theorem Kp.alloc {F : Nat → Prop} {a w : World} (h : Kp F a w) (o : Obj) : Kp F a (w.alloc o) := h.trans (Kp.of_below (below_alloc w o))
theorem Kp.drew {F : Nat → Prop} {a w : World} (h : Kp F a w) (n : Nat) : Kp F a (w.drewN n) := h.trans (Kp.of_below (below_drewN' w n))
theorem Kp.blk {F : Nat → Prop} {w w' : World} (h : Kp F w w') {g : Nat} {vs : List Value} {t : TypeId} (hb : Blk w g vs t) (hg : ¬ F g) : Blk w' g vs t := by
  unfold Blk
  rw [h.block g hb.lt hg]
  exact hb
theorem Kp.setC {F : Nat → Prop} {w : World} {g : Nat} (hg : F g) (i : Nat) (v : Value) : Kp F w (w.setCell ⟨g, i, none⟩ v) :=
  (Kp.of_grown (but_set w g i v)).mono fun k _ e => by rw [e]; exact hg
/-- What lay in w lies in w' too, but for F: all that lay below B, none of which is F's. -/
theorem below_kp {B : Nat} {F : Nat → Prop} {w w1 w' : World} (h : Below B w w1) (k : Kp F w1 w') (hB : B ≤ w1.heap.size) (hF : ∀ k, k < B → ¬ F k) : Below B w w' := h.trans (k.below hB hF)

/-- Power: how many steps there were; behind how many more it goes (below 0: it does not); is what is atomic done then; has it gone? -/
structure PowS where
  steps : Nat
  fuse : Int
  done : Bool
  down : Bool
def PowS.new : PowS := ⟨0, -1, false, false⟩
def PowS.set (S : PowS) (n : Int) (d : Bool) : PowS := ⟨S.steps, if n < 0 then -1 else n, d, S.down⟩
def PowS.ok (S : PowS) : Bool := !S.down && !decide (S.fuse = 0)
def PowS.does (S : PowS) : Bool := !S.down && (!decide (S.fuse = 0) || S.done)
def PowS.next (S : PowS) : PowS := if S.down then S else if S.fuse < 0 then ⟨S.steps + 1, S.fuse, S.done, false⟩ else ⟨S.steps + 1, S.fuse - 1, S.done, decide (S.fuse = 0)⟩
def PowS.back (S : PowS) : PowS := ⟨S.steps, -1, false, false⟩
/-- Numbers that are numbers of the language, and steps that are not too many. -/
def PowS.fit (S : PowS) (m : Nat) : Prop := S.steps ≤ m ∧ -1 ≤ S.fuse ∧ S.fuse ≤ 9223372036854775807
theorem PowS.fit_new : PowS.new.fit 0 := ⟨Nat.le_refl _, by decide, by decide⟩
theorem PowS.fit_set {S : PowS} {m : Nat} (h : S.fit m) {n : Int} (hn : n ≤ 9223372036854775807) (d : Bool) : (S.set n d).fit m := by
  obtain ⟨h1, h2, h3⟩ := h
  unfold PowS.set PowS.fit
  refine ⟨h1, ?_, ?_⟩
  · dsimp only; split <;> omega
  · dsimp only; split <;> omega
theorem PowS.fit_next {S : PowS} {m : Nat} (h : S.fit m) : S.next.fit (m + 1) := by
  obtain ⟨h1, h2, h3⟩ := h
  unfold PowS.next PowS.fit
  split
  · exact ⟨by omega, h2, h3⟩
  · split
    · exact ⟨by dsimp only; omega, h2, h3⟩
    · exact ⟨by dsimp only; omega, by dsimp only; omega, by dsimp only; omega⟩
theorem PowS.fit_back {S : PowS} {m : Nat} (h : S.fit m) : S.back.fit m := ⟨h.1, by show (-1 : Int) ≤ -1; omega, by show (-1 : Int) ≤ _; omega⟩
theorem PowS.fit_mono {S : PowS} {m n : Nat} (h : S.fit m) (hm : m ≤ n) : S.fit n := ⟨by have := h.1; omega, h.2⟩
/-- As the reference's value. -/
def pv (S : PowS) : Value := .agg #[.int .i64 (S.steps : Int), .int .i64 S.fuse, .bool S.done, .bool S.down]
/-- Its cells. -/
def pc (S : PowS) : List Value := [.int .i64 (S.steps : Int), .int .i64 S.fuse, .bool S.done, .bool S.down]

end Go.Proofs.Ytcmbkpdefbaakaa
