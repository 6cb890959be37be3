/-
  Steps of layer 8's power that count: what the statements' closures ('n++') do, and what Step makes of them. Conditions: fewer than 2^40 steps.
-/
import Derived.Test.YtonakdbpalhimaaPowP
namespace Go.Proofs.Ytonakdbpalhimaa
open Go.RowKit

theorem Pw.kp {F : Nat → Prop} {w w' : World} {r : Nat} {S : PowS} (h : Pw w r S) (k : Kp F w w') (hr : ¬ F r) : Pw w' r S := h.same (k.block r h.lt hr)
theorem Pw.below {B : Nat} {w w' : World} {r : Nat} {S : PowS} (h : Pw w r S) (k : Below B w w') (hr : r < B) : Pw w' r S := h.same (k.block r hr)
/-- What the function F does with the variable in block g: one more. -/
def Ticks (F : Nat) : Prop := ∀ (w : World) (g k : Nat), k ≤ 1099511627776 → Blk w g [.int .i64 (k : Int)] 3 → Calls Try.prog F #[.pointer (some ⟨g, 0, none⟩)] w fun e w' => e = .returned (.tuple #[]) ∧ Blk w' g [.int .i64 ((k + 1 : Nat) : Int)] 3 ∧ Kp (fun j => j = g) w w'
def Enters (F : Nat) : Prop := ∀ args w, (callFunc F args).run Try.prog w = .ok (.enter F args) w

theorem oStepC (w : World) {r g k : Nat} {S : PowS} (h : Pw w r S) {m : Nat} (hfit : S.fit m) (hm : m ≤ 1099511627776) (hg : Blk w g [.int .i64 (k : Int)] 3) (hne : g ≠ r) (hk : k ≤ 1099511627776) (F : Nat) (eF : Enters F) (hF : Ticks F) :
    Calls Try.prog 9 #[.pointer (some ⟨r, 0, none⟩), .func (.func F) #[] #[.pointer (some ⟨g, 0, none⟩)]] w fun e w' => e = .returned (.bool S.ok) ∧ Pw w' r S.next ∧ Blk w' g [.int .i64 ((if S.does then k + 1 else k : Nat) : Int)] 3 ∧ Kp (fun j => j = r ∨ j = g) w w' := by
  refine (oPStep w h hfit hm F #[.pointer (some ⟨g, 0, none⟩)] eF (fun w1 w2 => Blk w2 g [.int .i64 ((k + 1 : Nat) : Int)] 3 ∧ Kp (fun j => j = g) w1 w2) ?_).mono ?_
  · intro w1 k1
    refine (hF w1 g k hk (k1.blk hg hne)).mono ?_
    rintro e w2 ⟨rfl, hb, k2⟩
    exact ⟨rfl, k2.block r (Nat.lt_of_lt_of_le h.lt k1.size) (Ne.symm hne), hb, k2⟩
  · rintro e w' ⟨rfl, hp, hd⟩
    refine ⟨rfl, hp, ?_⟩
    cases hs : S.does with
    | false =>
      rw [hs] at hd
      exact ⟨(show Kp _ _ _ from hd).blk hg hne, (show Kp (fun j => j = r) w w' from hd).mono fun j _ e => Or.inl e⟩
    | true =>
      rw [hs] at hd
      obtain ⟨w1, w2, k1, ⟨hb, k2⟩, k3⟩ := hd
      exact ⟨k3.blk hb hne, ((k1.mono fun j _ e => Or.inl e).trans (k2.mono fun j _ e => Or.inr e)).trans (k3.mono fun j _ e => Or.inl e)⟩

/-- The reference's power stored into the variable in block X. -/
def put4 (w : World) (X : Nat) (S : PowS) : World := (((w.setCell ⟨X, 0, none⟩ (.int .i64 (S.steps : Int))).setCell ⟨X, 1, none⟩ (.int .i64 S.fuse)).setCell ⟨X, 2, none⟩ (.bool S.done)).setCell ⟨X, 3, none⟩ (.bool S.down)
theorem put4_blk {w : World} {X : Nat} {S : PowS} {t : TypeId} (hb : Blk w X (pc S) t) (S' : PowS) : Blk (put4 w X S') X (pc S') t := (((hb.setC 0 _).setC 1 _).setC 2 _).setC 3 _
theorem put4_kp (w : World) (X : Nat) (S : PowS) : Kp (fun j => j = X) w (put4 w X S) :=
  (((Kp.of_grown (but_set _ _ _ _)).trans (Kp.of_grown (but_set _ _ _ _))).trans (Kp.of_grown (but_set _ _ _ _))).trans (Kp.of_grown (but_set _ _ _ _))

end Go.Proofs.Ytonakdbpalhimaa
