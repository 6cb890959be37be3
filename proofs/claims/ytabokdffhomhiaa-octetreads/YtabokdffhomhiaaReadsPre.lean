/-
  What the two readers of the statement OctetReads hold in memory, round by round. No condition; no statement of the seat is proved here.
-/
import Derived.Test.YtabokdffhomhiaaAsks
import Derived.Test.YtabokdffhomhiaaRefText
namespace Go.Proofs.Ytabokdffhomhiaa
open Go.RowKit

/-- What holds at each round's head: both readers hold the same bytes and code. -/
def Inv (w wr : World) (r X : Nat) : Prop :=
  ∃ l c a n q, Rd wr r l c ∧ Bx wr X (.slice a n q) (.int .i64 c) ∧ Bs w a n q l ∧ l.length ≤ 3000 ∧ Below w.heap.size w wr
theorem bx_new (w : World) (u v : Value) (t : TypeId) : Bx (w.alloc (.cells #[u, v] t)) w.heap.size u v :=
  ⟨by rw [cell_new]; rfl, by rw [cell_new]; rfl, free_new _ _ _ _, free_new _ _ _ _⟩

theorem ak_new (w : World) (x y z : Int) (t : TypeId) : Ak (w.alloc (.cells #[.int .i64 x, .int .i64 y, .int .i64 z] t)) w.heap.size x y z :=
  ⟨by rw [cell_new]; rfl, by rw [cell_new]; rfl, by rw [cell_new]; rfl⟩

theorem after_store {w w3 : World} {B r X : Nat} {u v : Value} {l : List UInt8} {c : Int} (hb : Below B w w3) (hr : Rd w3 r l c) (hx : Bx w3 X u v) (hrX : r < X) (hBX : B ≤ X) (hB : B ≤ w3.heap.size) (u' v' : Value) (o : Obj) :
    Rd (((w3.setCell ⟨X, 0, none⟩ u').setCell ⟨X, 1, none⟩ v').alloc o) r l c ∧ Bx (((w3.setCell ⟨X, 0, none⟩ u').setCell ⟨X, 1, none⟩ v').alloc o) X u' v' ∧ Below B w (((w3.setCell ⟨X, 0, none⟩ u').setCell ⟨X, 1, none⟩ v').alloc o) ∧
      ∀ O x y z, O ≠ X → Ak w3 O x y z → Ak (((w3.setCell ⟨X, 0, none⟩ u').setCell ⟨X, 1, none⟩ v').alloc o) O x y z := by
  have g := but_trans (but_set w3 X 0 u') (but_set (w3.setCell ⟨X, 0, none⟩ u') X 1 v')
  exact ⟨(hr.but g hrX).below (below_alloc _ _) (Nat.le_refl _), (hx.set u' v').below (below_alloc _ _) (Nat.le_refl _), (below_of_but hb g hBX hB).alloc (Nat.le_trans hB g.size) _, fun O x y z hO hA => (hA.but g hO).below (below_alloc _ _) (Nat.le_refl _)⟩
theorem Rd.drewN {w : World} {r : Nat} {l : List UInt8} {c : Int} (h : Rd w r l c) (d : Nat) : Rd (w.drewN d) r l c := h
theorem Bx.drewN {w : World} {X : Nat} {u v : Value} (h : Bx w X u v) (d : Nat) : Bx (w.drewN d) X u v := h
theorem inv_next {w w4 : World} {r X d : Nat} {l : List UInt8} {c : Int} {a : Option Addr} {n q : Nat} (hr : Rd w4 r l c) (hx : Bx w4 X (.slice a n q) (.int .i64 c)) (hs : Bs w a n q l) (hl : l.length ≤ 3000) (hb : Below w.heap.size w w4) : Inv w (w4.drewN d) r X :=
  ⟨l, c, a, n, q, hr.drewN d, hx.drewN d, hs, hl, hb.trans ((below_drewN' w4 d).mono hb.size)⟩
theorem rdBytes_short (l : List UInt8) (c n : Int) (h : l.length ≤ 3000) : (rdBytes l c n).1.length ≤ 3000 := by
  unfold rdBytes
  split
  · exact h
  · split
    · exact h
    · simp; omega
theorem rdText_short (l : List UInt8) (c n m : Int) (h : l.length ≤ 3000) : (rdText l c n m).1.length ≤ 3000 := by
  unfold rdText
  dsimp only
  split
  · exact rdBytes_short l c n h
  · exact rdBytes_short _ _ _ (rdBytes_short l c n h)
end Go.Proofs.Ytabokdffhomhiaa
