/-
  1 texts in one. No statement of the seat is proved here.
-/
import Derived.Test.YtbifikeecmaakaaG29

/-
  Layer 14's third statement: the keeper in its loop ('KeI'). No condition.
-/
namespace Go.Proofs.Ytbifikeecmaakaa
open Go.RowKit

/-- A load that waits for a test. -/
theorem at_ldg (ty : TypeId) {x : Operand} {gd : Nat × Bool} {ops : Array Oper} {rest : List Oper} {a : Act} {w : World} {Q : Exit → Act → World → Prop} {dst : Option Tmp} {tp : TypeId} {pos : String} {aft : Array Edge} (h : wpList Try.prog ops Q ({ dst := dst, op := .load ty x, type := tp, pos := pos, after := aft, guard := some gd } :: rest) a w) : wpList Try.prog ops Q ({ dst := dst, op := .load ty x, type := tp, pos := pos, after := aft, guard := some gd } :: rest) a w := h
theorem ldg {gd : Nat × Bool} {ops : Array Oper} {rest : List Oper} {a : Act} {w : World} {Q : Exit → Act → World → Prop} {dst : Option Tmp} {tp : TypeId} {pos : String} {aft : Array Edge} (ty : TypeId) (x : Operand) (n : Nat) (hw : Region.wanted { dst := dst, op := .load ty x, type := tp, pos := pos, after := aft, guard := some gd } (yielded ops a.tmps) = true)
    (hi : (Try.prog.info? ty).map (·.size) = some n) (d : TypeDesc) (hu : Try.prog.underlying ty = some d) (hd : d.isRow = true) (b o : Nat) (cs : List Value) (hl : cs.length = n) (hc : w.rangeAt b o cs) (hx : a.eval x = .pointer (some ⟨b, o, none⟩))
    (h : wpList Try.prog ops Q rest (a.put dst (.agg cs.toArray)) w) : wpList Try.prog ops Q ({ dst := dst, op := .load ty x, type := tp, pos := pos, after := aft, guard := some gd } :: rest) a w :=
  wpList_unguard hw (ld ty x n hi d hu hd b o cs hl hc hx h)
structure KeI (w wr : World) (j k c r : Nat) (K : KepS) (p q : Tri) : Prop where
  st : StaK w wr k c r K p q
  jk : Jk (fun _ _ => False) K
  lv : K.c.p.live
  ft : K.c.fit j
theorem KeI.grow {w wr w' : World} {j k c r : Nat} {K : KepS} {p q : Tri} (h : KeI w wr j k c r K p q) (hb : Below wr.heap.size wr w') : KeI w w' j k c r K p q := ⟨h.st.grow hb, h.jk, h.lv, h.ft⟩
theorem KeI.saved {w wr w' : World} {j k c r : Nat} {K : KepS} {p q p' q' : Tri} (h : KeI w wr j k c r K p q) (a : AncS) (hk : Kk w' k c r (K.save a).1 p' q') (kp : Kp (Fk k c r) wr w') : KeI w w' (j + 1) k c r (K.save a).1 p' q' :=
  ⟨h.st.after hk kp, h.jk.save h.ft.l a (fun hn => by rw [(live_ok h.lv).1] at hn; cases hn), (save_live h.lv a).1, KepS.fit_save h.ft a⟩
theorem KeI.first {w wr : World} {k c r : Nat} {p q : Tri} (h : StaK w wr k c r kep0 p q) : KeI w wr 0 k c r kep0 p q := ⟨h, Jk_new _, ⟨by show (-1 : Int) < 0; omega, rfl⟩, CelS.fit_new⟩
/-- A range that lies below. -/
theorem range_below {w u : World} {b o : Nat} {vs : List Value} (h : w.rangeAt b o vs) (hb : b < w.heap.size) (hu : Below w.heap.size w u) : u.rangeAt b o vs := fun j v hj => by
  rw [World.cell?_of_block (w := w) (hu.block b hb)]
  exact h j v hj
theorem anc_next {K : KepS} {a : AncS} {p q : Tri} : (anc a p q).set 0 (.int .i64 (K.last.seq + 1)) = anc (nextA K a) p q := rfl
theorem nextA_has {K : KepS} {a : AncS} (h : okA K.last) : decide (0 < (nextA K a).seq) = true := by
  have := h.seq
  exact decide_eq_true (by show (0 : Int) < K.last.seq + 1; omega)

end Go.Proofs.Ytbifikeecmaakaa
