/-
  How an argument that is a slice of layer 15's acts (three numbers each) is opened. No condition; no statement of the seat is proved here.
-/
import Derived.Test.YtcmbkpdefbaakaaKit0
import Derived.Deep.Matrix
namespace Go.Proofs.Ytcmbkpdefbaakaa
open Go.RowKit Go.ChangeShapes Go.WideShapes Go.ChangeAt

/-- The slice (a, n, c) holds n acts. -/
def Ops15 (w : World) (a : Option Addr) (n c : Nat) (_ : List Unit) : Prop :=
  n ≤ c ∧ c ≤ maxLen ∧ ∀ i, i < n → ∃ b o x y z, a = some ⟨b, o, none⟩ ∧ w.cell? ⟨b, o + i * 3, none⟩ = some (.int .i64 x) ∧ w.cell? ⟨b, o + i * 3 + 1, none⟩ = some (.int .i64 y) ∧ w.cell? ⟨b, o + i * 3 + 2, none⟩ = some (.int .i64 z) ∧
    (-9223372036854775808 ≤ x ∧ x ≤ 9223372036854775807) ∧ (-9223372036854775808 ≤ y ∧ y ≤ 9223372036854775807) ∧ (-9223372036854775808 ≤ z ∧ z ≤ 9223372036854775807)

theorem op15_fields {H : Type} {enc : TypeId × Value → H} {W : World} {base : Nat} {held : Bool} {fuel : Nat} {cs : List Value} {x : DataW H × List MemPlace}
    (h : DataW.trod enc Try.prog W base (fun _ => true) held fuel 34 cs = some x) : ∃ p q r, cs = [.int .i64 p, .int .i64 q, .int .i64 r] ∧ (Lit.int .i64 p).wf = true ∧ (Lit.int .i64 q).wf = true ∧ (Lit.int .i64 r).wf = true := by
  obtain ⟨xs, n, rfl, rfl, hl, hx, hf⟩ := DataW.trod_struct Try.underlying34 h
  have c3 : Try.prog.cellsOf 3 = 1 := by kernel_rfl
  have c44 : Try.prog.cellsOf 34 = 3 := by kernel_rfl
  rw [c44] at hl
  match cs, hl with
  | [v0, v1, v2], _ =>
    have f0 : DataW.trod enc Try.prog W base (fun _ => true) held n 3 (List.take (Try.prog.cellsOf 3) (List.drop 0 [v0, v1, v2])) = xs[0]? := hf 0 _ rfl
    have f1 : DataW.trod enc Try.prog W base (fun _ => true) held n 3 (List.take (Try.prog.cellsOf 3) (List.drop 1 [v0, v1, v2])) = xs[1]? := hf 1 _ rfl
    have f2 : DataW.trod enc Try.prog W base (fun _ => true) held n 3 (List.take (Try.prog.cellsOf 3) (List.drop 2 [v0, v1, v2])) = xs[2]? := hf 2 _ rfl
    have hx3 : xs.length = 3 := hx
    rw [c3] at f0 f1 f2
    rw [List.getElem?_eq_getElem (by omega)] at f0 f1 f2
    obtain ⟨p, e0, _, w0⟩ := DataW.trod_int Try.underlying3 f0
    obtain ⟨q, e1, _, w1⟩ := DataW.trod_int Try.underlying3 f1
    obtain ⟨r, e2, _, w2⟩ := DataW.trod_int Try.underlying3 f2
    simp at e0 e1 e2
    exact ⟨p, q, r, by rw [e0, e1, e2], w0, w1, w2⟩

theorem Ops15.of_trod {H : Type} {enc : TypeId × Value → H} {W : World} {base : Nat} {held : Bool} {fuel : Nat} {a : Option Addr} {n c : Nat} {x : DataW H × List MemPlace}
    (h : DataW.trod enc Try.prog W base (fun _ => true) held fuel 22 [.slice a n c] = some x) : ∃ ls, Ops15 W a n c ls := by
  rcases Deep.open_slice Try.underlying22 h with ⟨hcs, _⟩ | ⟨y, len, cap, m, n', D, Pl, hcs, _, hl, hm, hmm, _, hrow⟩
  · simp at hcs
    obtain ⟨rfl, rfl, rfl⟩ := hcs
    exact ⟨[], Nat.le_refl _, Nat.zero_le _, fun i hi => by omega⟩
  · simp at hcs
    obtain ⟨rfl, rfl, rfl⟩ := hcs
    have c44 : Try.prog.cellsOf 34 = 3 := by kernel_rfl
    rw [c44] at hrow
    simp at hmm
    subst hmm
    refine ⟨[], hl, hm, fun i hi => ?_⟩
    obtain ⟨cs', h1, h2⟩ := hrow i (by omega)
    obtain ⟨p, q, r, rfl, w0, w1, w2⟩ := op15_fields h2
    obtain ⟨_, _, h3⟩ := World.cells?_some h1
    have h30 := h3 0 (by omega)
    have h31 := h3 1 (by omega)
    have h32 := h3 2 (by omega)
    obtain ⟨b, o, s⟩ := y
    have hs : s = none := by
      obtain ⟨cs0, k1, k2⟩ := hrow 0 (by omega)
      obtain ⟨p, q, r, rfl, _, _, _⟩ := op15_fields k2
      obtain ⟨_, _, k3⟩ := World.cells?_some k1
      have k30 := k3 0 (by omega)
      simpa [Addr.add] using World.cell?_spot k30
    subst hs
    rw [add_none, add_none] at h30 h31 h32
    exact ⟨b, o, p, q, r, rfl, h30, h31, h32, bounds_i64 w0, bounds_i64 w1, bounds_i64 w2⟩

end Go.Proofs.Ytcmbkpdefbaakaa
