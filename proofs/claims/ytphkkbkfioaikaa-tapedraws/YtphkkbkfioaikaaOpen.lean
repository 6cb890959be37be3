/-
  How an argument that is a slice of slices of bytes is opened into plain lists. No condition; no statement of the seat is proved here.
-/
import Derived.Test.YtphkkbkfioaikaaNew
import Derived.Test.YtphkkbkfioaikaaOpenB
import Derived.Deep.Matrix
namespace Go.Proofs.Ytphkkbkfioaikaa
open Go.RowKit Go.ChangeShapes Go.WideShapes Go.ChangeAt

theorem Bss.of_trod {H : Type} {enc : TypeId × Value → H} {W : World} {base : Nat} {held : Bool} {fuel : Nat} {a : Option Addr} {n c : Nat} {x : DataW H × List MemPlace}
    (h : DataW.trod enc Try.prog W base (fun _ => true) held fuel 22 [.slice a n c] = some x) : ∃ ls, Bss W a n c ls := by
  rcases Deep.open_int_rows Try.underlying22 Try.underlying31 Try.underlying5 (by kernel_rfl) (by kernel_rfl) h with ⟨hcs, _⟩ | ⟨y, len, cap, A, L, C, Z, hcs, _, hl, hm, _, hrow⟩
  · simp at hcs
    obtain ⟨rfl, rfl, rfl⟩ := hcs
    exact ⟨[], rfl, Nat.le_refl _, Nat.zero_le _, fun i hi => by omega⟩
  · simp at hcs
    obtain ⟨rfl, rfl, rfl⟩ := hcs
    have hex : ∀ r, r < n → ∃ l, Bs W (A r) (L r) (C r) l := by
      intro r hr
      obtain ⟨_, h1, h2, h3, h4, h5, h6⟩ := hrow r (by omega)
      cases hA : A r with
      | none =>
        have := h5 hA
        exact Bs.of_row (zs := []) (Or.inl ⟨rfl, by omega, this, rfl⟩)
      | some x =>
        exact Bs.of_row (zs := Z r) (Or.inr ⟨x, rfl, h1, h2, h3, fun i hi => (h6 x hA).2 i (by omega), h4⟩)
    obtain ⟨f, hf⟩ := Deep.choose_lt hex
    refine ⟨(List.range n).map f, by simp, hl, hm, fun i hi => ?_⟩
    obtain ⟨b, o, s⟩ := y
    have hs : s = none := by
      have h0 := (hrow 0 (by omega)).1
      simpa [Addr.add] using World.cell?_spot h0
    subst hs
    refine ⟨b, o, A i, L i, C i, rfl, ?_, ?_⟩
    · have := (hrow i (by omega)).1
      rw [add_none] at this
      exact this
    · have e : ((List.range n).map f).getD i [] = f i := by simp [List.getD_eq_getElem?_getD, hi]
      rw [e]
      exact hf i hi
end Go.Proofs.Ytphkkbkfioaikaa
