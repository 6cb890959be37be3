/-
  How an argument that is a slice of bytes is opened into a plain list. No condition; no statement of the seat is proved here.
-/
import Derived.Test.YtcmbkpdefbaakaaOwn
namespace Go.Proofs.Ytcmbkpdefbaakaa
open Go.RowKit Go.ChangeShapes Go.WideShapes Go.ChangeAt

theorem Bs.of_trod {H : Type} {enc : TypeId × Value → H} {W : World} {base : Nat} {held : Bool} {fuel : Nat} {a : Option Addr} {n c : Nat} {x : DataW H × List MemPlace}
    (h : DataW.trod enc Try.prog W base (fun _ => true) held fuel 46 [.slice a n c] = some x) : ∃ l, Bs W a n c l := by
  rcases open_ints Try.underlying46 Try.underlying5 (by kernel_rfl) h with ⟨hcs, _⟩ | ⟨x, l, c, zs, hcs, _, hl, hm, hz, _, hcell, hwz⟩
  · simp at hcs
    obtain ⟨rfl, rfl, rfl⟩ := hcs
    exact ⟨[], Bs.nil W⟩
  · simp at hcs
    obtain ⟨rfl, rfl, rfl⟩ := hcs
    exact Bs.of_row (zs := zs) (Or.inr ⟨_, rfl, hl, hm, by simpa using hz, hcell, hwz⟩)

end Go.Proofs.Ytcmbkpdefbaakaa
