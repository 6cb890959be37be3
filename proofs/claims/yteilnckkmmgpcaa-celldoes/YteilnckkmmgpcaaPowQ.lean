/-
  Layer 8's count of steps. No condition.
-/
import Derived.Test.YteilnckkmmgpcaaPowP
namespace Go.Proofs.Yteilnckkmmgpcaa
open Go.RowKit

set_option maxRecDepth 100000 in
theorem oPSteps (w : World) {r : Nat} {S : PowS} (h : Pw w r S) : Calls Try.prog 21 #[.pointer (some ⟨r, 0, none⟩)] w fun e w' => e = .returned (.int .i64 (S.steps : Int)) ∧ w' = w := by
  obtain ⟨b, a, h1, h2, hb⟩ := h
  obtain ⟨n, F, d, g⟩ := S
  dsimp only at hb ⊢
  clear h2
  have hl := hb.lt
  have c4 := hb.cell 4
  simp only [List.getElem?_cons_zero, List.getElem?_cons_succ] at c4
  go_enter Try.func21, Try.ntmps21
  go_wp2_with fail
  go_ret
  exact ⟨rfl, rfl⟩
end Go.Proofs.Yteilnckkmmgpcaa
