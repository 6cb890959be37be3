/-
  The box by the powers of three is the box by its definition, at all bytes (reckoned by the kernel). No condition; nothing of the program.
-/
import Derived.Test.YtofhnigdfmekdaaAesL
namespace Go.Proofs.Ytofhnigdfmekdaa
open Go.RowKit

set_option maxRecDepth 100000 in
theorem inv_tab : (List.range 256).map (fun c => inv (UInt8.ofNat c)) = invS 255 := by decide +kernel
theorem bent_box (x : UInt8) : bent x = bxs x 8 := by
  have h : ∀ n : Fin 256, bent (UInt8.ofNat n.val) = bxs (UInt8.ofNat n.val) 8 := by decide +kernel
  have := h ⟨x.toNat, UInt8.toNat_lt x⟩
  simpa using this
theorem box_tab : (invS 255).map bent = boxT := by
  rw [← inv_tab, List.map_map]
  unfold boxT
  apply List.map_congr_left
  intro c _
  exact bent_box _

end Go.Proofs.Ytofhnigdfmekdaa
