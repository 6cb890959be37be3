/-
  The smoke of layer 7. No condition.
-/
import Derived.Test.YtmnlcmgkhgckcaaSixP
import Derived.Test.YtmnlcmgkhgckcaaNew
import Derived.Lib.SlBytesConst
namespace Go.Proofs.Ytmnlcmgkhgckcaa
open Go.RowKit

set_option maxRecDepth 100000 in
set_option maxHeartbeats 2000000 in
theorem lWorks7 (w : World) : Calls Try.prog 6 #[] w fun e w' => e = .returned (.bool true) ∧ Below w.heap.size w w' := by
  have C1 : Hid (∀ w, Calls Try.prog 8 #[.string ⟨#[90, 109, 57, 118, 89, 103, 61, 61]⟩] w (GivesG w ([102, 111, 111, 98], 0))) := fun w => by
    have := oGet7 w [90, 109, 57, 118, 89, 103, 61, 61] (by simp)
    rw [show get64 [90, 109, 57, 118, 89, 103, 61, 61] = ([102, 111, 111, 98], 0) from by decide +kernel] at this
    exact this
  have C2 : Hid (∀ w, Calls Try.prog 8 #[.string ⟨#[90, 109, 57, 118, 89, 104, 61, 61]⟩] w (GivesG w ([], 4))) := fun w => by
    have := oGet7 w [90, 109, 57, 118, 89, 104, 61, 61] (by simp)
    rw [show get64 [90, 109, 57, 118, 89, 104, 61, 61] = ([], 4) from by decide +kernel] at this
    exact this
  have C3 : Hid (∀ w, Calls Try.prog 8 #[.string ⟨#[90, 109, 57]⟩] w (GivesG w ([], 3))) := fun w => by
    have := oGet7 w [90, 109, 57] (by simp)
    rw [show get64 [90, 109, 57] = ([], 3) from by decide +kernel] at this
    exact this
  have C4 : Hid (∀ w a n c, Bs w a n c [102, 111, 111, 98, 97] → Calls Try.prog 7 #[.slice a n c] w fun e w' => e = .returned (.string ⟨#[90, 109, 57, 118, 89, 109, 69, 61]⟩) ∧ Below w.heap.size w w') := fun w a n c h => by
    have := oPut7 w h (by have := h.len; simp at this; omega)
    rw [show put64 [102, 111, 111, 98, 97] = [90, 109, 57, 118, 89, 109, 69, 61] from by decide +kernel] at this
    exact this
  go_enter Try.func6, Try.ntmps6
  go_wp2_with fail
  refine (C1.out w).mono ?_
  rintro e w1 ⟨a1, m1, c1, rfl, ho1, hb1⟩
  go_wp2_with fail
  refine (C2.out w1).mono ?_
  rintro e w2 ⟨a2, m2, c2, rfl, ho2, hb2⟩
  go_wp2_with fail
  refine (C3.out w2).mono ?_
  rintro e w3 ⟨a3, m3, c3, rfl, ho3, hb3⟩
  have o3 := (ho1.below hb2 (Nat.le_refl _)).below hb3 (Nat.le_refl _)
  have hstr := o3.str
  have q3 : Below w.heap.size w w3 := (hb1.trans (hb2.mono hb1.size)).trans (hb3.mono (Nat.le_trans hb1.size hb2.size))
  have kc := fun (w : World) (C : Array Value) (n c : Nat) => Lib.run_convert_bytes_const (P := Try.prog) w 22 5 C n c Try.underlying22 Try.underlying5
  go_wp2_with (go_at_call 7; go_must (refine (C4.out (w3.alloc (.cells #[.int .u8 102, .int .u8 111, .int .u8 111, .int .u8 98, .int .u8 97] 5 (5, 6))) _ _ _ (Bs.marked w3 [102, 111, 111, 98, 97] #[.int .u8 102, .int .u8 111, .int .u8 111, .int .u8 98, .int .u8 97] (5, 6) rfl (by simp))).mono ?_); rintro e w4 ⟨rfl, hb4⟩)
  go_ret
  exact ⟨rfl, (q3.alloc q3.size _).trans (hb4.mono (by simp; exact Nat.le_succ_of_le q3.size))⟩

end Go.Proofs.Ytmnlcmgkhgckcaa
