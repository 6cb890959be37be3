/-
  The smoke of layer 8's statements: it answers true. No condition.
-/
import Derived.Test.YtonakdbpalhimaaPowT
import Derived.Test.YtonakdbpalhimaaPowQ
namespace Go.Proofs.Ytonakdbpalhimaa
open Go.RowKit

set_option maxRecDepth 100000 in
set_option maxHeartbeats 2000000 in
theorem lWorks8 (w : World) : Calls Try.prog 5 #[] w fun e w' => e = .returned (.bool true) ∧ Below w.heap.size w w' := by
  go_enter Try.func5, Try.ntmps5
  go_wp2_with fail
  refine (oPNew w).mono ?_
  rintro e w1 ⟨r, rfl, hr, hp, hb1⟩
  have hlt1 := hp.lt
  obtain ⟨g, hg⟩ : ∃ g, g = w1.heap.size := ⟨_, rfl⟩
  have hwg : w.heap.size ≤ g := by rw [hg]; exact hb1.size
  have bg : Blk (w1.alloc (.cells #[.int .i64 0] 3)) g [.int .i64 ((0 : Nat) : Int)] 3 := Blk.newAt w1 _ 3 g hg.symm _ rfl
  have hp1 := hp.below (below_alloc w1 (.cells #[.int .i64 0] 3)) hlt1
  have hne : g ≠ r := by omega
  have k1 : Below w.heap.size w (w1.alloc (.cells #[.int .i64 0] 3)) := hb1.alloc hb1.size _
  go_wp2_with fail
  rw [← hg]
  generalize w1.alloc (.cells #[.int .i64 0] 3) = W1 at *
  clear hp hb1 hg hlt1
  refine (oPFuse W1 hp1 1 true ⟨by omega, by omega⟩).mono ?_
  rintro e w2 ⟨rfl, hp2, q2⟩
  have bg2 := q2.blk bg hne
  have k2 := below_kp k1 q2 k1.size (fun j hj e => by omega)
  clear hp1 bg k1 q2
  go_wp2_with fail
  refine (oStepC w2 hp2 (m := 10) (PowS.fit_mono (PowS.fit_set PowS.fit_new (by omega) _) (by omega)) (by omega) bg2 hne (by omega) _ entersW1 tickW1).mono ?_
  rintro e w3 ⟨rfl, hp3, bg3, q3⟩
  have k3 := below_kp k2 q3 k2.size (fun j hj e => by omega)
  clear hp2 bg2 k2 q3
  go_wp2_with fail
  refine (oStepC w3 hp3 (m := 10) (PowS.fit_mono (PowS.fit_next (PowS.fit_set PowS.fit_new (by omega) _)) (by omega)) (by omega) bg3 hne (by decide) _ entersW2 tickW2).mono ?_
  rintro e w4 ⟨rfl, hp4, bg4, q4⟩
  have k4 := below_kp k3 q4 k3.size (fun j hj e => by omega)
  clear hp3 bg3 k3 q4
  go_wp2_with fail
  refine (oStepC w4 hp4 (m := 10) (PowS.fit_mono (PowS.fit_next (PowS.fit_next (PowS.fit_set PowS.fit_new (by omega) _))) (by omega)) (by omega) bg4 hne (by decide) _ entersW3 tickW3).mono ?_
  rintro e w5 ⟨rfl, hp5, bg5, q5⟩
  have k5 := below_kp k4 q5 k4.size (fun j hj e => by omega)
  clear hp4 bg4 k4 q5
  go_wp2_with fail
  refine (oPDown w5 hp5).mono ?_
  rintro e w6 ⟨rfl, rfl⟩
  go_wp2_with fail
  refine (oPBack _ hp5).mono ?_
  rintro e w6 ⟨rfl, hp6, q6⟩
  have bg6 := q6.blk bg5 hne
  have k6 := below_kp k5 q6 k5.size (fun j hj e => by omega)
  clear hp5 bg5 k5 q6
  have c0 : w6.cell? ⟨g, 0, none⟩ = some (.int .i64 2) := bg6.cell 0
  have e1 : (PowS.new.set 1 true).ok = true := rfl
  have e2 : (PowS.new.set 1 true).next.ok = false := rfl
  have e3 : (PowS.new.set 1 true).next.next.ok = false := rfl
  have e4 : (PowS.new.set 1 true).next.next.next.down = true := rfl
  have C7 : Hid (Calls Try.prog 15 #[.pointer (some ⟨r, 0, none⟩)] w6 fun e w' => e = .returned (.bool false) ∧ w' = w6) := oPDown w6 hp6
  have C8 : Hid (Calls Try.prog 16 #[.pointer (some ⟨r, 0, none⟩)] w6 fun e w' => e = .returned (.int .i64 2) ∧ w' = w6) := oPSteps w6 hp6
  rw [e1, e2, e3, e4]
  have hl6 := bg6.lt
  clear e1 e2 e3 e4 hp6 bg6
  go_wp2_with (first
    | (go_at_call 15; go_must (refine C7.out.mono ?_); rintro e w7 ⟨rfl, rfl⟩)
    | (go_at_call 16; go_must (refine C8.out.mono ?_); rintro e w7 ⟨rfl, rfl⟩))
  go_ret
  exact ⟨rfl, k6⟩

end Go.Proofs.Ytonakdbpalhimaa
