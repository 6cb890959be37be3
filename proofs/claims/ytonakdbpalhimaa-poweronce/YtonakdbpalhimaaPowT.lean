/-
  The closures of layer 8's three statements, each counting one more. No condition.
-/
import Derived.Test.YtonakdbpalhimaaPowC
namespace Go.Proofs.Ytonakdbpalhimaa
open Go.RowKit

theorem Blk.tick {w : World} {g k : Nat} (hb : Blk w g [.int .i64 (k : Int)] 3) : Blk (w.setCell ⟨g, 0, none⟩ (.int .i64 ((k : Int) + 1))) g [.int .i64 ((k + 1 : Nat) : Int)] 3 := hb.setC 0 _
set_option maxRecDepth 100000 in
theorem tickDoes : Ticks 10 := by
  intro w g k hk hb
  have hl := hb.lt
  have c0 := hb.cell 0
  have z0 := hb.free 0
  simp only [List.getElem?_cons_zero] at c0
  go_enter Try.func10, Try.ntmps10
  go_wp2_with fail
  go_end0
  exact ⟨rfl, hb.tick, Kp.of_grown (but_set _ _ _ _)⟩
theorem entersDoes : Enters 10 := Try.call10
set_option maxRecDepth 100000 in
theorem tickOnce : Ticks 17 := by
  intro w g k hk hb
  have hl := hb.lt
  have c0 := hb.cell 0
  have z0 := hb.free 0
  simp only [List.getElem?_cons_zero] at c0
  go_enter Try.func17, Try.ntmps17
  go_wp2_with fail
  go_end0
  exact ⟨rfl, hb.tick, Kp.of_grown (but_set _ _ _ _)⟩
theorem entersOnce : Enters 17 := Try.call17
set_option maxRecDepth 100000 in
theorem tickW1 : Ticks 18 := by
  intro w g k hk hb
  have hl := hb.lt
  have c0 := hb.cell 0
  have z0 := hb.free 0
  simp only [List.getElem?_cons_zero] at c0
  go_enter Try.func18, Try.ntmps18
  go_wp2_with fail
  go_end0
  exact ⟨rfl, hb.tick, Kp.of_grown (but_set _ _ _ _)⟩
theorem entersW1 : Enters 18 := Try.call18
set_option maxRecDepth 100000 in
theorem tickW2 : Ticks 19 := by
  intro w g k hk hb
  have hl := hb.lt
  have c0 := hb.cell 0
  have z0 := hb.free 0
  simp only [List.getElem?_cons_zero] at c0
  go_enter Try.func19, Try.ntmps19
  go_wp2_with fail
  go_end0
  exact ⟨rfl, hb.tick, Kp.of_grown (but_set _ _ _ _)⟩
theorem entersW2 : Enters 19 := Try.call19
set_option maxRecDepth 100000 in
theorem tickW3 : Ticks 20 := by
  intro w g k hk hb
  have hl := hb.lt
  have c0 := hb.cell 0
  have z0 := hb.free 0
  simp only [List.getElem?_cons_zero] at c0
  go_enter Try.func20, Try.ntmps20
  go_wp2_with fail
  go_end0
  exact ⟨rfl, hb.tick, Kp.of_grown (but_set _ _ _ _)⟩
theorem entersW3 : Enters 20 := Try.call20

end Go.Proofs.Ytonakdbpalhimaa
