/-
  The smoke of layer 10's statements: it answers true. No condition.
-/
import Derived.Test.YteilnckkmmgpcaaCelV
import Derived.Lib.SlBytesConst
namespace Go.Proofs.Yteilnckkmmgpcaa
open Go.RowKit

def s10a : CelS := CelS.new PowS.new
def s10b : CelS := (s10a.write 1 [97, 98]).1
theorem s10f0 : s10a.fit 0 := CelS.fit_new
theorem s10f1 : s10b.fit 1 := s10f0.a_write 1 [97, 98]
theorem s10e1 : (s10a.write 1 [97, 98]).2 = 0 := by decide +kernel
theorem s10e2 : (s10b.read 1).2 = 0 := by decide +kernel
theorem s10l2 : (s10b.read 1).1.length = 1024 := by decide +kernel
theorem s10x1 : bt (s10b.read 1).1 1 = 98 := by decide +kernel
theorem s10x2 : bt (s10b.read 1).1 2 = 0 := by decide +kernel
theorem s10e3 : (s10b.write 4 []).2 = 2 := by decide +kernel
theorem s10e4 : (s10b.write 4 []).1 = s10b := by unfold CelS.write; rw [if_pos (Or.inr (by omega))]
theorem s10n : s10b.writes = 1 := by decide +kernel

set_option maxRecDepth 100000 in
set_option maxHeartbeats 4000000 in
theorem lWorks10 (w : World) : Calls Try.prog 6 #[] w fun e w' => e = .returned (.bool true) ∧ Below w.heap.size w w' := by
  go_enter Try.func6, Try.ntmps6
  go_wp2_with fail
  refine (oPNew w).mono ?_
  rintro e w1 ⟨r, rfl, hr, hp, hb1⟩
  go_wp2_with fail
  refine (oCNew w1 hp).mono ?_
  rintro e w2 ⟨c, U, F, rfl, hd, hU, hb2⟩
  have S0 : Hid (StaC w w2 c r U F s10a) := StaC.first hb1 hr hd hU hb2
  clear hd hU hb2 hb1 hp
  go_wp2_with fail
  refine (oCNewNil w2).mono ?_
  rintro e w3 ⟨rfl, hb3⟩
  have S1 : Hid (StaC w w3 c r U F s10a) := S0.out.grow hb3
  clear S0 hb3
  have hb0 := below_alloc w3 (.cells #[.int .u8 97, .int .u8 98] 5 (2, 3))
  have S2 : Hid (StaC w (w3.alloc (.cells #[.int .u8 97, .int .u8 98] 5 (2, 3))) c r U F s10a) := S1.out.grow hb0
  have h9 : BA (fun j => ¬ F j) (w3.alloc (.cells #[.int .u8 97, .int .u8 98] 5 (2, 3))) (some ⟨w3.heap.size, 0, none⟩) 2 2 [97, 98] :=
    ⟨Bs.marked w3 [97, 98] _ (2, 3) rfl (by simp), fun _ => ⟨_, rfl, fun hF => by have := S1.out.ck.lt _ (S1.out.ck.sub _ hF); dsimp only at this; omega, by simp⟩⟩
  clear S1 hb0
  have kc := fun (w : World) (C : Array Value) (n c : Nat) => Lib.run_convert_bytes_const (P := Try.prog) w 38 5 C n c Try.underlying38 Try.underlying5
  go_wp2_with fail
  clear kc
  generalize w3.alloc (.cells #[.int .u8 97, .int .u8 98] 5 (2, 3)) = v3 at *
  refine (oCWrite v3 S2.out.ck s10f0 (by omega) 1 (by constructor <;> omega) h9).mono ?_
  rintro e w5 ⟨rfl, U2, F2, hd, hU, hF, hk⟩
  rw [s10e1]
  have S3 : Hid (StaC w w5 c r U2 F2 s10b) := S2.out.after hd hU hk
  clear S2 h9 hd hU hF hk
  go_wp2_with fail
  refine (oCRead w5 S3.out.ck s10f1 (by omega) 1 (by constructor <;> omega)).mono ?_
  rintro e w6 ⟨bp, bm, bc, rfl, HB0, hb6⟩
  rw [s10e2]
  have HB := HB0.mono (A' := fun j => ¬ F2 j) fun _ _ h => h.1
  have S4 : Hid (StaC w w6 c r U2 F2 s10b) := S3.out.grow hb6
  have lb : bm = 1024 := by rw [← HB.1.len]; exact s10l2
  subst lb
  clear S3 HB0 hb6
  go_wp2_with fail
  refine (oCWrite w6 S4.out.ck s10f1 (by omega) 4 (by constructor <;> omega) (p := none) (m := 0) (q := 0) (b := []) ⟨Bs.nil w6, fun h => by omega⟩).mono ?_
  rintro e w7 ⟨rfl, U3, F3, hd, hU, hF, hk⟩
  rw [s10e3]
  rw [s10e4] at hd
  have S5 : Hid (StaC w w7 c r U3 F3 s10b) := S4.out.after hd hU hk
  have HB7 := HB.after hk hF
  obtain ⟨bb, bo, rfl, bl, bc5⟩ := HB7.1.at (by omega)
  have cb1 := bc5 1 (by omega)
  have cb2 := bc5 2 (by omega)
  rw [s10x1] at cb1
  rw [s10x2] at cb2
  clear S4 hd hU hF hk HB HB7 bc5
  go_wp2_with fail
  refine (oCWrites w7 S5.out.ck).mono ?_
  rintro e w8 ⟨rfl, hb8⟩
  rw [s10n]
  have S6 : Hid (StaC w w8 c r U3 F3 s10b) := S5.out.grow hb8
  clear S5 hb8
  go_wp2_with fail
  go_ret
  exact ⟨rfl, S6.out.bel⟩

end Go.Proofs.Yteilnckkmmgpcaa
