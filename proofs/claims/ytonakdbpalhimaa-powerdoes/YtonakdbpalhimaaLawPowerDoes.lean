/-
  Proved: for any list of acts the statement PowerDoes of layer 8 answers true and leaves its arguments as they were. Conditions beside the statement's own: none.
-/
import Derived.Test.YtonakdbpalhimaaRows
import Derived.Test.YtonakdbpalhimaaOps8
import Derived.Test.YtonakdbpalhimaaPowS
import Derived.Test.YtonakdbpalhimaaGrowT
import Derived.Below
import Derived.ChangeOld
namespace Go.Proofs.Ytonakdbpalhimaa
namespace PowerDoesLaw
open Go.ChangeShapes Go.WideShapes Go.ChangeAt Go.RowKit
open Go.ChangeMaps (open_string shut_string)
set_option linter.unusedVariables false

theorem own : ownKnob Try.prog.godebug = none := by kernel_rfl
theorem laidOut : laidOutB Try.prog = true := by kernel_rfl

set_option maxRecDepth 100000 in
set_option maxHeartbeats 4000000 in
theorem walk (a0 : Option Addr) (len0 cap0 : Nat) (l0 : List Unit) (w : World) (w0 : Ops8 w a0 len0 cap0 l0) :
    Calls Try.prog 3 #[.slice a0 len0 cap0] w fun e w' => e = .returned (.bool true) ∧ Below w.heap.size w w' := by
  have hn1 := w0.1
  have hc1 := w0.2.1
  unfold maxLen at hc1
  by_cases h1 : (200 : Int) < len0
  · go_enter Try.func3, Try.ntmps3
    go_wp2_with (go_at_call 5; refine (lWorks8 _).mono ?_; rintro e w2 ⟨rfl, hb1⟩)
    go_ret
    exact ⟨rfl, hb1⟩
  · have W0 : Hid (Ops8 w a0 len0 cap0 l0) := w0
    clear w0
    go_enter Try.func3, Try.ntmps3
    go_wp2_with fail
    refine (oPNew w).mono ?_
    rintro e w1 ⟨r, rfl, hr, hp, hb1⟩
    go_wp2_with fail
    refine (rPNew w1).mono ?_
    rintro e w2 ⟨rfl, hb2⟩
    have hp2 := hp.below hb2 hp.lt
    have k2 := hb1.trans (hb2.mono hb1.size)
    clear hp hb1 hb2
    obtain ⟨X, hX⟩ : ∃ X, X = w2.heap.size := ⟨_, rfl⟩
    have hwX : w.heap.size ≤ X := by rw [hX]; exact k2.size
    have hne : X ≠ r := by have := hp2.lt; omega
    have bX : Blk (w2.alloc (.cells (pc PowS.new).toArray 27)) X (pc PowS.new) 27 := Blk.newAt w2 _ _ X hX.symm _ (by simp)
    have hp3 := hp2.below (below_alloc w2 (.cells (pc PowS.new).toArray 27)) hp2.lt
    have k3 : Below w.heap.size w (w2.alloc (.cells (pc PowS.new).toArray 27)) := k2.alloc k2.size _
    unfold pv PowS.new
    dsimp only
    go_wp2_with fail
    rw [← hX]
    have e1 : (pc PowS.new).toArray = #[.int .i64 0, .int .i64 (-1), .bool false, .bool false] := rfl
    rw [e1] at bX hp3 k3
    generalize w2.alloc (.cells #[.int .i64 0, .int .i64 (-1), .bool false, .bool false] 27) = W1 at *
    clear hp2 k2 hX e1
    go_loopw [5, 6, 7, 8, 9] (fun i _ _ _ _ wr => ∃ (k : Nat) (S : PowS), k ≤ len0 ∧ i = .int .i64 (k : Int) ∧ S.fit k ∧ Pw wr r S ∧ Blk wr X (pc S) 27 ∧ Below w.heap.size w wr) (fun i _ _ _ _ _ => len0 - (intOf i).toNat)
    case atStart => exact ⟨0, PowS.new, Nat.zero_le _, rfl, PowS.fit_new, hp3, bX, k3⟩
    case round =>
      clear hp3 bX k3
      obtain ⟨k, S, hk, rfl, hfit, hp, hbx, hbl⟩ := hrel
      by_cases hlt : k < len0
      · obtain ⟨b, o, x, y, z, rfl, cx, cy, cz, ⟨bx0, bx1⟩, by0⟩ := W0.out.2.2 k hlt
        have hbL := lt_of_cell cx
        have d0 : wr.cell? ⟨b, o + k * 3, none⟩ = some (.int .i64 x) := by rw [hbl.cell (p := ⟨b, o + k * 3, none⟩) hbL]; exact cx
        have i0 : (k : Int) < (len0 : Int) := by omega
        go_upto_block 2 with fail
        go_cut [6, 7, 8, 9] from 29 to 84 (fun _ _ _ _ wx => ∃ S, PowS.fit S (k + 1) ∧ Pw wx r S ∧ Blk wx X (pc S) 27 ∧ Below w.heap.size w wx)
        case first =>
          have hXl := hbx.lt
          have c0 : wr.cell? ⟨X, 0, none⟩ = some (.int .i64 (S.steps : Int)) := hbx.cell 0
          have c1 : wr.cell? ⟨X, 1, none⟩ = some (.int .i64 S.fuse) := hbx.cell 1
          have c2 : wr.cell? ⟨X, 2, none⟩ = some (.bool S.done) := hbx.cell 2
          have c3 : wr.cell? ⟨X, 3, none⟩ = some (.bool S.down) := hbx.cell 3
          by_cases hx0 : x = 0
          · subst hx0
            obtain ⟨g, hg⟩ : ∃ g, g = wr.heap.size := ⟨_, rfl⟩
            have hwg : w.heap.size ≤ g := by rw [hg]; exact hbl.size
            have bg : Blk (wr.alloc (.cells #[.int .i64 0] 3)) g [.int .i64 ((0 : Nat) : Int)] 3 := Blk.newAt wr _ 3 g hg.symm _ rfl
            have hpA := hp.below (below_alloc wr (.cells #[.int .i64 0] 3)) hp.lt
            have hrg : r < g := by rw [hg]; exact hp.lt
            have hXg : X < g := by rw [hg]; exact hXl
            have bXA := hbx.old (.cells #[.int .i64 0] 3)
            have kA : Below w.heap.size w (wr.alloc (.cells #[.int .i64 0] 3)) := hbl.alloc hbl.size _
            go_wp2_with fail
            rw [← hg]
            generalize wr.alloc (.cells #[.int .i64 0] 3) = WA at *
            clear hp hbx hbl hg d0 c0 c1 c2 c3 hXl
            refine (rPStep WA S hfit (by omega)).mono ?_
            rintro e WB ⟨rfl, hB⟩
            have bgB := bg.below hB bg.lt
            have bXB := bXA.below hB bXA.lt
            have hpB := hpA.below hB hpA.lt
            have kB := kA.trans (hB.mono kA.size)
            have hgl := bgB.lt
            have hXl := bXB.lt
            have c0 : WB.cell? ⟨X, 0, none⟩ = some (.int .i64 (S.steps : Int)) := bXB.cell 0
            have c1 : WB.cell? ⟨X, 1, none⟩ = some (.int .i64 S.fuse) := bXB.cell 1
            have c2 : WB.cell? ⟨X, 2, none⟩ = some (.bool S.done) := bXB.cell 2
            have c3 : WB.cell? ⟨X, 3, none⟩ = some (.bool S.down) := bXB.cell 3
            have z0 := bXB.free 0
            have z1 := bXB.free 1
            have z2 := bXB.free 2
            have z3 := bXB.free 3
            unfold pv
            go_wp2_with fail
            have bXC : Blk ((put4 WB X S.next).alloc (.cells (pc S.next).toArray 27)) X (pc S.next) 27 := (put4_blk bXB S.next).old _
            have kpC : Kp (fun j => j = X) WB ((put4 WB X S.next).alloc (.cells (pc S.next).toArray 27)) := (put4_kp WB X S.next).alloc _
            show Calls _ _ _ ((put4 WB X S.next).alloc (.cells (pc S.next).toArray 27)) _
            generalize (put4 WB X S.next).alloc (.cells (pc S.next).toArray 27) = WC at *
            have bgC := kpC.blk bgB (by omega)
            have hpC := hpB.kp kpC (Ne.symm hne)
            have kC := below_kp kB kpC kB.size (fun j hj e => by omega)
            clear c0 c1 c2 c3 z0 z1 z2 z3 bXB hpB kB kpC bgB hB bXA bg hpA kA
            refine (oStepC WC hpC hfit (by omega) bgC (by omega) (by omega) _ entersDoes tickDoes).mono ?_
            rintro e WD ⟨rfl, hpD, bgD, qD⟩
            have bXD := qD.blk bXC (by omega)
            have kD := below_kp kC qD kC.size (fun j hj e => by omega)
            have hglD := bgD.lt
            have c0 : WD.cell? ⟨g, 0, none⟩ = some (.int .i64 ((if S.does = true then 0 + 1 else 0 : Nat) : Int)) := bgD.cell 0
            have HE : Hid (∃ S, PowS.fit S (k + 1) ∧ Pw WD r S ∧ Blk WD X (pc S) 27 ∧ Below w.heap.size w WD) := ⟨S.next, PowS.fit_next hfit, hpD, bXD, kD⟩
            clear hpC bgC kC bXC qD bgD bXD hpD kD hgl hXl
            generalize S.next = S' at *
            generalize S.does = does at *
            generalize S.ok = ok at *
            cases does with
            | true =>
              have c1 : WD.cell? ⟨g, 0, none⟩ = some (.int .i64 1) := c0
              clear c0
              cases ok with
              | true =>
                go_wp2_with fail
                go_meet
                case rel => exact HE.out
              | false =>
                go_wp2_with fail
                go_meet
                case rel => exact HE.out
            | false =>
              have c1 : WD.cell? ⟨g, 0, none⟩ = some (.int .i64 0) := c0
              clear c0
              cases ok with
              | true =>
                go_wp2_with fail
                go_meet
                case rel => exact HE.out
              | false =>
                go_wp2_with fail
                go_meet
                case rel => exact HE.out
          · have e0 : (x == 0) = false := by simp [hx0]
            by_cases hx1 : x = 1
            · subst hx1
              have d1 : wr.cell? ⟨b, o + k * 3 + 1, none⟩ = some (.int .i64 y) := by rw [hbl.cell (p := ⟨b, o + k * 3 + 1, none⟩) hbL]; exact cy
              have d2 : wr.cell? ⟨b, o + k * 3 + 2, none⟩ = some (.bool z) := by rw [hbl.cell (p := ⟨b, o + k * 3 + 2, none⟩) hbL]; exact cz
              have F1 : ∀ w, Grows wr w → w.cell? ⟨b, o + k * 3 + 1, none⟩ = some (.int .i64 y) := fun w h => (Below.cell h (p := ⟨b, o + k * 3 + 1, none⟩) (Nat.lt_of_lt_of_le hbL hbl.size)).trans d1
              have F2 : ∀ w, Grows wr w → w.cell? ⟨b, o + k * 3 + 2, none⟩ = some (.bool z) := fun w h => (Below.cell h (p := ⟨b, o + k * 3 + 2, none⟩) (Nat.lt_of_lt_of_le hbL hbl.size)).trans d2
              go_wp2_with fail
              refine regionE 11 (S := Grows wr) (by kernel_rfl) (Below.refl _ wr).drew ?_
              refine takeT 0 (some 55) (.pointer (some ⟨r, 0, none⟩)) rfl rfl (by kernel_rfl) (fun _ _ _ h => h) (ans_plain (by rfl) (fun w _ => rfl)) ?_
              simp only [Act.put, List.setIfInBounds_toArray, List.set_cons_zero, List.set_cons_succ]
              refine takeT 1 (some 56) (.slice (some ⟨b, o, none⟩) len0 cap0) rfl rfl (by kernel_rfl) (fun _ _ _ h => h) (ans_plain (by rfl) (fun w _ => rfl)) ?_
              simp only [Act.put, List.setIfInBounds_toArray, List.set_cons_zero, List.set_cons_succ]
              refine takeT 2 (some 57) (.int .i64 (k : Int)) rfl rfl (by kernel_rfl) (fun _ _ _ h => h) (ans_plain (by rfl) (fun w _ => rfl)) ?_
              simp only [Act.put, List.setIfInBounds_toArray, List.set_cons_zero, List.set_cons_succ]
              refine takeT 3 (some 58) (.pointer (some ⟨b, o + k * 3, none⟩)) rfl rfl (by kernel_rfl) (fun _ _ _ h => h) (ans_plain (by rfl) (fun w _ => by unfold execOp; go_simp)) ?_
              simp only [Act.put, List.setIfInBounds_toArray, List.set_cons_zero, List.set_cons_succ]
              refine takeT 4 (some 59) (.pointer (some ⟨b, o + k * 3 + 1, none⟩)) rfl rfl (by kernel_rfl) (fun _ _ _ h => h) (ans_plain (by rfl) (fun w _ => by unfold execOp; go_simp)) ?_
              simp only [Act.put, List.setIfInBounds_toArray, List.set_cons_zero, List.set_cons_succ]
              refine takeT 5 (some 60) (.int .i64 y) rfl rfl (by kernel_rfl) (fun _ _ _ h => h) (ans_plain (by rfl) (fun w h => by have hc := F1 w h; unfold execOp; go_simp)) ?_
              simp only [Act.put, List.setIfInBounds_toArray, List.set_cons_zero, List.set_cons_succ]
              refine takeT 6 (some 61) (.slice (some ⟨b, o, none⟩) len0 cap0) rfl rfl (by kernel_rfl) (fun _ _ _ h => h) (ans_plain (by rfl) (fun w _ => rfl)) ?_
              simp only [Act.put, List.setIfInBounds_toArray, List.set_cons_zero, List.set_cons_succ]
              refine takeT 7 (some 62) (.int .i64 (k : Int)) rfl rfl (by kernel_rfl) (fun _ _ _ h => h) (ans_plain (by rfl) (fun w _ => rfl)) ?_
              simp only [Act.put, List.setIfInBounds_toArray, List.set_cons_zero, List.set_cons_succ]
              refine takeT 8 (some 63) (.pointer (some ⟨b, o + k * 3, none⟩)) rfl rfl (by kernel_rfl) (fun _ _ _ h => h) (ans_plain (by rfl) (fun w _ => by unfold execOp; go_simp)) ?_
              simp only [Act.put, List.setIfInBounds_toArray, List.set_cons_zero, List.set_cons_succ]
              refine takeT 9 (some 64) (.pointer (some ⟨b, o + k * 3 + 2, none⟩)) rfl rfl (by kernel_rfl) (fun _ _ _ h => h) (ans_plain (by rfl) (fun w _ => by unfold execOp; go_simp)) ?_
              simp only [Act.put, List.setIfInBounds_toArray, List.set_cons_zero, List.set_cons_succ]
              refine takeT 10 (some 65) (.bool z) rfl rfl (by kernel_rfl) (fun _ _ _ h => h) (ans_plain (by rfl) (fun w h => by have hc := F2 w h; unfold execOp; go_simp)) ?_
              simp only [Act.put, List.setIfInBounds_toArray, List.set_cons_zero, List.set_cons_succ]
              refine lastC 11 (some 66) 11 #[.tmp 55, .tmp 60, .tmp 65] #[24, 3, 4] #[.pointer (some ⟨r, 0, none⟩), .int .i64 y, .bool z] rfl rfl rfl (by rfl) (by rfl) (by kernel_rfl) (by kernel_rfl) (by kernel_rfl) (by kernel_rfl) Try.call11 fun u1 hg1 hs1 => ?_
              refine (oPFuse u1 (hp.below hs1 hp.lt) y z by0).mono ?_
              rintro e u2 ⟨rfl, hpB, qB⟩
              refine ⟨_, rfl, fun u3 hg3 => ?_⟩
              have bXB := (qB.blk (hbx.below hs1 hbx.lt) hne).below hg3 (qB.blk (hbx.below hs1 hbx.lt) hne).lt
              have hpC := hpB.below hg3 hpB.lt
              have k1 := hbl.trans (Below.mono hs1 hbl.size)
              have k2 := below_kp k1 qB k1.size (fun j hj e => by omega)
              have kB := k2.trans (Below.mono hg3 k2.size)
              simp only [Act.put, List.setIfInBounds_toArray, List.set_cons_zero, List.set_cons_succ]
              clear hp hbx hbl qB c0 c1 c2 c3 hXl d0 d1 d2 F1 F2 hs1 hg1 hg3 k1 k2 hpB
              have hXl := bXB.lt
              have G1 : ∀ w, Grows u3 w → w.cell? ⟨b, o + k * 3 + 1, none⟩ = some (.int .i64 y) := fun w h => (Below.cell h (p := ⟨b, o + k * 3 + 1, none⟩) (Nat.lt_of_lt_of_le hbL kB.size)).trans ((kB.cell (p := ⟨b, o + k * 3 + 1, none⟩) hbL).trans cy)
              have G2 : ∀ w, Grows u3 w → w.cell? ⟨b, o + k * 3 + 2, none⟩ = some (.bool z) := fun w h => (Below.cell h (p := ⟨b, o + k * 3 + 2, none⟩) (Nat.lt_of_lt_of_le hbL kB.size)).trans ((kB.cell (p := ⟨b, o + k * 3 + 2, none⟩) hbL).trans cz)
              go_wp2_with fail
              refine regionE 12 (S := Grows u3) (by kernel_rfl) (Below.refl _ u3).drew ?_
              refine takeT 0 (some 67) (pv S) rfl rfl (by kernel_rfl) (fun _ _ _ h => h) (ans_row 27 (.tmp 4) _ 4 rfl (by rfl) X 0 rfl (pc S) (fun w h => (bXB.below h bXB.lt).whole) Try.underlying27 rfl rfl (by kernel_rfl)) ?_
              simp only [Act.put, List.setIfInBounds_toArray, List.set_cons_zero, List.set_cons_succ]
              refine takeT 1 (some 68) (.slice (some ⟨b, o, none⟩) len0 cap0) rfl rfl (by kernel_rfl) (fun _ _ _ h => h) (ans_plain (by rfl) (fun w _ => rfl)) ?_
              simp only [Act.put, List.setIfInBounds_toArray, List.set_cons_zero, List.set_cons_succ]
              refine takeT 2 (some 69) (.int .i64 (k : Int)) rfl rfl (by kernel_rfl) (fun _ _ _ h => h) (ans_plain (by rfl) (fun w _ => rfl)) ?_
              simp only [Act.put, List.setIfInBounds_toArray, List.set_cons_zero, List.set_cons_succ]
              refine takeT 3 (some 70) (.pointer (some ⟨b, o + k * 3, none⟩)) rfl rfl (by kernel_rfl) (fun _ _ _ h => h) (ans_plain (by rfl) (fun w _ => by unfold execOp; go_simp)) ?_
              simp only [Act.put, List.setIfInBounds_toArray, List.set_cons_zero, List.set_cons_succ]
              refine takeT 4 (some 71) (.pointer (some ⟨b, o + k * 3 + 1, none⟩)) rfl rfl (by kernel_rfl) (fun _ _ _ h => h) (ans_plain (by rfl) (fun w _ => by unfold execOp; go_simp)) ?_
              simp only [Act.put, List.setIfInBounds_toArray, List.set_cons_zero, List.set_cons_succ]
              refine takeT 5 (some 72) (.int .i64 y) rfl rfl (by kernel_rfl) (fun _ _ _ h => h) (ans_plain (by rfl) (fun w h => by have hc := G1 w h; unfold execOp; go_simp)) ?_
              simp only [Act.put, List.setIfInBounds_toArray, List.set_cons_zero, List.set_cons_succ]
              refine takeT 6 (some 73) (.slice (some ⟨b, o, none⟩) len0 cap0) rfl rfl (by kernel_rfl) (fun _ _ _ h => h) (ans_plain (by rfl) (fun w _ => rfl)) ?_
              simp only [Act.put, List.setIfInBounds_toArray, List.set_cons_zero, List.set_cons_succ]
              refine takeT 7 (some 74) (.int .i64 (k : Int)) rfl rfl (by kernel_rfl) (fun _ _ _ h => h) (ans_plain (by rfl) (fun w _ => rfl)) ?_
              simp only [Act.put, List.setIfInBounds_toArray, List.set_cons_zero, List.set_cons_succ]
              refine takeT 8 (some 75) (.pointer (some ⟨b, o + k * 3, none⟩)) rfl rfl (by kernel_rfl) (fun _ _ _ h => h) (ans_plain (by rfl) (fun w _ => by unfold execOp; go_simp)) ?_
              simp only [Act.put, List.setIfInBounds_toArray, List.set_cons_zero, List.set_cons_succ]
              refine takeT 9 (some 76) (.pointer (some ⟨b, o + k * 3 + 2, none⟩)) rfl rfl (by kernel_rfl) (fun _ _ _ h => h) (ans_plain (by rfl) (fun w _ => by unfold execOp; go_simp)) ?_
              simp only [Act.put, List.setIfInBounds_toArray, List.set_cons_zero, List.set_cons_succ]
              refine takeT 10 (some 77) (.bool z) rfl rfl (by kernel_rfl) (fun _ _ _ h => h) (ans_plain (by rfl) (fun w h => by have hc := G2 w h; unfold execOp; go_simp)) ?_
              simp only [Act.put, List.setIfInBounds_toArray, List.set_cons_zero, List.set_cons_succ]
              refine takeT 11 (some 78) (pv (S.set y z)) rfl rfl (by kernel_rfl) (fun _ _ _ h => h) (ans_call 12 #[.tmp 67, .tmp 72, .tmp 77] #[27, 3, 4] #[pv S, .int .i64 y, .bool z] rfl (by rfl) (by rfl) Try.call12 fun u h => (rPFuse u S y z).mono fun e u' ⟨he, hb'⟩ => ⟨he, hb', Grows.trans h hb'⟩) ?_
              simp only [Act.put, List.setIfInBounds_toArray, List.set_cons_zero, List.set_cons_succ]
              refine lastE (by kernel_rfl) (by kernel_rfl) (by kernel_rfl) (by kernel_rfl) fun u4 _ hs4 => ?_
              refine opStR 12 27 (.tmp 4) (.tmp 78) 4 rfl rfl rfl rfl X (pc S) (pc (S.set y z)) _ (bXB.below hs4 bXB.lt) rfl rfl (by intro v hv; simp [pc] at hv; rcases hv with rfl | rfl | rfl | rfl <;> rfl) (by kernel_rfl) rfl rfl fun u5 b5 q5 u6 hg6 => ?_
              have k4 := kB.trans (Below.mono hs4 kB.size)
              have k5 := below_kp k4 q5 k4.size (fun j hj e => by omega)
              have HE : Hid (∃ S, PowS.fit S (k + 1) ∧ Pw u6 r S ∧ Blk u6 X (pc S) 27 ∧ Below w.heap.size w u6) := ⟨S.set y z, PowS.fit_mono (PowS.fit_set hfit by0.2 z) (by omega), ((hpC.below hs4 hpC.lt).kp q5 (Ne.symm hne)).below hg6 ((hpC.below hs4 hpC.lt).kp q5 (Ne.symm hne)).lt, b5.below hg6 b5.lt, k5.trans (Below.mono hg6 k5.size)⟩
              clear bXB hpC kB k4 k5 q5 b5 hs4 hg6
              go_wp2_with fail
              go_meet
              case rel => exact HE.out
            · have e1 : (x == 1) = false := by simp [hx1]
              by_cases hx2 : x = 2
              · subst hx2
                go_wp2_with fail
                refine (oPBack wr hp).mono ?_
                rintro e WB ⟨rfl, hpB, qB⟩
                have bXB := qB.blk hbx hne
                have kB := below_kp hbl qB hbl.size (fun j hj e => by omega)
                clear hp hbx hbl qB c0 c1 c2 c3 hXl d0
                have hXl := bXB.lt
                have c0 : WB.cell? ⟨X, 0, none⟩ = some (.int .i64 (S.steps : Int)) := bXB.cell 0
                have c1 : WB.cell? ⟨X, 1, none⟩ = some (.int .i64 S.fuse) := bXB.cell 1
                have c2 : WB.cell? ⟨X, 2, none⟩ = some (.bool S.done) := bXB.cell 2
                have c3 : WB.cell? ⟨X, 3, none⟩ = some (.bool S.down) := bXB.cell 3
                go_wp2_with fail
                refine (rPBack WB S).mono ?_
                rintro e WC ⟨rfl, hC⟩
                have bXC := bXB.below hC bXB.lt
                have hpC := hpB.below hC hpB.lt
                have kC := kB.trans (hC.mono kB.size)
                clear c0 c1 c2 c3 hXl bXB hpB kB hC
                have hXl := bXC.lt
                have c0 : WC.cell? ⟨X, 0, none⟩ = some (.int .i64 (S.steps : Int)) := bXC.cell 0
                have c1 : WC.cell? ⟨X, 1, none⟩ = some (.int .i64 S.fuse) := bXC.cell 1
                have c2 : WC.cell? ⟨X, 2, none⟩ = some (.bool S.done) := bXC.cell 2
                have c3 : WC.cell? ⟨X, 3, none⟩ = some (.bool S.down) := bXC.cell 3
                have z0 := bXC.free 0
                have z1 := bXC.free 1
                have z2 := bXC.free 2
                have z3 := bXC.free 3
                have HE : Hid (∃ S, PowS.fit S (k + 1) ∧ Pw (put4 WC X S) r S ∧ Blk (put4 WC X S) X (pc S) 27 ∧ Below w.heap.size w (put4 WC X S)) := ⟨S.back, PowS.fit_mono (PowS.fit_back hfit) (by omega), hpC.kp (put4_kp WC X S.back) (Ne.symm hne), put4_blk bXC S.back, below_kp kC (put4_kp WC X S.back) kC.size (fun j hj e => by omega)⟩
                have HF : Hid (PowS.fit S.back (k + 1) ∧ Pw (put4 WC X S.back) r S.back ∧ Blk (put4 WC X S.back) X (pc S.back) 27 ∧ Below w.heap.size w (put4 WC X S.back)) := ⟨PowS.fit_mono (PowS.fit_back hfit) (by omega), hpC.kp (put4_kp WC X S.back) (Ne.symm hne), put4_blk bXC S.back, below_kp kC (put4_kp WC X S.back) kC.size (fun j hj e => by omega)⟩
                clear HE hpC bXC kC
                generalize S.back = S' at *
                unfold pv
                go_wp2_with fail
                go_meet
                case rel => exact ⟨S', HF.out⟩
              · have e2 : (x == 2) = false := by simp [hx2]
                go_wp2_with fail
                go_meet
                case rel => exact ⟨S, PowS.fit_mono hfit (by omega), hp, hbx, hbl⟩
        case rest =>
          clear hfit hp hbx hbl d0
          obtain ⟨S2, hf2, hp2, hb2, hl2⟩ := hcut
          have c0 : wc.cell? ⟨X, 0, none⟩ = some (.int .i64 (S2.steps : Int)) := hb2.cell 0
          have c3 : wc.cell? ⟨X, 3, none⟩ = some (.bool S2.down) := hb2.cell 3
          have hXl := hb2.lt
          have CD : Hid (∀ d, Calls Try.prog 15 #[.pointer (some ⟨r, 0, none⟩)] (wc.drewN d) fun e w' => e = .returned (.bool S2.down) ∧ w' = wc.drewN d) := fun d => oPDown _ (hp2.same rfl)
          have CT : Hid (∀ d, Calls Try.prog 16 #[.pointer (some ⟨r, 0, none⟩)] (wc.drewN d) fun e w' => e = .returned (.int .i64 (S2.steps : Int)) ∧ w' = wc.drewN d) := fun d => oPSteps _ (hp2.same rfl)
          have HI : Hid (∀ d, ∃ S : PowS, S.fit (k + 1) ∧ Pw (wc.drewN d) r S ∧ Blk (wc.drewN d) X (pc S) 27 ∧ Below w.heap.size w (wc.drewN d)) := fun d => ⟨S2, hf2, hp2.same rfl, hb2.drN d, below_drN hl2 d⟩
          clear hf2 hp2 hb2 hl2
          generalize S2.steps = st at *
          generalize S2.down = dn at *
          cases dn with
          | true =>
            go_wp2_with fail
            go_quiet ((first | (go_at_call 15; exact Calls.quiet_of_same (CD.out _)) | (go_at_call 16; exact Calls.quiet_of_same (CT.out _))))
            go_wp2_with fail
            go_roundw
            case rel =>
              obtain ⟨S3, h3⟩ := HI.out _
              (repeat apply Exists.intro)
              refine ⟨?_, rfl⟩
              refine ⟨k + 1, S3, by omega, by go_num, h3⟩
            case measure => simp [intOf]; omega
          | false =>
            go_wp2_with fail
            go_quiet ((first | (go_at_call 15; exact Calls.quiet_of_same (CD.out _)) | (go_at_call 16; exact Calls.quiet_of_same (CT.out _))))
            go_wp2_with fail
            go_roundw
            case rel =>
              obtain ⟨S3, h3⟩ := HI.out _
              (repeat apply Exists.intro)
              refine ⟨?_, rfl⟩
              refine ⟨k + 1, S3, by omega, by go_num, h3⟩
            case measure => simp [intOf]; omega
      · obtain rfl : k = len0 := by omega
        have i0 : ¬ (k : Int) < (k : Int) := by omega
        go_wp2_with (go_at_call 5; refine (lWorks8 _).mono ?_; rintro e w2 ⟨rfl, hb1⟩)
        go_ret
        exact ⟨rfl, hbl.trans (hb1.mono hbl.size)⟩

set_option maxRecDepth 100000 in
theorem lifted (os : Os) (started : os.Started) (H : Type) (enc : TypeId × Value → H) :
    ReturnsInHanded {} Try.checked os 3 .any (Rows.powerDoesSpec.pre6 enc Try.prog Try.f3 Rows.powerDoesRow.domain false) (Rows.powerDoesSpec.post enc Try.prog Try.f3 false true false false) := by
  refine returnsInHanded_of_change (C := Try.checked) own started (by kernel_rfl) Try.func3
    (ChangeSpec.witness6 (enc := enc) (C := Try.checked) false ⟨#[], #[.slice none 0 0], []⟩ 8 (by kernel_rfl) (by kernel_rfl) (by kernel_rfl) (by kernel_rfl)) ?_
  intro W base args ds gs before hval0 hW hcnd _
  have hval : ∀ (j : Nat) t v, Try.f3.params[j]? = some t → args[j]? = some v → Value.okWide Try.prog W .any base t v := hval0
  have hW' := hW
  obtain ⟨p, q, hA0, hV, rfl, hfz, hnd⟩ := hW
  have hA : DataW.TrodAll enc Try.prog W 0 (fun _ => true) true Try.f3.params.toList args.toList ds p := hA0
  rw [Try.params3] at hA hval
  obtain ⟨v0, vs0, d0, ds0, p0, q0, hargs, rfl, rfl, h0, r0⟩ := trodAll_cons hA
  obtain ⟨rfl, rfl, rfl⟩ := trodAll_nil r0
  obtain rfl : args = #[v0] := by cases args; simp_all
  obtain ⟨rfl, rfl⟩ := trodVars_none hV
  obtain ⟨a0, len0, cap0, rfl⟩ := okWide_slice Try.underlying22 (hval 0 22 v0 rfl rfl)
  have k0 := h0
  have lt0 : ∀ x ∈ p0, x.block < W.heap.size := by obtain ⟨m, hm⟩ := k0; exact DataW.trod_lt m _ _ _ hm
  obtain ⟨l0, w0⟩ : ∃ l, Ops8 W a0 len0 cap0 l := by
    obtain ⟨fuel, hf⟩ := h0
    exact Ops8.of_trod hf
  clear hA0 hval0
  refine (walk a0 len0 cap0 l0 W w0).mono fun e W' ⟨he, bel⟩ => ?_
  subst he
  exact ⟨_, rfl, _, _, _, [], _, [], hW', trodAll_mk1 (shut_bool Try.underlying4 _), (trodAll_cons_mk (Below.trod laidOut (by kernel_rfl) (of_decide_eq_true (by kernel_rfl)) k0 bel lt0) trodAll_mk0), rfl, bel.frame _, fun h => by cases h⟩

theorem over : Rows.powerDoesRow.holds Try.pinned (OpenSpec.ofChange Rows.powerDoesSpec) :=
  OpenClaim.holds_of_wide 3 Try.f3 rfl rfl rfl rfl rfl rfl rfl ⟨rfl, rfl, rfl, rfl, rfl⟩ rfl rfl rfl rfl rfl (by kernel_rfl) Try.func3 (by kernel_rfl)
    (of_decide_eq_true (by kernel_rfl)) (by unfold Func.isWrapper; first | (rw [if_pos (by decide +kernel)]; kernel_rfl) | (rw [if_neg (by decide +kernel)]; exact ⟨rfl, rfl⟩))
    (fun os started H enc _ => lifted os started H enc)
end PowerDoesLaw

/-- The statement. -/
theorem powerDoes_holds : Rows.PowerDoesSaid := PowerDoesLaw.over
#print axioms powerDoes_holds
end Go.Proofs.Ytonakdbpalhimaa
