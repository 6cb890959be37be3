/-
  Proved: for any three numbers and any acts the statement SpaceDoes of layer 15 answers true and leaves its arguments as they were. Conditions beside the statement's own: none.
-/
import Derived.Test.YtcmbkpdefbaakaaRows
import Derived.Test.YtcmbkpdefbaakaaSpaW
import Derived.Test.YtcmbkpdefbaakaaSpaX
import Derived.Test.YtcmbkpdefbaakaaSpaZ
import Derived.Test.YtcmbkpdefbaakaaOps15
import Derived.Test.YtcmbkpdefbaakaaGrowS
import Derived.Below
import Derived.Deep.DeepCutAuto
import Derived.Deep.CutBlock
import Derived.ChangeOld
namespace Go.Proofs.Ytcmbkpdefbaakaa
namespace SpaceDoesLaw
open Go.ChangeShapes Go.WideShapes Go.ChangeAt Go.RowKit
open Go.ChangeMaps (open_string shut_string)
set_option linter.unusedVariables false

theorem own : ownKnob Try.prog.godebug = none := by kernel_rfl
theorem laidOut : laidOutB Try.prog = true := by kernel_rfl

set_option maxRecDepth 100000 in
set_option maxHeartbeats 4000000 in
theorem walk (a0 : Int) (a1 : Int) (a2 : Option Addr) (len2 cap2 : Nat) (l2 : List Unit) (a3 : Int) (w : World) (w0 : (Lit.int .i64 a0).wf = true) (w1 : (Lit.int .i64 a1).wf = true) (w2 : Ops15 w a2 len2 cap2 l2) (w3 : (Lit.int .i64 a3).wf = true) :
    Calls Try.prog 3 #[.int .i64 a0, .int .i64 a1, .slice a2 len2 cap2, .int .i64 a3] w fun e w' => e = .returned (.bool true) ∧ Below w.heap.size w w' := by
  have hn1 := w2.1
  have hc1 := w2.2.1
  unfold maxLen at hc1
  by_cases h1 : (60 : Int) < len2
  · go_enter Try.func3, Try.ntmps3
    go_wp2_with (go_at_call 6; refine (lWorks15 _).mono ?_; rintro e w2 ⟨rfl, hb1⟩)
    go_ret
    exact ⟨rfl, hb1⟩
  · by_cases h2 : (60 : Int) < a0 ∧ a0 ≤ 4096
    · obtain ⟨h3, h4⟩ := h2
      go_enter Try.func3, Try.ntmps3
      go_wp2_with (go_at_call 6; refine (lWorks15 _).mono ?_; rintro e w2 ⟨rfl, hb1⟩)
      go_ret
      exact ⟨rfl, hb1⟩
    · have W2 : Hid (Ops15 w a2 len2 cap2 l2) := w2
      clear w2
      have hb0 := bounds_i64 w0
      have hb1 := bounds_i64 w1
      clear w0 w1 w3
      by_cases hbad : a0 < 1 ∨ 4096 < a0 ∨ a1 < 0 ∨ a0 < a1
      · have h5 : ¬ 60 < a0 ∨ ¬ a0 ≤ 4096 := by omega
        have HN := oZNewNot w a0 a1 hbad
        have HR : Hid (∀ u, Calls Try.prog 8 #[.int .i64 a0, .int .i64 a1] u fun e w' => e = .returned (.tuple #[.agg #[.int .i64 0, .slice none 0 0], .int .i64 2]) ∧ Below u.heap.size u w') := fun u => rNew15Not u a0 a1 hbad
        clear h2 hbad hb0 hb1
        by_cases h6 : 60 < a0
        · have h7 : ¬ a0 ≤ 4096 := by omega
          clear h5
          go_enter Try.func3, Try.ntmps3
          go_wp2_with fail
          refine HN.mono ?_
          rintro e w' ⟨rfl, rfl⟩
          clear HN
          go_wp2_with fail
          refine (HR.out _).mono ?_
          rintro e w1 ⟨rfl, hb1⟩
          have B1 : Hid (Below w.heap.size w (w1.alloc (.cells #[.int .i64 0, .slice none 0 0] 30))) := hb1.alloc hb1.size _
          clear hb1 HR
          go_wp2_with fail
          go_loop [13] (fun x => x = .int .i64 0) (fun _ => 0)
          case atStart => rfl
          case round =>
            subst hrel
            by_cases i0 : (0 : Int) < (len2 : Int)
            · go_wp2_with fail
              refine (lWorks15 _).mono ?_
              rintro e w3 ⟨rfl, hb3⟩
              have B3 : Hid (Below w.heap.size w w3) := B1.out.trans (hb3.mono B1.out.size)
              clear hb3
              go_wp2_with fail
              go_ret
              exact ⟨rfl, B3.out⟩
            · go_wp2_with fail
              refine (lWorks15 _).mono ?_
              rintro e w3 ⟨rfl, hb3⟩
              have B3 : Hid (Below w.heap.size w w3) := B1.out.trans (hb3.mono B1.out.size)
              clear hb3
              go_wp2_with fail
              go_ret
              exact ⟨rfl, B3.out⟩
        · clear h5
          go_enter Try.func3, Try.ntmps3
          go_wp2_with fail
          refine HN.mono ?_
          rintro e w' ⟨rfl, rfl⟩
          clear HN
          go_wp2_with fail
          refine (HR.out _).mono ?_
          rintro e w1 ⟨rfl, hb1⟩
          have B1 : Hid (Below w.heap.size w (w1.alloc (.cells #[.int .i64 0, .slice none 0 0] 30))) := hb1.alloc hb1.size _
          clear hb1 HR
          go_wp2_with fail
          go_loop [13] (fun x => x = .int .i64 0) (fun _ => 0)
          case atStart => rfl
          case round =>
            subst hrel
            by_cases i0 : (0 : Int) < (len2 : Int)
            · go_wp2_with fail
              refine (lWorks15 _).mono ?_
              rintro e w3 ⟨rfl, hb3⟩
              have B3 : Hid (Below w.heap.size w w3) := B1.out.trans (hb3.mono B1.out.size)
              clear hb3
              go_wp2_with fail
              go_ret
              exact ⟨rfl, B3.out⟩
            · go_wp2_with fail
              refine (lWorks15 _).mono ?_
              rintro e w3 ⟨rfl, hb3⟩
              have B3 : Hid (Below w.heap.size w w3) := B1.out.trans (hb3.mono B1.out.size)
              clear hb3
              go_wp2_with fail
              go_ret
              exact ⟨rfl, B3.out⟩
      · obtain ⟨n, rfl⟩ : ∃ n : Nat, a0 = (n : Int) := ⟨a0.toNat, by omega⟩
        obtain ⟨f, rfl⟩ : ∃ f : Nat, a1 = (f : Int) := ⟨a1.toNat, by omega⟩
        have hn2 : 1 ≤ n := by omega
        have hn3 : n ≤ 60 := by omega
        have hf2 : f ≤ n := by omega
        have h6 : ¬ (60 : Int) < (n : Int) := by omega
        have hl60 : len2 ≤ 60 := by omega
        clear h2 hbad hb0 hb1
        go_enter Try.func3, Try.ntmps3
        go_wp2_with fail
        refine (oZNew w n f hn2 (by omega) hf2).mono ?_
        rintro e w1 ⟨s, t, rfl, hS, hs, ht, hb⟩
        have Ht : Hid (w.heap.size ≤ t) := ht
        have HS : Hid (Sp w1 s t (SpS.new n f)) := hS
        have HB : Hid (Below w.heap.size w w1) := hb
        clear hS hs ht hb
        go_wp2_with fail
        refine (rNew15 w1 (A := fun j => w1.heap.size ≤ j) (fun j hj => hj) n f hn2 (by omega) hf2).mono ?_
        rintro e w2 ⟨p, c, rfl, hr, hb⟩
        obtain ⟨X, hX⟩ : ∃ X, X = w2.heap.size := ⟨_, rfl⟩
        have HXw : Hid (w.heap.size ≤ X) := by show _ ≤ _; rw [hX]; exact Nat.le_trans HB.out.size hb.size
        have H2 : Hid (Two15 (w2.alloc (.cells #[.int .i64 (f : Int), .slice p n c] 30)) s t X n f (SpS.new n f) p c) := by
          have l1 := HS.out.lt
          have l2 := HS.out.lt2
          have l3 := hb.size
          have hr2 := hr.lt (SpS.ok_new hn2 (by omega) hf2)
          exact ⟨(HS.out.grow hb).grow (below_alloc _ _), Blk.newAt w2 _ _ X hX.symm _ rfl, (hr2.mono fun j hj => ⟨by omega, by omega⟩).grow (below_alloc _ _), SpS.good_new n f hf2, rfl, SpS.new_len n f, by omega, by omega⟩
        have HB2 : Hid (Below w.heap.size w (w2.alloc (.cells #[.int .i64 (f : Int), .slice p n c] 30))) := (HB.out.trans (hb.mono HB.out.size)).alloc (Nat.le_trans HB.out.size hb.size) _
        have hzc : (zc (SpS.new n f) p c).toArray = #[.int .i64 (f : Int), .slice p n c] := by rw [zc_eq, SpS.new_len]; rfl
        rw [hzc]
        clear hr hb hzc HS HB
        go_wp2_with fail
        rw [← hX]
        generalize w2.alloc (.cells #[.int .i64 (f : Int), .slice p n c] 30) = W1 at *
        clear hX
        go_loopw [13] (fun x wr => ∃ (i : Nat) (S : SpS) (p' : Option Addr) (c' : Nat), i ≤ len2 ∧ x = .int .i64 (i : Int) ∧ Hid (Two15 wr s t X n f S p' c') ∧ Hid (Below w.heap.size w wr)) (fun x _ => len2 - (intOf x).toNat)
        case atStart => exact ⟨0, _, p, c, Nat.zero_le _, rfl, H2, HB2⟩
        case round =>
          clear H2 HB2
          obtain ⟨i, S, p', c', hi, rfl, H2, HB⟩ := hrel
          by_cases hlt : i < len2
          · obtain ⟨b, o, x, y, z, rfl, cx, cy, cz, bx, by0, bz⟩ := W2.out.2.2 i hlt
            have hbL := lt_of_cell cx
            have hbR : b < wr.heap.size := Nat.lt_of_lt_of_le hbL HB.out.size
            have d0 : wr.cell? ⟨b, o + i * 3, none⟩ = some (.int .i64 x) := by rw [HB.out.cell (p := ⟨b, o + i * 3, none⟩) hbL]; exact cx
            have d1 : wr.cell? ⟨b, o + i * 3 + 1, none⟩ = some (.int .i64 y) := by rw [HB.out.cell (p := ⟨b, o + i * 3 + 1, none⟩) hbL]; exact cy
            have d2 : wr.cell? ⟨b, o + i * 3 + 2, none⟩ = some (.int .i64 z) := by rw [HB.out.cell (p := ⟨b, o + i * 3 + 2, none⟩) hbL]; exact cz
            have i0 : (i : Int) < (len2 : Int) := by omega
            have Hz : Hid (z ≤ 9223372036854775807) := bz.2
            clear cx cy cz bx by0 bz
            clear hc1
            go_wp2_with fail
            obtain ⟨Q, hQ⟩ : ∃ Q, Q = wr.heap.size := ⟨_, rfl⟩
            have bQ : Blk (wr.alloc (.cells #[.int .i64 x, .int .i64 y, .int .i64 z] 34)) Q [.int .i64 x, .int .i64 y, .int .i64 z] 34 := Blk.newAt wr _ _ Q hQ.symm _ rfl
            have H3 : Hid (Two15 (wr.alloc (.cells #[.int .i64 x, .int .i64 y, .int .i64 z] 34)) s t X n f S p' c') := H2.out.grow (below_alloc _ _)
            have HB3 : Hid (Below w.heap.size w (wr.alloc (.cells #[.int .i64 x, .int .i64 y, .int .i64 z] 34))) := HB.out.alloc HB.out.size _
            have neQ : ¬ Q = X := by have := H2.out.bx.lt; omega
            have neX : ¬ X = Q := fun e => neQ e.symm
            have HQt : Hid (Q ≠ t) := by show _ ≠ _; have := H2.out.sp.lt2; omega
            rw [← hQ]
            generalize wr.alloc (.cells #[.int .i64 x, .int .i64 y, .int .i64 z] 34) = v1 at *
            clear hQ d0 d1 d2 hbR H2 HB
            refine (oZCopy v1 H3.out.sp).mono ?_
            rintro e v2 ⟨s', t', rfl, hO, hs', ht', k2⟩
            have HO : Hid (Sp v2 s' t' S) := hO
            have H4 : Hid (Two15 v2 s t X n f S p' c') := H3.out.grow k2
            have HB4 : Hid (Below w.heap.size w v2) := HB3.out.trans (k2.mono HB3.out.size)
            have bQ4 := bQ.below k2 bQ.lt
            have Hne : Hid ((¬ s' = t ∧ ¬ t' = t) ∧ ¬ s' = X ∧ ¬ t' = X) := by
              have h1 := H3.out.bx.lt
              have h2 := H3.out.sp.lt2
              exact ⟨⟨by omega, by omega⟩, by omega, by omega⟩
            have lX := H4.out.bx.lt
            obtain ⟨c0, c1⟩ := H4.out.cell
            clear hO hs' ht' k2 bQ H3 HB3
            go_wp2_with fail
            refine (tFree H4.out).mono ?_
            rintro e v3 ⟨rfl, k3⟩
            have HO5 : Hid (Sp v3 s' t' S) := HO.out.grow k3
            have H5 : Hid (Two15 v3 s t X n f S p' c') := H4.out.grow k3
            have HB5 : Hid (Below w.heap.size w v3) := HB4.out.trans (k3.mono HB4.out.size)
            have bQ5 := bQ4.below k3 bQ4.lt
            have HQ5 : Hid (Blk v3 Q [.int .i64 x, .int .i64 y, .int .i64 z] 34) := bQ5
            have q0 : v3.cell? ⟨Q, 0, none⟩ = some (.int .i64 x) := bQ5.cell 0
            have q1 : v3.cell? ⟨Q, 1, none⟩ = some (.int .i64 y) := bQ5.cell 1
            have q2 : v3.cell? ⟨Q, 2, none⟩ = some (.int .i64 z) := bQ5.cell 2
            have lQ := bQ5.lt
            clear lX c0 c1 HO H4 HB4 bQ4 bQ5 k3
            have lX := H5.out.bx.lt
            obtain ⟨c0, c1⟩ := H5.out.cell
            obtain ⟨F0, hF0⟩ : ∃ F0, F0 = freeL S.l := ⟨_, rfl⟩
            rw [← hF0]
            have HF0 : Hid ((freeL S.l : Int) = (F0 : Int)) := by show _ = _; rw [hF0]
            clear hF0
            by_cases x0 : x = 0
            · subst x0
              have CT := tTake H5.out z
              have CP : Hid (∀ u, Sp u s t S → Calls Try.prog 12 #[.pointer (some ⟨s, 0, none⟩), .int .i64 z] u fun e w' => e = .returned (.tuple #[.int .i64 (S.take z).2.1, .int .i64 (S.take z).2.2]) ∧ Sp w' s t (S.take z).1 ∧ Kp (fun j => j = t) u w') := fun u h => oZTake u h z
              have good1 := SpS.good_take H5.out.good H5.out.sp.ok z
              have len1 := (S.take_len z).1
              have fst1 := (S.take_len z).2
              rw [H5.out.len] at len1
              rw [H5.out.fst] at fst1
              generalize S.take z = R at *
              obtain ⟨T, at_, cd⟩ := R
              dsimp only at CT CP good1 len1 fst1
              have HG1 : Hid T.good := good1
              have HL1 : Hid (T.l.length = n) := len1
              have HF1 : Hid (T.first = f) := fst1
              clear good1 len1 fst1
              go_wp2_with fail
              refine CT.mono ?_
              rintro e v4 ⟨p4, c4, rfl, hr4, k4⟩
              clear CT
              have bX4 := H5.out.bx.below k4 H5.out.bx.lt
              have bQ4 := HQ5.out.below k4 HQ5.out.lt
              have HH : Hid (Half15 (((v4.setCell ⟨X, 0, none⟩ (.int .i64 (f : Int))).setCell ⟨X, 1, none⟩ (.slice p4 n c4)).alloc (.cells #[.int .i64 (f : Int), .slice p4 n c4] 30)) s t X n f S T p4 c4) := (H5.out.stored k4 hr4 HG1.out HF1.out HL1.out).grow (below_alloc _ _)
              have kk : Kp (fun j => j = X) v4 (((v4.setCell ⟨X, 0, none⟩ (.int .i64 (f : Int))).setCell ⟨X, 1, none⟩ (.slice p4 n c4)).alloc (.cells #[.int .i64 (f : Int), .slice p4 n c4] 30)) := ((Kp.setC (F := fun j => j = X) rfl 0 _).trans (Kp.setC (F := fun j => j = X) rfl 1 _)).alloc _
              have HO6 : Hid (Sp (((v4.setCell ⟨X, 0, none⟩ (.int .i64 (f : Int))).setCell ⟨X, 1, none⟩ (.slice p4 n c4)).alloc (.cells #[.int .i64 (f : Int), .slice p4 n c4] 30)) s' t' S) := (HO5.out.grow k4).keep kk Hne.out.2.1 Hne.out.2.2
              have HB6 : Hid (Below w.heap.size w (((v4.setCell ⟨X, 0, none⟩ (.int .i64 (f : Int))).setCell ⟨X, 1, none⟩ (.slice p4 n c4)).alloc (.cells #[.int .i64 (f : Int), .slice p4 n c4] 30))) := below_kp (HB5.out.trans (k4.mono HB5.out.size)) kk (Nat.le_trans HB5.out.size k4.size) (fun j hj e => by have := HXw.out; omega)
              have g0 : v4.cell? ⟨X, 0, none⟩ = some (.int .i64 (f : Int)) := bX4.cell 0
              have g1 : v4.cell? ⟨X, 1, none⟩ = some (.slice p' n c') := bX4.cell 1
              have z0 := bX4.free 0
              have z1 := bX4.free 1
              have lX4 := bX4.lt
              have r2 : v4.cell? ⟨Q, 2, none⟩ = some (.int .i64 z) := bQ4.cell 2
              have lQ4 := bQ4.lt
              clear q0 q1 q2 lQ lX c0 c1 bX4 bQ4 hr4 k4 kk H5 HO5 HB5
              go_wp2_with fail
              generalize ((v4.setCell ⟨X, 0, none⟩ (.int .i64 (f : Int))).setCell ⟨X, 1, none⟩ (.slice p4 n c4)).alloc (.cells #[.int .i64 (f : Int), .slice p4 n c4] 30) = v5 at *
              refine (CP.out v5 HH.out.sp).mono ?_
              rintro e v6 ⟨rfl, h6', k6⟩
              have H6 : Hid (Two15 v6 s t X n f T p4 c4) := HH.out.done h6' k6
              have HO7 : Hid (Sp v6 s' t' S) := HO6.out.keep k6 Hne.out.1.1 Hne.out.1.2
              have HB7 : Hid (Below w.heap.size w v6) := below_kp HB6.out k6 HB6.out.size (fun j hj e => by have := Ht.out; omega)
              clear g0 g1 z0 z1 lX4 r2 lQ4 HH HO6 HB6 h6' k6 CP
              obtain ⟨F1, hF1⟩ : ∃ F1, F1 = freeL T.l := ⟨_, rfl⟩
              have CF : Hid (∀ u, Grows v6 u → Calls Try.prog 17 #[.pointer (some ⟨s, 0, none⟩)] u fun e w' => e = .returned (.int .i64 (F1 : Int)) ∧ Below u.heap.size u w') := fun u h => oZFreeE u (H6.out.sp.grow h) (by rw [hF1])
              have CR : Hid (∀ u, Grows v6 u → Calls Try.prog 10 #[.agg #[.int .i64 (f : Int), .slice p4 n c4]] u fun e w' => e = .returned (.int .i64 (F1 : Int)) ∧ Below u.heap.size u w') := fun u h => by rw [hF1]; exact tFree (H6.out.grow h)
              have CS : Hid (∀ u, Grows v6 u → Calls Try.prog 18 #[.pointer (some ⟨s, 0, none⟩)] u fun e w' => e = .returned (.int .i64 (n : Int)) ∧ Below u.heap.size u w') := fun u h => oZSizeE u (H6.out.sp.grow h) (by rw [H6.out.len])
              have CO : Hid (∀ u, Grows v6 u → Calls Try.prog 17 #[(.pointer (some ⟨s', 0, none⟩))] u fun e w' => e = .returned (.int .i64 (F0 : Int)) ∧ Below u.heap.size u w') := fun u h => oZFreeE u (HO7.out.grow h) HF0.out
              clear hF1
              go_wp2_with fail
              refine regionG (S := Grows v6) (by kernel_rfl) (Below.refl _ v6).drew ?_
              refine takeG 0 (some 145) (.bool true) rfl rfl (by kernel_rfl) (by kernel_rfl) (by kernel_rfl) (fun _ _ _ h => h) (ans_plain (by rfl) (fun w _ => rfl)) ?_
              simp only [Act.put, List.setIfInBounds_toArray, List.set_cons_zero, List.set_cons_succ]
              refine takeG 1 (some 146) (.bool false) rfl rfl (by kernel_rfl) (by kernel_rfl) (by kernel_rfl) (fun _ _ _ h => h) (ans_plain (by rfl) (fun w _ => by unfold execOp; go_simp)) ?_
              simp only [Act.put, List.setIfInBounds_toArray, List.set_cons_zero, List.set_cons_succ]
              refine takeG 2 (some 147) (.bool false) rfl rfl (by kernel_rfl) (by kernel_rfl) (by kernel_rfl) (fun _ _ _ h => h) (ans_plain (by rfl) (fun w _ => rfl)) ?_
              simp only [Act.put, List.setIfInBounds_toArray, List.set_cons_zero, List.set_cons_succ]
              refine takeG 3 (some 148) (.pointer (some ⟨s, 0, none⟩)) rfl rfl (by kernel_rfl) (by kernel_rfl) (by kernel_rfl) (fun _ _ _ h => h) (ans_plain (by rfl) (fun w _ => by unfold execOp; go_simp)) ?_
              simp only [Act.put, List.setIfInBounds_toArray, List.set_cons_zero, List.set_cons_succ]
              refine takeG 4 (some 149) (.int .i64 (F1 : Int)) rfl rfl (by kernel_rfl) (by kernel_rfl) (by kernel_rfl) (fun _ _ _ h => h) (ans_fn 17 #[.tmp 148] #[24] #[.pointer (some ⟨s, 0, none⟩)] rfl (by rfl) (by rfl) Try.call17 fun u h => CF.out u h) ?_
              simp only [Act.put, List.setIfInBounds_toArray, List.set_cons_zero, List.set_cons_succ]
              refine takeG 5 (some 150) (.agg #[.int .i64 (f : Int), .slice p4 n c4]) rfl rfl (by kernel_rfl) (by kernel_rfl) (by kernel_rfl) (fun _ _ _ h => h) (ans_row 30 (.tmp 11) _ 2 rfl (by rfl) X 0 rfl [.int .i64 (f : Int), .slice p4 n c4] (fun u hu => (H6.out.bx.below hu H6.out.bx.lt).whole) Try.underlying30 rfl rfl sizeZ) ?_
              simp only [Act.put, List.setIfInBounds_toArray, List.set_cons_zero, List.set_cons_succ]
              refine takeG 6 (some 151) (.int .i64 (F1 : Int)) rfl rfl (by kernel_rfl) (by kernel_rfl) (by kernel_rfl) (fun _ _ _ h => h) (ans_fn 10 #[.tmp 150] #[30] #[.agg #[.int .i64 (f : Int), .slice p4 n c4]] rfl (by rfl) (by rfl) Try.call10 fun u h => CR.out u h) ?_
              simp only [Act.put, List.setIfInBounds_toArray, List.set_cons_zero, List.set_cons_succ]
              refine takeG 7 (some 152) (.bool false) rfl rfl (by kernel_rfl) (by kernel_rfl) (by kernel_rfl) (fun _ _ _ h => h) (ans_plain (by rfl) (fun w _ => by unfold execOp; go_simp)) ?_
              simp only [Act.put, List.setIfInBounds_toArray, List.set_cons_zero, List.set_cons_succ]
              refine takeG 8 (some 153) (.bool false) rfl rfl (by kernel_rfl) (by kernel_rfl) (by kernel_rfl) (fun _ _ _ h => h) (ans_plain (by rfl) (fun w _ => by unfold execOp; go_simp)) ?_
              simp only [Act.put, List.setIfInBounds_toArray, List.set_cons_zero, List.set_cons_succ]
              refine takeG 9 (some 154) (.bool false) rfl rfl (by kernel_rfl) (by kernel_rfl) (by kernel_rfl) (fun _ _ _ h => h) (ans_plain (by rfl) (fun w _ => rfl)) ?_
              simp only [Act.put, List.setIfInBounds_toArray, List.set_cons_zero, List.set_cons_succ]
              refine takeG 10 (some 155) (.pointer (some ⟨s, 0, none⟩)) rfl rfl (by kernel_rfl) (by kernel_rfl) (by kernel_rfl) (fun _ _ _ h => h) (ans_plain (by rfl) (fun w _ => by unfold execOp; go_simp)) ?_
              simp only [Act.put, List.setIfInBounds_toArray, List.set_cons_zero, List.set_cons_succ]
              refine takeG 11 (some 156) (.int .i64 (n : Int)) rfl rfl (by kernel_rfl) (by kernel_rfl) (by kernel_rfl) (fun _ _ _ h => h) (ans_fn 18 #[.tmp 155] #[24] #[.pointer (some ⟨s, 0, none⟩)] rfl (by rfl) (by rfl) Try.call18 fun u h => CS.out u h) ?_
              simp only [Act.put, List.setIfInBounds_toArray, List.set_cons_zero, List.set_cons_succ]
              refine takeG 12 (some 157) (.int .i64 (n : Int)) rfl rfl (by kernel_rfl) (by kernel_rfl) (by kernel_rfl) (fun _ _ _ h => h) (ans_plain (by rfl) (fun w _ => by unfold execOp; go_simp)) ?_
              simp only [Act.put, List.setIfInBounds_toArray, List.set_cons_zero, List.set_cons_succ]
              refine takeG 13 (some 158) (.bool false) rfl rfl (by kernel_rfl) (by kernel_rfl) (by kernel_rfl) (fun _ _ _ h => h) (ans_plain (by rfl) (fun w _ => by unfold execOp; go_simp)) ?_
              simp only [Act.put, List.setIfInBounds_toArray, List.set_cons_zero, List.set_cons_succ]
              refine takeG 14 (some 159) (.bool false) rfl rfl (by kernel_rfl) (by kernel_rfl) (by kernel_rfl) (fun _ _ _ h => h) (ans_plain (by rfl) (fun w _ => by unfold execOp; go_simp)) ?_
              simp only [Act.put, List.setIfInBounds_toArray, List.set_cons_zero, List.set_cons_succ]
              refine takeG 15 (some 160) (.bool false) rfl rfl (by kernel_rfl) (by kernel_rfl) (by kernel_rfl) (fun _ _ _ h => h) (ans_plain (by rfl) (fun w _ => rfl)) ?_
              simp only [Act.put, List.setIfInBounds_toArray, List.set_cons_zero, List.set_cons_succ]
              refine takeG 16 (some 161) ((.pointer (some ⟨s', 0, none⟩))) rfl rfl (by kernel_rfl) (by kernel_rfl) (by kernel_rfl) (fun _ _ _ h => h) (ans_plain (by rfl) (fun w _ => by unfold execOp; go_simp)) ?_
              simp only [Act.put, List.setIfInBounds_toArray, List.set_cons_zero, List.set_cons_succ]
              refine takeG 17 (some 162) (.int .i64 (F0 : Int)) rfl rfl (by kernel_rfl) (by kernel_rfl) (by kernel_rfl) (fun _ _ _ h => h) (ans_fn 17 #[.tmp 161] #[24] #[(.pointer (some ⟨s', 0, none⟩))] rfl (by rfl) (by rfl) Try.call17 fun u h => CO.out u h) ?_
              simp only [Act.put, List.setIfInBounds_toArray, List.set_cons_zero, List.set_cons_succ]
              refine takeG 18 (some 163) (.int .i64 (F0 : Int)) rfl rfl (by kernel_rfl) (by kernel_rfl) (by kernel_rfl) (fun _ _ _ h => h) (ans_plain (by rfl) (fun w _ => by unfold execOp; go_simp)) ?_
              simp only [Act.put, List.setIfInBounds_toArray, List.set_cons_zero, List.set_cons_succ]
              refine takeG 19 (some 164) (.bool false) rfl rfl (by kernel_rfl) (by kernel_rfl) (by kernel_rfl) (fun _ _ _ h => h) (ans_plain (by rfl) (fun w _ => by unfold execOp; go_simp)) ?_
              simp only [Act.put, List.setIfInBounds_toArray, List.set_cons_zero, List.set_cons_succ]
              refine takeG 20 (some 165) (.bool false) rfl rfl (by kernel_rfl) (by kernel_rfl) (by kernel_rfl) (fun _ _ _ h => h) (ans_plain (by rfl) (fun w _ => by unfold execOp; go_simp)) ?_
              simp only [Act.put, List.setIfInBounds_toArray, List.set_cons_zero, List.set_cons_succ]
              refine doneG (by kernel_rfl) fun v7 _ hs7 => ?_
              have H7 : Hid (Two15 v7 s t X n f T p4 c4) := H6.out.grow hs7
              have HB8 : Hid (Below w.heap.size w v7) := HB7.out.trans (Below.mono hs7 HB7.out.size)
              clear CF CR CS CO hs7 H6 HO7 HB7
              obtain ⟨b4, o4, rfl, hb4, _⟩ := H7.out.at_
              go_wp2_with fail
              go_loopw [24] (fun x v8 => ∃ k : Nat, k ≤ n ∧ x = .int .i64 (k : Int) ∧ Hid (Two15 v8 s t X n f T (some ⟨b4, o4, none⟩) c4) ∧ Hid (Below w.heap.size w v8)) (fun x _ => n - (intOf x).toNat)
              case atStart => exact ⟨0, by omega, rfl, H7, HB8⟩
              case round =>
                clear H7 HB8
                rename World => v8
                obtain ⟨k, hk, rfl, H8, HB8⟩ := hrel
                by_cases hkn : k < n
                · have i1 : (k : Int) < (n : Int) := by omega
                  have i2 : (0 : Int) ≤ (k : Int) := by omega
                  obtain ⟨b5, o5, e5, hb5, hc5⟩ := H8.out.at_
                  simp only [Option.some.injEq, Addr.mk.injEq, and_true] at e5
                  obtain ⟨rfl, rfl⟩ := e5
                  have c5 := hc5 k hkn
                  have c1 := H8.out.cell.2
                  have lX := H8.out.bx.lt
                  have HTk : Hid (∀ nq, Calls Try.prog 19 #[.pointer (some ⟨s, 0, none⟩), .int .i64 (k : Int)] (v8.drewN nq) fun e w' => e = .returned (.bool (T.l.getD k false)) ∧ w' = v8.drewN nq) := fun nq => by
                    have := oZTaken (v8.drewN nq) (H8.out.sp.grow (below_drewN' v8 nq)) (k : Int)
                    rw [SpS.taken_in T (by rw [H8.out.len]; exact hkn)] at this
                    exact this.mono fun e w' h => ⟨h.1, h.2.symm⟩
                  have Hn : Hid (∀ nq, Hid (Two15 (v8.drewN nq) s t X n f T (some ⟨b4, o4, none⟩) c4) ∧ Hid (Below w.heap.size w (v8.drewN nq))) := fun nq => ⟨H8.out.grow (below_drewN' v8 nq), below_drN HB8.out nq⟩
                  generalize T.l.getD k false = bit at *
                  clear hc5 hb4
                  cases bit
                  all_goals
                    go_wp2_with fail
                    go_quiet ((go_at_call 19; exact Calls.quiet_of_same (HTk.out _)))
                    obtain ⟨r1, r2⟩ := Hn.out nq
                    go_wp2_with fail
                    go_roundw
                    case rel => exact ⟨k + 1, by omega, by go_num, r1, r2⟩
                    case measure => simp [intOf]; omega
                · obtain rfl : k = n := by omega
                  have i1 : ¬ (k : Int) < (k : Int) := by omega
                  go_wp2_with fail
                  go_roundw
                  case rel => exact ⟨i + 1, T, _, c4, by omega, by go_num, H8, HB8⟩
                  case measure => simp [intOf]; omega
            · by_cases x1 : x = 1
              · subst x1
                have CT := tMark H5.out y z
                have CP : Hid (∀ u, Sp u s t S → Calls Try.prog 14 #[.pointer (some ⟨s, 0, none⟩), .int .i64 y, .int .i64 z] u fun e w' => e = .returned (.int .i64 (S.mark y z).2) ∧ Sp w' s t (S.mark y z).1 ∧ Kp (fun j => j = t) u w') := fun u h => oZMark u h y z Hz.out
                have good1 : (S.mark y z).1.good := SpS.good_run H5.out.good H5.out.sp.ok y z true 10
                have len1 : (S.mark y z).1.l.length = S.l.length := (S.run_len y z true 10).1
                have fst1 : (S.mark y z).1.first = S.first := (S.run_len y z true 10).2
                rw [H5.out.len] at len1
                rw [H5.out.fst] at fst1
                generalize S.mark y z = R at *
                obtain ⟨T, cd⟩ := R
                dsimp only at CT CP good1 len1 fst1
                have HG1 : Hid T.good := good1
                have HL1 : Hid (T.l.length = n) := len1
                have HF1 : Hid (T.first = f) := fst1
                clear good1 len1 fst1
                go_wp2_with fail
                refine CT.mono ?_
                rintro e v4 ⟨p4, c4, rfl, hr4, k4⟩
                clear CT
                have bX4 := H5.out.bx.below k4 H5.out.bx.lt
                have bQ4 := HQ5.out.below k4 HQ5.out.lt
                have HH : Hid (Half15 ((v4.setCell ⟨X, 0, none⟩ (.int .i64 (f : Int))).setCell ⟨X, 1, none⟩ (.slice p4 n c4)) s t X n f S T p4 c4) := H5.out.stored k4 hr4 HG1.out HF1.out HL1.out
                have kk : Kp (fun j => j = X) v4 ((v4.setCell ⟨X, 0, none⟩ (.int .i64 (f : Int))).setCell ⟨X, 1, none⟩ (.slice p4 n c4)) := (Kp.setC (F := fun j => j = X) rfl 0 _).trans (Kp.setC (F := fun j => j = X) rfl 1 _)
                have HO6 : Hid (Sp ((v4.setCell ⟨X, 0, none⟩ (.int .i64 (f : Int))).setCell ⟨X, 1, none⟩ (.slice p4 n c4)) s' t' S) := (HO5.out.grow k4).keep kk Hne.out.2.1 Hne.out.2.2
                have HB6 : Hid (Below w.heap.size w ((v4.setCell ⟨X, 0, none⟩ (.int .i64 (f : Int))).setCell ⟨X, 1, none⟩ (.slice p4 n c4))) := below_kp (HB5.out.trans (k4.mono HB5.out.size)) kk (Nat.le_trans HB5.out.size k4.size) (fun j hj e => by have := HXw.out; omega)
                have g0 : v4.cell? ⟨X, 0, none⟩ = some (.int .i64 (f : Int)) := bX4.cell 0
                have g1 : v4.cell? ⟨X, 1, none⟩ = some (.slice p' n c') := bX4.cell 1
                have z0 := bX4.free 0
                have z1 := bX4.free 1
                have lX4 := bX4.lt
                have r1 : v4.cell? ⟨Q, 1, none⟩ = some (.int .i64 y) := bQ4.cell 1
                have r2 : v4.cell? ⟨Q, 2, none⟩ = some (.int .i64 z) := bQ4.cell 2
                have lQ4 := bQ4.lt
                clear q0 q1 q2 lQ lX c0 c1 bX4 bQ4 hr4 k4 kk H5 HO5 HB5
                go_wp2_with fail
                generalize (v4.setCell ⟨X, 0, none⟩ (.int .i64 (f : Int))).setCell ⟨X, 1, none⟩ (.slice p4 n c4) = v5 at *
                refine (CP.out v5 HH.out.sp).mono ?_
                rintro e v6 ⟨rfl, h6', k6⟩
                have H6 : Hid (Two15 v6 s t X n f T p4 c4) := HH.out.done h6' k6
                have HO7 : Hid (Sp v6 s' t' S) := HO6.out.keep k6 Hne.out.1.1 Hne.out.1.2
                have HB7 : Hid (Below w.heap.size w v6) := below_kp HB6.out k6 HB6.out.size (fun j hj e => by have := Ht.out; omega)
                clear g0 g1 z0 z1 lX4 r1 r2 lQ4 HH HO6 HB6 h6' k6 CP
                obtain ⟨F1, hF1⟩ : ∃ F1, F1 = freeL T.l := ⟨_, rfl⟩
                have CF : Hid (∀ u, Grows v6 u → Calls Try.prog 17 #[.pointer (some ⟨s, 0, none⟩)] u fun e w' => e = .returned (.int .i64 (F1 : Int)) ∧ Below u.heap.size u w') := fun u h => oZFreeE u (H6.out.sp.grow h) (by rw [hF1])
                have CR : Hid (∀ u, Grows v6 u → Calls Try.prog 10 #[.agg #[.int .i64 (f : Int), .slice p4 n c4]] u fun e w' => e = .returned (.int .i64 (F1 : Int)) ∧ Below u.heap.size u w') := fun u h => by rw [hF1]; exact tFree (H6.out.grow h)
                have CS : Hid (∀ u, Grows v6 u → Calls Try.prog 18 #[.pointer (some ⟨s, 0, none⟩)] u fun e w' => e = .returned (.int .i64 (n : Int)) ∧ Below u.heap.size u w') := fun u h => oZSizeE u (H6.out.sp.grow h) (by rw [H6.out.len])
                have CO : Hid (∀ u, Grows v6 u → Calls Try.prog 17 #[(.pointer (some ⟨s', 0, none⟩))] u fun e w' => e = .returned (.int .i64 (F0 : Int)) ∧ Below u.heap.size u w') := fun u h => oZFreeE u (HO7.out.grow h) HF0.out
                clear hF1
                go_wp2_with fail
                refine regionG (S := Grows v6) (by kernel_rfl) (Below.refl _ v6).drew ?_
                refine takeG 0 (some 145) (.bool true) rfl rfl (by kernel_rfl) (by kernel_rfl) (by kernel_rfl) (fun _ _ _ h => h) (ans_plain (by rfl) (fun w _ => rfl)) ?_
                simp only [Act.put, List.setIfInBounds_toArray, List.set_cons_zero, List.set_cons_succ]
                refine takeG 1 (some 146) (.bool false) rfl rfl (by kernel_rfl) (by kernel_rfl) (by kernel_rfl) (fun _ _ _ h => h) (ans_plain (by rfl) (fun w _ => by unfold execOp; go_simp)) ?_
                simp only [Act.put, List.setIfInBounds_toArray, List.set_cons_zero, List.set_cons_succ]
                refine takeG 2 (some 147) (.bool false) rfl rfl (by kernel_rfl) (by kernel_rfl) (by kernel_rfl) (fun _ _ _ h => h) (ans_plain (by rfl) (fun w _ => rfl)) ?_
                simp only [Act.put, List.setIfInBounds_toArray, List.set_cons_zero, List.set_cons_succ]
                refine takeG 3 (some 148) (.pointer (some ⟨s, 0, none⟩)) rfl rfl (by kernel_rfl) (by kernel_rfl) (by kernel_rfl) (fun _ _ _ h => h) (ans_plain (by rfl) (fun w _ => by unfold execOp; go_simp)) ?_
                simp only [Act.put, List.setIfInBounds_toArray, List.set_cons_zero, List.set_cons_succ]
                refine takeG 4 (some 149) (.int .i64 (F1 : Int)) rfl rfl (by kernel_rfl) (by kernel_rfl) (by kernel_rfl) (fun _ _ _ h => h) (ans_fn 17 #[.tmp 148] #[24] #[.pointer (some ⟨s, 0, none⟩)] rfl (by rfl) (by rfl) Try.call17 fun u h => CF.out u h) ?_
                simp only [Act.put, List.setIfInBounds_toArray, List.set_cons_zero, List.set_cons_succ]
                refine takeG 5 (some 150) (.agg #[.int .i64 (f : Int), .slice p4 n c4]) rfl rfl (by kernel_rfl) (by kernel_rfl) (by kernel_rfl) (fun _ _ _ h => h) (ans_row 30 (.tmp 11) _ 2 rfl (by rfl) X 0 rfl [.int .i64 (f : Int), .slice p4 n c4] (fun u hu => (H6.out.bx.below hu H6.out.bx.lt).whole) Try.underlying30 rfl rfl sizeZ) ?_
                simp only [Act.put, List.setIfInBounds_toArray, List.set_cons_zero, List.set_cons_succ]
                refine takeG 6 (some 151) (.int .i64 (F1 : Int)) rfl rfl (by kernel_rfl) (by kernel_rfl) (by kernel_rfl) (fun _ _ _ h => h) (ans_fn 10 #[.tmp 150] #[30] #[.agg #[.int .i64 (f : Int), .slice p4 n c4]] rfl (by rfl) (by rfl) Try.call10 fun u h => CR.out u h) ?_
                simp only [Act.put, List.setIfInBounds_toArray, List.set_cons_zero, List.set_cons_succ]
                refine takeG 7 (some 152) (.bool false) rfl rfl (by kernel_rfl) (by kernel_rfl) (by kernel_rfl) (fun _ _ _ h => h) (ans_plain (by rfl) (fun w _ => by unfold execOp; go_simp)) ?_
                simp only [Act.put, List.setIfInBounds_toArray, List.set_cons_zero, List.set_cons_succ]
                refine takeG 8 (some 153) (.bool false) rfl rfl (by kernel_rfl) (by kernel_rfl) (by kernel_rfl) (fun _ _ _ h => h) (ans_plain (by rfl) (fun w _ => by unfold execOp; go_simp)) ?_
                simp only [Act.put, List.setIfInBounds_toArray, List.set_cons_zero, List.set_cons_succ]
                refine takeG 9 (some 154) (.bool false) rfl rfl (by kernel_rfl) (by kernel_rfl) (by kernel_rfl) (fun _ _ _ h => h) (ans_plain (by rfl) (fun w _ => rfl)) ?_
                simp only [Act.put, List.setIfInBounds_toArray, List.set_cons_zero, List.set_cons_succ]
                refine takeG 10 (some 155) (.pointer (some ⟨s, 0, none⟩)) rfl rfl (by kernel_rfl) (by kernel_rfl) (by kernel_rfl) (fun _ _ _ h => h) (ans_plain (by rfl) (fun w _ => by unfold execOp; go_simp)) ?_
                simp only [Act.put, List.setIfInBounds_toArray, List.set_cons_zero, List.set_cons_succ]
                refine takeG 11 (some 156) (.int .i64 (n : Int)) rfl rfl (by kernel_rfl) (by kernel_rfl) (by kernel_rfl) (fun _ _ _ h => h) (ans_fn 18 #[.tmp 155] #[24] #[.pointer (some ⟨s, 0, none⟩)] rfl (by rfl) (by rfl) Try.call18 fun u h => CS.out u h) ?_
                simp only [Act.put, List.setIfInBounds_toArray, List.set_cons_zero, List.set_cons_succ]
                refine takeG 12 (some 157) (.int .i64 (n : Int)) rfl rfl (by kernel_rfl) (by kernel_rfl) (by kernel_rfl) (fun _ _ _ h => h) (ans_plain (by rfl) (fun w _ => by unfold execOp; go_simp)) ?_
                simp only [Act.put, List.setIfInBounds_toArray, List.set_cons_zero, List.set_cons_succ]
                refine takeG 13 (some 158) (.bool false) rfl rfl (by kernel_rfl) (by kernel_rfl) (by kernel_rfl) (fun _ _ _ h => h) (ans_plain (by rfl) (fun w _ => by unfold execOp; go_simp)) ?_
                simp only [Act.put, List.setIfInBounds_toArray, List.set_cons_zero, List.set_cons_succ]
                refine takeG 14 (some 159) (.bool false) rfl rfl (by kernel_rfl) (by kernel_rfl) (by kernel_rfl) (fun _ _ _ h => h) (ans_plain (by rfl) (fun w _ => by unfold execOp; go_simp)) ?_
                simp only [Act.put, List.setIfInBounds_toArray, List.set_cons_zero, List.set_cons_succ]
                refine takeG 15 (some 160) (.bool false) rfl rfl (by kernel_rfl) (by kernel_rfl) (by kernel_rfl) (fun _ _ _ h => h) (ans_plain (by rfl) (fun w _ => rfl)) ?_
                simp only [Act.put, List.setIfInBounds_toArray, List.set_cons_zero, List.set_cons_succ]
                refine takeG 16 (some 161) ((.pointer (some ⟨s', 0, none⟩))) rfl rfl (by kernel_rfl) (by kernel_rfl) (by kernel_rfl) (fun _ _ _ h => h) (ans_plain (by rfl) (fun w _ => by unfold execOp; go_simp)) ?_
                simp only [Act.put, List.setIfInBounds_toArray, List.set_cons_zero, List.set_cons_succ]
                refine takeG 17 (some 162) (.int .i64 (F0 : Int)) rfl rfl (by kernel_rfl) (by kernel_rfl) (by kernel_rfl) (fun _ _ _ h => h) (ans_fn 17 #[.tmp 161] #[24] #[(.pointer (some ⟨s', 0, none⟩))] rfl (by rfl) (by rfl) Try.call17 fun u h => CO.out u h) ?_
                simp only [Act.put, List.setIfInBounds_toArray, List.set_cons_zero, List.set_cons_succ]
                refine takeG 18 (some 163) (.int .i64 (F0 : Int)) rfl rfl (by kernel_rfl) (by kernel_rfl) (by kernel_rfl) (fun _ _ _ h => h) (ans_plain (by rfl) (fun w _ => by unfold execOp; go_simp)) ?_
                simp only [Act.put, List.setIfInBounds_toArray, List.set_cons_zero, List.set_cons_succ]
                refine takeG 19 (some 164) (.bool false) rfl rfl (by kernel_rfl) (by kernel_rfl) (by kernel_rfl) (fun _ _ _ h => h) (ans_plain (by rfl) (fun w _ => by unfold execOp; go_simp)) ?_
                simp only [Act.put, List.setIfInBounds_toArray, List.set_cons_zero, List.set_cons_succ]
                refine takeG 20 (some 165) (.bool false) rfl rfl (by kernel_rfl) (by kernel_rfl) (by kernel_rfl) (fun _ _ _ h => h) (ans_plain (by rfl) (fun w _ => by unfold execOp; go_simp)) ?_
                simp only [Act.put, List.setIfInBounds_toArray, List.set_cons_zero, List.set_cons_succ]
                refine doneG (by kernel_rfl) fun v7 _ hs7 => ?_
                have H7 : Hid (Two15 v7 s t X n f T p4 c4) := H6.out.grow hs7
                have HB8 : Hid (Below w.heap.size w v7) := HB7.out.trans (Below.mono hs7 HB7.out.size)
                clear CF CR CS CO hs7 H6 HO7 HB7
                obtain ⟨b4, o4, rfl, hb4, _⟩ := H7.out.at_
                go_wp2_with fail
                go_loopw [24] (fun x v8 => ∃ k : Nat, k ≤ n ∧ x = .int .i64 (k : Int) ∧ Hid (Two15 v8 s t X n f T (some ⟨b4, o4, none⟩) c4) ∧ Hid (Below w.heap.size w v8)) (fun x _ => n - (intOf x).toNat)
                case atStart => exact ⟨0, by omega, rfl, H7, HB8⟩
                case round =>
                  clear H7 HB8
                  rename World => v8
                  obtain ⟨k, hk, rfl, H8, HB8⟩ := hrel
                  by_cases hkn : k < n
                  · have i1 : (k : Int) < (n : Int) := by omega
                    have i2 : (0 : Int) ≤ (k : Int) := by omega
                    obtain ⟨b5, o5, e5, hb5, hc5⟩ := H8.out.at_
                    simp only [Option.some.injEq, Addr.mk.injEq, and_true] at e5
                    obtain ⟨rfl, rfl⟩ := e5
                    have c5 := hc5 k hkn
                    have c1 := H8.out.cell.2
                    have lX := H8.out.bx.lt
                    have HTk : Hid (∀ nq, Calls Try.prog 19 #[.pointer (some ⟨s, 0, none⟩), .int .i64 (k : Int)] (v8.drewN nq) fun e w' => e = .returned (.bool (T.l.getD k false)) ∧ w' = v8.drewN nq) := fun nq => by
                      have := oZTaken (v8.drewN nq) (H8.out.sp.grow (below_drewN' v8 nq)) (k : Int)
                      rw [SpS.taken_in T (by rw [H8.out.len]; exact hkn)] at this
                      exact this.mono fun e w' h => ⟨h.1, h.2.symm⟩
                    have Hn : Hid (∀ nq, Hid (Two15 (v8.drewN nq) s t X n f T (some ⟨b4, o4, none⟩) c4) ∧ Hid (Below w.heap.size w (v8.drewN nq))) := fun nq => ⟨H8.out.grow (below_drewN' v8 nq), below_drN HB8.out nq⟩
                    generalize T.l.getD k false = bit at *
                    clear hc5 hb4
                    cases bit
                    all_goals
                      go_wp2_with fail
                      go_quiet ((go_at_call 19; exact Calls.quiet_of_same (HTk.out _)))
                      obtain ⟨r1, r2⟩ := Hn.out nq
                      go_wp2_with fail
                      go_roundw
                      case rel => exact ⟨k + 1, by omega, by go_num, r1, r2⟩
                      case measure => simp [intOf]; omega
                  · obtain rfl : k = n := by omega
                    have i1 : ¬ (k : Int) < (k : Int) := by omega
                    go_wp2_with fail
                    go_roundw
                    case rel => exact ⟨i + 1, T, _, c4, by omega, by go_num, H8, HB8⟩
                    case measure => simp [intOf]; omega
              · by_cases x2 : x = 2
                · subst x2
                  have CT := tGive H5.out y z
                  have CP : Hid (∀ u, Sp u s t S → Calls Try.prog 16 #[.pointer (some ⟨s, 0, none⟩), .int .i64 y, .int .i64 z] u fun e w' => e = .returned (.int .i64 (S.give y z).2) ∧ Sp w' s t (S.give y z).1 ∧ Kp (fun j => j = t) u w') := fun u h => oZGive u h y z Hz.out
                  have good1 : (S.give y z).1.good := SpS.good_run H5.out.good H5.out.sp.ok y z false 9
                  have len1 : (S.give y z).1.l.length = S.l.length := (S.run_len y z false 9).1
                  have fst1 : (S.give y z).1.first = S.first := (S.run_len y z false 9).2
                  rw [H5.out.len] at len1
                  rw [H5.out.fst] at fst1
                  generalize S.give y z = R at *
                  obtain ⟨T, cd⟩ := R
                  dsimp only at CT CP good1 len1 fst1
                  have HG1 : Hid T.good := good1
                  have HL1 : Hid (T.l.length = n) := len1
                  have HF1 : Hid (T.first = f) := fst1
                  clear good1 len1 fst1
                  go_wp2_with fail
                  refine CT.mono ?_
                  rintro e v4 ⟨p4, c4, rfl, hr4, k4⟩
                  clear CT
                  have bX4 := H5.out.bx.below k4 H5.out.bx.lt
                  have bQ4 := HQ5.out.below k4 HQ5.out.lt
                  have HH : Hid (Half15 ((v4.setCell ⟨X, 0, none⟩ (.int .i64 (f : Int))).setCell ⟨X, 1, none⟩ (.slice p4 n c4)) s t X n f S T p4 c4) := H5.out.stored k4 hr4 HG1.out HF1.out HL1.out
                  have kk : Kp (fun j => j = X) v4 ((v4.setCell ⟨X, 0, none⟩ (.int .i64 (f : Int))).setCell ⟨X, 1, none⟩ (.slice p4 n c4)) := (Kp.setC (F := fun j => j = X) rfl 0 _).trans (Kp.setC (F := fun j => j = X) rfl 1 _)
                  have HO6 : Hid (Sp ((v4.setCell ⟨X, 0, none⟩ (.int .i64 (f : Int))).setCell ⟨X, 1, none⟩ (.slice p4 n c4)) s' t' S) := (HO5.out.grow k4).keep kk Hne.out.2.1 Hne.out.2.2
                  have HB6 : Hid (Below w.heap.size w ((v4.setCell ⟨X, 0, none⟩ (.int .i64 (f : Int))).setCell ⟨X, 1, none⟩ (.slice p4 n c4))) := below_kp (HB5.out.trans (k4.mono HB5.out.size)) kk (Nat.le_trans HB5.out.size k4.size) (fun j hj e => by have := HXw.out; omega)
                  have g0 : v4.cell? ⟨X, 0, none⟩ = some (.int .i64 (f : Int)) := bX4.cell 0
                  have g1 : v4.cell? ⟨X, 1, none⟩ = some (.slice p' n c') := bX4.cell 1
                  have z0 := bX4.free 0
                  have z1 := bX4.free 1
                  have lX4 := bX4.lt
                  have r1 : v4.cell? ⟨Q, 1, none⟩ = some (.int .i64 y) := bQ4.cell 1
                  have r2 : v4.cell? ⟨Q, 2, none⟩ = some (.int .i64 z) := bQ4.cell 2
                  have lQ4 := bQ4.lt
                  clear q0 q1 q2 lQ lX c0 c1 bX4 bQ4 hr4 k4 kk H5 HO5 HB5
                  go_wp2_with fail
                  generalize (v4.setCell ⟨X, 0, none⟩ (.int .i64 (f : Int))).setCell ⟨X, 1, none⟩ (.slice p4 n c4) = v5 at *
                  refine (CP.out v5 HH.out.sp).mono ?_
                  rintro e v6 ⟨rfl, h6', k6⟩
                  have H6 : Hid (Two15 v6 s t X n f T p4 c4) := HH.out.done h6' k6
                  have HO7 : Hid (Sp v6 s' t' S) := HO6.out.keep k6 Hne.out.1.1 Hne.out.1.2
                  have HB7 : Hid (Below w.heap.size w v6) := below_kp HB6.out k6 HB6.out.size (fun j hj e => by have := Ht.out; omega)
                  clear g0 g1 z0 z1 lX4 r1 r2 lQ4 HH HO6 HB6 h6' k6 CP
                  obtain ⟨F1, hF1⟩ : ∃ F1, F1 = freeL T.l := ⟨_, rfl⟩
                  have CF : Hid (∀ u, Grows v6 u → Calls Try.prog 17 #[.pointer (some ⟨s, 0, none⟩)] u fun e w' => e = .returned (.int .i64 (F1 : Int)) ∧ Below u.heap.size u w') := fun u h => oZFreeE u (H6.out.sp.grow h) (by rw [hF1])
                  have CR : Hid (∀ u, Grows v6 u → Calls Try.prog 10 #[.agg #[.int .i64 (f : Int), .slice p4 n c4]] u fun e w' => e = .returned (.int .i64 (F1 : Int)) ∧ Below u.heap.size u w') := fun u h => by rw [hF1]; exact tFree (H6.out.grow h)
                  have CS : Hid (∀ u, Grows v6 u → Calls Try.prog 18 #[.pointer (some ⟨s, 0, none⟩)] u fun e w' => e = .returned (.int .i64 (n : Int)) ∧ Below u.heap.size u w') := fun u h => oZSizeE u (H6.out.sp.grow h) (by rw [H6.out.len])
                  have CO : Hid (∀ u, Grows v6 u → Calls Try.prog 17 #[(.pointer (some ⟨s', 0, none⟩))] u fun e w' => e = .returned (.int .i64 (F0 : Int)) ∧ Below u.heap.size u w') := fun u h => oZFreeE u (HO7.out.grow h) HF0.out
                  clear hF1
                  go_wp2_with fail
                  refine regionG (S := Grows v6) (by kernel_rfl) (Below.refl _ v6).drew ?_
                  refine takeG 0 (some 145) (.bool true) rfl rfl (by kernel_rfl) (by kernel_rfl) (by kernel_rfl) (fun _ _ _ h => h) (ans_plain (by rfl) (fun w _ => rfl)) ?_
                  simp only [Act.put, List.setIfInBounds_toArray, List.set_cons_zero, List.set_cons_succ]
                  refine takeG 1 (some 146) (.bool false) rfl rfl (by kernel_rfl) (by kernel_rfl) (by kernel_rfl) (fun _ _ _ h => h) (ans_plain (by rfl) (fun w _ => by unfold execOp; go_simp)) ?_
                  simp only [Act.put, List.setIfInBounds_toArray, List.set_cons_zero, List.set_cons_succ]
                  refine takeG 2 (some 147) (.bool false) rfl rfl (by kernel_rfl) (by kernel_rfl) (by kernel_rfl) (fun _ _ _ h => h) (ans_plain (by rfl) (fun w _ => rfl)) ?_
                  simp only [Act.put, List.setIfInBounds_toArray, List.set_cons_zero, List.set_cons_succ]
                  refine takeG 3 (some 148) (.pointer (some ⟨s, 0, none⟩)) rfl rfl (by kernel_rfl) (by kernel_rfl) (by kernel_rfl) (fun _ _ _ h => h) (ans_plain (by rfl) (fun w _ => by unfold execOp; go_simp)) ?_
                  simp only [Act.put, List.setIfInBounds_toArray, List.set_cons_zero, List.set_cons_succ]
                  refine takeG 4 (some 149) (.int .i64 (F1 : Int)) rfl rfl (by kernel_rfl) (by kernel_rfl) (by kernel_rfl) (fun _ _ _ h => h) (ans_fn 17 #[.tmp 148] #[24] #[.pointer (some ⟨s, 0, none⟩)] rfl (by rfl) (by rfl) Try.call17 fun u h => CF.out u h) ?_
                  simp only [Act.put, List.setIfInBounds_toArray, List.set_cons_zero, List.set_cons_succ]
                  refine takeG 5 (some 150) (.agg #[.int .i64 (f : Int), .slice p4 n c4]) rfl rfl (by kernel_rfl) (by kernel_rfl) (by kernel_rfl) (fun _ _ _ h => h) (ans_row 30 (.tmp 11) _ 2 rfl (by rfl) X 0 rfl [.int .i64 (f : Int), .slice p4 n c4] (fun u hu => (H6.out.bx.below hu H6.out.bx.lt).whole) Try.underlying30 rfl rfl sizeZ) ?_
                  simp only [Act.put, List.setIfInBounds_toArray, List.set_cons_zero, List.set_cons_succ]
                  refine takeG 6 (some 151) (.int .i64 (F1 : Int)) rfl rfl (by kernel_rfl) (by kernel_rfl) (by kernel_rfl) (fun _ _ _ h => h) (ans_fn 10 #[.tmp 150] #[30] #[.agg #[.int .i64 (f : Int), .slice p4 n c4]] rfl (by rfl) (by rfl) Try.call10 fun u h => CR.out u h) ?_
                  simp only [Act.put, List.setIfInBounds_toArray, List.set_cons_zero, List.set_cons_succ]
                  refine takeG 7 (some 152) (.bool false) rfl rfl (by kernel_rfl) (by kernel_rfl) (by kernel_rfl) (fun _ _ _ h => h) (ans_plain (by rfl) (fun w _ => by unfold execOp; go_simp)) ?_
                  simp only [Act.put, List.setIfInBounds_toArray, List.set_cons_zero, List.set_cons_succ]
                  refine takeG 8 (some 153) (.bool false) rfl rfl (by kernel_rfl) (by kernel_rfl) (by kernel_rfl) (fun _ _ _ h => h) (ans_plain (by rfl) (fun w _ => by unfold execOp; go_simp)) ?_
                  simp only [Act.put, List.setIfInBounds_toArray, List.set_cons_zero, List.set_cons_succ]
                  refine takeG 9 (some 154) (.bool false) rfl rfl (by kernel_rfl) (by kernel_rfl) (by kernel_rfl) (fun _ _ _ h => h) (ans_plain (by rfl) (fun w _ => rfl)) ?_
                  simp only [Act.put, List.setIfInBounds_toArray, List.set_cons_zero, List.set_cons_succ]
                  refine takeG 10 (some 155) (.pointer (some ⟨s, 0, none⟩)) rfl rfl (by kernel_rfl) (by kernel_rfl) (by kernel_rfl) (fun _ _ _ h => h) (ans_plain (by rfl) (fun w _ => by unfold execOp; go_simp)) ?_
                  simp only [Act.put, List.setIfInBounds_toArray, List.set_cons_zero, List.set_cons_succ]
                  refine takeG 11 (some 156) (.int .i64 (n : Int)) rfl rfl (by kernel_rfl) (by kernel_rfl) (by kernel_rfl) (fun _ _ _ h => h) (ans_fn 18 #[.tmp 155] #[24] #[.pointer (some ⟨s, 0, none⟩)] rfl (by rfl) (by rfl) Try.call18 fun u h => CS.out u h) ?_
                  simp only [Act.put, List.setIfInBounds_toArray, List.set_cons_zero, List.set_cons_succ]
                  refine takeG 12 (some 157) (.int .i64 (n : Int)) rfl rfl (by kernel_rfl) (by kernel_rfl) (by kernel_rfl) (fun _ _ _ h => h) (ans_plain (by rfl) (fun w _ => by unfold execOp; go_simp)) ?_
                  simp only [Act.put, List.setIfInBounds_toArray, List.set_cons_zero, List.set_cons_succ]
                  refine takeG 13 (some 158) (.bool false) rfl rfl (by kernel_rfl) (by kernel_rfl) (by kernel_rfl) (fun _ _ _ h => h) (ans_plain (by rfl) (fun w _ => by unfold execOp; go_simp)) ?_
                  simp only [Act.put, List.setIfInBounds_toArray, List.set_cons_zero, List.set_cons_succ]
                  refine takeG 14 (some 159) (.bool false) rfl rfl (by kernel_rfl) (by kernel_rfl) (by kernel_rfl) (fun _ _ _ h => h) (ans_plain (by rfl) (fun w _ => by unfold execOp; go_simp)) ?_
                  simp only [Act.put, List.setIfInBounds_toArray, List.set_cons_zero, List.set_cons_succ]
                  refine takeG 15 (some 160) (.bool false) rfl rfl (by kernel_rfl) (by kernel_rfl) (by kernel_rfl) (fun _ _ _ h => h) (ans_plain (by rfl) (fun w _ => rfl)) ?_
                  simp only [Act.put, List.setIfInBounds_toArray, List.set_cons_zero, List.set_cons_succ]
                  refine takeG 16 (some 161) ((.pointer (some ⟨s', 0, none⟩))) rfl rfl (by kernel_rfl) (by kernel_rfl) (by kernel_rfl) (fun _ _ _ h => h) (ans_plain (by rfl) (fun w _ => by unfold execOp; go_simp)) ?_
                  simp only [Act.put, List.setIfInBounds_toArray, List.set_cons_zero, List.set_cons_succ]
                  refine takeG 17 (some 162) (.int .i64 (F0 : Int)) rfl rfl (by kernel_rfl) (by kernel_rfl) (by kernel_rfl) (fun _ _ _ h => h) (ans_fn 17 #[.tmp 161] #[24] #[(.pointer (some ⟨s', 0, none⟩))] rfl (by rfl) (by rfl) Try.call17 fun u h => CO.out u h) ?_
                  simp only [Act.put, List.setIfInBounds_toArray, List.set_cons_zero, List.set_cons_succ]
                  refine takeG 18 (some 163) (.int .i64 (F0 : Int)) rfl rfl (by kernel_rfl) (by kernel_rfl) (by kernel_rfl) (fun _ _ _ h => h) (ans_plain (by rfl) (fun w _ => by unfold execOp; go_simp)) ?_
                  simp only [Act.put, List.setIfInBounds_toArray, List.set_cons_zero, List.set_cons_succ]
                  refine takeG 19 (some 164) (.bool false) rfl rfl (by kernel_rfl) (by kernel_rfl) (by kernel_rfl) (fun _ _ _ h => h) (ans_plain (by rfl) (fun w _ => by unfold execOp; go_simp)) ?_
                  simp only [Act.put, List.setIfInBounds_toArray, List.set_cons_zero, List.set_cons_succ]
                  refine takeG 20 (some 165) (.bool false) rfl rfl (by kernel_rfl) (by kernel_rfl) (by kernel_rfl) (fun _ _ _ h => h) (ans_plain (by rfl) (fun w _ => by unfold execOp; go_simp)) ?_
                  simp only [Act.put, List.setIfInBounds_toArray, List.set_cons_zero, List.set_cons_succ]
                  refine doneG (by kernel_rfl) fun v7 _ hs7 => ?_
                  have H7 : Hid (Two15 v7 s t X n f T p4 c4) := H6.out.grow hs7
                  have HB8 : Hid (Below w.heap.size w v7) := HB7.out.trans (Below.mono hs7 HB7.out.size)
                  clear CF CR CS CO hs7 H6 HO7 HB7
                  obtain ⟨b4, o4, rfl, hb4, _⟩ := H7.out.at_
                  go_wp2_with fail
                  go_loopw [24] (fun x v8 => ∃ k : Nat, k ≤ n ∧ x = .int .i64 (k : Int) ∧ Hid (Two15 v8 s t X n f T (some ⟨b4, o4, none⟩) c4) ∧ Hid (Below w.heap.size w v8)) (fun x _ => n - (intOf x).toNat)
                  case atStart => exact ⟨0, by omega, rfl, H7, HB8⟩
                  case round =>
                    clear H7 HB8
                    rename World => v8
                    obtain ⟨k, hk, rfl, H8, HB8⟩ := hrel
                    by_cases hkn : k < n
                    · have i1 : (k : Int) < (n : Int) := by omega
                      have i2 : (0 : Int) ≤ (k : Int) := by omega
                      obtain ⟨b5, o5, e5, hb5, hc5⟩ := H8.out.at_
                      simp only [Option.some.injEq, Addr.mk.injEq, and_true] at e5
                      obtain ⟨rfl, rfl⟩ := e5
                      have c5 := hc5 k hkn
                      have c1 := H8.out.cell.2
                      have lX := H8.out.bx.lt
                      have HTk : Hid (∀ nq, Calls Try.prog 19 #[.pointer (some ⟨s, 0, none⟩), .int .i64 (k : Int)] (v8.drewN nq) fun e w' => e = .returned (.bool (T.l.getD k false)) ∧ w' = v8.drewN nq) := fun nq => by
                        have := oZTaken (v8.drewN nq) (H8.out.sp.grow (below_drewN' v8 nq)) (k : Int)
                        rw [SpS.taken_in T (by rw [H8.out.len]; exact hkn)] at this
                        exact this.mono fun e w' h => ⟨h.1, h.2.symm⟩
                      have Hn : Hid (∀ nq, Hid (Two15 (v8.drewN nq) s t X n f T (some ⟨b4, o4, none⟩) c4) ∧ Hid (Below w.heap.size w (v8.drewN nq))) := fun nq => ⟨H8.out.grow (below_drewN' v8 nq), below_drN HB8.out nq⟩
                      generalize T.l.getD k false = bit at *
                      clear hc5 hb4
                      cases bit
                      all_goals
                        go_wp2_with fail
                        go_quiet ((go_at_call 19; exact Calls.quiet_of_same (HTk.out _)))
                        obtain ⟨r1, r2⟩ := Hn.out nq
                        go_wp2_with fail
                        go_roundw
                        case rel => exact ⟨k + 1, by omega, by go_num, r1, r2⟩
                        case measure => simp [intOf]; omega
                    · obtain rfl : k = n := by omega
                      have i1 : ¬ (k : Int) < (k : Int) := by omega
                      go_wp2_with fail
                      go_roundw
                      case rel => exact ⟨i + 1, T, _, c4, by omega, by go_num, H8, HB8⟩
                      case measure => simp [intOf]; omega
                · have x0' : (x == 0) = false := by rw [beq_eq_false_iff_ne]; exact x0
                  have x1' : (x == 1) = false := by rw [beq_eq_false_iff_ne]; exact x1
                  have x2' : (x == 2) = false := by rw [beq_eq_false_iff_ne]; exact x2
                  have H6 := H5
                  have HO7 := HO5
                  have HB7 := HB5
                  have lQ' := lQ
                  clear x0 x1 x2 H5 HO5 HB5 lX c0 c1
                  obtain ⟨T, hT⟩ : ∃ T, T = S := ⟨_, rfl⟩
                  rw [← hT] at H6
                  clear hT
                  obtain ⟨v6, hv6⟩ : ∃ v6, v6 = v3 := ⟨_, rfl⟩
                  rw [← hv6] at q0 lQ H6 HO7 HB7 ⊢
                  clear hv6 q1 q2 HQ5 lQ'
                  obtain ⟨p4, hp4⟩ : ∃ p4, p4 = p' := ⟨_, rfl⟩
                  rw [← hp4] at H6
                  clear hp4
                  obtain ⟨c4, hc4⟩ : ∃ c4, c4 = c' := ⟨_, rfl⟩
                  rw [← hc4] at H6
                  clear hc4
                  obtain ⟨F1, hF1⟩ : ∃ F1, F1 = freeL T.l := ⟨_, rfl⟩
                  have CF : Hid (∀ u, Grows v6 u → Calls Try.prog 17 #[.pointer (some ⟨s, 0, none⟩)] u fun e w' => e = .returned (.int .i64 (F1 : Int)) ∧ Below u.heap.size u w') := fun u h => oZFreeE u (H6.out.sp.grow h) (by rw [hF1])
                  have CR : Hid (∀ u, Grows v6 u → Calls Try.prog 10 #[.agg #[.int .i64 (f : Int), .slice p4 n c4]] u fun e w' => e = .returned (.int .i64 (F1 : Int)) ∧ Below u.heap.size u w') := fun u h => by rw [hF1]; exact tFree (H6.out.grow h)
                  have CS : Hid (∀ u, Grows v6 u → Calls Try.prog 18 #[.pointer (some ⟨s, 0, none⟩)] u fun e w' => e = .returned (.int .i64 (n : Int)) ∧ Below u.heap.size u w') := fun u h => oZSizeE u (H6.out.sp.grow h) (by rw [H6.out.len])
                  have CO : Hid (∀ u, Grows v6 u → Calls Try.prog 17 #[(.pointer (some ⟨s', 0, none⟩))] u fun e w' => e = .returned (.int .i64 (F0 : Int)) ∧ Below u.heap.size u w') := fun u h => oZFreeE u (HO7.out.grow h) HF0.out
                  clear hF1
                  go_wp2_with fail
                  refine regionG (S := Grows v6) (by kernel_rfl) (Below.refl _ v6).drew ?_
                  refine takeG 0 (some 145) (.bool true) rfl rfl (by kernel_rfl) (by kernel_rfl) (by kernel_rfl) (fun _ _ _ h => h) (ans_plain (by rfl) (fun w _ => rfl)) ?_
                  simp only [Act.put, List.setIfInBounds_toArray, List.set_cons_zero, List.set_cons_succ]
                  refine takeG 1 (some 146) (.bool false) rfl rfl (by kernel_rfl) (by kernel_rfl) (by kernel_rfl) (fun _ _ _ h => h) (ans_plain (by rfl) (fun w _ => by unfold execOp; go_simp)) ?_
                  simp only [Act.put, List.setIfInBounds_toArray, List.set_cons_zero, List.set_cons_succ]
                  refine takeG 2 (some 147) (.bool false) rfl rfl (by kernel_rfl) (by kernel_rfl) (by kernel_rfl) (fun _ _ _ h => h) (ans_plain (by rfl) (fun w _ => rfl)) ?_
                  simp only [Act.put, List.setIfInBounds_toArray, List.set_cons_zero, List.set_cons_succ]
                  refine takeG 3 (some 148) (.pointer (some ⟨s, 0, none⟩)) rfl rfl (by kernel_rfl) (by kernel_rfl) (by kernel_rfl) (fun _ _ _ h => h) (ans_plain (by rfl) (fun w _ => by unfold execOp; go_simp)) ?_
                  simp only [Act.put, List.setIfInBounds_toArray, List.set_cons_zero, List.set_cons_succ]
                  refine takeG 4 (some 149) (.int .i64 (F1 : Int)) rfl rfl (by kernel_rfl) (by kernel_rfl) (by kernel_rfl) (fun _ _ _ h => h) (ans_fn 17 #[.tmp 148] #[24] #[.pointer (some ⟨s, 0, none⟩)] rfl (by rfl) (by rfl) Try.call17 fun u h => CF.out u h) ?_
                  simp only [Act.put, List.setIfInBounds_toArray, List.set_cons_zero, List.set_cons_succ]
                  refine takeG 5 (some 150) (.agg #[.int .i64 (f : Int), .slice p4 n c4]) rfl rfl (by kernel_rfl) (by kernel_rfl) (by kernel_rfl) (fun _ _ _ h => h) (ans_row 30 (.tmp 11) _ 2 rfl (by rfl) X 0 rfl [.int .i64 (f : Int), .slice p4 n c4] (fun u hu => (H6.out.bx.below hu H6.out.bx.lt).whole) Try.underlying30 rfl rfl sizeZ) ?_
                  simp only [Act.put, List.setIfInBounds_toArray, List.set_cons_zero, List.set_cons_succ]
                  refine takeG 6 (some 151) (.int .i64 (F1 : Int)) rfl rfl (by kernel_rfl) (by kernel_rfl) (by kernel_rfl) (fun _ _ _ h => h) (ans_fn 10 #[.tmp 150] #[30] #[.agg #[.int .i64 (f : Int), .slice p4 n c4]] rfl (by rfl) (by rfl) Try.call10 fun u h => CR.out u h) ?_
                  simp only [Act.put, List.setIfInBounds_toArray, List.set_cons_zero, List.set_cons_succ]
                  refine takeG 7 (some 152) (.bool false) rfl rfl (by kernel_rfl) (by kernel_rfl) (by kernel_rfl) (fun _ _ _ h => h) (ans_plain (by rfl) (fun w _ => by unfold execOp; go_simp)) ?_
                  simp only [Act.put, List.setIfInBounds_toArray, List.set_cons_zero, List.set_cons_succ]
                  refine takeG 8 (some 153) (.bool false) rfl rfl (by kernel_rfl) (by kernel_rfl) (by kernel_rfl) (fun _ _ _ h => h) (ans_plain (by rfl) (fun w _ => by unfold execOp; go_simp)) ?_
                  simp only [Act.put, List.setIfInBounds_toArray, List.set_cons_zero, List.set_cons_succ]
                  refine takeG 9 (some 154) (.bool false) rfl rfl (by kernel_rfl) (by kernel_rfl) (by kernel_rfl) (fun _ _ _ h => h) (ans_plain (by rfl) (fun w _ => rfl)) ?_
                  simp only [Act.put, List.setIfInBounds_toArray, List.set_cons_zero, List.set_cons_succ]
                  refine takeG 10 (some 155) (.pointer (some ⟨s, 0, none⟩)) rfl rfl (by kernel_rfl) (by kernel_rfl) (by kernel_rfl) (fun _ _ _ h => h) (ans_plain (by rfl) (fun w _ => by unfold execOp; go_simp)) ?_
                  simp only [Act.put, List.setIfInBounds_toArray, List.set_cons_zero, List.set_cons_succ]
                  refine takeG 11 (some 156) (.int .i64 (n : Int)) rfl rfl (by kernel_rfl) (by kernel_rfl) (by kernel_rfl) (fun _ _ _ h => h) (ans_fn 18 #[.tmp 155] #[24] #[.pointer (some ⟨s, 0, none⟩)] rfl (by rfl) (by rfl) Try.call18 fun u h => CS.out u h) ?_
                  simp only [Act.put, List.setIfInBounds_toArray, List.set_cons_zero, List.set_cons_succ]
                  refine takeG 12 (some 157) (.int .i64 (n : Int)) rfl rfl (by kernel_rfl) (by kernel_rfl) (by kernel_rfl) (fun _ _ _ h => h) (ans_plain (by rfl) (fun w _ => by unfold execOp; go_simp)) ?_
                  simp only [Act.put, List.setIfInBounds_toArray, List.set_cons_zero, List.set_cons_succ]
                  refine takeG 13 (some 158) (.bool false) rfl rfl (by kernel_rfl) (by kernel_rfl) (by kernel_rfl) (fun _ _ _ h => h) (ans_plain (by rfl) (fun w _ => by unfold execOp; go_simp)) ?_
                  simp only [Act.put, List.setIfInBounds_toArray, List.set_cons_zero, List.set_cons_succ]
                  refine takeG 14 (some 159) (.bool false) rfl rfl (by kernel_rfl) (by kernel_rfl) (by kernel_rfl) (fun _ _ _ h => h) (ans_plain (by rfl) (fun w _ => by unfold execOp; go_simp)) ?_
                  simp only [Act.put, List.setIfInBounds_toArray, List.set_cons_zero, List.set_cons_succ]
                  refine takeG 15 (some 160) (.bool false) rfl rfl (by kernel_rfl) (by kernel_rfl) (by kernel_rfl) (fun _ _ _ h => h) (ans_plain (by rfl) (fun w _ => rfl)) ?_
                  simp only [Act.put, List.setIfInBounds_toArray, List.set_cons_zero, List.set_cons_succ]
                  refine takeG 16 (some 161) ((.pointer (some ⟨s', 0, none⟩))) rfl rfl (by kernel_rfl) (by kernel_rfl) (by kernel_rfl) (fun _ _ _ h => h) (ans_plain (by rfl) (fun w _ => by unfold execOp; go_simp)) ?_
                  simp only [Act.put, List.setIfInBounds_toArray, List.set_cons_zero, List.set_cons_succ]
                  refine takeG 17 (some 162) (.int .i64 (F0 : Int)) rfl rfl (by kernel_rfl) (by kernel_rfl) (by kernel_rfl) (fun _ _ _ h => h) (ans_fn 17 #[.tmp 161] #[24] #[(.pointer (some ⟨s', 0, none⟩))] rfl (by rfl) (by rfl) Try.call17 fun u h => CO.out u h) ?_
                  simp only [Act.put, List.setIfInBounds_toArray, List.set_cons_zero, List.set_cons_succ]
                  refine takeG 18 (some 163) (.int .i64 (F0 : Int)) rfl rfl (by kernel_rfl) (by kernel_rfl) (by kernel_rfl) (fun _ _ _ h => h) (ans_plain (by rfl) (fun w _ => by unfold execOp; go_simp)) ?_
                  simp only [Act.put, List.setIfInBounds_toArray, List.set_cons_zero, List.set_cons_succ]
                  refine takeG 19 (some 164) (.bool false) rfl rfl (by kernel_rfl) (by kernel_rfl) (by kernel_rfl) (fun _ _ _ h => h) (ans_plain (by rfl) (fun w _ => by unfold execOp; go_simp)) ?_
                  simp only [Act.put, List.setIfInBounds_toArray, List.set_cons_zero, List.set_cons_succ]
                  refine takeG 20 (some 165) (.bool false) rfl rfl (by kernel_rfl) (by kernel_rfl) (by kernel_rfl) (fun _ _ _ h => h) (ans_plain (by rfl) (fun w _ => by unfold execOp; go_simp)) ?_
                  simp only [Act.put, List.setIfInBounds_toArray, List.set_cons_zero, List.set_cons_succ]
                  refine doneG (by kernel_rfl) fun v7 _ hs7 => ?_
                  have H7 : Hid (Two15 v7 s t X n f T p4 c4) := H6.out.grow hs7
                  have HB8 : Hid (Below w.heap.size w v7) := HB7.out.trans (Below.mono hs7 HB7.out.size)
                  clear CF CR CS CO hs7 H6 HO7 HB7
                  obtain ⟨b4, o4, rfl, hb4, _⟩ := H7.out.at_
                  go_wp2_with fail
                  go_loopw [24] (fun x v8 => ∃ k : Nat, k ≤ n ∧ x = .int .i64 (k : Int) ∧ Hid (Two15 v8 s t X n f T (some ⟨b4, o4, none⟩) c4) ∧ Hid (Below w.heap.size w v8)) (fun x _ => n - (intOf x).toNat)
                  case atStart => exact ⟨0, by omega, rfl, H7, HB8⟩
                  case round =>
                    clear H7 HB8
                    rename World => v8
                    obtain ⟨k, hk, rfl, H8, HB8⟩ := hrel
                    by_cases hkn : k < n
                    · have i1 : (k : Int) < (n : Int) := by omega
                      have i2 : (0 : Int) ≤ (k : Int) := by omega
                      obtain ⟨b5, o5, e5, hb5, hc5⟩ := H8.out.at_
                      simp only [Option.some.injEq, Addr.mk.injEq, and_true] at e5
                      obtain ⟨rfl, rfl⟩ := e5
                      have c5 := hc5 k hkn
                      have c1 := H8.out.cell.2
                      have lX := H8.out.bx.lt
                      have HTk : Hid (∀ nq, Calls Try.prog 19 #[.pointer (some ⟨s, 0, none⟩), .int .i64 (k : Int)] (v8.drewN nq) fun e w' => e = .returned (.bool (T.l.getD k false)) ∧ w' = v8.drewN nq) := fun nq => by
                        have := oZTaken (v8.drewN nq) (H8.out.sp.grow (below_drewN' v8 nq)) (k : Int)
                        rw [SpS.taken_in T (by rw [H8.out.len]; exact hkn)] at this
                        exact this.mono fun e w' h => ⟨h.1, h.2.symm⟩
                      have Hn : Hid (∀ nq, Hid (Two15 (v8.drewN nq) s t X n f T (some ⟨b4, o4, none⟩) c4) ∧ Hid (Below w.heap.size w (v8.drewN nq))) := fun nq => ⟨H8.out.grow (below_drewN' v8 nq), below_drN HB8.out nq⟩
                      generalize T.l.getD k false = bit at *
                      clear hc5 hb4
                      cases bit
                      all_goals
                        go_wp2_with fail
                        go_quiet ((go_at_call 19; exact Calls.quiet_of_same (HTk.out _)))
                        obtain ⟨r1, r2⟩ := Hn.out nq
                        go_wp2_with fail
                        go_roundw
                        case rel => exact ⟨k + 1, by omega, by go_num, r1, r2⟩
                        case measure => simp [intOf]; omega
                    · obtain rfl : k = n := by omega
                      have i1 : ¬ (k : Int) < (k : Int) := by omega
                      go_wp2_with fail
                      go_roundw
                      case rel => exact ⟨i + 1, T, _, c4, by omega, by go_num, H8, HB8⟩
                      case measure => simp [intOf]; omega
          · have i0 : ¬ (i : Int) < (len2 : Int) := by omega
            by_cases hask : 0 ≤ a3 ∧ a3 < (n : Int)
            · obtain ⟨k1, k2⟩ := hask
              go_wp2_with fail
              refine (lWorks15 wr).mono ?_
              rintro e w3 ⟨rfl, hb3⟩
              have B3 : Hid (Below w.heap.size w w3) := HB.out.trans (hb3.mono HB.out.size)
              clear hb3
              go_wp2_with fail
              go_ret
              exact ⟨rfl, B3.out⟩
            · have CT := oZTaken wr H2.out.sp a3
              rw [SpS.taken_out S (by rw [H2.out.len]; omega)] at CT
              by_cases k1 : 0 ≤ a3
              · have k2 : ¬ a3 < (n : Int) := by omega
                clear hask
                go_wp2_with fail
                refine CT.mono ?_
                rintro e w' ⟨rfl, rfl⟩
                clear CT
                go_wp2_with fail
                refine (lWorks15 wr).mono ?_
                rintro e w3 ⟨rfl, hb3⟩
                have B3 : Hid (Below w.heap.size w w3) := HB.out.trans (hb3.mono HB.out.size)
                clear hb3
                go_wp2_with fail
                go_ret
                exact ⟨rfl, B3.out⟩
              · clear hask
                go_wp2_with fail
                refine CT.mono ?_
                rintro e w' ⟨rfl, rfl⟩
                clear CT
                go_wp2_with fail
                refine (lWorks15 wr).mono ?_
                rintro e w3 ⟨rfl, hb3⟩
                have B3 : Hid (Below w.heap.size w w3) := HB.out.trans (hb3.mono HB.out.size)
                clear hb3
                go_wp2_with fail
                go_ret
                exact ⟨rfl, B3.out⟩

set_option maxRecDepth 100000 in
theorem lifted (os : Os) (started : os.Started) (H : Type) (enc : TypeId × Value → H) :
    ReturnsInHanded {} Try.checked os 3 .any (Rows.spaceDoesSpec.pre6 enc Try.prog Try.f3 Rows.spaceDoesRow.domain false) (Rows.spaceDoesSpec.post enc Try.prog Try.f3 false true false false) := by
  refine returnsInHanded_of_change (C := Try.checked) own started (by kernel_rfl) Try.func3
    (ChangeSpec.witness6 (enc := enc) (C := Try.checked) false ⟨#[], #[.int .i64 0, .int .i64 0, .slice none 0 0, .int .i64 0], []⟩ 8 (by kernel_rfl) (by kernel_rfl) (by kernel_rfl) (by kernel_rfl)) ?_
  intro W base args ds gs before hval0 hW hcnd _
  have hval : ∀ (j : Nat) t v, Try.f3.params[j]? = some t → args[j]? = some v → Value.okWide Try.prog W .any base t v := hval0
  have hW' := hW
  obtain ⟨p, q, hA0, hV, rfl, hfz, hnd⟩ := hW
  have hA : DataW.TrodAll enc Try.prog W 0 (fun _ => true) true Try.f3.params.toList args.toList ds p := hA0
  rw [Try.params3] at hA hval
  obtain ⟨v0, vs0, d0, ds0, p0, q0, hargs, rfl, rfl, h0, r0⟩ := trodAll_cons hA
  obtain ⟨v1, vs1, d1, ds1, p1, q1, rfl, rfl, rfl, h1, r1⟩ := trodAll_cons r0
  obtain ⟨v2, vs2, d2, ds2, p2, q2, rfl, rfl, rfl, h2, r2⟩ := trodAll_cons r1
  obtain ⟨v3, vs3, d3, ds3, p3, q3, rfl, rfl, rfl, h3, r3⟩ := trodAll_cons r2
  obtain ⟨rfl, rfl, rfl⟩ := trodAll_nil r3
  obtain rfl : args = #[v0, v1, v2, v3] := by cases args; simp_all
  obtain ⟨rfl, rfl⟩ := trodVars_none hV
  obtain ⟨a0, rfl, rfl, rfl, w0⟩ := open_int Try.underlying3 (hval 0 3 v0 rfl rfl) h0
  obtain ⟨a1, rfl, rfl, rfl, w1⟩ := open_int Try.underlying3 (hval 1 3 v1 rfl rfl) h1
  obtain ⟨a2, len2, cap2, rfl⟩ := okWide_slice Try.underlying22 (hval 2 22 v2 rfl rfl)
  have k2 := h2
  have lt2 : ∀ x ∈ p2, x.block < W.heap.size := by obtain ⟨m, hm⟩ := k2; exact DataW.trod_lt m _ _ _ hm
  obtain ⟨l2, w2⟩ : ∃ l, Ops15 W a2 len2 cap2 l := by
    obtain ⟨fuel, hf⟩ := h2
    exact Ops15.of_trod hf
  obtain ⟨a3, rfl, rfl, rfl, w3⟩ := open_int Try.underlying3 (hval 3 3 v3 rfl rfl) h3
  clear hA0 hval0
  refine (walk a0 a1 a2 len2 cap2 l2 a3 W w0 w1 w2 w3).mono fun e W' ⟨he, bel⟩ => ?_
  subst he
  exact ⟨_, rfl, _, _, _, [], _, [], hW', trodAll_mk1 (shut_bool Try.underlying4 _), (trodAll_cons_mk (shut_int Try.underlying3 w0) (trodAll_cons_mk (shut_int Try.underlying3 w1) (trodAll_cons_mk (Below.trod laidOut (by kernel_rfl) (of_decide_eq_true (by kernel_rfl)) k2 bel lt2) (trodAll_cons_mk (shut_int Try.underlying3 w3) trodAll_mk0)))), rfl, bel.frame _, fun h => by cases h⟩

theorem over : Rows.spaceDoesRow.holds Try.pinned (OpenSpec.ofChange Rows.spaceDoesSpec) :=
  OpenClaim.holds_of_wide 3 Try.f3 rfl rfl rfl rfl rfl rfl rfl ⟨rfl, rfl, rfl, rfl, rfl⟩ rfl rfl rfl rfl rfl (by kernel_rfl) Try.func3 (by kernel_rfl)
    (of_decide_eq_true (by kernel_rfl)) (by unfold Func.isWrapper; first | (rw [if_pos (by decide +kernel)]; kernel_rfl) | (rw [if_neg (by decide +kernel)]; exact ⟨rfl, rfl⟩))
    (fun os started H enc _ => lifted os started H enc)
end SpaceDoesLaw

/-- The statement. -/
theorem spaceDoes_holds : Rows.SpaceDoesSaid := SpaceDoesLaw.over
#print axioms spaceDoes_holds
end Go.Proofs.Ytcmbkpdefbaakaa
