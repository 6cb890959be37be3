/-
  Proved: for any pieces, any numbers, any size and any place the statement ChunkCuts of layer 13 answers true and leaves its arguments as they were. Conditions beside the statement's own: none.
-/
import Derived.Test.YtfknplcnfpincaaRows
import Derived.Test.YtfknplcnfpincaaG24
import Derived.Below
import Derived.Deep.DeepCutAuto
import Derived.Deep.CutBlock
import Derived.ChangeOld
namespace Go.Proofs.Ytfknplcnfpincaa
namespace ChunkCutsLaw
open Go.ChangeShapes Go.WideShapes Go.ChangeAt Go.RowKit
open Go.ChangeMaps (open_string shut_string)
set_option linter.unusedVariables false

theorem own : ownKnob Try.prog.godebug = none := by kernel_rfl
theorem laidOut : laidOutB Try.prog = true := by kernel_rfl

set_option maxRecDepth 100000 in
set_option maxHeartbeats 4000000 in
theorem walk (a0 : Option Addr) (len0 cap0 : Nat) (l0 : List (List UInt8)) (a1 : Int) (a2 : Int) (a3 : Int) (a4 : Int) (a5 : Int) (w : World) (w0 : Bss w a0 len0 cap0 l0) (w1 : (Lit.int .u8 a1).wf = true) (w2 : (Lit.int .i64 a2).wf = true) (w3 : (Lit.int .i64 a3).wf = true) (w4 : (Lit.int .u32 a4).wf = true) (w5 : (Lit.int .u16 a5).wf = true) :
    Calls Try.prog 6 #[.slice a0 len0 cap0, .int .u8 a1, .int .i64 a2, .int .i64 a3, .int .u32 a4, .int .u16 a5] w fun e w' => e = .returned (.bool true) ∧ Below w.heap.size w w' := by
  have b1 := bounds_u8 w1
  have b2 := bounds_i64 w2
  have b3 := bounds_i64 w3
  have b4 := bounds_u32 w4
  have b5 := bounds_u16 w5
  obtain ⟨F, rfl⟩ : ∃ F : Nat, a1 = F := ⟨a1.toNat, by omega⟩
  obtain ⟨n4, rfl⟩ : ∃ n : Nat, a4 = n := ⟨a4.toNat, by omega⟩
  obtain ⟨I, rfl⟩ : ∃ n : Nat, a5 = n := ⟨a5.toNat, by omega⟩
  have hF : F ≤ 255 := by omega
  have hI : I ≤ 65535 := by omega
  have hn4 : n4 ≤ 4294967295 := by omega
  have HB : Hid (Bss w a0 len0 cap0 l0) := w0
  have HL : Hid (l0.length = len0) := w0.len
  have hmax := w0.max
  clear w0 w1 w2 w3 w4 w5 b1 b4 b5
  by_cases c1 : (5 : Int) < (len0 : Int)
  · go_enter Try.func6, Try.ntmps6
    go_wp2_with fail
    refine (lWorks13 w).mono ?_
    rintro e wz ⟨rfl, hbz⟩
    go_wp2_with fail
    go_ret
    exact ⟨rfl, hbz⟩
  by_cases c2 : a2 < -1073741824
  · go_enter Try.func6, Try.ntmps6
    go_wp2_with fail
    refine (lWorks13 w).mono ?_
    rintro e wz ⟨rfl, hbz⟩
    go_wp2_with fail
    go_ret
    exact ⟨rfl, hbz⟩
  by_cases c3 : (1073741824 : Int) < a2
  · go_enter Try.func6, Try.ntmps6
    go_wp2_with fail
    refine (lWorks13 w).mono ?_
    rintro e wz ⟨rfl, hbz⟩
    go_wp2_with fail
    go_ret
    exact ⟨rfl, hbz⟩
  by_cases c4 : a3 < -1073741824
  · go_enter Try.func6, Try.ntmps6
    go_wp2_with fail
    refine (lWorks13 w).mono ?_
    rintro e wz ⟨rfl, hbz⟩
    go_wp2_with fail
    go_ret
    exact ⟨rfl, hbz⟩
  by_cases c5 : (1073741824 : Int) < a3
  · go_enter Try.func6, Try.ntmps6
    go_wp2_with fail
    refine (lWorks13 w).mono ?_
    rintro e wz ⟨rfl, hbz⟩
    go_wp2_with fail
    go_ret
    exact ⟨rfl, hbz⟩
  have hl5 : len0 ≤ 5 := by omega
  obtain ⟨n, hn⟩ : ∃ n, n = n4 % 2097152 := ⟨_, rfl⟩
  have hnm : (n4 : Int).tmod 2097152 = (n : Int) := by rw [hn]; exact tmod_nat n4 2097152
  have hnl : n ≤ 2097151 := by omega
  obtain ⟨G, hG⟩ : ∃ G, G = 496 * I := ⟨_, rfl⟩
  have hGm : (496 : Int) * (I : Int) = (G : Int) := by omega
  have hGl : G ≤ 40000000 := by omega
  have HLO : Hid (lo n I = min G n) := by show _ = _; unfold lo; rw [hG]
  have HHI : Hid (hi n I = min (G + 496) n) := by show _ = _; unfold hi; rw [hG]
  clear hn hG
  go_enter Try.func6, Try.ntmps6
  go_wp2_with fail
  go_loopw [13] (fun i wr => ∃ k : Nat, k ≤ len0 ∧ i = .int .i64 (k : Int) ∧ Hid (∀ j, j < k → (l0.getD j []).length ≤ 600) ∧ w = wr) (fun i _ => len0 - (intOf i).toNat)
  case atStart => exact ⟨0, Nat.zero_le _, rfl, fun j hj => by omega, rfl⟩
  case round =>
    obtain ⟨k, hk, rfl, HI, rfl⟩ := hrel
    by_cases hlt : k < len0
    · have i0 : (k : Int) < (len0 : Int) := by omega
      obtain ⟨x, o, hxa, hlx, hcell⟩ := HB.out.at (by omega)
      subst hxa
      obtain ⟨p, pm, pq, hc, hp⟩ := hcell k hlt
      have hpl := hp.len
      have hpm := hp.max
      by_cases h6 : pm ≤ 600
      · have j0 : ¬ (600 : Int) < (pm : Int) := by omega
        have HN : Hid (∀ j, j < k + 1 → (l0.getD j []).length ≤ 600) := fun j hj => by
          by_cases e : j = k
          · rw [e, hpl]; exact h6
          · exact HI.out j (by omega)
        clear hcell hp hpl HI
        go_wp2_with fail
        go_roundw
        case rel => exact ⟨k + 1, by omega, by go_num, HN, (by first | rfl | trivial)⟩
        case measure => simp [intOf]; omega
      · have j0 : (600 : Int) < (pm : Int) := by omega
        clear hcell hp hpl HI
        go_wp2_with fail
        refine (lWorks13 w).mono ?_
        rintro e wz ⟨rfl, hbz⟩
        go_wp2_with fail
        go_ret
        exact ⟨rfl, hbz⟩
    · have i0 : ¬ (k : Int) < (len0 : Int) := by omega
      have HTT : Hid (tot l0 ≤ 100000) := by
        show _ ≤ _
        have h1 : ∀ x ∈ l0, x.length ≤ 600 := fun x hx => by
          obtain ⟨j, hj, rfl⟩ := List.getElem_of_mem hx
          have := HI.out j (by rw [HL.out] at hj; omega)
          rwa [List.getD_eq_getElem?_getD, List.getElem?_eq_getElem hj] at this
        have h2 := tot_small l0 600 h1
        rw [HL.out] at h2
        omega
      clear HI
      go_wp2_with fail
      refine (oPart w n I (by omega) (by omega)).mono ?_
      rintro e u1 ⟨rfl, rfl⟩
      obtain ⟨P, hP⟩ : ∃ P, P = lo n I := ⟨_, rfl⟩
      obtain ⟨Q, hQ⟩ : ∃ Q, Q = hi n I := ⟨_, rfl⟩
      rw [← hP, ← hQ]
      rw [← hP] at HLO
      rw [← hQ] at HHI
      clear hP hQ
      by_cases g1 : n < G
      · have g1' : (n : Int) < (G : Int) := by omega
        obtain rfl : P = n := by have := HLO.out; omega
        obtain rfl : Q = P := by have := HHI.out; omega
        have g2 : (Q : Int) < (Q : Int) + 496 := by omega
        clear HLO HHI
        go_wp2_with fail
        refine (oCut13 w HB.out HTT.out (by omega) F (by omega) a2 a3 (by omega) (by omega) (by omega) (by omega)).mono ?_
        rintro e u1 ⟨p1, m1, q1, rfl, o1, hb1⟩
        go_wp2_with fail
        refine (rCut u1 (HB.out.below hb1 (Nat.le_refl _)) HTT.out F (by omega) a2 a3 (by omega) (by omega) (by omega) (by omega)).mono ?_
        rintro e u2 ⟨p2, m2, q2, rfl, o2, hb2⟩
        have QB : Hid (Below w.heap.size w u2) := hb1.trans (hb2.mono hb1.size)
        have CSM : Hid (Calls Try.prog 19 #[.slice p1 m1 q1, .slice p2 m2 q2] u2 fun e w' => e = .returned (.bool true) ∧ ∃ k, w' = u2.drewN k) := by
          have := rSame u2 (o1.toBs.below hb2 (Nat.le_refl _)) o2
          rwa [decide_eq_true rfl] at this
        clear o1 hb1 o2 hb2
        go_wp2_with fail
        refine CSM.out.mono ?_
        rintro e u3 ⟨rfl, kk, hu3⟩
        have Q3 : Hid (Below w.heap.size w u3) := by rw [hu3]; exact below_drN QB.out kk
        clear hu3 CSM QB
        go_wp2_with fail
        refine (oCount u3 Q (by omega)).mono ?_
        rintro e u4 ⟨rfl, rfl⟩
        go_wp2_with fail
        refine (rCount u3 Q (by omega)).mono ?_
        rintro e u4 ⟨rfl, rfl⟩
        go_wp2_with fail
        refine (lWorks13 u3).mono ?_
        rintro e u4 ⟨rfl, hb4⟩
        go_wp2_with fail
        go_ret
        exact ⟨rfl, Q3.out.trans (hb4.mono Q3.out.size)⟩
      · have g1' : ¬ (n : Int) < (G : Int) := by omega
        obtain rfl : P = G := by have := HLO.out; omega
        obtain ⟨E, hE⟩ : ∃ E, E = P + 496 := ⟨_, rfl⟩
        have hEe : (P : Int) + 496 = (E : Int) := by omega
        have hEl : E ≤ 50000000 := by omega
        by_cases g2 : n < E
        · have g2' : (n : Int) < (E : Int) := by omega
          obtain rfl : Q = n := by have := HHI.out; omega
          clear HLO HHI hE
          go_wp2_with fail
          refine (oCut13 w HB.out HTT.out (by omega) F (by omega) a2 a3 (by omega) (by omega) (by omega) (by omega)).mono ?_
          rintro e u1 ⟨p1, m1, q1, rfl, o1, hb1⟩
          go_wp2_with fail
          refine (rCut u1 (HB.out.below hb1 (Nat.le_refl _)) HTT.out F (by omega) a2 a3 (by omega) (by omega) (by omega) (by omega)).mono ?_
          rintro e u2 ⟨p2, m2, q2, rfl, o2, hb2⟩
          have QB : Hid (Below w.heap.size w u2) := hb1.trans (hb2.mono hb1.size)
          have CSM : Hid (Calls Try.prog 19 #[.slice p1 m1 q1, .slice p2 m2 q2] u2 fun e w' => e = .returned (.bool true) ∧ ∃ k, w' = u2.drewN k) := by
            have := rSame u2 (o1.toBs.below hb2 (Nat.le_refl _)) o2
            rwa [decide_eq_true rfl] at this
          clear o1 hb1 o2 hb2
          go_wp2_with fail
          refine CSM.out.mono ?_
          rintro e u3 ⟨rfl, kk, hu3⟩
          have Q3 : Hid (Below w.heap.size w u3) := by rw [hu3]; exact below_drN QB.out kk
          clear hu3 CSM QB
          go_wp2_with fail
          refine (oCount u3 Q (by omega)).mono ?_
          rintro e u4 ⟨rfl, rfl⟩
          go_wp2_with fail
          refine (rCount u3 Q (by omega)).mono ?_
          rintro e u4 ⟨rfl, rfl⟩
          go_wp2_with fail
          refine (lWorks13 u3).mono ?_
          rintro e u4 ⟨rfl, hb4⟩
          go_wp2_with fail
          go_ret
          exact ⟨rfl, Q3.out.trans (hb4.mono Q3.out.size)⟩
        · have g2' : ¬ (n : Int) < (E : Int) := by omega
          obtain rfl : Q = E := by have := HHI.out; omega
          clear HLO HHI hE
          go_wp2_with fail
          refine (oCut13 w HB.out HTT.out (by omega) F (by omega) a2 a3 (by omega) (by omega) (by omega) (by omega)).mono ?_
          rintro e u1 ⟨p1, m1, q1, rfl, o1, hb1⟩
          go_wp2_with fail
          refine (rCut u1 (HB.out.below hb1 (Nat.le_refl _)) HTT.out F (by omega) a2 a3 (by omega) (by omega) (by omega) (by omega)).mono ?_
          rintro e u2 ⟨p2, m2, q2, rfl, o2, hb2⟩
          have QB : Hid (Below w.heap.size w u2) := hb1.trans (hb2.mono hb1.size)
          have CSM : Hid (Calls Try.prog 19 #[.slice p1 m1 q1, .slice p2 m2 q2] u2 fun e w' => e = .returned (.bool true) ∧ ∃ k, w' = u2.drewN k) := by
            have := rSame u2 (o1.toBs.below hb2 (Nat.le_refl _)) o2
            rwa [decide_eq_true rfl] at this
          clear o1 hb1 o2 hb2
          go_wp2_with fail
          refine CSM.out.mono ?_
          rintro e u3 ⟨rfl, kk, hu3⟩
          have Q3 : Hid (Below w.heap.size w u3) := by rw [hu3]; exact below_drN QB.out kk
          clear hu3 CSM QB
          go_wp2_with fail
          refine (oCount u3 n (by omega)).mono ?_
          rintro e u4 ⟨rfl, rfl⟩
          go_wp2_with fail
          refine (rCount u3 n (by omega)).mono ?_
          rintro e u4 ⟨rfl, rfl⟩
          go_wp2_with fail
          refine (lWorks13 u3).mono ?_
          rintro e u4 ⟨rfl, hb4⟩
          go_wp2_with fail
          go_ret
          exact ⟨rfl, Q3.out.trans (hb4.mono Q3.out.size)⟩

set_option maxRecDepth 100000 in
theorem lifted (os : Os) (started : os.Started) (H : Type) (enc : TypeId × Value → H) :
    ReturnsInHanded {} Try.checked os 6 .any (Rows.chunkCutsSpec.pre6 enc Try.prog Try.f6 Rows.chunkCutsRow.domain false) (Rows.chunkCutsSpec.post enc Try.prog Try.f6 false true false false) := by
  refine returnsInHanded_of_change (C := Try.checked) own started (by kernel_rfl) Try.func6
    (ChangeSpec.witness6 (enc := enc) (C := Try.checked) false ⟨#[], #[.slice none 0 0, .int .u8 0, .int .i64 0, .int .i64 0, .int .u32 0, .int .u16 0], []⟩ 8 (by kernel_rfl) (by kernel_rfl) (by kernel_rfl) (by kernel_rfl)) ?_
  intro W base args ds gs before hval0 hW hcnd _
  have hval : ∀ (j : Nat) t v, Try.f6.params[j]? = some t → args[j]? = some v → Value.okWide Try.prog W .any base t v := hval0
  have hW' := hW
  obtain ⟨p, q, hA0, hV, rfl, hfz, hnd⟩ := hW
  have hA : DataW.TrodAll enc Try.prog W 0 (fun _ => true) true Try.f6.params.toList args.toList ds p := hA0
  rw [Try.params6] at hA hval
  obtain ⟨v0, vs0, d0, ds0, p0, q0, hargs, rfl, rfl, h0, r0⟩ := trodAll_cons hA
  obtain ⟨v1, vs1, d1, ds1, p1, q1, rfl, rfl, rfl, h1, r1⟩ := trodAll_cons r0
  obtain ⟨v2, vs2, d2, ds2, p2, q2, rfl, rfl, rfl, h2, r2⟩ := trodAll_cons r1
  obtain ⟨v3, vs3, d3, ds3, p3, q3, rfl, rfl, rfl, h3, r3⟩ := trodAll_cons r2
  obtain ⟨v4, vs4, d4, ds4, p4, q4, rfl, rfl, rfl, h4, r4⟩ := trodAll_cons r3
  obtain ⟨v5, vs5, d5, ds5, p5, q5, rfl, rfl, rfl, h5, r5⟩ := trodAll_cons r4
  obtain ⟨rfl, rfl, rfl⟩ := trodAll_nil r5
  obtain rfl : args = #[v0, v1, v2, v3, v4, v5] := by cases args; simp_all
  obtain ⟨rfl, rfl⟩ := trodVars_none hV
  obtain ⟨a0, len0, cap0, rfl⟩ := okWide_slice Try.underlying28 (hval 0 28 v0 rfl rfl)
  have k0 := h0
  have lt0 : ∀ x ∈ p0, x.block < W.heap.size := by obtain ⟨m, hm⟩ := k0; exact DataW.trod_lt m _ _ _ hm
  obtain ⟨l0, w0⟩ : ∃ l, Bss W a0 len0 cap0 l := by
    obtain ⟨fuel, hf⟩ := h0
    exact Bss.of_trod hf
  obtain ⟨a1, rfl, rfl, rfl, w1⟩ := open_int Try.underlying5 (hval 1 5 v1 rfl rfl) h1
  obtain ⟨a2, rfl, rfl, rfl, w2⟩ := open_int Try.underlying3 (hval 2 3 v2 rfl rfl) h2
  obtain ⟨a3, rfl, rfl, rfl, w3⟩ := open_int Try.underlying3 (hval 3 3 v3 rfl rfl) h3
  obtain ⟨a4, rfl, rfl, rfl, w4⟩ := open_int Try.underlying52 (hval 4 52 v4 rfl rfl) h4
  obtain ⟨a5, rfl, rfl, rfl, w5⟩ := open_int Try.underlying23 (hval 5 23 v5 rfl rfl) h5
  clear hA0 hval0
  refine (walk a0 len0 cap0 l0 a1 a2 a3 a4 a5 W w0 w1 w2 w3 w4 w5).mono fun e W' ⟨he, bel⟩ => ?_
  subst he
  exact ⟨_, rfl, _, _, _, [], _, [], hW', trodAll_mk1 (shut_bool Try.underlying4 _), (trodAll_cons_mk (Below.trod laidOut (by kernel_rfl) (of_decide_eq_true (by kernel_rfl)) k0 bel lt0) (trodAll_cons_mk (shut_int Try.underlying5 w1) (trodAll_cons_mk (shut_int Try.underlying3 w2) (trodAll_cons_mk (shut_int Try.underlying3 w3) (trodAll_cons_mk (shut_int Try.underlying52 w4) (trodAll_cons_mk (shut_int Try.underlying23 w5) trodAll_mk0)))))), rfl, bel.frame _, fun h => by cases h⟩

theorem over : Rows.chunkCutsRow.holds Try.pinned (OpenSpec.ofChange Rows.chunkCutsSpec) :=
  OpenClaim.holds_of_wide 6 Try.f6 rfl rfl rfl rfl rfl rfl rfl ⟨rfl, rfl, rfl, rfl, rfl⟩ rfl rfl rfl rfl rfl (by kernel_rfl) Try.func6 (by kernel_rfl)
    (of_decide_eq_true (by kernel_rfl)) (by unfold Func.isWrapper; first | (rw [if_pos (by decide +kernel)]; kernel_rfl) | (rw [if_neg (by decide +kernel)]; exact ⟨rfl, rfl⟩))
    (fun os started H enc _ => lifted os started H enc)
end ChunkCutsLaw

/-- The statement. -/
theorem chunkCuts_holds : Rows.ChunkCutsSaid := ChunkCutsLaw.over
#print axioms chunkCuts_holds
end Go.Proofs.Ytfknplcnfpincaa
