/-
  Proved: for any acts and any small number the statement SpaceFirst of layer 15 answers true and leaves its arguments as they were. Conditions beside the statement's own: none.
-/
import Derived.Test.YtcmbkpdefbaakaaRows
import Derived.Test.YtcmbkpdefbaakaaSpaW
import Derived.Test.YtcmbkpdefbaakaaSpaX
import Derived.Test.YtcmbkpdefbaakaaOps15
import Derived.Below
import Derived.Deep.DeepCutAuto
import Derived.Deep.CutBlock
import Derived.ChangeOld
namespace Go.Proofs.Ytcmbkpdefbaakaa
namespace SpaceFirstLaw
open Go.ChangeShapes Go.WideShapes Go.ChangeAt Go.RowKit
open Go.ChangeMaps (open_string shut_string)
set_option linter.unusedVariables false

theorem own : ownKnob Try.prog.godebug = none := by kernel_rfl
theorem laidOut : laidOutB Try.prog = true := by kernel_rfl

set_option maxRecDepth 100000 in
set_option maxHeartbeats 4000000 in
theorem walk (a0 : Option Addr) (len0 cap0 : Nat) (l0 : List Unit) (a1 : Int) (w : World) (w0 : Ops15 w a0 len0 cap0 l0) (w1 : (Lit.int .u8 a1).wf = true) :
    Calls Try.prog 5 #[.slice a0 len0 cap0, .int .u8 a1] w fun e w' => e = .returned (.bool true) ∧ Below w.heap.size w w' := by
  have hn1 := w0.1
  have hc1 := w0.2.1
  unfold maxLen at hc1
  obtain ⟨n, rfl⟩ : ∃ n : Nat, a1 = (n : Int) := ⟨a1.toNat, by have := (bounds_u8 w1).1; omega⟩
  have hn255 : n ≤ 255 := by have := (bounds_u8 w1).2; omega
  clear w1
  by_cases h1 : (60 : Int) < len0
  · go_enter Try.func5, Try.ntmps5
    go_wp2_with (go_at_call 6; refine (lWorks15 _).mono ?_; rintro e w2 ⟨rfl, hb1⟩)
    go_ret
    exact ⟨rfl, hb1⟩
  · have W0 : Hid (Ops15 w a0 len0 cap0 l0) := w0
    clear w0
    have hw64 := wrapN hn255
    obtain ⟨K, hK⟩ : ∃ K, K = n % 12 := ⟨_, rfl⟩
    have hT : (n : Int).tmod 12 = (K : Int) := by rw [hK]; exact tmodN n 12
    obtain ⟨M, hM⟩ : ∃ M, M = 1 + K := ⟨_, rfl⟩
    have hKM : 1 + (K : Int) = (M : Int) := by omega
    have hM1 : 1 ≤ M := by omega
    have hM2 : M ≤ 12 := by omega
    have hK2 : K ≤ 12 := by omega
    clear hK hM
    go_enter Try.func5, Try.ntmps5
    go_wp2_with fail
    refine (oZNew w 40 3 (by omega) (by omega) (by omega)).mono ?_
    rintro e w1 ⟨s, t, rfl, hS, hs, ht, hb⟩
    have Ht : Hid (w.heap.size ≤ t) := ht
    have HS : Hid (Sp w1 s t (SpS.new 40 3)) := hS
    have HB : Hid (Below w.heap.size w w1) := hb
    clear hS hs ht hb
    go_wp2_with fail
    go_loopw [7] (fun i wr => ∃ (k : Nat) (S : SpS), k ≤ len0 ∧ i = .int .i64 (k : Int) ∧ Hid (Sp wr s t S) ∧ Hid (S.l.length = 40) ∧ Hid (Below w.heap.size w wr)) (fun i _ => len0 - (intOf i).toNat)
    case atStart => exact ⟨0, SpS.new 40 3, Nat.zero_le _, rfl, HS, SpS.new_len 40 3, HB⟩
    case round =>
      clear HS HB
      obtain ⟨k, S, hk, rfl, HS, HL, HB⟩ := hrel
      by_cases hlt : k < len0
      · obtain ⟨b, o, x, y, z, rfl, cx, cy, cz, bx, by0, bz⟩ := W0.out.2.2 k hlt
        have hbL := lt_of_cell cx
        have hbR : b < wr.heap.size := Nat.lt_of_lt_of_le hbL HB.out.size
        have d0 : wr.cell? ⟨b, o + k * 3, none⟩ = some (.int .i64 x) := by rw [HB.out.cell (p := ⟨b, o + k * 3, none⟩) hbL]; exact cx
        have d1 : wr.cell? ⟨b, o + k * 3 + 1, none⟩ = some (.int .i64 y) := by rw [HB.out.cell (p := ⟨b, o + k * 3 + 1, none⟩) hbL]; exact cy
        have d2 : wr.cell? ⟨b, o + k * 3 + 2, none⟩ = some (.int .i64 z) := by rw [HB.out.cell (p := ⟨b, o + k * 3 + 2, none⟩) hbL]; exact cz
        have i0 : (k : Int) < (len0 : Int) := by omega
        have HT := oZTake wr HS.out z
        have HM := oZMark wr.drew (HS.out.grow (Below.refl _ wr).drew) y z bz.2
        have HG := oZGive wr.drew (HS.out.grow (Below.refl _ wr).drew) y z bz.2
        have key : Hid (∀ (w' : World) (S' : SpS), Sp w' s t S' → S'.l.length = S.l.length → Kp (fun j => j = t) wr w' → Hid (Sp w' s t S') ∧ Hid (S'.l.length = 40) ∧ Hid (Below w.heap.size w w')) := fun w' S' h1 h2 h3 => ⟨h1, by show _ = _; rw [h2]; exact HL.out, below_kp HB.out h3 HB.out.size (fun j hj e => by have := Ht.out; omega)⟩
        clear cx cy cz bx by0 bz
        by_cases x0 : x = 0
        · subst x0
          clear HM HG
          go_wp2_with fail
          refine HT.mono ?_
          rintro e w2 ⟨rfl, h2, k2⟩
          obtain ⟨q1, q2, q3⟩ := key.out w2 _ h2 (S.take_len z).1 k2
          clear HT h2 k2 key
          go_wp2_with fail
          go_roundw
          case rel => exact ⟨k + 1, _, by omega, by go_num, q1, q2, q3⟩
          case measure => simp [intOf]; omega
        · by_cases x1 : x = 1
          · subst x1
            clear HT HG
            go_wp2_with fail
            go_region_with (go_at_call 14; refine HM.mono ?_; rintro e w2 ⟨rfl, h2, k2⟩; obtain ⟨q1, q2, q3⟩ := key.out w2 _ h2 (S.run_len y z true 10).1 ((Kp.of_below (Below.refl _ wr).drew).trans k2); clear h2 k2)
            all_goals
              go_wp2_with fail
              go_roundw
              case rel => exact ⟨k + 1, _, by omega, by go_num, q1, q2, q3⟩
              case measure => simp [intOf]; omega
          · by_cases x2 : x = 2
            · subst x2
              clear HT HM
              go_wp2_with fail
              go_region_with (go_at_call 16; refine HG.mono ?_; rintro e w2 ⟨rfl, h2, k2⟩; obtain ⟨q1, q2, q3⟩ := key.out w2 _ h2 (S.run_len y z false 9).1 ((Kp.of_below (Below.refl _ wr).drew).trans k2); clear h2 k2)
              all_goals
                go_wp2_with fail
                go_roundw
                case rel => exact ⟨k + 1, _, by omega, by go_num, q1, q2, q3⟩
                case measure => simp [intOf]; omega
            · clear HT HM HG key
              have x0' : (x == 0) = false := by rw [beq_eq_false_iff_ne]; exact x0
              have x1' : (x == 1) = false := by rw [beq_eq_false_iff_ne]; exact x1
              have x2' : (x == 2) = false := by rw [beq_eq_false_iff_ne]; exact x2
              clear x0 x1 x2
              go_wp2_with fail
              go_roundw
              case rel => exact ⟨k + 1, S, by omega, by go_num, HS, HL, HB⟩
              case measure => simp [intOf]; omega
      · have i0 : ¬ (k : Int) < (len0 : Int) := by omega
        obtain ⟨f3, l⟩ := S
        have hL : l.length = 40 := HL.out
        have HLL : Hid (l.length = 40) := hL
        clear HL hL
        go_wp2_with fail
        go_loop [9, 10] (fun f q => ∃ a : Nat, a ≤ 40 ∧ q = .int .i64 (a : Int) ∧ Look l M a f) (fun _ q => 41 - (intOf q).toNat)
        case atStart => exact ⟨0, by omega, rfl, Look.zero l M⟩
        case round =>
          obtain ⟨a, ha, rfl, hlook⟩ := hrel
          rcases hlook with ⟨rfl, hno⟩ | ⟨x, rfl, rfl, hf⟩
          · have HNo : Hid (∀ b, b < a → allB l b M false = false) := hno
            clear hno
            by_cases hin : a + M ≤ 40
            · have j1 : (a : Int) ≤ 40 - (M : Int) := by omega
              go_wp2_with fail
              go_loop [11, 12] (fun b q => ∃ c : Nat, a ≤ c ∧ c ≤ a + M ∧ q = .int .i64 (c : Int) ∧ b = .bool (allB l a (c - a) false)) (fun _ q => a + M - (intOf q).toNat)
              case atStart => exact ⟨a, by omega, by omega, rfl, by rw [Nat.sub_self]; rfl⟩
              case round =>
                obtain ⟨c, hc1, hc2, rfl, rfl⟩ := hrel
                by_cases hc : c < a + M
                · have j2 : (c : Int) < (a : Int) + (M : Int) := by omega
                  have HE : Hid (allB l a (c + 1 - a) false = (allB l a (c - a) false && (l.getD c false == false))) := by
                    show _ = _
                    rw [show c + 1 - a = (c - a) + 1 from by omega, allB_succ, show a + (c - a) = c from by omega]
                  have HTk := oZTakenE wr HS.out (c : Int) (SpS.taken_in ⟨f3, l⟩ (by show c < l.length; rw [HLL.out]; omega))
                  dsimp only at HTk
                  cases e1 : allB l a (c - a) false with
                  | false =>
                    rw [e1] at HE
                    clear HTk e1
                    go_wp2_with fail
                    go_round
                    case rel => exact ⟨c + 1, by omega, by omega, by go_num, by rw [HE.out]; rfl⟩
                    case measure => simp [intOf]; omega
                  | true =>
                    rw [e1, Bool.true_and] at HE
                    clear e1
                    have HTk2 := oZTaken wr HS.out (c : Int)
                    rw [SpS.taken_in ⟨f3, l⟩ (by show c < l.length; rw [HLL.out]; omega)] at HTk2
                    dsimp only at HTk2
                    clear HTk
                    generalize l.getD c false = bit at *
                    go_wp2_with fail
                    refine HTk2.mono ?_
                    rintro e w' ⟨rfl, rfl⟩
                    clear HTk2
                    go_wp2_with fail
                    go_round
                    case rel => exact ⟨c + 1, by omega, by omega, by go_num, by rw [HE.out]; cases bit <;> rfl⟩
                    case measure => simp [intOf]; omega
                · obtain rfl : c = a + M := by omega
                  have j2 : ¬ ((a + M : Nat) : Int) < (a : Int) + (M : Int) := by omega
                  rw [show a + M - a = M from by omega]
                  cases e1 : allB l a M false with
                  | true =>
                    have HF : Hid (findL l M = some a) := findL_some (by rw [HLL.out]; exact hin) e1 HNo.out
                    clear e1
                    go_wp2_with fail
                    go_round
                    case rel => exact ⟨a + 1, by omega, by go_num, Or.inr ⟨a, rfl, rfl, HF.out⟩⟩
                    case measure => simp [intOf]; omega
                  | false =>
                    have HF : Hid (∀ b, b < a + 1 → allB l b M false = false) := fun b hb => by
                      by_cases hba : b = a
                      · rw [hba]; exact e1
                      · exact HNo.out b (by omega)
                    clear e1
                    go_wp2_with fail
                    go_round
                    case rel => exact ⟨a + 1, by omega, by go_num, Or.inl ⟨rfl, HF.out⟩⟩
                    case measure => simp [intOf]; omega
            · have j1 : ¬ (a : Int) ≤ 40 - (M : Int) := by omega
              have HT := oZTakeE wr HS.out (M : Int) (SpS.take_none hM1 (findL_none (l := l) fun b hb => HNo.out b (by have := HLL.out; omega)))
              go_wp2_with fail
              refine HT.mono ?_
              rintro e w2 ⟨rfl, h2, k2⟩
              have B2 : Hid (Below w.heap.size w w2) := below_kp HB.out k2 HB.out.size (fun j hj e => by have := Ht.out; omega)
              clear HT h2 k2
              go_wp2_with fail
              refine (lWorks15 w2).mono ?_
              rintro e w3 ⟨rfl, hb3⟩
              have B3 : Hid (Below w.heap.size w w3) := B2.out.trans (hb3.mono B2.out.size)
              clear hb3
              go_wp2_with fail
              go_ret
              exact ⟨rfl, B3.out⟩
          · have HT := oZTakeE wr HS.out (M : Int) (SpS.take_some hM1 hf)
            dsimp only at HT
            clear hf
            by_cases hin : ((x + 1 : Nat) : Int) ≤ 40 - (M : Int)
            · go_wp2_with fail
              refine HT.mono ?_
              rintro e w2 ⟨rfl, h2, k2⟩
              have B2 : Hid (Below w.heap.size w w2) := below_kp HB.out k2 HB.out.size (fun j hj e => by have := Ht.out; omega)
              clear HT h2 k2
              go_wp2_with fail
              refine (lWorks15 w2).mono ?_
              rintro e w3 ⟨rfl, hb3⟩
              have B3 : Hid (Below w.heap.size w w3) := B2.out.trans (hb3.mono B2.out.size)
              clear hb3
              go_wp2_with fail
              go_ret
              exact ⟨rfl, B3.out⟩
            · go_wp2_with fail
              refine HT.mono ?_
              rintro e w2 ⟨rfl, h2, k2⟩
              have B2 : Hid (Below w.heap.size w w2) := below_kp HB.out k2 HB.out.size (fun j hj e => by have := Ht.out; omega)
              clear HT h2 k2
              go_wp2_with fail
              refine (lWorks15 w2).mono ?_
              rintro e w3 ⟨rfl, hb3⟩
              have B3 : Hid (Below w.heap.size w w3) := B2.out.trans (hb3.mono B2.out.size)
              clear hb3
              go_wp2_with fail
              go_ret
              exact ⟨rfl, B3.out⟩

set_option maxRecDepth 100000 in
theorem lifted (os : Os) (started : os.Started) (H : Type) (enc : TypeId × Value → H) :
    ReturnsInHanded {} Try.checked os 5 .any (Rows.spaceFirstSpec.pre6 enc Try.prog Try.f5 Rows.spaceFirstRow.domain false) (Rows.spaceFirstSpec.post enc Try.prog Try.f5 false true false false) := by
  refine returnsInHanded_of_change (C := Try.checked) own started (by kernel_rfl) Try.func5
    (ChangeSpec.witness6 (enc := enc) (C := Try.checked) false ⟨#[], #[.slice none 0 0, .int .u8 0], []⟩ 8 (by kernel_rfl) (by kernel_rfl) (by kernel_rfl) (by kernel_rfl)) ?_
  intro W base args ds gs before hval0 hW hcnd _
  have hval : ∀ (j : Nat) t v, Try.f5.params[j]? = some t → args[j]? = some v → Value.okWide Try.prog W .any base t v := hval0
  have hW' := hW
  obtain ⟨p, q, hA0, hV, rfl, hfz, hnd⟩ := hW
  have hA : DataW.TrodAll enc Try.prog W 0 (fun _ => true) true Try.f5.params.toList args.toList ds p := hA0
  rw [Try.params5] at hA hval
  obtain ⟨v0, vs0, d0, ds0, p0, q0, hargs, rfl, rfl, h0, r0⟩ := trodAll_cons hA
  obtain ⟨v1, vs1, d1, ds1, p1, q1, rfl, rfl, rfl, h1, r1⟩ := trodAll_cons r0
  obtain ⟨rfl, rfl, rfl⟩ := trodAll_nil r1
  obtain rfl : args = #[v0, v1] := by cases args; simp_all
  obtain ⟨rfl, rfl⟩ := trodVars_none hV
  obtain ⟨a0, len0, cap0, rfl⟩ := okWide_slice Try.underlying22 (hval 0 22 v0 rfl rfl)
  have k0 := h0
  have lt0 : ∀ x ∈ p0, x.block < W.heap.size := by obtain ⟨m, hm⟩ := k0; exact DataW.trod_lt m _ _ _ hm
  obtain ⟨l0, w0⟩ : ∃ l, Ops15 W a0 len0 cap0 l := by
    obtain ⟨fuel, hf⟩ := h0
    exact Ops15.of_trod hf
  obtain ⟨a1, rfl, rfl, rfl, w1⟩ := open_int Try.underlying5 (hval 1 5 v1 rfl rfl) h1
  clear hA0 hval0
  refine (walk a0 len0 cap0 l0 a1 W w0 w1).mono fun e W' ⟨he, bel⟩ => ?_
  subst he
  exact ⟨_, rfl, _, _, _, [], _, [], hW', trodAll_mk1 (shut_bool Try.underlying4 _), (trodAll_cons_mk (Below.trod laidOut (by kernel_rfl) (of_decide_eq_true (by kernel_rfl)) k0 bel lt0) (trodAll_cons_mk (shut_int Try.underlying5 w1) trodAll_mk0)), rfl, bel.frame _, fun h => by cases h⟩

theorem over : Rows.spaceFirstRow.holds Try.pinned (OpenSpec.ofChange Rows.spaceFirstSpec) :=
  OpenClaim.holds_of_wide 5 Try.f5 rfl rfl rfl rfl rfl rfl rfl ⟨rfl, rfl, rfl, rfl, rfl⟩ rfl rfl rfl rfl rfl (by kernel_rfl) Try.func5 (by kernel_rfl)
    (of_decide_eq_true (by kernel_rfl)) (by unfold Func.isWrapper; first | (rw [if_pos (by decide +kernel)]; kernel_rfl) | (rw [if_neg (by decide +kernel)]; exact ⟨rfl, rfl⟩))
    (fun os started H enc _ => lifted os started H enc)
end SpaceFirstLaw

/-- The statement. -/
theorem spaceFirst_holds : Rows.SpaceFirstSaid := SpaceFirstLaw.over
#print axioms spaceFirst_holds
end Go.Proofs.Ytcmbkpdefbaakaa
