/-
  Proved: for every text, salt, number and list of rows of bytes the statement MacKeys of layer 3 answers true and leaves its arguments as they were. Conditions beside the statement's own: none; the card ties sha.roundConstants to the pruned copy of the program's text.
-/
import Derived.Test.YtpmdjailpdajkaaDoorCards
import Derived.Test.YtpmdjailpdajkaaDoorTie
import Derived.Test.YtpmdjailpdajkaaDoorMacPre
import Derived.Below
import Derived.ChangeOld
import Derived.Deep.DeepHandedRow
import Derived.Lib.LaidTab
namespace Go.Proofs.YtpmdjailpdajkaaDoor
namespace MacKeysLaw
open Go.ChangeShapes Go.WideShapes Go.ChangeAt Go.RowKit
open Go.ChangeMaps (open_string shut_string)
set_option linter.unusedVariables false

theorem own : ownKnob Tryd.prog.godebug = none := by kernel_rfl
theorem laidOut : laidOutB Tryd.prog = true := by kernel_rfl
theorem gTab : Tryd.prog.globalNamed "deedbox/sha.roundConstants" = some 0 := by kernel_rfl
theorem gTabType : (Tryd.prog.globals[0]?).map (·.type) = some 67 := by kernel_rfl
theorem cellsT : Tryd.prog.cellsOf 67 = 64 := by kernel_rfl
theorem cellsE : Tryd.prog.cellsOf 52 = 1 := by kernel_rfl

/-- What the row's list gives: the constants lie in their variable. -/
theorem table {W : World} (h : laidMetH Tryd.prog Rows.macKeysRow.laid W) : Lib.TabIs Tryd.prog W "deedbox/sha.roundConstants" .u32 (sKs.map fun x => (x.toNat : Int)) :=
  Lib.tabIs_of_head (rest := []) gTab gTabType Tryd.underlying67 Tryd.underlying52 cellsE cellsT h
theorem kon {W : World} (h : laidMetH Tryd.prog Rows.macKeysRow.laid W) : Kon W := fun j v hv => by
  have hj : j < sKs.length := by have := (List.getElem?_eq_some_iff.1 hv).1; rwa [ws_length] at this
  have hc := (table h).cell gTab j (by rw [List.length_map]; exact hj)
  rw [Nat.zero_add, hc, ← hv]
  simp [ws, hj]

set_option maxHeartbeats 4000000 in
theorem walk (a0 : Option Addr) (len0 cap0 : Nat) (l0 : List UInt8) (a1 : Option Addr) (len1 cap1 : Nat) (l1 : List UInt8) (a2 : Int) (a3 : Option Addr) (len3 cap3 : Nat) (l3 : List (List UInt8)) (w : World) (hK : Kon w) (w0 : Bs w a0 len0 cap0 l0) (w1 : Bs w a1 len1 cap1 l1) (w2 : (Lit.int .i64 a2).wf = true) (w3 : Bss w a3 len3 cap3 l3) :
    Calls Tryd.prog 4 #[.slice a0 len0 cap0, .slice a1 len1 cap1, .int .i64 a2, .slice a3 len3 cap3] w fun e w' => e = .returned (.bool true) ∧ Below w.heap.size w w' := by
  have hn := bounds_i64 w2
  have hmax := w3.max
  by_cases h1 : len0 ≤ 300
  · have hb1 : (len0 : Int) ≤ 300 := by omega
    by_cases h2 : len1 ≤ 300
    · have hb2 : (len1 : Int) ≤ 300 := by omega
      go_enter Tryd.func4, Tryd.ntmps4
      go_wp2_with fail
      refine (lShort w w3).mono ?_
      rintro e ww ⟨r, rfl, rfl, hsh⟩
      rcases hsh with rfl | ⟨rfl, h40, htot⟩
      · go_wp2_with fail
        refine (lWorksM w hK).mono ?_
        rintro e wa ⟨rfl, hb⟩
        go_wp2
        go_ret
        exact ⟨rfl, hb⟩
      · by_cases hmid : 700 < a2 ∧ a2 ≤ 8160
        · obtain ⟨g1, g2⟩ := hmid
          go_wp2_with fail
          refine (lWorksM w hK).mono ?_
          rintro e wa ⟨rfl, hb⟩
          go_wp2
          go_ret
          exact ⟨rfl, hb⟩
        · have HT : Hid (l3.flatten.length ≤ 6000) := by show _ ≤ _; rw [tot_flatten]; exact htot
          have CJ : Hid (Calls Tryd.prog 12 #[.slice a3 len3 cap3] w fun e w' => ∃ a m c, e = .returned (.slice a m c) ∧ Bs w' a m c l3.flatten ∧ Below w.heap.size w w') := rJoinG w w3 (by omega)
          have CX : Hid (∀ w : World, Kon w → Bs w a1 len1 cap1 l1 → Bs w a0 len0 cap0 l0 → Calls Tryd.prog 13 #[.slice a1 len1 cap1, .slice a0 len0 cap0] w fun e w' => ∃ g, e = .returned (.slice (some ⟨g, 0, none⟩) 32 32) ∧ Bs w' (some ⟨g, 0, none⟩) 32 32 (macL l1 l0) ∧ Below w.heap.size w w') := fun w hK h h' => oExtract w hK h (by omega) h' (by omega)
          have CY : Hid (∀ w : World, Bs w a1 len1 cap1 l1 → Bs w a0 len0 cap0 l0 → Calls Tryd.prog 11 #[.slice a1 len1 cap1, .slice a0 len0 cap0] w (Gives w (macL l1 l0))) := fun w h h' => rOf w h (by omega) h' (by omega)
          have CE : Hid (∀ w : World, Kon w → Bs w a0 len0 cap0 l0 → Bss w a3 len3 cap3 l3 → Calls Tryd.prog 14 #[.slice a0 len0 cap0, .int .i64 a2, .slice a3 len3 cap3] w fun e w' => ∃ a' m' c', e = .returned (.slice a' m' c') ∧ Bs w' a' m' c' (expI l0 l3.flatten a2) ∧ Below w.heap.size w w') := fun w hK h h' => oExpand w hK h (by omega) a2 (by omega) (by omega) h' (by omega) (by omega)
          have CF : Hid (∀ (w : World) (a : Option Addr) (m c : Nat), m ≤ 400 → Bs w a0 len0 cap0 l0 → Bs w a m c l3.flatten → Calls Tryd.prog 15 #[.slice a0 len0 cap0, .int .i64 a2, .slice a m c] w fun e w' => ∃ a' m' c', e = .returned (.slice a' m' c') ∧ Bs w' a' m' c' (expI l0 l3.flatten a2) ∧ Below w.heap.size w w') := fun w a m c hm h h' => rExpand w h (by omega) a2 (by omega) (by omega) h' (by omega)
          have CD : Hid (∀ w : World, Kon w → Bs w a0 len0 cap0 l0 → Bs w a1 len1 cap1 l1 → Bss w a3 len3 cap3 l3 → Calls Tryd.prog 16 #[.slice a0 len0 cap0, .slice a1 len1 cap1, .int .i64 a2, .slice a3 len3 cap3] w fun e w' => ∃ a' m' c', e = .returned (.slice a' m' c') ∧ Bs w' a' m' c' (expI (macL l1 l0) l3.flatten a2) ∧ Below w.heap.size w w') := fun w hK h h' h'' => oDerive w hK h (by omega) h' (by omega) a2 (by omega) (by omega) h'' (by omega) (by omega)
          have CG : Hid (∀ (w : World) (a : Option Addr) (m c : Nat), m ≤ 400 → Bs w a0 len0 cap0 l0 → Bs w a1 len1 cap1 l1 → Bs w a m c l3.flatten → Calls Tryd.prog 17 #[.slice a0 len0 cap0, .slice a1 len1 cap1, .int .i64 a2, .slice a m c] w fun e w' => ∃ a' m' c', e = .returned (.slice a' m' c') ∧ Bs w' a' m' c' (expI (macL l1 l0) l3.flatten a2) ∧ Below w.heap.size w w') := fun w a m c hm h h' h'' => rDerive w h (by omega) h' (by omega) a2 (by omega) (by omega) h'' (by omega)
          generalize expI (macL l1 l0) l3.flatten a2 = X3 at *
          generalize expI l0 l3.flatten a2 = X2 at *
          generalize macL l1 l0 = X1 at *
          by_cases g1 : 700 < a2
          · have g2 : ¬ a2 ≤ 8160 := by omega
            clear hmid
            go_wp2_with fail
            refine CJ.out.mono ?_
            rintro e wa ⟨aj, mj, cj, rfl, hBj, qa⟩
            have hlj := hBj.len
            by_cases h4 : mj ≤ 400
            · have h4i : (mj : Int) ≤ 400 := by omega
              clear hlj
              go_wp2_with fail
              refine (CX.out wa (hK.below qa hK.lt) (w1.below qa (Nat.le_refl _)) (w0.below qa (Nat.le_refl _))).mono ?_
              rintro e wb ⟨gb, rfl, hBb, hbb⟩
              have qb := qa.trans (hbb.mono qa.size)
              go_wp2_with fail
              refine (CY.out wb (w1.below qb (Nat.le_refl _)) (w0.below qb (Nat.le_refl _))).mono ?_
              rintro e wc ⟨ac, mc, cc, rfl, hoc, hbc⟩
              have qc := qb.trans (hbc.mono qb.size)
              go_wp2_with fail
              refine (sameT wc (hBb.below hbc (Nat.le_refl _)) hoc.toBs).mono ?_
              rintro e wd ⟨rfl, hbd⟩
              have qd := qc.trans (hbd.mono qc.size)
              go_wp2_with fail
              refine (CE.out wd (hK.below qd hK.lt) (w0.below qd (Nat.le_refl _)) (w3.below qd (Nat.le_refl _))).mono ?_
              rintro e we ⟨ae, me, ce, rfl, hBe, hbe⟩
              have qe := qd.trans (hbe.mono qd.size)
              have hBj2 := ((((hBj.below hbb (Nat.le_refl _)).below hbc (Nat.le_refl _)).below hbd (Nat.le_refl _)).below hbe (Nat.le_refl _))
              go_wp2_with fail
              refine (CF.out we aj mj cj h4 (w0.below qe (Nat.le_refl _)) hBj2).mono ?_
              rintro e wf ⟨af, mf, cf, rfl, hBf, hbf⟩
              have qf := qe.trans (hbf.mono qe.size)
              go_wp2_with fail
              refine (sameT wf (hBe.below hbf (Nat.le_refl _)) hBf).mono ?_
              rintro e wg ⟨rfl, hbg⟩
              have qg := qf.trans (hbg.mono qf.size)
              go_wp2_with fail
              refine (CD.out wg (hK.below qg hK.lt) (w0.below qg (Nat.le_refl _)) (w1.below qg (Nat.le_refl _)) (w3.below qg (Nat.le_refl _))).mono ?_
              rintro e wh ⟨ah, mh, ch, rfl, hBh, hbh⟩
              have qh := qg.trans (hbh.mono qg.size)
              have hBj3 := ((hBj2.below hbf (Nat.le_refl _)).below hbg (Nat.le_refl _)).below hbh (Nat.le_refl _)
              go_wp2_with fail
              refine (CG.out wh aj mj cj h4 (w0.below qh (Nat.le_refl _)) (w1.below qh (Nat.le_refl _)) hBj3).mono ?_
              rintro e wi ⟨ai, mi, ci, rfl, hBi, hbi⟩
              have qi := qh.trans (hbi.mono qh.size)
              go_wp2_with fail
              refine (sameT wi (hBh.below hbi (Nat.le_refl _)) hBi).mono ?_
              rintro e wj ⟨rfl, hbj⟩
              have qj := qi.trans (hbj.mono qi.size)
              go_wp2_with fail
              refine (lWorksM wj (hK.below qj hK.lt)).mono ?_
              rintro e wk ⟨rfl, hbk⟩
              go_wp2
              go_ret
              exact ⟨rfl, qj.trans (hbk.mono qj.size)⟩
            · have h4i : (400 : Int) < (mj : Int) := by omega
              go_wp2_with fail
              refine (lWorksM wa (hK.below qa hK.lt)).mono ?_
              rintro e wk ⟨rfl, hbk⟩
              go_wp2
              go_ret
              exact ⟨rfl, qa.trans (hbk.mono qa.size)⟩
          · clear hmid
            go_wp2_with fail
            refine CJ.out.mono ?_
            rintro e wa ⟨aj, mj, cj, rfl, hBj, qa⟩
            have hlj := hBj.len
            by_cases h4 : mj ≤ 400
            · have h4i : (mj : Int) ≤ 400 := by omega
              clear hlj
              go_wp2_with fail
              refine (CX.out wa (hK.below qa hK.lt) (w1.below qa (Nat.le_refl _)) (w0.below qa (Nat.le_refl _))).mono ?_
              rintro e wb ⟨gb, rfl, hBb, hbb⟩
              have qb := qa.trans (hbb.mono qa.size)
              go_wp2_with fail
              refine (CY.out wb (w1.below qb (Nat.le_refl _)) (w0.below qb (Nat.le_refl _))).mono ?_
              rintro e wc ⟨ac, mc, cc, rfl, hoc, hbc⟩
              have qc := qb.trans (hbc.mono qb.size)
              go_wp2_with fail
              refine (sameT wc (hBb.below hbc (Nat.le_refl _)) hoc.toBs).mono ?_
              rintro e wd ⟨rfl, hbd⟩
              have qd := qc.trans (hbd.mono qc.size)
              go_wp2_with fail
              refine (CE.out wd (hK.below qd hK.lt) (w0.below qd (Nat.le_refl _)) (w3.below qd (Nat.le_refl _))).mono ?_
              rintro e we ⟨ae, me, ce, rfl, hBe, hbe⟩
              have qe := qd.trans (hbe.mono qd.size)
              have hBj2 := ((((hBj.below hbb (Nat.le_refl _)).below hbc (Nat.le_refl _)).below hbd (Nat.le_refl _)).below hbe (Nat.le_refl _))
              go_wp2_with fail
              refine (CF.out we aj mj cj h4 (w0.below qe (Nat.le_refl _)) hBj2).mono ?_
              rintro e wf ⟨af, mf, cf, rfl, hBf, hbf⟩
              have qf := qe.trans (hbf.mono qe.size)
              go_wp2_with fail
              refine (sameT wf (hBe.below hbf (Nat.le_refl _)) hBf).mono ?_
              rintro e wg ⟨rfl, hbg⟩
              have qg := qf.trans (hbg.mono qf.size)
              go_wp2_with fail
              refine (CD.out wg (hK.below qg hK.lt) (w0.below qg (Nat.le_refl _)) (w1.below qg (Nat.le_refl _)) (w3.below qg (Nat.le_refl _))).mono ?_
              rintro e wh ⟨ah, mh, ch, rfl, hBh, hbh⟩
              have qh := qg.trans (hbh.mono qg.size)
              have hBj3 := ((hBj2.below hbf (Nat.le_refl _)).below hbg (Nat.le_refl _)).below hbh (Nat.le_refl _)
              go_wp2_with fail
              refine (CG.out wh aj mj cj h4 (w0.below qh (Nat.le_refl _)) (w1.below qh (Nat.le_refl _)) hBj3).mono ?_
              rintro e wi ⟨ai, mi, ci, rfl, hBi, hbi⟩
              have qi := qh.trans (hbi.mono qh.size)
              go_wp2_with fail
              refine (sameT wi (hBh.below hbi (Nat.le_refl _)) hBi).mono ?_
              rintro e wj ⟨rfl, hbj⟩
              have qj := qi.trans (hbj.mono qi.size)
              go_wp2_with fail
              refine (lWorksM wj (hK.below qj hK.lt)).mono ?_
              rintro e wk ⟨rfl, hbk⟩
              go_wp2
              go_ret
              exact ⟨rfl, qj.trans (hbk.mono qj.size)⟩
            · have h4i : (400 : Int) < (mj : Int) := by omega
              go_wp2_with fail
              refine (lWorksM wa (hK.below qa hK.lt)).mono ?_
              rintro e wk ⟨rfl, hbk⟩
              go_wp2
              go_ret
              exact ⟨rfl, qa.trans (hbk.mono qa.size)⟩
    · have hb2 : (300 : Int) < (len1 : Int) := by omega
      go_enter Tryd.func4, Tryd.ntmps4
      go_wp2_with fail
      refine (lWorksM w hK).mono ?_
      rintro e wa ⟨rfl, hb⟩
      go_wp2
      go_ret
      exact ⟨rfl, hb⟩
  · have hb1 : (300 : Int) < (len0 : Int) := by omega
    go_enter Tryd.func4, Tryd.ntmps4
    go_wp2_with fail
    refine (lWorksM w hK).mono ?_
    rintro e wa ⟨rfl, hb⟩
    go_wp2
    go_ret
    exact ⟨rfl, hb⟩

theorem contract (H : Type) (enc : TypeId × Value → H) (W : World) (base : Nat) (args : Array Value) (ds gs : List (DataW H)) (before : List MemPlace)
    (hval0 : ∀ (j : Nat) t v, Tryd.f4.params[j]? = some t → args[j]? = some v → Value.okWide Tryd.prog W .any base t v)
    (hW : DataW.Whole enc Tryd.prog Tryd.f4.params.toList Rows.macKeysSpec.vars false W args.toList ds gs before) (hL : laidMetH Tryd.prog Rows.macKeysRow.laid W) :
    Calls Tryd.prog 4 args W fun e W' => ∃ v, e = .returned v ∧ Rows.macKeysSpec.post enc Tryd.prog Tryd.f4 false true false false W args v W' := by
  have hval : ∀ (j : Nat) t v, Tryd.f4.params[j]? = some t → args[j]? = some v → Value.okWide Tryd.prog W .any base t v := hval0
  have hW' := hW
  obtain ⟨p, q, hA0, hV, rfl, hfz, hnd⟩ := hW
  have hA : DataW.TrodAll enc Tryd.prog W 0 (fun _ => true) true Tryd.f4.params.toList args.toList ds p := hA0
  rw [Tryd.params4] at hA hval
  obtain ⟨v0, vs0, d0, ds0, p0, q0, hargs, rfl, rfl, h0, r0⟩ := trodAll_cons hA
  obtain ⟨v1, vs1, d1, ds1, p1, q1, rfl, rfl, rfl, h1, r1⟩ := trodAll_cons r0
  obtain ⟨v2, vs2, d2, ds2, p2, q2, rfl, rfl, rfl, h2, r2⟩ := trodAll_cons r1
  obtain ⟨v3, vs3, d3, ds3, p3, q3, rfl, rfl, rfl, h3, r3⟩ := trodAll_cons r2
  obtain ⟨rfl, rfl, rfl⟩ := trodAll_nil r3
  obtain rfl : args = #[v0, v1, v2, v3] := by cases args; simp_all
  obtain ⟨rfl, rfl⟩ := trodVars_none hV
  obtain ⟨a0, len0, cap0, rfl⟩ := okWide_slice Tryd.underlying22 (hval 0 22 v0 rfl rfl)
  have k0 := h0
  have lt0 : ∀ x ∈ p0, x.block < W.heap.size := by obtain ⟨m, hm⟩ := k0; exact DataW.trod_lt m _ _ _ hm
  obtain ⟨l0, w0⟩ : ∃ l, Bs W a0 len0 cap0 l := by
    obtain ⟨fuel, hf⟩ := h0
    exact Bs.of_trod hf
  obtain ⟨a1, len1, cap1, rfl⟩ := okWide_slice Tryd.underlying22 (hval 1 22 v1 rfl rfl)
  have k1 := h1
  have lt1 : ∀ x ∈ p1, x.block < W.heap.size := by obtain ⟨m, hm⟩ := k1; exact DataW.trod_lt m _ _ _ hm
  obtain ⟨l1, w1⟩ : ∃ l, Bs W a1 len1 cap1 l := by
    obtain ⟨fuel, hf⟩ := h1
    exact Bs.of_trod hf
  obtain ⟨a2, rfl, rfl, rfl, w2⟩ := open_int Tryd.underlying3 (hval 2 3 v2 rfl rfl) h2
  obtain ⟨a3, len3, cap3, rfl⟩ := okWide_slice Tryd.underlying23 (hval 3 23 v3 rfl rfl)
  have k3 := h3
  have lt3 : ∀ x ∈ p3, x.block < W.heap.size := by obtain ⟨m, hm⟩ := k3; exact DataW.trod_lt m _ _ _ hm
  obtain ⟨l3, w3⟩ : ∃ l, Bss W a3 len3 cap3 l := by
    obtain ⟨fuel, hf⟩ := h3
    exact Bss.of_trod hf
  clear hA0 hval0
  refine (walk a0 len0 cap0 l0 a1 len1 cap1 l1 a2 a3 len3 cap3 l3 W (kon hL) w0 w1 w2 w3).mono fun e W' ⟨he, bel⟩ => ?_
  subst he
  exact ⟨_, rfl, _, _, _, [], _, [], hW', trodAll_mk1 (shut_bool Tryd.underlying4 _), (trodAll_cons_mk (Below.trod laidOut (by kernel_rfl) (of_decide_eq_true (by kernel_rfl)) k0 bel lt0) (trodAll_cons_mk (Below.trod laidOut (by kernel_rfl) (of_decide_eq_true (by kernel_rfl)) k1 bel lt1) (trodAll_cons_mk (shut_int Tryd.underlying3 w2) (trodAll_cons_mk (Below.trod laidOut (by kernel_rfl) (of_decide_eq_true (by kernel_rfl)) k3 bel lt3) trodAll_mk0)))), rfl, bel.frame _, fun h => by cases h⟩

/-- A world for the witness: the settled one, the constants as their initialiser lays them. -/
noncomputable def laidWorld (os : Os) : World :=
  { World.holding Tryd.prog os ⟨#[], #[], []⟩ with heap := (World.holding Tryd.prog os ⟨#[], #[], []⟩).heap.modify 0 fun
      | .cells _ t frozen => .cells (ws sKs).toArray t frozen
      | o => o }
set_option maxRecDepth 100000 in
theorem laid_met (os : Os) : laidMet Tryd.prog Rows.macKeysRow.laid ((laidWorld os).forCall (fun _ _ => 0) ⟨#[], #[.slice none 0 0, .slice none 0 0, .int .i64 0, .slice none 0 0], []⟩).memory :=
  laidMet_of_run' 8 (by kernel_rfl) (by kernel_rfl)
set_option maxRecDepth 100000 in
theorem reads (os : Os) {H : Type} (enc : TypeId × Value → H) : ∃ places, DataW.whole enc Tryd.prog ((laidWorld os).forCall (fun _ _ => 0) ⟨#[], #[.slice none 0 0, .slice none 0 0, .int .i64 0, .slice none 0 0], []⟩).memory Tryd.f4.params.toList Rows.macKeysSpec.vars false (#[.slice none 0 0, .slice none 0 0, .int .i64 0, .slice none 0 0] : Array Value).toList 8 = some ([.nil, .nil, .lit (.int .i64 0), .nil], [], places) :=
  ⟨[], by kernel_rfl⟩

set_option maxRecDepth 100000 in
theorem lifted (os : Os) (started : os.Started) (H : Type) (enc : TypeId × Value → H) (F : Stop.Interp) :
    ReturnsInHanded {} Tryd.checked os 4 .any ((OpenSpec.ofChange Rows.macKeysSpec).preRow enc Tryd.prog Tryd.f4 Rows.macKeysRow.domain false Rows.macKeysRow.laid) (((OpenSpec.ofChange Rows.macKeysSpec).at F).post enc Tryd.prog Tryd.f4 false true false false) := by
  obtain ⟨places, hx⟩ := reads os enc
  refine returnsInHanded_of_row (C := Tryd.checked) (s := OpenSpec.ofChange Rows.macKeysSpec) own started (by kernel_rfl) Tryd.func4
    (witness_row_at (enc := enc) (C := Tryd.checked) false (laidWorld os) #[.slice none 0 0, .slice none 0 0, .int .i64 0, .slice none 0 0] rfl (by kernel_rfl) (by kernel_rfl) (by kernel_rfl)
      (OpenSpec.preRow_of_cond 8 hx (by kernel_rfl) (fun k hk => by cases hk) (by kernel_rfl) (laid_met os))) ?_
  intro W base args ds gs before hval hW _ _ _ hL _ _
  exact contract H enc W base args ds gs before hval hW hL

theorem over : Rows.macKeysRow.holds Tryd.pinned (OpenSpec.ofChange Rows.macKeysSpec) :=
  OpenClaim.holds_of_cond 4 Tryd.f4 rfl rfl rfl rfl rfl rfl rfl ⟨rfl, rfl, rfl, rfl, rfl⟩ rfl rfl rfl rfl rfl (by kernel_rfl) Tryd.func4 (by kernel_rfl)
    (of_decide_eq_true (by kernel_rfl)) (by unfold Func.isWrapper; first | (rw [if_pos (by decide +kernel)]; kernel_rfl) | (rw [if_neg (by decide +kernel)]; exact ⟨rfl, rfl⟩))
    (fun os started H enc _ F => by rw [OpenClaim.pre_eq_preRow]; exact lifted os started H enc F)

/-- No parameter wants a stand-in. -/
theorem plain (f : FuncId) (fn : Func) (hf : Tryd.pinned.checked.prog.funcNamed "deedbox/deedboxlaw03.MacKeys" = some f) (hfn : Tryd.pinned.checked.prog.funcs[f]? = some fn) :
    false = Tryd.pinned.checked.prog.looks [] ∧ ∀ (j : Nat) t, fn.params[j]? = some t → Tryd.pinned.checked.prog.wantsStandIn t = false := by
  obtain rfl : f = 4 := Option.some.inj ((show Tryd.prog.funcNamed "deedbox/deedboxlaw03.MacKeys" = some 4 by kernel_rfl).symm.trans hf) |>.symm
  obtain rfl : fn = Tryd.f4 := (Option.some.inj (Tryd.func4.symm.trans hfn)).symm
  refine ⟨by kernel_rfl, fun j t ht => ?_⟩
  rw [Tryd.params4] at ht
  have hm := Array.mem_of_getElem? ht
  simp only [List.mem_toArray, List.mem_cons, List.not_mem_nil, or_false] at hm
  rcases hm with rfl | rfl | rfl | rfl
  · exact (show Tryd.prog.wantsStandIn 22 = false by kernel_rfl)
  · exact (show Tryd.prog.wantsStandIn 22 = false by kernel_rfl)
  · exact (show Tryd.prog.wantsStandIn 3 = false by kernel_rfl)
  · exact (show Tryd.prog.wantsStandIn 23 = false by kernel_rfl)
end MacKeysLaw

/-- The statement: the card. -/
theorem macKeys_holds : Rows.MacKeysCardSaid :=
  Claim7.holds_tied_plain_at .later [] _ _ _ _ MacKeysLaw.over (fun _ h => by cases h) (by kernel_rfl) (fun _ h => by cases h) macKeys_row_tie rfl ⟨rfl, rfl⟩ (by kernel_rfl) rfl MacKeysLaw.plain (by kernel_rfl)
#print axioms macKeys_holds
end Go.Proofs.YtpmdjailpdajkaaDoor
