/-
  Proved: for every key, number of noughts and text the statement MacLong of layer 3 answers true and leaves its arguments as they were. Conditions beside the statement's own: none; the card ties sha.roundConstants to the pruned copy of the program's text.
-/
import Derived.Test.YtpmdjailpdajkaaDoorCards
import Derived.Test.YtpmdjailpdajkaaDoorTie
import Derived.Test.YtpmdjailpdajkaaDoorMacPre
import Derived.Test.YtpmdjailpdajkaaDoorAppZ
import Derived.Below
import Derived.ChangeOld
import Derived.Deep.DeepHandedRow
import Derived.Lib.LaidTab
namespace Go.Proofs.YtpmdjailpdajkaaDoor
namespace MacLongLaw
open Go.ChangeShapes Go.WideShapes Go.ChangeAt Go.RowKit
open Go.ChangeMaps (open_string shut_string)
set_option linter.unusedVariables false

theorem own : ownKnob Tryd.prog.godebug = none := by kernel_rfl
theorem laidOut : laidOutB Tryd.prog = true := by kernel_rfl
theorem gTab : Tryd.prog.globalNamed "deedbox/sha.roundConstants" = some 0 := by kernel_rfl
theorem gTabType : (Tryd.prog.globals[0]?).map (·.type) = some 67 := by kernel_rfl
theorem cellsT : Tryd.prog.cellsOf 67 = 64 := by kernel_rfl
theorem cellsE : Tryd.prog.cellsOf 52 = 1 := by kernel_rfl

/-- What the row's list gives: the constants lie in their variable. -/
theorem table {W : World} (h : laidMetH Tryd.prog Rows.macLongRow.laid W) : Lib.TabIs Tryd.prog W "deedbox/sha.roundConstants" .u32 (sKs.map fun x => (x.toNat : Int)) :=
  Lib.tabIs_of_head (rest := []) gTab gTabType Tryd.underlying67 Tryd.underlying52 cellsE cellsT h
theorem kon {W : World} (h : laidMetH Tryd.prog Rows.macLongRow.laid W) : Kon W := fun j v hv => by
  have hj : j < sKs.length := by have := (List.getElem?_eq_some_iff.1 hv).1; rwa [ws_length] at this
  have hc := (table h).cell gTab j (by rw [List.length_map]; exact hj)
  rw [Nat.zero_add, hc, ← hv]
  simp [ws, hj]

set_option maxHeartbeats 4000000 in
theorem walk (a0 : Option Addr) (len0 cap0 : Nat) (l0 : List UInt8) (a1 : Int) (a2 : Option Addr) (len2 cap2 : Nat) (l2 : List UInt8) (w : World) (hK : Kon w) (w0 : Bs w a0 len0 cap0 l0) (w1 : (Lit.int .u8 a1).wf = true) (w2 : Bs w a2 len2 cap2 l2) :
    Calls Tryd.prog 6 #[.slice a0 len0 cap0, .int .u8 a1, .slice a2 len2 cap2] w fun e w' => e = .returned (.bool true) ∧ Below w.heap.size w w' := by
  have n0 := bounds_u8 w1
  by_cases h1 : len0 ≤ 300
  · have hb1 : (len0 : Int) ≤ 300 := by omega
    by_cases h2 : len2 ≤ 300
    · have hb2 : (len2 : Int) ≤ 300 := by omega
      obtain ⟨M, hM⟩ : ∃ M, M = macL l0 l2 := ⟨_, rfl⟩
      have HML : Hid (M.length = 32) := by show _ = _; rw [hM]; exact macL_length _ _
      have HO : Hid ((cs M).length = 32) := by show _ = _; rw [cs_length]; exact HML.out
      have hl0 := w0.len
      have C1 : Hid (Calls Tryd.prog 9 #[.slice a0 len0 cap0, .slice (some ⟨w.heap.size, 0, none⟩) 1 1] (w.alloc (.cells #[.slice a2 len2 cap2] 22)) fun e w' => e = .returned (.agg (cs M).toArray) ∧ Below w.heap.size w w') := by rw [hM]; exact oMac1 w hK w0 (by omega) w2 (by omega)
      have heq := eqM M HML.out
      by_cases h3 : len0 ≤ 64
      · have hb3 : (len0 : Int) ≤ 64 := by omega
        obtain ⟨z, rfl⟩ : ∃ z : Nat, a1 = (z : Int) := ⟨a1.toNat, by omega⟩
        obtain ⟨k, hk⟩ : ∃ k, k = z % (65 - len0) := ⟨_, rfl⟩
        have hk1 : k ≤ 64 - len0 := by have := Nat.mod_lt z (show 0 < 65 - len0 by omega); omega
        have hki : (z : Int).tmod (65 - (len0 : Int)) = (k : Int) := by
          rw [Int.tmod_eq_emod_of_nonneg (by omega), show (65 : Int) - (len0 : Int) = ((65 - len0 : Nat) : Int) from by omega, hk]
          omega
        have hki2 : (z : Int) % (65 - (len0 : Int)) = (k : Int) := by
          rw [show (65 : Int) - (len0 : Int) = ((65 - len0 : Nat) : Int) from by omega, hk]
          omega
        have hnz : ¬ (65 : Int) - (len0 : Int) = 0 := by omega
        have hnz2 : ((65 : Int) - (len0 : Int) == 0) = false := by simpa using hnz
        have C2 : Hid (∀ (w : World) (a : Option Addr) (m c : Nat), Kon w → Bs w a m c (l0 ++ List.replicate k 0) → Bs w a2 len2 cap2 l2 → Calls Tryd.prog 9 #[.slice a m c, .slice (some ⟨w.heap.size, 0, none⟩) 1 1] (w.alloc (.cells #[.slice a2 len2 cap2] 22)) fun e w' => e = .returned (.agg (cs M).toArray) ∧ Below w.heap.size w w') := fun w a m c hK h h' => by
          have e := mac_zeros (key := l0) (n := k) (by omega) l2
          rw [hM, ← e]
          exact oMac1 w hK h (by have := h.len; simp at this; omega) h' (by omega)
        clear hM hk
        go_enter Tryd.func6, Tryd.ntmps6
        go_wp2_with fail
        refine C1.out.mono ?_
        rintro e wa ⟨rfl, hba⟩
        go_wp2_with (first
          | (with_reducible refine at_st 26 ?_; refine st' 26 (.tmp 7) (.tmp 23) 32 size24 wa.heap.size 0 _ HO.out cs_one ((Blk.new wa z24 26).there 0 32 (by decide)) rfl rfl ?_; intro wb hwb
             have bb : Blk wb wa.heap.size (cs M) 26 := by rw [hwb]; exact (Blk.new wa z24 26).setsW _ (by rw [HO.out]; rfl)
             have qb : Below w.heap.size w wb := by rw [hwb]; exact below_sets hba.size _ (hba.alloc hba.size _) 0
             clear hwb)
          | (at_builtin; refine wpList_appG (wb.alloc (.cells #[] 5)) rfl (.tmp 44) (.tmp 45) rfl wb.heap.size (.slice (some ⟨wb.heap.size, 0, none⟩) 0 0) [] rfl (own_lit0 wb) a0 len0 cap0 l0 rfl (w0.below (qb.alloc qb.size _) (Nat.le_refl _)) (by rw [List.length_nil]; omega) (by simp) ?_; intro v2 wc hoc hgc; rw [List.nil_append] at hoc; have hbc : Below wb.heap.size wb wc := (below_alloc wb (.cells #[] 5)).grown hgc (by simp) (fun k hk => by simp [Value.ownBlock] at hk; omega))
          | (at_builtin; go_must (refine wpList_zapp wc rfl (.tmp 46) (.tmp 47) rfl wb.heap.size v2 l0 rfl hoc k rfl (by omega) hbc.size ?_); intro v3 wd hod hgd; have hbd : Below wb.heap.size wb wd := hbc.grown hgd hbc.size (fun k hk => hoc.size k hk); obtain ⟨a3, m3, c3, rfl, hB3⟩ := hod.bs3))
        have qd := qb.trans (hbd.mono qb.size)
        refine (C2.out wd a3 m3 c3 (hK.below qd hK.lt) hB3 (w2.below qd (Nat.le_refl _))).mono ?_
        rintro e wf ⟨rfl, hbf⟩
        have qf := qd.trans (hbf.mono qd.size)
        have bf := (bb.below hbd bb.lt).below hbf (Nat.lt_of_lt_of_le bb.lt hbd.size)
        go_wp2_with (first
          | (with_reducible refine at_st 26 ?_; refine st' 26 (.tmp 10) (.tmp 51) 32 size24 wf.heap.size 0 _ HO.out cs_one ((Blk.new wf z24 26).there 0 32 (by decide)) rfl rfl ?_; intro wg hwg
             have bg : Blk wg wf.heap.size (cs M) 26 := by rw [hwg]; exact (Blk.new wf z24 26).setsW _ (by rw [HO.out]; rfl)
             have hbg : Below wf.heap.size wf wg := by rw [hwg]; exact below_sets (Nat.le_refl _) _ (below_alloc _ _) 0
             clear hwg
             have qg := qf.trans (hbg.mono qf.size)
             have b7 := bf.below hbg bf.lt)
          | (with_reducible refine at_ld 26 ?_; refine ld 26 (.tmp 7) 32 size24 _ Tryd.underlying26 rfl wa.heap.size 0 _ HO.out b7.whole rfl ?_)
          | (with_reducible refine at_ld 26 ?_; refine ld 26 (.tmp 10) 32 size24 _ Tryd.underlying26 rfl wf.heap.size 0 _ HO.out bg.whole rfl ?_)
          | (go_at_call 8; go_must (refine (lWorksM wg (hK.below qg hK.lt)).mono ?_); rintro e wh ⟨rfl, hbh⟩))
        go_ret
        exact ⟨rfl, qg.trans (hbh.mono qg.size)⟩
      · have hb3 : (64 : Int) < (len0 : Int) := by omega
        have C2 : Hid (∀ (w : World) (a : Option Addr) (m c : Nat), Kon w → Bs w a m c (sumL l0) → Bs w a2 len2 cap2 l2 → Calls Tryd.prog 9 #[.slice a m c, .slice (some ⟨w.heap.size, 0, none⟩) 1 1] (w.alloc (.cells #[.slice a2 len2 cap2] 22)) fun e w' => e = .returned (.agg (cs M).toArray) ∧ Below w.heap.size w w') := fun w a m c hK h h' => by
          have e := mac_long (key := l0) (by omega) l2
          rw [hM, ← e]
          exact oMac1 w hK h (by have := h.len; rw [sumL_length] at this; omega) h' (by omega)
        clear hM
        go_enter Tryd.func6, Tryd.ntmps6
        go_wp2_with fail
        refine C1.out.mono ?_
        rintro e wa ⟨rfl, hba⟩
        go_wp2_with (first
          | (with_reducible refine at_st 26 ?_; refine st' 26 (.tmp 7) (.tmp 23) 32 size24 wa.heap.size 0 _ HO.out cs_one ((Blk.new wa z24 26).there 0 32 (by decide)) rfl rfl ?_; intro wb hwb
             have bb : Blk wb wa.heap.size (cs M) 26 := by rw [hwb]; exact (Blk.new wa z24 26).setsW _ (by rw [HO.out]; rfl)
             have qb : Below w.heap.size w wb := by rw [hwb]; exact below_sets hba.size _ (hba.alloc hba.size _) 0
             clear hwb))
        refine (rSum wb (w0.below qb (Nat.le_refl _)) (by omega)).mono ?_
        rintro e wd ⟨a3, m3, c3, rfl, hod, hbd⟩
        have qd := qb.trans (hbd.mono qb.size)
        have hB3 := hod.toBs
        go_wp2_with fail
        refine (C2.out wd a3 m3 c3 (hK.below qd hK.lt) hB3 (w2.below qd (Nat.le_refl _))).mono ?_
        rintro e wf ⟨rfl, hbf⟩
        have qf := qd.trans (hbf.mono qd.size)
        have bf := (bb.below hbd bb.lt).below hbf (Nat.lt_of_lt_of_le bb.lt hbd.size)
        go_wp2_with (first
          | (with_reducible refine at_st 26 ?_; refine st' 26 (.tmp 8) (.tmp 31) 32 size24 wf.heap.size 0 _ HO.out cs_one ((Blk.new wf z24 26).there 0 32 (by decide)) rfl rfl ?_; intro wg hwg
             have bg : Blk wg wf.heap.size (cs M) 26 := by rw [hwg]; exact (Blk.new wf z24 26).setsW _ (by rw [HO.out]; rfl)
             have hbg : Below wf.heap.size wf wg := by rw [hwg]; exact below_sets (Nat.le_refl _) _ (below_alloc _ _) 0
             clear hwg
             have qg := qf.trans (hbg.mono qf.size)
             have b7 := bf.below hbg bf.lt)
          | (with_reducible refine at_ld 26 ?_; refine ld 26 (.tmp 7) 32 size24 _ Tryd.underlying26 rfl wa.heap.size 0 _ HO.out b7.whole rfl ?_)
          | (with_reducible refine at_ld 26 ?_; refine ld 26 (.tmp 8) 32 size24 _ Tryd.underlying26 rfl wf.heap.size 0 _ HO.out bg.whole rfl ?_)
          | (go_at_call 8; go_must (refine (lWorksM wg (hK.below qg hK.lt)).mono ?_); rintro e wh ⟨rfl, hbh⟩))
        go_ret
        exact ⟨rfl, qg.trans (hbh.mono qg.size)⟩
    · have hb2 : (300 : Int) < (len2 : Int) := by omega
      go_enter Tryd.func6, Tryd.ntmps6
      go_wp2_with fail
      refine (lWorksM w hK).mono ?_
      rintro e wa ⟨rfl, hb⟩
      go_wp2
      go_ret
      exact ⟨rfl, hb⟩
  · have hb1 : (300 : Int) < (len0 : Int) := by omega
    go_enter Tryd.func6, Tryd.ntmps6
    go_wp2_with fail
    refine (lWorksM w hK).mono ?_
    rintro e wa ⟨rfl, hb⟩
    go_wp2
    go_ret
    exact ⟨rfl, hb⟩

theorem contract (H : Type) (enc : TypeId × Value → H) (W : World) (base : Nat) (args : Array Value) (ds gs : List (DataW H)) (before : List MemPlace)
    (hval0 : ∀ (j : Nat) t v, Tryd.f6.params[j]? = some t → args[j]? = some v → Value.okWide Tryd.prog W .any base t v)
    (hW : DataW.Whole enc Tryd.prog Tryd.f6.params.toList Rows.macLongSpec.vars false W args.toList ds gs before) (hL : laidMetH Tryd.prog Rows.macLongRow.laid W) :
    Calls Tryd.prog 6 args W fun e W' => ∃ v, e = .returned v ∧ Rows.macLongSpec.post enc Tryd.prog Tryd.f6 false true false false W args v W' := by
  have hval : ∀ (j : Nat) t v, Tryd.f6.params[j]? = some t → args[j]? = some v → Value.okWide Tryd.prog W .any base t v := hval0
  have hW' := hW
  obtain ⟨p, q, hA0, hV, rfl, hfz, hnd⟩ := hW
  have hA : DataW.TrodAll enc Tryd.prog W 0 (fun _ => true) true Tryd.f6.params.toList args.toList ds p := hA0
  rw [Tryd.params6] at hA hval
  obtain ⟨v0, vs0, d0, ds0, p0, q0, hargs, rfl, rfl, h0, r0⟩ := trodAll_cons hA
  obtain ⟨v1, vs1, d1, ds1, p1, q1, rfl, rfl, rfl, h1, r1⟩ := trodAll_cons r0
  obtain ⟨v2, vs2, d2, ds2, p2, q2, rfl, rfl, rfl, h2, r2⟩ := trodAll_cons r1
  obtain ⟨rfl, rfl, rfl⟩ := trodAll_nil r2
  obtain rfl : args = #[v0, v1, v2] := by cases args; simp_all
  obtain ⟨rfl, rfl⟩ := trodVars_none hV
  obtain ⟨a0, len0, cap0, rfl⟩ := okWide_slice Tryd.underlying22 (hval 0 22 v0 rfl rfl)
  have k0 := h0
  have lt0 : ∀ x ∈ p0, x.block < W.heap.size := by obtain ⟨m, hm⟩ := k0; exact DataW.trod_lt m _ _ _ hm
  obtain ⟨l0, w0⟩ : ∃ l, Bs W a0 len0 cap0 l := by
    obtain ⟨fuel, hf⟩ := h0
    exact Bs.of_trod hf
  obtain ⟨a1, rfl, rfl, rfl, w1⟩ := open_int Tryd.underlying5 (hval 1 5 v1 rfl rfl) h1
  obtain ⟨a2, len2, cap2, rfl⟩ := okWide_slice Tryd.underlying22 (hval 2 22 v2 rfl rfl)
  have k2 := h2
  have lt2 : ∀ x ∈ p2, x.block < W.heap.size := by obtain ⟨m, hm⟩ := k2; exact DataW.trod_lt m _ _ _ hm
  obtain ⟨l2, w2⟩ : ∃ l, Bs W a2 len2 cap2 l := by
    obtain ⟨fuel, hf⟩ := h2
    exact Bs.of_trod hf
  clear hA0 hval0
  refine (walk a0 len0 cap0 l0 a1 a2 len2 cap2 l2 W (kon hL) w0 w1 w2).mono fun e W' ⟨he, bel⟩ => ?_
  subst he
  exact ⟨_, rfl, _, _, _, [], _, [], hW', trodAll_mk1 (shut_bool Tryd.underlying4 _), (trodAll_cons_mk (Below.trod laidOut (by kernel_rfl) (of_decide_eq_true (by kernel_rfl)) k0 bel lt0) (trodAll_cons_mk (shut_int Tryd.underlying5 w1) (trodAll_cons_mk (Below.trod laidOut (by kernel_rfl) (of_decide_eq_true (by kernel_rfl)) k2 bel lt2) trodAll_mk0))), rfl, bel.frame _, fun h => by cases h⟩

/-- A world for the witness: the settled one, the constants as their initialiser lays them. -/
noncomputable def laidWorld (os : Os) : World :=
  { World.holding Tryd.prog os ⟨#[], #[], []⟩ with heap := (World.holding Tryd.prog os ⟨#[], #[], []⟩).heap.modify 0 fun
      | .cells _ t frozen => .cells (ws sKs).toArray t frozen
      | o => o }
set_option maxRecDepth 100000 in
theorem laid_met (os : Os) : laidMet Tryd.prog Rows.macLongRow.laid ((laidWorld os).forCall (fun _ _ => 0) ⟨#[], #[.slice none 0 0, .int .u8 0, .slice none 0 0], []⟩).memory :=
  laidMet_of_run' 8 (by kernel_rfl) (by kernel_rfl)
set_option maxRecDepth 100000 in
theorem reads (os : Os) {H : Type} (enc : TypeId × Value → H) : ∃ places, DataW.whole enc Tryd.prog ((laidWorld os).forCall (fun _ _ => 0) ⟨#[], #[.slice none 0 0, .int .u8 0, .slice none 0 0], []⟩).memory Tryd.f6.params.toList Rows.macLongSpec.vars false (#[.slice none 0 0, .int .u8 0, .slice none 0 0] : Array Value).toList 8 = some ([.nil, .lit (.int .u8 0), .nil], [], places) :=
  ⟨[], by kernel_rfl⟩

set_option maxRecDepth 100000 in
theorem lifted (os : Os) (started : os.Started) (H : Type) (enc : TypeId × Value → H) (F : Stop.Interp) :
    ReturnsInHanded {} Tryd.checked os 6 .any ((OpenSpec.ofChange Rows.macLongSpec).preRow enc Tryd.prog Tryd.f6 Rows.macLongRow.domain false Rows.macLongRow.laid) (((OpenSpec.ofChange Rows.macLongSpec).at F).post enc Tryd.prog Tryd.f6 false true false false) := by
  obtain ⟨places, hx⟩ := reads os enc
  refine returnsInHanded_of_row (C := Tryd.checked) (s := OpenSpec.ofChange Rows.macLongSpec) own started (by kernel_rfl) Tryd.func6
    (witness_row_at (enc := enc) (C := Tryd.checked) false (laidWorld os) #[.slice none 0 0, .int .u8 0, .slice none 0 0] rfl (by kernel_rfl) (by kernel_rfl) (by kernel_rfl)
      (OpenSpec.preRow_of_cond 8 hx (by kernel_rfl) (fun k hk => by cases hk) (by kernel_rfl) (laid_met os))) ?_
  intro W base args ds gs before hval hW _ _ _ hL _ _
  exact contract H enc W base args ds gs before hval hW hL

theorem over : Rows.macLongRow.holds Tryd.pinned (OpenSpec.ofChange Rows.macLongSpec) :=
  OpenClaim.holds_of_cond 6 Tryd.f6 rfl rfl rfl rfl rfl rfl rfl ⟨rfl, rfl, rfl, rfl, rfl⟩ rfl rfl rfl rfl rfl (by kernel_rfl) Tryd.func6 (by kernel_rfl)
    (of_decide_eq_true (by kernel_rfl)) (by unfold Func.isWrapper; first | (rw [if_pos (by decide +kernel)]; kernel_rfl) | (rw [if_neg (by decide +kernel)]; exact ⟨rfl, rfl⟩))
    (fun os started H enc _ F => by rw [OpenClaim.pre_eq_preRow]; exact lifted os started H enc F)

/-- No parameter wants a stand-in. -/
theorem plain (f : FuncId) (fn : Func) (hf : Tryd.pinned.checked.prog.funcNamed "deedbox/deedboxlaw03.MacLong" = some f) (hfn : Tryd.pinned.checked.prog.funcs[f]? = some fn) :
    false = Tryd.pinned.checked.prog.looks [] ∧ ∀ (j : Nat) t, fn.params[j]? = some t → Tryd.pinned.checked.prog.wantsStandIn t = false := by
  obtain rfl : f = 6 := Option.some.inj ((show Tryd.prog.funcNamed "deedbox/deedboxlaw03.MacLong" = some 6 by kernel_rfl).symm.trans hf) |>.symm
  obtain rfl : fn = Tryd.f6 := (Option.some.inj (Tryd.func6.symm.trans hfn)).symm
  refine ⟨by kernel_rfl, fun j t ht => ?_⟩
  rw [Tryd.params6] at ht
  have hm := Array.mem_of_getElem? ht
  simp only [List.mem_toArray, List.mem_cons, List.not_mem_nil, or_false] at hm
  rcases hm with rfl | rfl | rfl
  · exact (show Tryd.prog.wantsStandIn 22 = false by kernel_rfl)
  · exact (show Tryd.prog.wantsStandIn 5 = false by kernel_rfl)
  · exact (show Tryd.prog.wantsStandIn 22 = false by kernel_rfl)
end MacLongLaw

/-- The statement: the card. -/
theorem macLong_holds : Rows.MacLongCardSaid :=
  Claim7.holds_tied_plain_at .later [] _ _ _ _ MacLongLaw.over (fun _ h => by cases h) (by kernel_rfl) (fun _ h => by cases h) macLong_row_tie rfl ⟨rfl, rfl⟩ (by kernel_rfl) rfl MacLongLaw.plain (by kernel_rfl)
#print axioms macLong_holds
end Go.Proofs.YtpmdjailpdajkaaDoor
