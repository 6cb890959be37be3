/-
  Proved: for every byte and number the statement ShaEdges of layer 2 answers true and leaves its arguments as they were. Conditions beside the statement's own: none; the card ties sha.roundConstants to the pruned copy of the program's text.
-/
import Derived.Test.YtbebhkoegebojaaDoorCards
import Derived.Test.YtbebhkoegebojaaDoorTie
import Derived.Test.YtbebhkoegebojaaDoorOpen
import Derived.Test.YtbebhkoegebojaaDoorShaPre
import Derived.Below
import Derived.ChangeOld
import Derived.Deep.DeepHandedRow
import Derived.Lib.LaidTab
namespace Go.Proofs.YtbebhkoegebojaaDoor
namespace ShaEdgesLaw
open Go.ChangeShapes Go.WideShapes Go.ChangeAt Go.RowKit
open Go.ChangeMaps (open_string shut_string)
set_option linter.unusedVariables false

theorem own : ownKnob Tryd.prog.godebug = none := by kernel_rfl
theorem laidOut : laidOutB Tryd.prog = true := by kernel_rfl
theorem gTab : Tryd.prog.globalNamed "deedbox/sha.roundConstants" = some 0 := by kernel_rfl
theorem gTabType : (Tryd.prog.globals[0]?).map (·.type) = some 55 := by kernel_rfl
theorem cellsT : Tryd.prog.cellsOf 55 = 64 := by kernel_rfl
theorem cellsE : Tryd.prog.cellsOf 38 = 1 := by kernel_rfl

/-- What the row's list gives: the constants lie in their variable. -/
theorem table {W : World} (h : laidMetH Tryd.prog Rows.shaEdgesRow.laid W) : Lib.TabIs Tryd.prog W "deedbox/sha.roundConstants" .u32 (sKs.map fun x => (x.toNat : Int)) :=
  Lib.tabIs_of_head (rest := []) gTab gTabType Tryd.underlying55 Tryd.underlying38 cellsE cellsT h
theorem kon {W : World} (h : laidMetH Tryd.prog Rows.shaEdgesRow.laid W) : Kon W := fun j v hv => by
  have hj : j < sKs.length := by have := (List.getElem?_eq_some_iff.1 hv).1; rwa [ws_length] at this
  have hc := (table h).cell gTab j (by rw [List.length_map]; exact hj)
  rw [Nat.zero_add, hc, ← hv]
  simp [ws, hj]

set_option maxHeartbeats 4000000 in
theorem walk (a0 : Int) (a1 : Int) (w : World) (hK : Kon w) (w0 : (Lit.int .u8 a0).wf = true) (w1 : (Lit.int .u8 a1).wf = true) :
    Calls Tryd.prog 5 #[.int .u8 a0, .int .u8 a1] w fun e w' => e = .returned (.bool true) ∧ Below w.heap.size w w' := by
  have hn0 := bounds_u8 w1
  have hc0 := bounds_u8 w0
  obtain ⟨n, hn⟩ : ∃ n : Nat, a1 = (n : Int) := ⟨a1.toNat, by omega⟩
  subst hn
  obtain ⟨x, hx⟩ : ∃ x : UInt8, a0 = (x.toNat : Int) := ⟨UInt8.ofNat a0.toNat, by rw [ofNat_toNat_int a0 (by omega) (by omega)]⟩
  subst hx
  have hn1 : (n : Int) ≤ 255 := by omega
  have hn2 : (0 : Int) ≤ (n : Int) := by omega
  have HO : Hid ((cs (sumL (List.replicate n x))).length = 32) := cs_sum _
  have hall := all24
  clear w0 w1 hn0 hc0
  go_enter Tryd.func5, Tryd.ntmps5
  go_wp2_with (at_make; refine wpList_mkn w rfl (.tmp 9) (.tmp 9) rfl w.heap.size n (n : Int) rfl rfl rfl (by omega) (Nat.le_refl _) ?_; intro g w1 hg1 hg2 ho1 hb1)
  go_loopw [6] (fun i wr => ∃ k : Nat, k ≤ n ∧ i = .int .i64 k ∧ Own wr w.heap.size (.slice (some ⟨g, 0, none⟩) n n) (List.replicate k x ++ List.replicate (n - k) 0) ∧ Below w.heap.size w wr) (fun i _ => n - (intOf i).toNat)
  case atStart => exact ⟨0, by omega, rfl, by simpa using ho1, hb1⟩
  case round =>
    clear ho1 hb1
    obtain ⟨k, hk, rfl, ho, hb⟩ := hrel
    have hll : (List.replicate k x ++ List.replicate (n - k) 0).length = n := by simp; omega
    by_cases hlt : k < n
    · have h0 : (0 : Int) ≤ (k : Int) := by omega
      have h1 : (k : Int) < (n : Int) := by omega
      obtain ⟨v0, c0⟩ := ho.cell hll k hlt
      have f0 := ho.free hll k
      have ho2 := ho.set hll k x
      rw [fill_step hlt] at ho2
      have HO2 : Hid (Own (wr.setCell ⟨g, k, none⟩ (.int .u8 (x.toNat : Int))) w.heap.size (.slice (some ⟨g, 0, none⟩) n n) (List.replicate (k + 1) x ++ List.replicate (n - (k + 1)) 0)) := ho2
      clear ho2
      go_wp2_with fail
      go_roundw
      case rel => exact ⟨k + 1, by omega, by go_num, HO2.out, hb.setCell hg1 _⟩
      case measure => simp [intOf]; omega
    · have e : k = n := by omega
      have hB : Bs wr (some ⟨g, 0, none⟩) n n (List.replicate n x) := by
        have := ho.toBs
        rw [e, Nat.sub_self] at this
        simpa using this
      clear ho hll e
      have hKr := hK.below hb hK.lt
      go_wp2_with (first
        | (go_at_call 7; refine (oOf1 wr hKr hB (by omega)).mono ?_; rintro e w1 ⟨rfl, hb1⟩)
        | (with_reducible refine at_st 24 ?_; refine st' 24 (.tmp 7) (.tmp 23) 32 size24 w1.heap.size 0 _ HO.out cs_one ((Blk.new w1 z24 24).there 0 32 (by decide)) rfl rfl ?_; intro w2 hw2
           have b2 : Blk w2 w1.heap.size (cs (sumL (List.replicate n x))) 24 := by rw [hw2]; exact (Blk.new w1 z24 24).setsW _ (by rw [HO.out]; rfl)
           have hb2 : Below wr.heap.size wr w2 := by rw [hw2]; exact below_sets hb1.size _ (hb1.alloc hb1.size _) 0
           clear hw2
           have hB0 := hB.below hb2 (Nat.le_refl _)
           have hbw := hb.trans (hb2.mono hb.size)))
      go_region_held3 (fun _ => True) (trivial) (first
        | (go_at_call 9; refine (rSum _ hB0.drew (by omega)).mono ?_; rintro e w3 ⟨a3, m3, c3, rfl, ho3, hb3⟩; have hB3 := sum_bs (b2.dr.below hb3 b2.lt))
        | (go_at_call 8; refine (sameT w3 hB3 ho3.toBs).mono ?_; rintro e w4 ⟨rfl, hb4⟩; have q3 : Below w.heap.size w w3 := hbw.drew.trans (hb3.mono hbw.size); have q4 := q3.trans (hb4.mono q3.size))
        | (go_at_call 6; refine (lWorksS w4 (hK.below q4 hK.lt)).mono ?_; rintro e w5 ⟨rfl, hb5⟩))
      go_wp2
      go_ret
      exact ⟨rfl, q4.trans (hb5.mono q4.size)⟩

theorem contract (H : Type) (enc : TypeId × Value → H) (W : World) (base : Nat) (args : Array Value) (ds gs : List (DataW H)) (before : List MemPlace)
    (hval0 : ∀ (j : Nat) t v, Tryd.f5.params[j]? = some t → args[j]? = some v → Value.okWide Tryd.prog W .any base t v)
    (hW : DataW.Whole enc Tryd.prog Tryd.f5.params.toList Rows.shaEdgesSpec.vars false W args.toList ds gs before) (hL : laidMetH Tryd.prog Rows.shaEdgesRow.laid W) :
    Calls Tryd.prog 5 args W fun e W' => ∃ v, e = .returned v ∧ Rows.shaEdgesSpec.post enc Tryd.prog Tryd.f5 false true false false W args v W' := by
  have hval : ∀ (j : Nat) t v, Tryd.f5.params[j]? = some t → args[j]? = some v → Value.okWide Tryd.prog W .any base t v := hval0
  have hW' := hW
  obtain ⟨p, q, hA0, hV, rfl, hfz, hnd⟩ := hW
  have hA : DataW.TrodAll enc Tryd.prog W 0 (fun _ => true) true Tryd.f5.params.toList args.toList ds p := hA0
  rw [Tryd.params5] at hA hval
  obtain ⟨v0, vs0, d0, ds0, p0, q0, hargs, rfl, rfl, h0, r0⟩ := trodAll_cons hA
  obtain ⟨v1, vs1, d1, ds1, p1, q1, rfl, rfl, rfl, h1, r1⟩ := trodAll_cons r0
  obtain ⟨rfl, rfl, rfl⟩ := trodAll_nil r1
  obtain rfl : args = #[v0, v1] := by cases args; simp_all
  obtain ⟨rfl, rfl⟩ := trodVars_none hV
  obtain ⟨a0, rfl, rfl, rfl, w0⟩ := open_int Tryd.underlying5 (hval 0 5 v0 rfl rfl) h0
  obtain ⟨a1, rfl, rfl, rfl, w1⟩ := open_int Tryd.underlying5 (hval 1 5 v1 rfl rfl) h1
  clear hA0 hval0
  refine (walk a0 a1 W (kon hL) w0 w1).mono fun e W' ⟨he, bel⟩ => ?_
  subst he
  exact ⟨_, rfl, _, _, _, [], _, [], hW', trodAll_mk1 (shut_bool Tryd.underlying4 _), (trodAll_cons_mk (shut_int Tryd.underlying5 w0) (trodAll_cons_mk (shut_int Tryd.underlying5 w1) trodAll_mk0)), rfl, bel.frame _, fun h => by cases h⟩

/-- A world for the witness: the settled one, the constants as their initialiser lays them. -/
noncomputable def laidWorld (os : Os) : World :=
  { World.holding Tryd.prog os ⟨#[], #[], []⟩ with heap := (World.holding Tryd.prog os ⟨#[], #[], []⟩).heap.modify 0 fun
      | .cells _ t frozen => .cells (ws sKs).toArray t frozen
      | o => o }
set_option maxRecDepth 100000 in
theorem laid_met (os : Os) : laidMet Tryd.prog Rows.shaEdgesRow.laid ((laidWorld os).forCall (fun _ _ => 0) ⟨#[], #[.int .u8 0, .int .u8 0], []⟩).memory :=
  laidMet_of_run' 8 (by kernel_rfl) (by kernel_rfl)
set_option maxRecDepth 100000 in
theorem reads (os : Os) {H : Type} (enc : TypeId × Value → H) : ∃ places, DataW.whole enc Tryd.prog ((laidWorld os).forCall (fun _ _ => 0) ⟨#[], #[.int .u8 0, .int .u8 0], []⟩).memory Tryd.f5.params.toList Rows.shaEdgesSpec.vars false (#[.int .u8 0, .int .u8 0] : Array Value).toList 8 = some ([.lit (.int .u8 0), .lit (.int .u8 0)], [], places) :=
  ⟨[], by kernel_rfl⟩

set_option maxRecDepth 100000 in
theorem lifted (os : Os) (started : os.Started) (H : Type) (enc : TypeId × Value → H) (F : Stop.Interp) :
    ReturnsInHanded {} Tryd.checked os 5 .any ((OpenSpec.ofChange Rows.shaEdgesSpec).preRow enc Tryd.prog Tryd.f5 Rows.shaEdgesRow.domain false Rows.shaEdgesRow.laid) (((OpenSpec.ofChange Rows.shaEdgesSpec).at F).post enc Tryd.prog Tryd.f5 false true false false) := by
  obtain ⟨places, hx⟩ := reads os enc
  refine returnsInHanded_of_row (C := Tryd.checked) (s := OpenSpec.ofChange Rows.shaEdgesSpec) own started (by kernel_rfl) Tryd.func5
    (witness_row_at (enc := enc) (C := Tryd.checked) false (laidWorld os) #[.int .u8 0, .int .u8 0] rfl (by kernel_rfl) (by kernel_rfl) (by kernel_rfl)
      (OpenSpec.preRow_of_cond 8 hx (by kernel_rfl) (fun k hk => by cases hk) (by kernel_rfl) (laid_met os))) ?_
  intro W base args ds gs before hval hW _ _ _ hL _ _
  exact contract H enc W base args ds gs before hval hW hL

theorem over : Rows.shaEdgesRow.holds Tryd.pinned (OpenSpec.ofChange Rows.shaEdgesSpec) :=
  OpenClaim.holds_of_cond 5 Tryd.f5 rfl rfl rfl rfl rfl rfl rfl ⟨rfl, rfl, rfl, rfl, rfl⟩ rfl rfl rfl rfl rfl (by kernel_rfl) Tryd.func5 (by kernel_rfl)
    (of_decide_eq_true (by kernel_rfl)) (by unfold Func.isWrapper; first | (rw [if_pos (by decide +kernel)]; kernel_rfl) | (rw [if_neg (by decide +kernel)]; exact ⟨rfl, rfl⟩))
    (fun os started H enc _ F => by rw [OpenClaim.pre_eq_preRow]; exact lifted os started H enc F)

/-- No parameter wants a stand-in. -/
theorem plain (f : FuncId) (fn : Func) (hf : Tryd.pinned.checked.prog.funcNamed "deedbox/deedboxlaw02.ShaEdges" = some f) (hfn : Tryd.pinned.checked.prog.funcs[f]? = some fn) :
    false = Tryd.pinned.checked.prog.looks [] ∧ ∀ (j : Nat) t, fn.params[j]? = some t → Tryd.pinned.checked.prog.wantsStandIn t = false := by
  obtain rfl : f = 5 := Option.some.inj ((show Tryd.prog.funcNamed "deedbox/deedboxlaw02.ShaEdges" = some 5 by kernel_rfl).symm.trans hf) |>.symm
  obtain rfl : fn = Tryd.f5 := (Option.some.inj (Tryd.func5.symm.trans hfn)).symm
  refine ⟨by kernel_rfl, fun j t ht => ?_⟩
  rw [Tryd.params5] at ht
  obtain rfl : t = 5 := by simpa using Array.mem_of_getElem? ht
  exact (show Tryd.prog.wantsStandIn 5 = false by kernel_rfl)
end ShaEdgesLaw

/-- The statement: the card. -/
theorem shaEdges_holds : Rows.ShaEdgesCardSaid :=
  Claim7.holds_tied_plain_at .later [] _ _ _ _ ShaEdgesLaw.over (fun _ h => by cases h) (by kernel_rfl) (fun _ h => by cases h) shaEdges_row_tie rfl ⟨rfl, rfl⟩ (by kernel_rfl) rfl ShaEdgesLaw.plain (by kernel_rfl)
#print axioms shaEdges_holds
end Go.Proofs.YtbebhkoegebojaaDoor
