/-
  Proved: for every list of rows of bytes the statement ShaParts of layer 2 answers true and leaves its arguments as they were. Conditions beside the statement's own: none; the card ties sha.roundConstants to the pruned copy of the program's text.
-/
import Derived.Test.YtbebhkoegebojaaDoorCards
import Derived.Test.YtbebhkoegebojaaDoorTie
import Derived.Test.YtbebhkoegebojaaDoorOpen
import Derived.Test.YtbebhkoegebojaaDoorPartsPre
import Derived.Below
import Derived.ChangeOld
import Derived.Deep.DeepHandedRow
import Derived.Lib.LaidTab
namespace Go.Proofs.YtbebhkoegebojaaDoor
namespace ShaPartsLaw
open Go.ChangeShapes Go.WideShapes Go.ChangeAt Go.RowKit
open Go.ChangeMaps (open_string shut_string)
set_option linter.unusedVariables false

theorem own : ownKnob Tryd.prog.godebug = none := by kernel_rfl
theorem laidOut : laidOutB Tryd.prog = true := by kernel_rfl
theorem gTab : Tryd.prog.globalNamed "deedbox/sha.roundConstants" = some 0 := by kernel_rfl
theorem gTabType : (Tryd.prog.globals[0]?).map (·.type) = some 55 := by kernel_rfl
theorem cellsT : Tryd.prog.cellsOf 55 = 64 := by kernel_rfl
theorem cellsE : Tryd.prog.cellsOf 38 = 1 := by kernel_rfl

/-- What the row's list gives: the constants lie in their variable. -/
theorem table {W : World} (h : laidMetH Tryd.prog Rows.shaPartsRow.laid W) : Lib.TabIs Tryd.prog W "deedbox/sha.roundConstants" .u32 (sKs.map fun x => (x.toNat : Int)) :=
  Lib.tabIs_of_head (rest := []) gTab gTabType Tryd.underlying55 Tryd.underlying38 cellsE cellsT h
theorem kon {W : World} (h : laidMetH Tryd.prog Rows.shaPartsRow.laid W) : Kon W := fun j v hv => by
  have hj : j < sKs.length := by have := (List.getElem?_eq_some_iff.1 hv).1; rwa [ws_length] at this
  have hc := (table h).cell gTab j (by rw [List.length_map]; exact hj)
  rw [Nat.zero_add, hc, ← hv]
  simp [ws, hj]

attribute [local go_sem ↓] ld24_in
attribute [local go_sem] ld24_run row32_drew
set_option maxRecDepth 100000 in
set_option maxHeartbeats 8000000 in
theorem walk (a0 : Option Addr) (len0 cap0 : Nat) (l0 : List (List UInt8)) (w : World) (hK : Kon w) (w0 : Bss w a0 len0 cap0 l0) :
    Calls Tryd.prog 4 #[.slice a0 len0 cap0] w fun e w' => e = .returned (.bool true) ∧ Below w.heap.size w w' := by
  have hmax := w0.max
  have HN : Hid (l0.length = len0) := w0.len
  go_enter Tryd.func4, Tryd.ntmps4
  go_wp2_with fail
  refine (lShort w w0).mono ?_
  rintro e ww ⟨r, rfl, rfl, hsh⟩
  rcases hsh with rfl | ⟨rfl, h40, htot⟩
  · go_wp2_with fail
    refine (lWorksS w hK).mono ?_
    rintro e w1 ⟨rfl, hb⟩
    go_wp2
    go_ret
    exact ⟨rfl, hb⟩
  · by_cases h12 : len0 ≤ 12
    · have h12i : (len0 : Int) ≤ 12 := by omega
      have hall := all24
      have HZ : Hid (tot l0 ≤ 100000) := Nat.le_trans htot (by omega)
      go_wp2_with (go_at_call 11; refine (oNew w).mono ?_; rintro e w1 ⟨r, rfl, hr, hS, hb1⟩)
      have hrl := hS.lt
      have hr0 := Nat.lt_of_lt_of_le hK.lt hr
      go_loopw [4, 5, 6] (fun all i _ wr => ∃ k : Nat, k ≤ len0 ∧ i = .int .i64 k ∧ Own wr w1.heap.size all (l0.take k).flatten ∧ Sta wr r (l0.take k).flatten ∧ Below w.heap.size w wr ∧ w1.heap.size ≤ wr.heap.size) (fun _ i _ _ => len0 - (intOf i).toNat)
      case atStart => exact ⟨0, by omega, rfl, Own.nil _ _, hS, hb1, Nat.le_refl _⟩
      case round =>
        clear hS
        rename World => wo
        obtain ⟨k, hk, rfl, ho, hS, hb, hsz⟩ := hrel
        by_cases hlt : k < len0
        · obtain ⟨x, o, rfl, hx, hc⟩ := w0.at (by omega)
          obtain ⟨p, m, q, c1, hp⟩ := Bss.part hc hb k hlt
          have hpw := hp.below hb (Nat.le_refl _)
          have hpne : 0 < m → ∀ y, p = some y → y.block ≠ r := fun h y hy => by have := hp.lt h y hy; omega
          have HS : Hid ((l0.take k).flatten ++ l0.getD k [] = (l0.take (k + 1)).flatten) := flat_step (by rw [HN.out]; exact hlt)
          have HF : Hid ((l0.take (k + 1)).flatten.length ≤ 100000) := flat_len_take HZ.out
          have hK1 := hK.below hb hK.lt
          have CW : Hid (Calls Tryd.prog 12 #[.pointer (some ⟨r, 0, none⟩), .slice p m q] wo fun e w' => e = .returned (.tuple #[]) ∧ Sta w' r (l0.take (k + 1)).flatten ∧ wo.grownBy w' (some r)) := by
            have := oWrite wo hK1 r _ hS hpw hr0 hpne (by
              have h1 := HF.out
              rw [← HS.out, List.length_append] at h1
              omega)
            rw [HS.out] at this
            exact this
          have hsum := cs_sum (l0.take (k + 1)).flatten
          have HO : Hid ((cs (sumL (l0.take (k + 1)).flatten)).length = 32) := hsum
          clear hsum
          go_wp2_with (first
            | (go_at_call 12; refine CW.out.mono ?_; rintro e w2 ⟨rfl, hS2, hg2⟩
               have c2 : w2.cell? ⟨x, o + k, none⟩ = some (.slice p m q) := by rw [World.cell?_of_block (w := wo) (hg2.block x (lt_of_cell c1) (by simp; omega))]; exact c1
               have ho2 := ho.but hg2 hrl
               have hp2 := hpw.butP hg2 hpne
               have hs2 := hg2.size
               have hb2 : Below w.heap.size w w2 := hb.grown hg2 hb.size (fun i hi => by simp at hi; omega))
            | (at_builtin; refine wpList_app _ rfl (.tmp 33) (.tmp 37) rfl w1.heap.size _ _ rfl ho2 _ _ _ _ rfl hp2 (by rw [← List.length_append, HS.out]; have := HF.out; omega) (Nat.le_trans hsz hs2) ?_; intro v3 w3 ho3 hb3
               rw [HS.out] at ho3
               have hS3 := hS2.below hb3 hrl
               have hb3' := hb2.trans (hb3.mono hb1.size)
               have hK3 := hK.below hb3' hK.lt
               have hs3 := hb3.size)
            | (go_at_call 13; refine (oSumV w3 hK3 r _ hS3 (Nat.le_trans HF.out (by omega))).mono ?_; rintro e w4 ⟨rfl, hb4⟩)
            | (with_reducible refine at_st 24 ?_; refine st' 24 (.tmp 6) (.tmp 40) 32 size24 w4.heap.size 0 _ HO.out cs_one ((Blk.new w4 z24 24).there 0 32 (by decide)) rfl rfl ?_; intro w5 hw5
               have b5 : Blk w5 w4.heap.size (cs (sumL (l0.take (k + 1)).flatten)) 24 := by rw [hw5]; exact (Blk.new w4 z24 24).setsW _ (by rw [HO.out]; rfl)
               have hb5 : Below w3.heap.size w3 w5 := by rw [hw5]; exact below_sets hb4.size _ (hb4.alloc hb4.size _) 0
               clear hw5
               have ho5 := ho3.below hb5 (Nat.le_refl _)
               have hS5 := hS3.below hb5 hS3.lt
               have hb5' := hb3'.trans (hb5.mono hb3'.size)
               have hs5 : w1.heap.size ≤ w5.heap.size := Nat.le_trans (Nat.le_trans hsz hs2) (Nat.le_trans hs3 hb5.size)))
          by_cases h4 : k % 4 = 3
          · have t1 : ((k : Nat) : Int).tmod 4 = 3 := by rw [Int.tmod_eq_emod_of_nonneg (by omega)]; omega
            have t2 : ((k : Nat) : Int) % 4 = 3 := by omega
            go_region_held3 (fun _ => True) (trivial) (first
              | (go_at_call 9; refine (rSumV w5.drew (base := w1.heap.size) ho5 HF.out).mono ?_; rintro e w6 ⟨a6, m6, c6, rfl, ho6, hb6⟩; have hB6 := sum_bs (b5.dr.below hb6 b5.lt))
              | (go_at_call 8; refine (sameT w6 hB6 ho6.toBs).mono ?_; rintro e w7 ⟨rfl, hb7⟩))
            go_wp2_with fail
            have q7 : Below w5.heap.size w5 w7 := (Below.refl w5.heap.size w5).drew.trans (hb6.trans (hb7.mono hb6.size))
            go_roundw
            case rel => exact ⟨k + 1, by omega, by go_num, ho5.below q7 (Nat.le_refl _), hS5.below q7 hS5.lt, hb5'.trans (q7.mono hb5'.size), Nat.le_trans hs5 q7.size⟩
            case measure => simp [intOf]; omega
          · have t1 : ¬ ((k : Nat) : Int).tmod 4 = 3 := by rw [Int.tmod_eq_emod_of_nonneg (by omega)]; omega
            have t2 : ¬ ((k : Nat) : Int) % 4 = 3 := by omega
            have t3 : (((k : Nat) : Int).tmod 4 == 3) = false := by simpa using t1
            have t4 : (((k : Nat) : Int) % 4 == 3) = false := by simpa using t2
            go_quiet (fail)
            go_wp2_with fail
            go_roundw
            case rel =>
              have q7 : Below w5.heap.size w5 (w5.drewN nq) := below_drewN' w5 nq
              exact ⟨k + 1, by omega, by go_num, ho5.below q7 (Nat.le_refl _), hS5.below q7 hS5.lt, hb5'.trans (q7.mono hb5'.size), Nat.le_trans hs5 q7.size⟩
            case measure => simp [intOf]; omega
        · rw [List.take_of_length_le (by rw [HN.out]; omega)] at ho hS
          have hFl : l0.flatten.length ≤ 100000 := by rw [tot_flatten]; exact HZ.out
          have HFl : Hid (l0.flatten.length ≤ 100000) := hFl
          clear hFl
          have HO : Hid ((cs (sumL l0.flatten)).length = 32) := cs_sum _
          have hK1 := hK.below hb hK.lt
          have heq := eq24 l0.flatten
          go_wp2_with (first
            | (go_at_call 13; refine (oSumV wo hK1 r _ hS (Nat.le_trans HFl.out (by omega))).mono ?_; rintro e w2 ⟨rfl, hb2⟩)
            | (with_reducible refine at_st 24 ?_; refine st' 24 (.tmp 7) (.tmp 52) 32 size24 w2.heap.size 0 _ HO.out cs_one ((Blk.new w2 z24 24).there 0 32 (by decide)) rfl rfl ?_; intro w3 hw3
               have b7 : Blk w3 w2.heap.size (cs (sumL l0.flatten)) 24 := by rw [hw3]; exact (Blk.new w2 z24 24).setsW _ (by rw [HO.out]; rfl)
               have hb3 : Below wo.heap.size wo w3 := by rw [hw3]; exact below_sets hb2.size _ (hb2.alloc hb2.size _) 0
               clear hw3
               have hb3' := hb.trans (hb3.mono hb.size)
               have hK3 := hK.below hb3' hK.lt)
            | (go_at_call 7; refine (oOfV w3 hK3 (w0.below hb3' (Nat.le_refl _)) HZ.out).mono ?_; rintro e w4 ⟨rfl, hb4⟩)
            | (with_reducible refine at_st 24 ?_; refine st' 24 (.tmp 8) (.tmp 54) 32 size24 w4.heap.size 0 _ HO.out cs_one ((Blk.new w4 z24 24).there 0 32 (by decide)) rfl rfl ?_; intro w5 hw5
               have b8 : Blk w5 w4.heap.size (cs (sumL l0.flatten)) 24 := by rw [hw5]; exact (Blk.new w4 z24 24).setsW _ (by rw [HO.out]; rfl)
               have hb5 : Below w3.heap.size w3 w5 := by rw [hw5]; exact below_sets hb4.size _ (hb4.alloc hb4.size _) 0
               clear hw5
               have d7 := b7.below hb5 b7.lt
               have hwo5 : Below wo.heap.size wo w5 := hb3.trans (hb5.mono hb3.size)
               have ho5 := ho.below hwo5 (Nat.le_refl _)
               have hS5 := hS.below hwo5 hS.lt
               have hb5' := hb.trans (hwo5.mono hb.size)))
          have R7 := row32_of d7.rng HO.out
          have R8 := row32_of b8.rng HO.out
          have hK5 := hK.below hb5' hK.lt
          go_region_with (first
            | (go_at_call 13; refine (oSumV w5.drew hK5 r _ hS5 (Nat.le_trans HFl.out (by omega))).mono ?_; rintro e w6 ⟨rfl, hb6⟩; have e7 := d7.dr.below hb6 d7.lt; have Q7 := row32_of e7.rng HO.out; have ho6 := ho5.below (w := w5.drew) hb6 (Nat.le_refl _); have q6 := hb5'.drew.trans (hb6.mono hb5'.size))
            | (go_at_call 9; refine (rSumV w6 ho6 HFl.out).mono ?_; rintro e w9 ⟨a9, m9, c9, rfl, ho9, hb9⟩; have f7 := e7.below hb9 e7.lt; have hB9 := sum_bs f7; have q9 := q6.trans (hb9.mono q6.size))
            | (go_at_call 8; refine (sameT w9 hB9 ho9.toBs).mono ?_; rintro e w10 ⟨rfl, hb10⟩; have q10 := q9.trans (hb10.mono q9.size))
            | (go_at_call 6; refine (lWorksS w10 (hK.below q10 hK.lt)).mono ?_; rintro e w11 ⟨rfl, hb11⟩))
          all_goals
            go_wp2
            go_ret
            exact ⟨rfl, q10.trans (hb11.mono q10.size)⟩
    · have h12i : (12 : Int) < (len0 : Int) := by omega
      go_wp2_with fail
      refine (lWorksS w hK).mono ?_
      rintro e w1 ⟨rfl, hb⟩
      go_wp2
      go_ret
      exact ⟨rfl, hb⟩

theorem contract (H : Type) (enc : TypeId × Value → H) (W : World) (base : Nat) (args : Array Value) (ds gs : List (DataW H)) (before : List MemPlace)
    (hval0 : ∀ (j : Nat) t v, Tryd.f4.params[j]? = some t → args[j]? = some v → Value.okWide Tryd.prog W .any base t v)
    (hW : DataW.Whole enc Tryd.prog Tryd.f4.params.toList Rows.shaPartsSpec.vars false W args.toList ds gs before) (hL : laidMetH Tryd.prog Rows.shaPartsRow.laid W) :
    Calls Tryd.prog 4 args W fun e W' => ∃ v, e = .returned v ∧ Rows.shaPartsSpec.post enc Tryd.prog Tryd.f4 false true false false W args v W' := by
  have hval : ∀ (j : Nat) t v, Tryd.f4.params[j]? = some t → args[j]? = some v → Value.okWide Tryd.prog W .any base t v := hval0
  have hW' := hW
  obtain ⟨p, q, hA0, hV, rfl, hfz, hnd⟩ := hW
  have hA : DataW.TrodAll enc Tryd.prog W 0 (fun _ => true) true Tryd.f4.params.toList args.toList ds p := hA0
  rw [Tryd.params4] at hA hval
  obtain ⟨v0, vs0, d0, ds0, p0, q0, hargs, rfl, rfl, h0, r0⟩ := trodAll_cons hA
  obtain ⟨rfl, rfl, rfl⟩ := trodAll_nil r0
  obtain rfl : args = #[v0] := by cases args; simp_all
  obtain ⟨rfl, rfl⟩ := trodVars_none hV
  obtain ⟨a0, len0, cap0, rfl⟩ := okWide_slice Tryd.underlying29 (hval 0 29 v0 rfl rfl)
  have k0 := h0
  have lt0 : ∀ x ∈ p0, x.block < W.heap.size := by obtain ⟨m, hm⟩ := k0; exact DataW.trod_lt m _ _ _ hm
  obtain ⟨l0, w0⟩ : ∃ l, Bss W a0 len0 cap0 l := by
    obtain ⟨fuel, hf⟩ := h0
    exact Bss.of_trod hf
  clear hA0 hval0
  refine (walk a0 len0 cap0 l0 W (kon hL) w0).mono fun e W' ⟨he, bel⟩ => ?_
  subst he
  exact ⟨_, rfl, _, _, _, [], _, [], hW', trodAll_mk1 (shut_bool Tryd.underlying4 _), (trodAll_cons_mk (Below.trod laidOut (by kernel_rfl) (of_decide_eq_true (by kernel_rfl)) k0 bel lt0) trodAll_mk0), rfl, bel.frame _, fun h => by cases h⟩

/-- A world for the witness: the settled one, the constants as their initialiser lays them. -/
noncomputable def laidWorld (os : Os) : World :=
  { World.holding Tryd.prog os ⟨#[], #[], []⟩ with heap := (World.holding Tryd.prog os ⟨#[], #[], []⟩).heap.modify 0 fun
      | .cells _ t frozen => .cells (ws sKs).toArray t frozen
      | o => o }
set_option maxRecDepth 100000 in
theorem laid_met (os : Os) : laidMet Tryd.prog Rows.shaPartsRow.laid ((laidWorld os).forCall (fun _ _ => 0) ⟨#[], #[.slice none 0 0], []⟩).memory :=
  laidMet_of_run' 8 (by kernel_rfl) (by kernel_rfl)
set_option maxRecDepth 100000 in
theorem reads (os : Os) {H : Type} (enc : TypeId × Value → H) : ∃ places, DataW.whole enc Tryd.prog ((laidWorld os).forCall (fun _ _ => 0) ⟨#[], #[.slice none 0 0], []⟩).memory Tryd.f4.params.toList Rows.shaPartsSpec.vars false (#[.slice none 0 0] : Array Value).toList 8 = some ([.nil], [], places) :=
  ⟨[], by kernel_rfl⟩

set_option maxRecDepth 100000 in
theorem lifted (os : Os) (started : os.Started) (H : Type) (enc : TypeId × Value → H) (F : Stop.Interp) :
    ReturnsInHanded {} Tryd.checked os 4 .any ((OpenSpec.ofChange Rows.shaPartsSpec).preRow enc Tryd.prog Tryd.f4 Rows.shaPartsRow.domain false Rows.shaPartsRow.laid) (((OpenSpec.ofChange Rows.shaPartsSpec).at F).post enc Tryd.prog Tryd.f4 false true false false) := by
  obtain ⟨places, hx⟩ := reads os enc
  refine returnsInHanded_of_row (C := Tryd.checked) (s := OpenSpec.ofChange Rows.shaPartsSpec) own started (by kernel_rfl) Tryd.func4
    (witness_row_at (enc := enc) (C := Tryd.checked) false (laidWorld os) #[.slice none 0 0] rfl (by kernel_rfl) (by kernel_rfl) (by kernel_rfl)
      (OpenSpec.preRow_of_cond 8 hx (by kernel_rfl) (fun k hk => by cases hk) (by kernel_rfl) (laid_met os))) ?_
  intro W base args ds gs before hval hW _ _ _ hL _ _
  exact contract H enc W base args ds gs before hval hW hL

theorem over : Rows.shaPartsRow.holds Tryd.pinned (OpenSpec.ofChange Rows.shaPartsSpec) :=
  OpenClaim.holds_of_cond 4 Tryd.f4 rfl rfl rfl rfl rfl rfl rfl ⟨rfl, rfl, rfl, rfl, rfl⟩ rfl rfl rfl rfl rfl (by kernel_rfl) Tryd.func4 (by kernel_rfl)
    (of_decide_eq_true (by kernel_rfl)) (by unfold Func.isWrapper; first | (rw [if_pos (by decide +kernel)]; kernel_rfl) | (rw [if_neg (by decide +kernel)]; exact ⟨rfl, rfl⟩))
    (fun os started H enc _ F => by rw [OpenClaim.pre_eq_preRow]; exact lifted os started H enc F)

/-- No parameter wants a stand-in. -/
theorem plain (f : FuncId) (fn : Func) (hf : Tryd.pinned.checked.prog.funcNamed "deedbox/deedboxlaw02.ShaParts" = some f) (hfn : Tryd.pinned.checked.prog.funcs[f]? = some fn) :
    false = Tryd.pinned.checked.prog.looks [] ∧ ∀ (j : Nat) t, fn.params[j]? = some t → Tryd.pinned.checked.prog.wantsStandIn t = false := by
  obtain rfl : f = 4 := Option.some.inj ((show Tryd.prog.funcNamed "deedbox/deedboxlaw02.ShaParts" = some 4 by kernel_rfl).symm.trans hf) |>.symm
  obtain rfl : fn = Tryd.f4 := (Option.some.inj (Tryd.func4.symm.trans hfn)).symm
  refine ⟨by kernel_rfl, fun j t ht => ?_⟩
  rw [Tryd.params4] at ht
  obtain rfl : t = 29 := by simpa using Array.mem_of_getElem? ht
  exact (show Tryd.prog.wantsStandIn 29 = false by kernel_rfl)
end ShaPartsLaw

/-- The statement: the card. -/
theorem shaParts_holds : Rows.ShaPartsCardSaid :=
  Claim7.holds_tied_plain_at .later [] _ _ _ _ ShaPartsLaw.over (fun _ h => by cases h) (by kernel_rfl) (fun _ h => by cases h) shaParts_row_tie rfl ⟨rfl, rfl⟩ (by kernel_rfl) rfl ShaPartsLaw.plain (by kernel_rfl)
#print axioms shaParts_holds
end Go.Proofs.YtbebhkoegebojaaDoor
