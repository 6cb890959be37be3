/-
  6 texts in one. No statement of the seat is proved here.
-/
import Derived.Test.YtfknplcnfpincaaGreatG11
import Derived.Deep.DeepCutAuto
import Derived.Deep.CutBlock
/-
  The contract of 'spread': the words of a key of 32 bytes. Condition: the tables lie where the pointer leads.
-/
namespace Go.Proofs.YtfknplcnfpincaaGreat
open Go.RowKit

theorem sizeS : (Tryz.prog.info? 145).map (·.size) = some 240 := by kernel_rfl
theorem zeroS : Tryz.zeroCells145 = zarr 240 := by kernel_rfl
attribute [local go_sem] zeroS

theorem lenW : Tryz.prog.arrayLen 143 = 4 := by kernel_rfl
theorem undW : Tryz.prog.underlying 143 = some (.array (Tryz.prog.arrayLen 143) (Tryz.prog.elem 143)) := by kernel_rfl
theorem elW (w : World) : Sem.run Tryz.prog (sizeOf (Tryz.prog.elem 143)) w = .ok 1 w := by kernel_rfl
theorem allW (g o : Nat) (w : World) : Sem.run Tryz.prog (Instr.sliceAt 143 (.pointer (some ⟨g, o, none⟩)) none none none) w = .ok (.slice (some ⟨g, o, none⟩) 4 4) w := by
  rw [run_sliceAt_array_all w 143 _ undW, elW]
  simp only [Result.andThen, slicedAt, lenW]
  rfl

theorem Copied.word {w w' : World} {g k : Nat} {F l : List UInt8} {t : TypeId} (h : Copied w w' g (k * 4) 4 (cs (fill F 240 (4 * k))) l t) (hF : F.length = 240) (hk : k < 60) (hl : l.take 4 = wd F k) : Blk w' g (cs (fill F 240 (4 * (k + 1)))) t := by
  have b := h.blk
  rw [hl, Nat.mul_comm k 4] at b
  rw [← fill_word hF hk, cs_append, cs_append]
  unfold cs at b ⊢
  rw [List.map_take, List.map_drop]
  exact b

theorem word_range {w : World} {g k j : Nat} {F : List UInt8} {t : TypeId} (b : Blk w g (cs (fill F 240 (4 * k))) t) (hF : F.length = 240) (hk : k ≤ 60) (hj : j < k) : w.rangeAt g (j * 4) (cs (wd F j)) := by
  rw [← fill_wd hF hk hj, Nat.mul_comm]
  exact b.range _ _ fun i v hv => cs_sub hv
abbrev z4 : Array Value := #[.int .u8 0, .int .u8 0, .int .u8 0, .int .u8 0]

theorem tmp_first (X : List UInt8) {k : Nat} (h : k % 8 = 0) : ([X.getD 1 0, X.getD 2 0, X.getD 3 0, X.getD 0 0].map box).set 0 ((([X.getD 1 0, X.getD 2 0, X.getD 3 0, X.getD 0 0].map box).getD 0 0) ^^^ dpow ((k - 1) / 8)) = tmpW X k := by
  unfold tmpW
  rw [if_pos h]
  rfl
theorem tmp_half (X : List UInt8) {k : Nat} (h : k % 8 = 4) : X.map box = tmpW X k := by
  unfold tmpW
  rw [if_neg (by omega), if_pos h]
theorem tmp_same (X : List UInt8) {k : Nat} (h : ¬ k % 8 = 0) (h4 : ¬ k % 8 = 4) : X = tmpW X k := by
  unfold tmpW
  rw [if_neg h, if_neg h4]
theorem pow_up {k : Nat} (h8 : 8 ≤ k) (h : k % 8 = 0) : dbl (dpow ((k - 1) / 8)) = dpow (k / 8) := by
  rw [show k / 8 = (k - 1) / 8 + 1 from by omega]
  rfl
theorem pow_stay {k : Nat} (h : ¬ k % 8 = 0) : dpow ((k - 1) / 8) = dpow (k / 8) := by
  rw [show k / 8 = (k - 1) / 8 from by omega]

theorem oTurnedX (w : World) (X : List UInt8) (hX : X.length = 4) :
    Calls Tryz.prog 100 #[.agg (cs X).toArray] w fun e w' => e = .returned (.agg (cs [X.getD 1 0, X.getD 2 0, X.getD 3 0, X.getD 0 0]).toArray) ∧ Below w.heap.size w w' := by
  obtain ⟨a, b, c, d, rfl⟩ := len4 hX
  exact oTurned w a b c d

set_option maxRecDepth 100000 in
set_option maxHeartbeats 2000000 in
theorem oSched (w : World) (g : Nat) (hT : Tab w g) {a : Option Addr} {c : Nat} {key : List UInt8} (ha : Bs w a 32 c key) :
    Calls Tryz.prog 84 #[.pointer (some ⟨g, 0, none⟩), .slice a 32 c] w fun e w' => e = .returned (bv (keyF key)) ∧ Below w.heap.size w w' := by
  have hgl := hT.lt
  have hkl := ha.len
  have HF : Hid ((keyF key).length = 240) := keyF_length hkl
  have HLow : Hid (∀ i, i < 8 → wd (keyF key) i = wd key i) := fun i hi => wd_low hkl hi
  have HHigh : Hid (∀ i, i < 60 → 8 ≤ i → wd (keyF key) i = xorL (wd (keyF key) (i - 8)) (tmpW (wd (keyF key) (i - 1)) i)) := fun i hi h8 => wd_high hkl hi h8
  generalize hF : keyF key = F at *
  clear hF
  have hne := zarr_ne (n := 240) (by omega)
  have hall := allW
  unfold bv
  go_enter Tryz.func84, Tryz.ntmps84
  go_wp2_with fail
  obtain ⟨W2, hW2⟩ : ∃ W2, W2 = (w.alloc (.cells (zarr 240) 145)).alloc (.cells (zarr 240) 145) := ⟨_, rfl⟩
  rw [← hW2]
  have d0 : Blk W2 w.heap.size (cs (List.replicate 240 0)) 145 := by rw [hW2, ← zarr_toList]; exact (Blk.new w _ _).old _
  have d1 : Blk W2 (w.heap.size + 1) (cs (fill F 240 0)) 145 := by rw [hW2, fill_zero, ← zarr_toList]; exact Blk.newAt (w.alloc _) _ _ _ (by simp) _ rfl
  have hd : Below w.heap.size w W2 := by rw [hW2]; exact below2 w _ _
  clear hW2
  go_loopw [6, 10] (fun _ i wr => ∃ k : Nat, k ≤ 8 ∧ i = .int .i64 k ∧ Blk wr w.heap.size (cs (List.replicate 240 0)) 145 ∧ Blk wr (w.heap.size + 1) (cs (fill F 240 (4 * k))) 145 ∧ Below w.heap.size w wr) (fun _ i _ => 8 - (intOf i).toNat)
  case atStart => exact ⟨0, by omega, rfl, d0, d1, hd⟩
  case round =>
    clear d0 d1 hd
    obtain ⟨k, hk, rfl, d0, d1, hd⟩ := hrel
    by_cases hlt : k < 8
    · have h0 : (0 : Int) ≤ (k : Int) := by omega
      have h8 : (k : Int) < 8 := by omega
      have h60 : (k : Int) < 60 := by omega
      obtain ⟨a', c', hcut, hB, _⟩ := ha.cutLow (4 * k) (by omega)
      rw [show ((4 * k : Nat) : Int) = (k : Int) * 4 from by omega] at hcut
      have hwk : IntKind.i64.wrap ((k : Int) * 4) = (k : Int) * 4 := by rw [IntKind.wrap_i64]; omega
      have hB' := hB wr (ha.below hd (Nat.le_refl _))
      have HL : Hid (wd F k = (key.drop (4 * k)).take 4) := HLow.out k hlt
      have HW := fill_word HF.out (i := k) (by omega)
      have HFL : Hid ((fill F 240 (4 * k)).length = 240) := fill_length HF.out (by omega)
      clear hB
      go_wp2_with fail
      go_region_held3 (fun _ => True) (trivial) ((refine step_cp (by rfl) (.tmp 15) (.tmp 19) (by rfl) (w.heap.size + 1) (k * 4) 4 4 (by rfl) a' (32 - 4 * k) c' (by rfl) (key.drop (4 * k)) hB'.drew (cs (fill F 240 (4 * k))) 145 d1.dr 4 (by show 4 = min _ 4; omega) (by rw [cs_length, HFL.out]; omega) (by omega) ?_; intro w1 hc1))
      go_wp2_with fail
      go_roundw
      case rel => exact ⟨k + 1, by omega, by go_num, hc1.other d0.dr (by omega), hc1.word HF.out (by omega) HL.out.symm, hc1.below hd.drew (by omega) hd.size⟩
      case measure => simp [intOf]; omega
    · obtain rfl : k = 8 := by omega
      go_wp2_with fail
      go_loopw [7, 8, 9] (fun p i _ wr => ∃ k : Nat, 8 ≤ k ∧ k ≤ 60 ∧ i = .int .i64 k ∧ p = .int .u8 ((dpow ((k - 1) / 8)).toNat : Int) ∧ Blk wr w.heap.size (cs (List.replicate 240 0)) 145 ∧ Blk wr (w.heap.size + 1) (cs (fill F 240 (4 * k))) 145 ∧ Below w.heap.size w wr) (fun _ i _ _ => 60 - (intOf i).toNat)
      case atStart => exact ⟨8, by omega, by omega, rfl, rfl, d0, d1, hd⟩
      case round =>
        clear d0 d1 hd hk hlt
        obtain ⟨k, hk8, hk, rfl, rfl, d0, d1, hd⟩ := hrel
        by_cases hlt : k < 60
        · have h0 : (0 : Int) ≤ (k : Int) := by omega
          have h8 : (8 : Int) ≤ (k : Int) := by omega
          have h60 : (k : Int) < 60 := by omega
          obtain ⟨m, hm⟩ : ∃ m, m = k % 8 := ⟨_, rfl⟩
          have HM : Hid (m = k % 8) := hm
          have hm0 : (k : Int) % 8 = (m : Int) := by omega
          have hm1 : (k : Int).tmod 8 = (m : Int) := by rw [Int.tmod_eq_emod_of_nonneg (by omega)]; omega
          clear hm
          obtain ⟨X, hX⟩ : ∃ X, X = wd F (k - 1) := ⟨_, rfl⟩
          have HXL : Hid (X.length = 4) := by show _ = _; rw [hX]; exact wd_length (by have := HF.out; omega)
          have HCX : Hid ((cs X).length = 4) := by show _ = _; rw [cs_length, HXL.out]
          have rX := word_range d1 HF.out hk (show k - 1 < k by omega)
          have HHi : Hid (wd F k = xorL (wd F (k - 8)) (tmpW X k)) := by show _ = _; rw [hX]; exact HHigh.out k hlt hk8
          rw [← hX] at rX
          clear hX
          obtain ⟨P, hP⟩ : ∃ P, P = dpow ((k - 1) / 8) := ⟨_, rfl⟩
          rw [← hP]
          have HP : Hid (P = dpow ((k - 1) / 8)) := hP
          clear hP
          go_upto_block 4 with (first
            | (with_reducible refine at_ld 143 ?_; refine ld 143 (.tmp 28) 4 sizeW _ Tryz.underlying143 rfl (w.heap.size + 1) ((k - 1) * 4) _ HCX.out rX rfl ?_)
            | (with_reducible refine at_st 143 ?_; refine st' 143 (.tmp 9) (.tmp 29) 4 sizeW wr.heap.size 0 _ HCX.out cs_one ((Blk.new wr z4 143).there 0 4 (by decide)) rfl rfl ?_; intro w2 hw2
               have e2 : Blk w2 wr.heap.size (cs X) 143 := by rw [hw2]; exact (Blk.new wr z4 143).setsW _ (by rw [HCX.out]; rfl)
               have e0 : Blk w2 w.heap.size (cs (List.replicate 240 0)) 145 := by rw [hw2]; exact Blk.setsO (by have := d0.lt; omega) _ (d0.old _) 0
               have e1 : Blk w2 (w.heap.size + 1) (cs (fill F 240 (4 * k))) 145 := by rw [hw2]; exact Blk.setsO (by have := d1.lt; omega) _ (d1.old _) 0
               have he : Below w.heap.size w w2 := by rw [hw2]; exact below_sets hd.size _ (hd.alloc hd.size _) 0
               clear hw2))
          have hl1 := d1.lt
          generalize hgl2 : wr.heap.size = gl at *
          clear hgl2 d0 d1 hd rX
          go_cut [7] (fun p wx => p = .int .u8 ((dpow (k / 8)).toNat : Int) ∧ Blk wx gl (cs (tmpW X k)) 143 ∧ Blk wx w.heap.size (cs (List.replicate 240 0)) 145 ∧ Blk wx (w.heap.size + 1) (cs (fill F 240 (4 * k))) 145 ∧ Below w.heap.size w wx)
          case first =>
            have HTb : Hid (Tab w2 g) := hT.below he hgl
            by_cases hz : m = 0
            · have HK : Hid (k % 8 = 0) := by show _ = _; rw [← HM.out]; exact hz
              subst hz
              obtain ⟨T, hTe⟩ : ∃ T, T = [X.getD 1 0, X.getD 2 0, X.getD 3 0, X.getD 0 0] := ⟨_, rfl⟩
              obtain ⟨B, hB⟩ : ∃ B, B = T.map box := ⟨_, rfl⟩
              have HBL : Hid (B.length = 4) := by show _ = _; rw [hB, hTe]; rfl
              have HCB : Hid ((cs B).length = 4) := by show _ = _; rw [cs_length, HBL.out]
              have CT : Hid (∀ w, Calls Tryz.prog 100 #[.agg (cs X).toArray] w fun e w' => e = .returned (.agg (cs T).toArray) ∧ Below w.heap.size w w') := fun w => by rw [hTe]; exact oTurnedX w X HXL.out
              have CB : Hid (∀ w, Tab w g → Calls Tryz.prog 99 #[.pointer (some ⟨g, 0, none⟩), .agg (cs T).toArray] w fun e w' => e = .returned (.agg (cs B).toArray) ∧ Below w.heap.size w w') := fun w h => by rw [hB]; exact oBoxed w g h T (by rw [hTe]; rfl)
              obtain ⟨y, hy⟩ : ∃ y, y = B.getD 0 0 := ⟨_, rfl⟩
              have HE : Hid (B.set 0 (y ^^^ P) = tmpW X k) := by show _ = _; rw [hy, hB, hTe, HP.out]; exact tmp_first X HK.out
              have HPN : Hid (dbl P = dpow (k / 8)) := by show _ = _; rw [HP.out]; exact pow_up hk8 HK.out
              have HY : Hid (y = B.getD 0 0) := hy
              clear hTe hB hy
              have hPl := b_lt P
              have hp0 : (0 : Int) ≤ (P.toNat : Int) := by omega
              have hp1 : (P.toNat : Int) < 256 := by omega
              have hgne : ¬ g = gl := by omega
              have hgne' : ¬ gl = g := by omega
              go_wp2_with (first
                | (with_reducible refine at_ld 143 ?_; refine ld 143 (.tmp 9) 4 sizeW _ Tryz.underlying143 rfl gl 0 _ HCX.out e2.whole rfl ?_)
                | (go_at_call 100; refine (CT.out w2).mono ?_; rintro e w3 ⟨rfl, hb3⟩; have he3 := he.trans (hb3.mono he.size))
                | (go_at_call 99; refine (CB.out w3 (hT.below he3 hgl)).mono ?_; rintro e w4 ⟨rfl, hb4⟩; have he4 := he3.trans (hb4.mono he3.size); have e2' := (e2.below hb3 e2.lt).below hb4 (Nat.lt_of_lt_of_le e2.lt hb3.size); have e0' := (e0.below hb3 e0.lt).below hb4 (Nat.lt_of_lt_of_le e0.lt hb3.size); have e1' := (e1.below hb3 e1.lt).below hb4 (Nat.lt_of_lt_of_le e1.lt hb3.size))
                | (with_reducible refine at_st 143 ?_; refine st' 143 (.tmp 9) (.tmp 37) 4 sizeW gl 0 _ HCB.out cs_one (e2'.there 0 4 (by rw [HCX.out]; omega)) rfl rfl ?_; intro w5 hw5
                   have i2 : Blk w5 gl (cs B) 143 := by rw [hw5]; exact e2'.setsW _ (by rw [HCX.out, HCB.out])
                   have i0 : Blk w5 w.heap.size (cs (List.replicate 240 0)) 145 := by rw [hw5]; exact Blk.setsO (by omega) _ e0' 0
                   have i1 : Blk w5 (w.heap.size + 1) (cs (fill F 240 (4 * k))) 145 := by rw [hw5]; exact Blk.setsO (by omega) _ e1' 0
                   have hi5 : Below w.heap.size w w5 := by rw [hw5]; exact below_sets (by omega) _ he4 0
                   have q0 := i2.at8 (k := 0) (by rw [HBL.out]; omega)
                   rw [← HY.out] at q0
                   have f0 := i2.free 0
                   have tw0 := (hT.below hi5 hgl).tw P
                   clear hw5))
              go_meet
              case rel =>
                refine ⟨by rw [← HPN.out], ?_, i0.setO (by simp; omega) _, i1.setO (by simp; omega) _, hi5.setCell (by simp; omega) _⟩
                rw [xor_u8, ← HE.out]
                exact i2.set8 0 _
            · by_cases h4 : m = 4
              · have HK : Hid (k % 8 = 4) := by show _ = _; rw [← HM.out]; exact h4
                subst h4
                obtain ⟨B, hB⟩ : ∃ B, B = X.map box := ⟨_, rfl⟩
                have HBL : Hid (B.length = 4) := by show _ = _; rw [hB, List.length_map, HXL.out]
                have HCB : Hid ((cs B).length = 4) := by show _ = _; rw [cs_length, HBL.out]
                have CB : Hid (∀ w, Tab w g → Calls Tryz.prog 99 #[.pointer (some ⟨g, 0, none⟩), .agg (cs X).toArray] w fun e w' => e = .returned (.agg (cs B).toArray) ∧ Below w.heap.size w w') := fun w h => by rw [hB]; exact oBoxed w g h X HXL.out
                have HE : Hid (B = tmpW X k) := by show _ = _; rw [hB]; exact tmp_half X HK.out
                have HPN : Hid (P = dpow (k / 8)) := by show _ = _; rw [HP.out]; exact pow_stay (by rw [HK.out]; omega)
                clear hB hz
                go_wp2_with (first
                  | (with_reducible refine at_ld 143 ?_; refine ld 143 (.tmp 9) 4 sizeW _ Tryz.underlying143 rfl gl 0 _ HCX.out e2.whole rfl ?_)
                  | (go_at_call 99; refine (CB.out w2 HTb.out).mono ?_; rintro e w4 ⟨rfl, hb4⟩; have he4 := he.trans (hb4.mono he.size); have e2' := e2.below hb4 e2.lt; have e0' := e0.below hb4 e0.lt; have e1' := e1.below hb4 e1.lt)
                  | (with_reducible refine at_st 143 ?_; refine st' 143 (.tmp 9) (.tmp 53) 4 sizeW gl 0 _ HCB.out cs_one (e2'.there 0 4 (by rw [HCX.out]; omega)) rfl rfl ?_; intro w5 hw5
                     have i2 : Blk w5 gl (cs B) 143 := by rw [hw5]; exact e2'.setsW _ (by rw [HCX.out, HCB.out])
                     have i0 : Blk w5 w.heap.size (cs (List.replicate 240 0)) 145 := by rw [hw5]; exact Blk.setsO (by omega) _ e0' 0
                     have i1 : Blk w5 (w.heap.size + 1) (cs (fill F 240 (4 * k))) 145 := by rw [hw5]; exact Blk.setsO (by omega) _ e1' 0
                     have hi5 : Below w.heap.size w w5 := by rw [hw5]; exact below_sets (by omega) _ he4 0
                     clear hw5))
                go_meet
                case rel => exact ⟨by rw [← HPN.out], by rw [← HE.out]; exact i2, i0, i1, hi5⟩
              · have HE : Hid (X = tmpW X k) := tmp_same X (by rw [← HM.out]; exact hz) (by rw [← HM.out]; exact h4)
                have HPN : Hid (P = dpow (k / 8)) := by show _ = _; rw [HP.out]; exact pow_stay (by rw [← HM.out]; exact hz)
                have z0 : ((m : Int) == 0) = false := by simp; omega
                have z4 : ((m : Int) == 4) = false := by simp; omega
                clear hz h4
                go_wp2_with fail
                go_meet
                case rel => exact ⟨by rw [← HPN.out], by rw [← HE.out]; exact e2, e0, e1, he⟩
          case rest =>
            clear e0 e1 e2 he
            obtain ⟨rfl, e2, e0, e1, he⟩ := hcut
            have HWL : Hid ((wd F (k - 8)).length = 4) := wd_length (by have := HF.out; omega)
            have HTL : Hid ((tmpW X k).length = 4) := tmpW_length HXL.out k
            have hBa : Bs wc (some ⟨w.heap.size + 1, (k - 8) * 4, none⟩) 4 4 (wd F (k - 8)) := by
              have := Bs.of_range (word_range e1 HF.out hk (show k - 8 < k by omega)) (c := 4) (by rw [HWL.out]; omega) (by omega)
              rw [HWL.out] at this
              exact this
            have hBb : Bs wc (some ⟨gl, 0, none⟩) 4 4 (tmpW X k) := by
              have := Bs.of_range e2.whole (c := 4) (by rw [HTL.out]; omega) (by omega)
              rw [HTL.out] at this
              exact this
            have HX4 : Hid ((xorL (wd F (k - 8)) (tmpW X k)).length = 4) := by show _ = _; rw [xorL_length (by rw [HWL.out, HTL.out]), HWL.out]
            have HFL : Hid ((fill F 240 (4 * k)).length = 240) := fill_length HF.out (by omega)
            have s8 : IntKind.i64.wrap ((k : Int) - 8) = (k : Int) - 8 := by rw [IntKind.wrap_i64]; omega
            have p8 : (0 : Int) ≤ (k : Int) - 8 := by omega
            have q8 : (k : Int) - 8 < 60 := by omega
            have r8 : ((k : Int) - 8).toNat = k - 8 := by omega
            go_wp2_with fail
            go_region_held3 (fun _ => True) (trivial) (first
              | (go_at_call 93; refine (oXor wc.drew hBa.drew hBb.drew (by omega) (by omega)).mono ?_; rintro e w6 ⟨a6, m6, c6, rfl, ho6, hb6⟩; have hB6 := ho6.toBs; have hm6 : m6 = 4 := by rw [← hB6.len]; exact HX4.out
                 subst hm6; have e1' := e1.dr.below hb6 e1.lt)
              | (refine step_cp (by rfl) (.tmp 56) (.tmp 62) (by rfl) (w.heap.size + 1) (k * 4) 4 4 (by rfl) a6 4 c6 (by rfl) _ hB6 (cs (fill F 240 (4 * k))) 145 e1' 4 (by rfl) (by rw [cs_length, HFL.out]; omega) (by omega) ?_; intro w7 hc7))
            go_wp2_with fail
            go_roundw
            case rel =>
              have he6 : Below w.heap.size w w6 := he.drew.trans (hb6.mono he.size)
              (repeat apply Exists.intro)
              refine ⟨?_, rfl⟩
              refine ⟨k + 1, by omega, by omega, by go_num, by rw [Nat.add_sub_cancel], hc7.other (e0.dr.below hb6 e0.lt) (by omega), hc7.word HF.out hlt ?_, hc7.below he6 (by omega) he6.size⟩
              rw [List.take_of_length_le (by rw [HX4.out]; omega), HHi.out]
            case measure => simp [intOf]; omega
        · obtain rfl : k = 60 := by omega
          rw [show 4 * 60 = 240 from rfl, fill_end HF.out] at d1
          have HL : Hid ((cs F).length = 240) := by show _ = _; rw [cs_length, HF.out]
          go_wp2_with (first
            | (with_reducible refine at_ld 145 ?_; refine ld 145 (.tmp 5) 240 sizeS _ Tryz.underlying145 rfl (w.heap.size + 1) 0 _ HL.out d1.whole rfl ?_)
            | (with_reducible refine at_st 145 ?_; refine st 145 (.tmp 4) (.tmp 64) 240 sizeS w.heap.size 0 _ HL.out cs_one (d0.there 0 240 (by rw [cs_length, List.length_replicate]; omega)) rfl rfl ?_))
          have b3 := d0.setsW (cs F) (by rw [HL.out, cs_length, List.length_replicate])
          exact bodyPost_ret (v := .agg (cs F).toArray) (res_blk Tryz.results84 _ _ w.heap.size _ _ _ rfl b3 Tryz.underlying145 240 HL.out sizeS) rfl ⟨rfl, below_sets (Nat.le_refl _) _ hd 0⟩

end Go.Proofs.YtfknplcnfpincaaGreat

/-
  The contract of 'keys': the keys of all rounds out of the words. Condition: 240 bytes.
-/
namespace Go.Proofs.YtfknplcnfpincaaGreat
open Go.RowKit

theorem sizeR : (Tryz.prog.info? 122).map (·.size) = some 240 := by kernel_rfl
theorem zeroR : Tryz.zeroCells122 = zarr 240 := by kernel_rfl
attribute [local go_sem] zeroR

/-- A word of a row of words. -/
theorem idxW (F : List UInt8) (k : Nat) (hk : k < 60) (w : World) :
    Sem.run Tryz.prog (Instr.index 145 (.agg (cs F).toArray) (.int .i64 (k : Int))) w = .ok (.agg (cs (wd F k)).toArray) w := by
  have e : ((cs F).drop (k * 4)).take 4 = cs (wd F k) := by
    unfold wd cs
    rw [List.map_take, List.map_drop, Nat.mul_comm]
  simp [Instr.index, asIntOf, run_underlying Tryz.underlying145, part, hk, e]

theorem cutK (g o m : Nat) (hm : m < 4) (w : World) : Sem.run Tryz.prog (Instr.sliceAt 119 (.pointer (some ⟨g, o, none⟩)) (some (.int .i64 ((m : Int) * 4))) none none) w = .ok (.slice (some ⟨g, o + m * 4, none⟩) (16 - m * 4) (16 - m * 4)) w := by
  rw [run_sliceAt_array_l w 119 _ undK .i64 _ (by omega) (by rw [lenK]; omega), elK]
  simp only [Result.andThen, slicedAt, lenK]
  rw [show ((m : Int) * 4).toNat = m * 4 from by omega, if_neg (by omega), add_mid', Nat.mul_one]

set_option maxRecDepth 100000 in
set_option maxHeartbeats 2000000 in
theorem oKeys (w : World) (F : List UInt8) (hF : F.length = 240) :
    Calls Tryz.prog 85 #[bv F] w fun e w' => e = .returned (bv F) ∧ Below w.heap.size w w' := by
  have hne := zarr_ne (n := 240) (by omega)
  have hall := allW
  have HF : Hid (F.length = 240) := hF
  have HL : Hid ((cs F).length = 240) := by show _ = _; rw [cs_length, hF]
  clear hF
  unfold bv
  go_enter Tryz.func85, Tryz.ntmps85
  go_wp2_with (first
    | (with_reducible refine at_ld 145 ?_; refine ld 145 (.tmp 1) 240 sizeS _ Tryz.underlying145 rfl w.heap.size 0 _ HL.out (((Blk.new w _ _).old _).old _).whole rfl ?_))
  obtain ⟨W2, hW2⟩ : ∃ W2, W2 = ((w.alloc (.cells (cs F).toArray 145)).alloc (.cells (zarr 240) 122)).alloc (.cells (zarr 240) 122) := ⟨_, rfl⟩
  rw [← hW2]
  have d0 : Blk W2 (w.heap.size + 1) (cs (List.replicate 240 0)) 122 := by rw [hW2, ← zarr_toList]; exact (Blk.newAt (w.alloc _) _ _ _ (by simp) _ rfl).old _
  have d1 : Blk W2 (w.heap.size + 1 + 1) (cs (fill F 240 0)) 122 := by rw [hW2, fill_zero, ← zarr_toList]; exact Blk.newAt ((w.alloc _).alloc _) _ _ _ (by simp) _ rfl
  have hd : Below w.heap.size w W2 := by rw [hW2]; exact below3 w _ _ _
  clear hW2
  go_loopw [4, 5, 7] (fun _ _ i wr => ∃ k : Nat, k ≤ 60 ∧ i = .int .i64 k ∧ Blk wr (w.heap.size + 1) (cs (List.replicate 240 0)) 122 ∧ Blk wr (w.heap.size + 1 + 1) (cs (fill F 240 (4 * k))) 122 ∧ Below w.heap.size w wr) (fun _ _ i _ => 60 - (intOf i).toNat)
  case atStart => exact ⟨0, by omega, rfl, d0, d1, hd⟩
  case round =>
    clear d0 d1 hd
    obtain ⟨k, hk, rfl, d0, d1, hd⟩ := hrel
    by_cases hlt : k < 60
    · have h0 : (0 : Int) ≤ (k : Int) := by omega
      have h60 : (k : Int) < 60 := by omega
      have hix := idxW F k hlt
      obtain ⟨q, hq⟩ : ∃ q, q = k / 4 := ⟨_, rfl⟩
      obtain ⟨m, hm⟩ : ∃ m, m = k % 4 := ⟨_, rfl⟩
      have hml : m < 4 := by omega
      have HO : Hid (q * 16 + m * 4 = k * 4) := by show _ = _; omega
      have hq0 : (k : Int) / 4 = (q : Int) := by omega
      have hq1 : (k : Int).tdiv 4 = (q : Int) := by rw [Int.tdiv_eq_ediv_of_nonneg (by omega)]; omega
      have hm0 : (k : Int) % 4 = (m : Int) := by omega
      have hm1 : (k : Int).tmod 4 = (m : Int) := by rw [Int.tmod_eq_emod_of_nonneg (by omega)]; omega
      have hq2 : (0 : Int) ≤ (q : Int) := by omega
      have hq3 : (q : Int) < 15 := by omega
      have hwq : IntKind.i64.wrap (q : Int) = (q : Int) := by rw [IntKind.wrap_i64]; omega
      have hwm : IntKind.i64.wrap ((m : Int) * 4) = (m : Int) * 4 := by rw [IntKind.wrap_i64]; omega
      have hcut := fun g o => cutK g o m hml
      clear hq hm
      have HW := wd_length (F := F) (j := k) (by have := HF.out; omega)
      obtain ⟨X, hX⟩ : ∃ X, X = wd F k := ⟨_, rfl⟩
      rw [← hX] at hix HW
      have HX : Hid (X = wd F k) := hX
      have HXL : Hid (X.length = 4) := HW
      have HCX : Hid ((cs X).length = 4) := by show _ = _; rw [cs_length, HXL.out]
      have HFL : Hid ((fill F 240 (4 * k)).length = 240) := fill_length HF.out (by omega)
      clear hX HW
      go_wp2_with (first
        | (with_reducible refine at_st 143 ?_; refine st' 143 (.tmp 5) (.tmp 10) 4 sizeW wr.heap.size 0 _ HCX.out cs_one ((Blk.new wr z4 143).there 0 4 (by decide)) rfl rfl ?_; intro w2 hw2
           have e2 : Blk w2 wr.heap.size (cs X) 143 := by rw [hw2]; exact (Blk.new wr z4 143).setsW _ (by rw [HCX.out]; rfl)
           have e0 : Blk w2 (w.heap.size + 1) (cs (List.replicate 240 0)) 122 := by rw [hw2]; exact Blk.setsO (by have := d0.lt; omega) _ (d0.old _) 0
           have e1 : Blk w2 (w.heap.size + 1 + 1) (cs (fill F 240 (4 * k))) 122 := by rw [hw2]; exact Blk.setsO (by have := d1.lt; omega) _ (d1.old _) 0
           have he : Below w.heap.size w w2 := by rw [hw2]; exact below_sets hd.size _ (hd.alloc hd.size _) 0
           clear hw2))
      have hBb : Bs w2 (some ⟨wr.heap.size, 0, none⟩) 4 4 X := by
        have := Bs.of_range e2.whole (c := 4) (by rw [HXL.out]; omega) (by omega)
        rw [HXL.out] at this
        exact this
      go_region_held3 (fun _ => True) (trivial) ((refine step_cp (by rfl) (.tmp 17) (.tmp 18) (by rfl) (w.heap.size + 1 + 1) (q * 16 + m * 4) (16 - m * 4) (16 - m * 4) (by rfl) (some ⟨wr.heap.size, 0, none⟩) 4 4 (by rfl) X hBb.drew (cs (fill F 240 (4 * k))) 122 e1.dr 4 (by show 4 = min 4 _; omega) (by have := HO.out; rw [cs_length, HFL.out]; omega) (by omega) ?_; intro w7 hc7))
      rw [HO.out] at hc7
      go_wp2_with fail
      go_roundw
      case rel => exact ⟨k + 1, by omega, by go_num, hc7.other e0.dr (by omega), hc7.word HF.out hlt (by rw [List.take_of_length_le (by rw [HXL.out]; omega), HX.out]), hc7.below he.drew (by omega) he.size⟩
      case measure => simp [intOf]; omega
    · obtain rfl : k = 60 := by omega
      rw [show 4 * 60 = 240 from rfl, fill_end HF.out] at d1
      go_wp2_with (first
        | (with_reducible refine at_ld 122 ?_; refine ld 122 (.tmp 3) 240 sizeR _ Tryz.underlying122 rfl (w.heap.size + 1 + 1) 0 _ HL.out d1.whole rfl ?_)
        | (with_reducible refine at_st 122 ?_; refine st 122 (.tmp 2) (.tmp 21) 240 sizeR (w.heap.size + 1) 0 _ HL.out cs_one (d0.there 0 240 (by rw [cs_length, List.length_replicate]; omega)) rfl rfl ?_))
      have b3 := d0.setsW (cs F) (by rw [HL.out, cs_length, List.length_replicate])
      exact bodyPost_ret (v := .agg (cs F).toArray) (res_blk Tryz.results85 _ _ (w.heap.size + 1) _ _ _ rfl b3 Tryz.underlying122 240 HL.out sizeR) rfl ⟨rfl, below_sets (by omega) _ hd 0⟩

end Go.Proofs.YtfknplcnfpincaaGreat

/-
  The contract of 'New': the cipher of a key of 32 bytes; and that other keys are refused. Condition: the tables lie where the pointer leads.
-/
namespace Go.Proofs.YtfknplcnfpincaaGreat
open Go.RowKit

theorem built57 (parts : List (Nat × Value)) : Tryz.prog.built 124 parts = Instr.fill (#[(0, 512), (512, 240)][·]?) (zarr 752) parts := by kernel_rfl
theorem fold_set (A : List Value) : ∀ (k : Nat) (cells : Array Value) (off : Nat), off + k + A.length ≤ cells.size →
    ((A.zipIdx k).foldl (fun cs (c, j) => cs.setIfInBounds (off + j) c) cells).toList = cells.toList.take (off + k) ++ A ++ cells.toList.drop (off + k + A.length) := by
  induction A with
  | nil => intro k cells off _; simp
  | cons a A ih =>
    intro k cells off h
    rw [List.zipIdx_cons, List.foldl_cons, ih (k + 1) _ off (by simp at h ⊢; omega)]
    simp only [Array.toList_setIfInBounds]
    have := list_seg_step cells.toList (off + k) a A (by simp at h ⊢; omega)
    exact this
theorem fold_arr (A : List Value) (cells : Array Value) (off : Nat) (h : off + A.length ≤ cells.size) :
    (A.toArray.zipIdx.foldl (fun cs (c, j) => cs.setIfInBounds (off + j) c) cells) = (cells.toList.take off ++ A ++ cells.toList.drop (off + A.length)).toArray := by
  apply Array.toList_inj.1
  have := fold_set A 0 cells off (by omega)
  rw [Nat.add_zero] at this
  rw [← this]
  simp

def bC (P : Program) (A B : Array Value) : Option (Array Value) := P.built 124 [(0, .agg A), (1, .agg B)]
theorem fill_one {place : Nat → Option (Nat × Nat)} {cells : Array Value} {i off size : Nat} {A : List Value} {rest : List (Nat × Value)} (hp : place i = some (off, size)) (hs : A.length = size) (hf : off + size ≤ cells.size) :
    Instr.fill place cells ((i, .agg A.toArray) :: rest) = Instr.fill place (cells.toList.take off ++ A ++ cells.toList.drop (off + size)).toArray rest := by
  have h1 : (Value.agg A.toArray).cells = A.toArray := rfl
  have h2 : A.toArray.size = size := by rw [List.size_toArray, hs]
  subst hs
  rw [Instr.fill, hp, ← fold_arr A cells off hf]
  show (if _ then none else _) = _
  rw [if_neg (by rw [h1, h2]; simp; omega)]
  rfl
theorem bC_of {A B : List Value} (hA : A.length = 512) (hB : B.length = 240) : bC Tryz.prog A.toArray B.toArray = some (A ++ B).toArray := by
  have hz : (zarr 752).toList.length = 752 := by rw [zarr_toList, cs_length, List.length_replicate]
  have hz' : (zarr 752).size = 752 := by rw [← Array.length_toList, hz]
  unfold bC
  rw [built57, fill_one (off := 0) (size := 512) rfl hA (by omega), List.take_zero, List.nil_append, Nat.zero_add]
  have hZ : ((zarr 752).toList.drop 512).length = 240 := by rw [List.length_drop, hz]
  generalize (zarr 752).toList.drop 512 = Z at hZ
  rw [fill_one (off := 512) (size := 240) rfl hB (by rw [List.size_toArray, List.length_append, hA, hZ]; omega), Instr.fill]
  congr 2
  show (A ++ Z).take 512 ++ B ++ (A ++ Z).drop (512 + 240) = A ++ B
  rw [List.drop_eq_nil_of_le (by rw [List.length_append, hA, hZ]; omega), List.append_nil, List.take_append_of_le_length (by omega), List.take_of_length_le (by omega)]

def bd57 (parts : Array (Nat × Value)) : Sem Value := Instr.build 124 parts
theorem bd57_in (parts : Array (Nat × Value)) : Instr.build 124 parts = bd57 parts := rfl
def farBd (P : Program) (A B : Array Value) (w : World) : Result Value := Sem.run P (bd57 #[(0, .agg A), (1, .agg B)]) w
theorem bd57_run (A B : Array Value) (w : World) : Sem.run Tryz.prog (bd57 #[(0, .agg A), (1, .agg B)]) w = match bC Tryz.prog A B with | some c => .ok (.agg c) w | none => farBd Tryz.prog A B w := by
  split
  · rename_i c h
    exact run_build w 124 _ c h
  · rfl

theorem sizeT : (Tryz.prog.info? 73).map (·.size) = some 512 := by kernel_rfl
/-- The 512 cells from a place on, where they are all there. -/
def rowT (w : World) (b o : Nat) : Option (Array Value) :=
  if ∀ j, j < 512 → (w.cell? ⟨b, o + j, none⟩).isSome = true then some ((List.range 512).map fun j => (w.cell? ⟨b, o + j, none⟩).getD undef).toArray else none
def farLdT (P : Program) (w : World) (b o : Nat) : Result Value := Sem.run P (Instr.loadAt 73 (.pointer (some ⟨b, o, none⟩))) w
def ldT (x : Value) : Sem Value := Instr.loadAt 73 x
theorem ldT_in (x : Value) : Instr.loadAt 73 x = ldT x := rfl
theorem ldT_run (w : World) (b o : Nat) : Sem.run Tryz.prog (ldT (.pointer (some ⟨b, o, none⟩))) w = match rowT w b o with | some c => .ok (.agg c) w | none => farLdT Tryz.prog w b o := by
  unfold rowT
  split
  · rename_i c hc
    split at hc
    · rename_i h
      simp only [Option.some.injEq] at hc
      subst hc
      refine run_loadAt_mid w b o 73 _ _ (fun j v hv => ?_) Tryz.underlying73 rfl (by rw [sizeT, List.length_map, List.length_range])
      have hj : j < 512 := by
        have := (List.getElem?_eq_some_iff.1 hv).1
        rw [List.length_map, List.length_range] at this
        exact this
      have e := h j hj
      obtain ⟨u, hu⟩ := Option.isSome_iff_exists.1 e
      rw [List.getElem?_map, List.getElem?_range hj] at hv
      simp only [Option.map_some, Option.some.injEq] at hv
      rw [hu, ← hv, hu]
      rfl
    · simp at hc
  · rfl
theorem rowT_drew (w : World) (b o : Nat) : rowT w.drew b o = rowT w b o := rfl
set_option maxRecDepth 100000 in
theorem rowT_of {w : World} {b o : Nat} {c : List Value} (h : w.rangeAt b o c) (hc : c.length = 512) : rowT w b o = some c.toArray := by
  have hs : ∀ j, j < 512 → w.cell? ⟨b, o + j, none⟩ = c[j]? := fun j hj => by
    rw [h j c[j] (List.getElem?_eq_getElem (by omega)), List.getElem?_eq_getElem]
  unfold rowT
  rw [if_pos (fun j hj => by rw [hs j hj, List.getElem?_eq_getElem (by omega)]; rfl)]
  congr 2
  apply List.ext_getElem
  · rw [List.length_map, List.length_range, hc]
  · intro j h1 h2
    simp only [List.getElem_map, List.getElem_range]
    rw [hs j (by omega), List.getElem?_eq_getElem h2]
    rfl

/-- What New leaves: a cipher in new memory. -/
def HasC (w : World) (K : List UInt8) (e : Ending) (w' : World) : Prop := ∃ r, e = .returned (.tuple #[.pointer (some ⟨r, 0, none⟩), .int .i64 0]) ∧ w.heap.size ≤ r ∧ Cip w' r K ∧ Below w.heap.size w w'

attribute [local go_sem ↓] ldT_in bd57_in
attribute [local go_sem] ldT_run rowT_drew bd57_run
set_option maxRecDepth 100000 in
set_option maxHeartbeats 2000000 in
theorem oNewC (w : World) (g : Nat) (hT : Tab w g) {a : Option Addr} {c : Nat} {key : List UInt8} (ha : Bs w a 32 c key) :
    Calls Tryz.prog 67 #[.pointer (some ⟨g, 0, none⟩), .slice a 32 c] w (HasC w (keyF key)) := by
  have hgl := hT.lt
  have HTL : Hid ((cs tabT).length = 512) := by show _ = _; rw [cs_length, tabT_length]
  have HKL : Hid ((keyF key).length = 240) := keyF_length ha.len
  have HCL : Hid ((cs (keyF key)).length = 240) := by show _ = _; rw [cs_length, HKL.out]
  have q0 := rowT_of hT HTL.out
  have hbc := bC_of HTL.out HCL.out
  have CS : Hid (∀ w, Tab w g → Bs w a 32 c key → Calls Tryz.prog 84 #[.pointer (some ⟨g, 0, none⟩), .slice a 32 c] w fun e w' => e = .returned (.agg (cs (keyF key)).toArray) ∧ Below w.heap.size w w') := fun w h h' => oSched w g h h'
  have CK : Hid (∀ w, Calls Tryz.prog 85 #[.agg (cs (keyF key)).toArray] w fun e w' => e = .returned (.agg (cs (keyF key)).toArray) ∧ Below w.heap.size w w') := fun w => oKeys w _ HKL.out
  rw [← cs_append] at hbc
  generalize hX : cs (tabT ++ keyF key) = X at hbc
  have HX : Hid (cs (tabT ++ keyF key) = X) := hX
  clear hX
  have HT : Hid (Tab w g) := hT
  clear hT
  go_enter Tryz.func67, Tryz.ntmps67
  go_wp2_with fail
  go_region_with (first
    | (go_at_call 84; refine (CS.out w.drew HT.out ha.drew).mono ?_; rintro e w2 ⟨rfl, hb2⟩; have q2 := rowT_of (HT.out.dr.below hb2 hgl) HTL.out)
    | (go_at_call 85; refine (CK.out w2).mono ?_; rintro e w3 ⟨rfl, hb3⟩; have q3 := rowT_of ((HT.out.dr.below hb2 hgl).below hb3 (Nat.lt_of_lt_of_le hgl hb2.size)) HTL.out))
  all_goals
    go_wp2_with fail
    go_ret2
    have h3 : Below w.heap.size w w3 := ((Below.refl _ w).drew.trans hb2).trans (hb3.mono hb2.size)
    refine ⟨w3.heap.size, rfl, h3.size, ?_, h3.alloc h3.size _⟩
    unfold Cip
    rw [HX.out]
    exact (Blk.new w3 X.toArray _).whole

theorem oNewNot (w : World) (g : Nat) {a : Option Addr} {n c : Nat} (hn : ¬ n = 32) :
    Calls Tryz.prog 67 #[.pointer (some ⟨g, 0, none⟩), .slice a n c] w fun e w' => e = .returned (.tuple #[.pointer none, .int .i64 17]) ∧ w = w' := by
  have h1 : ((n : Int) != 32) = true := by simp; omega
  go_enter Tryz.func67, Tryz.ntmps67
  go_wp2
  go_ret2
  exact ⟨rfl, rfl⟩
theorem oNewNil (w : World) {a : Option Addr} {n c : Nat} :
    Calls Tryz.prog 67 #[.pointer none, .slice a n c] w fun e w' => e = .returned (.tuple #[.pointer none, .int .i64 1]) ∧ w = w' := by
  go_enter Tryz.func67, Tryz.ntmps67
  go_wp2
  go_ret2
  exact ⟨rfl, rfl⟩

end Go.Proofs.YtfknplcnfpincaaGreat

/-
  The contract of layer 6's New: the key of 32 bytes; and that other keys are refused. Condition: the tables lie where the pointer leads.
-/
namespace Go.Proofs.YtfknplcnfpincaaGreat
open Go.RowKit

/-- A load of a whole struct or array, the one that may come up; and one whose place is known in every world. -/
theorem opLdR {ops : Array Oper} {Q : Exit → Act → World → Prop} {i : Nat} {oi : Oper} (d : Option Tmp) (hi : ops[i]? = some oi) (hd : oi.dst = d) (hg : oi.guard = none) (ty : TypeId) (x : Operand) (ho : oi.op = .load ty x) {K : Act → World → Prop} {a : Act} {w : World} (n : Nat) (hz : (Tryz.prog.info? ty).map (·.size) = some n) (td : TypeDesc) (hu : Tryz.prog.underlying ty = some td) (hrow : td.isRow = true) (g o : Nat) (c : List Value) (hl : c.length = n) (hx : a.eval x = .pointer (some ⟨g, o, none⟩)) (hc : w.rangeAt g o c)
    (k : K (a.put d (.agg c.toArray)) w) : wpOp Tryz.prog ops Q i K a w := by
  subst hd
  have hr := run_loadAt_mid (P := Tryz.prog) w g o ty c td hc hu hrow (by rw [hl]; exact hz)
  unfold wpOp
  simp only [hi]
  rw [if_pos (by simp [Region.wanted, hg])]
  left
  unfold Oper.wp
  simp [execOp, ho, hx, hr, Result.andThen]
  rw [Oper.upon_value]
  exact k
theorem ans_ldR {ops : Array Oper} {S : World → Prop} {oi : Oper} {a : Act} (ty : TypeId) (x : Operand) (ho : oi.op = .load ty x) (hw : Region.wanted oi (yielded ops a.tmps) = true) (n : Nat) (hz : (Tryz.prog.info? ty).map (·.size) = some n) (td : TypeDesc) (hu : Tryz.prog.underlying ty = some td) (hrow : td.isRow = true) (g o : Nat) (c : List Value) (hl : c.length = n) (hx : a.eval x = .pointer (some ⟨g, o, none⟩)) (hc : ∀ w, S w → w.rangeAt g o c) : Ans Tryz.prog ops S oi (.agg c.toArray) a := by
  refine ans_plain hw fun w hS => ?_
  have hr := run_loadAt_mid (P := Tryz.prog) w g o ty c td (hc w hS) hu hrow (by rw [hl]; exact hz)
  simp [execOp, ho, hx, hr, Result.andThen]

/-- A key of noughts, as cells. -/
def z784 : Array Value := (cs (List.replicate 752 0) ++ List.replicate 32 (Value.int .u64 0)).toArray
theorem built67 (parts : List (Nat × Value)) : Tryz.prog.built 134 parts = Instr.fill (#[(0, 752), (752, 32)][·]?) z784 parts := by kernel_rfl
theorem built67_of {A B : List Value} (hA : A.length = 752) (hB : B.length = 32) : Tryz.prog.built 134 [(0, .agg A.toArray), (1, .agg B.toArray)] = some (A ++ B).toArray := by
  have hz : z784.toList.length = 784 := by unfold z784; rw [List.toList_toArray, List.length_append, cs_length, List.length_replicate, List.length_replicate]
  have hz' : z784.size = 784 := by rw [← Array.length_toList, hz]
  rw [built67, fill_one (off := 0) (size := 752) rfl hA (by omega), List.take_zero, List.nil_append, Nat.zero_add]
  have hZ : (z784.toList.drop 752).length = 32 := by rw [List.length_drop, hz]
  generalize z784.toList.drop 752 = Z at hZ
  rw [fill_one (off := 752) (size := 32) rfl hB (by rw [List.size_toArray, List.length_append, hA, hZ]; omega), Instr.fill]
  congr 2
  show (A ++ Z).take 752 ++ B ++ (A ++ Z).drop (752 + 32) = A ++ B
  rw [List.drop_eq_nil_of_le (by rw [List.length_append, hA, hZ]; omega), List.append_nil, List.take_append_of_le_length (by omega), List.take_of_length_le (by omega)]
theorem ans_bd67 {ops : Array Oper} {S : World → Prop} {oi : Oper} {a : Act} (x y : Operand) (ho : oi.op = .build 134 #[(0, x), (1, y)]) (hw : Region.wanted oi (yielded ops a.tmps) = true) {A B : List Value} (hA : A.length = 752) (hB : B.length = 32) (hx : a.eval x = .agg A.toArray) (hy : a.eval y = .agg B.toArray) : Ans Tryz.prog ops S oi (.agg (A ++ B).toArray) a := by
  refine ans_plain hw fun w hS => ?_
  have hr := run_build (P := Tryz.prog) w 134 #[(0, .agg A.toArray), (1, .agg B.toArray)] _ (built67_of hA hB)
  simp only [execOp, ho, List.map_toArray, List.map_cons, List.map_nil, hx, hy]
  simp [hr, Result.andThen]
/-- A new variable that holds a whole struct, the one that may come up. -/
theorem opBoxR {ops : Array Oper} {Q : Exit → Act → World → Prop} {i : Nat} {oi : Oper} (d : Option Tmp) (hi : ops[i]? = some oi) (hd : oi.dst = d) (hg : oi.guard = none) (ty : TypeId) (x : Operand) (ho : oi.op = .box ty x) {K : Act → World → Prop} {a : Act} {w : World} (c : Array Value) (hx : a.eval x = .agg c)
    (k : K (a.put d (.pointer (some ⟨w.heap.size, 0, none⟩))) (w.alloc (.cells c ty))) : wpOp Tryz.prog ops Q i K a w := by
  subst hd
  have hK : Hid _ := k
  clear k
  unfold wpOp
  simp only [hi]
  rw [if_pos (by simp [Region.wanted, hg])]
  left
  unfold Oper.wp execOp
  simp only [ho, hx]
  go_simp
  exact hK.out

theorem sizeC : (Tryz.prog.info? 124).map (·.size) = some 752 := by kernel_rfl
theorem sizeTb : (Tryz.prog.info? 129).map (·.size) = some 32 := by kernel_rfl
theorem builtK : Tryz.prog.built 119 [] = some z16 := by kernel_rfl
/-- The cipher's cells, and the table's behind them, are a key. -/
theorem Gc.of {w : World} {r : Nat} {K : List UInt8} {B : List Value} {t : TypeId} (hK : K.length = 240) (h : Blk w r (cs (tabT ++ K) ++ B) t) (hB : ∀ i, i < 16 → B[i * 2]? = some (.int .u64 (hN (pr (hKey K) i) : Int)) ∧ B[i * 2 + 1]? = some (.int .u64 (lN (pr (hKey K) i) : Int))) : Gc w r K := by
  have hl : (cs (tabT ++ K)).length = 752 := by rw [cs_length, List.length_append, tabT_length, hK]
  refine ⟨?_, h.lt, fun i hi => ?_⟩
  · refine h.range 0 _ fun j v hv => ?_
    rw [Nat.zero_add, List.getElem?_append_left (by rcases Nat.lt_or_ge j (cs (tabT ++ K)).length with h | h; exact h; rw [List.getElem?_eq_none h] at hv; cases hv)]
    exact hv
  · rw [h.cell, h.cell, List.getElem?_append_right (by omega), List.getElem?_append_right (by omega), hl, show 752 + i * 2 - 752 = i * 2 from by omega, show 752 + i * 2 + 1 - 752 = i * 2 + 1 from by omega]
    exact hB i hi

set_option maxRecDepth 100000 in
set_option maxHeartbeats 4000000 in
theorem oGNew (w : World) (g : Nat) {a : Option Addr} {c : Nat} {key : List UInt8} (hT : Tab w g) (ha : Bs w a 32 c key) :
    Calls Tryz.prog 56 #[.pointer (some ⟨g, 0, none⟩), .slice a 32 c] w fun e w' => ∃ r, e = .returned (.tuple #[.pointer (some ⟨r, 0, none⟩), .int .i64 0]) ∧ Gc w' r (keyF key) ∧ Below w.heap.size w w' := by
  have HKL : Hid ((keyF key).length = 240) := keyF_length ha.len
  have HXL : Hid ((aesL (keyF key) (List.replicate 16 0)).length = 16) := blkS_length HKL.out (by simp) (Nat.le_refl _)
  have HH : Hid (hKey (keyF key) = feB (aesL (keyF key) (List.replicate 16 0))) := rfl
  have CN : Hid (Calls Tryz.prog 67 #[.pointer (some ⟨g, 0, none⟩), .slice a 32 c] w (HasC w (keyF key))) := oNewC w g hT ha
  have CB : Hid (∀ w r, Cip w r (keyF key) → Calls Tryz.prog 68 #[.pointer (some ⟨r, 0, none⟩), .agg z16] w fun e w' => e = .returned (.agg (cs (aesL (keyF key) (List.replicate 16 0))).toArray) ∧ Below w.heap.size w w') := fun w r h => oBlock w r _ h HKL.out (List.replicate 16 0) (by simp)
  generalize aesL (keyF key) (List.replicate 16 0) = X at *
  have HCX : Hid ((cs X).length = 16) := by show _ = _; rw [cs_length, HXL.out]
  generalize keyF key = K at *
  go_enter Tryz.func56, Tryz.ntmps56
  go_wp2_with (first
    | (go_at_call 67; go_must (refine CN.out.mono ?_); rintro e w1 ⟨r1, rfl, hr1, hC1, hb1⟩)
    | (with_reducible refine at_bd 119 ?_; refine bd 119 #[] [] z16 rfl builtK ?_)
    | (go_at_call 68; go_must (refine (CB.out w1 r1 hC1).mono ?_); rintro e w2 ⟨rfl, hb2⟩; have q2 := hb1.trans (hb2.mono hb1.size); have hC2 := hC1.below hb2 hC1.tab.lt)
    | (with_reducible refine at_st 119 ?_; refine st' 119 (.tmp 8) (.tmp 20) 16 sizeK w2.heap.size 0 _ HCX.out cs_one ((Blk.new w2 z16 119).there 0 16 (by rw [z16_eq, cs_length, List.length_replicate]; omega)) rfl rfl ?_; intro w3 hw3
       have c3 : Blk w3 w2.heap.size (cs X) 119 := by rw [hw3]; exact (Blk.new w2 z16 119).setsW _ (by rw [HCX.out, z16_eq, cs_length, List.length_replicate])
       have p3 : Below w2.heap.size w2 w3 := by rw [hw3]; exact below_sets (Nat.le_refl _) _ (below_alloc w2 _) 0
       have q3 : Below w.heap.size w w3 := q2.trans (p3.mono q2.size)
       have hC3 := hC2.below p3 hC2.tab.lt
       clear hw3))
  have s3 : Bs w3 (some ⟨w2.heap.size, 0, none⟩) 16 16 X := by
    have := Bs.of_range c3.whole (c := 16) (by rw [HXL.out]; omega) (by omega)
    rw [HXL.out] at this
    exact this
  have HCL : Hid ((cs (tabT ++ K)).length = 752) := by show _ = _; rw [cs_length, List.length_append, tabT_length, HKL.out]
  refine regionG (S := Grows w3) (by kernel_rfl) (Below.refl _ w3).drew ?_
  refine takeG 0 (some 21) (.pointer (some ⟨r1, 0, none⟩)) rfl rfl (by kernel_rfl) (by kernel_rfl) (by kernel_rfl) (fun _ _ _ h => h) (ans_plain (by rfl) (fun w _ => rfl)) ?_
  simp only [Act.put, List.setIfInBounds_toArray, List.set_cons_zero, List.set_cons_succ]
  refine takeG 1 (some 22) (.pointer (some ⟨r1, 0, none⟩)) rfl rfl (by kernel_rfl) (by kernel_rfl) (by kernel_rfl) (fun _ _ _ h => h) (ans_plain (by rfl) (fun w _ => rfl)) ?_
  simp only [Act.put, List.setIfInBounds_toArray, List.set_cons_zero, List.set_cons_succ]
  refine takeG 2 (some 23) (.agg (cs (tabT ++ K)).toArray) rfl rfl (by kernel_rfl) (by kernel_rfl) (by kernel_rfl) (fun _ _ _ h => h) (ans_ldR 124 (.tmp 22) rfl (by rfl) 752 sizeC _ Tryz.underlying124 rfl r1 0 _ HCL.out rfl (fun w h => hC3.below h hC3.tab.lt)) ?_
  simp only [Act.put, List.setIfInBounds_toArray, List.set_cons_zero, List.set_cons_succ]
  refine takeG 3 (some 24) (.slice (some ⟨w2.heap.size, 0, none⟩) 16 16) rfl rfl (by kernel_rfl) (by kernel_rfl) (by kernel_rfl) (fun _ _ _ h => h) (ans_all (.tmp 8) rfl (by rfl) w2.heap.size rfl) ?_
  simp only [Act.put, List.setIfInBounds_toArray, List.set_cons_zero, List.set_cons_succ]
  refine takeG 4 (some 25) (ev (feB X)) rfl rfl (by kernel_rfl) (by kernel_rfl) (by kernel_rfl) (fun _ _ _ h => h) (ans_fn 70 #[.tmp 24] #[22] #[.slice (some ⟨w2.heap.size, 0, none⟩) 16 16] rfl (by rfl) (by rfl) Tryz.call70 fun u h => oFrom u (s3.grows h)) ?_
  simp only [Act.put, List.setIfInBounds_toArray, List.set_cons_zero, List.set_cons_succ]
  refine callG 5 (some 26) 69 #[.tmp 25] #[126] #[ev (feB X)] rfl rfl rfl (by rfl) (by rfl) (by kernel_rfl) Tryz.call69 fun u1 hg1 hs1 => ?_
  refine (oBuildF u1 (feB X)).mono ?_
  rintro e u2 ⟨g2, rfl, _, ⟨vs, hb2, hl2, hv2⟩, hG2⟩
  refine ⟨_, rfl, Grows.trans hs1 hG2, ?_⟩
  simp only [Act.put, List.setIfInBounds_toArray, List.set_cons_zero, List.set_cons_succ]
  refine takeG 6 (some 27) (.pointer (some ⟨g2, 0, none⟩)) rfl rfl (by kernel_rfl) (by kernel_rfl) (by kernel_rfl) (fun _ _ _ h => h) (ans_plain (by rfl) (fun w _ => rfl)) ?_
  simp only [Act.put, List.setIfInBounds_toArray, List.set_cons_zero, List.set_cons_succ]
  refine oneG 7 (by kernel_rfl) fun u3 hg3 hs3 => ?_
  refine opLdR (some 28) rfl rfl rfl 129 (.tmp 27) rfl 32 sizeTb _ Tryz.underlying129 rfl g2 0 vs hl2 rfl (hb2.grows hg3).whole ⟨hs3, ?_⟩
  simp only [Act.put, List.setIfInBounds_toArray, List.set_cons_zero, List.set_cons_succ]
  refine takeG 8 (some 29) (.agg (cs (tabT ++ K) ++ vs).toArray) rfl rfl (by kernel_rfl) (by kernel_rfl) (by kernel_rfl) (fun _ _ _ h => h) (ans_bd67 (.tmp 23) (.tmp 28) rfl (by rfl) HCL.out hl2 rfl rfl) ?_
  simp only [Act.put, List.setIfInBounds_toArray, List.set_cons_zero, List.set_cons_succ]
  refine oneG 9 (by kernel_rfl) fun u4 hg4 hs4 => ?_
  refine opBoxR (some 30) rfl rfl rfl 134 (.tmp 29) rfl _ rfl ⟨Grows.trans hs4 (Grows.alloc _ _), ?_⟩
  simp only [Act.put, List.setIfInBounds_toArray, List.set_cons_zero, List.set_cons_succ]
  have k5 : Gc (u4.alloc (.cells (cs (tabT ++ K) ++ vs).toArray 134)) u4.heap.size K := Gc.of HKL.out (Blk.new u4 _ _) (fun i hi => by rw [HH.out]; exact hv2 i hi)
  refine takeG 10 (some 4) (.pointer (some ⟨u4.heap.size, 0, none⟩)) rfl rfl (by kernel_rfl) (by kernel_rfl) (by kernel_rfl) (fun _ _ _ h => h) (ans_plain (by rfl) (fun w _ => rfl)) ?_
  simp only [Act.put, List.setIfInBounds_toArray, List.set_cons_zero, List.set_cons_succ]
  refine takeG 11 (some 5) (.int .i64 0) rfl rfl (by kernel_rfl) (by kernel_rfl) (by kernel_rfl) (fun _ _ _ h => h) (ans_plain (by rfl) (fun w _ => rfl)) ?_
  simp only [Act.put, List.setIfInBounds_toArray, List.set_cons_zero, List.set_cons_succ]
  refine doneG (by kernel_rfl) fun u6 hg6 hs6 => ?_
  have k6 := k5.below hg6
  have q6 : Below w.heap.size w u6 := q3.trans (Below.mono hs6 q3.size)
  clear k5 hb2 hv2 hC3 hC2 hC1
  go_wp2_with fail
  go_ret2
  exact ⟨_, rfl, k6, q6⟩

theorem oGNewNot (w : World) (g : Nat) {a : Option Addr} {n c : Nat} (_hT : Tab w g) (hn : ¬ n = 32) :
    Calls Tryz.prog 56 #[.pointer (some ⟨g, 0, none⟩), .slice a n c] w fun e w' => e = .returned (.tuple #[.pointer none, .int .i64 17]) ∧ Below w.heap.size w w' := by
  have CN : Hid (∀ w, Calls Tryz.prog 67 #[.pointer (some ⟨g, 0, none⟩), .slice a n c] w fun e w' => e = .returned (.tuple #[.pointer none, .int .i64 17]) ∧ w = w') := fun w => oNewNot w g hn
  go_enter Tryz.func56, Tryz.ntmps56
  go_wp2_with (go_at_call 67; go_must (refine (CN.out w).mono ?_); rintro e w1 ⟨rfl, rfl⟩)
  go_ret2
  exact ⟨rfl, Below.refl _ _⟩

end Go.Proofs.YtfknplcnfpincaaGreat

/-
  The contracts of the reference's Times, inverse and Box. No condition.
-/
namespace Go.Proofs.YtfknplcnfpincaaGreat
open Go.RowKit

theorem dbl_hi' {c : UInt8} (h : (128 : Int) ≤ (c.toNat : Int)) : bits .xor .u8 ((c.toNat : Int) * 2 % 256) 27 = ((dbl c).toNat : Int) := dbl_hi (by have := b_lt c; omega)
theorem dbl_lo' {c : UInt8} (h : ¬ (128 : Int) ≤ (c.toNat : Int)) : (c.toNat : Int) * 2 = ((dbl c).toNat : Int) := by
  rw [← dbl_lo (by have := b_lt c; omega)]
  omega
set_option maxHeartbeats 1000000 in
theorem rTimes (w : World) (a b : UInt8) :
    Calls Tryz.prog 78 #[.int .u8 (a.toNat : Int), .int .u8 (b.toNat : Int)] w fun e w' => e = .returned (.int .u8 ((tms a b).toNat : Int)) ∧ w = w' := by
  go_enter Tryz.func78, Tryz.ntmps78
  go_wp2_with fail
  go_loop [5, 6, 7, 8] (fun o x i _ => ∃ k : Nat, k ≤ 8 ∧ i = .int .i64 k ∧ o = .int .u8 ((tmsA a b k).toNat : Int) ∧ x = .int .u8 ((tmsA.dblN a k).toNat : Int)) (fun _ _ i _ => 8 - (intOf i).toNat)
  case atStart => exact ⟨0, by omega, rfl, rfl, rfl⟩
  case round =>
    obtain ⟨k, hk, rfl, rfl, rfl⟩ := hrel
    by_cases hlt : k < 8
    · have h0 : (0 : Int) ≤ (k : Int) := by omega
      have h8 : (k : Int) < 8 := by omega
      have hs := b_shr b k (by omega)
      have HT : Hid (tmsA a b (k + 1) = if (b >>> UInt8.ofNat k) &&& 1 = 1 then tmsA a b k ^^^ (tmsA.dblN a k) else tmsA a b k) := rfl
      have HD : Hid (tmsA.dblN a (k + 1) = dbl (tmsA.dblN a k)) := rfl
      have ha := bit_and (b >>> UInt8.ofNat k)
      generalize hy : b >>> UInt8.ofNat k = y at *
      generalize hz : y &&& 1 = z at *
      generalize ho : tmsA a b k = o at *
      generalize hx : tmsA.dblN a k = x at *
      clear hy hz ho hx
      by_cases hz : z = 1
      · subst hz
        rw [if_pos rfl] at HT
        have ha' : bits .and .u8 (y.toNat : Int) 1 = 1 := ha
        clear ha
        have HX : Hid (bits .xor .u8 (o.toNat : Int) (x.toNat : Int) = ((o ^^^ x).toNat : Int)) := xor_u8 o x
        by_cases ht : (128 : Int) ≤ (x.toNat : Int)
        · have HH : Hid (_ = _) := dbl_hi' ht
          go_wp2
          go_round
          case rel => exact ⟨k + 1, by omega, by go_num, by rw [HT.out, HX.out], by rw [HD.out, HH.out]⟩
          case measure => simp [intOf]; omega
        · have HH : Hid (_ = _) := dbl_lo' ht
          go_wp2
          go_round
          case rel => exact ⟨k + 1, by omega, by go_num, by rw [HT.out, HX.out], by rw [HD.out, HH.out]⟩
          case measure => simp [intOf]; omega
      · rw [if_neg hz] at HT
        have hz' := one_not hz
        clear hz
        by_cases ht : (128 : Int) ≤ (x.toNat : Int)
        · have HH : Hid (_ = _) := dbl_hi' ht
          go_wp2
          go_round
          case rel => exact ⟨k + 1, by omega, by go_num, by rw [HT.out], by rw [HD.out, HH.out]⟩
          case measure => simp [intOf]; omega
        · have HH : Hid (_ = _) := dbl_lo' ht
          go_wp2
          go_round
          case rel => exact ⟨k + 1, by omega, by go_num, by rw [HT.out], by rw [HD.out, HH.out]⟩
          case measure => simp [intOf]; omega
    · obtain rfl : k = 8 := by omega
      go_wp2
      go_ret
      exact ⟨rfl, rfl⟩

theorem srch_step (c : UInt8) {k : Nat} (h : k < 256) : srch c (256 - k) k = if tms c (UInt8.ofNat k) = 1 then UInt8.ofNat k else srch c (256 - (k + 1)) (k + 1) := by
  rw [show 256 - k = (256 - (k + 1)) + 1 from by omega]
  rfl

set_option maxHeartbeats 1000000 in
theorem rInverse (w : World) (c : UInt8) :
    Calls Tryz.prog 98 #[.int .u8 (c.toNat : Int)] w fun e w' => e = .returned (.int .u8 ((inv c).toNat : Int)) ∧ w = w' := by
  go_enter Tryz.func98, Tryz.ntmps98
  go_wp2_with fail
  go_loop [3] (fun i => ∃ k : Nat, 1 ≤ k ∧ k ≤ 256 ∧ i = .int .i64 k ∧ Hid (srch c (256 - k) k = inv c)) (fun i => 256 - (intOf i).toNat)
  case atStart => exact ⟨1, by omega, by omega, rfl, rfl⟩
  case round =>
    obtain ⟨k, h1, hk, rfl, HS⟩ := hrel
    by_cases hlt : k < 256
    · have h0 : (0 : Int) ≤ (k : Int) := by omega
      have h8 : (k : Int) < 256 := by omega
      have h9 : (k : Int) % 256 = (k : Int) := by omega
      have hw8 : IntKind.u8.wrap (k : Int) = (k : Int) := by rw [IntKind.wrap_u8]; omega
      have HN := srch_step c hlt
      have HB : Hid (((UInt8.ofNat k).toNat : Int) = (k : Int)) := nat_byte hlt
      have CT : Hid (Calls Tryz.prog 78 #[.int .u8 (c.toNat : Int), .int .u8 (k : Int)] w fun e w' => e = .returned (.int .u8 ((tms c (UInt8.ofNat k)).toNat : Int)) ∧ w = w') := by
        have := rTimes w c (UInt8.ofNat k)
        rw [HB.out] at this
        exact this
      generalize tms c (UInt8.ofNat k) = t at HN CT
      by_cases ht : t = 1
      · subst ht
        rw [if_pos rfl] at HN
        have HI : Hid ((k : Int) = ((inv c).toNat : Int)) := by show _ = _; rw [← HS.out, HN, HB.out]
        clear HN
        go_wp2_with (go_at_call 78; refine CT.out.mono ?_; rintro e w1 ⟨rfl, rfl⟩)
        go_ret
        exact ⟨ret_int HI.out, rfl⟩
      · rw [if_neg ht] at HN
        have hz' := one_not ht
        have HI : Hid (srch c (256 - (k + 1)) (k + 1) = inv c) := by show _ = _; rw [← HN]; exact HS.out
        clear HN ht
        go_wp2_with (go_at_call 78; refine CT.out.mono ?_; rintro e w1 ⟨rfl, rfl⟩)
        go_round
        case rel => exact ⟨k + 1, by omega, by omega, by go_num, HI⟩
        case measure => simp [intOf]; omega
    · obtain rfl : k = 256 := by omega
      have HI : Hid ((0 : Int) = ((inv c).toNat : Int)) := by show _ = _; rw [← HS.out]; rfl
      go_wp2
      go_ret
      exact ⟨ret_int HI.out, rfl⟩

theorem turn8 (k d : Nat) : ((k : Int) + (d : Int)).tmod 8 = (((k + d) % 8 : Nat) : Int) := by
  rw [Int.tmod_eq_emod_of_nonneg (by omega)]
  omega

set_option maxHeartbeats 2000000 in
theorem rBox (w : World) (c : UInt8) :
    Calls Tryz.prog 77 #[.int .u8 (c.toNat : Int)] w fun e w' => e = .returned (.int .u8 ((box c).toNat : Int)) ∧ ∃ d, w' = w.drewN d := by
  have HX : Hid (box c = bxs (inv c) 8) := rfl
  have CI : Hid (Calls Tryz.prog 98 #[.int .u8 (c.toNat : Int)] w fun e w' => e = .returned (.int .u8 ((inv c).toNat : Int)) ∧ w = w') := rInverse w c
  generalize inv c = x at *
  go_enter Tryz.func77, Tryz.ntmps77
  go_wp2_with (go_at_call 98; refine CI.out.mono ?_; rintro e w1 ⟨rfl, rfl⟩)
  go_loopw [4, 5, 6] (fun o i _ wr => ∃ k : Nat, k ≤ 8 ∧ i = .int .i64 k ∧ o = .int .u8 ((bxs x k).toNat : Int) ∧ ∃ d, wr = w.drewN d) (fun _ i _ _ => 8 - (intOf i).toNat)
  case atStart => exact ⟨0, by omega, rfl, rfl, 0, rfl⟩
  case round =>
    obtain ⟨k, hk, rfl, rfl, d, rfl⟩ := hrel
    by_cases hlt : k < 8
    · have h0 : (0 : Int) ≤ (k : Int) := by omega
      have h8 : (k : Int) < 8 := by omega
      have HB : Hid (bxs x (k + 1) = bxs x k ||| ((bxbit x k &&& 1) <<< UInt8.ofNat k)) := rfl
      have HBB : Hid (bxbit x k = x >>> UInt8.ofNat k ^^^ x >>> UInt8.ofNat ((k + 4) % 8) ^^^ x >>> UInt8.ofNat ((k + 5) % 8) ^^^ x >>> UInt8.ofNat ((k + 6) % 8) ^^^ x >>> UInt8.ofNat ((k + 7) % 8) ^^^ 99 >>> UInt8.ofNat k) := rfl
      have t4 : ((k : Int) + 4).tmod 8 = (((k + 4) % 8 : Nat) : Int) := turn8 k 4
      have t5 : ((k : Int) + 5).tmod 8 = (((k + 5) % 8 : Nat) : Int) := turn8 k 5
      have t6 : ((k : Int) + 6).tmod 8 = (((k + 6) % 8 : Nat) : Int) := turn8 k 6
      have t7 : ((k : Int) + 7).tmod 8 = (((k + 7) % 8 : Nat) : Int) := turn8 k 7
      have e4 : ((k : Int) + 4) % 8 = (((k + 4) % 8 : Nat) : Int) := by omega
      have e5 : ((k : Int) + 5) % 8 = (((k + 5) % 8 : Nat) : Int) := by omega
      have e6 : ((k : Int) + 6) % 8 = (((k + 6) % 8 : Nat) : Int) := by omega
      have e7 : ((k : Int) + 7) % 8 = (((k + 7) % 8 : Nat) : Int) := by omega
      have j4l : (k + 4) % 8 < 8 := by omega
      have j5l : (k + 5) % 8 < 8 := by omega
      have j6l : (k + 6) % 8 < 8 := by omega
      have j7l : (k + 7) % 8 < 8 := by omega
      generalize (k + 4) % 8 = j4 at *
      generalize (k + 5) % 8 = j5 at *
      generalize (k + 6) % 8 = j6 at *
      generalize (k + 7) % 8 = j7 at *
      have s0 := b_shr x k hlt
      have s4 := b_shr x j4 j4l
      have s5 := b_shr x j5 j5l
      have s6 := b_shr x j6 j6l
      have s7 := b_shr x j7 j7l
      have s9 : (99 : Int) / (2 : Int) ^ k = ((99 >>> UInt8.ofNat k : UInt8).toNat : Int) := b_shr 99 k hlt
      have n4 : (0 : Int) ≤ (j4 : Int) := by omega
      have n5 : (0 : Int) ≤ (j5 : Int) := by omega
      have n6 : (0 : Int) ≤ (j6 : Int) := by omega
      have n7 : (0 : Int) ≤ (j7 : Int) := by omega
      have m4 : IntKind.i64.wrap ((k : Int) + 4) = (k : Int) + 4 := by rw [IntKind.wrap_i64]; omega
      have m5 : IntKind.i64.wrap ((k : Int) + 5) = (k : Int) + 5 := by rw [IntKind.wrap_i64]; omega
      have m6 : IntKind.i64.wrap ((k : Int) + 6) = (k : Int) + 6 := by rw [IntKind.wrap_i64]; omega
      have m7 : IntKind.i64.wrap ((k : Int) + 7) = (k : Int) + 7 := by rw [IntKind.wrap_i64]; omega
      generalize x >>> UInt8.ofNat k = y0 at *
      generalize x >>> UInt8.ofNat j4 = y4 at *
      generalize x >>> UInt8.ofNat j5 = y5 at *
      generalize x >>> UInt8.ofNat j6 = y6 at *
      generalize x >>> UInt8.ofNat j7 = y7 at *
      generalize (99 >>> UInt8.ofNat k : UInt8) = y9 at *
      have x1 := xor_u8 y0 y4
      generalize y0 ^^^ y4 = z1 at *
      have x2 := xor_u8 z1 y5
      generalize z1 ^^^ y5 = z2 at *
      have x3 := xor_u8 z2 y6
      generalize z2 ^^^ y6 = z3 at *
      have x4 := xor_u8 z3 y7
      generalize z3 ^^^ y7 = z4 at *
      have x5 := xor_u8 z4 y9
      generalize z4 ^^^ y9 = z5 at *
      rw [HBB.out] at HB
      have a1 := bit_and z5
      generalize z5 &&& 1 = v at *
      have l1 := b_shl v k hlt
      generalize v <<< UInt8.ofNat k = v2 at *
      generalize bxs x k = o at *
      have o1 := b_or o v2
      generalize o ||| v2 = o2 at *
      clear HBB
      go_wp2_with fail
      go_quiet (fail)
      go_wp2_with fail
      go_roundw
      case rel => exact ⟨k + 1, by omega, by go_num, by rw [HB.out], _, rfl⟩
      case measure => simp [intOf]; omega
    · obtain rfl : k = 8 := by omega
      go_wp2
      go_ret
      exact ⟨by rw [HX.out]; rfl, d, rfl⟩

end Go.Proofs.YtfknplcnfpincaaGreat

/-
  The contract of key32: a key of 32 bytes out of any. Condition: at most 100 bytes.
-/
namespace Go.Proofs.YtfknplcnfpincaaGreat
open Go.RowKit

def k32 (l : List UInt8) : List UInt8 := (List.range 32).map fun i => if l.length = 0 then 0 else l.getD (i % l.length) 0
theorem k32_length (l : List UInt8) : (k32 l).length = 32 := by simp [k32]
theorem k32_step {l : List UInt8} {k : Nat} (h : k < 32) : (k32 l).take (k + 1) = (k32 l).take k ++ [if l.length = 0 then 0 else l.getD (k % l.length) 0] := by
  rw [take_snoc (by rw [k32_length]; exact h)]
  simp [k32]
theorem k32_room (l : List UInt8) (k : Nat) (x : UInt8) : ((k32 l).take k).length + [x].length ≤ 1000000000 := by
  have : ((k32 l).take k).length ≤ 32 := by rw [← k32_length l]; exact List.length_take_le' _ _
  simp only [List.length_singleton]
  omega

end Go.Proofs.YtfknplcnfpincaaGreat
