/-
  The contract of 'spread': the words of a key of 32 bytes. Condition: the tables lie where the pointer leads.
-/
import Derived.Test.YtofhnigdfmekdaaAesKeyL
import Derived.Test.YtofhnigdfmekdaaAesWord
import Derived.Test.YtofhnigdfmekdaaCp
import Derived.Deep.DeepCutAuto
import Derived.Deep.CutBlock
namespace Go.Proofs.Ytofhnigdfmekdaa
open Go.RowKit

theorem sizeS : (Try.prog.info? 53).map (·.size) = some 240 := by kernel_rfl
theorem zeroS (w : World) : Sem.run Try.prog (zeroValue 53) w = .ok (.agg (zarr 240)) w := by kernel_rfl
attribute [local go_sem] zeroS

theorem lenW : Try.prog.arrayLen 51 = 4 := by kernel_rfl
theorem undW : Try.prog.underlying 51 = some (.array (Try.prog.arrayLen 51) (Try.prog.elem 51)) := by kernel_rfl
theorem elW (w : World) : Sem.run Try.prog (sizeOf (Try.prog.elem 51)) w = .ok 1 w := by kernel_rfl
theorem allW (g o : Nat) (w : World) : Sem.run Try.prog (Instr.sliceAt 51 (.pointer (some ⟨g, o, none⟩)) none none none) w = .ok (.slice (some ⟨g, o, none⟩) 4 4) w := by
  rw [run_sliceAt_array_all w 51 _ undW, elW]
  simp only [Result.andThen, slicedAt, lenW]
  rfl

theorem Copied.word {w w' : World} {g k : Nat} {F l : List UInt8} {t : TypeId} (h : Copied w w' g (k * 4) 4 (cs (fill F 240 (4 * k))) l t) (hF : F.length = 240) (hk : k < 60) (hl : l.take 4 = wd F k) : Blk w' g (cs (fill F 240 (4 * (k + 1)))) t := by
  have b := h.blk
  rw [hl, Nat.mul_comm k 4] at b
  rw [← fill_word hF hk, cs_append, cs_append]
  unfold cs at b ⊢
  rw [List.map_take, List.map_drop]
  exact b

theorem word_range {w : World} {g k j : Nat} {F : List UInt8} {t : TypeId} (b : Blk w g (cs (fill F 240 (4 * k))) t) (hF : F.length = 240) (hk : k ≤ 60) (hj : j < k) : w.rangeAt g (j * 4) (cs (wd F j)) := by
  rw [← fill_wd hF hk hj, Nat.mul_comm]
  exact b.range _ _ fun i v hv => cs_sub hv
theorem Bs.of_range {w : World} {g o : Nat} {l : List UInt8} (h : w.rangeAt g o (cs l)) {c : Nat} (hc : l.length ≤ c) (hm : c ≤ 1000000) : Bs w (some ⟨g, o, none⟩) l.length c l :=
  ⟨rfl, hc, by unfold maxLen; omega, by simp, fun i hi => ⟨g, o, rfl, h i _ (cs_get hi)⟩⟩
abbrev z4 : Array Value := #[.int .u8 0, .int .u8 0, .int .u8 0, .int .u8 0]

theorem tmp_first (X : List UInt8) {k : Nat} (h : k % 8 = 0) : ([X.getD 1 0, X.getD 2 0, X.getD 3 0, X.getD 0 0].map box).set 0 ((([X.getD 1 0, X.getD 2 0, X.getD 3 0, X.getD 0 0].map box).getD 0 0) ^^^ dpow ((k - 1) / 8)) = tmpW X k := by
  unfold tmpW
  rw [if_pos h]
  rfl
theorem tmp_half (X : List UInt8) {k : Nat} (h : k % 8 = 4) : X.map box = tmpW X k := by
  unfold tmpW
  rw [if_neg (by omega), if_pos h]
theorem tmp_same (X : List UInt8) {k : Nat} (h : ¬ k % 8 = 0) (h4 : ¬ k % 8 = 4) : X = tmpW X k := by
  unfold tmpW
  rw [if_neg h, if_neg h4]
theorem pow_up {k : Nat} (h8 : 8 ≤ k) (h : k % 8 = 0) : dbl (dpow ((k - 1) / 8)) = dpow (k / 8) := by
  rw [show k / 8 = (k - 1) / 8 + 1 from by omega]
  rfl
theorem pow_stay {k : Nat} (h : ¬ k % 8 = 0) : dpow ((k - 1) / 8) = dpow (k / 8) := by
  rw [show k / 8 = (k - 1) / 8 from by omega]

theorem oTurnedX (w : World) (X : List UInt8) (hX : X.length = 4) :
    Calls Try.prog 36 #[.agg (cs X).toArray] w fun e w' => e = .returned (.agg (cs [X.getD 1 0, X.getD 2 0, X.getD 3 0, X.getD 0 0]).toArray) ∧ Below w.heap.size w w' := by
  obtain ⟨a, b, c, d, rfl⟩ := len4 hX
  exact oTurned w a b c d

set_option maxRecDepth 100000 in
set_option maxHeartbeats 2000000 in
theorem oSched (w : World) (g : Nat) (hT : Tab w g) {a : Option Addr} {c : Nat} {key : List UInt8} (ha : Bs w a 32 c key) :
    Calls Try.prog 23 #[.pointer (some ⟨g, 0, none⟩), .slice a 32 c] w fun e w' => e = .returned (bv (keyF key)) ∧ Below w.heap.size w w' := by
  have hgl := hT.lt
  have hkl := ha.len
  have HF : Hid ((keyF key).length = 240) := keyF_length hkl
  have HLow : Hid (∀ i, i < 8 → wd (keyF key) i = wd key i) := fun i hi => wd_low hkl hi
  have HHigh : Hid (∀ i, i < 60 → 8 ≤ i → wd (keyF key) i = xorL (wd (keyF key) (i - 8)) (tmpW (wd (keyF key) (i - 1)) i)) := fun i hi h8 => wd_high hkl hi h8
  generalize hF : keyF key = F at *
  clear hF
  have hne := zarr_ne (n := 240) (by omega)
  have hall := allW
  unfold bv
  go_enter Try.func23, Try.ntmps23
  go_wp2_with fail
  obtain ⟨W2, hW2⟩ : ∃ W2, W2 = (w.alloc (.cells (zarr 240) 53)).alloc (.cells (zarr 240) 53) := ⟨_, rfl⟩
  rw [← hW2]
  have d0 : Blk W2 w.heap.size (cs (List.replicate 240 0)) 53 := by rw [hW2, ← zarr_toList]; exact (Blk.new w _ _).old _
  have d1 : Blk W2 (w.heap.size + 1) (cs (fill F 240 0)) 53 := by rw [hW2, fill_zero, ← zarr_toList]; exact Blk.newAt (w.alloc _) _ _ _ (by simp) _ rfl
  have hd : Below w.heap.size w W2 := by rw [hW2]; exact below2 w _ _
  clear hW2
  go_loopw [6, 10] (fun _ i wr => ∃ k : Nat, k ≤ 8 ∧ i = .int .i64 k ∧ Blk wr w.heap.size (cs (List.replicate 240 0)) 53 ∧ Blk wr (w.heap.size + 1) (cs (fill F 240 (4 * k))) 53 ∧ Below w.heap.size w wr) (fun _ i _ => 8 - (intOf i).toNat)
  case atStart => exact ⟨0, by omega, rfl, d0, d1, hd⟩
  case round =>
    clear d0 d1 hd
    obtain ⟨k, hk, rfl, d0, d1, hd⟩ := hrel
    by_cases hlt : k < 8
    · have h0 : (0 : Int) ≤ (k : Int) := by omega
      have h8 : (k : Int) < 8 := by omega
      have h60 : (k : Int) < 60 := by omega
      obtain ⟨a', c', hcut, hB, _⟩ := ha.cutLow (4 * k) (by omega)
      rw [show ((4 * k : Nat) : Int) = (k : Int) * 4 from by omega] at hcut
      have hwk : IntKind.i64.wrap ((k : Int) * 4) = (k : Int) * 4 := by rw [IntKind.wrap_i64]; omega
      have hB' := hB wr (ha.below hd (Nat.le_refl _))
      have HL : Hid (wd F k = (key.drop (4 * k)).take 4) := HLow.out k hlt
      have HW := fill_word HF.out (i := k) (by omega)
      have HFL : Hid ((fill F 240 (4 * k)).length = 240) := fill_length HF.out (by omega)
      clear hB
      go_wp2_with fail
      go_region_held3 (fun _ => True) (trivial) ((refine step_cp (by rfl) (.tmp 15) (.tmp 19) (by rfl) (w.heap.size + 1) (k * 4) 4 4 (by rfl) a' (32 - 4 * k) c' (by rfl) (key.drop (4 * k)) hB'.drew (cs (fill F 240 (4 * k))) 53 d1.dr 4 (by show 4 = min _ 4; omega) (by rw [cs_length, HFL.out]; omega) (by omega) ?_; intro w1 hc1))
      go_wp2_with fail
      go_roundw
      case rel => exact ⟨k + 1, by omega, by go_num, hc1.other d0.dr (by omega), hc1.word HF.out (by omega) HL.out.symm, hc1.below hd.drew (by omega) hd.size⟩
      case measure => simp [intOf]; omega
    · obtain rfl : k = 8 := by omega
      go_wp2_with fail
      go_loopw [7, 8, 9] (fun p i _ wr => ∃ k : Nat, 8 ≤ k ∧ k ≤ 60 ∧ i = .int .i64 k ∧ p = .int .u8 ((dpow ((k - 1) / 8)).toNat : Int) ∧ Blk wr w.heap.size (cs (List.replicate 240 0)) 53 ∧ Blk wr (w.heap.size + 1) (cs (fill F 240 (4 * k))) 53 ∧ Below w.heap.size w wr) (fun _ i _ _ => 60 - (intOf i).toNat)
      case atStart => exact ⟨8, by omega, by omega, rfl, rfl, d0, d1, hd⟩
      case round =>
        clear d0 d1 hd hk hlt
        obtain ⟨k, hk8, hk, rfl, rfl, d0, d1, hd⟩ := hrel
        by_cases hlt : k < 60
        · have h0 : (0 : Int) ≤ (k : Int) := by omega
          have h8 : (8 : Int) ≤ (k : Int) := by omega
          have h60 : (k : Int) < 60 := by omega
          obtain ⟨m, hm⟩ : ∃ m, m = k % 8 := ⟨_, rfl⟩
          have HM : Hid (m = k % 8) := hm
          have hm0 : (k : Int) % 8 = (m : Int) := by omega
          have hm1 : (k : Int).tmod 8 = (m : Int) := by rw [Int.tmod_eq_emod_of_nonneg (by omega)]; omega
          clear hm
          obtain ⟨X, hX⟩ : ∃ X, X = wd F (k - 1) := ⟨_, rfl⟩
          have HXL : Hid (X.length = 4) := by show _ = _; rw [hX]; exact wd_length (by have := HF.out; omega)
          have HCX : Hid ((cs X).length = 4) := by show _ = _; rw [cs_length, HXL.out]
          have rX := word_range d1 HF.out hk (show k - 1 < k by omega)
          have HHi : Hid (wd F k = xorL (wd F (k - 8)) (tmpW X k)) := by show _ = _; rw [hX]; exact HHigh.out k hlt hk8
          rw [← hX] at rX
          clear hX
          obtain ⟨P, hP⟩ : ∃ P, P = dpow ((k - 1) / 8) := ⟨_, rfl⟩
          rw [← hP]
          have HP : Hid (P = dpow ((k - 1) / 8)) := hP
          clear hP
          go_upto_block 4 with (first
            | (with_reducible refine at_ld 51 ?_; refine ld 51 (.tmp 28) 4 sizeW _ Try.underlying51 rfl (w.heap.size + 1) ((k - 1) * 4) _ HCX.out rX rfl ?_)
            | (with_reducible refine at_st 51 ?_; refine st' 51 (.tmp 9) (.tmp 29) 4 sizeW wr.heap.size 0 _ HCX.out cs_one ((Blk.new wr z4 51).there 0 4 (by decide)) rfl rfl ?_; intro w2 hw2
               have e2 : Blk w2 wr.heap.size (cs X) 51 := by rw [hw2]; exact (Blk.new wr z4 51).setsW _ (by rw [HCX.out]; rfl)
               have e0 : Blk w2 w.heap.size (cs (List.replicate 240 0)) 53 := by rw [hw2]; exact Blk.setsO (by have := d0.lt; omega) _ (d0.old _) 0
               have e1 : Blk w2 (w.heap.size + 1) (cs (fill F 240 (4 * k))) 53 := by rw [hw2]; exact Blk.setsO (by have := d1.lt; omega) _ (d1.old _) 0
               have he : Below w.heap.size w w2 := by rw [hw2]; exact below_sets hd.size _ (hd.alloc hd.size _) 0
               clear hw2))
          have hl1 := d1.lt
          generalize hgl2 : wr.heap.size = gl at *
          clear hgl2 d0 d1 hd rX
          go_cut [7] (fun p wx => p = .int .u8 ((dpow (k / 8)).toNat : Int) ∧ Blk wx gl (cs (tmpW X k)) 51 ∧ Blk wx w.heap.size (cs (List.replicate 240 0)) 53 ∧ Blk wx (w.heap.size + 1) (cs (fill F 240 (4 * k))) 53 ∧ Below w.heap.size w wx)
          case first =>
            have HTb : Hid (Tab w2 g) := hT.below he hgl
            by_cases hz : m = 0
            · have HK : Hid (k % 8 = 0) := by show _ = _; rw [← HM.out]; exact hz
              subst hz
              obtain ⟨T, hTe⟩ : ∃ T, T = [X.getD 1 0, X.getD 2 0, X.getD 3 0, X.getD 0 0] := ⟨_, rfl⟩
              obtain ⟨B, hB⟩ : ∃ B, B = T.map box := ⟨_, rfl⟩
              have HBL : Hid (B.length = 4) := by show _ = _; rw [hB, hTe]; rfl
              have HCB : Hid ((cs B).length = 4) := by show _ = _; rw [cs_length, HBL.out]
              have CT : Hid (∀ w, Calls Try.prog 36 #[.agg (cs X).toArray] w fun e w' => e = .returned (.agg (cs T).toArray) ∧ Below w.heap.size w w') := fun w => by rw [hTe]; exact oTurnedX w X HXL.out
              have CB : Hid (∀ w, Tab w g → Calls Try.prog 35 #[.pointer (some ⟨g, 0, none⟩), .agg (cs T).toArray] w fun e w' => e = .returned (.agg (cs B).toArray) ∧ Below w.heap.size w w') := fun w h => by rw [hB]; exact oBoxed w g h T (by rw [hTe]; rfl)
              obtain ⟨y, hy⟩ : ∃ y, y = B.getD 0 0 := ⟨_, rfl⟩
              have HE : Hid (B.set 0 (y ^^^ P) = tmpW X k) := by show _ = _; rw [hy, hB, hTe, HP.out]; exact tmp_first X HK.out
              have HPN : Hid (dbl P = dpow (k / 8)) := by show _ = _; rw [HP.out]; exact pow_up hk8 HK.out
              have HY : Hid (y = B.getD 0 0) := hy
              clear hTe hB hy
              have hPl := b_lt P
              have hp0 : (0 : Int) ≤ (P.toNat : Int) := by omega
              have hp1 : (P.toNat : Int) < 256 := by omega
              have hgne : ¬ g = gl := by omega
              have hgne' : ¬ gl = g := by omega
              go_wp2_with (first
                | (with_reducible refine at_ld 51 ?_; refine ld 51 (.tmp 9) 4 sizeW _ Try.underlying51 rfl gl 0 _ HCX.out e2.whole rfl ?_)
                | (go_at_call 36; refine (CT.out w2).mono ?_; rintro e w3 ⟨rfl, hb3⟩; have he3 := he.trans (hb3.mono he.size))
                | (go_at_call 35; refine (CB.out w3 (hT.below he3 hgl)).mono ?_; rintro e w4 ⟨rfl, hb4⟩; have he4 := he3.trans (hb4.mono he3.size); have e2' := (e2.below hb3 e2.lt).below hb4 (Nat.lt_of_lt_of_le e2.lt hb3.size); have e0' := (e0.below hb3 e0.lt).below hb4 (Nat.lt_of_lt_of_le e0.lt hb3.size); have e1' := (e1.below hb3 e1.lt).below hb4 (Nat.lt_of_lt_of_le e1.lt hb3.size))
                | (with_reducible refine at_st 51 ?_; refine st' 51 (.tmp 9) (.tmp 37) 4 sizeW gl 0 _ HCB.out cs_one (e2'.there 0 4 (by rw [HCX.out]; omega)) rfl rfl ?_; intro w5 hw5
                   have i2 : Blk w5 gl (cs B) 51 := by rw [hw5]; exact e2'.setsW _ (by rw [HCX.out, HCB.out])
                   have i0 : Blk w5 w.heap.size (cs (List.replicate 240 0)) 53 := by rw [hw5]; exact Blk.setsO (by omega) _ e0' 0
                   have i1 : Blk w5 (w.heap.size + 1) (cs (fill F 240 (4 * k))) 53 := by rw [hw5]; exact Blk.setsO (by omega) _ e1' 0
                   have hi5 : Below w.heap.size w w5 := by rw [hw5]; exact below_sets (by omega) _ he4 0
                   have q0 := i2.at8 (k := 0) (by rw [HBL.out]; omega)
                   rw [← HY.out] at q0
                   have f0 := i2.free 0
                   have tw0 := (hT.below hi5 hgl).tw P
                   clear hw5))
              go_meet
              case rel =>
                refine ⟨by rw [← HPN.out], ?_, i0.setO (by simp; omega) _, i1.setO (by simp; omega) _, hi5.setCell (by simp; omega) _⟩
                rw [xor_u8, ← HE.out]
                exact i2.set8 0 _
            · by_cases h4 : m = 4
              · have HK : Hid (k % 8 = 4) := by show _ = _; rw [← HM.out]; exact h4
                subst h4
                obtain ⟨B, hB⟩ : ∃ B, B = X.map box := ⟨_, rfl⟩
                have HBL : Hid (B.length = 4) := by show _ = _; rw [hB, List.length_map, HXL.out]
                have HCB : Hid ((cs B).length = 4) := by show _ = _; rw [cs_length, HBL.out]
                have CB : Hid (∀ w, Tab w g → Calls Try.prog 35 #[.pointer (some ⟨g, 0, none⟩), .agg (cs X).toArray] w fun e w' => e = .returned (.agg (cs B).toArray) ∧ Below w.heap.size w w') := fun w h => by rw [hB]; exact oBoxed w g h X HXL.out
                have HE : Hid (B = tmpW X k) := by show _ = _; rw [hB]; exact tmp_half X HK.out
                have HPN : Hid (P = dpow (k / 8)) := by show _ = _; rw [HP.out]; exact pow_stay (by rw [HK.out]; omega)
                clear hB hz
                go_wp2_with (first
                  | (with_reducible refine at_ld 51 ?_; refine ld 51 (.tmp 9) 4 sizeW _ Try.underlying51 rfl gl 0 _ HCX.out e2.whole rfl ?_)
                  | (go_at_call 35; refine (CB.out w2 HTb.out).mono ?_; rintro e w4 ⟨rfl, hb4⟩; have he4 := he.trans (hb4.mono he.size); have e2' := e2.below hb4 e2.lt; have e0' := e0.below hb4 e0.lt; have e1' := e1.below hb4 e1.lt)
                  | (with_reducible refine at_st 51 ?_; refine st' 51 (.tmp 9) (.tmp 53) 4 sizeW gl 0 _ HCB.out cs_one (e2'.there 0 4 (by rw [HCX.out]; omega)) rfl rfl ?_; intro w5 hw5
                     have i2 : Blk w5 gl (cs B) 51 := by rw [hw5]; exact e2'.setsW _ (by rw [HCX.out, HCB.out])
                     have i0 : Blk w5 w.heap.size (cs (List.replicate 240 0)) 53 := by rw [hw5]; exact Blk.setsO (by omega) _ e0' 0
                     have i1 : Blk w5 (w.heap.size + 1) (cs (fill F 240 (4 * k))) 53 := by rw [hw5]; exact Blk.setsO (by omega) _ e1' 0
                     have hi5 : Below w.heap.size w w5 := by rw [hw5]; exact below_sets (by omega) _ he4 0
                     clear hw5))
                go_meet
                case rel => exact ⟨by rw [← HPN.out], by rw [← HE.out]; exact i2, i0, i1, hi5⟩
              · have HE : Hid (X = tmpW X k) := tmp_same X (by rw [← HM.out]; exact hz) (by rw [← HM.out]; exact h4)
                have HPN : Hid (P = dpow (k / 8)) := by show _ = _; rw [HP.out]; exact pow_stay (by rw [← HM.out]; exact hz)
                have z0 : ((m : Int) == 0) = false := by simp; omega
                have z4 : ((m : Int) == 4) = false := by simp; omega
                clear hz h4
                go_wp2_with fail
                go_meet
                case rel => exact ⟨by rw [← HPN.out], by rw [← HE.out]; exact e2, e0, e1, he⟩
          case rest =>
            clear e0 e1 e2 he
            obtain ⟨rfl, e2, e0, e1, he⟩ := hcut
            have HWL : Hid ((wd F (k - 8)).length = 4) := wd_length (by have := HF.out; omega)
            have HTL : Hid ((tmpW X k).length = 4) := tmpW_length HXL.out k
            have hBa : Bs wc (some ⟨w.heap.size + 1, (k - 8) * 4, none⟩) 4 4 (wd F (k - 8)) := by
              have := Bs.of_range (word_range e1 HF.out hk (show k - 8 < k by omega)) (c := 4) (by rw [HWL.out]; omega) (by omega)
              rw [HWL.out] at this
              exact this
            have hBb : Bs wc (some ⟨gl, 0, none⟩) 4 4 (tmpW X k) := by
              have := Bs.of_range e2.whole (c := 4) (by rw [HTL.out]; omega) (by omega)
              rw [HTL.out] at this
              exact this
            have HX4 : Hid ((xorL (wd F (k - 8)) (tmpW X k)).length = 4) := by show _ = _; rw [xorL_length (by rw [HWL.out, HTL.out]), HWL.out]
            have HFL : Hid ((fill F 240 (4 * k)).length = 240) := fill_length HF.out (by omega)
            have s8 : IntKind.i64.wrap ((k : Int) - 8) = (k : Int) - 8 := by rw [IntKind.wrap_i64]; omega
            have p8 : (0 : Int) ≤ (k : Int) - 8 := by omega
            have q8 : (k : Int) - 8 < 60 := by omega
            have r8 : ((k : Int) - 8).toNat = k - 8 := by omega
            go_wp2_with fail
            go_region_held3 (fun _ => True) (trivial) (first
              | (go_at_call 37; refine (oXor wc.drew hBa.drew hBb.drew (by omega) (by omega)).mono ?_; rintro e w6 ⟨a6, m6, c6, rfl, ho6, hb6⟩; have hB6 := ho6.toBs; have hm6 : m6 = 4 := by rw [← hB6.len]; exact HX4.out
                 subst hm6; have e1' := e1.dr.below hb6 e1.lt)
              | (refine step_cp (by rfl) (.tmp 56) (.tmp 62) (by rfl) (w.heap.size + 1) (k * 4) 4 4 (by rfl) a6 4 c6 (by rfl) _ hB6 (cs (fill F 240 (4 * k))) 53 e1' 4 (by rfl) (by rw [cs_length, HFL.out]; omega) (by omega) ?_; intro w7 hc7))
            go_wp2_with fail
            go_roundw
            case rel =>
              have he6 : Below w.heap.size w w6 := he.drew.trans (hb6.mono he.size)
              (repeat apply Exists.intro)
              refine ⟨?_, rfl⟩
              refine ⟨k + 1, by omega, by omega, by go_num, by rw [Nat.add_sub_cancel], hc7.other (e0.dr.below hb6 e0.lt) (by omega), hc7.word HF.out hlt ?_, hc7.below he6 (by omega) he6.size⟩
              rw [List.take_of_length_le (by rw [HX4.out]; omega), HHi.out]
            case measure => simp [intOf]; omega
        · obtain rfl : k = 60 := by omega
          rw [show 4 * 60 = 240 from rfl, fill_end HF.out] at d1
          have HL : Hid ((cs F).length = 240) := by show _ = _; rw [cs_length, HF.out]
          go_wp2_with (first
            | (with_reducible refine at_ld 53 ?_; refine ld 53 (.tmp 5) 240 sizeS _ Try.underlying53 rfl (w.heap.size + 1) 0 _ HL.out d1.whole rfl ?_)
            | (with_reducible refine at_st 53 ?_; refine st 53 (.tmp 4) (.tmp 64) 240 sizeS w.heap.size 0 _ HL.out cs_one (d0.there 0 240 (by rw [cs_length, List.length_replicate]; omega)) rfl rfl ?_))
          have b3 := d0.setsW (cs F) (by rw [HL.out, cs_length, List.length_replicate])
          exact bodyPost_ret (v := .agg (cs F).toArray) (res_blk Try.results23 _ _ w.heap.size _ _ _ rfl b3 Try.underlying53 240 HL.out sizeS) rfl ⟨rfl, below_sets (Nat.le_refl _) _ hd 0⟩

end Go.Proofs.Ytofhnigdfmekdaa
