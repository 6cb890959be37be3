/-
  8 texts in one. No statement of the seat is proved here.
-/
import Derived.Test.YtlenmkhmkommcaaGreatG15
import Derived.Deep.DeepCutAuto
import Derived.Deep.CutBlock
/-
  The contract of 'spread': the words of a key of 32 bytes. Condition: the tables lie where the pointer leads.
-/
namespace Go.Proofs.YtlenmkhmkommcaaGreat
open Go.RowKit

theorem sizeS : (Tryz.prog.info? 226).map (·.size) = some 240 := by kernel_rfl
theorem zeroS : Tryz.zeroCells226 = zarr 240 := by kernel_rfl
attribute [local go_sem] zeroS

theorem lenW : Tryz.prog.arrayLen 224 = 4 := by kernel_rfl
theorem undW : Tryz.prog.underlying 224 = some (.array (Tryz.prog.arrayLen 224) (Tryz.prog.elem 224)) := by kernel_rfl
theorem elW (w : World) : Sem.run Tryz.prog (sizeOf (Tryz.prog.elem 224)) w = .ok 1 w := by kernel_rfl
theorem allW (g o : Nat) (w : World) : Sem.run Tryz.prog (Instr.sliceAt 224 (.pointer (some ⟨g, o, none⟩)) none none none) w = .ok (.slice (some ⟨g, o, none⟩) 4 4) w := by
  rw [run_sliceAt_array_all w 224 _ undW, elW]
  simp only [Result.andThen, slicedAt, lenW]
  rfl

theorem Copied.word {w w' : World} {g k : Nat} {F l : List UInt8} {t : TypeId} (h : Copied w w' g (k * 4) 4 (cs (fill F 240 (4 * k))) l t) (hF : F.length = 240) (hk : k < 60) (hl : l.take 4 = wd F k) : Blk w' g (cs (fill F 240 (4 * (k + 1)))) t := by
  have b := h.blk
  rw [hl, Nat.mul_comm k 4] at b
  rw [← fill_word hF hk, cs_append, cs_append]
  unfold cs at b ⊢
  rw [List.map_take, List.map_drop]
  exact b

theorem word_range {w : World} {g k j : Nat} {F : List UInt8} {t : TypeId} (b : Blk w g (cs (fill F 240 (4 * k))) t) (hF : F.length = 240) (hk : k ≤ 60) (hj : j < k) : w.rangeAt g (j * 4) (cs (wd F j)) := by
  rw [← fill_wd hF hk hj, Nat.mul_comm]
  exact b.range _ _ fun i v hv => cs_sub hv
abbrev z4 : Array Value := #[.int .u8 0, .int .u8 0, .int .u8 0, .int .u8 0]

theorem tmp_first (X : List UInt8) {k : Nat} (h : k % 8 = 0) : ([X.getD 1 0, X.getD 2 0, X.getD 3 0, X.getD 0 0].map box).set 0 ((([X.getD 1 0, X.getD 2 0, X.getD 3 0, X.getD 0 0].map box).getD 0 0) ^^^ dpow ((k - 1) / 8)) = tmpW X k := by
  unfold tmpW
  rw [if_pos h]
  rfl
theorem tmp_half (X : List UInt8) {k : Nat} (h : k % 8 = 4) : X.map box = tmpW X k := by
  unfold tmpW
  rw [if_neg (by omega), if_pos h]
theorem tmp_same (X : List UInt8) {k : Nat} (h : ¬ k % 8 = 0) (h4 : ¬ k % 8 = 4) : X = tmpW X k := by
  unfold tmpW
  rw [if_neg h, if_neg h4]
theorem pow_up {k : Nat} (h8 : 8 ≤ k) (h : k % 8 = 0) : dbl (dpow ((k - 1) / 8)) = dpow (k / 8) := by
  rw [show k / 8 = (k - 1) / 8 + 1 from by omega]
  rfl
theorem pow_stay {k : Nat} (h : ¬ k % 8 = 0) : dpow ((k - 1) / 8) = dpow (k / 8) := by
  rw [show k / 8 = (k - 1) / 8 from by omega]

theorem oTurnedX (w : World) (X : List UInt8) (hX : X.length = 4) :
    Calls Tryz.prog 157 #[.agg (cs X).toArray] w fun e w' => e = .returned (.agg (cs [X.getD 1 0, X.getD 2 0, X.getD 3 0, X.getD 0 0]).toArray) ∧ Below w.heap.size w w' := by
  obtain ⟨a, b, c, d, rfl⟩ := len4 hX
  exact oTurned w a b c d

set_option maxRecDepth 100000 in
set_option maxHeartbeats 2000000 in
theorem oSched (w : World) (g : Nat) (hT : Tab w g) {a : Option Addr} {c : Nat} {key : List UInt8} (ha : Bs w a 32 c key) :
    Calls Tryz.prog 143 #[.pointer (some ⟨g, 0, none⟩), .slice a 32 c] w fun e w' => e = .returned (bv (keyF key)) ∧ Below w.heap.size w w' := by
  have hgl := hT.lt
  have hkl := ha.len
  have HF : Hid ((keyF key).length = 240) := keyF_length hkl
  have HLow : Hid (∀ i, i < 8 → wd (keyF key) i = wd key i) := fun i hi => wd_low hkl hi
  have HHigh : Hid (∀ i, i < 60 → 8 ≤ i → wd (keyF key) i = xorL (wd (keyF key) (i - 8)) (tmpW (wd (keyF key) (i - 1)) i)) := fun i hi h8 => wd_high hkl hi h8
  generalize hF : keyF key = F at *
  clear hF
  have hne := zarr_ne (n := 240) (by omega)
  have hall := allW
  unfold bv
  go_enter Tryz.func143, Tryz.ntmps143
  go_wp2_with fail
  obtain ⟨W2, hW2⟩ : ∃ W2, W2 = (w.alloc (.cells (zarr 240) 226)).alloc (.cells (zarr 240) 226) := ⟨_, rfl⟩
  rw [← hW2]
  have d0 : Blk W2 w.heap.size (cs (List.replicate 240 0)) 226 := by rw [hW2, ← zarr_toList]; exact (Blk.new w _ _).old _
  have d1 : Blk W2 (w.heap.size + 1) (cs (fill F 240 0)) 226 := by rw [hW2, fill_zero, ← zarr_toList]; exact Blk.newAt (w.alloc _) _ _ _ (by simp) _ rfl
  have hd : Below w.heap.size w W2 := by rw [hW2]; exact below2 w _ _
  clear hW2
  go_loopw [6, 10] (fun _ i wr => ∃ k : Nat, k ≤ 8 ∧ i = .int .i64 k ∧ Blk wr w.heap.size (cs (List.replicate 240 0)) 226 ∧ Blk wr (w.heap.size + 1) (cs (fill F 240 (4 * k))) 226 ∧ Below w.heap.size w wr) (fun _ i _ => 8 - (intOf i).toNat)
  case atStart => exact ⟨0, by omega, rfl, d0, d1, hd⟩
  case round =>
    clear d0 d1 hd
    obtain ⟨k, hk, rfl, d0, d1, hd⟩ := hrel
    by_cases hlt : k < 8
    · have h0 : (0 : Int) ≤ (k : Int) := by omega
      have h8 : (k : Int) < 8 := by omega
      have h60 : (k : Int) < 60 := by omega
      obtain ⟨a', c', hcut, hB, _⟩ := ha.cutLow (4 * k) (by omega)
      rw [show ((4 * k : Nat) : Int) = (k : Int) * 4 from by omega] at hcut
      have hwk : IntKind.i64.wrap ((k : Int) * 4) = (k : Int) * 4 := by rw [IntKind.wrap_i64]; omega
      have hB' := hB wr (ha.below hd (Nat.le_refl _))
      have HL : Hid (wd F k = (key.drop (4 * k)).take 4) := HLow.out k hlt
      have HW := fill_word HF.out (i := k) (by omega)
      have HFL : Hid ((fill F 240 (4 * k)).length = 240) := fill_length HF.out (by omega)
      clear hB
      go_wp2_with fail
      go_region_held3 (fun _ => True) (trivial) ((refine step_cp (by rfl) (.tmp 15) (.tmp 19) (by rfl) (w.heap.size + 1) (k * 4) 4 4 (by rfl) a' (32 - 4 * k) c' (by rfl) (key.drop (4 * k)) hB'.drew (cs (fill F 240 (4 * k))) 226 d1.dr 4 (by show 4 = min _ 4; omega) (by rw [cs_length, HFL.out]; omega) (by omega) ?_; intro w1 hc1))
      go_wp2_with fail
      go_roundw
      case rel => exact ⟨k + 1, by omega, by go_num, hc1.other d0.dr (by omega), hc1.word HF.out (by omega) HL.out.symm, hc1.below hd.drew (by omega) hd.size⟩
      case measure => simp [intOf]; omega
    · obtain rfl : k = 8 := by omega
      go_wp2_with fail
      go_loopw [7, 8, 9] (fun p i _ wr => ∃ k : Nat, 8 ≤ k ∧ k ≤ 60 ∧ i = .int .i64 k ∧ p = .int .u8 ((dpow ((k - 1) / 8)).toNat : Int) ∧ Blk wr w.heap.size (cs (List.replicate 240 0)) 226 ∧ Blk wr (w.heap.size + 1) (cs (fill F 240 (4 * k))) 226 ∧ Below w.heap.size w wr) (fun _ i _ _ => 60 - (intOf i).toNat)
      case atStart => exact ⟨8, by omega, by omega, rfl, rfl, d0, d1, hd⟩
      case round =>
        clear d0 d1 hd hk hlt
        obtain ⟨k, hk8, hk, rfl, rfl, d0, d1, hd⟩ := hrel
        by_cases hlt : k < 60
        · have h0 : (0 : Int) ≤ (k : Int) := by omega
          have h8 : (8 : Int) ≤ (k : Int) := by omega
          have h60 : (k : Int) < 60 := by omega
          obtain ⟨m, hm⟩ : ∃ m, m = k % 8 := ⟨_, rfl⟩
          have HM : Hid (m = k % 8) := hm
          have hm0 : (k : Int) % 8 = (m : Int) := by omega
          have hm1 : (k : Int).tmod 8 = (m : Int) := by rw [Int.tmod_eq_emod_of_nonneg (by omega)]; omega
          clear hm
          obtain ⟨X, hX⟩ : ∃ X, X = wd F (k - 1) := ⟨_, rfl⟩
          have HXL : Hid (X.length = 4) := by show _ = _; rw [hX]; exact wd_length (by have := HF.out; omega)
          have HCX : Hid ((cs X).length = 4) := by show _ = _; rw [cs_length, HXL.out]
          have rX := word_range d1 HF.out hk (show k - 1 < k by omega)
          have HHi : Hid (wd F k = xorL (wd F (k - 8)) (tmpW X k)) := by show _ = _; rw [hX]; exact HHigh.out k hlt hk8
          rw [← hX] at rX
          clear hX
          obtain ⟨P, hP⟩ : ∃ P, P = dpow ((k - 1) / 8) := ⟨_, rfl⟩
          rw [← hP]
          have HP : Hid (P = dpow ((k - 1) / 8)) := hP
          clear hP
          go_upto_block 4 with (first
            | (with_reducible refine at_ld 224 ?_; refine ld 224 (.tmp 28) 4 sizeW _ Tryz.underlying224 rfl (w.heap.size + 1) ((k - 1) * 4) _ HCX.out rX rfl ?_)
            | (with_reducible refine at_st 224 ?_; refine st' 224 (.tmp 9) (.tmp 29) 4 sizeW wr.heap.size 0 _ HCX.out cs_one ((Blk.new wr z4 224).there 0 4 (by decide)) rfl rfl ?_; intro w2 hw2
               have e2 : Blk w2 wr.heap.size (cs X) 224 := by rw [hw2]; exact (Blk.new wr z4 224).setsW _ (by rw [HCX.out]; rfl)
               have e0 : Blk w2 w.heap.size (cs (List.replicate 240 0)) 226 := by rw [hw2]; exact Blk.setsO (by have := d0.lt; omega) _ (d0.old _) 0
               have e1 : Blk w2 (w.heap.size + 1) (cs (fill F 240 (4 * k))) 226 := by rw [hw2]; exact Blk.setsO (by have := d1.lt; omega) _ (d1.old _) 0
               have he : Below w.heap.size w w2 := by rw [hw2]; exact below_sets hd.size _ (hd.alloc hd.size _) 0
               clear hw2))
          have hl1 := d1.lt
          generalize hgl2 : wr.heap.size = gl at *
          clear hgl2 d0 d1 hd rX
          go_cut [7] (fun p wx => p = .int .u8 ((dpow (k / 8)).toNat : Int) ∧ Blk wx gl (cs (tmpW X k)) 224 ∧ Blk wx w.heap.size (cs (List.replicate 240 0)) 226 ∧ Blk wx (w.heap.size + 1) (cs (fill F 240 (4 * k))) 226 ∧ Below w.heap.size w wx)
          case first =>
            have HTb : Hid (Tab w2 g) := hT.below he hgl
            by_cases hz : m = 0
            · have HK : Hid (k % 8 = 0) := by show _ = _; rw [← HM.out]; exact hz
              subst hz
              obtain ⟨T, hTe⟩ : ∃ T, T = [X.getD 1 0, X.getD 2 0, X.getD 3 0, X.getD 0 0] := ⟨_, rfl⟩
              obtain ⟨B, hB⟩ : ∃ B, B = T.map box := ⟨_, rfl⟩
              have HBL : Hid (B.length = 4) := by show _ = _; rw [hB, hTe]; rfl
              have HCB : Hid ((cs B).length = 4) := by show _ = _; rw [cs_length, HBL.out]
              have CT : Hid (∀ w, Calls Tryz.prog 157 #[.agg (cs X).toArray] w fun e w' => e = .returned (.agg (cs T).toArray) ∧ Below w.heap.size w w') := fun w => by rw [hTe]; exact oTurnedX w X HXL.out
              have CB : Hid (∀ w, Tab w g → Calls Tryz.prog 156 #[.pointer (some ⟨g, 0, none⟩), .agg (cs T).toArray] w fun e w' => e = .returned (.agg (cs B).toArray) ∧ Below w.heap.size w w') := fun w h => by rw [hB]; exact oBoxed w g h T (by rw [hTe]; rfl)
              obtain ⟨y, hy⟩ : ∃ y, y = B.getD 0 0 := ⟨_, rfl⟩
              have HE : Hid (B.set 0 (y ^^^ P) = tmpW X k) := by show _ = _; rw [hy, hB, hTe, HP.out]; exact tmp_first X HK.out
              have HPN : Hid (dbl P = dpow (k / 8)) := by show _ = _; rw [HP.out]; exact pow_up hk8 HK.out
              have HY : Hid (y = B.getD 0 0) := hy
              clear hTe hB hy
              have hPl := b_lt P
              have hp0 : (0 : Int) ≤ (P.toNat : Int) := by omega
              have hp1 : (P.toNat : Int) < 256 := by omega
              have hgne : ¬ g = gl := by omega
              have hgne' : ¬ gl = g := by omega
              go_wp2_with (first
                | (with_reducible refine at_ld 224 ?_; refine ld 224 (.tmp 9) 4 sizeW _ Tryz.underlying224 rfl gl 0 _ HCX.out e2.whole rfl ?_)
                | (go_at_call 157; refine (CT.out w2).mono ?_; rintro e w3 ⟨rfl, hb3⟩; have he3 := he.trans (hb3.mono he.size))
                | (go_at_call 156; refine (CB.out w3 (hT.below he3 hgl)).mono ?_; rintro e w4 ⟨rfl, hb4⟩; have he4 := he3.trans (hb4.mono he3.size); have e2' := (e2.below hb3 e2.lt).below hb4 (Nat.lt_of_lt_of_le e2.lt hb3.size); have e0' := (e0.below hb3 e0.lt).below hb4 (Nat.lt_of_lt_of_le e0.lt hb3.size); have e1' := (e1.below hb3 e1.lt).below hb4 (Nat.lt_of_lt_of_le e1.lt hb3.size))
                | (with_reducible refine at_st 224 ?_; refine st' 224 (.tmp 9) (.tmp 37) 4 sizeW gl 0 _ HCB.out cs_one (e2'.there 0 4 (by rw [HCX.out]; omega)) rfl rfl ?_; intro w5 hw5
                   have i2 : Blk w5 gl (cs B) 224 := by rw [hw5]; exact e2'.setsW _ (by rw [HCX.out, HCB.out])
                   have i0 : Blk w5 w.heap.size (cs (List.replicate 240 0)) 226 := by rw [hw5]; exact Blk.setsO (by omega) _ e0' 0
                   have i1 : Blk w5 (w.heap.size + 1) (cs (fill F 240 (4 * k))) 226 := by rw [hw5]; exact Blk.setsO (by omega) _ e1' 0
                   have hi5 : Below w.heap.size w w5 := by rw [hw5]; exact below_sets (by omega) _ he4 0
                   have q0 := i2.at8 (k := 0) (by rw [HBL.out]; omega)
                   rw [← HY.out] at q0
                   have f0 := i2.free 0
                   have tw0 := (hT.below hi5 hgl).tw P
                   clear hw5))
              go_meet
              case rel =>
                refine ⟨by rw [← HPN.out], ?_, i0.setO (by simp; omega) _, i1.setO (by simp; omega) _, hi5.setCell (by simp; omega) _⟩
                rw [xor_u8, ← HE.out]
                exact i2.set8 0 _
            · by_cases h4 : m = 4
              · have HK : Hid (k % 8 = 4) := by show _ = _; rw [← HM.out]; exact h4
                subst h4
                obtain ⟨B, hB⟩ : ∃ B, B = X.map box := ⟨_, rfl⟩
                have HBL : Hid (B.length = 4) := by show _ = _; rw [hB, List.length_map, HXL.out]
                have HCB : Hid ((cs B).length = 4) := by show _ = _; rw [cs_length, HBL.out]
                have CB : Hid (∀ w, Tab w g → Calls Tryz.prog 156 #[.pointer (some ⟨g, 0, none⟩), .agg (cs X).toArray] w fun e w' => e = .returned (.agg (cs B).toArray) ∧ Below w.heap.size w w') := fun w h => by rw [hB]; exact oBoxed w g h X HXL.out
                have HE : Hid (B = tmpW X k) := by show _ = _; rw [hB]; exact tmp_half X HK.out
                have HPN : Hid (P = dpow (k / 8)) := by show _ = _; rw [HP.out]; exact pow_stay (by rw [HK.out]; omega)
                clear hB hz
                go_wp2_with (first
                  | (with_reducible refine at_ld 224 ?_; refine ld 224 (.tmp 9) 4 sizeW _ Tryz.underlying224 rfl gl 0 _ HCX.out e2.whole rfl ?_)
                  | (go_at_call 156; refine (CB.out w2 HTb.out).mono ?_; rintro e w4 ⟨rfl, hb4⟩; have he4 := he.trans (hb4.mono he.size); have e2' := e2.below hb4 e2.lt; have e0' := e0.below hb4 e0.lt; have e1' := e1.below hb4 e1.lt)
                  | (with_reducible refine at_st 224 ?_; refine st' 224 (.tmp 9) (.tmp 53) 4 sizeW gl 0 _ HCB.out cs_one (e2'.there 0 4 (by rw [HCX.out]; omega)) rfl rfl ?_; intro w5 hw5
                     have i2 : Blk w5 gl (cs B) 224 := by rw [hw5]; exact e2'.setsW _ (by rw [HCX.out, HCB.out])
                     have i0 : Blk w5 w.heap.size (cs (List.replicate 240 0)) 226 := by rw [hw5]; exact Blk.setsO (by omega) _ e0' 0
                     have i1 : Blk w5 (w.heap.size + 1) (cs (fill F 240 (4 * k))) 226 := by rw [hw5]; exact Blk.setsO (by omega) _ e1' 0
                     have hi5 : Below w.heap.size w w5 := by rw [hw5]; exact below_sets (by omega) _ he4 0
                     clear hw5))
                go_meet
                case rel => exact ⟨by rw [← HPN.out], by rw [← HE.out]; exact i2, i0, i1, hi5⟩
              · have HE : Hid (X = tmpW X k) := tmp_same X (by rw [← HM.out]; exact hz) (by rw [← HM.out]; exact h4)
                have HPN : Hid (P = dpow (k / 8)) := by show _ = _; rw [HP.out]; exact pow_stay (by rw [← HM.out]; exact hz)
                have z0 : ((m : Int) == 0) = false := by simp; omega
                have z4 : ((m : Int) == 4) = false := by simp; omega
                clear hz h4
                go_wp2_with fail
                go_meet
                case rel => exact ⟨by rw [← HPN.out], by rw [← HE.out]; exact e2, e0, e1, he⟩
          case rest =>
            clear e0 e1 e2 he
            obtain ⟨rfl, e2, e0, e1, he⟩ := hcut
            have HWL : Hid ((wd F (k - 8)).length = 4) := wd_length (by have := HF.out; omega)
            have HTL : Hid ((tmpW X k).length = 4) := tmpW_length HXL.out k
            have hBa : Bs wc (some ⟨w.heap.size + 1, (k - 8) * 4, none⟩) 4 4 (wd F (k - 8)) := by
              have := Bs.of_range (word_range e1 HF.out hk (show k - 8 < k by omega)) (c := 4) (by rw [HWL.out]; omega) (by omega)
              rw [HWL.out] at this
              exact this
            have hBb : Bs wc (some ⟨gl, 0, none⟩) 4 4 (tmpW X k) := by
              have := Bs.of_range e2.whole (c := 4) (by rw [HTL.out]; omega) (by omega)
              rw [HTL.out] at this
              exact this
            have HX4 : Hid ((xorL (wd F (k - 8)) (tmpW X k)).length = 4) := by show _ = _; rw [xorL_length (by rw [HWL.out, HTL.out]), HWL.out]
            have HFL : Hid ((fill F 240 (4 * k)).length = 240) := fill_length HF.out (by omega)
            have s8 : IntKind.i64.wrap ((k : Int) - 8) = (k : Int) - 8 := by rw [IntKind.wrap_i64]; omega
            have p8 : (0 : Int) ≤ (k : Int) - 8 := by omega
            have q8 : (k : Int) - 8 < 60 := by omega
            have r8 : ((k : Int) - 8).toNat = k - 8 := by omega
            go_wp2_with fail
            go_region_held3 (fun _ => True) (trivial) (first
              | (go_at_call 151; refine (oXor wc.drew hBa.drew hBb.drew (by omega) (by omega)).mono ?_; rintro e w6 ⟨a6, m6, c6, rfl, ho6, hb6⟩; have hB6 := ho6.toBs; have hm6 : m6 = 4 := by rw [← hB6.len]; exact HX4.out
                 subst hm6; have e1' := e1.dr.below hb6 e1.lt)
              | (refine step_cp (by rfl) (.tmp 56) (.tmp 62) (by rfl) (w.heap.size + 1) (k * 4) 4 4 (by rfl) a6 4 c6 (by rfl) _ hB6 (cs (fill F 240 (4 * k))) 226 e1' 4 (by rfl) (by rw [cs_length, HFL.out]; omega) (by omega) ?_; intro w7 hc7))
            go_wp2_with fail
            go_roundw
            case rel =>
              have he6 : Below w.heap.size w w6 := he.drew.trans (hb6.mono he.size)
              (repeat apply Exists.intro)
              refine ⟨?_, rfl⟩
              refine ⟨k + 1, by omega, by omega, by go_num, by rw [Nat.add_sub_cancel], hc7.other (e0.dr.below hb6 e0.lt) (by omega), hc7.word HF.out hlt ?_, hc7.below he6 (by omega) he6.size⟩
              rw [List.take_of_length_le (by rw [HX4.out]; omega), HHi.out]
            case measure => simp [intOf]; omega
        · obtain rfl : k = 60 := by omega
          rw [show 4 * 60 = 240 from rfl, fill_end HF.out] at d1
          have HL : Hid ((cs F).length = 240) := by show _ = _; rw [cs_length, HF.out]
          go_wp2_with (first
            | (with_reducible refine at_ld 226 ?_; refine ld 226 (.tmp 5) 240 sizeS _ Tryz.underlying226 rfl (w.heap.size + 1) 0 _ HL.out d1.whole rfl ?_)
            | (with_reducible refine at_st 226 ?_; refine st 226 (.tmp 4) (.tmp 64) 240 sizeS w.heap.size 0 _ HL.out cs_one (d0.there 0 240 (by rw [cs_length, List.length_replicate]; omega)) rfl rfl ?_))
          have b3 := d0.setsW (cs F) (by rw [HL.out, cs_length, List.length_replicate])
          exact bodyPost_ret (v := .agg (cs F).toArray) (res_blk Tryz.results143 _ _ w.heap.size _ _ _ rfl b3 Tryz.underlying226 240 HL.out sizeS) rfl ⟨rfl, below_sets (Nat.le_refl _) _ hd 0⟩

end Go.Proofs.YtlenmkhmkommcaaGreat

/-
  The contract of 'keys': the keys of all rounds out of the words. Condition: 240 bytes.
-/
namespace Go.Proofs.YtlenmkhmkommcaaGreat
open Go.RowKit

theorem sizeR : (Tryz.prog.info? 207).map (·.size) = some 240 := by kernel_rfl
theorem zeroR : Tryz.zeroCells207 = zarr 240 := by kernel_rfl
attribute [local go_sem] zeroR

/-- A word of a row of words. -/
theorem idxW (F : List UInt8) (k : Nat) (hk : k < 60) (w : World) :
    Sem.run Tryz.prog (Instr.index 226 (.agg (cs F).toArray) (.int .i64 (k : Int))) w = .ok (.agg (cs (wd F k)).toArray) w := by
  have e : ((cs F).drop (k * 4)).take 4 = cs (wd F k) := by
    unfold wd cs
    rw [List.map_take, List.map_drop, Nat.mul_comm]
  simp [Instr.index, asIntOf, run_underlying Tryz.underlying226, part, hk, e]

theorem cutK (g o m : Nat) (hm : m < 4) (w : World) : Sem.run Tryz.prog (Instr.sliceAt 204 (.pointer (some ⟨g, o, none⟩)) (some (.int .i64 ((m : Int) * 4))) none none) w = .ok (.slice (some ⟨g, o + m * 4, none⟩) (16 - m * 4) (16 - m * 4)) w := by
  rw [run_sliceAt_array_l w 204 _ undK .i64 _ (by omega) (by rw [lenK]; omega), elK]
  simp only [Result.andThen, slicedAt, lenK]
  rw [show ((m : Int) * 4).toNat = m * 4 from by omega, if_neg (by omega), add_mid', Nat.mul_one]

set_option maxRecDepth 100000 in
set_option maxHeartbeats 2000000 in
theorem oKeys (w : World) (F : List UInt8) (hF : F.length = 240) :
    Calls Tryz.prog 144 #[bv F] w fun e w' => e = .returned (bv F) ∧ Below w.heap.size w w' := by
  have hne := zarr_ne (n := 240) (by omega)
  have hall := allW
  have HF : Hid (F.length = 240) := hF
  have HL : Hid ((cs F).length = 240) := by show _ = _; rw [cs_length, hF]
  clear hF
  unfold bv
  go_enter Tryz.func144, Tryz.ntmps144
  go_wp2_with (first
    | (with_reducible refine at_ld 226 ?_; refine ld 226 (.tmp 1) 240 sizeS _ Tryz.underlying226 rfl w.heap.size 0 _ HL.out (((Blk.new w _ _).old _).old _).whole rfl ?_))
  obtain ⟨W2, hW2⟩ : ∃ W2, W2 = ((w.alloc (.cells (cs F).toArray 226)).alloc (.cells (zarr 240) 207)).alloc (.cells (zarr 240) 207) := ⟨_, rfl⟩
  rw [← hW2]
  have d0 : Blk W2 (w.heap.size + 1) (cs (List.replicate 240 0)) 207 := by rw [hW2, ← zarr_toList]; exact (Blk.newAt (w.alloc _) _ _ _ (by simp) _ rfl).old _
  have d1 : Blk W2 (w.heap.size + 1 + 1) (cs (fill F 240 0)) 207 := by rw [hW2, fill_zero, ← zarr_toList]; exact Blk.newAt ((w.alloc _).alloc _) _ _ _ (by simp) _ rfl
  have hd : Below w.heap.size w W2 := by rw [hW2]; exact below3 w _ _ _
  clear hW2
  go_loopw [4, 5, 7] (fun _ _ i wr => ∃ k : Nat, k ≤ 60 ∧ i = .int .i64 k ∧ Blk wr (w.heap.size + 1) (cs (List.replicate 240 0)) 207 ∧ Blk wr (w.heap.size + 1 + 1) (cs (fill F 240 (4 * k))) 207 ∧ Below w.heap.size w wr) (fun _ _ i _ => 60 - (intOf i).toNat)
  case atStart => exact ⟨0, by omega, rfl, d0, d1, hd⟩
  case round =>
    clear d0 d1 hd
    obtain ⟨k, hk, rfl, d0, d1, hd⟩ := hrel
    by_cases hlt : k < 60
    · have h0 : (0 : Int) ≤ (k : Int) := by omega
      have h60 : (k : Int) < 60 := by omega
      have hix := idxW F k hlt
      obtain ⟨q, hq⟩ : ∃ q, q = k / 4 := ⟨_, rfl⟩
      obtain ⟨m, hm⟩ : ∃ m, m = k % 4 := ⟨_, rfl⟩
      have hml : m < 4 := by omega
      have HO : Hid (q * 16 + m * 4 = k * 4) := by show _ = _; omega
      have hq0 : (k : Int) / 4 = (q : Int) := by omega
      have hq1 : (k : Int).tdiv 4 = (q : Int) := by rw [Int.tdiv_eq_ediv_of_nonneg (by omega)]; omega
      have hm0 : (k : Int) % 4 = (m : Int) := by omega
      have hm1 : (k : Int).tmod 4 = (m : Int) := by rw [Int.tmod_eq_emod_of_nonneg (by omega)]; omega
      have hq2 : (0 : Int) ≤ (q : Int) := by omega
      have hq3 : (q : Int) < 15 := by omega
      have hwq : IntKind.i64.wrap (q : Int) = (q : Int) := by rw [IntKind.wrap_i64]; omega
      have hwm : IntKind.i64.wrap ((m : Int) * 4) = (m : Int) * 4 := by rw [IntKind.wrap_i64]; omega
      have hcut := fun g o => cutK g o m hml
      clear hq hm
      have HW := wd_length (F := F) (j := k) (by have := HF.out; omega)
      obtain ⟨X, hX⟩ : ∃ X, X = wd F k := ⟨_, rfl⟩
      rw [← hX] at hix HW
      have HX : Hid (X = wd F k) := hX
      have HXL : Hid (X.length = 4) := HW
      have HCX : Hid ((cs X).length = 4) := by show _ = _; rw [cs_length, HXL.out]
      have HFL : Hid ((fill F 240 (4 * k)).length = 240) := fill_length HF.out (by omega)
      clear hX HW
      go_wp2_with (first
        | (with_reducible refine at_st 224 ?_; refine st' 224 (.tmp 5) (.tmp 10) 4 sizeW wr.heap.size 0 _ HCX.out cs_one ((Blk.new wr z4 224).there 0 4 (by decide)) rfl rfl ?_; intro w2 hw2
           have e2 : Blk w2 wr.heap.size (cs X) 224 := by rw [hw2]; exact (Blk.new wr z4 224).setsW _ (by rw [HCX.out]; rfl)
           have e0 : Blk w2 (w.heap.size + 1) (cs (List.replicate 240 0)) 207 := by rw [hw2]; exact Blk.setsO (by have := d0.lt; omega) _ (d0.old _) 0
           have e1 : Blk w2 (w.heap.size + 1 + 1) (cs (fill F 240 (4 * k))) 207 := by rw [hw2]; exact Blk.setsO (by have := d1.lt; omega) _ (d1.old _) 0
           have he : Below w.heap.size w w2 := by rw [hw2]; exact below_sets hd.size _ (hd.alloc hd.size _) 0
           clear hw2))
      have hBb : Bs w2 (some ⟨wr.heap.size, 0, none⟩) 4 4 X := by
        have := Bs.of_range e2.whole (c := 4) (by rw [HXL.out]; omega) (by omega)
        rw [HXL.out] at this
        exact this
      go_region_held3 (fun _ => True) (trivial) ((refine step_cp (by rfl) (.tmp 17) (.tmp 18) (by rfl) (w.heap.size + 1 + 1) (q * 16 + m * 4) (16 - m * 4) (16 - m * 4) (by rfl) (some ⟨wr.heap.size, 0, none⟩) 4 4 (by rfl) X hBb.drew (cs (fill F 240 (4 * k))) 207 e1.dr 4 (by show 4 = min 4 _; omega) (by have := HO.out; rw [cs_length, HFL.out]; omega) (by omega) ?_; intro w7 hc7))
      rw [HO.out] at hc7
      go_wp2_with fail
      go_roundw
      case rel => exact ⟨k + 1, by omega, by go_num, hc7.other e0.dr (by omega), hc7.word HF.out hlt (by rw [List.take_of_length_le (by rw [HXL.out]; omega), HX.out]), hc7.below he.drew (by omega) he.size⟩
      case measure => simp [intOf]; omega
    · obtain rfl : k = 60 := by omega
      rw [show 4 * 60 = 240 from rfl, fill_end HF.out] at d1
      go_wp2_with (first
        | (with_reducible refine at_ld 207 ?_; refine ld 207 (.tmp 3) 240 sizeR _ Tryz.underlying207 rfl (w.heap.size + 1 + 1) 0 _ HL.out d1.whole rfl ?_)
        | (with_reducible refine at_st 207 ?_; refine st 207 (.tmp 2) (.tmp 21) 240 sizeR (w.heap.size + 1) 0 _ HL.out cs_one (d0.there 0 240 (by rw [cs_length, List.length_replicate]; omega)) rfl rfl ?_))
      have b3 := d0.setsW (cs F) (by rw [HL.out, cs_length, List.length_replicate])
      exact bodyPost_ret (v := .agg (cs F).toArray) (res_blk Tryz.results144 _ _ (w.heap.size + 1) _ _ _ rfl b3 Tryz.underlying207 240 HL.out sizeR) rfl ⟨rfl, below_sets (by omega) _ hd 0⟩

end Go.Proofs.YtlenmkhmkommcaaGreat

/-
  The contract of 'New': the cipher of a key of 32 bytes; and that other keys are refused. Condition: the tables lie where the pointer leads.
-/
namespace Go.Proofs.YtlenmkhmkommcaaGreat
open Go.RowKit

theorem built57 (parts : List (Nat × Value)) : Tryz.prog.built 209 parts = Instr.fill (#[(0, 512), (512, 240)][·]?) (zarr 752) parts := by kernel_rfl
theorem fold_set (A : List Value) : ∀ (k : Nat) (cells : Array Value) (off : Nat), off + k + A.length ≤ cells.size →
    ((A.zipIdx k).foldl (fun cs (c, j) => cs.setIfInBounds (off + j) c) cells).toList = cells.toList.take (off + k) ++ A ++ cells.toList.drop (off + k + A.length) := by
  induction A with
  | nil => intro k cells off _; simp
  | cons a A ih =>
    intro k cells off h
    rw [List.zipIdx_cons, List.foldl_cons, ih (k + 1) _ off (by simp at h ⊢; omega)]
    simp only [Array.toList_setIfInBounds]
    have := list_seg_step cells.toList (off + k) a A (by simp at h ⊢; omega)
    exact this
theorem fold_arr (A : List Value) (cells : Array Value) (off : Nat) (h : off + A.length ≤ cells.size) :
    (A.toArray.zipIdx.foldl (fun cs (c, j) => cs.setIfInBounds (off + j) c) cells) = (cells.toList.take off ++ A ++ cells.toList.drop (off + A.length)).toArray := by
  apply Array.toList_inj.1
  have := fold_set A 0 cells off (by omega)
  rw [Nat.add_zero] at this
  rw [← this]
  simp

def bC (P : Program) (A B : Array Value) : Option (Array Value) := P.built 209 [(0, .agg A), (1, .agg B)]
theorem fill_one {place : Nat → Option (Nat × Nat)} {cells : Array Value} {i off size : Nat} {A : List Value} {rest : List (Nat × Value)} (hp : place i = some (off, size)) (hs : A.length = size) (hf : off + size ≤ cells.size) :
    Instr.fill place cells ((i, .agg A.toArray) :: rest) = Instr.fill place (cells.toList.take off ++ A ++ cells.toList.drop (off + size)).toArray rest := by
  have h1 : (Value.agg A.toArray).cells = A.toArray := rfl
  have h2 : A.toArray.size = size := by rw [List.size_toArray, hs]
  subst hs
  rw [Instr.fill, hp, ← fold_arr A cells off hf]
  show (if _ then none else _) = _
  rw [if_neg (by rw [h1, h2]; simp; omega)]
  rfl
theorem bC_of {A B : List Value} (hA : A.length = 512) (hB : B.length = 240) : bC Tryz.prog A.toArray B.toArray = some (A ++ B).toArray := by
  have hz : (zarr 752).toList.length = 752 := by rw [zarr_toList, cs_length, List.length_replicate]
  have hz' : (zarr 752).size = 752 := by rw [← Array.length_toList, hz]
  unfold bC
  rw [built57, fill_one (off := 0) (size := 512) rfl hA (by omega), List.take_zero, List.nil_append, Nat.zero_add]
  have hZ : ((zarr 752).toList.drop 512).length = 240 := by rw [List.length_drop, hz]
  generalize (zarr 752).toList.drop 512 = Z at hZ
  rw [fill_one (off := 512) (size := 240) rfl hB (by rw [List.size_toArray, List.length_append, hA, hZ]; omega), Instr.fill]
  congr 2
  show (A ++ Z).take 512 ++ B ++ (A ++ Z).drop (512 + 240) = A ++ B
  rw [List.drop_eq_nil_of_le (by rw [List.length_append, hA, hZ]; omega), List.append_nil, List.take_append_of_le_length (by omega), List.take_of_length_le (by omega)]

def bd57 (parts : Array (Nat × Value)) : Sem Value := Instr.build 209 parts
theorem bd57_in (parts : Array (Nat × Value)) : Instr.build 209 parts = bd57 parts := rfl
def farBd (P : Program) (A B : Array Value) (w : World) : Result Value := Sem.run P (bd57 #[(0, .agg A), (1, .agg B)]) w
theorem bd57_run (A B : Array Value) (w : World) : Sem.run Tryz.prog (bd57 #[(0, .agg A), (1, .agg B)]) w = match bC Tryz.prog A B with | some c => .ok (.agg c) w | none => farBd Tryz.prog A B w := by
  split
  · rename_i c h
    exact run_build w 209 _ c h
  · rfl

theorem sizeT : (Tryz.prog.info? 140).map (·.size) = some 512 := by kernel_rfl
/-- The 512 cells from a place on, where they are all there. -/
def rowT (w : World) (b o : Nat) : Option (Array Value) :=
  if ∀ j, j < 512 → (w.cell? ⟨b, o + j, none⟩).isSome = true then some ((List.range 512).map fun j => (w.cell? ⟨b, o + j, none⟩).getD undef).toArray else none
def farLdT (P : Program) (w : World) (b o : Nat) : Result Value := Sem.run P (Instr.loadAt 140 (.pointer (some ⟨b, o, none⟩))) w
def ldT (x : Value) : Sem Value := Instr.loadAt 140 x
theorem ldT_in (x : Value) : Instr.loadAt 140 x = ldT x := rfl
theorem ldT_run (w : World) (b o : Nat) : Sem.run Tryz.prog (ldT (.pointer (some ⟨b, o, none⟩))) w = match rowT w b o with | some c => .ok (.agg c) w | none => farLdT Tryz.prog w b o := by
  unfold rowT
  split
  · rename_i c hc
    split at hc
    · rename_i h
      simp only [Option.some.injEq] at hc
      subst hc
      refine run_loadAt_mid w b o 140 _ _ (fun j v hv => ?_) Tryz.underlying140 rfl (by rw [sizeT, List.length_map, List.length_range])
      have hj : j < 512 := by
        have := (List.getElem?_eq_some_iff.1 hv).1
        rw [List.length_map, List.length_range] at this
        exact this
      have e := h j hj
      obtain ⟨u, hu⟩ := Option.isSome_iff_exists.1 e
      rw [List.getElem?_map, List.getElem?_range hj] at hv
      simp only [Option.map_some, Option.some.injEq] at hv
      rw [hu, ← hv, hu]
      rfl
    · simp at hc
  · rfl
theorem rowT_drew (w : World) (b o : Nat) : rowT w.drew b o = rowT w b o := rfl
set_option maxRecDepth 100000 in
theorem rowT_of {w : World} {b o : Nat} {c : List Value} (h : w.rangeAt b o c) (hc : c.length = 512) : rowT w b o = some c.toArray := by
  have hs : ∀ j, j < 512 → w.cell? ⟨b, o + j, none⟩ = c[j]? := fun j hj => by
    rw [h j c[j] (List.getElem?_eq_getElem (by omega)), List.getElem?_eq_getElem]
  unfold rowT
  rw [if_pos (fun j hj => by rw [hs j hj, List.getElem?_eq_getElem (by omega)]; rfl)]
  congr 2
  apply List.ext_getElem
  · rw [List.length_map, List.length_range, hc]
  · intro j h1 h2
    simp only [List.getElem_map, List.getElem_range]
    rw [hs j (by omega), List.getElem?_eq_getElem h2]
    rfl

/-- What New leaves: a cipher in new memory. -/
def HasC (w : World) (K : List UInt8) (e : Ending) (w' : World) : Prop := ∃ r, e = .returned (.tuple #[.pointer (some ⟨r, 0, none⟩), .int .i64 0]) ∧ w.heap.size ≤ r ∧ Cip w' r K ∧ Below w.heap.size w w'

attribute [local go_sem ↓] ldT_in bd57_in
attribute [local go_sem] ldT_run rowT_drew bd57_run
set_option maxRecDepth 100000 in
set_option maxHeartbeats 2000000 in
theorem oNewC (w : World) (g : Nat) (hT : Tab w g) {a : Option Addr} {c : Nat} {key : List UInt8} (ha : Bs w a 32 c key) :
    Calls Tryz.prog 131 #[.pointer (some ⟨g, 0, none⟩), .slice a 32 c] w (HasC w (keyF key)) := by
  have hgl := hT.lt
  have HTL : Hid ((cs tabT).length = 512) := by show _ = _; rw [cs_length, tabT_length]
  have HKL : Hid ((keyF key).length = 240) := keyF_length ha.len
  have HCL : Hid ((cs (keyF key)).length = 240) := by show _ = _; rw [cs_length, HKL.out]
  have q0 := rowT_of hT HTL.out
  have hbc := bC_of HTL.out HCL.out
  have CS : Hid (∀ w, Tab w g → Bs w a 32 c key → Calls Tryz.prog 143 #[.pointer (some ⟨g, 0, none⟩), .slice a 32 c] w fun e w' => e = .returned (.agg (cs (keyF key)).toArray) ∧ Below w.heap.size w w') := fun w h h' => oSched w g h h'
  have CK : Hid (∀ w, Calls Tryz.prog 144 #[.agg (cs (keyF key)).toArray] w fun e w' => e = .returned (.agg (cs (keyF key)).toArray) ∧ Below w.heap.size w w') := fun w => oKeys w _ HKL.out
  rw [← cs_append] at hbc
  generalize hX : cs (tabT ++ keyF key) = X at hbc
  have HX : Hid (cs (tabT ++ keyF key) = X) := hX
  clear hX
  have HT : Hid (Tab w g) := hT
  clear hT
  go_enter Tryz.func131, Tryz.ntmps131
  go_wp2_with fail
  go_region_with (first
    | (go_at_call 143; refine (CS.out w.drew HT.out ha.drew).mono ?_; rintro e w2 ⟨rfl, hb2⟩; have q2 := rowT_of (HT.out.dr.below hb2 hgl) HTL.out)
    | (go_at_call 144; refine (CK.out w2).mono ?_; rintro e w3 ⟨rfl, hb3⟩; have q3 := rowT_of ((HT.out.dr.below hb2 hgl).below hb3 (Nat.lt_of_lt_of_le hgl hb2.size)) HTL.out))
  all_goals
    go_wp2_with fail
    go_ret2
    have h3 : Below w.heap.size w w3 := ((Below.refl _ w).drew.trans hb2).trans (hb3.mono hb2.size)
    refine ⟨w3.heap.size, rfl, h3.size, ?_, h3.alloc h3.size _⟩
    unfold Cip
    rw [HX.out]
    exact (Blk.new w3 X.toArray _).whole

end Go.Proofs.YtlenmkhmkommcaaGreat

/-
  The contract of layer 6's New: the key of 32 bytes; and that other keys are refused. Condition: the tables lie where the pointer leads.
-/
namespace Go.Proofs.YtlenmkhmkommcaaGreat
open Go.RowKit

/-- A load of a whole struct or array, the one that may come up; and one whose place is known in every world. -/
theorem opLdR {ops : Array Oper} {Q : Exit → Act → World → Prop} {i : Nat} {oi : Oper} (d : Option Tmp) (hi : ops[i]? = some oi) (hd : oi.dst = d) (hg : oi.guard = none) (ty : TypeId) (x : Operand) (ho : oi.op = .load ty x) {K : Act → World → Prop} {a : Act} {w : World} (n : Nat) (hz : (Tryz.prog.info? ty).map (·.size) = some n) (td : TypeDesc) (hu : Tryz.prog.underlying ty = some td) (hrow : td.isRow = true) (g o : Nat) (c : List Value) (hl : c.length = n) (hx : a.eval x = .pointer (some ⟨g, o, none⟩)) (hc : w.rangeAt g o c)
    (k : K (a.put d (.agg c.toArray)) w) : wpOp Tryz.prog ops Q i K a w := by
  subst hd
  have hr := run_loadAt_mid (P := Tryz.prog) w g o ty c td hc hu hrow (by rw [hl]; exact hz)
  unfold wpOp
  simp only [hi]
  rw [if_pos (by simp [Region.wanted, hg])]
  left
  unfold Oper.wp
  simp [execOp, ho, hx, hr, Result.andThen]
  rw [Oper.upon_value]
  exact k
theorem ans_ldR {ops : Array Oper} {S : World → Prop} {oi : Oper} {a : Act} (ty : TypeId) (x : Operand) (ho : oi.op = .load ty x) (hw : Region.wanted oi (yielded ops a.tmps) = true) (n : Nat) (hz : (Tryz.prog.info? ty).map (·.size) = some n) (td : TypeDesc) (hu : Tryz.prog.underlying ty = some td) (hrow : td.isRow = true) (g o : Nat) (c : List Value) (hl : c.length = n) (hx : a.eval x = .pointer (some ⟨g, o, none⟩)) (hc : ∀ w, S w → w.rangeAt g o c) : Ans Tryz.prog ops S oi (.agg c.toArray) a := by
  refine ans_plain hw fun w hS => ?_
  have hr := run_loadAt_mid (P := Tryz.prog) w g o ty c td (hc w hS) hu hrow (by rw [hl]; exact hz)
  simp [execOp, ho, hx, hr, Result.andThen]

/-- A key of noughts, as cells. -/
def z784 : Array Value := (cs (List.replicate 752 0) ++ List.replicate 32 (Value.int .u64 0)).toArray
theorem built67 (parts : List (Nat × Value)) : Tryz.prog.built 219 parts = Instr.fill (#[(0, 752), (752, 32)][·]?) z784 parts := by kernel_rfl
theorem built67_of {A B : List Value} (hA : A.length = 752) (hB : B.length = 32) : Tryz.prog.built 219 [(0, .agg A.toArray), (1, .agg B.toArray)] = some (A ++ B).toArray := by
  have hz : z784.toList.length = 784 := by unfold z784; rw [List.toList_toArray, List.length_append, cs_length, List.length_replicate, List.length_replicate]
  have hz' : z784.size = 784 := by rw [← Array.length_toList, hz]
  rw [built67, fill_one (off := 0) (size := 752) rfl hA (by omega), List.take_zero, List.nil_append, Nat.zero_add]
  have hZ : (z784.toList.drop 752).length = 32 := by rw [List.length_drop, hz]
  generalize z784.toList.drop 752 = Z at hZ
  rw [fill_one (off := 752) (size := 32) rfl hB (by rw [List.size_toArray, List.length_append, hA, hZ]; omega), Instr.fill]
  congr 2
  show (A ++ Z).take 752 ++ B ++ (A ++ Z).drop (752 + 32) = A ++ B
  rw [List.drop_eq_nil_of_le (by rw [List.length_append, hA, hZ]; omega), List.append_nil, List.take_append_of_le_length (by omega), List.take_of_length_le (by omega)]
theorem ans_bd67 {ops : Array Oper} {S : World → Prop} {oi : Oper} {a : Act} (x y : Operand) (ho : oi.op = .build 219 #[(0, x), (1, y)]) (hw : Region.wanted oi (yielded ops a.tmps) = true) {A B : List Value} (hA : A.length = 752) (hB : B.length = 32) (hx : a.eval x = .agg A.toArray) (hy : a.eval y = .agg B.toArray) : Ans Tryz.prog ops S oi (.agg (A ++ B).toArray) a := by
  refine ans_plain hw fun w hS => ?_
  have hr := run_build (P := Tryz.prog) w 219 #[(0, .agg A.toArray), (1, .agg B.toArray)] _ (built67_of hA hB)
  simp only [execOp, ho, List.map_toArray, List.map_cons, List.map_nil, hx, hy]
  simp [hr, Result.andThen]
/-- A new variable that holds a whole struct, the one that may come up. -/
theorem opBoxR {ops : Array Oper} {Q : Exit → Act → World → Prop} {i : Nat} {oi : Oper} (d : Option Tmp) (hi : ops[i]? = some oi) (hd : oi.dst = d) (hg : oi.guard = none) (ty : TypeId) (x : Operand) (ho : oi.op = .box ty x) {K : Act → World → Prop} {a : Act} {w : World} (c : Array Value) (hx : a.eval x = .agg c)
    (k : K (a.put d (.pointer (some ⟨w.heap.size, 0, none⟩))) (w.alloc (.cells c ty))) : wpOp Tryz.prog ops Q i K a w := by
  subst hd
  have hK : Hid _ := k
  clear k
  unfold wpOp
  simp only [hi]
  rw [if_pos (by simp [Region.wanted, hg])]
  left
  unfold Oper.wp execOp
  simp only [ho, hx]
  go_simp
  exact hK.out

theorem sizeC : (Tryz.prog.info? 209).map (·.size) = some 752 := by kernel_rfl
theorem sizeTb : (Tryz.prog.info? 214).map (·.size) = some 32 := by kernel_rfl
theorem builtK : Tryz.prog.built 204 [] = some z16 := by kernel_rfl
/-- The cipher's cells, and the table's behind them, are a key. -/
theorem Gc.of {w : World} {r : Nat} {K : List UInt8} {B : List Value} {t : TypeId} (hK : K.length = 240) (h : Blk w r (cs (tabT ++ K) ++ B) t) (hB : ∀ i, i < 16 → B[i * 2]? = some (.int .u64 (hN (pr (hKey K) i) : Int)) ∧ B[i * 2 + 1]? = some (.int .u64 (lN (pr (hKey K) i) : Int))) : Gc w r K := by
  have hl : (cs (tabT ++ K)).length = 752 := by rw [cs_length, List.length_append, tabT_length, hK]
  refine ⟨?_, h.lt, fun i hi => ?_⟩
  · refine h.range 0 _ fun j v hv => ?_
    rw [Nat.zero_add, List.getElem?_append_left (by rcases Nat.lt_or_ge j (cs (tabT ++ K)).length with h | h; exact h; rw [List.getElem?_eq_none h] at hv; cases hv)]
    exact hv
  · rw [h.cell, h.cell, List.getElem?_append_right (by omega), List.getElem?_append_right (by omega), hl, show 752 + i * 2 - 752 = i * 2 from by omega, show 752 + i * 2 + 1 - 752 = i * 2 + 1 from by omega]
    exact hB i hi

set_option maxRecDepth 100000 in
set_option maxHeartbeats 4000000 in
theorem oGNew (w : World) (g : Nat) {a : Option Addr} {c : Nat} {key : List UInt8} (hT : Tab w g) (ha : Bs w a 32 c key) :
    Calls Tryz.prog 111 #[.pointer (some ⟨g, 0, none⟩), .slice a 32 c] w fun e w' => ∃ r, e = .returned (.tuple #[.pointer (some ⟨r, 0, none⟩), .int .i64 0]) ∧ Gc w' r (keyF key) ∧ Below w.heap.size w w' := by
  have HKL : Hid ((keyF key).length = 240) := keyF_length ha.len
  have HXL : Hid ((aesL (keyF key) (List.replicate 16 0)).length = 16) := blkS_length HKL.out (by simp) (Nat.le_refl _)
  have HH : Hid (hKey (keyF key) = feB (aesL (keyF key) (List.replicate 16 0))) := rfl
  have CN : Hid (Calls Tryz.prog 131 #[.pointer (some ⟨g, 0, none⟩), .slice a 32 c] w (HasC w (keyF key))) := oNewC w g hT ha
  have CB : Hid (∀ w r, Cip w r (keyF key) → Calls Tryz.prog 132 #[.pointer (some ⟨r, 0, none⟩), .agg z16] w fun e w' => e = .returned (.agg (cs (aesL (keyF key) (List.replicate 16 0))).toArray) ∧ Below w.heap.size w w') := fun w r h => oBlock w r _ h HKL.out (List.replicate 16 0) (by simp)
  generalize aesL (keyF key) (List.replicate 16 0) = X at *
  have HCX : Hid ((cs X).length = 16) := by show _ = _; rw [cs_length, HXL.out]
  generalize keyF key = K at *
  go_enter Tryz.func111, Tryz.ntmps111
  go_wp2_with (first
    | (go_at_call 131; go_must (refine CN.out.mono ?_); rintro e w1 ⟨r1, rfl, hr1, hC1, hb1⟩)
    | (with_reducible refine at_bd 204 ?_; refine bd 204 #[] [] z16 rfl builtK ?_)
    | (go_at_call 132; go_must (refine (CB.out w1 r1 hC1).mono ?_); rintro e w2 ⟨rfl, hb2⟩; have q2 := hb1.trans (hb2.mono hb1.size); have hC2 := hC1.below hb2 hC1.tab.lt)
    | (with_reducible refine at_st 204 ?_; refine st' 204 (.tmp 8) (.tmp 20) 16 sizeK w2.heap.size 0 _ HCX.out cs_one ((Blk.new w2 z16 204).there 0 16 (by rw [z16_eq, cs_length, List.length_replicate]; omega)) rfl rfl ?_; intro w3 hw3
       have c3 : Blk w3 w2.heap.size (cs X) 204 := by rw [hw3]; exact (Blk.new w2 z16 204).setsW _ (by rw [HCX.out, z16_eq, cs_length, List.length_replicate])
       have p3 : Below w2.heap.size w2 w3 := by rw [hw3]; exact below_sets (Nat.le_refl _) _ (below_alloc w2 _) 0
       have q3 : Below w.heap.size w w3 := q2.trans (p3.mono q2.size)
       have hC3 := hC2.below p3 hC2.tab.lt
       clear hw3))
  have s3 : Bs w3 (some ⟨w2.heap.size, 0, none⟩) 16 16 X := by
    have := Bs.of_range c3.whole (c := 16) (by rw [HXL.out]; omega) (by omega)
    rw [HXL.out] at this
    exact this
  have HCL : Hid ((cs (tabT ++ K)).length = 752) := by show _ = _; rw [cs_length, List.length_append, tabT_length, HKL.out]
  refine regionG (S := Grows w3) (by kernel_rfl) (Below.refl _ w3).drew ?_
  refine takeG 0 (some 21) (.pointer (some ⟨r1, 0, none⟩)) rfl rfl (by kernel_rfl) (by kernel_rfl) (by kernel_rfl) (fun _ _ _ h => h) (ans_plain (by rfl) (fun w _ => rfl)) ?_
  simp only [Act.put, List.setIfInBounds_toArray, List.set_cons_zero, List.set_cons_succ]
  refine takeG 1 (some 22) (.pointer (some ⟨r1, 0, none⟩)) rfl rfl (by kernel_rfl) (by kernel_rfl) (by kernel_rfl) (fun _ _ _ h => h) (ans_plain (by rfl) (fun w _ => rfl)) ?_
  simp only [Act.put, List.setIfInBounds_toArray, List.set_cons_zero, List.set_cons_succ]
  refine takeG 2 (some 23) (.agg (cs (tabT ++ K)).toArray) rfl rfl (by kernel_rfl) (by kernel_rfl) (by kernel_rfl) (fun _ _ _ h => h) (ans_ldR 209 (.tmp 22) rfl (by rfl) 752 sizeC _ Tryz.underlying209 rfl r1 0 _ HCL.out rfl (fun w h => hC3.below h hC3.tab.lt)) ?_
  simp only [Act.put, List.setIfInBounds_toArray, List.set_cons_zero, List.set_cons_succ]
  refine takeG 3 (some 24) (.slice (some ⟨w2.heap.size, 0, none⟩) 16 16) rfl rfl (by kernel_rfl) (by kernel_rfl) (by kernel_rfl) (fun _ _ _ h => h) (ans_all (.tmp 8) rfl (by rfl) w2.heap.size rfl) ?_
  simp only [Act.put, List.setIfInBounds_toArray, List.set_cons_zero, List.set_cons_succ]
  refine takeG 4 (some 25) (ev (feB X)) rfl rfl (by kernel_rfl) (by kernel_rfl) (by kernel_rfl) (fun _ _ _ h => h) (ans_fn 134 #[.tmp 24] #[26] #[.slice (some ⟨w2.heap.size, 0, none⟩) 16 16] rfl (by rfl) (by rfl) Tryz.call134 fun u h => oFrom u (s3.grows h)) ?_
  simp only [Act.put, List.setIfInBounds_toArray, List.set_cons_zero, List.set_cons_succ]
  refine callG 5 (some 26) 133 #[.tmp 25] #[211] #[ev (feB X)] rfl rfl rfl (by rfl) (by rfl) (by kernel_rfl) Tryz.call133 fun u1 hg1 hs1 => ?_
  refine (oBuildF u1 (feB X)).mono ?_
  rintro e u2 ⟨g2, rfl, _, ⟨vs, hb2, hl2, hv2⟩, hG2⟩
  refine ⟨_, rfl, Grows.trans hs1 hG2, ?_⟩
  simp only [Act.put, List.setIfInBounds_toArray, List.set_cons_zero, List.set_cons_succ]
  refine takeG 6 (some 27) (.pointer (some ⟨g2, 0, none⟩)) rfl rfl (by kernel_rfl) (by kernel_rfl) (by kernel_rfl) (fun _ _ _ h => h) (ans_plain (by rfl) (fun w _ => rfl)) ?_
  simp only [Act.put, List.setIfInBounds_toArray, List.set_cons_zero, List.set_cons_succ]
  refine oneG 7 (by kernel_rfl) fun u3 hg3 hs3 => ?_
  refine opLdR (some 28) rfl rfl rfl 214 (.tmp 27) rfl 32 sizeTb _ Tryz.underlying214 rfl g2 0 vs hl2 rfl (hb2.grows hg3).whole ⟨hs3, ?_⟩
  simp only [Act.put, List.setIfInBounds_toArray, List.set_cons_zero, List.set_cons_succ]
  refine takeG 8 (some 29) (.agg (cs (tabT ++ K) ++ vs).toArray) rfl rfl (by kernel_rfl) (by kernel_rfl) (by kernel_rfl) (fun _ _ _ h => h) (ans_bd67 (.tmp 23) (.tmp 28) rfl (by rfl) HCL.out hl2 rfl rfl) ?_
  simp only [Act.put, List.setIfInBounds_toArray, List.set_cons_zero, List.set_cons_succ]
  refine oneG 9 (by kernel_rfl) fun u4 hg4 hs4 => ?_
  refine opBoxR (some 30) rfl rfl rfl 219 (.tmp 29) rfl _ rfl ⟨Grows.trans hs4 (Grows.alloc _ _), ?_⟩
  simp only [Act.put, List.setIfInBounds_toArray, List.set_cons_zero, List.set_cons_succ]
  have k5 : Gc (u4.alloc (.cells (cs (tabT ++ K) ++ vs).toArray 219)) u4.heap.size K := Gc.of HKL.out (Blk.new u4 _ _) (fun i hi => by rw [HH.out]; exact hv2 i hi)
  refine takeG 10 (some 4) (.pointer (some ⟨u4.heap.size, 0, none⟩)) rfl rfl (by kernel_rfl) (by kernel_rfl) (by kernel_rfl) (fun _ _ _ h => h) (ans_plain (by rfl) (fun w _ => rfl)) ?_
  simp only [Act.put, List.setIfInBounds_toArray, List.set_cons_zero, List.set_cons_succ]
  refine takeG 11 (some 5) (.int .i64 0) rfl rfl (by kernel_rfl) (by kernel_rfl) (by kernel_rfl) (fun _ _ _ h => h) (ans_plain (by rfl) (fun w _ => rfl)) ?_
  simp only [Act.put, List.setIfInBounds_toArray, List.set_cons_zero, List.set_cons_succ]
  refine doneG (by kernel_rfl) fun u6 hg6 hs6 => ?_
  have k6 := k5.below hg6
  have q6 : Below w.heap.size w u6 := q3.trans (Below.mono hs6 q3.size)
  clear k5 hb2 hv2 hC3 hC2 hC1
  go_wp2_with fail
  go_ret2
  exact ⟨_, rfl, k6, q6⟩

end Go.Proofs.YtlenmkhmkommcaaGreat

/-
  The contracts of the reference's Times, inverse and Box. No condition.
-/
namespace Go.Proofs.YtlenmkhmkommcaaGreat
open Go.RowKit

end Go.Proofs.YtlenmkhmkommcaaGreat

/-
  The contract of key32: a key of 32 bytes out of any. Condition: at most 100 bytes.
-/
namespace Go.Proofs.YtlenmkhmkommcaaGreat
open Go.RowKit

def k32 (l : List UInt8) : List UInt8 := (List.range 32).map fun i => if l.length = 0 then 0 else l.getD (i % l.length) 0
end Go.Proofs.YtlenmkhmkommcaaGreat

/-
  The contracts of the reference's Boxes, both and roundKey. Conditions: rows of like lengths; words of four bytes.
-/
namespace Go.Proofs.YtlenmkhmkommcaaGreat
open Go.RowKit

end Go.Proofs.YtlenmkhmkommcaaGreat

/-
  Unlike blocks stay unlike, in plain lists: each step of a block is one-to-one. No condition but the lengths; nothing of the program.
-/
namespace Go.Proofs.YtlenmkhmkommcaaGreat
open Go.RowKit

/-- The box of all bytes, and what undoes it. -/
def boxLit : List UInt8 := [99, 124, 119, 123, 242, 107, 111, 197, 48, 1, 103, 43, 254, 215, 171, 118, 202, 130, 201, 125, 250, 89, 71, 240, 173, 212, 162, 175, 156, 164, 114, 192,
  183, 253, 147, 38, 54, 63, 247, 204, 52, 165, 229, 241, 113, 216, 49, 21, 4, 199, 35, 195, 24, 150, 5, 154, 7, 18, 128, 226, 235, 39, 178, 117,
  9, 131, 44, 26, 27, 110, 90, 160, 82, 59, 214, 179, 41, 227, 47, 132, 83, 209, 0, 237, 32, 252, 177, 91, 106, 203, 190, 57, 74, 76, 88, 207,
  208, 239, 170, 251, 67, 77, 51, 133, 69, 249, 2, 127, 80, 60, 159, 168, 81, 163, 64, 143, 146, 157, 56, 245, 188, 182, 218, 33, 16, 255, 243, 210,
  205, 12, 19, 236, 95, 151, 68, 23, 196, 167, 126, 61, 100, 93, 25, 115, 96, 129, 79, 220, 34, 42, 144, 136, 70, 238, 184, 20, 222, 94, 11, 219,
  224, 50, 58, 10, 73, 6, 36, 92, 194, 211, 172, 98, 145, 149, 228, 121, 231, 200, 55, 109, 141, 213, 78, 169, 108, 86, 244, 234, 101, 122, 174, 8,
  186, 120, 37, 46, 28, 166, 180, 198, 232, 221, 116, 31, 75, 189, 139, 138, 112, 62, 181, 102, 72, 3, 246, 14, 97, 53, 87, 185, 134, 193, 29, 158,
  225, 248, 152, 17, 105, 217, 142, 148, 155, 30, 135, 233, 206, 85, 40, 223, 140, 161, 137, 13, 191, 230, 66, 104, 65, 153, 45, 15, 176, 84, 187, 22]
def unLit : List UInt8 := [82, 9, 106, 213, 48, 54, 165, 56, 191, 64, 163, 158, 129, 243, 215, 251, 124, 227, 57, 130, 155, 47, 255, 135, 52, 142, 67, 68, 196, 222, 233, 203,
  84, 123, 148, 50, 166, 194, 35, 61, 238, 76, 149, 11, 66, 250, 195, 78, 8, 46, 161, 102, 40, 217, 36, 178, 118, 91, 162, 73, 109, 139, 209, 37,
  114, 248, 246, 100, 134, 104, 152, 22, 212, 164, 92, 204, 93, 101, 182, 146, 108, 112, 72, 80, 253, 237, 185, 218, 94, 21, 70, 87, 167, 141, 157, 132,
  144, 216, 171, 0, 140, 188, 211, 10, 247, 228, 88, 5, 184, 179, 69, 6, 208, 44, 30, 143, 202, 63, 15, 2, 193, 175, 189, 3, 1, 19, 138, 107,
  58, 145, 17, 65, 79, 103, 220, 234, 151, 242, 207, 206, 240, 180, 230, 115, 150, 172, 116, 34, 231, 173, 53, 133, 226, 249, 55, 232, 28, 117, 223, 110,
  71, 241, 26, 113, 29, 41, 197, 137, 111, 183, 98, 14, 170, 24, 190, 27, 252, 86, 62, 75, 198, 210, 121, 32, 154, 219, 192, 254, 120, 205, 90, 244,
  31, 221, 168, 51, 136, 7, 199, 49, 177, 18, 16, 89, 39, 128, 236, 95, 96, 81, 127, 169, 25, 181, 74, 13, 45, 229, 122, 159, 147, 201, 156, 239,
  160, 224, 59, 77, 174, 42, 245, 176, 200, 235, 187, 60, 131, 83, 153, 97, 23, 43, 4, 126, 186, 119, 214, 38, 225, 105, 20, 99, 85, 33, 12, 125]
/-- A byte of a mixed column. -/
def mx (p q r s : UInt8) : UInt8 := dbl (p ^^^ q) ^^^ q ^^^ r ^^^ s
/-- What undoes a mixed column. -/
def unmx (P Q R S : UInt8) : UInt8 := dbl (dbl (mx P Q R S ^^^ mx R S P Q)) ^^^ mx P Q R S
end Go.Proofs.YtlenmkhmkommcaaGreat
