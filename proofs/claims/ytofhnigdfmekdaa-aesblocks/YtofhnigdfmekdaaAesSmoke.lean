/-
  The contract of the smoke of layer 4: it answers true. No condition.
-/
import Derived.Test.YtofhnigdfmekdaaAesSmokeL
import Derived.Test.YtofhnigdfmekdaaAesNew
import Derived.Test.YtofhnigdfmekdaaHexO
namespace Go.Proofs.Ytofhnigdfmekdaa
open Go.RowKit

theorem wKey_length : wKey.length = 32 := by simp [wKey]
theorem wBlk_length : wBlk.length = 16 := by simp [wBlk]
theorem wKey_at {k : Nat} (h : k < 32) : wKey.getD k 0 = UInt8.ofNat k := by simp [wKey, List.getD_eq_getElem?_getD, h]
theorem wBlk_at {k : Nat} (h : k < 16) : wBlk.getD k 0 = UInt8.ofNat (17 * k) := by simp [wBlk, List.getD_eq_getElem?_getD, h]
theorem wByte {n : Nat} (h : n < 256) : ((UInt8.ofNat n).toNat : Int) = (n : Int) := by rw [UInt8.toNat_ofNat', Nat.mod_eq_of_lt h]
theorem wHex : hexL (aesL (keyF wKey) wBlk) = [56, 101, 97, 50, 98, 55, 99, 97, 53, 49, 54, 55, 52, 53, 98, 102, 101, 97, 102, 99, 52, 57, 57, 48, 52, 98, 52, 57, 54, 48, 56, 57] := by
  rw [wSeal]
  decide
theorem box_zero : box 0 = 99 := by
  have := boxT_at (k := 0) (by omega)
  rw [show boxT.getD 0 0 = box 0 from rfl] at this
  rw [← this]
  decide +kernel
theorem allK (g o : Nat) (w : World) : Sem.run Try.prog (Instr.sliceAt 28 (.pointer (some ⟨g, o, none⟩)) none none none) w = .ok (.slice (some ⟨g, o, none⟩) 16 16) w := by
  rw [run_sliceAt_array_all w 28 _ undK, elK]
  simp only [Result.andThen, slicedAt, lenK]
  rfl

set_option maxRecDepth 100000 in
set_option maxHeartbeats 2000000 in
theorem lWorksA (w : World) : Calls Try.prog 10 #[] w fun e w' => e = .returned (.bool true) ∧ Below w.heap.size w w' := by
  have hall := allK
  go_enter Try.func10, Try.ntmps10
  go_wp2_with (first
    | (go_at_call 7; refine (oBuild w).mono ?_; rintro e w1 ⟨r, rfl, hr, bT, hb1⟩)
    | (at_make; refine wpList_mkn w1 rfl _ _ rfl w1.heap.size 32 _ rfl rfl rfl (by omega) (Nat.le_refl _) ?_; intro g w2 hg hgl hown hb2))
  have hT2 : Tab w2 r := bT.tab.below hb2 bT.lt
  have hq2 := hb1.trans (hb2.mono hb1.size)
  have hrl := bT.lt
  clear bT hb1 hb2
  go_loopw [3] (fun i wr => ∃ k : Nat, k ≤ 32 ∧ i = .int .i64 k ∧ Own wr w1.heap.size (.slice (some ⟨g, 0, none⟩) 32 32) (fill wKey 32 k) ∧ Tab wr r ∧ Below w.heap.size w wr) (fun i _ => 32 - (intOf i).toNat)
  case atStart => exact ⟨0, by omega, rfl, by rw [fill_zero]; exact hown, hT2, hq2⟩
  case round =>
    clear hown hT2 hq2
    obtain ⟨k, hk, rfl, ho, hT, hb⟩ := hrel
    by_cases hlt : k < 32
    · have hlen : (fill wKey 32 k).length = 32 := fill_length wKey_length hk
      obtain ⟨v0, c0⟩ := ho.cell hlen k (by omega)
      have f0 := ho.free hlen k
      have ho2 := ho.set hlen k (wKey.getD k 0)
      rw [fill_set wKey_length hlt, wKey_at hlt, wByte (by omega)] at ho2
      have HO : Hid (Own (wr.setCell ⟨g, k, none⟩ (.int .u8 (k : Int))) w1.heap.size (.slice (some ⟨g, 0, none⟩) 32 32) (fill wKey 32 (k + 1))) := ho2
      have h0 : (0 : Int) ≤ (k : Int) := by omega
      have h1 : (k : Int) < 32 := by omega
      have hw8 : IntKind.u8.wrap (k : Int) = (k : Int) := wrap_byte k (by omega)
      have HT : Hid (Tab (wr.setCell ⟨g, k, none⟩ (.int .u8 (k : Int))) r) := hT.below (B := w1.heap.size) ((Below.refl _ _).setCell (by simpa using hg) _) hrl
      clear ho2 ho hlen
      go_wp2_with fail
      go_roundw
      case rel => exact ⟨k + 1, by omega, by go_num, HO.out, HT.out, hb.setCell (by simp; omega) _⟩
      case measure => simp [intOf]; omega
    · obtain rfl : k = 32 := by omega
      rw [fill_end wKey_length] at ho
      have hB := ho.toBs
      obtain ⟨hcut0, _⟩ := hB.cutHigh 31 (by omega)
      have hcut : ∀ w, Sem.run Try.prog (Instr.slice 27 (.slice (some ⟨g, 0, none⟩) 32 32) none (some (.int .i64 31)) none) w = .ok (.slice (some ⟨g, 0, none⟩) 31 32) w := hcut0
      clear hcut0
      go_wp2_with fail
      refine (oNewC wr r hT hB).mono ?_
      rintro e w3 ⟨r2, rfl, hr2, hC3, hb3⟩
      have q3 := hb.trans (hb3.mono hb.size)
      have hT3 := hT.below hb3 hT.lt
      go_wp2_with fail
      refine (oNewNot w3 r (a := some ⟨g, 0, none⟩) (n := 31) (c := 32) (by omega)).mono ?_
      rintro e w4 ⟨rfl, rfl⟩
      go_wp2_with fail
      refine (oNewNil w3 (a := some ⟨g, 0, none⟩) (n := 32) (c := 32)).mono ?_
      rintro e w4 ⟨rfl, rfl⟩
      go_wp2_with fail
      have hr2l := hC3.tab.lt
      obtain ⟨W4, hW4⟩ : ∃ W4, W4 = w3.alloc (.cells z16 28) := ⟨_, rfl⟩
      rw [← hW4]
      have d0 : Blk W4 w3.heap.size (cs (fill wBlk 16 0)) 28 := by rw [hW4, fill_zero]; exact Blk.new w3 z16 _
      have hd : Below w3.heap.size w3 W4 := by rw [hW4]; exact below_alloc w3 _
      clear hW4 ho hB hcut
      go_loopw [11] (fun i wr => ∃ k : Nat, k ≤ 16 ∧ i = .int .i64 k ∧ Blk wr w3.heap.size (cs (fill wBlk 16 k)) 28 ∧ Below w3.heap.size w3 wr) (fun i _ => 16 - (intOf i).toNat)
      case atStart => exact ⟨0, by omega, rfl, d0, hd⟩
      case round =>
        clear d0 hd hT hb hk hlt hb3
        obtain ⟨k, hk, rfl, d0, hd⟩ := hrel
        by_cases hlt : k < 16
        · have h0 : (0 : Int) ≤ (k : Int) := by omega
          have h1 : (k : Int) < 16 := by omega
          have hw8 : IntKind.u8.wrap (17 * (k : Int)) = 17 * (k : Int) := by
            have := wrap_byte (17 * k) (by omega)
            rw [show ((17 * k : Nat) : Int) = 17 * (k : Int) from by omega] at this
            exact this
          have hw9 : 17 * (k : Int) % 256 = 17 * (k : Int) := by omega
          have c0 := d0.at8 (k := k) (by rw [fill_length wBlk_length hk]; exact hlt)
          have f0 := d0.free k
          have d2 := d0.set8 k (wBlk.getD k 0)
          rw [fill_set wBlk_length hlt, wBlk_at hlt, wByte (by omega), show ((17 * k : Nat) : Int) = 17 * (k : Int) from by omega] at d2
          have D2 : Hid (Blk (wr.setCell ⟨w3.heap.size, k, none⟩ (.int .u8 (17 * (k : Int)))) w3.heap.size (cs (fill wBlk 16 (k + 1))) 28) := d2
          clear d2
          go_wp2_with fail
          go_roundw
          case rel => exact ⟨k + 1, by omega, by go_num, D2.out, hd.setCell (by simp) _⟩
          case measure => simp [intOf]; omega
        · obtain rfl : k = 16 := by omega
          rw [fill_end wBlk_length] at d0
          have HB0 : Hid ((cs wBlk).length = 16) := by show _ = _; rw [cs_length, wBlk_length]
          have hCr : Cip wr r2 (keyF wKey) := hC3.below hd hr2l
          have hTr : Tab wr r := hT3.below hd hT3.lt
          obtain ⟨X, hX⟩ : ∃ X, X = aesL (keyF wKey) wBlk := ⟨_, rfl⟩
          have hKL := keyF_length wKey_length
          have CB : Hid (Calls Try.prog 13 #[.pointer (some ⟨r2, 0, none⟩), .agg (cs wBlk).toArray] wr fun e w' => e = .returned (.agg (cs X).toArray) ∧ Below wr.heap.size wr w') := by rw [hX]; exact oBlock wr r2 _ hCr hKL wBlk wBlk_length
          have HXL : Hid (X.length = 16) := by show _ = _; rw [hX]; exact blkS_length hKL wBlk_length (Nat.le_refl _)
          have HCX : Hid ((cs X).length = 16) := by show _ = _; rw [cs_length, HXL.out]
          have HXH : Hid (hexL X = [56, 101, 97, 50, 98, 55, 99, 97, 53, 49, 54, 55, 52, 53, 98, 102, 101, 97, 102, 99, 52, 57, 57, 48, 52, 98, 52, 57, 54, 48, 56, 57]) := by show _ = _; rw [hX]; exact wHex
          clear hX hKL
          go_wp2_with (first
            | (with_reducible refine at_ld 28 ?_; refine ld 28 (.tmp 10) 16 sizeK _ Try.underlying28 rfl w3.heap.size 0 _ HB0.out d0.whole rfl ?_)
            | (go_at_call 13; refine CB.out.mono ?_; rintro e w5 ⟨rfl, hb5⟩)
            | (with_reducible refine at_st 28 ?_; refine st' 28 (.tmp 12) (.tmp 57) 16 sizeK w5.heap.size 0 _ HCX.out cs_one ((Blk.new w5 z16 28).there 0 16 (by decide)) rfl rfl ?_; intro w6 hw6
               have e6 : Blk w6 w5.heap.size (cs X) 28 := by rw [hw6]; exact (Blk.new w5 z16 28).setsW _ (by rw [HCX.out]; rfl)
               have h6 : Below wr.heap.size wr w6 := by rw [hw6]; exact below_sets hb5.size _ (hb5.alloc hb5.size _) 0
               have hB6 : Bs w6 (some ⟨w5.heap.size, 0, none⟩) 16 16 X := by
                 have := Bs.of_range e6.whole (c := 16) (by rw [HXL.out]; omega) (by omega)
                 rw [HXL.out] at this
                 exact this
               have hT6 : Tab w6 r := hTr.below h6 hTr.lt
               clear hw6)
            | (go_at_call 22; refine (oHex w6 hB6 (by omega)).mono ?_; rintro e w7 ⟨rfl, h7⟩; rw [HXH.out]; have hT7 : Tab w7 r := hT6.below h7 hT6.lt)
            | (go_at_call 8; refine (oBox w7 r hT7 0).mono ?_; rintro e w8 ⟨rfl, rfl⟩; rw [box_zero]))
          go_ret
          have q4 := q3.trans (hd.mono q3.size)
          have q6 := q4.trans (h6.mono q4.size)
          exact ⟨rfl, q6.trans (h7.mono q6.size)⟩

end Go.Proofs.Ytofhnigdfmekdaa
