/-
  The contract of 'keys': the keys of all rounds out of the words. Condition: 240 bytes.
-/
import Derived.Test.YtofhnigdfmekdaaAesSched
namespace Go.Proofs.Ytofhnigdfmekdaa
open Go.RowKit

theorem sizeR : (Try.prog.info? 49).map (·.size) = some 240 := by kernel_rfl
theorem zeroR (w : World) : Sem.run Try.prog (zeroValue 49) w = .ok (.agg (zarr 240)) w := by kernel_rfl
attribute [local go_sem] zeroR

/-- A word of a row of words. -/
theorem idxW (F : List UInt8) (k : Nat) (hk : k < 60) (w : World) :
    Sem.run Try.prog (Instr.index 53 (.agg (cs F).toArray) (.int .i64 (k : Int))) w = .ok (.agg (cs (wd F k)).toArray) w := by
  have e : ((cs F).drop (k * 4)).take 4 = cs (wd F k) := by
    unfold wd cs
    rw [List.map_take, List.map_drop, Nat.mul_comm]
  simp [Instr.index, asIntOf, run_underlying Try.underlying53, part, hk, e]

theorem lenK : Try.prog.arrayLen 28 = 16 := by kernel_rfl
theorem undK : Try.prog.underlying 28 = some (.array (Try.prog.arrayLen 28) (Try.prog.elem 28)) := by kernel_rfl
theorem elK (w : World) : Sem.run Try.prog (sizeOf (Try.prog.elem 28)) w = .ok 1 w := by kernel_rfl
theorem cutK (g o m : Nat) (hm : m < 4) (w : World) : Sem.run Try.prog (Instr.sliceAt 28 (.pointer (some ⟨g, o, none⟩)) (some (.int .i64 ((m : Int) * 4))) none none) w = .ok (.slice (some ⟨g, o + m * 4, none⟩) (16 - m * 4) (16 - m * 4)) w := by
  rw [run_sliceAt_array_l w 28 _ undK .i64 _ (by omega) (by rw [lenK]; omega), elK]
  simp only [Result.andThen, slicedAt, lenK]
  rw [show ((m : Int) * 4).toNat = m * 4 from by omega, if_neg (by omega), add_mid', Nat.mul_one]

set_option maxRecDepth 100000 in
set_option maxHeartbeats 2000000 in
theorem oKeys (w : World) (F : List UInt8) (hF : F.length = 240) :
    Calls Try.prog 24 #[bv F] w fun e w' => e = .returned (bv F) ∧ Below w.heap.size w w' := by
  have hne := zarr_ne (n := 240) (by omega)
  have hall := allW
  have HF : Hid (F.length = 240) := hF
  have HL : Hid ((cs F).length = 240) := by show _ = _; rw [cs_length, hF]
  clear hF
  unfold bv
  go_enter Try.func24, Try.ntmps24
  go_wp2_with (first
    | (with_reducible refine at_ld 53 ?_; refine ld 53 (.tmp 1) 240 sizeS _ Try.underlying53 rfl w.heap.size 0 _ HL.out (((Blk.new w _ _).old _).old _).whole rfl ?_))
  obtain ⟨W2, hW2⟩ : ∃ W2, W2 = ((w.alloc (.cells (cs F).toArray 53)).alloc (.cells (zarr 240) 49)).alloc (.cells (zarr 240) 49) := ⟨_, rfl⟩
  rw [← hW2]
  have d0 : Blk W2 (w.heap.size + 1) (cs (List.replicate 240 0)) 49 := by rw [hW2, ← zarr_toList]; exact (Blk.newAt (w.alloc _) _ _ _ (by simp) _ rfl).old _
  have d1 : Blk W2 (w.heap.size + 1 + 1) (cs (fill F 240 0)) 49 := by rw [hW2, fill_zero, ← zarr_toList]; exact Blk.newAt ((w.alloc _).alloc _) _ _ _ (by simp) _ rfl
  have hd : Below w.heap.size w W2 := by rw [hW2]; exact below3 w _ _ _
  clear hW2
  go_loopw [4, 5, 7] (fun _ _ i wr => ∃ k : Nat, k ≤ 60 ∧ i = .int .i64 k ∧ Blk wr (w.heap.size + 1) (cs (List.replicate 240 0)) 49 ∧ Blk wr (w.heap.size + 1 + 1) (cs (fill F 240 (4 * k))) 49 ∧ Below w.heap.size w wr) (fun _ _ i _ => 60 - (intOf i).toNat)
  case atStart => exact ⟨0, by omega, rfl, d0, d1, hd⟩
  case round =>
    clear d0 d1 hd
    obtain ⟨k, hk, rfl, d0, d1, hd⟩ := hrel
    by_cases hlt : k < 60
    · have h0 : (0 : Int) ≤ (k : Int) := by omega
      have h60 : (k : Int) < 60 := by omega
      have hix := idxW F k hlt
      obtain ⟨q, hq⟩ : ∃ q, q = k / 4 := ⟨_, rfl⟩
      obtain ⟨m, hm⟩ : ∃ m, m = k % 4 := ⟨_, rfl⟩
      have hml : m < 4 := by omega
      have HO : Hid (q * 16 + m * 4 = k * 4) := by show _ = _; omega
      have hq0 : (k : Int) / 4 = (q : Int) := by omega
      have hq1 : (k : Int).tdiv 4 = (q : Int) := by rw [Int.tdiv_eq_ediv_of_nonneg (by omega)]; omega
      have hm0 : (k : Int) % 4 = (m : Int) := by omega
      have hm1 : (k : Int).tmod 4 = (m : Int) := by rw [Int.tmod_eq_emod_of_nonneg (by omega)]; omega
      have hq2 : (0 : Int) ≤ (q : Int) := by omega
      have hq3 : (q : Int) < 15 := by omega
      have hwq : IntKind.i64.wrap (q : Int) = (q : Int) := by rw [IntKind.wrap_i64]; omega
      have hwm : IntKind.i64.wrap ((m : Int) * 4) = (m : Int) * 4 := by rw [IntKind.wrap_i64]; omega
      have hcut := fun g o => cutK g o m hml
      clear hq hm
      have HW := wd_length (F := F) (j := k) (by have := HF.out; omega)
      obtain ⟨X, hX⟩ : ∃ X, X = wd F k := ⟨_, rfl⟩
      rw [← hX] at hix HW
      have HX : Hid (X = wd F k) := hX
      have HXL : Hid (X.length = 4) := HW
      have HCX : Hid ((cs X).length = 4) := by show _ = _; rw [cs_length, HXL.out]
      have HFL : Hid ((fill F 240 (4 * k)).length = 240) := fill_length HF.out (by omega)
      clear hX HW
      go_wp2_with (first
        | (with_reducible refine at_st 51 ?_; refine st' 51 (.tmp 5) (.tmp 10) 4 sizeW wr.heap.size 0 _ HCX.out cs_one ((Blk.new wr z4 51).there 0 4 (by decide)) rfl rfl ?_; intro w2 hw2
           have e2 : Blk w2 wr.heap.size (cs X) 51 := by rw [hw2]; exact (Blk.new wr z4 51).setsW _ (by rw [HCX.out]; rfl)
           have e0 : Blk w2 (w.heap.size + 1) (cs (List.replicate 240 0)) 49 := by rw [hw2]; exact Blk.setsO (by have := d0.lt; omega) _ (d0.old _) 0
           have e1 : Blk w2 (w.heap.size + 1 + 1) (cs (fill F 240 (4 * k))) 49 := by rw [hw2]; exact Blk.setsO (by have := d1.lt; omega) _ (d1.old _) 0
           have he : Below w.heap.size w w2 := by rw [hw2]; exact below_sets hd.size _ (hd.alloc hd.size _) 0
           clear hw2))
      have hBb : Bs w2 (some ⟨wr.heap.size, 0, none⟩) 4 4 X := by
        have := Bs.of_range e2.whole (c := 4) (by rw [HXL.out]; omega) (by omega)
        rw [HXL.out] at this
        exact this
      go_region_held3 (fun _ => True) (trivial) ((refine step_cp (by rfl) (.tmp 17) (.tmp 18) (by rfl) (w.heap.size + 1 + 1) (q * 16 + m * 4) (16 - m * 4) (16 - m * 4) (by rfl) (some ⟨wr.heap.size, 0, none⟩) 4 4 (by rfl) X hBb.drew (cs (fill F 240 (4 * k))) 49 e1.dr 4 (by show 4 = min 4 _; omega) (by have := HO.out; rw [cs_length, HFL.out]; omega) (by omega) ?_; intro w7 hc7))
      rw [HO.out] at hc7
      go_wp2_with fail
      go_roundw
      case rel => exact ⟨k + 1, by omega, by go_num, hc7.other e0.dr (by omega), hc7.word HF.out hlt (by rw [List.take_of_length_le (by rw [HXL.out]; omega), HX.out]), hc7.below he.drew (by omega) he.size⟩
      case measure => simp [intOf]; omega
    · obtain rfl : k = 60 := by omega
      rw [show 4 * 60 = 240 from rfl, fill_end HF.out] at d1
      go_wp2_with (first
        | (with_reducible refine at_ld 49 ?_; refine ld 49 (.tmp 3) 240 sizeR _ Try.underlying49 rfl (w.heap.size + 1 + 1) 0 _ HL.out d1.whole rfl ?_)
        | (with_reducible refine at_st 49 ?_; refine st 49 (.tmp 2) (.tmp 21) 240 sizeR (w.heap.size + 1) 0 _ HL.out cs_one (d0.there 0 240 (by rw [cs_length, List.length_replicate]; omega)) rfl rfl ?_))
      have b3 := d0.setsW (cs F) (by rw [HL.out, cs_length, List.length_replicate])
      exact bodyPost_ret (v := .agg (cs F).toArray) (res_blk Try.results24 _ _ (w.heap.size + 1) _ _ _ rfl b3 Try.underlying49 240 HL.out sizeR) rfl ⟨rfl, below_sets (by omega) _ hd 0⟩

end Go.Proofs.Ytofhnigdfmekdaa
