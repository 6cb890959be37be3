/-
  The contract of 'bytes': eight words one behind the other, each with its highest byte first. No condition.
-/
import Derived.Test.YtpmdjailpdajkaaDoorCopy
import Derived.Test.YtpmdjailpdajkaaDoorPut
namespace Go.Proofs.YtpmdjailpdajkaaDoor
open Go.RowKit

theorem len24 : Tryd.prog.arrayLen 26 = 32 := by kernel_rfl
theorem und24 : Tryd.prog.underlying 26 = some (.array (Tryd.prog.arrayLen 26) (Tryd.prog.elem 26)) := by kernel_rfl
theorem el24 (w : World) : Sem.run Tryd.prog (sizeOf (Tryd.prog.elem 26)) w = .ok 1 w := by kernel_rfl
theorem cut24 (g k : Nat) (hk : k < 8) (w : World) : Sem.run Tryd.prog (Instr.sliceAt 26 (.pointer (some ⟨g, 0, none⟩)) (some (.int .i64 ((k : Int) * 4))) none none) w = .ok (.slice (some ⟨g, k * 4, none⟩) (32 - k * 4) (32 - k * 4)) w := by
  rw [run_sliceAt_array_l w 26 _ und24 .i64 _ (by omega) (by rw [len24]; omega), el24]
  simp only [Result.andThen, slicedAt, len24]
  have e1 : ((k : Int) * 4).toNat = k * 4 := by omega
  rw [e1, if_neg (by omega), add_mid', Nat.mul_one, Nat.zero_add]

theorem outL_length (h : List UInt32) : (outL h).length = 4 * h.length := by
  induction h with
  | nil => rfl
  | cons x h ih => simp [outL, putL_length] at ih ⊢; omega
theorem outL_snoc (h : List UInt32) (x : UInt32) : outL (h ++ [x]) = outL h ++ putL x.toNat 4 := by simp [outL]
theorem wtake_snoc {l : List UInt32} {k : Nat} (h : k < l.length) : l.take (k + 1) = l.take k ++ [l.getD k 0] := by
  rw [List.take_succ_eq_append_getElem h]
  simp [List.getD_eq_getElem?_getD, h]

/-- What stands in the variable behind k words. -/
def ofil (h : List UInt32) (k : Nat) : List UInt8 := outL (h.take k) ++ List.replicate (32 - 4 * k) 0
theorem ofil_length {h : List UInt32} {k : Nat} (hh : h.length = 8) (hk : k ≤ 8) : (ofil h k).length = 32 := by simp [ofil, outL_length, hh]; omega
theorem ofil_end {h : List UInt32} (hh : h.length = 8) : ofil h 8 = outL h := by simp [ofil, List.take_of_length_le (Nat.le_of_eq hh)]
theorem ofil_step {h : List UInt32} {k : Nat} (hh : h.length = 8) (hk : k < 8) : (cs (ofil h k)).take (k * 4) ++ cs ((putL (h.getD k 0).toNat 4).take 4) ++ (cs (ofil h k)).drop (k * 4 + 4) = cs (ofil h (k + 1)) := by
  have hl : (outL (h.take k)).length = k * 4 := by rw [outL_length, List.length_take]; omega
  have e1 : (putL (h.getD k 0).toNat 4).take 4 = putL (h.getD k 0).toNat 4 := List.take_of_length_le (by rw [putL_length]; omega)
  have e2 : (ofil h k).take (k * 4) = outL (h.take k) := by unfold ofil; rw [← hl]; simp
  have e3 : (ofil h k).drop (k * 4 + 4) = List.replicate (32 - 4 * (k + 1)) 0 := by
    unfold ofil
    rw [List.drop_append, List.drop_eq_nil_of_le (by omega), hl]
    simp
    omega
  unfold cs
  rw [← List.map_take, ← List.map_drop, e1, e2, e3, ← List.map_append, ← List.map_append]
  conv => rhs; unfold ofil
  rw [wtake_snoc (by omega), outL_snoc]

theorem oPutN (x n : Nat) (hx : x < 18446744073709551616) (hn : n ≤ 1000000) (w : World) : Calls Tryd.prog 35 #[.int .u64 (x : Int), .int .i64 (n : Int)] w fun e w' => ∃ a c, e = .returned (.slice a n c) ∧ Bs w' a n c (putL x n) ∧ Below w.heap.size w w' := by
  have := oPut (x : Int) n w (by omega) (by omega) (by omega) (by omega)
  refine this.mono ?_
  rintro e w' ⟨a, m, c, rfl, ho, hb⟩
  have hB := ho.toBs
  have hl := hB.len
  simp only [Int.toNat_natCast, putL_length] at hl hB
  subst hl
  exact ⟨a, c, rfl, hB, hb⟩

set_option maxHeartbeats 1000000 in
theorem oWbytes (w : World) (h : List UInt32) (hh : h.length = 8) :
    Calls Tryd.prog 36 #[wv h] w fun r w' => r = .returned (bv (outL h)) ∧ Below w.heap.size w w' := by
  have HL : Hid ((ws h).length = 8) := by show _ = _; rw [ws_length, hh]
  have HN : Hid (h.length = 8) := hh
  clear hh
  unfold wv bv
  go_enter Tryd.func36, Tryd.ntmps36
  go_wp2_with (first
    | (with_reducible refine at_ld 60 ?_; refine ld 60 (.tmp 1) 8 size46 _ Tryd.underlying60 rfl w.heap.size 0 _ HL.out (((Blk.new w _ _).old _).old _).whole rfl ?_))
  go_loopw [4, 5, 7] (fun _ _ i wr => ∃ k : Nat, k ≤ 8 ∧ i = .int .i64 k ∧ (∃ z : List UInt8, z.length = 32 ∧ Blk wr (w.heap.size + 1) (cs z) 26) ∧ Blk wr (w.heap.size + 1 + 1) (cs (ofil h k)) 26 ∧ Below w.heap.size w wr) (fun _ _ i _ => 8 - (intOf i).toNat)
  case atStart => exact ⟨0, by omega, rfl, ⟨List.replicate 32 0, rfl, (Blk.newAt (w.alloc _) _ _ _ (by simp) _ rfl).old _⟩, Blk.newAt ((w.alloc _).alloc _) _ _ _ (by simp) _ rfl, below3 w _ _ _⟩
  case round =>
    obtain ⟨k, hk, rfl, ⟨z, hz, b1⟩, b2, hb⟩ := hrel
    by_cases hlt : k < 8
    · have h0 : (0 : Int) ≤ (k : Int) := by omega
      have h8 : (k : Int) < 8 := by omega
      have c1 := ws_get (l := h) (i := k) (by rw [HN.out]; exact hlt)
      have hix := idx 60 8 Tryd.underlying60 h k _ c1 hlt
      clear c1
      unfold wt at hix
      have HS := ofil_step HN.out hlt
      obtain ⟨x, hx⟩ : ∃ x, h.getD k 0 = x := ⟨_, rfl⟩
      rw [hx] at hix HS
      have HS' : Hid (_ = _) := HS
      clear HS hx
      have hcut := cut24 (w.heap.size + 1 + 1) k hlt
      have hx0 : (0 : Int) ≤ (x.toNat : Int) := by omega
      have hx1 : (x.toNat : Int) < 4294967296 := by have := w_lt x; omega
      have CP : Hid (∀ w, Calls Tryd.prog 35 #[.int .u64 (x.toNat : Int), .int .i64 4] w fun e w' => ∃ a c, e = .returned (.slice a 4 c) ∧ Bs w' a 4 c (putL x.toNat 4) ∧ Below w.heap.size w w') := fun w => oPutN x.toNat 4 (by omega) (by omega) w
      have hm : Hid (4 = Nat.min 4 (32 - k * 4)) := (Nat.min_eq_left (show 4 ≤ 32 - k * 4 by omega)).symm
      have hw1 : IntKind.i64.wrap ((k : Int) * 4) = (k : Int) * 4 := by rw [IntKind.wrap_i64]; omega
      have hw2 : IntKind.u64.wrap (x.toNat : Int) = (x.toNat : Int) := by rw [IntKind.wrap_u64]; omega
      go_wp2_with fail
      go_region_held3 (fun _ => True) (trivial)
        (first
          | (refine step_cp (by rfl) (.tmp 13) (.tmp 16) (by rfl) (w.heap.size + 1 + 1) (k * 4) (32 - k * 4) (32 - k * 4) (by rfl) a1 4 c1 (by rfl) _ ho1 _ _ b3 4 hm.out (by rw [cs_length, ofil_length HN.out (by omega)]; omega) (by omega) ?_; intro w2 hc2)
          | (go_at_call 35; refine (CP.out _).mono ?_; rintro e w1 ⟨a1, c1, rfl, ho1, hb1⟩; have b3 := b2.dr.below hb1 b2.lt))
      go_wp2_with fail
      go_roundw
      case rel =>
        have hz2 := b2.lt
        have hb1' : w.heap.size ≤ w1.heap.size := Nat.le_trans (show w.heap.size ≤ wr.heap.size by omega) hb1.size
        refine ⟨k + 1, by omega, by go_num, ⟨z, hz, hc2.other (b1.dr.below hb1 b1.lt) (by omega)⟩, ?_, hc2.below (hb.drew.trans (hb1.mono (show w.heap.size ≤ wr.heap.size by omega))) (by omega) hb1'⟩
        rw [← HS'.out]
        exact hc2.blk
      case measure => simp [intOf]; omega
    · obtain rfl : k = 8 := by omega
      rw [ofil_end HN.out] at b2
      have HO : Hid ((cs (outL h)).length = 32) := by show _ = _; rw [cs_length, outL_length, HN.out]
      go_wp2_with (first
        | (with_reducible refine at_ld 26 ?_; refine ld 26 (.tmp 3) 32 size24 _ Tryd.underlying26 rfl (w.heap.size + 1 + 1) 0 _ HO.out b2.whole rfl ?_)
        | (with_reducible refine at_st 26 ?_; refine st 26 (.tmp 2) (.tmp 19) 32 size24 (w.heap.size + 1) 0 _ HO.out cs_one (b1.there 0 32 (by rw [cs_length, hz]; omega)) rfl rfl ?_))
      have b3 := b1.setsW (cs (outL h)) (by rw [HO.out, cs_length, hz])
      exact bodyPost_ret (v := .agg (cs (outL h)).toArray) (res_blk Tryd.results36 _ _ (w.heap.size + 1) _ _ _ rfl b3 Tryd.underlying26 32 HO.out size24) rfl ⟨rfl, below_sets (by omega) _ hb 0⟩

end Go.Proofs.YtpmdjailpdajkaaDoor
