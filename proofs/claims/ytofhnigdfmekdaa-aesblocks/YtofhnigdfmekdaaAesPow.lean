/-
  The contracts of 'powersOfThree' and 'inverses'. No condition.
-/
import Derived.Test.YtofhnigdfmekdaaAesDbl
import Derived.Test.YtofhnigdfmekdaaAesFill
namespace Go.Proofs.Ytofhnigdfmekdaa
open Go.RowKit

theorem p3s_length : p3s.length = 255 := by simp [p3s]
theorem p3s_at {k : Nat} (h : k < 255) : p3s.getD k 0 = p3 k := by simp [p3s, List.getD_eq_getElem?_getD, h]
theorem sizeP : (Try.prog.info? 62).map (·.size) = some 255 := by kernel_rfl
theorem sizeB : (Try.prog.info? 43).map (·.size) = some 256 := by kernel_rfl
/-- So many noughts as cells, a name of its own. -/
def zarr (n : Nat) : Array Value := (cs (List.replicate n 0)).toArray
theorem zarr_toList (n : Nat) : (zarr n).toList = cs (List.replicate n 0) := rfl
theorem zarr_ne {n : Nat} (h : 0 < n) : ¬ zarr n = #[] := by
  intro e
  have := congrArg Array.size e
  simp [zarr, cs] at this
  omega
theorem zeroP (w : World) : Sem.run Try.prog (zeroValue 62) w = .ok (.agg (zarr 255)) w := by kernel_rfl
theorem zeroB (w : World) : Sem.run Try.prog (zeroValue 43) w = .ok (.agg (zarr 256)) w := by kernel_rfl
attribute [local go_sem] zeroP zeroB

theorem p3_step (k : Nat) : bits .xor .u8 ((p3 k).toNat : Int) ((dbl (p3 k)).toNat : Int) = ((p3 (k + 1)).toNat : Int) := by
  rw [xor_u8]
  rfl

set_option maxHeartbeats 1000000 in
theorem oPowers (w : World) :
    Calls Try.prog 33 #[] w fun e w' => e = .returned (.agg (cs p3s).toArray) ∧ Below w.heap.size w w' := by
  have hne := zarr_ne (n := 255) (by omega)
  go_enter Try.func33, Try.ntmps33
  go_wp2_with fail
  obtain ⟨W2, hW2⟩ : ∃ W2, W2 = (w.alloc (.cells (zarr 255) 62)).alloc (.cells (zarr 255) 62) := ⟨_, rfl⟩
  rw [← hW2]
  have d0 : Blk W2 w.heap.size (cs (List.replicate 255 0)) 62 := by rw [hW2, ← zarr_toList]; exact (Blk.new w _ _).old _
  have d1 : Blk W2 (w.heap.size + 1) (cs (fill p3s 255 0)) 62 := by rw [hW2, fill_zero, ← zarr_toList]; exact Blk.newAt (w.alloc _) _ _ _ (by simp) _ rfl
  have hd : Below w.heap.size w W2 := by rw [hW2]; exact below2 w _ _
  clear hW2
  go_loopw [2, 3, 4] (fun x _ i wr => ∃ k : Nat, k ≤ 255 ∧ i = .int .i64 k ∧ x = .int .u8 ((p3 k).toNat : Int) ∧ Blk wr w.heap.size (cs (List.replicate 255 0)) 62 ∧ Blk wr (w.heap.size + 1) (cs (fill p3s 255 k)) 62 ∧ Below w.heap.size w wr) (fun _ _ i _ => 255 - (intOf i).toNat)
  case atStart => exact ⟨0, by omega, rfl, rfl, d0, d1, hd⟩
  case round =>
    clear d0 d1 hd
    obtain ⟨k, hk, rfl, rfl, b0, b1, hb⟩ := hrel
    by_cases hlt : k < 255
    · have h0 : (0 : Int) ≤ (k : Int) := by omega
      have h8 : (k : Int) < 255 := by omega
      have c1 := b1.at8 (k := k) (by rw [fill_length p3s_length hk]; exact hlt)
      have f1 := b1.free k
      have b2 := b1.set8 k (p3 k)
      rw [← p3s_at hlt, fill_set p3s_length hlt, p3s_at hlt] at b2
      have B2 : Hid (Blk (wr.setCell ⟨w.heap.size + 1, k, none⟩ (.int .u8 ((p3 k).toNat : Int))) (w.heap.size + 1) (cs (fill p3s 255 (k + 1))) 62) := b2
      have HS : Hid (_ = _) := p3_step k
      clear b2
      go_wp2_with (go_at_call 20; refine (oDoubled _ _).mono ?_; rintro e w1 ⟨rfl, rfl⟩)
      go_roundw
      case rel => exact ⟨k + 1, by omega, by go_num, by rw [HS.out], b0.setO (by simp) _, B2.out, hb.setCell (by simp) _⟩
      case measure => simp [intOf]; omega
    · obtain rfl : k = 255 := by omega
      rw [fill_end p3s_length] at b1
      have HL : Hid ((cs p3s).length = 255) := by show _ = _; rw [cs_length, p3s_length]
      obtain ⟨L, hLe⟩ : ∃ L, L = p3s := ⟨_, rfl⟩
      rw [← hLe] at b1 HL
      have HE : Hid (L = p3s) := hLe
      clear hLe
      go_wp2_with (first
        | (with_reducible refine at_ld 62 ?_; refine ld 62 (.tmp 1) 255 sizeP _ Try.underlying62 rfl (w.heap.size + 1) 0 _ HL.out b1.whole rfl ?_)
        | (with_reducible refine at_st 62 ?_; refine st 62 (.tmp 0) (.tmp 15) 255 sizeP w.heap.size 0 _ HL.out cs_one (b0.there 0 255 (by rw [cs_length, List.length_replicate]; omega)) rfl rfl ?_))
      have b3 := b0.setsW (cs L) (by rw [HL.out, cs_length, List.length_replicate])
      exact bodyPost_ret (v := .agg (cs L).toArray) (res_blk Try.results33 _ _ w.heap.size _ _ _ rfl b3 Try.underlying62 255 HL.out sizeP) rfl ⟨by rw [HE.out], below_sets (Nat.le_refl _) _ hb 0⟩

/-- An element of a row of bytes. -/
theorem idx8 (ty : TypeId) (n : Nat) (hu : Try.prog.underlying ty = some (.array n 5)) (l : List UInt8) (k : Nat) (hl : l.length = n) (hk : k < n) (w : World) :
    Sem.run Try.prog (Instr.index ty (.agg (cs l).toArray) (.int .i64 (k : Int))) w = .ok (.int .u8 ((l.getD k 0).toNat : Int)) w := by
  simp [Instr.index, asIntOf, run_underlying hu, part, cs_at (show k < l.length by omega)]
  omega

theorem invS_length (k : Nat) : (invS k).length = 256 := by
  induction k with
  | zero => rw [invS, List.length_replicate]
  | succ k ih => rw [invS, List.length_set, ih]

set_option maxRecDepth 100000 in
set_option maxHeartbeats 1000000 in
theorem oInverses (w : World) :
    Calls Try.prog 18 #[] w fun e w' => e = .returned (.agg (cs (invS 255)).toArray) ∧ Below w.heap.size w w' := by
  have hne := zarr_ne (n := 255) (by omega)
  have hne' := zarr_ne (n := 256) (by omega)
  obtain ⟨L, hLe⟩ : ∃ L, L = p3s := ⟨_, rfl⟩
  have HLE : Hid (L = p3s) := hLe
  have hLL : L.length = 255 := by rw [hLe]; exact p3s_length
  have HL : Hid ((cs L).length = 255) := by show _ = _; rw [cs_length, hLL]
  have HN : Hid (L.length = 255) := hLL
  have CP : Hid (∀ w, Calls Try.prog 33 #[] w fun e w' => e = .returned (.agg (cs L).toArray) ∧ Below w.heap.size w w') := fun w => by rw [hLe]; exact oPowers w
  clear hLe hLL
  go_enter Try.func18, Try.ntmps18
  go_wp2_with (first
    | (go_at_call 33; refine (CP.out _).mono ?_; rintro e w1 ⟨rfl, hb1⟩)
    | (with_reducible refine at_st 62 ?_; refine st' 62 (.tmp 1) (.tmp 5) 255 sizeP w1.heap.size 0 _ HL.out cs_one ((Blk.new w1 (zarr 255) 62).there 0 255 (by rw [zarr_toList, cs_length, List.length_replicate]; omega)) rfl rfl ?_; intro w2 hw2
       have hs1 : w.heap.size + 1 ≤ w1.heap.size := by have := hb1.size; simpa using this
       have c0 : Blk w1 w.heap.size (cs (List.replicate 256 0)) 43 := (Blk.new w (zarr 256) 43).below hb1 (by simp)
       have c1 : Blk w2 w1.heap.size (cs L) 62 := by rw [hw2]; exact (Blk.new w1 (zarr 255) 62).setsW _ (by rw [HL.out, zarr_toList, cs_length, List.length_replicate])
       have c2 : Blk w2 w.heap.size (cs (List.replicate 256 0)) 43 := by rw [hw2]; exact Blk.setsO (by omega) _ (c0.old _) 0
       have hs2 : w2.heap.size = w1.heap.size + 1 := by rw [hw2, size_sets]; simp
       have hb2 : Below w.heap.size w w2 := by rw [hw2]; exact below_sets (by omega) _ (((below_alloc w _).trans (hb1.mono (by simp))).alloc (by omega) _) 0
       clear hw2 c0 hb1)
    | (with_reducible refine at_ld 62 ?_; refine ld 62 (.tmp 1) 255 sizeP _ Try.underlying62 rfl w1.heap.size 0 _ HL.out (c1.old _).whole rfl ?_))
  obtain ⟨W3, hW3⟩ : ∃ W3, W3 = w2.alloc (.cells (zarr 256) 43) := ⟨_, rfl⟩
  rw [← hW3]
  have d0 : Blk W3 w.heap.size (cs (List.replicate 256 0)) 43 := by rw [hW3]; exact c2.old _
  have d1 : Blk W3 w1.heap.size (cs L) 62 := by rw [hW3]; exact c1.old _
  have d2 : Blk W3 w2.heap.size (cs (invS 0)) 43 := by rw [hW3]; exact Blk.new w2 (zarr 256) _
  have hd : Below w.heap.size w W3 := by rw [hW3]; exact hb2.alloc hb2.size _
  clear hW3 c1 c2 hb2
  rw [hs2] at d2
  generalize hg1 : w1.heap.size = g1 at *
  clear hg1 hs2
  go_loopw [3, 4, 7] (fun _ _ i wr => ∃ k : Nat, k ≤ 255 ∧ i = .int .i64 k ∧ Blk wr w.heap.size (cs (List.replicate 256 0)) 43 ∧ Blk wr g1 (cs L) 62 ∧ Blk wr (g1 + 1) (cs (invS k)) 43 ∧ Below w.heap.size w wr) (fun _ _ i _ => 255 - (intOf i).toNat)
  case atStart => exact ⟨0, by omega, rfl, d0, d1, d2, hd⟩
  case round =>
    clear d0 d1 d2 hd
    obtain ⟨k, hk, rfl, b0, b1, b2, hb⟩ := hrel
    by_cases hlt : k < 255
    · have h0 : (0 : Int) ≤ (k : Int) := by omega
      have h8 : (k : Int) < 255 := by omega
      have hix := idx8 62 255 Try.underlying62 L k HN.out hlt
      obtain ⟨j, hj⟩ : ∃ j, j = (255 - k) % 255 := ⟨_, rfl⟩
      have hjl : j < 255 := by omega
      have hj0 : ((255 : Int) - (k : Int)) % 255 = (j : Int) := by omega
      have hj1 : ((255 : Int) - (k : Int)).tmod 255 = (j : Int) := by rw [Int.tmod_eq_emod_of_nonneg (by omega)]; omega
      have hj2 : (0 : Int) ≤ (j : Int) := by omega
      have hj3 : (j : Int) < 255 := by omega
      have c1 := b1.at8 (k := j) (by rw [HN.out]; exact hjl)
      have HI : Hid (invS (k + 1) = (invS k).set (L.getD k 0).toNat (L.getD j 0)) := by show _ = _; rw [HLE.out, hj, invS]
      obtain ⟨c, hc⟩ : ∃ c, c = L.getD k 0 := ⟨_, rfl⟩
      obtain ⟨y, hy⟩ : ∃ y, y = L.getD j 0 := ⟨_, rfl⟩
      rw [← hc] at hix HI
      rw [← hy] at c1 HI
      clear hc hy hj
      have hcl := b_lt c
      have hc0 : (0 : Int) ≤ (c.toNat : Int) := by omega
      have hc1 : (c.toNat : Int) < 256 := by omega
      have c2 := b2.at8 (k := c.toNat) (by rw [invS_length]; exact hcl)
      have f2 := b2.free c.toNat
      have e2 := b2.set8 c.toNat y
      rw [← HI.out] at e2
      have E2 : Hid (Blk (wr.setCell ⟨g1 + 1, c.toNat, none⟩ (.int .u8 (y.toNat : Int))) (g1 + 1) (cs (invS (k + 1))) 43) := e2
      clear e2 HI
      go_wp2_with fail
      go_roundw
      case rel => exact ⟨k + 1, by omega, by go_num, b0.setO (by simp; omega) _, b1.setO (by simp) _, E2.out, hb.setCell (by simp; omega) _⟩
      case measure => simp [intOf]; omega
    · obtain rfl : k = 255 := by omega
      obtain ⟨X, hX⟩ : ∃ X, X = invS 255 := ⟨_, rfl⟩
      have HXL : Hid ((cs X).length = 256) := by show _ = _; rw [hX, cs_length, invS_length]
      have HX : Hid (X = invS 255) := hX
      rw [← hX] at b2
      clear hX
      go_wp2_with (first
        | (with_reducible refine at_ld 43 ?_; refine ld 43 (.tmp 2) 256 sizeB _ Try.underlying43 rfl (g1 + 1) 0 _ HXL.out b2.whole rfl ?_)
        | (with_reducible refine at_st 43 ?_; refine st 43 (.tmp 0) (.tmp 19) 256 sizeB w.heap.size 0 _ HXL.out cs_one (b0.there 0 256 (by rw [cs_length, List.length_replicate]; omega)) rfl rfl ?_))
      have b3 := b0.setsW (cs X) (by rw [HXL.out, cs_length, List.length_replicate])
      exact bodyPost_ret (v := .agg (cs X).toArray) (res_blk Try.results18 _ _ w.heap.size _ _ _ rfl b3 Try.underlying43 256 HXL.out sizeB) rfl ⟨by rw [HX.out], below_sets (Nat.le_refl _) _ hb 0⟩

end Go.Proofs.Ytofhnigdfmekdaa
