/-
  The contract of 'spread': the words of a block's rounds, out of the block's 64 bytes. No condition.
-/
import Derived.Test.YtpmdjailpdajkaaDoorAdded
import Derived.Test.YtpmdjailpdajkaaDoorGet
namespace Go.Proofs.YtpmdjailpdajkaaDoor
open Go.RowKit

/-- A row of bytes as a value. -/
def bv (l : List UInt8) : Value := .agg (cs l).toArray

def zw : List UInt32 := List.replicate 64 0
theorem zw_length : zw.length = 64 := rfl

theorem schd_length (b : List UInt8) (n : Nat) : (schd b n).length = n := by
  induction n with
  | zero => rfl
  | succ n ih => rw [schd]; split <;> simp [ih]

/-- What stands in the variable behind k words. -/
def fil (b : List UInt8) (k : Nat) : List UInt32 := schd b k ++ List.replicate (64 - k) 0
theorem fil_length {b : List UInt8} {k : Nat} (hk : k ≤ 64) : (fil b k).length = 64 := by simp [fil, schd_length]; omega
theorem fil_end (b : List UInt8) : fil b 64 = schd b 64 := by simp [fil]
theorem fil_at {b : List UInt8} {k j : Nat} (hk : k ≤ 64) (hj : j < k) : (ws (fil b k))[j]? = some (.int .u32 (((schd b k).getD j 0).toNat : Int)) := by
  rw [ws_get (by rw [fil_length hk]; omega)]
  have := schd_length b k
  have e : (fil b k).getD j 0 = (schd b k).getD j 0 := by simp [fil, List.getD_eq_getElem?_getD, List.getElem?_append, this, hj]
  unfold wt
  rw [e]
theorem set_snoc (A : List UInt32) (m : Nat) (x : UInt32) (h : 0 < m) : (A ++ List.replicate m 0).set A.length x = (A ++ [x]) ++ List.replicate (m - 1) 0 := by
  rw [List.set_append]
  simp
  cases m with
  | zero => omega
  | succ m => simp [List.replicate_succ]
theorem fil_set {b : List UInt8} {k : Nat} (hk : k < 64) {x : UInt32} (e : schd b (k + 1) = schd b k ++ [x]) : (ws (fil b k)).set k (.int .u32 (x.toNat : Int)) = ws (fil b (k + 1)) := by
  have h := set_snoc (schd b k) (64 - k) x (by omega)
  rw [schd_length] at h
  unfold fil
  rw [e, show 64 - (k + 1) = 64 - k - 1 from by omega, ← h]
  simp [ws, List.map_set]
theorem schd_low {b : List UInt8} {k : Nat} (hk : k < 16) : schd b (k + 1) = schd b k ++ [wordAt b k] := by rw [schd, if_pos hk]
theorem schd_high {b : List UInt8} {k : Nat} (hk : ¬ k < 16) : schd b (k + 1) = schd b k ++ [wnext (schd b k) k] := by rw [schd, if_neg hk]

theorem len48 : Tryd.prog.arrayLen 41 = 64 := by kernel_rfl
theorem und48 : Tryd.prog.underlying 41 = some (.array (Tryd.prog.arrayLen 41) (Tryd.prog.elem 41)) := by kernel_rfl
theorem el48 (w : World) : Sem.run Tryd.prog (sizeOf (Tryd.prog.elem 41)) w = .ok 1 w := by kernel_rfl
theorem add_mid' (g o j : Nat) : (Addr.add ⟨g, o, none⟩ j) = ⟨g, o + j, none⟩ := Addr.add_mid g o j

theorem cut4 (g k : Nat) (hk : k < 16) (w : World) : Sem.run Tryd.prog (Instr.sliceAt 41 (.pointer (some ⟨g, 0, none⟩)) (some (.int .i64 ((k : Int) * 4))) (some (.int .i64 (((k : Int) + 1) * 4))) none) w = .ok (.slice (some ⟨g, k * 4, none⟩) 4 (64 - k * 4)) w := by
  rw [run_sliceAt_array_lh w 41 _ und48 .i64 .i64 _ _ (by omega) (by omega) (by rw [len48]; omega), el48]
  simp only [Result.andThen, slicedAt, len48]
  have e1 : ((k : Int) * 4).toNat = k * 4 := by omega
  have e2 : (((k : Int) + 1) * 4).toNat - k * 4 = 4 := by omega
  rw [e1, e2, if_neg (by omega), add_mid', Nat.mul_one, Nat.zero_add]

theorem cs_sub {b : List UInt8} {o n j : Nat} {v : Value} (h : (cs ((b.drop o).take n))[j]? = some v) : (cs b)[o + j]? = some v := by
  simp only [cs, List.getElem?_map, List.getElem?_take, List.getElem?_drop] at h ⊢
  by_cases hj : j < n
  · simpa [hj] using h
  · simp [hj] at h

theorem word_low (b : List UInt8) (k : Nat) : ((getN ((b.drop (k * 4)).take 4) : Nat) : Int) % 4294967296 = ((wordAt b k).toNat : Int) := by
  unfold wordAt
  rw [UInt32.toNat_ofNat', Nat.mul_comm 4 k]
  omega

theorem wrap_sub {k : Nat} (n : Int) (h0 : 0 ≤ n) (h1 : n ≤ 1000000) (h : k ≤ 1000000) : IntKind.i64.wrap ((k : Int) - n) = (k : Int) - n := by
  rw [IntKind.wrap_i64]; omega

theorem cell_beside (w : World) {g j k : Nat} (v : Value) (h : j ≠ k) : (w.setCell ⟨g, k, none⟩ v).drew.cell? ⟨g, j, none⟩ = w.cell? ⟨g, j, none⟩ := by
  show (w.setCell ⟨g, k, none⟩ v).cell? ⟨g, j, none⟩ = _
  exact World.cell?_setCells_out g [v] k w ⟨g, j, none⟩ (fun _ _ => by simp; omega)

set_option maxHeartbeats 1000000 in
theorem oSpread (w : World) (b : List UInt8) (hl : b.length = 64) :
    Calls Tryd.prog 39 #[bv b] w fun r w' => r = .returned (wv (schd b 64)) ∧ Below w.heap.size w w' := by
  unfold bv wv
  go_enter Tryd.func39, Tryd.ntmps39
  go_wp2_with fail
  go_loopw [4, 6] (fun _ i wr => ∃ k : Nat, k ≤ 16 ∧ i = .int .i64 k ∧ Blk wr w.heap.size (cs b) 41 ∧ (∃ z : List UInt32, z.length = 64 ∧ Blk wr (w.heap.size + 1) (ws z) 68) ∧ Blk wr (w.heap.size + 1 + 1) (ws (fil b k)) 68 ∧ Below w.heap.size w wr) (fun _ i _ => 16 - (intOf i).toNat)
  case atStart =>
    exact ⟨0, by omega, rfl, ((Blk.new w _ _).old _).old _, ⟨zw, rfl, (Blk.newAt (w.alloc _) _ _ _ (by simp) _ rfl).old _⟩, Blk.newAt ((w.alloc _).alloc _) _ _ _ (by simp) _ rfl, below3 w _ _ _⟩
  case round =>
    obtain ⟨k, hk, rfl, b0, ⟨z, hz, b1⟩, b2, hb⟩ := hrel
    by_cases hlt : k < 16
    · have h0 : (0 : Int) ≤ (k : Int) := by omega
      have h8 : (k : Int) < 16 := by omega
      have f0 := b2.free k
      have c0 : ∃ v, wr.cell? ⟨w.heap.size + 1 + 1, k, none⟩ = some v := by rw [b2.cell, ws_get (by rw [fil_length (by omega)]; omega)]; exact ⟨_, rfl⟩
      obtain ⟨v0, c0⟩ := c0
      have hs := cut4 w.heap.size k hlt
      have hB := b0.bs (k * 4) (64 - k * 4) ((b.drop (k * 4)).take 4) (fun j v hv => cs_sub hv) (by simp; omega) (by omega)
      have e4 : ((b.drop (k * 4)).take 4).length = 4 := by simp [hl]; omega
      rw [e4] at hB
      clear e4
      go_wp2_with fail
      refine (oGet wr hB).mono ?_
      rintro e w1 ⟨rfl, rfl⟩
      go_wp2_with fail
      go_roundw
      case rel =>
        refine ⟨k + 1, by omega, by go_num, b0.setO (by simp; omega) _, ⟨z, hz, b1.setO (by simp) _⟩, ?_, hb.setCell (by simp; omega) _⟩
        rw [← fil_set (by omega) (schd_low hlt), word_low]
        exact b2.setC k _
      case measure => simp [intOf]; omega
    · rw [show k = 16 from by omega] at b2
      clear b0
      go_wp2_with fail
      go_loopw [5] (fun i wr => ∃ k : Nat, 16 ≤ k ∧ k ≤ 64 ∧ i = .int .i64 k ∧ (∃ z : List UInt32, z.length = 64 ∧ Blk wr (w.heap.size + 1) (ws z) 68) ∧ Blk wr (w.heap.size + 1 + 1) (ws (fil b k)) 68 ∧ Below w.heap.size w wr) (fun i _ => 64 - (intOf i).toNat)
      case atStart => exact ⟨16, by omega, by omega, rfl, ⟨z, hz, b1⟩, b2, hb⟩
      case round =>
        clear b1 b2 hb hz z hk hlt
        obtain ⟨k, hk16, hk, rfl, ⟨z, hz, b1⟩, b2, hb⟩ := hrel
        by_cases hlt : k < 64
        · have h0 : (16 : Int) ≤ (k : Int) := by omega
          have h8 : (k : Int) < 64 := by omega
          have hi : (0 : Int) ≤ (k : Int) := by omega
          have c1 : ∀ j, j < k → wr.cell? ⟨w.heap.size + 1 + 1, j, none⟩ = some (.int .u32 (((schd b k).getD j 0).toNat : Int)) := fun j hj => by rw [b2.cell, fil_at hk hj]
          have c16 := c1 (k - 16) (by omega)
          have c7 := c1 (k - 7) (by omega)
          have c15 := c1 (k - 15) (by omega)
          have c2 := c1 (k - 2) (by omega)
          clear c1
          obtain ⟨x16, hx16⟩ : ∃ x, (schd b k).getD (k - 16) 0 = x := ⟨_, rfl⟩
          obtain ⟨x15, hx15⟩ : ∃ x, (schd b k).getD (k - 15) 0 = x := ⟨_, rfl⟩
          obtain ⟨x7, hx7⟩ : ∃ x, (schd b k).getD (k - 7) 0 = x := ⟨_, rfl⟩
          obtain ⟨x2, hx2⟩ : ∃ x, (schd b k).getD (k - 2) 0 = x := ⟨_, rfl⟩
          rw [hx16] at c16
          rw [hx15] at c15
          rw [hx7] at c7
          rw [hx2] at c2
          have HX : Hid (wnext (schd b k) k = x16 + x7 + sgA x15 + sgB x2) := by
            unfold wnext
            rw [hx16, hx7, hx15, hx2]
            trivial
          clear hx16 hx7 hx15 hx2
          have f0 := b2.free k
          have c0 : ∃ v, wr.cell? ⟨w.heap.size + 1 + 1, k, none⟩ = some v := by rw [b2.cell, ws_get (by rw [fil_length (by omega)]; omega)]; exact ⟨_, rfl⟩
          obtain ⟨v0, c0⟩ := c0
          have s16 := wrap_sub (k := k) 16 (by omega) (by omega) (by omega)
          have t16 : (16 : Int) ≤ (k : Int) := by omega
          have n16 : ¬ k - 16 = k := by omega
          have p16 : (0 : Int) ≤ (k : Int) - 16 := by omega
          have q16 : (k : Int) - 16 < 64 := by omega
          have r16 : ((k : Int) - 16).toNat = k - 16 := by omega
          have s15 := wrap_sub (k := k) 15 (by omega) (by omega) (by omega)
          have t15 : (15 : Int) ≤ (k : Int) := by omega
          have n15 : ¬ k - 15 = k := by omega
          have p15 : (0 : Int) ≤ (k : Int) - 15 := by omega
          have q15 : (k : Int) - 15 < 64 := by omega
          have r15 : ((k : Int) - 15).toNat = k - 15 := by omega
          have s7 := wrap_sub (k := k) 7 (by omega) (by omega) (by omega)
          have t7 : (7 : Int) ≤ (k : Int) := by omega
          have n7 : ¬ k - 7 = k := by omega
          have p7 : (0 : Int) ≤ (k : Int) - 7 := by omega
          have q7 : (k : Int) - 7 < 64 := by omega
          have r7 : ((k : Int) - 7).toNat = k - 7 := by omega
          have s2 := wrap_sub (k := k) 2 (by omega) (by omega) (by omega)
          have t2 : (2 : Int) ≤ (k : Int) := by omega
          have n2 : ¬ k - 2 = k := by omega
          have p2 : (0 : Int) ≤ (k : Int) - 2 := by omega
          have q2 : (k : Int) - 2 < 64 := by omega
          have r2 : ((k : Int) - 2).toNat = k - 2 := by omega
          have nz : ¬ k = 0 := by omega
          go_wp2_with fail
          go_region_held3 (fun w' => w'.cell? ⟨w.heap.size + 1 + 1, k - 16, none⟩ = some (.int .u32 (x16.toNat : Int)) ∧ w'.cell? ⟨w.heap.size + 1 + 1, k - 15, none⟩ = some (.int .u32 (x15.toNat : Int)) ∧ w'.cell? ⟨w.heap.size + 1 + 1, k - 7, none⟩ = some (.int .u32 (x7.toNat : Int)) ∧ w'.cell? ⟨w.heap.size + 1 + 1, k - 2, none⟩ = some (.int .u32 (x2.toNat : Int))) (first | (refine ⟨?_, ?_, ?_, ?_⟩ <;> (refine (cell_beside _ _ ?_).trans ?_ <;> first | assumption | omega)) | go_keep)
            (first | (go_at_call 43; refine (oEarly _ x15).mono ?_; rintro e w1 ⟨rfl, rfl⟩) | (go_at_call 44; refine (oLate _ x2).mono ?_; rintro e w1 ⟨rfl, rfl⟩))
          go_wp2_with fail
          go_roundw
          case rel =>
            refine ⟨k + 1, by omega, by omega, by go_num, ⟨z, hz, b1.setO (by simp) _⟩, ?_, (hb.setCell (by simp; omega) _).drew⟩
            rw [← fil_set (by omega) (schd_high (by omega)), HX.out]
            rw [w_add', w_add', w_add']
            exact (b2.setC k _).dr
          case measure => simp [intOf]; omega
        · obtain rfl : k = 64 := by omega
          rw [fil_end] at b2
          have HL : Hid ((ws (schd b 64)).length = 64) := by show _ = _; rw [ws_length, schd_length]
          go_wp2_with (first
            | (with_reducible refine at_ld 68 ?_; refine ld 68 (.tmp 3) 64 size56 _ Tryd.underlying68 rfl (w.heap.size + 1 + 1) 0 _ HL.out b2.whole rfl ?_)
            | (with_reducible refine at_st 68 ?_; refine st 68 (.tmp 2) (.tmp 47) 64 size56 (w.heap.size + 1) 0 _ HL.out ws_one (b1.there 0 64 (by rw [ws_length, hz]; omega)) rfl rfl ?_))
          have b3 := b1.setsW (ws (schd b 64)) (by rw [HL.out, ws_length, hz])
          exact bodyPost_ret (v := .agg (ws (schd b 64)).toArray) (res_blk Tryd.results39 _ _ (w.heap.size + 1) _ _ _ rfl b3 Tryd.underlying68 64 HL.out size56) rfl ⟨rfl, below_sets (by omega) _ hb 0⟩

end Go.Proofs.YtpmdjailpdajkaaDoor
