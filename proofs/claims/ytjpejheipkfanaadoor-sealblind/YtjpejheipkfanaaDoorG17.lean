/-
  7 texts in one. No statement of the seat is proved here.
-/
import Derived.Test.YtjpejheipkfanaaDoorG16
import Derived.Deep.CutRange
/-
  What the texts on copies stand on. Nothing is proved here.
-/


/-
  The contract of 'bytes': eight words one behind the other, each with its highest byte first. No condition.
-/
namespace Go.Proofs.YtjpejheipkfanaaDoor
open Go.RowKit

theorem len24 : Tryd.prog.arrayLen 111 = 32 := by kernel_rfl
theorem und24 : Tryd.prog.underlying 111 = some (.array (Tryd.prog.arrayLen 111) (Tryd.prog.elem 111)) := by kernel_rfl
theorem el24 (w : World) : Sem.run Tryd.prog (sizeOf (Tryd.prog.elem 111)) w = .ok 1 w := by kernel_rfl
theorem cut24 (g k : Nat) (hk : k < 8) (w : World) : Sem.run Tryd.prog (Instr.sliceAt 111 (.pointer (some ⟨g, 0, none⟩)) (some (.int .i64 ((k : Int) * 4))) none none) w = .ok (.slice (some ⟨g, k * 4, none⟩) (32 - k * 4) (32 - k * 4)) w := by
  rw [run_sliceAt_array_l w 111 _ und24 .i64 _ (by omega) (by rw [len24]; omega), el24]
  simp only [Result.andThen, slicedAt, len24]
  have e1 : ((k : Int) * 4).toNat = k * 4 := by omega
  rw [e1, if_neg (by omega), add_mid', Nat.mul_one, Nat.zero_add]

theorem outL_length (h : List UInt32) : (outL h).length = 4 * h.length := by
  induction h with
  | nil => rfl
  | cons x h ih => simp [outL, putL_length] at ih ⊢; omega
theorem outL_snoc (h : List UInt32) (x : UInt32) : outL (h ++ [x]) = outL h ++ putL x.toNat 4 := by simp [outL]
theorem wtake_snoc {l : List UInt32} {k : Nat} (h : k < l.length) : l.take (k + 1) = l.take k ++ [l.getD k 0] := by
  rw [List.take_succ_eq_append_getElem h]
  simp [List.getD_eq_getElem?_getD, h]

/-- What stands in the variable behind k words. -/
def ofil (h : List UInt32) (k : Nat) : List UInt8 := outL (h.take k) ++ List.replicate (32 - 4 * k) 0
theorem ofil_length {h : List UInt32} {k : Nat} (hh : h.length = 8) (hk : k ≤ 8) : (ofil h k).length = 32 := by simp [ofil, outL_length, hh]; omega
theorem ofil_end {h : List UInt32} (hh : h.length = 8) : ofil h 8 = outL h := by simp [ofil, List.take_of_length_le (Nat.le_of_eq hh)]
theorem ofil_step {h : List UInt32} {k : Nat} (hh : h.length = 8) (hk : k < 8) : (cs (ofil h k)).take (k * 4) ++ cs ((putL (h.getD k 0).toNat 4).take 4) ++ (cs (ofil h k)).drop (k * 4 + 4) = cs (ofil h (k + 1)) := by
  have hl : (outL (h.take k)).length = k * 4 := by rw [outL_length, List.length_take]; omega
  have e1 : (putL (h.getD k 0).toNat 4).take 4 = putL (h.getD k 0).toNat 4 := List.take_of_length_le (by rw [putL_length]; omega)
  have e2 : (ofil h k).take (k * 4) = outL (h.take k) := by unfold ofil; rw [← hl]; simp
  have e3 : (ofil h k).drop (k * 4 + 4) = List.replicate (32 - 4 * (k + 1)) 0 := by
    unfold ofil
    rw [List.drop_append, List.drop_eq_nil_of_le (by omega), hl]
    simp
    omega
  unfold cs
  rw [← List.map_take, ← List.map_drop, e1, e2, e3, ← List.map_append, ← List.map_append]
  conv => rhs; unfold ofil
  rw [wtake_snoc (by omega), outL_snoc]

theorem oPutN (x n : Nat) (hx : x < 18446744073709551616) (hn : n ≤ 1000000) (w : World) : Calls Tryd.prog 25 #[.int .u64 (x : Int), .int .i64 (n : Int)] w fun e w' => ∃ a c, e = .returned (.slice a n c) ∧ Bs w' a n c (putL x n) ∧ Below w.heap.size w w' := by
  have := oPut (x : Int) n w (by omega) (by omega) (by omega) (by omega)
  refine this.mono ?_
  rintro e w' ⟨a, m, c, rfl, ho, hb⟩
  have hB := ho.toBs
  have hl := hB.len
  simp only [Int.toNat_natCast, putL_length] at hl hB
  subst hl
  exact ⟨a, c, rfl, hB, hb⟩

set_option maxHeartbeats 1000000 in
theorem oWbytes (w : World) (h : List UInt32) (hh : h.length = 8) :
    Calls Tryd.prog 78 #[wv h] w fun r w' => r = .returned (bv (outL h)) ∧ Below w.heap.size w w' := by
  have HL : Hid ((ws h).length = 8) := by show _ = _; rw [ws_length, hh]
  have HN : Hid (h.length = 8) := hh
  clear hh
  unfold wv bv
  go_enter Tryd.func78, Tryd.ntmps78
  go_wp2_with (first
    | (with_reducible refine at_ld 138 ?_; refine ld 138 (.tmp 1) 8 size46 _ Tryd.underlying138 rfl w.heap.size 0 _ HL.out (((Blk.new w _ _).old _).old _).whole rfl ?_))
  go_loopw [4, 5, 7] (fun _ _ i wr => ∃ k : Nat, k ≤ 8 ∧ i = .int .i64 k ∧ (∃ z : List UInt8, z.length = 32 ∧ Blk wr (w.heap.size + 1) (cs z) 111) ∧ Blk wr (w.heap.size + 1 + 1) (cs (ofil h k)) 111 ∧ Below w.heap.size w wr) (fun _ _ i _ => 8 - (intOf i).toNat)
  case atStart => exact ⟨0, by omega, rfl, ⟨List.replicate 32 0, rfl, (Blk.newAt (w.alloc _) _ _ _ (by simp) _ rfl).old _⟩, Blk.newAt ((w.alloc _).alloc _) _ _ _ (by simp) _ rfl, below3 w _ _ _⟩
  case round =>
    obtain ⟨k, hk, rfl, ⟨z, hz, b1⟩, b2, hb⟩ := hrel
    by_cases hlt : k < 8
    · have h0 : (0 : Int) ≤ (k : Int) := by omega
      have h8 : (k : Int) < 8 := by omega
      have c1 := ws_get (l := h) (i := k) (by rw [HN.out]; exact hlt)
      have hix := idx 138 8 Tryd.underlying138 h k _ c1 hlt
      clear c1
      unfold wt at hix
      have HS := ofil_step HN.out hlt
      obtain ⟨x, hx⟩ : ∃ x, h.getD k 0 = x := ⟨_, rfl⟩
      rw [hx] at hix HS
      have HS' : Hid (_ = _) := HS
      clear HS hx
      have hcut := cut24 (w.heap.size + 1 + 1) k hlt
      have hx0 : (0 : Int) ≤ (x.toNat : Int) := by omega
      have hx1 : (x.toNat : Int) < 4294967296 := by have := w_lt x; omega
      have CP : Hid (∀ w, Calls Tryd.prog 25 #[.int .u64 (x.toNat : Int), .int .i64 4] w fun e w' => ∃ a c, e = .returned (.slice a 4 c) ∧ Bs w' a 4 c (putL x.toNat 4) ∧ Below w.heap.size w w') := fun w => oPutN x.toNat 4 (by omega) (by omega) w
      have hm : Hid (4 = Nat.min 4 (32 - k * 4)) := (Nat.min_eq_left (show 4 ≤ 32 - k * 4 by omega)).symm
      have hw1 : IntKind.i64.wrap ((k : Int) * 4) = (k : Int) * 4 := by rw [IntKind.wrap_i64]; omega
      have hw2 : IntKind.u64.wrap (x.toNat : Int) = (x.toNat : Int) := by rw [IntKind.wrap_u64]; omega
      go_wp2_with fail
      go_region_held3 (fun _ => True) (trivial)
        (first
          | (refine step_cp (by rfl) (.tmp 13) (.tmp 16) (by rfl) (w.heap.size + 1 + 1) (k * 4) (32 - k * 4) (32 - k * 4) (by rfl) a1 4 c1 (by rfl) _ ho1 _ _ b3 4 hm.out (by rw [cs_length, ofil_length HN.out (by omega)]; omega) (by omega) ?_; intro w2 hc2)
          | (go_at_call 25; refine (CP.out _).mono ?_; rintro e w1 ⟨a1, c1, rfl, ho1, hb1⟩; have b3 := b2.dr.below hb1 b2.lt))
      go_wp2_with fail
      go_roundw
      case rel =>
        have hz2 := b2.lt
        have hb1' : w.heap.size ≤ w1.heap.size := Nat.le_trans (show w.heap.size ≤ wr.heap.size by omega) hb1.size
        refine ⟨k + 1, by omega, by go_num, ⟨z, hz, hc2.other (b1.dr.below hb1 b1.lt) (by omega)⟩, ?_, hc2.below (hb.drew.trans (hb1.mono (show w.heap.size ≤ wr.heap.size by omega))) (by omega) hb1'⟩
        rw [← HS'.out]
        exact hc2.blk
      case measure => simp [intOf]; omega
    · obtain rfl : k = 8 := by omega
      rw [ofil_end HN.out] at b2
      have HO : Hid ((cs (outL h)).length = 32) := by show _ = _; rw [cs_length, outL_length, HN.out]
      go_wp2_with (first
        | (with_reducible refine at_ld 111 ?_; refine ld 111 (.tmp 3) 32 size24 _ Tryd.underlying111 rfl (w.heap.size + 1 + 1) 0 _ HO.out b2.whole rfl ?_)
        | (with_reducible refine at_st 111 ?_; refine st 111 (.tmp 2) (.tmp 19) 32 size24 (w.heap.size + 1) 0 _ HO.out cs_one (b1.there 0 32 (by rw [cs_length, hz]; omega)) rfl rfl ?_))
      have b3 := b1.setsW (cs (outL h)) (by rw [HO.out, cs_length, hz])
      exact bodyPost_ret (v := .agg (cs (outL h)).toArray) (res_blk Tryd.results78 _ _ (w.heap.size + 1) _ _ _ rfl b3 Tryd.underlying111 32 HO.out size24) rfl ⟨rfl, below_sets (by omega) _ hb 0⟩

end Go.Proofs.YtjpejheipkfanaaDoor

/-
  A sum that is not at its end, in memory ('Sta'), and the contracts of 'firstWords' and 'New'. No condition.
-/
namespace Go.Proofs.YtjpejheipkfanaaDoor
open Go.RowKit

/-- What was not taken yet, with noughts behind. -/
def rst (m : List UInt8) : List UInt8 := m.drop (64 * (m.length / 64)) ++ List.replicate (64 - m.length % 64) 0
theorem rst_length (m : List UInt8) : (rst m).length = 64 := by simp [rst]; omega
theorem tks_length (m : List UInt8) (n : Nat) : (tks m n).length = 8 := by
  induction n with
  | zero => rfl
  | succ n ih => rw [tks]; exact tk_length ih _

/-- The cells of a state behind the bytes m. -/
def sta (m : List UInt8) : List Value := ws (tks m (m.length / 64)) ++ cs (rst m) ++ [.int .u64 (m.length : Int)]
/-- Block r is a state behind the bytes m. -/
def Sta (w : World) (r : Nat) (m : List UInt8) : Prop := Blk w r (sta m) 141

theorem built50 : Tryd.prog.built 141 [(0, wv sHs)] = some (sta []).toArray := by kernel_rfl
def z64 : List UInt8 := List.replicate 64 0
theorem z64_length : z64.length = 64 := rfl
theorem built48 : Tryd.prog.built 128 [] = some (cs z64).toArray := by kernel_rfl

theorem oFirst (w : World) : Calls Tryd.prog 76 #[] w fun e w' => e = .returned (wv sHs) ∧ Below w.heap.size w w' := by
  go_enter Tryd.func76, Tryd.ntmps76
  go_wp2_with fail
  exact bodyPost_ret (v := wv sHs) (by simp [results, Tryd.results76, go_sem, wv, sHs, ws]) rfl ⟨rfl, below_alloc _ _⟩

theorem oNew (w : World) : Calls Tryd.prog 68 #[] w fun e w' => ∃ r, e = .returned (.pointer (some ⟨r, 0, none⟩)) ∧ w.heap.size ≤ r ∧ Sta w' r [] ∧ Below w.heap.size w w' := by
  go_enter Tryd.func68, Tryd.ntmps68
  go_wp2_with (first
    | (go_at_call 76; refine (oFirst w).mono ?_; rintro e w1 ⟨rfl, hb⟩)
    | (with_reducible refine at_bd 141 ?_; refine bd 141 #[(0, .tmp 1)] [(0, wv sHs)] (sta []).toArray rfl built50 ?_))
  go_ret
  exact ⟨w1.heap.size, rfl, hb.size, Blk.new w1 _ _, hb.alloc hb.size _⟩

end Go.Proofs.YtjpejheipkfanaaDoor

/-
  Plain mathematics: the sum that the program makes out of its state is the sum of all the bytes that came. No condition; nothing of the program.
-/
namespace Go.Proofs.YtjpejheipkfanaaDoor
open Go.RowKit

def lst (m : List UInt8) : List UInt8 := (rst m).set (m.length % 64) 128
def fine (L : List UInt8) (n : Nat) : List UInt8 := L.take 56 ++ putL (8 * n) 8
/-- The words of the sum of m, as the program makes them out of its state. -/
def fin (m : List UInt8) : List UInt32 :=
  if m.length % 64 < 56 then tk (tks m (m.length / 64)) (fine (lst m) m.length) else tk (tk (tks m (m.length / 64)) (lst m)) (fine z64 m.length)
theorem lst_length (m : List UInt8) : (lst m).length = 64 := by rw [lst, List.length_set, rst_length]
theorem fine_length {L : List UInt8} (h : L.length = 64) (n : Nat) : (fine L n).length = 64 := by simp [fine, h, putL_length]

theorem fine_cs {L : List UInt8} (h : L.length = 64) (n : Nat) : (cs L).take 56 ++ cs ((putL (8 * n) 8).take 8) ++ (cs L).drop (56 + 8) = cs (fine L n) := by
  have e1 : (putL (8 * n) 8).take 8 = putL (8 * n) 8 := List.take_of_length_le (by rw [putL_length]; omega)
  have e2 : (cs L).drop (56 + 8) = [] := List.drop_eq_nil_of_le (by rw [cs_length]; omega)
  rw [e1, e2, List.append_nil]
  unfold fine
  rw [cs_append]
  congr 1
  simp [cs, List.map_take]
theorem lst_cs (m : List UInt8) : (cs (rst m)).set (m.length % 64) (.int .u8 128) = cs (lst m) := by
  unfold lst cs
  rw [List.map_set]
  rfl


theorem blk_prefix {m r : List UInt8} {k : Nat} (h : 64 * (k + 1) ≤ m.length) : blk (m ++ r) k = blk m k := by
  unfold blk
  rw [List.drop_append_of_le_length (by omega), List.take_append_of_le_length (by simp; omega)]
theorem tks_prefix {m r : List UInt8} : ∀ k, 64 * k ≤ m.length → tks (m ++ r) k = tks m k := by
  intro k
  induction k with
  | zero => intro _; rfl
  | succ k ih => intro h; rw [tks, tks, ih (by omega), blk_prefix h]

theorem lst_eq (m : List UInt8) : lst m = m.drop (64 * (m.length / 64)) ++ (128 :: List.replicate (63 - m.length % 64) 0) := by
  unfold lst rst
  have hl : (m.drop (64 * (m.length / 64))).length = m.length % 64 := by simp; omega
  generalize hD : m.drop (64 * (m.length / 64)) = D at hl
  rw [List.set_append, if_neg (by omega), hl, Nat.sub_self]
  have : 64 - m.length % 64 = (63 - m.length % 64) + 1 := by omega
  rw [this, List.replicate_succ, List.set_cons_zero]

theorem sum_fin (m : List UInt8) : sumL m = outL (fin m) := by
  unfold sumL
  congr 1
  have hl : (m.drop (64 * (m.length / 64))).length = m.length % 64 := by simp; omega
  obtain ⟨R, hR⟩ : ∃ R, R = ([128] ++ List.replicate ((119 - m.length % 64) % 64) 0 ++ putL (8 * m.length) 8 : List UInt8) := ⟨_, rfl⟩
  have hpad : padL m = m ++ R := by rw [hR]; unfold padL; simp
  have hRl : R.length = 9 + (119 - m.length % 64) % 64 := by rw [hR]; simp [putL_length]; omega
  have hdrop : (m ++ R).drop (64 * (m.length / 64)) = m.drop (64 * (m.length / 64)) ++ R := List.drop_append_of_le_length (by omega)
  unfold fin
  rw [hpad, List.length_append, hRl]
  by_cases h : m.length % 64 < 56
  · rw [if_pos h]
    have e : (m.length + (9 + (119 - m.length % 64) % 64)) / 64 = m.length / 64 + 1 := by omega
    rw [e, tks, tks_prefix _ (by omega)]
    congr 1
    unfold blk fine
    rw [hdrop, lst_eq]
    rw [List.take_of_length_le (by rw [List.length_append, hl, hRl]; omega), hR]
    generalize m.drop (64 * (m.length / 64)) = D at hl
    have e2 : (119 - m.length % 64) % 64 = 55 - m.length % 64 := by omega
    rw [e2, List.take_append, List.take_of_length_le (by omega), hl]
    have e3 : 56 - m.length % 64 = (55 - m.length % 64) + 1 := by omega
    rw [e3, List.take_succ_cons, List.take_replicate]
    have e4 : min (55 - m.length % 64) (63 - m.length % 64) = 55 - m.length % 64 := by omega
    rw [e4]
    simp
  · rw [if_neg h]
    have e : (m.length + (9 + (119 - m.length % 64) % 64)) / 64 = m.length / 64 + 1 + 1 := by omega
    have e2 : (119 - m.length % 64) % 64 = 119 - m.length % 64 := by omega
    rw [e, tks, tks, tks_prefix _ (by omega)]
    have hb1 : blk (m ++ R) (m.length / 64) = lst m := by
      unfold blk
      rw [hdrop, lst_eq, hR, e2, List.take_append, List.take_of_length_le (by omega), hl]
      congr 1
      rw [List.append_assoc, List.singleton_append]
      have e3 : 64 - m.length % 64 = (63 - m.length % 64) + 1 := by omega
      rw [e3, List.take_succ_cons, List.take_append_of_le_length (by simp; omega), List.take_replicate]
      have e4 : min (63 - m.length % 64) (119 - m.length % 64) = 63 - m.length % 64 := by omega
      rw [e4]
    have hb2 : blk (m ++ R) (m.length / 64 + 1) = fine z64 m.length := by
      unfold blk fine z64
      have e5 : 64 * (m.length / 64 + 1) = 64 * (m.length / 64) + 64 := by omega
      rw [e5, ← List.drop_drop, hdrop, List.drop_append, List.drop_eq_nil_of_le (by omega), List.nil_append, hl, hR, e2, List.append_assoc, List.singleton_append]
      have e6 : 64 - m.length % 64 = (63 - m.length % 64) + 1 := by omega
      rw [e6, List.drop_succ_cons, List.drop_append_of_le_length (by simp; omega), List.drop_replicate]
      have e7 : 119 - m.length % 64 - (63 - m.length % 64) = 56 := by omega
      rw [e7, List.take_of_length_le (by simp [putL_length]), List.take_replicate]
      rfl
    rw [hb1, hb2]

end Go.Proofs.YtjpejheipkfanaaDoor

/-
  The contract of Sum: the sum of all that came; the state is as it was. Conditions: the package's constants lie where they were laid; at most 1000000 bytes came.
-/
namespace Go.Proofs.YtjpejheipkfanaaDoor
open Go.RowKit

theorem Sta.lt {w : World} {r : Nat} {m : List UInt8} (h : Sta w r m) : r < w.heap.size := Blk.lt h
theorem sta_sum (m : List UInt8) (j : Nat) (v : Value) (h : (ws (tks m (m.length / 64)))[j]? = some v) : (sta m)[0 + j]? = some v := by
  have hj := (List.getElem?_eq_some_iff.1 h).1
  rw [Nat.zero_add]
  unfold sta
  rw [List.append_assoc, List.getElem?_append_left hj]
  exact h
theorem sta_rest (m : List UInt8) (j : Nat) (v : Value) (h : (cs (rst m))[j]? = some v) : (sta m)[8 + j]? = some v := by
  have hj := (List.getElem?_eq_some_iff.1 h).1
  have hl : (ws (tks m (m.length / 64))).length = 8 := by rw [ws_length, tks_length]
  unfold sta
  rw [List.append_assoc, List.getElem?_append_right (by omega), hl, Nat.add_sub_cancel_left, List.getElem?_append_left hj]
  exact h
theorem sta_count (m : List UInt8) : (sta m)[72]? = some (.int .u64 (m.length : Int)) := by
  have hl : (ws (tks m (m.length / 64)) ++ cs (rst m)).length = 72 := by rw [List.length_append, ws_length, tks_length, cs_length, rst_length]
  unfold sta
  rw [List.getElem?_append_right (by omega), hl]
  rfl
theorem Sta.sum {w : World} {r : Nat} {m : List UInt8} (h : Sta w r m) : w.rangeAt r 0 (ws (tks m (m.length / 64))) := Blk.range h 0 _ (sta_sum m)
theorem Sta.rest {w : World} {r : Nat} {m : List UInt8} (h : Sta w r m) : w.rangeAt r 8 (cs (rst m)) := Blk.range h 8 _ (sta_rest m)
theorem Sta.count {w : World} {r : Nat} {m : List UInt8} (h : Sta w r m) : w.cell? ⟨r, 72, none⟩ = some (.int .u64 (m.length : Int)) := by rw [Blk.cell h, sta_count]
theorem Sta.below {w w' : World} {r : Nat} {m : List UInt8} (h : Sta w r m) {B : Nat} (hb : Below B w w') (hB : r < B) : Sta w' r m := Blk.below h hb hB

abbrev z48 : Array Value := #[.int .u8 0, .int .u8 0, .int .u8 0, .int .u8 0, .int .u8 0, .int .u8 0, .int .u8 0, .int .u8 0, .int .u8 0, .int .u8 0, .int .u8 0, .int .u8 0, .int .u8 0, .int .u8 0, .int .u8 0, .int .u8 0, .int .u8 0, .int .u8 0, .int .u8 0, .int .u8 0, .int .u8 0, .int .u8 0, .int .u8 0, .int .u8 0, .int .u8 0, .int .u8 0, .int .u8 0, .int .u8 0, .int .u8 0, .int .u8 0, .int .u8 0, .int .u8 0, .int .u8 0, .int .u8 0, .int .u8 0, .int .u8 0, .int .u8 0, .int .u8 0, .int .u8 0, .int .u8 0, .int .u8 0, .int .u8 0, .int .u8 0, .int .u8 0, .int .u8 0, .int .u8 0, .int .u8 0, .int .u8 0, .int .u8 0, .int .u8 0, .int .u8 0, .int .u8 0, .int .u8 0, .int .u8 0, .int .u8 0, .int .u8 0, .int .u8 0, .int .u8 0, .int .u8 0, .int .u8 0, .int .u8 0, .int .u8 0, .int .u8 0, .int .u8 0]
abbrev z24 : Array Value := #[.int .u8 0, .int .u8 0, .int .u8 0, .int .u8 0, .int .u8 0, .int .u8 0, .int .u8 0, .int .u8 0, .int .u8 0, .int .u8 0, .int .u8 0, .int .u8 0, .int .u8 0, .int .u8 0, .int .u8 0, .int .u8 0, .int .u8 0, .int .u8 0, .int .u8 0, .int .u8 0, .int .u8 0, .int .u8 0, .int .u8 0, .int .u8 0, .int .u8 0, .int .u8 0, .int .u8 0, .int .u8 0, .int .u8 0, .int .u8 0, .int .u8 0, .int .u8 0]

theorem there_lastA (w : World) (c : Array Value) : (((w.alloc (.cells z24 111)).alloc (.cells c 138)).alloc (.cells z48 128)).drew.there (w.heap.size + 1 + 1) 0 64 :=
  (Blk.newAt ((w.alloc (.cells z24 111)).alloc (.cells c 138)) z48 128 (w.heap.size + 1 + 1) (by simp) _ rfl).dr.there 0 64 (by decide)
theorem there_lastB (w : World) (c : Array Value) : (((w.alloc (.cells z24 111)).alloc (.cells z48 128)).alloc (.cells c 138)).drew.there (w.heap.size + 1) 0 64 :=
  ((Blk.newAt (w.alloc (.cells z24 111)) z48 128 (w.heap.size + 1) (by simp) _ rfl).old _).dr.there 0 64 (by decide)

/-- What the loads of a state ask. -/
theorem Sta.asks {w : World} {r : Nat} {m : List UInt8} {v0 v1 v2 v3 v4 v5 v6 v7 : UInt32} (h : Sta w r m) (hv : tks m (m.length / 64) = [v0, v1, v2, v3, v4, v5, v6, v7]) :
    w.cell? ⟨r, 0, none⟩ = some (.int .u32 (v0.toNat : Int)) ∧ w.cell? ⟨r, 1, none⟩ = some (.int .u32 (v1.toNat : Int)) ∧ w.cell? ⟨r, 2, none⟩ = some (.int .u32 (v2.toNat : Int)) ∧ w.cell? ⟨r, 3, none⟩ = some (.int .u32 (v3.toNat : Int)) ∧
      w.cell? ⟨r, 4, none⟩ = some (.int .u32 (v4.toNat : Int)) ∧ w.cell? ⟨r, 5, none⟩ = some (.int .u32 (v5.toNat : Int)) ∧ w.cell? ⟨r, 6, none⟩ = some (.int .u32 (v6.toNat : Int)) ∧ w.cell? ⟨r, 7, none⟩ = some (.int .u32 (v7.toNat : Int)) ∧ w.rangeAt r 8 (cs (rst m)) := by
  have hs := h.sum
  rw [hv] at hs
  refine ⟨?_, ?_, ?_, ?_, ?_, ?_, ?_, ?_, h.rest⟩
  · simpa using hs 0 _ rfl
  · simpa using hs 1 _ rfl
  · simpa using hs 2 _ rfl
  · simpa using hs 3 _ rfl
  · simpa using hs 4 _ rfl
  · simpa using hs 5 _ rfl
  · simpa using hs 6 _ rfl
  · simpa using hs 7 _ rfl

theorem cz64 : (cs z64).length = 64 := by rw [cs_length, z64_length]
theorem Sta.setsO {w : World} {r : Nat} {m : List UInt8} (h : Sta w r m) {g : Nat} (hg : r ≠ g) (us : List Value) (o : Nat) : Sta (w.setCells g o us) r m := Blk.setsO (vs := sta m) hg us h o

set_option maxRecDepth 100000 in
set_option maxHeartbeats 2000000 in
theorem oSum (w : World) (hK : Kon w) (r : Nat) (m : List UInt8) (hS : Sta w r m) (hm : m.length ≤ 1000000) :
    Calls Tryd.prog 71 #[.pointer (some ⟨r, 0, none⟩)] w fun e w' => e = .returned (bv (sumL m)) ∧ Below w.heap.size w w' := by
  have hr := hS.lt
  have hct := hS.count
  obtain ⟨v0, v1, v2, v3, v4, v5, v6, v7, hv⟩ := ws_len8 (tks_length m (m.length / 64))
  have HV : Hid (tks m (m.length / 64) = [v0, v1, v2, v3, v4, v5, v6, v7]) := hv
  obtain ⟨q0, q1, q2, q3, q4, q5, q6, q7, hrest⟩ := hS.asks hv
  clear hv
  have hu := Tryd.underlying128
  have hi : (Tryd.prog.info? 128).map (·.size) = some (cs (rst m)).length := by rw [size48, cs_length, rst_length]
  have hl : (cs (rst m)).length = 64 := by rw [cs_length, rst_length]
  have h1 : ∀ v ∈ cs (rst m), v.oneCell' = true := cs_one
  go_enter Tryd.func71, Tryd.ntmps71
  go_wp2_with fail
  have tA := there_lastA w #[.int .u32 (v0.toNat : Int), .int .u32 (v1.toNat : Int), .int .u32 (v2.toNat : Int), .int .u32 (v3.toNat : Int), .int .u32 (v4.toNat : Int), .int .u32 (v5.toNat : Int), .int .u32 (v6.toNat : Int), .int .u32 (v7.toNat : Int)]
  have tB := there_lastB w #[.int .u32 (v0.toNat : Int), .int .u32 (v1.toNat : Int), .int .u32 (v2.toNat : Int), .int .u32 (v3.toNat : Int), .int .u32 (v4.toNat : Int), .int .u32 (v5.toNat : Int), .int .u32 (v6.toNat : Int), .int .u32 (v7.toNat : Int)]
  go_cut [3, 4] from 6 (fun p3 p4 wx => ∃ g3 g4, p3 = .pointer (some ⟨g3, 0, none⟩) ∧ p4 = .pointer (some ⟨g4, 0, none⟩) ∧ Blk wx g3 (ws (tks m (m.length / 64))) 138 ∧ Blk wx g4 (cs (rst m)) 128 ∧ Blk wx w.heap.size (cs (List.replicate 32 0)) 111 ∧ g3 ≠ g4 ∧ w.heap.size < g3 ∧ w.heap.size < g4 ∧ Below w.heap.size w wx)
  case first =>
    go_region_held3 (fun w' => w'.cell? ⟨r, 0, none⟩ = some (.int .u32 (v0.toNat : Int)) ∧ w'.cell? ⟨r, 1, none⟩ = some (.int .u32 (v1.toNat : Int)) ∧ w'.cell? ⟨r, 2, none⟩ = some (.int .u32 (v2.toNat : Int)) ∧ w'.cell? ⟨r, 3, none⟩ = some (.int .u32 (v3.toNat : Int)) ∧ w'.cell? ⟨r, 4, none⟩ = some (.int .u32 (v4.toNat : Int)) ∧ w'.cell? ⟨r, 5, none⟩ = some (.int .u32 (v5.toNat : Int)) ∧ w'.cell? ⟨r, 6, none⟩ = some (.int .u32 (v6.toNat : Int)) ∧ w'.cell? ⟨r, 7, none⟩ = some (.int .u32 (v7.toNat : Int)) ∧ w'.rangeAt r 8 (cs (rst m)))
      ((refine Sta.asks (Sta.below hS (B := w.heap.size) ?_ hr) HV.out; (repeat' (first | exact Below.refl _ _ | refine Below.drew ?_ | refine below_sets ?_ _ ?_ _ | refine Below.alloc ?_ ?_ _)) <;> (first | omega | (simp; done) | (simp; omega)))) (fail)
    · go_wp2_with fail
      go_meet
      case rel =>
        refine ⟨_, _, rfl, rfl, ?_, ?_, ?_, by omega, by omega, by omega, below_sets (by omega) _ (below3 w _ _ _).drew 0⟩
        · rw [HV.out]
          exact Blk.setsO (by omega) _ (((Blk.newAt (w.alloc _) _ _ _ (by simp) _ rfl).old _).dr) 0
        · exact Blk.setsW (Blk.newAt ((w.alloc _).alloc _) z48 _ (w.heap.size + 1 + 1) (by simp) _ rfl).dr _ (by rw [hl]; rfl)
        · exact Blk.setsO (by omega) _ (((Blk.new w _ _).old _).old _).dr 0
    · go_wp2_with fail
      go_meet
      case rel =>
        refine ⟨_, _, rfl, rfl, ?_, ?_, ?_, by omega, by omega, by omega, below_sets (by omega) _ (below3 w _ _ _).drew 0⟩
        · rw [HV.out]
          exact Blk.setsO (by omega) _ (Blk.newAt ((w.alloc _).alloc _) _ _ _ (by simp) _ rfl).dr 0
        · exact Blk.setsW ((Blk.newAt (w.alloc _) z48 _ (w.heap.size + 1) (by simp) _ rfl).old _).dr _ (by rw [hl]; rfl)
        · exact Blk.setsO (by omega) _ (((Blk.new w _ _).old _).old _).dr 0
  case rest =>
    clear tA tB q0 q1 q2 q3 q4 q5 q6 q7 hrest hu hi h1 HV hct
    obtain ⟨g3, g4, rfl, rfl, b3, b4, b2, hne, hg3, hg4, hb⟩ := hcut
    have c72 := (hS.below hb hr).count
    obtain ⟨p, hp⟩ : ∃ p, m.length % 64 = p := ⟨_, rfl⟩
    have hp64 : p < 64 := by omega
    have hpi : ((m.length : Nat) : Int) % 64 = (p : Int) := by omega
    have hp0 : (0 : Int) ≤ (p : Int) := by omega
    have hp1 : (p : Int) < 64 := by omega
    have f4 := b4.free p
    obtain ⟨x4, c4⟩ : ∃ v, wc.cell? ⟨g4, p, none⟩ = some v := by rw [b4.cell, List.getElem?_eq_getElem (by omega)]; exact ⟨_, rfl⟩
    have hrg : ¬ g4 = r := by omega
    have hrg' : ¬ r = g4 := by omega
    have hw8 : IntKind.u64.wrap (8 * ((m.length : Nat) : Int)) = 8 * ((m.length : Nat) : Int) := by rw [IntKind.wrap_u64]; omega
    have x1 : Sta (wc.setCell ⟨g4, p, none⟩ (.int .u8 128)) r m := Blk.setO (hS.below hb hr) (p := ⟨g4, p, none⟩) hrg' _
    have x2 := b2.setO (p := ⟨g4, p, none⟩) (by simp; omega) (.int .u8 128)
    have x3 := b3.setO (p := ⟨g4, p, none⟩) hne (.int .u8 128)
    have x4 : Blk (wc.setCell ⟨g4, p, none⟩ (.int .u8 128)) g4 (cs (lst m)) 128 := by
      rw [← lst_cs, hp]
      exact b4.setC p (.int .u8 128)
    have hbx := hb.setCell (p := ⟨g4, p, none⟩) (by simp; omega) (.int .u8 128)
    have HP : Hid (m.length % 64 = p) := hp
    clear hp
    by_cases h56 : p < 56
    · have h56i : (p : Int) < 56 := by omega
      have HE : Hid (tk (tks m (m.length / 64)) (fine (lst m) m.length) = fin m) := by show _ = _; unfold fin; rw [if_pos (by rw [HP.out]; exact h56)]
      have HH1 : Hid ((tks m (m.length / 64)).length = 8) := tks_length _ _
      have HL1 : Hid ((lst m).length = 64) := lst_length m
      have z72 := Sta.count x1
      go_wp2_with fail
      have CP : Hid (∀ w, Calls Tryd.prog 25 #[.int .u64 (8 * (m.length : Int)), .int .i64 8] w fun e w' => ∃ a c, e = .returned (.slice a 8 c) ∧ Bs w' a 8 c (putL (8 * m.length) 8) ∧ Below w.heap.size w w') := fun w => oPutN (8 * m.length) 8 (by omega) (by omega) w
      go_region_held3 (fun w' => w'.cell? ⟨r, 72, none⟩ = some (.int .u64 (m.length : Int))) (first | assumption | go_keep)
        (first
          | (refine step_cp (by rfl) (.tmp 27) (.tmp 33) (by rfl) g4 56 8 8 (by rfl) a1 8 c1 (by rfl) _ ho1 _ _ e4 8 (by rfl) (by rw [cs_length, HL1.out]; omega) (by omega) ?_; intro w6 hc6; have c72c : w6.cell? ⟨r, 72, none⟩ = some (.int .u64 (m.length : Int)) := Sta.count (hc6.other e1 (by omega)))
          | (go_at_call 25; refine (CP.out _).mono ?_; rintro e w5 ⟨a1, c1, rfl, ho1, hb1⟩; have e4 := (x4).dr.below hb1 (x4).lt; have e1 := Sta.below (Blk.dr x1) hb1 (Sta.lt x1); have c72b := Sta.count e1))
      have d3 := hc6.other ((x3).dr.below hb1 (x3).lt) (by omega)
      have d2 := hc6.other ((x2).dr.below hb1 (x2).lt) (by omega)
      have d4 := hc6.blk
      rw [fine_cs HL1.out] at d4
      have hsz : w.heap.size ≤ (wc.setCell ⟨g4, p, none⟩ (.int .u8 128)).heap.size := (hbx).size
      have hb6 := hc6.below ((hbx).drew.trans (hb1.mono hsz)) (by omega) (Nat.le_trans hsz hb1.size)
      have H3 : Hid ((ws (tks m (m.length / 64))).length = 8) := by show _ = _; rw [ws_length, HH1.out]
      have H4 : Hid ((cs (fine (lst m) m.length)).length = 64) := by show _ = _; rw [cs_length, fine_length HL1.out]
      have HF : Hid ((fin m).length = 8) := by show _ = _; rw [← HE.out]; exact tk_length HH1.out _
      have HO : Hid ((cs (sumL m)).length = 32) := by show _ = _; rw [cs_length, sum_fin, outL_length, HF.out]
      have CT : Hid (∀ w, Kon w → Calls Tryd.prog 77 #[.agg (ws (tks m (m.length / 64))).toArray, .agg (cs (fine (lst m) m.length)).toArray] w fun r w' => r = .returned (wv (fin m)) ∧ Below w.heap.size w w') := fun w hK => by rw [← HE.out]; exact oTake w hK _ _ HH1.out (fine_length HL1.out _)
      have CB : Hid (∀ w, Calls Tryd.prog 78 #[wv (fin m)] w fun r w' => r = .returned (.agg (cs (sumL m)).toArray) ∧ Below w.heap.size w w') := fun w => by rw [sum_fin]; exact oWbytes w _ HF.out
      have hK6 := hK.below hb6 hK.lt
      clear hc6 e4 e1 c72b c72c hb1 ho1
      go_wp2_with (first
        | (with_reducible refine at_ld 138 ?_; refine ld 138 (.tmp 3) 8 size46 _ Tryd.underlying138 rfl g3 0 _ H3.out d3.whole rfl ?_)
        | (with_reducible refine at_ld 128 ?_; refine ld 128 (.tmp 4) 64 size48 _ Tryd.underlying128 rfl g4 0 _ H4.out d4.whole rfl ?_)
        | (go_at_call 77; refine (CT.out w6 hK6).mono ?_; rintro e w7 ⟨rfl, hb7⟩)
        | (go_at_call 78; refine (CB.out w7).mono ?_; rintro e w8 ⟨rfl, hb8⟩; have d5 := (d2.below hb7 d2.lt).below hb8 (Nat.lt_of_lt_of_le d2.lt hb7.size))
        | (with_reducible refine at_st 111 ?_; refine st 111 (.tmp 2) (.tmp 38) 32 size24 w.heap.size 0 _ HO.out cs_one (d5.there 0 32 (by rw [cs_length]; decide)) rfl rfl ?_))
      have d6 := d5.setsW (cs (sumL m)) (by rw [HO.out]; rfl)
      have hs6 := hb6.size
      have hs7 := hb7.size
      exact bodyPost_ret (v := .agg (cs (sumL m)).toArray) (res_blk Tryd.results71 _ _ w.heap.size _ _ _ rfl d6 Tryd.underlying111 32 HO.out size24) rfl ⟨rfl, below_sets (Nat.le_refl _) _ ((hb6.trans (hb7.mono (by omega))).trans (hb8.mono (by omega))) 0⟩
    · have h56i : (56 : Int) ≤ (p : Int) := by omega
      have HE : Hid (tk (tk (tks m (m.length / 64)) (lst m)) (fine z64 m.length) = fin m) := by show _ = _; unfold fin; rw [if_neg (by rw [HP.out]; exact h56)]
      have HH1 : Hid ((tk (tks m (m.length / 64)) (lst m)).length = 8) := tk_length (tks_length _ _) _
      have HL1 : Hid (z64.length = 64) := rfl
      have HA : Hid ((ws (tks m (m.length / 64))).length = 8) := by show _ = _; rw [ws_length, tks_length]
      have HB : Hid ((cs (lst m)).length = 64) := by show _ = _; rw [cs_length, lst_length]
      have HC : Hid ((ws (tk (tks m (m.length / 64)) (lst m))).length = 8) := by show _ = _; rw [ws_length, HH1.out]
      have CT0 : Hid (Calls Tryd.prog 77 #[.agg (ws (tks m (m.length / 64))).toArray, .agg (cs (lst m)).toArray] (wc.setCell ⟨g4, p, none⟩ (.int .u8 128)) fun r w' => r = .returned (.agg (ws (tk (tks m (m.length / 64)) (lst m))).toArray) ∧ Below (wc.setCell ⟨g4, p, none⟩ (.int .u8 128)).heap.size (wc.setCell ⟨g4, p, none⟩ (.int .u8 128)) w') := oTake _ (hK.below hbx hK.lt) _ _ (tks_length _ _) (lst_length _)
      have hsx : w.heap.size ≤ (wc.setCell ⟨g4, p, none⟩ (.int .u8 128)).heap.size := hbx.size
      go_wp2_with (first
        | (with_reducible refine at_ld 138 ?_; refine ld 138 (.tmp 3) 8 size46 _ Tryd.underlying138 rfl g3 0 _ HA.out x3.whole rfl ?_)
        | (with_reducible refine at_ld 128 ?_; refine ld 128 (.tmp 4) 64 size48 _ Tryd.underlying128 rfl g4 0 _ HB.out x4.whole rfl ?_)
        | (go_at_call 77; refine CT0.out.mono ?_; rintro e wy ⟨rfl, hbt⟩; have t1 := Sta.below x1 hbt x1.lt; have t2 := x2.below hbt x2.lt; have t3 := x3.below hbt x3.lt; have t4 := x4.below hbt x4.lt; have hby0 := hbx.trans (hbt.mono hsx))
        | (with_reducible refine at_st 138 ?_; refine st' 138 (.tmp 3) (.tmp 25) 8 size46 g3 0 _ HC.out ws_one (t3.there 0 8 (by have := HA.out; omega)) rfl rfl ?_; intro wq hwq; have s1 : Sta wq r m := by rw [hwq]; exact t1.setsO (by omega) _ 0
           have s2 : Blk wq w.heap.size (cs (List.replicate 32 0)) 111 := by rw [hwq]; exact Blk.setsO (by omega) _ t2 0
           have s3 : Blk wq g3 (ws (tk (tks m (m.length / 64)) (lst m))) 138 := by rw [hwq]; exact t3.setsW _ (by rw [HC.out, HA.out])
           have s4 : Blk wq g4 (cs (lst m)) 128 := by rw [hwq]; exact Blk.setsO (by omega) _ t4 0
           have hbq : Below w.heap.size w wq := by rw [hwq]; exact below_sets (by omega) _ hby0 0
           clear hwq)
        | (with_reducible refine at_bd 128 ?_; refine bd 128 #[] [] (cs z64).toArray rfl built48 ?_)
        | (with_reducible refine at_st 128 ?_; refine st' 128 (.tmp 4) (.tmp 26) 64 size48 g4 0 (cs z64) cz64 cs_one (s4.there 0 64 (by have := HB.out; omega)) rfl rfl ?_; intro wz hwz; have y1 : Sta wz r m := by rw [hwz]; exact s1.setsO (by omega) _ 0
           have y2 : Blk wz w.heap.size (cs (List.replicate 32 0)) 111 := by rw [hwz]; exact Blk.setsO (by omega) _ s2 0
           have y3 : Blk wz g3 (ws (tk (tks m (m.length / 64)) (lst m))) 138 := by rw [hwz]; exact Blk.setsO (by omega) _ s3 0
           have y4 : Blk wz g4 (cs z64) 128 := by rw [hwz]; exact s4.setsW _ (by rw [HB.out, cz64])
           have hby : Below w.heap.size w wz := by rw [hwz]; exact below_sets (by omega) _ hbq 0
           have z72 := Sta.count y1
           clear hwz))
      have CP : Hid (∀ w, Calls Tryd.prog 25 #[.int .u64 (8 * (m.length : Int)), .int .i64 8] w fun e w' => ∃ a c, e = .returned (.slice a 8 c) ∧ Bs w' a 8 c (putL (8 * m.length) 8) ∧ Below w.heap.size w w') := fun w => oPutN (8 * m.length) 8 (by omega) (by omega) w
      go_region_held3 (fun w' => w'.cell? ⟨r, 72, none⟩ = some (.int .u64 (m.length : Int))) (first | assumption | go_keep)
        (first
          | (refine step_cp (by rfl) (.tmp 27) (.tmp 33) (by rfl) g4 56 8 8 (by rfl) a1 8 c1 (by rfl) _ ho1 _ _ e4 8 (by rfl) (by rw [cs_length, HL1.out]; omega) (by omega) ?_; intro w6 hc6; have c72c : w6.cell? ⟨r, 72, none⟩ = some (.int .u64 (m.length : Int)) := Sta.count (hc6.other e1 (by omega)))
          | (go_at_call 25; refine (CP.out _).mono ?_; rintro e w5 ⟨a1, c1, rfl, ho1, hb1⟩; have e4 := (y4).dr.below hb1 (y4).lt; have e1 := Sta.below (Blk.dr y1) hb1 (Sta.lt y1); have c72b := Sta.count e1))
      have d3 := hc6.other ((y3).dr.below hb1 (y3).lt) (by omega)
      have d2 := hc6.other ((y2).dr.below hb1 (y2).lt) (by omega)
      have d4 := hc6.blk
      rw [fine_cs HL1.out] at d4
      have hsz : w.heap.size ≤ (wz).heap.size := (hby).size
      have hb6 := hc6.below ((hby).drew.trans (hb1.mono hsz)) (by omega) (Nat.le_trans hsz hb1.size)
      have H3 : Hid ((ws (tk (tks m (m.length / 64)) (lst m))).length = 8) := by show _ = _; rw [ws_length, HH1.out]
      have H4 : Hid ((cs (fine z64 m.length)).length = 64) := by show _ = _; rw [cs_length, fine_length HL1.out]
      have HF : Hid ((fin m).length = 8) := by show _ = _; rw [← HE.out]; exact tk_length HH1.out _
      have HO : Hid ((cs (sumL m)).length = 32) := by show _ = _; rw [cs_length, sum_fin, outL_length, HF.out]
      have CT : Hid (∀ w, Kon w → Calls Tryd.prog 77 #[.agg (ws (tk (tks m (m.length / 64)) (lst m))).toArray, .agg (cs (fine z64 m.length)).toArray] w fun r w' => r = .returned (wv (fin m)) ∧ Below w.heap.size w w') := fun w hK => by rw [← HE.out]; exact oTake w hK _ _ HH1.out (fine_length HL1.out _)
      have CB : Hid (∀ w, Calls Tryd.prog 78 #[wv (fin m)] w fun r w' => r = .returned (.agg (cs (sumL m)).toArray) ∧ Below w.heap.size w w') := fun w => by rw [sum_fin]; exact oWbytes w _ HF.out
      have hK6 := hK.below hb6 hK.lt
      clear hc6 e4 e1 c72b c72c hb1 ho1
      go_wp2_with (first
        | (with_reducible refine at_ld 138 ?_; refine ld 138 (.tmp 3) 8 size46 _ Tryd.underlying138 rfl g3 0 _ H3.out d3.whole rfl ?_)
        | (with_reducible refine at_ld 128 ?_; refine ld 128 (.tmp 4) 64 size48 _ Tryd.underlying128 rfl g4 0 _ H4.out d4.whole rfl ?_)
        | (go_at_call 77; refine (CT.out w6 hK6).mono ?_; rintro e w7 ⟨rfl, hb7⟩)
        | (go_at_call 78; refine (CB.out w7).mono ?_; rintro e w8 ⟨rfl, hb8⟩; have d5 := (d2.below hb7 d2.lt).below hb8 (Nat.lt_of_lt_of_le d2.lt hb7.size))
        | (with_reducible refine at_st 111 ?_; refine st 111 (.tmp 2) (.tmp 38) 32 size24 w.heap.size 0 _ HO.out cs_one (d5.there 0 32 (by rw [cs_length]; decide)) rfl rfl ?_))
      have d6 := d5.setsW (cs (sumL m)) (by rw [HO.out]; rfl)
      have hs6 := hb6.size
      have hs7 := hb7.size
      exact bodyPost_ret (v := .agg (cs (sumL m)).toArray) (res_blk Tryd.results71 _ _ w.heap.size _ _ _ rfl d6 Tryd.underlying111 32 HO.out size24) rfl ⟨rfl, below_sets (Nat.le_refl _) _ ((hb6.trans (hb7.mono (by omega))).trans (hb8.mono (by omega))) 0⟩

end Go.Proofs.YtjpejheipkfanaaDoor

/-
  Plain mathematics on the cells of a state: what a copy, a count and a block that is taken make of them. No condition; nothing of the program but the cells.
-/
namespace Go.Proofs.YtjpejheipkfanaaDoor
open Go.RowKit

/-- The cells of a state: its words, what was not taken, the count. -/
def staw (S : List UInt32) (R : List UInt8) (c : Nat) : List Value := ws S ++ cs R ++ [.int .u64 (c : Int)]
theorem sta_eq (m : List UInt8) : sta m = staw (tks m (m.length / 64)) (rst m) m.length := rfl
theorem staw_length {S : List UInt32} {R : List UInt8} (hS : S.length = 8) (hR : R.length = 64) (c : Nat) : (staw S R c).length = 73 := by simp [staw, ws_length, cs_length, hS, hR]

theorem staw_copy {S : List UInt32} {R x : List UInt8} (hS : S.length = 8) (hR : R.length = 64) (c p : Nat) (h : p + x.length ≤ 64) :
    (staw S R c).take (8 + p) ++ cs x ++ (staw S R c).drop (8 + p + x.length) = staw S (R.take p ++ x ++ R.drop (p + x.length)) c := by
  have hw : (ws S).length = 8 := by rw [ws_length, hS]
  have hc : (cs R).length = 64 := by rw [cs_length, hR]
  unfold staw
  rw [List.append_assoc (ws S), List.take_append, List.drop_append, List.take_of_length_le (by omega), List.drop_eq_nil_of_le (by omega), hw]
  have e1 : 8 + p - 8 = p := by omega
  have e2 : 8 + p + x.length - 8 = p + x.length := by omega
  rw [e1, e2, List.take_append_of_le_length (by omega), List.drop_append_of_le_length (by omega), cs_append, cs_append]
  simp [cs, List.map_take, List.map_drop]
theorem staw_count {S : List UInt32} {R : List UInt8} (hS : S.length = 8) (hR : R.length = 64) (c d : Nat) : (staw S R c).set 72 (.int .u64 (d : Int)) = staw S R d := by
  have hl : (ws S ++ cs R).length = 72 := by simp [ws_length, cs_length, hS, hR]
  unfold staw
  rw [List.set_append, if_neg (by omega), hl]
  rfl
theorem staw_at {S : List UInt32} {R : List UInt8} (hS : S.length = 8) (hR : R.length = 64) (c : Nat) : (staw S R c)[72]? = some (.int .u64 (c : Int)) := by
  have hl : (ws S ++ cs R).length = 72 := by simp [ws_length, cs_length, hS, hR]
  unfold staw
  rw [List.getElem?_append_right (by omega), hl]
  rfl
theorem staw_sum {S T : List UInt32} {R : List UInt8} (hS : S.length = 8) (hT : T.length = 8) (c : Nat) : (staw S R c).take 0 ++ ws T ++ (staw S R c).drop (0 + (ws T).length) = staw T R c := by
  have hw : (ws S).length = 8 := by rw [ws_length, hS]
  have ht : (ws T).length = 8 := by rw [ws_length, hT]
  unfold staw
  rw [ht, List.append_assoc (ws S), List.drop_append, List.drop_eq_nil_of_le (by omega), hw]
  simp
theorem staw_rest {S : List UInt32} {R Q : List UInt8} (hS : S.length = 8) (hR : R.length = 64) (hQ : Q.length = 64) (c : Nat) : (staw S R c).take 8 ++ cs Q ++ (staw S R c).drop (8 + (cs Q).length) = staw S Q c := by
  have h := staw_copy (x := Q) hS hR c 0 (by omega)
  rw [Nat.add_zero] at h
  rw [cs_length, h]
  simp [List.drop_eq_nil_of_le (show R.length ≤ Q.length by omega)]
theorem staw_range {S : List UInt32} {R : List UInt8} (hS : S.length = 8) (c j : Nat) (v : Value) (h : (cs R)[j]? = some v) : (staw S R c)[8 + j]? = some v := by
  have hj := (List.getElem?_eq_some_iff.1 h).1
  have hl : (ws S).length = 8 := by rw [ws_length, hS]
  unfold staw
  rw [List.append_assoc, List.getElem?_append_right (by omega), hl, Nat.add_sub_cancel_left, List.getElem?_append_left hj]
  exact h

/-- What stands behind a copy. -/
def mixd (m x : List UInt8) : List UInt8 := (rst m).take (m.length % 64) ++ x ++ (rst m).drop (m.length % 64 + x.length)
theorem rst_take (m : List UInt8) : (rst m).take (m.length % 64) = m.drop (64 * (m.length / 64)) := by
  have hl : (m.drop (64 * (m.length / 64))).length = m.length % 64 := by simp; omega
  unfold rst
  rw [List.take_append_of_le_length (by omega), List.take_of_length_le (by omega)]
theorem mixd_length {m x : List UInt8} (h : m.length % 64 + x.length ≤ 64) : (mixd m x).length = 64 := by
  have := rst_length m
  simp [mixd, this]
  omega

/-- Not yet a block. -/
theorem step_part {m x : List UInt8} (h : m.length % 64 + x.length < 64) : staw (tks m (m.length / 64)) (mixd m x) (m.length + x.length) = sta (m ++ x) := by
  have hl : (m.drop (64 * (m.length / 64))).length = m.length % 64 := by simp; omega
  have e1 : (m ++ x).length / 64 = m.length / 64 := by rw [List.length_append]; omega
  have e2 : (m ++ x).length % 64 = m.length % 64 + x.length := by rw [List.length_append]; omega
  rw [sta_eq, e1, tks_prefix _ (by omega), List.length_append]
  congr 1
  have d1 : (m ++ x).drop (64 * (m.length / 64)) = m.drop (64 * (m.length / 64)) ++ x := List.drop_append_of_le_length (by omega)
  have d2 : (rst m).drop (m.length % 64 + x.length) = List.replicate (64 - (m.length % 64 + x.length)) 0 := by
    have hn : (m.drop (64 * (m.length / 64))).drop (m.length % 64 + x.length) = [] := List.drop_eq_nil_of_le (by omega)
    unfold rst
    rw [List.drop_append, hn, hl, List.drop_replicate, List.nil_append]
    congr 1
    omega
  unfold mixd
  rw [rst_take, d2]
  unfold rst
  rw [e1, e2, d1]

/-- A block is whole. -/
theorem step_full {m x : List UInt8} (h : m.length % 64 + x.length = 64) : staw (tk (tks m (m.length / 64)) (mixd m x)) z64 (m.length + x.length) = sta (m ++ x) := by
  have hl : (m.drop (64 * (m.length / 64))).length = m.length % 64 := by simp; omega
  have hr := rst_length m
  have e1 : (m ++ x).length / 64 = m.length / 64 + 1 := by rw [List.length_append]; omega
  have e2 : (m ++ x).length % 64 = 0 := by rw [List.length_append]; omega
  have e3 : mixd m x = blk (m ++ x) (m.length / 64) := by
    unfold mixd blk
    have d1 : (m ++ x).drop (64 * (m.length / 64)) = m.drop (64 * (m.length / 64)) ++ x := List.drop_append_of_le_length (by omega)
    have d2 : (rst m).drop (m.length % 64 + x.length) = [] := List.drop_eq_nil_of_le (by omega)
    rw [rst_take, d1, d2, List.append_nil, List.take_of_length_le (by rw [List.length_append, hl]; omega)]
  have e4 : rst (m ++ x) = z64 := by
    unfold rst
    rw [e2, List.drop_eq_nil_of_le (by omega), List.nil_append]
    rfl
  rw [sta_eq, e1, e4, tks, tks_prefix _ (by omega), ← e3, List.length_append]

theorem but_refl (w : World) (r : Nat) : w.grownBy w (some r) := ⟨rfl, rfl, rfl, Nat.le_refl _, fun _ _ _ => rfl⟩
theorem but_drew {a w : World} {r : Nat} (h : a.grownBy w (some r)) : a.grownBy w.drew (some r) := ⟨h.os, h.tape, h.output, h.size, h.block⟩
theorem but_sets {r : Nat} {a : World} (us : List Value) : ∀ {w : World} (_ : a.grownBy w (some r)) (o : Nat), a.grownBy (w.setCells r o us) (some r) := by
  induction us with
  | nil => intro w h o; exact h
  | cons u us ih => intro w h o; exact ih (but_trans h (but_set w r o u)) (o + 1)

end Go.Proofs.YtjpejheipkfanaaDoor

/-
  The contract of Write: more bytes come to a state. Conditions: the package's constants lie where they were laid; the bytes do not lie in the state's own block; at most 1000000 bytes come in all.
-/
namespace Go.Proofs.YtjpejheipkfanaaDoor
open Go.RowKit

def lenV : Value → Nat
  | .slice _ n _ => n
  | _ => 0

theorem cutR (r p : Nat) (hp : p < 64) (w : World) : Sem.run Tryd.prog (Instr.sliceAt 128 (.pointer (some ⟨r, 8, none⟩)) (some (.int .u64 (p : Int))) none none) w = .ok (.slice (some ⟨r, 8 + p, none⟩) (64 - p) (64 - p)) w := by
  rw [run_sliceAt_array_l w 128 _ und48 .u64 _ (by omega) (by rw [len48]; omega), el48]
  simp only [Result.andThen, slicedAt, len48, Int.toNat_natCast]
  rw [if_neg (by omega), add_mid', Nat.mul_one]

/-- The first words of a state, and that its cells may be written. -/
theorem Blk.state8 {w : World} {g : Nat} {v0 v1 v2 v3 v4 v5 v6 v7 : UInt32} {R : List UInt8} {c : Nat} {t : TypeId} (b : Blk w g (staw [v0, v1, v2, v3, v4, v5, v6, v7] R c) t) :
    w.cell? ⟨g, 0, none⟩ = some (.int .u32 (v0.toNat : Int)) ∧ w.cell? ⟨g, 1, none⟩ = some (.int .u32 (v1.toNat : Int)) ∧ w.cell? ⟨g, 2, none⟩ = some (.int .u32 (v2.toNat : Int)) ∧ w.cell? ⟨g, 3, none⟩ = some (.int .u32 (v3.toNat : Int)) ∧
      w.cell? ⟨g, 4, none⟩ = some (.int .u32 (v4.toNat : Int)) ∧ w.cell? ⟨g, 5, none⟩ = some (.int .u32 (v5.toNat : Int)) ∧ w.cell? ⟨g, 6, none⟩ = some (.int .u32 (v6.toNat : Int)) ∧ w.cell? ⟨g, 7, none⟩ = some (.int .u32 (v7.toNat : Int)) ∧
      w.frozen? ⟨g, 0, none⟩ = false ∧ w.frozen? ⟨g, 1, none⟩ = false ∧ w.frozen? ⟨g, 2, none⟩ = false ∧ w.frozen? ⟨g, 3, none⟩ = false ∧ w.frozen? ⟨g, 4, none⟩ = false ∧ w.frozen? ⟨g, 5, none⟩ = false ∧ w.frozen? ⟨g, 6, none⟩ = false ∧ w.frozen? ⟨g, 7, none⟩ = false :=
  ⟨b.cell 0, b.cell 1, b.cell 2, b.cell 3, b.cell 4, b.cell 5, b.cell 6, b.cell 7, b.free 0, b.free 1, b.free 2, b.free 3, b.free 4, b.free 5, b.free 6, b.free 7⟩
theorem Blk.rest8 {w : World} {g : Nat} {S T : List UInt32} {R : List UInt8} {c : Nat} {t : TypeId} (b : Blk w g (staw S R c) t) (hS : S.length = 8) (hT : T.length = 8) (hR : R.length = 64) : Blk (w.setCells g 0 (ws T)) g (staw T R c) t := by
  have := b.sets (ws T) 0 (by rw [staw_length hS hR, ws_length]; omega)
  rw [staw_sum hS hT] at this
  exact this

theorem copied_sta {w w1 : World} {r p q : Nat} {M L : List UInt8} {t : TypeId} (h : Copied w w1 r (8 + p) q (sta M) L t) (hp : M.length % 64 = p) (hq : q ≤ L.length) (hpq : p + q ≤ 64) : Blk w1 r (staw (tks M (M.length / 64)) (mixd M (L.take q)) M.length) t := by
  have hl : (L.take q).length = q := by rw [List.length_take]; omega
  have b := h.blk
  have e := staw_copy (x := L.take q) (tks_length M (M.length / 64)) (rst_length M) M.length p (by omega)
  rw [hl] at e
  rw [sta_eq, e] at b
  unfold mixd
  rw [hp, hl]
  exact b

/-- The 64 cells from a place on, where they are all there. -/
noncomputable def row64 (w : World) (b o : Nat) : Option (Array Value) :=
  if ∀ j, j < 64 → (w.cell? ⟨b, o + j, none⟩).isSome = true then some ((List.range 64).map fun j => (w.cell? ⟨b, o + j, none⟩).getD undef).toArray else none
noncomputable def farLd (w : World) (b o : Nat) : Result Value := Sem.run Tryd.prog (Instr.loadAt 128 (.pointer (some ⟨b, o, none⟩))) w
theorem ld_rule (w : World) (b o : Nat) : Sem.run Tryd.prog (Instr.loadAt 128 (.pointer (some ⟨b, o, none⟩))) w = match row64 w b o with | some c => .ok (.agg c) w | none => farLd w b o := by
  unfold row64
  split
  · rename_i c hc
    split at hc
    · rename_i h
      simp only [Option.some.injEq] at hc
      subst hc
      refine run_loadAt_mid w b o 128 _ _ (fun j v hv => ?_) Tryd.underlying128 rfl (by rw [size48]; simp)
      have hj : j < 64 := by
        have := (List.getElem?_eq_some_iff.1 hv).1
        simpa using this
      have e := h j hj
      obtain ⟨u, hu⟩ := Option.isSome_iff_exists.1 e
      simp [hj, hu] at hv
      rw [hu, hv]
    · simp at hc
  · rfl
noncomputable def ld48 (x : Value) : Sem Value := Instr.loadAt 128 x
theorem ld48_in (x : Value) : Instr.loadAt 128 x = ld48 x := rfl
theorem ld48_run (w : World) (b o : Nat) : Sem.run Tryd.prog (ld48 (.pointer (some ⟨b, o, none⟩))) w = match row64 w b o with | some c => .ok (.agg c) w | none => farLd w b o := ld_rule w b o
theorem row64_drew (w : World) (b o : Nat) : row64 w.drew b o = row64 w b o := rfl
theorem row64_of {w : World} {b o : Nat} {c : List Value} (h : w.rangeAt b o c) (hc : c.length = 64) : row64 w b o = some c.toArray := by
  have hs : ∀ j, j < 64 → w.cell? ⟨b, o + j, none⟩ = c[j]? := fun j hj => by
    rw [h j c[j] (List.getElem?_eq_getElem (by omega)), List.getElem?_eq_getElem]
  unfold row64
  rw [if_pos (fun j hj => by rw [hs j hj, List.getElem?_eq_getElem (by omega)]; rfl)]
  congr 2
  apply List.ext_getElem
  · simp [hc]
  · intro j h1 h2
    simp only [List.getElem_map, List.getElem_range]
    rw [hs j (by omega), List.getElem?_eq_getElem h2]
    rfl

theorem Kon.but {w w' : World} (h : Kon w) {r : Nat} (g : w.grownBy w' (some r)) (hr : 0 < r) : Kon w' := fun j v hv => by
  rw [World.cell?_of_block (w := w) (g.block 0 h.lt (by simp; omega))]
  exact h j v hv

attribute [local go_sem ↓] ld48_in
attribute [local go_sem] ld48_run row64_drew
set_option maxRecDepth 100000 in
set_option maxHeartbeats 2000000 in
theorem oWrite (w : World) (hK : Kon w) (r : Nat) (m : List UInt8) (hS : Sta w r m) {a : Option Addr} {n c : Nat} {l : List UInt8} (ha : Bs w a n c l) (hr0 : 0 < r) (hne : 0 < n → ∀ x, a = some x → x.block ≠ r) (hm : m.length + l.length ≤ 1000000) :
    Calls Tryd.prog 69 #[.pointer (some ⟨r, 0, none⟩), .slice a n c] w fun e w' => e = .returned (.tuple #[]) ∧ Sta w' r (m ++ l) ∧ w.grownBy w' (some r) := by
  have hn := ha.len
  subst hn
  have HM : Hid (m.length + l.length ≤ 1000000) := hm
  clear hm
  go_enter Tryd.func69, Tryd.ntmps69
  go_wp2_with fail
  go_loopw [1, 4] (fun sb _ wr => ∃ (M L : List UInt8) (a' : Option Addr) (c' : Nat), sb = .slice a' L.length c' ∧ Bs wr a' L.length c' L ∧ (0 < L.length → ∀ x, a' = some x → x.block ≠ r) ∧ Sta wr r M ∧ M ++ L = m ++ l ∧ w.grownBy wr (some r)) (fun sb _ _ => lenV sb)
  case atStart => exact ⟨m, l, a, c, rfl, ha, hne, hS, rfl, but_refl w r⟩
  case round =>
    clear ha hne hS
    obtain ⟨M, L, a', c', rfl, hB, hne, hS, hML, hby⟩ := hrel
    have hlen : M.length + L.length ≤ 1000000 := by
      have e := congrArg List.length hML
      rw [List.length_append, List.length_append] at e
      have := HM.out
      omega
    have HML : Hid (M ++ L = m ++ l) := hML
    clear hML
    by_cases h0 : L.length = 0
    · have e : L = [] := List.length_eq_zero_iff.1 h0
      subst e
      go_wp2
      go_end0
      rw [List.append_nil] at HML
      exact ⟨rfl, by rw [← HML.out]; exact hS, hby⟩
    · replace hne := hne (by omega)
      obtain ⟨p, hp⟩ : ∃ p, M.length % 64 = p := ⟨_, rfl⟩
      have hp64 : p < 64 := by omega
      have hpi : ((M.length : Nat) : Int) % 64 = (p : Int) := by omega
      have hpt : ((M.length : Nat) : Int).tmod 64 = (p : Int) := by rw [Int.tmod_eq_emod_of_nonneg (by omega)]; omega
      have hp0 : (0 : Int) ≤ (p : Int) := by omega
      have hp1 : (p : Int) < 64 := by omega
      have hL0 : (0 : Int) < (L.length : Int) := by omega
      have hcut := cutR r p hp64
      obtain ⟨q, hq⟩ : ∃ q, q = Nat.min L.length (64 - p) := ⟨_, rfl⟩
      have hq1 : 0 < q ∧ q ≤ L.length ∧ p + q ≤ 64 := by
        have e := Nat.min_def (n := L.length) (m := 64 - p)
        rw [hq]
        show 0 < min L.length (64 - p) ∧ min L.length (64 - p) ≤ L.length ∧ p + min L.length (64 - p) ≤ 64
        omega
      have c72 := hS.count
      have HQ : Hid (q = Nat.min L.length (64 - p)) := hq
      have HP : Hid (M.length % 64 = p) := hp
      clear hq hp
      go_wp2_with fail
      go_region_held3 (fun w' => w'.cell? ⟨r, 72, none⟩ = some (.int .u64 (M.length : Int))) (first | assumption | go_keep)
        ((refine step_cp (by rfl) (.tmp 16) (.tmp 17) (by rfl) r (8 + p) (64 - p) (64 - p) (by rfl) a' L.length c' (by rfl) L hB.drew (sta M) _ (Blk.dr hS) q HQ.out (by have := staw_length (tks_length M (M.length / 64)) (rst_length M) M.length; rw [← sta_eq] at this; omega) hq1.1 ?_; intro w1 hc1; have b1 : Blk w1 r (staw (tks M (M.length / 64)) (mixd M (L.take q)) M.length) 141 := copied_sta hc1 HP.out (by omega) (by omega)
          have c72' : w1.cell? ⟨r, 72, none⟩ = some (.int .u64 (M.length : Int)) := by rw [b1.cell]; exact staw_at (tks_length _ _) (mixd_length (by rw [List.length_take, HP.out]; omega)) _))
      obtain ⟨a2, c2, hcl, hB2, hbk⟩ := hB.cutLow q (by omega)
      have g1 : wr.grownBy w1 (some r) := but_trans (but_drew (but_refl wr r)) hc1.by_
      have f72 := b1.free 72
      have hq0 : (0 : Int) ≤ (q : Int) := by omega
      have hq2 : (q : Int) ≤ 1000000 := by omega
      have hM2 : ((M.length : Nat) : Int) ≤ 1000000 := by omega
      have hxl : (L.take q).length = q := by rw [List.length_take]; omega
      have hmx : (mixd M (L.take q)).length = 64 := mixd_length (by rw [hxl, HP.out]; omega)
      have b2 : Blk (w1.setCell ⟨r, 72, none⟩ (.int .u64 (((M.length : Nat) : Int) + (q : Int)))) r (staw (tks M (M.length / 64)) (mixd M (L.take q)) (M.length + q)) 141 := by
        have := b1.setC 72 (.int .u64 ((M.length + q : Nat) : Int))
        rw [staw_count (tks_length _ _) hmx] at this
        exact this
      have gW := but_trans g1 (but_set w1 r 72 (.int .u64 (((M.length : Nat) : Int) + (q : Int))))
      have HX : Hid ((L.take q).length = q) := hxl
      have HMX : Hid ((mixd M (L.take q)).length = 64) := hmx
      clear hxl hmx
      have hne2 : ∀ x, a2 = some x → x.block ≠ r := fun x hx => by
        obtain ⟨y, hy, e⟩ := hbk x hx
        rw [e]
        exact hne y hy
      by_cases hfull : p + q = 64
      · have hz : (((M.length : Nat) : Int) + (q : Int)) % 64 = 0 := by have := HP.out; omega
        go_wp2_with fail
        obtain ⟨w2, hw2⟩ : ∃ w2, w2 = w1.setCell ⟨r, 72, none⟩ (.int .u64 (((M.length : Nat) : Int) + (q : Int))) := ⟨_, rfl⟩
        rw [← hw2] at b2 gW
        rw [← hw2]
        clear hw2 b1 c72 c72' f72 g1 hc1
        have HT : Hid ((tks M (M.length / 64)).length = 8) := tks_length _ _
        obtain ⟨v0, v1, v2, v3, v4, v5, v6, v7, hv⟩ := ws_len8 HT.out
        obtain ⟨r0, r1, r2, r3, r4, r5, r6, r7, hr⟩ := ws_len8 (tk_length HT.out (mixd M (L.take q)))
        have CT : Hid (∀ w, Kon w → Calls Tryd.prog 77 #[.agg #[.int .u32 (v0.toNat : Int), .int .u32 (v1.toNat : Int), .int .u32 (v2.toNat : Int), .int .u32 (v3.toNat : Int), .int .u32 (v4.toNat : Int), .int .u32 (v5.toNat : Int), .int .u32 (v6.toNat : Int), .int .u32 (v7.toNat : Int)], .agg (cs (mixd M (L.take q))).toArray] w fun e w' => e = .returned (.agg #[.int .u32 (r0.toNat : Int), .int .u32 (r1.toNat : Int), .int .u32 (r2.toNat : Int), .int .u32 (r3.toNat : Int), .int .u32 (r4.toNat : Int), .int .u32 (r5.toNat : Int), .int .u32 (r6.toNat : Int), .int .u32 (r7.toNat : Int)]) ∧ Below w.heap.size w w') := fun w hK => by
          have := oTake w hK _ _ HT.out HMX.out
          rw [hr, hv] at this
          exact this
        have HR : Hid (tk (tks M (M.length / 64)) (mixd M (L.take q)) = [r0, r1, r2, r3, r4, r5, r6, r7]) := hr
        rw [hv] at b2
        clear hr hv
        obtain ⟨q0, q1, q2, q3, q4, q5, q6, q7, p0, p1', p2, p3, p4, p5, p6, p7⟩ := b2.state8
        have hrow : row64 w2 r 8 = some (cs (mixd M (L.take q))).toArray := row64_of (b2.range 8 _ (fun j v hj => staw_range rfl _ j v hj)) (by rw [cs_length, HMX.out])
        have hK2 : Kon w2.drew := hK.but (but_drew (but_trans hby gW)) hr0
        go_region_with (go_at_call 77; refine (CT.out w2.drew hK2).mono ?_; rintro e w3 ⟨rfl, hb3⟩; have b3 := b2.dr.below hb3 b2.lt; obtain ⟨q0', q1', q2', q3', q4', q5', q6', q7', p0', p1'', p2', p3', p4', p5', p6', p7'⟩ := b3.state8)
        all_goals
          have b4 := b3.rest8 (T := [r0, r1, r2, r3, r4, r5, r6, r7]) rfl rfl HMX.out
          have g3 : wr.grownBy (w3.setCells r 0 (ws [r0, r1, r2, r3, r4, r5, r6, r7])) (some r) := but_sets _ (but_trans (but_drew gW) (but_of_below hb3)) 0
          obtain ⟨w4, hw4⟩ : ∃ w4, w3.setCells r 0 (ws [r0, r1, r2, r3, r4, r5, r6, r7]) = w4 := ⟨_, rfl⟩
          have hE : ((((((((w3.setCell ⟨r, 0, none⟩ (.int .u32 (r0.toNat : Int))).setCell ⟨r, 1, none⟩ (.int .u32 (r1.toNat : Int))).setCell ⟨r, 2, none⟩ (.int .u32 (r2.toNat : Int))).setCell ⟨r, 3, none⟩ (.int .u32 (r3.toNat : Int))).setCell ⟨r, 4, none⟩ (.int .u32 (r4.toNat : Int))).setCell ⟨r, 5, none⟩ (.int .u32 (r5.toNat : Int))).setCell ⟨r, 6, none⟩ (.int .u32 (r6.toNat : Int))).setCell ⟨r, 7, none⟩ (.int .u32 (r7.toNat : Int))) = w4 := hw4
          rw [hw4] at b4 g3
          rw [hE]
          clear hE hw4 b3 q0' q1' q2' q3' q4' q5' q6' q7' p0' p1'' p2' p3' p4' p5' p6' p7' q0 q1 q2 q3 q4 q5 q6 q7 p0 p1' p2 p3 p4 p5 p6 p7 hrow
          have th4 : w4.there r 8 64 := b4.there 8 64 (by rw [staw_length rfl HMX.out]; omega)
          go_wp2_with (first
            | (with_reducible refine at_bd 128 ?_; refine bd 128 #[] [] (cs z64).toArray rfl built48 ?_)
            | (with_reducible refine at_st 128 ?_; refine st 128 (.tmp 52) (.tmp 50) 64 size48 r 8 (cs z64) cz64 cs_one th4 rfl rfl ?_))
          simp only [Act.put]
          go_roundw
          case rel =>
            have b5 := b4.sets (cs z64) 8 (by rw [staw_length rfl HMX.out, cz64]; omega)
            rw [staw_rest rfl HMX.out z64_length] at b5
            have g5 := but_sets (cs z64) g3 8
            refine ⟨M ++ L.take q, L.drop q, a2, c2, by rw [List.length_drop], ?_, fun _ => hne2, ?_, ?_, but_trans hby g5⟩
            · rw [List.length_drop]
              exact hB2 _ (hB.but g5 hne)
            · have e := step_full (m := M) (x := L.take q) (by rw [HX.out, HP.out]; omega)
              rw [HX.out, HR.out] at e
              unfold Sta
              rw [← e]
              exact b5
            · rw [List.append_assoc, List.take_append_drop]
              exact HML.out
          case measure => simp [lenV]; omega
      · have hz : ¬ (((M.length : Nat) : Int) + (q : Int)) % 64 = 0 := by have := HP.out; omega
        have hzb : ((((M.length : Nat) : Int) + (q : Int)) % 64 == 0) = false := by simpa using hz
        go_wp2_with fail
        go_roundw
        case rel =>
          refine ⟨M ++ L.take q, L.drop q, a2, c2, by rw [List.length_drop], ?_, fun _ => hne2, ?_, ?_, but_trans hby gW⟩
          · rw [List.length_drop]
            exact hB2 _ (hB.but gW hne)
          · have e := step_part (m := M) (x := L.take q) (by rw [HX.out, HP.out]; omega)
            rw [HX.out] at e
            unfold Sta
            rw [← e]
            exact b2
          · rw [List.append_assoc, List.take_append_drop]
            exact HML.out
        case measure => simp [lenV]; omega

end Go.Proofs.YtjpejheipkfanaaDoor
