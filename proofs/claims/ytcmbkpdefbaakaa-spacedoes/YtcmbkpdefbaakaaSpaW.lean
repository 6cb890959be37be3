/-
  Layer 15's smoke: works answers true. Conditions: none.
-/
import Derived.Test.YtcmbkpdefbaakaaSpaC
import Derived.Test.YtcmbkpdefbaakaaGrow
import Derived.Test.YtcmbkpdefbaakaaAllocs
namespace Go.Proofs.Ytcmbkpdefbaakaa
open Go.RowKit

theorem oZTakeE (w : World) {s t : Nat} {S : SpS} (h : Sp w s t S) (n : Int) {S' : SpS} {a c : Int} (e : S.take n = (S', a, c)) : Calls Try.prog 12 #[.pointer (some ⟨s, 0, none⟩), .int .i64 n] w fun e w' => e = .returned (.tuple #[.int .i64 a, .int .i64 c]) ∧ Sp w' s t S' ∧ Kp (fun j => j = t) w w' := by
  have := oZTake w h n
  rw [e] at this
  exact this
theorem oZMarkE (w : World) {s t : Nat} {S : SpS} (h : Sp w s t S) (a n : Int) (hn : n ≤ 9223372036854775807) {S' : SpS} {c : Int} (e : S.mark a n = (S', c)) : Calls Try.prog 14 #[.pointer (some ⟨s, 0, none⟩), .int .i64 a, .int .i64 n] w fun e w' => e = .returned (.int .i64 c) ∧ Sp w' s t S' ∧ Kp (fun j => j = t) w w' := by
  have := oZMark w h a n hn
  rw [e] at this
  exact this
theorem oZGiveE (w : World) {s t : Nat} {S : SpS} (h : Sp w s t S) (a n : Int) (hn : n ≤ 9223372036854775807) {S' : SpS} {c : Int} (e : S.give a n = (S', c)) : Calls Try.prog 16 #[.pointer (some ⟨s, 0, none⟩), .int .i64 a, .int .i64 n] w fun e w' => e = .returned (.int .i64 c) ∧ Sp w' s t S' ∧ Kp (fun j => j = t) w w' := by
  have := oZGive w h a n hn
  rw [e] at this
  exact this
theorem oZFreeE (w : World) {s t : Nat} {S : SpS} (h : Sp w s t S) {n : Int} (e : (freeL S.l : Int) = n) : Calls Try.prog 17 #[.pointer (some ⟨s, 0, none⟩)] w fun e w' => e = .returned (.int .i64 n) ∧ Below w.heap.size w w' := by
  rw [← e]
  exact (oZFree w h).mono fun e w' h => ⟨h.1, h.2 ▸ Below.refl _ _⟩
theorem oZTakenE (w : World) {s t : Nat} {S : SpS} (h : Sp w s t S) (k : Int) {b : Bool} (e : S.taken k = b) : Calls Try.prog 19 #[.pointer (some ⟨s, 0, none⟩), .int .i64 k] w fun e w' => e = .returned (.bool b) ∧ Below w.heap.size w w' := by
  rw [← e]
  exact (oZTaken w h k).mono fun e w' h => ⟨h.1, h.2 ▸ Below.refl _ _⟩
theorem oZSizeE (w : World) {s t : Nat} {S : SpS} (h : Sp w s t S) {n : Int} (e : (S.l.length : Int) = n) : Calls Try.prog 18 #[.pointer (some ⟨s, 0, none⟩)] w fun e w' => e = .returned (.int .i64 n) ∧ Below w.heap.size w w' := by
  rw [← e]
  exact (oZSize w h).mono fun e w' h => ⟨h.1, h.2 ▸ Below.refl _ _⟩

def zs0 : SpS := ⟨2, [true, true, false, false, false, false, false, false, false, false]⟩
def zs1 : SpS := ⟨2, [true, true, true, true, true, false, false, false, false, false]⟩
def zs2 : SpS := ⟨2, [true, true, true, true, true, true, true, false, false, false]⟩
def zs3 : SpS := ⟨2, [true, true, true, true, true, true, true, true, true, true]⟩
def zs4 : SpS := ⟨2, [true, true, true, false, true, true, true, true, true, true]⟩
theorem zs_new : SpS.new 10 2 = zs0 := by rfl
theorem zs_t1 : zs0.take 3 = (zs1, 2, 0) := by rfl
theorem zs_m : zs1.mark 5 2 = (zs2, 0) := by rfl
theorem zs_t2 : zs2.take 3 = (zs3, 7, 0) := by rfl
theorem zs_g1 : zs3.give 3 1 = (zs4, 0) := by rfl
theorem zs_g2 : zs4.give 3 1 = (zs4, 9) := by rfl
theorem zs_t3 : zs4.take 4 = (zs4, 0, 7) := by rfl
theorem zs_f : (freeL zs4.l : Int) = 1 := by rfl
theorem zs_k1 : zs4.taken 1 = true := by rfl
theorem zs_k3 : zs4.taken 3 = false := by rfl
theorem zs_k10 : zs4.taken 10 = true := by rfl
theorem zs_sz : (zs4.l.length : Int) = 10 := by rfl

set_option maxRecDepth 100000 in
set_option maxHeartbeats 4000000 in
theorem lWorks15 (w : World) : Calls Try.prog 6 #[] w fun e w' => e = .returned (.bool true) ∧ Below w.heap.size w w' := by
  have CN : Hid (Calls Try.prog 7 #[.int .i64 10, .int .i64 2] w fun e w' => ∃ s t, e = .returned (.tuple #[.pointer (some ⟨s, 0, none⟩), .int .i64 0]) ∧ Sp w' s t zs0 ∧ w.heap.size ≤ s ∧ w.heap.size ≤ t ∧ Below w.heap.size w w') := by
    have := oZNew w 10 2 (by omega) (by omega) (by omega)
    rw [zs_new] at this
    exact this
  go_enter Try.func6, Try.ntmps6
  go_wp2_with fail
  refine CN.out.mono ?_
  rintro e w1 ⟨s, t, rfl, h1, hs, ht, b1⟩
  clear CN
  have Ht : Hid (w.heap.size ≤ t) := ht
  have B1 : Hid (Below w.heap.size w w1) := b1
  have H1 : Hid (Sp w1 s t zs0) := h1
  clear ht hs b1 h1
  go_wp2_with fail
  refine (oZNewNot w1 0 0 (by omega)).mono ?_
  rintro e w' ⟨rfl, rfl⟩

  go_wp2_with fail
  refine (oZTakeE w1 H1.out 3 zs_t1).mono ?_
  rintro e w2 ⟨rfl, h, k⟩
  have H2 : Hid (Sp w2 s t zs1) := h
  have B2 : Hid (Below w.heap.size w w2) := below_kp B1.out k B1.out.size (fun j hj e => by have := Ht.out; omega)
  clear h k H1 B1
  go_wp2_with fail
  refine (oZMarkE w2 H2.out 5 2 (by omega) zs_m).mono ?_
  rintro e w3 ⟨rfl, h, k⟩
  have H3 : Hid (Sp w3 s t zs2) := h
  have B3 : Hid (Below w.heap.size w w3) := below_kp B2.out k B2.out.size (fun j hj e => by have := Ht.out; omega)
  clear h k H2 B2
  go_wp2_with fail
  refine (oZTakeE w3 H3.out 3 zs_t2).mono ?_
  rintro e w4 ⟨rfl, h, k⟩
  have H4 : Hid (Sp w4 s t zs3) := h
  have B4 : Hid (Below w.heap.size w w4) := below_kp B3.out k B3.out.size (fun j hj e => by have := Ht.out; omega)
  clear h k H3 B3
  go_wp2_with fail
  refine (oZGiveE w4 H4.out 3 1 (by omega) zs_g1).mono ?_
  rintro e w5 ⟨rfl, h, k⟩
  have H5 : Hid (Sp w5 s t zs4) := h
  have B5 : Hid (Below w.heap.size w w5) := below_kp B4.out k B4.out.size (fun j hj e => by have := Ht.out; omega)
  clear h k H4 B4
  go_wp2_with fail
  refine (oZGiveE w5 H5.out 3 1 (by omega) zs_g2).mono ?_
  rintro e w6 ⟨rfl, h, k⟩
  have H6 : Hid (Sp w6 s t zs4) := h
  have B6 : Hid (Below w.heap.size w w6) := below_kp B5.out k B5.out.size (fun j hj e => by have := Ht.out; omega)
  clear h k H5 B5
  go_wp2_with fail
  refine (oZTakeE w6 H6.out 4 zs_t3).mono ?_
  rintro e w7 ⟨rfl, h, k⟩
  have H7 : Hid (Sp w7 s t zs4) := h
  have B7 : Hid (Below w.heap.size w w7) := below_kp B6.out k B6.out.size (fun j hj e => by have := Ht.out; omega)
  clear h k H6 B6
  go_wp2_with fail
  refine (oZFree w7 H7.out).mono ?_
  rintro e w' ⟨rfl, rfl⟩
  rw [zs_f]
  go_wp2_with fail
  refine (oZTaken w7 H7.out 1).mono ?_
  rintro e w' ⟨rfl, rfl⟩
  rw [zs_k1]
  go_wp2_with fail
  refine (oZTaken w7 H7.out 3).mono ?_
  rintro e w' ⟨rfl, rfl⟩
  rw [zs_k3]
  go_wp2_with fail
  refine (oZTaken w7 H7.out 10).mono ?_
  rintro e w' ⟨rfl, rfl⟩
  rw [zs_k10]
  go_wp2_with fail
  refine (oZSize w7 H7.out).mono ?_
  rintro e w' ⟨rfl, rfl⟩
  rw [zs_sz]
  go_wp2_with fail
  refine (oZCopy w7 H7.out).mono ?_
  rintro e w8 ⟨s', t', rfl, h8, _, _, k8⟩
  have H8 : Hid (Sp w8 s' t' zs4) := h8
  have B8 : Hid (Below w.heap.size w w8) := B7.out.trans (k8.mono B7.out.size)
  clear h8 k8 H7 B7
  go_wp2_with fail
  refine (oZFree w8 H8.out).mono ?_
  rintro e w' ⟨rfl, rfl⟩
  rw [zs_f]
  go_wp2_with fail
  go_ret
  exact ⟨rfl, B8.out⟩


end Go.Proofs.Ytcmbkpdefbaakaa
