/-
  The contracts of the program's From and Bytes: an element of bytes, and its bytes. No condition.
-/
import Derived.Test.YtfgoomlgmepalaaFieldV
import Derived.Test.YtfgoomlgmepalaaArr16
import Derived.Test.YtfgoomlgmepalaaCpM
import Derived.Test.YtfgoomlgmepalaaGetO
import Derived.Test.YtfgoomlgmepalaaPutO
import Derived.Test.YtfgoomlgmepalaaJoinO
import Derived.Test.YtfgoomlgmepalaaBssN
import Derived.Deep.RegionHeld3
namespace Go.Proofs.Ytfgoomlgmepalaa
open Go.RowKit

/-- Sixteen bytes of any: more count for nothing, noughts stand behind fewer. -/
def pad16 (l : List UInt8) : List UInt8 := l.take 16 ++ List.replicate (16 - min l.length 16) 0
theorem pad16_length (l : List UInt8) : (pad16 l).length = 16 := by
  unfold pad16
  rw [List.length_append, List.length_take, List.length_replicate]
  omega
theorem pad16_cs (l : List UInt8) {n : Nat} (hn : l.length = n) : cs (l.take 16) ++ (cs (List.replicate 16 0)).drop (min n 16) = cs (pad16 l) := by
  unfold pad16
  rw [cs_append, hn]
  congr 1
  unfold cs
  rw [← List.map_drop, List.drop_replicate]
theorem pad16_h (l : List UInt8) : getN ((pad16 l).take 8) = hN (feB l) := by
  rw [← feB_pad l (16 - min l.length 16), ← hB_feB (l := (pad16 l).take 8) (m := (pad16 l).drop 8) (by rw [List.length_take, pad16_length]; omega), List.take_append_drop]
  rfl
theorem pad16_l (l : List UInt8) : getN ((pad16 l).drop 8) = lN (feB l) := by
  rw [← feB_pad l (16 - min l.length 16), ← lB_feB (l := (pad16 l).take 8) (m := (pad16 l).drop 8) (by rw [List.length_take, pad16_length]; omega) (by rw [List.length_drop, pad16_length]), List.take_append_drop]
  rfl

/-- The cells of an element. -/
def ec (a : Fe) : List Value := [.int .u64 (hN a : Int), .int .u64 (lN a : Int)]
/-- An element, handed back out of a variable. -/
theorem res_el {fn : Func} {p : Tmp} (h : fn.results = #[.cell p 25]) (tmps : Array Value) (w : World) (g : Nat) (a : Fe)
    (hp : tmps.getD p undef = .pointer (some ⟨g, 0, none⟩)) (hg : Blk w g (ec a) 25) : (results fn tmps).run Try.prog w = .ok (ev a) w :=
  results_cell_row h tmps w g 25 (ec a).toArray (0, 0) _ hp hg Try.underlying25 rfl (by kernel_rfl)

set_option maxHeartbeats 1000000 in
theorem oFrom (w : World) {a : Option Addr} {n c : Nat} {l : List UInt8} (ha : Bs w a n c l) :
    Calls Try.prog 7 #[.slice a n c] w fun e w' => e = .returned (ev (feB l)) ∧ Below w.heap.size w w' := by
  have hall := allK
  have hlo := loK
  have hhi := hiK
  have HX : Hid (getN ((pad16 l).take 8) = hN (feB l)) := pad16_h l
  have HY : Hid (getN ((pad16 l).drop 8) = lN (feB l)) := pad16_l l
  have HP := pad16_length l
  have HE : Hid (_ = cs (pad16 l)) := pad16_cs l ha.len
  obtain ⟨X, hX⟩ : ∃ X, X = pad16 l := ⟨_, rfl⟩
  rw [← hX] at HX HY HP HE
  clear hX
  go_enter Try.func7, Try.ntmps7
  go_upto_region 2 with fail
  obtain ⟨W2, hW2⟩ : ∃ W2, W2 = (w.alloc (.cells #[.int .u64 0, .int .u64 0] 25)).alloc (.cells z16 22) := ⟨_, rfl⟩
  rw [← hW2]
  have b0 : Blk W2 w.heap.size [.int .u64 0, .int .u64 0] 25 := by rw [hW2]; exact (Blk.new w _ _).old _
  have b1 : Blk W2 (w.heap.size + 1) (cs (List.replicate 16 0)) 22 := by rw [hW2]; exact Blk.newAt (w.alloc _) z16 _ _ (by simp) _ rfl
  have hb0 : Below w.heap.size w W2 := by rw [hW2]; exact below2 w _ _
  have ha2 := ha.below hb0 (Nat.le_refl _)
  clear hW2
  go_wp2_with (with_reducible refine at_cp ?_; go_must (refine wpList_cpm W2 rfl (.tmp 4) (.tmp 5) rfl (w.heap.size + 1) 16 16 rfl a n c rfl l ha2 (cs (List.replicate 16 0)) 22 b1 rfl ?_); intro v2 w2 d1 hb2 hoth; have d0 := hoth _ _ _ (by omega) b0; have hbB := hb0.trans (hb2.mono (by omega)); clear hoth; rw [HE.out] at d1)
  have hA : Bs w2 (some ⟨w.heap.size + 1, 0, none⟩) 8 16 (X.take 8) := by
    have h8 : (X.take 8).length = 8 := by rw [List.length_take, HP]; omega
    have := d1.bs 0 16 (X.take 8) (fun j v hj => by rw [Nat.zero_add]; exact cs_sub' hj) (by omega) (by omega)
    rw [h8] at this
    exact this
  have hC : Bs w2 (some ⟨w.heap.size + 1, 8, none⟩) 8 8 (X.drop 8) := by
    have h8 : (X.drop 8).length = 8 := by rw [List.length_drop, HP]
    have := d1.bs 8 8 (X.drop 8) (fun j v hj => by
      have e : X.drop 8 = (X.drop 8).take 8 := by rw [List.take_of_length_le (by omega)]
      rw [e] at hj
      exact cs_sub hj) (by omega) (by omega)
    rw [h8] at this
    exact this
  have c0 := d0.cell 0
  have c1 := d0.cell 1
  have f0 := d0.free 0
  have f1 := d0.free 1
  have D0 : Hid (Blk w2 w.heap.size [.int .u64 0, .int .u64 0] 25) := d0
  have HBB : Hid (Below w.heap.size w w2) := hbB
  generalize X.take 8 = A at *
  generalize X.drop 8 = C at *
  clear d0 hbB hb2 d1 b0 b1 hb0 ha2 HE
  simp only [List.getElem?_cons_zero, List.getElem?_cons_succ] at c0 c1
  go_region_with (first
    | (go_at_call 22; with_reducible refine (oGet w2.drew hA.drew).mono ?_; rintro e w' ⟨rfl, rfl⟩)
    | (go_at_call 22; with_reducible refine (oGet w2.drew hC.drew).mono ?_; rintro e w' ⟨rfl, rfl⟩))
  all_goals
    go_wp2
    have b2 := (D0.out.setC 0 (.int .u64 (getN A : Int))).setC 1 (.int .u64 (getN C : Int))
    rw [HX.out, HY.out] at b2 ⊢
    exact bodyPost_ret (v := ev (feB l)) (res_el Try.results7 _ _ w.heap.size (feB l) rfl b2.dr) rfl ⟨rfl, ((HBB.out.setCell (Nat.le_refl _) _).setCell (Nat.le_refl _) _).drew⟩

/-- Two rows, one behind the other. -/
theorem oJoin2 (w : World) {a1 a2 : Option Addr} {n1 c1 n2 c2 : Nat} {l1 l2 : List UInt8} (h1 : Bs w a1 n1 c1 l1) (h2 : Bs w a2 n2 c2 l2) (hz : n1 + n2 ≤ 99000) :
    Calls Try.prog 24 #[.slice (some ⟨w.heap.size, 0, none⟩) 2 2] (w.alloc (.cells #[.slice a1 n1 c1, .slice a2 n2 c2] 27)) fun e w' =>
      ∃ a m c, e = .returned (.slice a m c) ∧ Own w' w.heap.size (.slice a m c) (l1 ++ l2) ∧ Below w.heap.size w w' := by
  have := oJoin _ (Bss.two h1 h2) (by have := h1.len; have := h2.len; simp [tot]; omega)
  refine this.mono ?_
  rintro e w' ⟨a, m, c, rfl, ho, hb⟩
  rw [show [l1, l2].flatten = l1 ++ l2 from by simp] at ho
  exact ⟨a, m, c, rfl, ho.mono (by simp), (below_alloc _ _).trans (hb.mono (by simp))⟩

set_option maxHeartbeats 1000000 in
theorem oBytesE (w : World) (a : Fe) : Calls Try.prog 14 #[ev a] w (Gives w (byF a)) := by
  have HB : Hid (putL (hN a) 8 ++ putL (lN a) 8 = byF a) := byF_words a
  have hx := hN_lt a
  have hy := lN_lt a
  have CX : Hid (∀ w, Calls Try.prog 25 #[.int .u64 (hN a : Int), .int .i64 8] w (Gives w (putL (hN a) 8))) := fun w => by
    have := oPut (hN a : Int) 8 w (by omega) (by omega) (by omega) (by omega)
    rw [Int.toNat_natCast] at this
    exact this
  have CY : Hid (∀ w, Calls Try.prog 25 #[.int .u64 (lN a : Int), .int .i64 8] w (Gives w (putL (lN a) 8))) := fun w => by
    have := oPut (lN a : Int) 8 w (by omega) (by omega) (by omega) (by omega)
    rw [Int.toNat_natCast] at this
    exact this
  have HLX : Hid ((putL (hN a) 8).length = 8) := putL_length 8 _
  have HLY : Hid ((putL (lN a) 8).length = 8) := putL_length 8 _
  unfold ev
  generalize putL (hN a) 8 = P at *
  generalize putL (lN a) 8 = Q at *
  generalize hN a = x1 at *
  generalize lN a = y1 at *
  go_enter Try.func14, Try.ntmps14
  go_wp2_with fail
  obtain ⟨W, hW⟩ : ∃ W, W = w.alloc (.cells #[.int .u64 (x1 : Int), .int .u64 (y1 : Int)] 25) := ⟨_, rfl⟩
  rw [← hW]
  have d0 : Blk W w.heap.size [.int .u64 (x1 : Int), .int .u64 (y1 : Int)] 25 := by rw [hW]; exact Blk.new w _ _
  have q0 : Below w.heap.size w W := by rw [hW]; exact below_alloc w _
  have k0 := d0.cell 0
  have k1 := d0.cell 1
  simp only [List.getElem?_cons_zero, List.getElem?_cons_succ] at k0 k1
  have hl := d0.lt
  clear hW d0
  go_region_held3 (fun w' => w'.cell? ⟨w.heap.size, 0, none⟩ = some (.int .u64 (x1 : Int)) ∧ w'.cell? ⟨w.heap.size, 1, none⟩ = some (.int .u64 (y1 : Int))) (first | (exact ⟨m0, m1⟩) | (exact ⟨n0, n1⟩) | (exact ⟨l0, l1⟩) | (exact ⟨k0, k1⟩) | (constructor <;> assumption) | go_keep) (first
    | (go_at_call 25; refine (CY.out w1).mono ?_; rintro e w2 ⟨a2, z2, c2, rfl, ho2, hb2⟩; have hl2 : w.heap.size < w1.heap.size := Nat.lt_of_lt_of_le hl hb1.size; have n0 := (hb2.cell (p := ⟨w.heap.size, 0, none⟩) hl2).trans l0; have n1 := (hb2.cell (p := ⟨w.heap.size, 1, none⟩) hl2).trans l1)
    | (go_at_call 25; refine (CX.out W.drew).mono ?_; rintro e w1 ⟨a1, z1, c1, rfl, ho1, hb1⟩; have l0 := (hb1.cell (p := ⟨w.heap.size, 0, none⟩) hl).trans k0; have l1 := (hb1.cell (p := ⟨w.heap.size, 1, none⟩) hl).trans k1)
    | (go_at_call 24; go_must (refine (oJoin2 w2 (ho1.toBs.below hb2 (Nat.le_refl _)) ho2.toBs (by have := ho1.toBs.len; have := ho2.toBs.len; have := HLX.out; have := HLY.out; omega)).mono ?_); rintro e w3 ⟨a3, z3, c3, rfl, ho3, hb3⟩; have hl3 : w.heap.size < w2.heap.size := Nat.lt_of_lt_of_le (Nat.lt_of_lt_of_le hl hb1.size) hb2.size; have m0 := (hb3.cell (p := ⟨w.heap.size, 0, none⟩) hl3).trans n0; have m1 := (hb3.cell (p := ⟨w.heap.size, 1, none⟩) hl3).trans n1))
  have h1 := hb1.size
  go_wp2
  go_ret
  exact Gives.mk (by rw [← HB.out]; exact ho3.mono (Nat.le_of_lt hl3)) ((q0.drew.trans (hb1.mono q0.size)).trans ((hb2.mono (Nat.le_of_lt hl2)).trans (hb3.mono (Nat.le_of_lt hl3))))

end Go.Proofs.Ytfgoomlgmepalaa
