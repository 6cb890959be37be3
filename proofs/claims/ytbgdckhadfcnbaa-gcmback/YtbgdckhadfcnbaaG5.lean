/-
  8 texts in one. No statement of the seat is proved here.
-/
import Derived.Test.YtbgdckhadfcnbaaG4
import Derived.Lib.SlBytesConst
import Derived.Deep.RegionHeld3
import Derived.Deep.DeepCutAuto
import Derived.Deep.MidRow
/-
  The contracts of the program's total and Join: parts, one behind the other. Condition: the parts have at most 100000 bytes in all.
-/
namespace Go.Proofs.Ytbgdckhadfcnbaa
open Go.RowKit

set_option maxHeartbeats 400000 in
theorem oTotal (w : World) {a : Option Addr} {n c : Nat} {ls : List (List UInt8)} (ha : Bss w a n c ls) (hz : tot ls ≤ 100000) :
    Calls Try.prog 47 #[.slice a n c] w fun e w' => e = .returned (.int .i64 (tot ls : Nat)) ∧ w = w' := by
  have h1 := ha.max
  by_cases h0 : n = 0
  · subst h0
    have e : ls = [] := List.length_eq_zero_iff.1 ha.len
    subst e
    clear ha
    go_enter Try.func47, Try.ntmps47
    go_wp2
    refine wp_loop_rounds 1 ?_; rw [rounds_succ]; go_wp2
    go_ret
    exact ⟨rfl, rfl⟩
  · obtain ⟨x, o, rfl, hx, hc⟩ := ha.at (by omega)
    have H : Hid (ls.length = n) := ha.len
    clear ha
    go_enter Try.func47, Try.ntmps47
    go_wp2
    go_loop [3, 8] (fun t i => ∃ k : Nat, k ≤ n ∧ i = .int .i64 k ∧ t = .int .i64 (tot (ls.take k) : Nat)) (fun _ i => n - (intOf i).toNat)
    case atStart => exact ⟨0, Nat.zero_le _, rfl, rfl⟩
    case round =>
      obtain ⟨k, hk, rfl, rfl⟩ := hrel
      by_cases hlt : k < n
      · obtain ⟨p, m, q, c1, hb⟩ := hc k hlt
        have b0 := tot_take_le ls (k + 1)
        have b1 := tot_step (by rw [H.out]; exact hlt) hb.len
        have B1 : Hid ((tot (ls.take k) : Int) + (m : Int) = (tot (ls.take (k + 1)) : Nat)) := b1
        have b2 : (tot (ls.take k) : Int) + (m : Int) ≤ 100000 := by omega
        clear hc b0 b1 hb
        go_wp2
        go_round
        case rel => exact ⟨k + 1, by omega, by go_num, by rw [B1.out]⟩
        case measure => simp [intOf]; omega
      · go_wp2
        go_ret
        exact ⟨ret_int (by rw [List.take_of_length_le (by rw [H.out]; omega)]), rfl⟩

set_option maxHeartbeats 400000 in
theorem oJoin (w : World) {a : Option Addr} {n c : Nat} {ls : List (List UInt8)} (ha : Bss w a n c ls) (hz : tot ls ≤ 100000) :
    Calls Try.prog 26 #[.slice a n c] w (Gives w ls.flatten) := by
  have h1 := ha.max
  have hT := oTotal w ha hz
  by_cases h0 : n = 0
  · subst h0
    have e : ls = [] := List.length_eq_zero_iff.1 ha.len
    subst e
    clear ha
    go_enter Try.func26, Try.ntmps26
    go_wp2_with (first | (go_at_call 47; refine hT.mono ?_; rintro e w' ⟨rfl, rfl⟩) | (at_make; refine wpList_mk0 _ rfl _ _ rfl _ _ rfl rfl (by omega) (by omega) (Nat.le_refl _) ?_; intro v1 w1 hown hbel))
    refine wp_loop_rounds 1 ?_; rw [rounds_succ]; go_wp2
    go_ret
    exact Gives.mk hown hbel
  · obtain ⟨x, o, rfl, hx, hc⟩ := ha.at (by omega)
    have H : Hid (ls.length = n) := ha.len
    clear ha
    go_enter Try.func26, Try.ntmps26
    go_wp2_with (first | (go_at_call 47; refine hT.mono ?_; rintro e w' ⟨rfl, rfl⟩) | (at_make; refine wpList_mk0 _ rfl _ _ rfl _ _ rfl rfl (by omega) (by omega) (Nat.le_refl _) ?_; intro v1 w1 hown hbel))
    clear hT
    go_loopw [3, 11] (fun v i wr => ∃ k : Nat, k ≤ n ∧ i = .int .i64 k ∧ Own wr w.heap.size v (ls.take k).flatten ∧ Below w.heap.size w wr) (fun _ i _ => n - (intOf i).toNat)
    case atStart => exact ⟨0, Nat.zero_le _, rfl, hown, hbel⟩
    case round =>
      obtain ⟨k, hk, rfl, ho, hb⟩ := hrel
      clear hown hbel
      by_cases hlt : k < n
      · obtain ⟨p, m, q, c1, hp⟩ := Bss.part hc hb k hlt
        have hr := flat_room (by rw [H.out]; exact hlt) hz
        have hs := hb.size
        have HS : Hid ((ls.take k).flatten ++ ls.getD k [] = (ls.take (k + 1)).flatten) := flat_step (by rw [H.out]; exact hlt)
        go_wp2_with (at_builtin; refine wpList_app _ rfl _ _ rfl w.heap.size _ _ rfl ho _ _ _ _ rfl (hp.below hb (Nat.le_refl _)) hr hs ?_; intro v2 w2 ho2 hb2)
        go_roundw
        case rel => exact ⟨k + 1, by omega, by go_num, by rw [← HS.out]; exact ho2, hb.trans hb2⟩
        case measure => simp [intOf]; omega
      · go_wp2
        go_ret
        exact Gives.mk (flat_end H hlt ho) hb

end Go.Proofs.Ytbgdckhadfcnbaa

/-
  Slices of one, two and three rows of bytes, made as one; a text's bytes. No condition; no statement of the seat is proved here.
-/
namespace Go.Proofs.Ytbgdckhadfcnbaa
open Go.RowKit

theorem conv2 (w : World) (o : Obj) (C : Array Value) (n c : Nat) : Sem.run Try.prog (convert 22 22 (.slice (some ⟨w.heap.size + 1, 0, none⟩) n c)) ((w.alloc o).alloc (.cells C 5)) = .ok (.slice (some ⟨w.heap.size + 1, 0, none⟩) n c) ((w.alloc o).alloc (.cells C 5 (C.size, C.size + 1))) := by
  have := Lib.run_convert_bytes_const (P := Try.prog) (w.alloc o) 22 5 C n c Try.underlying22 Try.underlying5
  rw [World.size_alloc] at this
  exact this
theorem Bss.two {w : World} {a1 a2 : Option Addr} {n1 c1 n2 c2 : Nat} {l1 l2 : List UInt8} (h1 : Bs w a1 n1 c1 l1) (h2 : Bs w a2 n2 c2 l2) :
    Bss (w.alloc (.cells #[.slice a1 n1 c1, .slice a2 n2 c2] 22)) (some ⟨w.heap.size, 0, none⟩) 2 2 [l1, l2] := by
  refine ⟨rfl, Nat.le_refl _, by unfold maxLen; omega, fun i hi => ?_⟩
  match i, hi with
  | 0, _ => exact ⟨w.heap.size, 0, a1, n1, c1, rfl, by rw [cell_new]; rfl, h1.below (below_alloc _ _) (Nat.le_refl _)⟩
  | 1, _ => exact ⟨w.heap.size, 0, a2, n2, c2, rfl, by rw [cell_new]; rfl, h2.below (below_alloc _ _) (Nat.le_refl _)⟩
theorem Bss.one1 {w : World} {a1 : Option Addr} {n1 c1 : Nat} {l1 : List UInt8} (h1 : Bs w a1 n1 c1 l1) :
    Bss (w.alloc (.cells #[.slice a1 n1 c1] 22)) (some ⟨w.heap.size, 0, none⟩) 1 1 [l1] := by
  refine ⟨rfl, Nat.le_refl _, by unfold maxLen; omega, fun i hi => ?_⟩
  match i, hi with
  | 0, _ => exact ⟨w.heap.size, 0, a1, n1, c1, rfl, by rw [cell_new]; rfl, h1.below (below_alloc _ _) (Nat.le_refl _)⟩
theorem Bss.three {w : World} {a1 a2 a3 : Option Addr} {n1 c1 n2 c2 n3 c3 : Nat} {l1 l2 l3 : List UInt8} (h1 : Bs w a1 n1 c1 l1) (h2 : Bs w a2 n2 c2 l2) (h3 : Bs w a3 n3 c3 l3) :
    Bss (w.alloc (.cells #[.slice a1 n1 c1, .slice a2 n2 c2, .slice a3 n3 c3] 22)) (some ⟨w.heap.size, 0, none⟩) 3 3 [l1, l2, l3] := by
  refine ⟨rfl, Nat.le_refl _, by unfold maxLen; omega, fun i hi => ?_⟩
  match i, hi with
  | 0, _ => exact ⟨w.heap.size, 0, a1, n1, c1, rfl, by rw [cell_new]; rfl, h1.below (below_alloc _ _) (Nat.le_refl _)⟩
  | 1, _ => exact ⟨w.heap.size, 0, a2, n2, c2, rfl, by rw [cell_new]; rfl, h2.below (below_alloc _ _) (Nat.le_refl _)⟩
  | 2, _ => exact ⟨w.heap.size, 0, a3, n3, c3, rfl, by rw [cell_new]; rfl, h3.below (below_alloc _ _) (Nat.le_refl _)⟩

end Go.Proofs.Ytbgdckhadfcnbaa

/-
  The contracts of the program's From and Bytes: an element of bytes, and its bytes. No condition.
-/
namespace Go.Proofs.Ytbgdckhadfcnbaa
open Go.RowKit

/-- Sixteen bytes of any: more count for nothing, noughts stand behind fewer. -/
def pad16 (l : List UInt8) : List UInt8 := l.take 16 ++ List.replicate (16 - min l.length 16) 0
theorem pad16_length (l : List UInt8) : (pad16 l).length = 16 := by
  unfold pad16
  rw [List.length_append, List.length_take, List.length_replicate]
  omega
theorem pad16_cs (l : List UInt8) {n : Nat} (hn : l.length = n) : cs (l.take 16) ++ (cs (List.replicate 16 0)).drop (min n 16) = cs (pad16 l) := by
  unfold pad16
  rw [cs_append, hn]
  congr 1
  unfold cs
  rw [← List.map_drop, List.drop_replicate]
theorem pad16_h (l : List UInt8) : getN ((pad16 l).take 8) = hN (feB l) := by
  rw [← feB_pad l (16 - min l.length 16), ← hB_feB (l := (pad16 l).take 8) (m := (pad16 l).drop 8) (by rw [List.length_take, pad16_length]; omega), List.take_append_drop]
  rfl
theorem pad16_l (l : List UInt8) : getN ((pad16 l).drop 8) = lN (feB l) := by
  rw [← feB_pad l (16 - min l.length 16), ← lB_feB (l := (pad16 l).take 8) (m := (pad16 l).drop 8) (by rw [List.length_take, pad16_length]; omega) (by rw [List.length_drop, pad16_length]), List.take_append_drop]
  rfl

/-- The cells of an element. -/
def ec (a : Fe) : List Value := [.int .u64 (hN a : Int), .int .u64 (lN a : Int)]
/-- An element, handed back out of a variable. -/
theorem res_el {fn : Func} {p : Tmp} (h : fn.results = #[.cell p 59]) (tmps : Array Value) (w : World) (g : Nat) (a : Fe)
    (hp : tmps.getD p undef = .pointer (some ⟨g, 0, none⟩)) (hg : Blk w g (ec a) 59) : (results fn tmps).run Try.prog w = .ok (ev a) w :=
  results_cell_row h tmps w g 59 (ec a).toArray (0, 0) _ hp hg Try.underlying59 rfl (by kernel_rfl)

set_option maxHeartbeats 1000000 in
theorem oFrom (w : World) {a : Option Addr} {n c : Nat} {l : List UInt8} (ha : Bs w a n c l) :
    Calls Try.prog 21 #[.slice a n c] w fun e w' => e = .returned (ev (feB l)) ∧ Below w.heap.size w w' := by
  have hall := allK
  have hlo := loK
  have hhi := hiK
  have HX : Hid (getN ((pad16 l).take 8) = hN (feB l)) := pad16_h l
  have HY : Hid (getN ((pad16 l).drop 8) = lN (feB l)) := pad16_l l
  have HP := pad16_length l
  have HE : Hid (_ = cs (pad16 l)) := pad16_cs l ha.len
  obtain ⟨X, hX⟩ : ∃ X, X = pad16 l := ⟨_, rfl⟩
  rw [← hX] at HX HY HP HE
  clear hX
  go_enter Try.func21, Try.ntmps21
  go_upto_region 2 with fail
  obtain ⟨W2, hW2⟩ : ∃ W2, W2 = (w.alloc (.cells #[.int .u64 0, .int .u64 0] 59)).alloc (.cells z16 48) := ⟨_, rfl⟩
  rw [← hW2]
  have b0 : Blk W2 w.heap.size [.int .u64 0, .int .u64 0] 59 := by rw [hW2]; exact (Blk.new w _ _).old _
  have b1 : Blk W2 (w.heap.size + 1) (cs (List.replicate 16 0)) 48 := by rw [hW2]; exact Blk.newAt (w.alloc _) z16 _ _ (by simp) _ rfl
  have hb0 : Below w.heap.size w W2 := by rw [hW2]; exact below2 w _ _
  have ha2 := ha.below hb0 (Nat.le_refl _)
  clear hW2
  go_wp2_with (with_reducible refine at_cp ?_; go_must (refine wpList_cpm W2 rfl (.tmp 4) (.tmp 5) rfl (w.heap.size + 1) 16 16 rfl a n c rfl l ha2 (cs (List.replicate 16 0)) 48 b1 rfl ?_); intro v2 w2 d1 hb2 hoth; have d0 := hoth _ _ _ (by omega) b0; have hbB := hb0.trans (hb2.mono (by omega)); clear hoth; rw [HE.out] at d1)
  have hA : Bs w2 (some ⟨w.heap.size + 1, 0, none⟩) 8 16 (X.take 8) := by
    have h8 : (X.take 8).length = 8 := by rw [List.length_take, HP]; omega
    have := d1.bs 0 16 (X.take 8) (fun j v hj => by rw [Nat.zero_add]; exact cs_sub' hj) (by omega) (by omega)
    rw [h8] at this
    exact this
  have hC : Bs w2 (some ⟨w.heap.size + 1, 8, none⟩) 8 8 (X.drop 8) := by
    have h8 : (X.drop 8).length = 8 := by rw [List.length_drop, HP]
    have := d1.bs 8 8 (X.drop 8) (fun j v hj => by
      have e : X.drop 8 = (X.drop 8).take 8 := by rw [List.take_of_length_le (by omega)]
      rw [e] at hj
      exact cs_sub hj) (by omega) (by omega)
    rw [h8] at this
    exact this
  have c0 := d0.cell 0
  have c1 := d0.cell 1
  have f0 := d0.free 0
  have f1 := d0.free 1
  have D0 : Hid (Blk w2 w.heap.size [.int .u64 0, .int .u64 0] 59) := d0
  have HBB : Hid (Below w.heap.size w w2) := hbB
  generalize X.take 8 = A at *
  generalize X.drop 8 = C at *
  clear d0 hbB hb2 d1 b0 b1 hb0 ha2 HE
  simp only [List.getElem?_cons_zero, List.getElem?_cons_succ] at c0 c1
  go_region_with (first
    | (go_at_call 42; with_reducible refine (oGet w2.drew hA.drew).mono ?_; rintro e w' ⟨rfl, rfl⟩)
    | (go_at_call 42; with_reducible refine (oGet w2.drew hC.drew).mono ?_; rintro e w' ⟨rfl, rfl⟩))
  all_goals
    go_wp2
    have b2 := (D0.out.setC 0 (.int .u64 (getN A : Int))).setC 1 (.int .u64 (getN C : Int))
    rw [HX.out, HY.out] at b2 ⊢
    exact bodyPost_ret (v := ev (feB l)) (res_el Try.results21 _ _ w.heap.size (feB l) rfl b2.dr) rfl ⟨rfl, ((HBB.out.setCell (Nat.le_refl _) _).setCell (Nat.le_refl _) _).drew⟩

/-- Two rows, one behind the other. -/
theorem oJoin2 (w : World) {a1 a2 : Option Addr} {n1 c1 n2 c2 : Nat} {l1 l2 : List UInt8} (h1 : Bs w a1 n1 c1 l1) (h2 : Bs w a2 n2 c2 l2) (hz : n1 + n2 ≤ 99000) :
    Calls Try.prog 26 #[.slice (some ⟨w.heap.size, 0, none⟩) 2 2] (w.alloc (.cells #[.slice a1 n1 c1, .slice a2 n2 c2] 22)) fun e w' =>
      ∃ a m c, e = .returned (.slice a m c) ∧ Own w' w.heap.size (.slice a m c) (l1 ++ l2) ∧ Below w.heap.size w w' := by
  have := oJoin _ (Bss.two h1 h2) (by have := h1.len; have := h2.len; simp [tot]; omega)
  refine this.mono ?_
  rintro e w' ⟨a, m, c, rfl, ho, hb⟩
  rw [show [l1, l2].flatten = l1 ++ l2 from by simp] at ho
  exact ⟨a, m, c, rfl, ho.mono (by simp), (below_alloc _ _).trans (hb.mono (by simp))⟩

set_option maxHeartbeats 1000000 in
theorem oBytesE (w : World) (a : Fe) : Calls Try.prog 51 #[ev a] w (Gives w (byF a)) := by
  have HB : Hid (putL (hN a) 8 ++ putL (lN a) 8 = byF a) := byF_words a
  have hx := hN_lt a
  have hy := lN_lt a
  have CX : Hid (∀ w, Calls Try.prog 49 #[.int .u64 (hN a : Int), .int .i64 8] w (Gives w (putL (hN a) 8))) := fun w => by
    have := oPut (hN a : Int) 8 w (by omega) (by omega) (by omega) (by omega)
    rw [Int.toNat_natCast] at this
    exact this
  have CY : Hid (∀ w, Calls Try.prog 49 #[.int .u64 (lN a : Int), .int .i64 8] w (Gives w (putL (lN a) 8))) := fun w => by
    have := oPut (lN a : Int) 8 w (by omega) (by omega) (by omega) (by omega)
    rw [Int.toNat_natCast] at this
    exact this
  have HLX : Hid ((putL (hN a) 8).length = 8) := putL_length 8 _
  have HLY : Hid ((putL (lN a) 8).length = 8) := putL_length 8 _
  unfold ev
  generalize putL (hN a) 8 = P at *
  generalize putL (lN a) 8 = Q at *
  generalize hN a = x1 at *
  generalize lN a = y1 at *
  go_enter Try.func51, Try.ntmps51
  go_wp2_with fail
  obtain ⟨W, hW⟩ : ∃ W, W = w.alloc (.cells #[.int .u64 (x1 : Int), .int .u64 (y1 : Int)] 59) := ⟨_, rfl⟩
  rw [← hW]
  have d0 : Blk W w.heap.size [.int .u64 (x1 : Int), .int .u64 (y1 : Int)] 59 := by rw [hW]; exact Blk.new w _ _
  have q0 : Below w.heap.size w W := by rw [hW]; exact below_alloc w _
  have k0 := d0.cell 0
  have k1 := d0.cell 1
  simp only [List.getElem?_cons_zero, List.getElem?_cons_succ] at k0 k1
  have hl := d0.lt
  clear hW d0
  go_region_held3 (fun w' => w'.cell? ⟨w.heap.size, 0, none⟩ = some (.int .u64 (x1 : Int)) ∧ w'.cell? ⟨w.heap.size, 1, none⟩ = some (.int .u64 (y1 : Int))) (first | (exact ⟨m0, m1⟩) | (exact ⟨n0, n1⟩) | (exact ⟨l0, l1⟩) | (exact ⟨k0, k1⟩) | (constructor <;> assumption) | go_keep) (first
    | (go_at_call 49; refine (CY.out w1).mono ?_; rintro e w2 ⟨a2, z2, c2, rfl, ho2, hb2⟩; have hl2 : w.heap.size < w1.heap.size := Nat.lt_of_lt_of_le hl hb1.size; have n0 := (hb2.cell (p := ⟨w.heap.size, 0, none⟩) hl2).trans l0; have n1 := (hb2.cell (p := ⟨w.heap.size, 1, none⟩) hl2).trans l1)
    | (go_at_call 49; refine (CX.out W.drew).mono ?_; rintro e w1 ⟨a1, z1, c1, rfl, ho1, hb1⟩; have l0 := (hb1.cell (p := ⟨w.heap.size, 0, none⟩) hl).trans k0; have l1 := (hb1.cell (p := ⟨w.heap.size, 1, none⟩) hl).trans k1)
    | (go_at_call 26; go_must (refine (oJoin2 w2 (ho1.toBs.below hb2 (Nat.le_refl _)) ho2.toBs (by have := ho1.toBs.len; have := ho2.toBs.len; have := HLX.out; have := HLY.out; omega)).mono ?_); rintro e w3 ⟨a3, z3, c3, rfl, ho3, hb3⟩; have hl3 : w.heap.size < w2.heap.size := Nat.lt_of_lt_of_le (Nat.lt_of_lt_of_le hl hb1.size) hb2.size; have m0 := (hb3.cell (p := ⟨w.heap.size, 0, none⟩) hl3).trans n0; have m1 := (hb3.cell (p := ⟨w.heap.size, 1, none⟩) hl3).trans n1))
  have h1 := hb1.size
  go_wp2
  go_ret
  exact Gives.mk (by rw [← HB.out]; exact ho3.mono (Nat.le_of_lt hl3)) ((q0.drew.trans (hb1.mono q0.size)).trans ((hb2.mono (Nat.le_of_lt hl2)).trans (hb3.mono (Nat.le_of_lt hl3))))

end Go.Proofs.Ytbgdckhadfcnbaa

/-
  Variables of elements in a region that draws its order: made, and written. No condition; no statement of the seat is proved here.
-/
namespace Go.Proofs.Ytbgdckhadfcnbaa
open Go.RowKit

abbrev z2 : Array Value := #[.int .u64 0, .int .u64 0]
theorem makesE {ops : Array Oper} {i : Nat} {d : Tmp} {tp : TypeId} {pos : String} {aft : Array Edge} (hi : ops[i]? = some { dst := some d, op := .alloc 59, type := tp, pos := pos, after := aft, guard := none }) : Makes Try.prog ops i d z2 59 :=
  ⟨_, hi, rfl, rfl, fun ρ w => by unfold execOp; go_simp⟩
theorem storeE {ops : Array Oper} {Q : Exit → Act → World → Prop} (i : Nat) (x y : Operand) {oi : Oper} {K : Act → World → Prop} {a : Act} {w : World} (hi : ops[i]? = some oi) (hd : oi.dst = none) (ho : oi.op = .store 59 x y) (hg : oi.guard = none) (g : Nat) (X : Fe) (vs : List Value) (hl : vs.length = 2) (hb : Blk w g vs 59)
    (hx : a.eval x = .pointer (some ⟨g, 0, none⟩)) (hy : a.eval y = .agg #[.int .u64 (hN X : Int), .int .u64 (lN X : Int)])
    (k : ∀ w', Blk w' g (ec X) 59 → (∀ j us u, j ≠ g → Blk w j us u → Blk w' j us u) → (∀ B a, B ≤ g → Below B a w → Below B a w') → K a w') : wpOp Try.prog ops Q i K a w := by
  obtain ⟨v0, v1, rfl⟩ : ∃ v0 v1, vs = [v0, v1] := by
    match vs, hl with
    | [v0, v1], _ => exact ⟨v0, v1, rfl⟩
  have c0 := hb.cell 0
  have c1 := hb.cell 1
  have f0 := hb.free 0
  have f1 := hb.free 1
  simp only [List.getElem?_cons_zero, List.getElem?_cons_succ] at c0 c1
  have hk := k ((w.setCell ⟨g, 0, none⟩ (.int .u64 (hN X : Int))).setCell ⟨g, 1, none⟩ (.int .u64 (lN X : Int))) ((hb.setC 0 _).setC 1 _) (fun j us u hj b => (b.setO hj _).setO hj _) (fun B a hB h => (h.setCell hB _).setCell hB _)
  have hK : Hid _ := hk
  clear hk k
  unfold wpOp
  simp only [hi]
  rw [if_pos (by simp [Region.wanted, hg])]
  left
  unfold Oper.wp execOp
  simp only [ho, hx, hy]
  go_simp
  exact hK.out
/-- A slice of a whole array of 16 bytes. -/
theorem ans_all {ops : Array Oper} {S : World → Prop} {oi : Oper} {a : Act} (x : Operand) (ho : oi.op = .slice 48 x none none none) (hw : Region.wanted oi (yielded ops a.tmps) = true) (g : Nat) (hx : a.eval x = .pointer (some ⟨g, 0, none⟩)) : Ans Try.prog ops S oi (.slice (some ⟨g, 0, none⟩) 16 16) a := by
  have hall := allK
  refine ans_plain hw fun w _ => ?_
  unfold execOp
  simp only [ho, hx]
  go_simp

/-- An element out of its variable. -/
theorem ans_ld {ops : Array Oper} {S : World → Prop} {oi : Oper} {a : Act} (x : Operand) (ho : oi.op = .load 59 x) (hw : Region.wanted oi (yielded ops a.tmps) = true) (g : Nat) (X : Fe) (hx : a.eval x = .pointer (some ⟨g, 0, none⟩)) (hb : ∀ w, S w → Blk w g (ec X) 59) : Ans Try.prog ops S oi (ev X) a := by
  refine ans_plain hw fun w hS => ?_
  have c0 := (hb w hS).cell 0
  have c1 := (hb w hS).cell 1
  simp only [ec, List.getElem?_cons_zero, List.getElem?_cons_succ] at c0 c1
  unfold execOp ev
  simp only [ho, hx]
  go_simp
theorem ans_eqE {ops : Array Oper} {S : World → Prop} {oi : Oper} {a : Act} (x y : Operand) (ho : oi.op = .binOp .eql 59 x y 59) (hw : Region.wanted oi (yielded ops a.tmps) = true) (X : Fe) (hx : a.eval x = ev X) (hy : a.eval y = ev X) : Ans Try.prog ops S oi (.bool true) a := by
  refine ans_plain hw fun w hS => ?_
  unfold execOp
  simp only [ho, hx, hy]
  unfold ev
  go_simp
end Go.Proofs.Ytbgdckhadfcnbaa

/-
  Rows of a region that draws its order, for layer 6's program: whole arrays of 16 bytes, a literal of two slices, a copy, calls of a function that lies in a variable. No condition; no statement of the seat is proved here.
-/
namespace Go.Proofs.Ytbgdckhadfcnbaa
open Go.RowKit

/-- A load of a whole array of 16 bytes. -/
theorem ans_ld16 {ops : Array Oper} {S : World → Prop} {oi : Oper} {a : Act} (x : Operand) (ho : oi.op = .load 48 x) (hw : Region.wanted oi (yielded ops a.tmps) = true) (g : Nat) (l : List UInt8) (hl : l.length = 16) (hx : a.eval x = .pointer (some ⟨g, 0, none⟩)) (hb : ∀ w, S w → Blk w g (cs l) 48) : Ans Try.prog ops S oi (bv l) a := by
  refine ans_plain hw fun w hS => ?_
  have hr := run_loadAt_mid (P := Try.prog) w g 0 48 (cs l) _ (hb w hS).whole Try.underlying48 rfl (by rw [sizeK, cs_length, hl])
  simp [execOp, ho, hx, hr, Result.andThen, bv]
/-- A store of a whole array of 16 bytes, the one that may come up. -/
theorem opSt16 {ops : Array Oper} {Q : Exit → Act → World → Prop} (i : Nat) (x y : Operand) {oi : Oper} {K : Act → World → Prop} {a : Act} {w : World} (hi : ops[i]? = some oi) (hd : oi.dst = none) (ho : oi.op = .store 48 x y) (hg : oi.guard = none) (g : Nat) (l : List UInt8) (hl : l.length = 16) (vs : List Value) (hv : vs.length = 16) (hb : Blk w g vs 48)
    (hx : a.eval x = .pointer (some ⟨g, 0, none⟩)) (hy : a.eval y = bv l)
    (k : ∀ w', Blk w' g (cs l) 48 → (∀ j us u, j ≠ g → Blk w j us u → Blk w' j us u) → (∀ B a, B ≤ g → Below B a w → Below B a w') → K a w') : wpOp Try.prog ops Q i K a w := by
  have hcl : (cs l).length = 16 := by rw [cs_length, hl]
  have hr := run_storeAt_mid (P := Try.prog) w g 0 48 (cs l).toArray (by rw [List.size_toArray, hcl]; exact hb.there 0 16 (by omega)) (by rw [List.size_toArray, hcl]; exact sizeK) (all_oneCell_toArray cs_one)
  have hk := k (w.setCells g 0 (cs l)) (hb.setsW _ (by omega)) (fun j us u hj b => b.setsO hj _ 0) (fun B a hB h => below_sets hB _ h 0)
  have hK : Hid _ := hk
  clear hk k
  unfold wpOp
  simp only [hi]
  rw [if_pos (by simp [Region.wanted, hg])]
  left
  unfold Oper.wp
  unfold bv at hy
  simp [execOp, ho, hx, hy, hr, Result.andThen]
  simp only [Oper.upon, hd]
  exact hK.out
/-- A literal of two slices, the one that may come up. -/
theorem opBS2 {ops : Array Oper} {Q : Exit → Act → World → Prop} {i : Nat} {oi : Oper} (d : Option Tmp) (hi : ops[i]? = some oi) (hd : oi.dst = d) (hg : oi.guard = none) (x y : Operand) (ho : oi.op = .buildSlice 34 2 #[(0, x), (1, y)]) {K : Act → World → Prop} {a : Act} {w : World} (a1 a2 : Option Addr) (n1 c1 n2 c2 : Nat) (hx : a.eval x = .slice a1 n1 c1) (hy : a.eval y = .slice a2 n2 c2)
    (k : K (a.put d (.slice (some ⟨w.heap.size, 0, none⟩) 2 2)) (w.alloc (.cells #[.slice a1 n1 c1, .slice a2 n2 c2] 22))) : wpOp Try.prog ops Q i K a w := by
  subst hd
  have hK : Hid _ := k
  clear k
  unfold wpOp
  simp only [hi]
  rw [if_pos (by simp [Region.wanted, hg])]
  left
  unfold Oper.wp execOp
  simp only [ho, List.map_toArray, List.map_cons, List.map_nil, hx, hy]
  go_simp
  exact hK.out
/-- A copy of bytes into a block that is known whole, the one that may come up. -/
theorem opCp {ops : Array Oper} {Q : Exit → Act → World → Prop} {i : Nat} {oi : Oper} (dd : Option Tmp) (hi : ops[i]? = some oi) (hdd : oi.dst = dd) (hgd : oi.guard = none) (d s : Operand)
    (ho : oi.op = .call { callee := .builtin .copy, args := #[d, s], argTypes := #[22, 22] }) {K : Act → World → Prop} {a : Act} {w : World} (g off dl dc : Nat) (hd : a.eval d = .slice (some ⟨g, off, none⟩) dl dc)
    (sp : Option Addr) (m c : Nat) (hs : a.eval s = .slice sp m c) (l : List UInt8) (hb : Bs w sp m c l) (vs : List Value) (t : TypeId) (blk : Blk w g vs t) (n : Nat) (hn : n = Nat.min m dl) (hfit : off + n ≤ vs.length) (hpos : 0 < n)
    (h : ∀ w', Copied w w' g off n vs l t → K (a.put dd (.int .i64 (n : Int))) w') : wpOp Try.prog ops Q i K a w := by
  subst hdd
  have hw : Region.wanted oi (yielded ops a.tmps) = true := by simp [Region.wanted, hgd]
  have := step_cp (ops := ops) (Q := Q) (K := K) (E := True) hgd d s ho g off dl dc hd sp m c hs l hb vs t blk n hn hfit hpos h
  rw [if_pos hw] at this
  unfold wpOp
  simp only [hi]
  rw [if_pos hw]
  exact Or.inl this
/-- A call whose answer lies in new memory, of a function that lies in a variable: the one that may come up. -/
theorem callV {ops : Array Oper} {Q : Exit → Act → World → Prop} {md : Region.Mode} {S : World → Prop} (i : Nat) (d : Option Tmp) (f : FuncId) (vs : Array Value) {oi : Oper} {fuel : Nat} {listed : Array Bool} {a : Act} {w : World} (hi : ops[i]? = some oi) (hd : oi.dst = d)
    (hw : Region.wanted oi (yielded ops a.tmps) = true) (hx : ∀ w, (execOp a.eval oi).run Try.prog w = .ok (.enter f vs) w) (hr : Region.ready md ops listed = [i])
    (h : ∀ w', Grows w w' → S w' → Calls Try.prog f vs w' fun e w'' => ∃ v, e = .returned v ∧ S w'' ∧ wpAnyG Try.prog md ops Q S fuel (listed.setIfInBounds i true) (a.put d v) w'') : wpAnyG Try.prog md ops Q S (fuel + 1) listed a w := by
  subst hd
  refine oneG i hr fun w' hg hS => ?_
  unfold wpOp
  simp only [hi]
  rw [if_pos hw]
  left
  unfold Oper.wp
  rw [hx, Oper.upon_enter]
  refine (h w' hg hS).mono ?_
  rintro e w'' ⟨v, rfl, hs, hh⟩
  exact ⟨hs, hh⟩
/-- The same, ahead of a last store. -/
theorem callVE {ops : Array Oper} {Q : Exit → Act → World → Prop} {md : Region.Mode} {S : World → Prop} {x : Nat} (i : Nat) (d : Option Tmp) (f : FuncId) (vs : Array Value) {oi : Oper} {fuel : Nat} {listed : Array Bool} {a : Act} {w : World} (hi : ops[i]? = some oi) (hd : oi.dst = d)
    (hw : Region.wanted oi (yielded ops a.tmps) = true) (hx : ∀ w, (execOp a.eval oi).run Try.prog w = .ok (.enter f vs) w) (hr : Region.ready md ops listed = [i]) (he : listed.getD x true = false)
    (h : ∀ w', Grows w w' → S w' → Calls Try.prog f vs w' fun e w'' => ∃ v, e = .returned v ∧ S w'' ∧ wpAnyE Try.prog md ops Q S x fuel (listed.setIfInBounds i true) (a.put d v) w'') : wpAnyE Try.prog md ops Q S x (fuel + 1) listed a w := by
  subst hd
  refine oneE i hr he fun w' hg hS => ?_
  unfold wpOp
  simp only [hi]
  rw [if_pos hw]
  left
  unfold Oper.wp
  rw [hx, Oper.upon_enter]
  refine (h w' hg hS).mono ?_
  rintro e w'' ⟨v, rfl, hs, hh⟩
  exact ⟨hs, hh⟩
/-- Such a call, one of two in either order. -/
theorem mkCallV {ops : Array Oper} {Q : Exit → Act → World → Prop} {W : World} (i : Nat) (d : Tmp) (f : FuncId) (vs : Array Value) (A : Value → World → Prop) {oi : Oper} {a : Act} (hi : ops[i]? = some oi) (hd : oi.dst = some d) (hw : Region.wanted oi (yielded ops a.tmps) = true) (hx : ∀ w, (execOp a.eval oi).run Try.prog w = .ok (.enter f vs) w)
    (h : ∀ w, Grows W w → Calls Try.prog f vs w fun e w' => ∃ v, e = .returned v ∧ A v w' ∧ Below w.heap.size w w') : Mk Try.prog ops Q (Grows W) i d A a := by
  intro K w hs k
  unfold wpOp
  simp only [hi]
  rw [if_pos hw]
  left
  unfold Oper.wp
  rw [hx, Oper.upon_enter]
  refine (h w hs).mono ?_
  rintro e w'' ⟨v, rfl, hA, hb⟩
  rw [hd]
  exact k v w'' hA hb (Grows.trans hs hb)
/-- A call of a function that lies in a variable. -/
theorem runV {oi : Oper} {a : Act} (x : Operand) (f : FuncId) (args : Array Operand) (tys : Array TypeId) (vs : Array Value) (ho : oi.op = .call { callee := .value x, args := args, argTypes := tys }) (hx : a.eval x = .func (.func f) #[] #[]) (hv : (args.toList.map a.eval).toArray = vs) (hc : ∀ vs w, (callFunc f vs).run Try.prog w = .ok (.enter f vs) w) (w : World) : (execOp a.eval oi).run Try.prog w = .ok (.enter f vs) w := by
  have hv' : args.map a.eval = vs := by rw [← hv]; apply Array.toList_inj.1; rw [Array.toList_map]
  subst hv'
  simp [execOp, ho, resolve, invoke, hx, Deferred.ofValue, hc]
/-- Two rows, one behind the other, whose slices lie in memory. -/
theorem oJoinB (w : World) {a : Option Addr} {c : Nat} {l1 l2 : List UInt8} (h : Bss w a 2 c [l1, l2]) (hz : l1.length + l2.length ≤ 99000) : Calls Try.prog 26 #[.slice a 2 c] w (Gives w (l1 ++ l2)) := by
  have := oJoin w h (by simp [tot]; omega)
  rw [show [l1, l2].flatten = l1 ++ l2 from by simp] at this
  exact this

end Go.Proofs.Ytbgdckhadfcnbaa

/-
  Two rows of bytes, one by one exclusive-ored: plain. No condition; nothing of the program.
-/
namespace Go.Proofs.Ytbgdckhadfcnbaa
open Go.RowKit

def xorL (l m : List UInt8) : List UInt8 := List.zipWith (· ^^^ ·) l m

theorem xor_bt {l m : List UInt8} {k : Nat} (h1 : k < l.length) (h2 : k < m.length) : bits .xor .u8 (bt l k) (bt m k) = ((l[k] ^^^ m[k]).toNat : Int) := by
  rw [bt_of_lt h1, bt_of_lt h2, u8_xor_nat _ _ (UInt8.toNat_lt _) (UInt8.toNat_lt _), UInt8.toNat_xor]
theorem xor_eq {l m : List UInt8} {k : Nat} (h1 : k < l.length) (h2 : k < m.length) : ∃ x : UInt8, bits .xor .u8 (bt l k) (bt m k) = (x.toNat : Int) ∧ xorL (l.take (k + 1)) (m.take (k + 1)) = xorL (l.take k) (m.take k) ++ [x] := by
  refine ⟨l[k] ^^^ m[k], xor_bt h1 h2, ?_⟩
  unfold xorL
  rw [take_snoc h1, take_snoc h2, List.zipWith_append (by simp; omega)]
  rfl

end Go.Proofs.Ytbgdckhadfcnbaa

/-
  The contract of the program's Xor: two rows of bytes, one by one exclusive-ored. Condition: rows of at most 1000000 bytes.
-/
namespace Go.Proofs.Ytbgdckhadfcnbaa
open Go.RowKit

theorem xor_room {l m : List UInt8} {k q : Nat} (h1 : q ≤ l.length) (h2 : q ≤ m.length) (hk : k ≤ q) : (xorL (l.take k) (m.take k) ++ List.replicate (q - k) 0).length = q := by
  unfold xorL
  simp
  omega
theorem xor_step {l m : List UInt8} {k q : Nat} (h1 : q ≤ l.length) (h2 : q ≤ m.length) (hk : k < q) {x : UInt8} (e : xorL (l.take (k + 1)) (m.take (k + 1)) = xorL (l.take k) (m.take k) ++ [x]) :
    (xorL (l.take k) (m.take k) ++ List.replicate (q - k) 0).set k x = xorL (l.take (k + 1)) (m.take (k + 1)) ++ List.replicate (q - (k + 1)) 0 := by
  have hl : (xorL (l.take k) (m.take k)).length = k := by unfold xorL; simp; omega
  rw [e, List.set_append_right _ _ (by omega), hl]
  obtain ⟨d, rfl⟩ : ∃ d, q = k + 1 + d := ⟨q - (k + 1), by omega⟩
  rw [show k + 1 + d - k = d + 1 from by omega, show k + 1 + d - (k + 1) = d from by omega, List.replicate_succ]
  simp
theorem xor_end {l m : List UInt8} {n n' k : Nat} (h1 : l.length = n) (h2 : m.length = n') (hk : k = min n n') : xorL (l.take k) (m.take k) ++ List.replicate (min n n' - k) 0 = xorL l m := by
  subst hk
  subst h1
  subst h2
  unfold xorL
  rw [Nat.sub_self]
  simp only [List.replicate_zero, List.append_nil]
  rw [← List.take_zipWith, List.take_of_length_le (by simp)]

theorem xor_own {w : World} {base r k q : Nat} {v : Value} {A C : List UInt8} (e : A ++ List.replicate (q - k) 0 = C) (hq : q = r) (h : Own w base v (A ++ List.replicate (r - k) 0)) : Own w base v C := by
  subst hq
  rw [← e]
  exact h
theorem xor_nil {w : World} {base n n' r : Nat} {v : Value} {l m : List UInt8} (H : Hid (l.length = n ∧ m.length = n')) (h : min n n' = 0) (hr : r = 0) (ho : Own w base v (List.replicate r 0)) : Own w base v (xorL l m) := by
  have e : xorL l m = [] := by
    unfold xorL
    apply List.length_eq_zero_iff.1
    rw [List.length_zipWith, H.out.1, H.out.2]
    exact h
  subst hr
  rw [e]
  exact ho

set_option maxHeartbeats 400000 in
theorem oXor (w : World) {a b : Option Addr} {n c n' c' : Nat} {l m : List UInt8} (ha : Bs w a n c l) (hb : Bs w b n' c' m) (hz : n ≤ 1000000) (hz' : n' ≤ 1000000) :
    Calls Try.prog 46 #[.slice a n c, .slice b n' c'] w (Gives w (xorL l m)) := by
  by_cases h0 : n = 0 ∨ n' = 0
  · have H : Hid (l.length = n ∧ m.length = n') := ⟨ha.len, hb.len⟩
    clear ha hb
    by_cases hm : n' < n
    · have hmk : min n n' = 0 := by omega
      go_enter Try.func46, Try.ntmps46
      go_wp2_with (at_make; refine wpList_mkn _ rfl _ _ rfl w.heap.size n' _ rfl rfl rfl (by omega) (Nat.le_refl _) ?_; intro g w1 hg hgl hown hbel)
      refine wp_loop_rounds 1 ?_; rw [rounds_succ]; go_wp2
      go_ret
      have e0 : n' = 0 := by omega
      exact Gives.mk (xor_nil H hmk e0 hown) hbel
    · have hmk : min n n' = 0 := by omega
      go_enter Try.func46, Try.ntmps46
      go_wp2_with (at_make; refine wpList_mkn _ rfl _ _ rfl w.heap.size n _ rfl rfl rfl (by omega) (Nat.le_refl _) ?_; intro g w1 hg hgl hown hbel)
      refine wp_loop_rounds 1 ?_; rw [rounds_succ]; go_wp2
      go_ret
      have e0 : n = 0 := by omega
      exact Gives.mk (xor_nil H hmk e0 hown) hbel
  · obtain ⟨x, o, rfl, hx, hc⟩ := ha.at (by omega)
    obtain ⟨y, q, rfl, hy, hd⟩ := hb.at (by omega)
    have H : Hid (l.length = n ∧ m.length = n') := ⟨ha.len, hb.len⟩
    clear ha hb
    by_cases hm : n' < n
    · have hmk : min n n' = n' := by omega
      go_enter Try.func46, Try.ntmps46
      go_wp2_with (at_make; refine wpList_mkn _ rfl _ _ rfl w.heap.size n' _ rfl rfl rfl (by omega) (Nat.le_refl _) ?_; intro g w1 hg hgl hown hbel)
      go_loopw [15] (fun i wr => ∃ k : Nat, k ≤ n' ∧ i = .int .i64 k ∧ Own wr w.heap.size (.slice (some ⟨g, 0, none⟩) n' n') (xorL (l.take k) (m.take k) ++ List.replicate (n' - k) 0) ∧ Below w.heap.size w wr) (fun i _ => n' - (intOf i).toNat)
      case atStart => exact ⟨0, Nat.zero_le _, rfl, by simpa [xorL] using hown, hbel⟩
      case round =>
        obtain ⟨k, hk, rfl, ho, hb⟩ := hrel
        clear hown hbel
        by_cases hlt : k < n'
        · have c1 : wr.cell? ⟨x, o + k, none⟩ = some (.int .u8 (bt l k)) := by rw [hb.cell (p := ⟨x, o + k, none⟩) hx]; exact hc k (by omega)
          have c2 : wr.cell? ⟨y, q + k, none⟩ = some (.int .u8 (bt m k)) := by rw [hb.cell (p := ⟨y, q + k, none⟩) hy]; exact hd k (by omega)
          have hlen := xor_room (l := l) (m := m) (k := k) (q := n') (by rw [H.out.1]; omega) (by rw [H.out.2]; omega) (by omega)
          obtain ⟨v0, c3⟩ := ho.cell hlen k (by omega)
          have hfr := ho.free hlen k
          obtain ⟨z, hz1, hz2⟩ := xor_eq (l := l) (m := m) (k := k) (by rw [H.out.1]; omega) (by rw [H.out.2]; omega)
          have ho2 := ho.set hlen k z
          have hb2 := hb.setCell (p := ⟨g, k, none⟩) hg (.int .u8 (z.toNat : Int))
          rw [xor_step (by rw [H.out.1]; omega) (by rw [H.out.2]; omega) hlt hz2, ← hz1] at ho2
          rw [← hz1] at hb2
          have HO : Hid (Own (wr.setCell ⟨g, k, none⟩ (.int .u8 (bits .xor .u8 (bt l k) (bt m k)))) w.heap.size (.slice (some ⟨g, 0, none⟩) n' n') (xorL (l.take (k + 1)) (m.take (k + 1)) ++ List.replicate (n' - (k + 1)) 0)) := ho2
          have HB : Hid (Below w.heap.size w (wr.setCell ⟨g, k, none⟩ (.int .u8 (bits .xor .u8 (bt l k) (bt m k))))) := hb2
          have k1 : (k : Int) < n := by omega
          have k2 : (k : Int) < n' := by omega
          clear ho2 hb2 hlen ho hb hc hd hz1 hz2
          go_wp2
          go_region
          all_goals go_wp2
          all_goals go_roundw
          case rel => exact ⟨k + 1, by omega, by go_num, HO.out, HB.out.drew⟩
          case measure => simp [intOf]; omega
        · go_wp2
          go_ret
          exact Gives.mk (xor_own (xor_end H.out.1 H.out.2 (by omega)) hmk ho) hb
    · have hmk : min n n' = n := by omega
      go_enter Try.func46, Try.ntmps46
      go_wp2_with (at_make; refine wpList_mkn _ rfl _ _ rfl w.heap.size n _ rfl rfl rfl (by omega) (Nat.le_refl _) ?_; intro g w1 hg hgl hown hbel)
      go_loopw [15] (fun i wr => ∃ k : Nat, k ≤ n ∧ i = .int .i64 k ∧ Own wr w.heap.size (.slice (some ⟨g, 0, none⟩) n n) (xorL (l.take k) (m.take k) ++ List.replicate (n - k) 0) ∧ Below w.heap.size w wr) (fun i _ => n - (intOf i).toNat)
      case atStart => exact ⟨0, Nat.zero_le _, rfl, by simpa [xorL] using hown, hbel⟩
      case round =>
        obtain ⟨k, hk, rfl, ho, hb⟩ := hrel
        clear hown hbel
        by_cases hlt : k < n
        · have c1 : wr.cell? ⟨x, o + k, none⟩ = some (.int .u8 (bt l k)) := by rw [hb.cell (p := ⟨x, o + k, none⟩) hx]; exact hc k (by omega)
          have c2 : wr.cell? ⟨y, q + k, none⟩ = some (.int .u8 (bt m k)) := by rw [hb.cell (p := ⟨y, q + k, none⟩) hy]; exact hd k (by omega)
          have hlen := xor_room (l := l) (m := m) (k := k) (q := n) (by rw [H.out.1]; omega) (by rw [H.out.2]; omega) (by omega)
          obtain ⟨v0, c3⟩ := ho.cell hlen k (by omega)
          have hfr := ho.free hlen k
          obtain ⟨z, hz1, hz2⟩ := xor_eq (l := l) (m := m) (k := k) (by rw [H.out.1]; omega) (by rw [H.out.2]; omega)
          have ho2 := ho.set hlen k z
          have hb2 := hb.setCell (p := ⟨g, k, none⟩) hg (.int .u8 (z.toNat : Int))
          rw [xor_step (by rw [H.out.1]; omega) (by rw [H.out.2]; omega) hlt hz2, ← hz1] at ho2
          rw [← hz1] at hb2
          have HO : Hid (Own (wr.setCell ⟨g, k, none⟩ (.int .u8 (bits .xor .u8 (bt l k) (bt m k)))) w.heap.size (.slice (some ⟨g, 0, none⟩) n n) (xorL (l.take (k + 1)) (m.take (k + 1)) ++ List.replicate (n - (k + 1)) 0)) := ho2
          have HB : Hid (Below w.heap.size w (wr.setCell ⟨g, k, none⟩ (.int .u8 (bits .xor .u8 (bt l k) (bt m k))))) := hb2
          have k1 : (k : Int) < n := by omega
          have k2 : (k : Int) < n' := by omega
          clear ho2 hb2 hlen ho hb hc hd hz1 hz2
          go_wp2
          go_region
          all_goals go_wp2
          all_goals go_roundw
          case rel => exact ⟨k + 1, by omega, by go_num, HO.out, HB.out.drew⟩
          case measure => simp [intOf]; omega
        · go_wp2
          go_ret
          exact Gives.mk (xor_own (xor_end H.out.1 H.out.2 (by omega)) hmk ho) hb


end Go.Proofs.Ytbgdckhadfcnbaa

/-
  Plain mathematics of layer 4: bytes that are doubled, multiplied, inverted, the box by the powers of three and by its definition. No condition; nothing of the program.
-/
namespace Go.Proofs.Ytbgdckhadfcnbaa
open Go.RowKit

/-- A byte times two. -/
def dbl (c : UInt8) : UInt8 := if c >>> 7 = 1 then (c <<< 1) ^^^ 27 else c <<< 1

/-- Two bytes multiplied: what is gathered, and the first one doubled, behind so many bits. -/
def tmsA (a b : UInt8) : Nat → UInt8
  | 0 => 0
  | i + 1 => if (b >>> UInt8.ofNat i) &&& 1 = 1 then tmsA a b i ^^^ (dblN a i) else tmsA a b i
where dblN (a : UInt8) : Nat → UInt8
  | 0 => a
  | i + 1 => dbl (dblN a i)
def tms (a b : UInt8) : UInt8 := tmsA a b 8

/-- The first byte from i on, of so many, that times c is 1; else 0. -/
def srch (c : UInt8) : Nat → Nat → UInt8
  | 0, _ => 0
  | n + 1, i => if tms c (UInt8.ofNat i) = 1 then UInt8.ofNat i else srch c n (i + 1)
def inv (c : UInt8) : UInt8 := srch c 255 1

/-- A bit of the box. -/
def bxbit (x : UInt8) (i : Nat) : UInt8 := x >>> UInt8.ofNat i ^^^ x >>> UInt8.ofNat ((i + 4) % 8) ^^^ x >>> UInt8.ofNat ((i + 5) % 8) ^^^ x >>> UInt8.ofNat ((i + 6) % 8) ^^^ x >>> UInt8.ofNat ((i + 7) % 8) ^^^ 99 >>> UInt8.ofNat i
def bxs (x : UInt8) : Nat → UInt8
  | 0 => 0
  | i + 1 => bxs x i ||| ((bxbit x i &&& 1) <<< UInt8.ofNat i)
/-- The box, by its definition. -/
def box (c : UInt8) : UInt8 := bxs (inv c) 8

/-- The powers of three. -/
def p3 : Nat → UInt8
  | 0 => 1
  | i + 1 => p3 i ^^^ dbl (p3 i)
/-- The inverses, behind so many powers. -/
def p3s : List UInt8 := (List.range 255).map p3
def invS : Nat → List UInt8
  | 0 => List.replicate 256 0
  | i + 1 => (invS i).set (p3s.getD i 0).toNat (p3s.getD ((255 - i) % 255) 0)
def rotl (x : UInt8) (n : Nat) : UInt8 := x <<< UInt8.ofNat n ||| x >>> UInt8.ofNat (8 - n)
def bentS (x : UInt8) : Nat → UInt8
  | 0 => x ^^^ 99
  | i + 1 => bentS x i ^^^ rotl x (i + 1)
def bent (x : UInt8) : UInt8 := bentS x 4

/-- A byte of the tables. -/
def boxT : List UInt8 := (List.range 256).map fun c => box (UInt8.ofNat c)
def twT : List UInt8 := (List.range 256).map fun c => dbl (UInt8.ofNat c)
def tabT : List UInt8 := boxT ++ twT
theorem boxT_length : boxT.length = 256 := by simp [boxT]
theorem twT_length : twT.length = 256 := by simp [twT]
theorem tabT_length : tabT.length = 512 := by simp [tabT, boxT, twT]

theorem tab_box (x : UInt8) : bt tabT x.toNat = ((box x).toNat : Int) := by
  have h := UInt8.toNat_lt x
  unfold bt tabT boxT
  rw [List.getD_eq_getElem?_getD, List.getElem?_append_left (by simp; omega)]
  simp [h]
theorem tab_tw (x : UInt8) : bt tabT (256 + x.toNat) = ((dbl x).toNat : Int) := by
  have h := UInt8.toNat_lt x
  unfold bt tabT
  rw [List.getD_eq_getElem?_getD, List.getElem?_append_right (by rw [boxT_length]; omega), boxT_length, Nat.add_sub_cancel_left]
  unfold twT
  simp [h]
theorem box_at (x : UInt8) : bt boxT x.toNat = ((box x).toNat : Int) := by
  have h := UInt8.toNat_lt x
  unfold bt boxT
  simp [List.getD_eq_getElem?_getD, h]

end Go.Proofs.Ytbgdckhadfcnbaa
