/-
  8 texts in one. No statement of the seat is proved here.
-/
import Derived.Test.YtfknplcnfpincaaGreatG8
import Derived.Lib.SlBytesConst
import Derived.Deep.RegionHeld3
import Derived.Deep.DeepCutAuto
import Derived.Deep.MidRow
/-
  The contract of the program's Get: the number of a row of bytes, the highest first, of the last eight. No condition.
-/
namespace Go.Proofs.YtfknplcnfpincaaGreat
open Go.RowKit

set_option maxHeartbeats 400000 in
theorem oGet (w : World) {a : Option Addr} {n c : Nat} {l : List UInt8} (ha : Bs w a n c l) :
    Calls Tryz.prog 91 #[.slice a n c] w fun e w' => e = .returned (.int .u64 (getN l)) ∧ w = w' := by
  have h1 := ha.max
  by_cases h0 : n = 0
  · subst h0
    have e : l = [] := List.length_eq_zero_iff.1 ha.len
    subst e
    clear ha
    go_enter Tryz.func91, Tryz.ntmps91
    go_wp2
    refine wp_loop_rounds 1 ?_; rw [rounds_succ]; go_wp2
    go_ret
    exact ⟨rfl, rfl⟩
  · obtain ⟨x, o, rfl, hx, hc⟩ := ha.at (by omega)
    have H : Hid (l.length = n) := ha.len
    clear ha
    go_enter Tryz.func91, Tryz.ntmps91
    go_wp2
    go_loop [3, 8] (fun t i => ∃ k : Nat, k ≤ n ∧ i = .int .i64 k ∧ t = .int .u64 (getN (l.take k))) (fun _ i => n - (intOf i).toNat)
    case atStart => exact ⟨0, Nat.zero_le _, rfl, rfl⟩
    case round =>
      obtain ⟨k, hk, rfl, rfl⟩ := hrel
      by_cases hlt : k < n
      · have c1 := hc k hlt
        have b1 := bt_lo l k
        have b2 := bt_hi l k
        clear hc
        go_wp2
        go_round
        case rel => exact ⟨k + 1, by omega, by go_num, by rw [get_step_or (by rw [H.out]; exact hlt)]⟩
        case measure => simp [intOf]; omega
      · go_wp2
        go_ret
        exact ⟨ret_int (get_end H hlt), rfl⟩
end Go.Proofs.YtfknplcnfpincaaGreat

/-
  The contract of the program's Put: the lowest bytes of a number, the highest first, in memory of the call's own. Conditions: the number fits 64 bits; the size is at most 1000000.
-/
namespace Go.Proofs.YtfknplcnfpincaaGreat
open Go.RowKit

theorem put_start {n m : Nat} {w : World} {base : Nat} {L : List UInt8} (e : L = putL n m) {v : Value} (h : Own w base v L) : Own w base v (putL n m) := by rw [← e]; exact h

/-- One byte more, from behind. -/
theorem put_more {n m t q : Nat} (ht : t < m) (hq : q = n / 256 ^ t) : (List.replicate (m - t) 0 ++ putL n t).set (m - 1 - t) (UInt8.ofNat q) = List.replicate (m - (t + 1)) 0 ++ putL n (t + 1) := by
  rw [putL_cons, hq]
  obtain ⟨d, rfl⟩ : ∃ d, m = d + 1 + t := ⟨m - 1 - t, by omega⟩
  rw [show d + 1 + t - t = d + 1 from by omega, show d + 1 + t - 1 - t = d from by omega, show d + 1 + t - (t + 1) = d from by omega, List.replicate_succ', List.append_assoc]
  rw [List.set_append_right _ _ (by simp)]
  simp

theorem put_div {n t q : Nat} (H : Hid (q = n / 256 ^ t)) : (q : Int) / 256 = ((n / 256 ^ (t + 1) : Nat) : Int) := by
  rw [H.out, Nat.pow_succ, ← Nat.div_div_eq_div_mul]
  omega
theorem put_done {n m t : Nat} (ht : t ≤ m) (H : Hid (0 = n / 256 ^ t)) : List.replicate (m - t) 0 ++ putL n t = putL n m := by
  rw [putL_rest t (m - t) n H.out.symm, show m - t + t = m from by omega]
theorem put_full {n m t : Nat} (ht : t ≤ m) (h : ¬ t < m) : List.replicate (m - t) 0 ++ putL n t = putL n m := by
  have : t = m := by omega
  subst this
  simp

set_option maxHeartbeats 400000 in
theorem oPut (n s : Int) (w : World) (hs : s ≤ 1000000) (hn0 : 0 ≤ n) (hn : n ≤ 18446744073709551615) (hlo : -9223372036854775808 ≤ s) :
    Calls Tryz.prog 41 #[.int .u64 n, .int .i64 s] w (Gives w (putL n.toNat s.toNat)) := by
  by_cases h1 : s < 1
  · have e : s.toNat = 0 := by omega
    rw [e]
    clear e
    go_enter Tryz.func41, Tryz.ntmps41
    go_wp2
    go_ret
    exact Gives.mk (Own.nil _ _) (Below.refl _ _)
  · obtain ⟨m, rfl⟩ : ∃ m : Nat, s = m := ⟨s.toNat, by omega⟩
    obtain ⟨n, rfl⟩ : ∃ q : Nat, n = q := ⟨n.toNat, by omega⟩
    rw [Int.toNat_natCast, Int.toNat_natCast]
    have h2 : ¬ (2147483647 : Int) < m := by omega
    go_enter Tryz.func41, Tryz.ntmps41
    go_wp2_with (at_make; refine wpList_mkn _ rfl _ _ rfl w.heap.size m _ rfl rfl rfl (by omega) (Nat.le_refl _) ?_; intro g w1 hg hgl hown hbel)
    go_loopw [0, 6] (fun q i wr => ∃ t : Nat, t ≤ m ∧ i = .int .i64 ((m : Int) - 1 - t) ∧ q = .int .u64 ((n / 256 ^ t : Nat) : Int) ∧ Own wr w.heap.size (.slice (some ⟨g, 0, none⟩) m m) (List.replicate (m - t) 0 ++ putL n t) ∧ Below w.heap.size w wr) (fun _ i _ => (intOf i + 1).toNat)
    case atStart => exact ⟨0, Nat.zero_le _, by simp, by simp, by simpa [putL] using hown, hbel⟩
    case round =>
      obtain ⟨t, ht, rfl, rfl, ho, hb⟩ := hrel
      clear hown hbel
      have ex : ∃ q, q = n / 256 ^ t := ⟨_, rfl⟩
      obtain ⟨q, hq⟩ := ex
      rw [← hq]
      have Hq : Hid (q = n / 256 ^ t) := hq
      have hqm : q ≤ 18446744073709551615 := by rw [hq]; exact Nat.le_trans (Nat.div_le_self _ _) (by omega)
      clear hq
      by_cases hc : t < m ∧ 0 < q
      · obtain ⟨h3, h4⟩ := hc
        have i1 : (m : Int) - 1 - t = ((m - 1 - t : Nat) : Int) := by omega
        rw [i1]
        have hlen : (List.replicate (m - t) (0 : UInt8) ++ putL n t).length = m := by rw [List.length_append, putL_length, List.length_replicate]; omega
        obtain ⟨v0, hcell⟩ := ho.cell hlen (m - 1 - t) (by omega)
        have hfr := ho.free hlen (m - 1 - t)
        have ho2 := ho.set hlen (m - 1 - t) (UInt8.ofNat q)
        have hb2 := hb.setCell (p := ⟨g, m - 1 - t, none⟩) hg (.int .u8 ((UInt8.ofNat q).toNat : Int))
        rw [put_more h3 Hq.out] at ho2
        have hu : (((UInt8.ofNat q).toNat : Nat) : Int) = (q : Int) % 256 := by rw [UInt8.toNat_ofNat']; omega
        rw [hu] at ho2 hb2
        have HO : Hid (Own (wr.setCell ⟨g, m - 1 - t, none⟩ (.int .u8 ((q : Int) % 256))) w.heap.size (.slice (some ⟨g, 0, none⟩) m m) (List.replicate (m - (t + 1)) 0 ++ putL n (t + 1))) := ho2
        have HB : Hid (Below w.heap.size w (wr.setCell ⟨g, m - 1 - t, none⟩ (.int .u8 ((q : Int) % 256)))) := hb2
        have h5 : (0 : Int) < q := by omega
        have h6 : (0 : Int) ≤ ((m - 1 - t : Nat) : Int) := by omega
        have h7 : ((m - 1 - t : Nat) : Int) < m := by omega
        clear ho2 hb2 hu hlen ho hb
        go_wp2
        go_roundw
        case rel => exact ⟨t + 1, by omega, by rw [show ((m - 1 - t : Nat) : Int) - 1 = (m : Int) - 1 - ((t + 1 : Nat) : Int) from by omega], by rw [put_div Hq], HO.out, HB.out⟩
        case measure => simp [intOf]
      · by_cases h3 : t < m
        · have h4 : q = 0 := by omega
          subst h4
          have h6 : (0 : Int) ≤ (m : Int) - 1 - t := by omega
          go_wp2
          go_ret
          exact Gives.mk (put_start (put_done ht Hq) ho) hb
        · go_wp2
          go_ret
          exact Gives.mk (put_start (put_full ht h3) ho) hb
end Go.Proofs.YtfknplcnfpincaaGreat

/-
  The contracts of the program's total and Join: parts, one behind the other. Condition: the parts have at most 100000 bytes in all.
-/
namespace Go.Proofs.YtfknplcnfpincaaGreat
open Go.RowKit

set_option maxHeartbeats 400000 in
theorem oTotal (w : World) {a : Option Addr} {n c : Nat} {ls : List (List UInt8)} (ha : Bss w a n c ls) (hz : tot ls ≤ 100000) :
    Calls Tryz.prog 59 #[.slice a n c] w fun e w' => e = .returned (.int .i64 (tot ls : Nat)) ∧ w = w' := by
  have h1 := ha.max
  by_cases h0 : n = 0
  · subst h0
    have e : ls = [] := List.length_eq_zero_iff.1 ha.len
    subst e
    clear ha
    go_enter Tryz.func59, Tryz.ntmps59
    go_wp2
    refine wp_loop_rounds 1 ?_; rw [rounds_succ]; go_wp2
    go_ret
    exact ⟨rfl, rfl⟩
  · obtain ⟨x, o, rfl, hx, hc⟩ := ha.at (by omega)
    have H : Hid (ls.length = n) := ha.len
    clear ha
    go_enter Tryz.func59, Tryz.ntmps59
    go_wp2
    go_loop [3, 8] (fun t i => ∃ k : Nat, k ≤ n ∧ i = .int .i64 k ∧ t = .int .i64 (tot (ls.take k) : Nat)) (fun _ i => n - (intOf i).toNat)
    case atStart => exact ⟨0, Nat.zero_le _, rfl, rfl⟩
    case round =>
      obtain ⟨k, hk, rfl, rfl⟩ := hrel
      by_cases hlt : k < n
      · obtain ⟨p, m, q, c1, hb⟩ := hc k hlt
        have b0 := tot_take_le ls (k + 1)
        have b1 := tot_step (by rw [H.out]; exact hlt) hb.len
        have B1 : Hid ((tot (ls.take k) : Int) + (m : Int) = (tot (ls.take (k + 1)) : Nat)) := b1
        have b2 : (tot (ls.take k) : Int) + (m : Int) ≤ 100000 := by omega
        clear hc b0 b1 hb
        go_wp2
        go_round
        case rel => exact ⟨k + 1, by omega, by go_num, by rw [B1.out]⟩
        case measure => simp [intOf]; omega
      · go_wp2
        go_ret
        exact ⟨ret_int (by rw [List.take_of_length_le (by rw [H.out]; omega)]), rfl⟩

set_option maxHeartbeats 400000 in
theorem oJoin (w : World) {a : Option Addr} {n c : Nat} {ls : List (List UInt8)} (ha : Bss w a n c ls) (hz : tot ls ≤ 100000) :
    Calls Tryz.prog 58 #[.slice a n c] w (Gives w ls.flatten) := by
  have h1 := ha.max
  have hT := oTotal w ha hz
  by_cases h0 : n = 0
  · subst h0
    have e : ls = [] := List.length_eq_zero_iff.1 ha.len
    subst e
    clear ha
    go_enter Tryz.func58, Tryz.ntmps58
    go_wp2_with (first | (go_at_call 59; refine hT.mono ?_; rintro e w' ⟨rfl, rfl⟩) | (at_make; refine wpList_mk0 _ rfl _ _ rfl _ _ rfl rfl (by omega) (by omega) (Nat.le_refl _) ?_; intro v1 w1 hown hbel))
    refine wp_loop_rounds 1 ?_; rw [rounds_succ]; go_wp2
    go_ret
    exact Gives.mk hown hbel
  · obtain ⟨x, o, rfl, hx, hc⟩ := ha.at (by omega)
    have H : Hid (ls.length = n) := ha.len
    clear ha
    go_enter Tryz.func58, Tryz.ntmps58
    go_wp2_with (first | (go_at_call 59; refine hT.mono ?_; rintro e w' ⟨rfl, rfl⟩) | (at_make; refine wpList_mk0 _ rfl _ _ rfl _ _ rfl rfl (by omega) (by omega) (Nat.le_refl _) ?_; intro v1 w1 hown hbel))
    clear hT
    go_loopw [3, 11] (fun v i wr => ∃ k : Nat, k ≤ n ∧ i = .int .i64 k ∧ Own wr w.heap.size v (ls.take k).flatten ∧ Below w.heap.size w wr) (fun _ i _ => n - (intOf i).toNat)
    case atStart => exact ⟨0, Nat.zero_le _, rfl, hown, hbel⟩
    case round =>
      obtain ⟨k, hk, rfl, ho, hb⟩ := hrel
      clear hown hbel
      by_cases hlt : k < n
      · obtain ⟨p, m, q, c1, hp⟩ := Bss.part hc hb k hlt
        have hr := flat_room (by rw [H.out]; exact hlt) hz
        have hs := hb.size
        have HS : Hid ((ls.take k).flatten ++ ls.getD k [] = (ls.take (k + 1)).flatten) := flat_step (by rw [H.out]; exact hlt)
        go_wp2_with (at_builtin; refine wpList_app _ rfl _ _ rfl w.heap.size _ _ rfl ho _ _ _ _ rfl (hp.below hb (Nat.le_refl _)) hr hs ?_; intro v2 w2 ho2 hb2)
        go_roundw
        case rel => exact ⟨k + 1, by omega, by go_num, by rw [← HS.out]; exact ho2, hb.trans hb2⟩
        case measure => simp [intOf]; omega
      · go_wp2
        go_ret
        exact Gives.mk (flat_end H hlt ho) hb

end Go.Proofs.YtfknplcnfpincaaGreat

/-
  Slices of one, two and three rows of bytes, made as one; a text's bytes. No condition; no statement of the seat is proved here.
-/
namespace Go.Proofs.YtfknplcnfpincaaGreat
open Go.RowKit

theorem conv2 (w : World) (o : Obj) (C : Array Value) (n c : Nat) : Sem.run Tryz.prog (convert 22 22 (.slice (some ⟨w.heap.size + 1, 0, none⟩) n c)) ((w.alloc o).alloc (.cells C 5)) = .ok (.slice (some ⟨w.heap.size + 1, 0, none⟩) n c) ((w.alloc o).alloc (.cells C 5 (C.size, C.size + 1))) := by
  have := Lib.run_convert_bytes_const (P := Tryz.prog) (w.alloc o) 22 5 C n c Tryz.underlying22 Tryz.underlying5
  rw [World.size_alloc] at this
  exact this
theorem Bss.two {w : World} {a1 a2 : Option Addr} {n1 c1 n2 c2 : Nat} {l1 l2 : List UInt8} (h1 : Bs w a1 n1 c1 l1) (h2 : Bs w a2 n2 c2 l2) :
    Bss (w.alloc (.cells #[.slice a1 n1 c1, .slice a2 n2 c2] 22)) (some ⟨w.heap.size, 0, none⟩) 2 2 [l1, l2] := by
  refine ⟨rfl, Nat.le_refl _, by unfold maxLen; omega, fun i hi => ?_⟩
  match i, hi with
  | 0, _ => exact ⟨w.heap.size, 0, a1, n1, c1, rfl, by rw [cell_new]; rfl, h1.below (below_alloc _ _) (Nat.le_refl _)⟩
  | 1, _ => exact ⟨w.heap.size, 0, a2, n2, c2, rfl, by rw [cell_new]; rfl, h2.below (below_alloc _ _) (Nat.le_refl _)⟩
theorem Bss.one1 {w : World} {a1 : Option Addr} {n1 c1 : Nat} {l1 : List UInt8} (h1 : Bs w a1 n1 c1 l1) :
    Bss (w.alloc (.cells #[.slice a1 n1 c1] 22)) (some ⟨w.heap.size, 0, none⟩) 1 1 [l1] := by
  refine ⟨rfl, Nat.le_refl _, by unfold maxLen; omega, fun i hi => ?_⟩
  match i, hi with
  | 0, _ => exact ⟨w.heap.size, 0, a1, n1, c1, rfl, by rw [cell_new]; rfl, h1.below (below_alloc _ _) (Nat.le_refl _)⟩
theorem Bss.three {w : World} {a1 a2 a3 : Option Addr} {n1 c1 n2 c2 n3 c3 : Nat} {l1 l2 l3 : List UInt8} (h1 : Bs w a1 n1 c1 l1) (h2 : Bs w a2 n2 c2 l2) (h3 : Bs w a3 n3 c3 l3) :
    Bss (w.alloc (.cells #[.slice a1 n1 c1, .slice a2 n2 c2, .slice a3 n3 c3] 22)) (some ⟨w.heap.size, 0, none⟩) 3 3 [l1, l2, l3] := by
  refine ⟨rfl, Nat.le_refl _, by unfold maxLen; omega, fun i hi => ?_⟩
  match i, hi with
  | 0, _ => exact ⟨w.heap.size, 0, a1, n1, c1, rfl, by rw [cell_new]; rfl, h1.below (below_alloc _ _) (Nat.le_refl _)⟩
  | 1, _ => exact ⟨w.heap.size, 0, a2, n2, c2, rfl, by rw [cell_new]; rfl, h2.below (below_alloc _ _) (Nat.le_refl _)⟩
  | 2, _ => exact ⟨w.heap.size, 0, a3, n3, c3, rfl, by rw [cell_new]; rfl, h3.below (below_alloc _ _) (Nat.le_refl _)⟩

end Go.Proofs.YtfknplcnfpincaaGreat

/-
  The contracts of the program's From and Bytes: an element of bytes, and its bytes. No condition.
-/
namespace Go.Proofs.YtfknplcnfpincaaGreat
open Go.RowKit

/-- Sixteen bytes of any: more count for nothing, noughts stand behind fewer. -/
def pad16 (l : List UInt8) : List UInt8 := l.take 16 ++ List.replicate (16 - min l.length 16) 0
theorem pad16_length (l : List UInt8) : (pad16 l).length = 16 := by
  unfold pad16
  rw [List.length_append, List.length_take, List.length_replicate]
  omega
theorem pad16_cs (l : List UInt8) {n : Nat} (hn : l.length = n) : cs (l.take 16) ++ (cs (List.replicate 16 0)).drop (min n 16) = cs (pad16 l) := by
  unfold pad16
  rw [cs_append, hn]
  congr 1
  unfold cs
  rw [← List.map_drop, List.drop_replicate]
theorem pad16_h (l : List UInt8) : getN ((pad16 l).take 8) = hN (feB l) := by
  rw [← feB_pad l (16 - min l.length 16), ← hB_feB (l := (pad16 l).take 8) (m := (pad16 l).drop 8) (by rw [List.length_take, pad16_length]; omega), List.take_append_drop]
  rfl
theorem pad16_l (l : List UInt8) : getN ((pad16 l).drop 8) = lN (feB l) := by
  rw [← feB_pad l (16 - min l.length 16), ← lB_feB (l := (pad16 l).take 8) (m := (pad16 l).drop 8) (by rw [List.length_take, pad16_length]; omega) (by rw [List.length_drop, pad16_length]), List.take_append_drop]
  rfl

/-- The cells of an element. -/
def ec (a : Fe) : List Value := [.int .u64 (hN a : Int), .int .u64 (lN a : Int)]
/-- An element, handed back out of a variable. -/
theorem res_el {fn : Func} {p : Tmp} (h : fn.results = #[.cell p 126]) (tmps : Array Value) (w : World) (g : Nat) (a : Fe)
    (hp : tmps.getD p undef = .pointer (some ⟨g, 0, none⟩)) (hg : Blk w g (ec a) 126) : (results fn tmps).run Tryz.prog w = .ok (ev a) w :=
  results_cell_row h tmps w g 126 (ec a).toArray (0, 0) _ hp hg Tryz.underlying126 rfl (by kernel_rfl)

set_option maxHeartbeats 1000000 in
theorem oFrom (w : World) {a : Option Addr} {n c : Nat} {l : List UInt8} (ha : Bs w a n c l) :
    Calls Tryz.prog 70 #[.slice a n c] w fun e w' => e = .returned (ev (feB l)) ∧ Below w.heap.size w w' := by
  have hall := allK
  have hlo := loK
  have hhi := hiK
  have HX : Hid (getN ((pad16 l).take 8) = hN (feB l)) := pad16_h l
  have HY : Hid (getN ((pad16 l).drop 8) = lN (feB l)) := pad16_l l
  have HP := pad16_length l
  have HE : Hid (_ = cs (pad16 l)) := pad16_cs l ha.len
  obtain ⟨X, hX⟩ : ∃ X, X = pad16 l := ⟨_, rfl⟩
  rw [← hX] at HX HY HP HE
  clear hX
  go_enter Tryz.func70, Tryz.ntmps70
  go_upto_region 2 with fail
  obtain ⟨W2, hW2⟩ : ∃ W2, W2 = (w.alloc (.cells #[.int .u64 0, .int .u64 0] 126)).alloc (.cells z16 119) := ⟨_, rfl⟩
  rw [← hW2]
  have b0 : Blk W2 w.heap.size [.int .u64 0, .int .u64 0] 126 := by rw [hW2]; exact (Blk.new w _ _).old _
  have b1 : Blk W2 (w.heap.size + 1) (cs (List.replicate 16 0)) 119 := by rw [hW2]; exact Blk.newAt (w.alloc _) z16 _ _ (by simp) _ rfl
  have hb0 : Below w.heap.size w W2 := by rw [hW2]; exact below2 w _ _
  have ha2 := ha.below hb0 (Nat.le_refl _)
  clear hW2
  go_wp2_with (with_reducible refine at_cp ?_; go_must (refine wpList_cpm W2 rfl (.tmp 4) (.tmp 5) rfl (w.heap.size + 1) 16 16 rfl a n c rfl l ha2 (cs (List.replicate 16 0)) 119 b1 rfl ?_); intro v2 w2 d1 hb2 hoth; have d0 := hoth _ _ _ (by omega) b0; have hbB := hb0.trans (hb2.mono (by omega)); clear hoth; rw [HE.out] at d1)
  have hA : Bs w2 (some ⟨w.heap.size + 1, 0, none⟩) 8 16 (X.take 8) := by
    have h8 : (X.take 8).length = 8 := by rw [List.length_take, HP]; omega
    have := d1.bs 0 16 (X.take 8) (fun j v hj => by rw [Nat.zero_add]; exact cs_sub' hj) (by omega) (by omega)
    rw [h8] at this
    exact this
  have hC : Bs w2 (some ⟨w.heap.size + 1, 8, none⟩) 8 8 (X.drop 8) := by
    have h8 : (X.drop 8).length = 8 := by rw [List.length_drop, HP]
    have := d1.bs 8 8 (X.drop 8) (fun j v hj => by
      have e : X.drop 8 = (X.drop 8).take 8 := by rw [List.take_of_length_le (by omega)]
      rw [e] at hj
      exact cs_sub hj) (by omega) (by omega)
    rw [h8] at this
    exact this
  have c0 := d0.cell 0
  have c1 := d0.cell 1
  have f0 := d0.free 0
  have f1 := d0.free 1
  have D0 : Hid (Blk w2 w.heap.size [.int .u64 0, .int .u64 0] 126) := d0
  have HBB : Hid (Below w.heap.size w w2) := hbB
  generalize X.take 8 = A at *
  generalize X.drop 8 = C at *
  clear d0 hbB hb2 d1 b0 b1 hb0 ha2 HE
  simp only [List.getElem?_cons_zero, List.getElem?_cons_succ] at c0 c1
  go_region_with (first
    | (go_at_call 91; with_reducible refine (oGet w2.drew hA.drew).mono ?_; rintro e w' ⟨rfl, rfl⟩)
    | (go_at_call 91; with_reducible refine (oGet w2.drew hC.drew).mono ?_; rintro e w' ⟨rfl, rfl⟩))
  all_goals
    go_wp2
    have b2 := (D0.out.setC 0 (.int .u64 (getN A : Int))).setC 1 (.int .u64 (getN C : Int))
    rw [HX.out, HY.out] at b2 ⊢
    exact bodyPost_ret (v := ev (feB l)) (res_el Tryz.results70 _ _ w.heap.size (feB l) rfl b2.dr) rfl ⟨rfl, ((HBB.out.setCell (Nat.le_refl _) _).setCell (Nat.le_refl _) _).drew⟩

/-- Two rows, one behind the other. -/
theorem oJoin2 (w : World) {a1 a2 : Option Addr} {n1 c1 n2 c2 : Nat} {l1 l2 : List UInt8} (h1 : Bs w a1 n1 c1 l1) (h2 : Bs w a2 n2 c2 l2) (hz : n1 + n2 ≤ 99000) :
    Calls Tryz.prog 58 #[.slice (some ⟨w.heap.size, 0, none⟩) 2 2] (w.alloc (.cells #[.slice a1 n1 c1, .slice a2 n2 c2] 22)) fun e w' =>
      ∃ a m c, e = .returned (.slice a m c) ∧ Own w' w.heap.size (.slice a m c) (l1 ++ l2) ∧ Below w.heap.size w w' := by
  have := oJoin _ (Bss.two h1 h2) (by have := h1.len; have := h2.len; simp [tot]; omega)
  refine this.mono ?_
  rintro e w' ⟨a, m, c, rfl, ho, hb⟩
  rw [show [l1, l2].flatten = l1 ++ l2 from by simp] at ho
  exact ⟨a, m, c, rfl, ho.mono (by simp), (below_alloc _ _).trans (hb.mono (by simp))⟩

set_option maxHeartbeats 1000000 in
theorem oBytesE (w : World) (a : Fe) : Calls Tryz.prog 96 #[ev a] w (Gives w (byF a)) := by
  have HB : Hid (putL (hN a) 8 ++ putL (lN a) 8 = byF a) := byF_words a
  have hx := hN_lt a
  have hy := lN_lt a
  have CX : Hid (∀ w, Calls Tryz.prog 41 #[.int .u64 (hN a : Int), .int .i64 8] w (Gives w (putL (hN a) 8))) := fun w => by
    have := oPut (hN a : Int) 8 w (by omega) (by omega) (by omega) (by omega)
    rw [Int.toNat_natCast] at this
    exact this
  have CY : Hid (∀ w, Calls Tryz.prog 41 #[.int .u64 (lN a : Int), .int .i64 8] w (Gives w (putL (lN a) 8))) := fun w => by
    have := oPut (lN a : Int) 8 w (by omega) (by omega) (by omega) (by omega)
    rw [Int.toNat_natCast] at this
    exact this
  have HLX : Hid ((putL (hN a) 8).length = 8) := putL_length 8 _
  have HLY : Hid ((putL (lN a) 8).length = 8) := putL_length 8 _
  unfold ev
  generalize putL (hN a) 8 = P at *
  generalize putL (lN a) 8 = Q at *
  generalize hN a = x1 at *
  generalize lN a = y1 at *
  go_enter Tryz.func96, Tryz.ntmps96
  go_wp2_with fail
  obtain ⟨W, hW⟩ : ∃ W, W = w.alloc (.cells #[.int .u64 (x1 : Int), .int .u64 (y1 : Int)] 126) := ⟨_, rfl⟩
  rw [← hW]
  have d0 : Blk W w.heap.size [.int .u64 (x1 : Int), .int .u64 (y1 : Int)] 126 := by rw [hW]; exact Blk.new w _ _
  have q0 : Below w.heap.size w W := by rw [hW]; exact below_alloc w _
  have k0 := d0.cell 0
  have k1 := d0.cell 1
  simp only [List.getElem?_cons_zero, List.getElem?_cons_succ] at k0 k1
  have hl := d0.lt
  clear hW d0
  go_region_held3 (fun w' => w'.cell? ⟨w.heap.size, 0, none⟩ = some (.int .u64 (x1 : Int)) ∧ w'.cell? ⟨w.heap.size, 1, none⟩ = some (.int .u64 (y1 : Int))) (first | (exact ⟨m0, m1⟩) | (exact ⟨n0, n1⟩) | (exact ⟨l0, l1⟩) | (exact ⟨k0, k1⟩) | (constructor <;> assumption) | go_keep) (first
    | (go_at_call 41; refine (CY.out w1).mono ?_; rintro e w2 ⟨a2, z2, c2, rfl, ho2, hb2⟩; have hl2 : w.heap.size < w1.heap.size := Nat.lt_of_lt_of_le hl hb1.size; have n0 := (hb2.cell (p := ⟨w.heap.size, 0, none⟩) hl2).trans l0; have n1 := (hb2.cell (p := ⟨w.heap.size, 1, none⟩) hl2).trans l1)
    | (go_at_call 41; refine (CX.out W.drew).mono ?_; rintro e w1 ⟨a1, z1, c1, rfl, ho1, hb1⟩; have l0 := (hb1.cell (p := ⟨w.heap.size, 0, none⟩) hl).trans k0; have l1 := (hb1.cell (p := ⟨w.heap.size, 1, none⟩) hl).trans k1)
    | (go_at_call 58; go_must (refine (oJoin2 w2 (ho1.toBs.below hb2 (Nat.le_refl _)) ho2.toBs (by have := ho1.toBs.len; have := ho2.toBs.len; have := HLX.out; have := HLY.out; omega)).mono ?_); rintro e w3 ⟨a3, z3, c3, rfl, ho3, hb3⟩; have hl3 : w.heap.size < w2.heap.size := Nat.lt_of_lt_of_le (Nat.lt_of_lt_of_le hl hb1.size) hb2.size; have m0 := (hb3.cell (p := ⟨w.heap.size, 0, none⟩) hl3).trans n0; have m1 := (hb3.cell (p := ⟨w.heap.size, 1, none⟩) hl3).trans n1))
  have h1 := hb1.size
  go_wp2
  go_ret
  exact Gives.mk (by rw [← HB.out]; exact ho3.mono (Nat.le_of_lt hl3)) ((q0.drew.trans (hb1.mono q0.size)).trans ((hb2.mono (Nat.le_of_lt hl2)).trans (hb3.mono (Nat.le_of_lt hl3))))

end Go.Proofs.YtfknplcnfpincaaGreat

/-
  Variables of elements in a region that draws its order: made, and written. No condition; no statement of the seat is proved here.
-/
namespace Go.Proofs.YtfknplcnfpincaaGreat
open Go.RowKit

abbrev z2 : Array Value := #[.int .u64 0, .int .u64 0]
theorem makesE {ops : Array Oper} {i : Nat} {d : Tmp} {tp : TypeId} {pos : String} {aft : Array Edge} (hi : ops[i]? = some { dst := some d, op := .alloc 126, type := tp, pos := pos, after := aft, guard := none }) : Makes Tryz.prog ops i d z2 126 :=
  ⟨_, hi, rfl, rfl, fun ρ w => by unfold execOp; go_simp⟩
theorem storeE {ops : Array Oper} {Q : Exit → Act → World → Prop} (i : Nat) (x y : Operand) {oi : Oper} {K : Act → World → Prop} {a : Act} {w : World} (hi : ops[i]? = some oi) (hd : oi.dst = none) (ho : oi.op = .store 126 x y) (hg : oi.guard = none) (g : Nat) (X : Fe) (vs : List Value) (hl : vs.length = 2) (hb : Blk w g vs 126)
    (hx : a.eval x = .pointer (some ⟨g, 0, none⟩)) (hy : a.eval y = .agg #[.int .u64 (hN X : Int), .int .u64 (lN X : Int)])
    (k : ∀ w', Blk w' g (ec X) 126 → (∀ j us u, j ≠ g → Blk w j us u → Blk w' j us u) → (∀ B a, B ≤ g → Below B a w → Below B a w') → K a w') : wpOp Tryz.prog ops Q i K a w := by
  obtain ⟨v0, v1, rfl⟩ : ∃ v0 v1, vs = [v0, v1] := by
    match vs, hl with
    | [v0, v1], _ => exact ⟨v0, v1, rfl⟩
  have c0 := hb.cell 0
  have c1 := hb.cell 1
  have f0 := hb.free 0
  have f1 := hb.free 1
  simp only [List.getElem?_cons_zero, List.getElem?_cons_succ] at c0 c1
  have hk := k ((w.setCell ⟨g, 0, none⟩ (.int .u64 (hN X : Int))).setCell ⟨g, 1, none⟩ (.int .u64 (lN X : Int))) ((hb.setC 0 _).setC 1 _) (fun j us u hj b => (b.setO hj _).setO hj _) (fun B a hB h => (h.setCell hB _).setCell hB _)
  have hK : Hid _ := hk
  clear hk k
  unfold wpOp
  simp only [hi]
  rw [if_pos (by simp [Region.wanted, hg])]
  left
  unfold Oper.wp execOp
  simp only [ho, hx, hy]
  go_simp
  exact hK.out
/-- A slice of a whole array of 16 bytes. -/
theorem ans_all {ops : Array Oper} {S : World → Prop} {oi : Oper} {a : Act} (x : Operand) (ho : oi.op = .slice 119 x none none none) (hw : Region.wanted oi (yielded ops a.tmps) = true) (g : Nat) (hx : a.eval x = .pointer (some ⟨g, 0, none⟩)) : Ans Tryz.prog ops S oi (.slice (some ⟨g, 0, none⟩) 16 16) a := by
  have hall := allK
  refine ans_plain hw fun w _ => ?_
  unfold execOp
  simp only [ho, hx]
  go_simp

/-- An element out of its variable. -/
theorem ans_ld {ops : Array Oper} {S : World → Prop} {oi : Oper} {a : Act} (x : Operand) (ho : oi.op = .load 126 x) (hw : Region.wanted oi (yielded ops a.tmps) = true) (g : Nat) (X : Fe) (hx : a.eval x = .pointer (some ⟨g, 0, none⟩)) (hb : ∀ w, S w → Blk w g (ec X) 126) : Ans Tryz.prog ops S oi (ev X) a := by
  refine ans_plain hw fun w hS => ?_
  have c0 := (hb w hS).cell 0
  have c1 := (hb w hS).cell 1
  simp only [ec, List.getElem?_cons_zero, List.getElem?_cons_succ] at c0 c1
  unfold execOp ev
  simp only [ho, hx]
  go_simp
theorem ans_eqE {ops : Array Oper} {S : World → Prop} {oi : Oper} {a : Act} (x y : Operand) (ho : oi.op = .binOp .eql 126 x y 126) (hw : Region.wanted oi (yielded ops a.tmps) = true) (X : Fe) (hx : a.eval x = ev X) (hy : a.eval y = ev X) : Ans Tryz.prog ops S oi (.bool true) a := by
  refine ans_plain hw fun w hS => ?_
  unfold execOp
  simp only [ho, hx, hy]
  unfold ev
  go_simp
end Go.Proofs.YtfknplcnfpincaaGreat

/-
  Rows of a region that draws its order, for layer 6's program: whole arrays of 16 bytes, a literal of two slices, a copy, calls of a function that lies in a variable. No condition; no statement of the seat is proved here.
-/
namespace Go.Proofs.YtfknplcnfpincaaGreat
open Go.RowKit

/-- A load of a whole array of 16 bytes. -/
theorem ans_ld16 {ops : Array Oper} {S : World → Prop} {oi : Oper} {a : Act} (x : Operand) (ho : oi.op = .load 119 x) (hw : Region.wanted oi (yielded ops a.tmps) = true) (g : Nat) (l : List UInt8) (hl : l.length = 16) (hx : a.eval x = .pointer (some ⟨g, 0, none⟩)) (hb : ∀ w, S w → Blk w g (cs l) 119) : Ans Tryz.prog ops S oi (bv l) a := by
  refine ans_plain hw fun w hS => ?_
  have hr := run_loadAt_mid (P := Tryz.prog) w g 0 119 (cs l) _ (hb w hS).whole Tryz.underlying119 rfl (by rw [sizeK, cs_length, hl])
  simp [execOp, ho, hx, hr, Result.andThen, bv]
/-- A store of a whole array of 16 bytes, the one that may come up. -/
theorem opSt16 {ops : Array Oper} {Q : Exit → Act → World → Prop} (i : Nat) (x y : Operand) {oi : Oper} {K : Act → World → Prop} {a : Act} {w : World} (hi : ops[i]? = some oi) (hd : oi.dst = none) (ho : oi.op = .store 119 x y) (hg : oi.guard = none) (g : Nat) (l : List UInt8) (hl : l.length = 16) (vs : List Value) (hv : vs.length = 16) (hb : Blk w g vs 119)
    (hx : a.eval x = .pointer (some ⟨g, 0, none⟩)) (hy : a.eval y = bv l)
    (k : ∀ w', Blk w' g (cs l) 119 → (∀ j us u, j ≠ g → Blk w j us u → Blk w' j us u) → (∀ B a, B ≤ g → Below B a w → Below B a w') → K a w') : wpOp Tryz.prog ops Q i K a w := by
  have hcl : (cs l).length = 16 := by rw [cs_length, hl]
  have hr := run_storeAt_mid (P := Tryz.prog) w g 0 119 (cs l).toArray (by rw [List.size_toArray, hcl]; exact hb.there 0 16 (by omega)) (by rw [List.size_toArray, hcl]; exact sizeK) (all_oneCell_toArray cs_one)
  have hk := k (w.setCells g 0 (cs l)) (hb.setsW _ (by omega)) (fun j us u hj b => b.setsO hj _ 0) (fun B a hB h => below_sets hB _ h 0)
  have hK : Hid _ := hk
  clear hk k
  unfold wpOp
  simp only [hi]
  rw [if_pos (by simp [Region.wanted, hg])]
  left
  unfold Oper.wp
  unfold bv at hy
  simp [execOp, ho, hx, hy, hr, Result.andThen]
  simp only [Oper.upon, hd]
  exact hK.out
/-- A literal of two slices, the one that may come up. -/
theorem opBS2 {ops : Array Oper} {Q : Exit → Act → World → Prop} {i : Nat} {oi : Oper} (d : Option Tmp) (hi : ops[i]? = some oi) (hd : oi.dst = d) (hg : oi.guard = none) (x y : Operand) (ho : oi.op = .buildSlice 28 2 #[(0, x), (1, y)]) {K : Act → World → Prop} {a : Act} {w : World} (a1 a2 : Option Addr) (n1 c1 n2 c2 : Nat) (hx : a.eval x = .slice a1 n1 c1) (hy : a.eval y = .slice a2 n2 c2)
    (k : K (a.put d (.slice (some ⟨w.heap.size, 0, none⟩) 2 2)) (w.alloc (.cells #[.slice a1 n1 c1, .slice a2 n2 c2] 22))) : wpOp Tryz.prog ops Q i K a w := by
  subst hd
  have hK : Hid _ := k
  clear k
  unfold wpOp
  simp only [hi]
  rw [if_pos (by simp [Region.wanted, hg])]
  left
  unfold Oper.wp execOp
  simp only [ho, List.map_toArray, List.map_cons, List.map_nil, hx, hy]
  go_simp
  exact hK.out
/-- A copy of bytes into a block that is known whole, the one that may come up. -/
theorem opCp {ops : Array Oper} {Q : Exit → Act → World → Prop} {i : Nat} {oi : Oper} (dd : Option Tmp) (hi : ops[i]? = some oi) (hdd : oi.dst = dd) (hgd : oi.guard = none) (d s : Operand)
    (ho : oi.op = .call { callee := .builtin .copy, args := #[d, s], argTypes := #[22, 22] }) {K : Act → World → Prop} {a : Act} {w : World} (g off dl dc : Nat) (hd : a.eval d = .slice (some ⟨g, off, none⟩) dl dc)
    (sp : Option Addr) (m c : Nat) (hs : a.eval s = .slice sp m c) (l : List UInt8) (hb : Bs w sp m c l) (vs : List Value) (t : TypeId) (blk : Blk w g vs t) (n : Nat) (hn : n = Nat.min m dl) (hfit : off + n ≤ vs.length) (hpos : 0 < n)
    (h : ∀ w', Copied w w' g off n vs l t → K (a.put dd (.int .i64 (n : Int))) w') : wpOp Tryz.prog ops Q i K a w := by
  subst hdd
  have hw : Region.wanted oi (yielded ops a.tmps) = true := by simp [Region.wanted, hgd]
  have := step_cp (ops := ops) (Q := Q) (K := K) (E := True) hgd d s ho g off dl dc hd sp m c hs l hb vs t blk n hn hfit hpos h
  rw [if_pos hw] at this
  unfold wpOp
  simp only [hi]
  rw [if_pos hw]
  exact Or.inl this
/-- A call whose answer lies in new memory, of a function that lies in a variable: the one that may come up. -/
theorem callV {ops : Array Oper} {Q : Exit → Act → World → Prop} {md : Region.Mode} {S : World → Prop} (i : Nat) (d : Option Tmp) (f : FuncId) (vs : Array Value) {oi : Oper} {fuel : Nat} {listed : Array Bool} {a : Act} {w : World} (hi : ops[i]? = some oi) (hd : oi.dst = d)
    (hw : Region.wanted oi (yielded ops a.tmps) = true) (hx : ∀ w, (execOp a.eval oi).run Tryz.prog w = .ok (.enter f vs) w) (hr : Region.ready md ops listed = [i])
    (h : ∀ w', Grows w w' → S w' → Calls Tryz.prog f vs w' fun e w'' => ∃ v, e = .returned v ∧ S w'' ∧ wpAnyG Tryz.prog md ops Q S fuel (listed.setIfInBounds i true) (a.put d v) w'') : wpAnyG Tryz.prog md ops Q S (fuel + 1) listed a w := by
  subst hd
  refine oneG i hr fun w' hg hS => ?_
  unfold wpOp
  simp only [hi]
  rw [if_pos hw]
  left
  unfold Oper.wp
  rw [hx, Oper.upon_enter]
  refine (h w' hg hS).mono ?_
  rintro e w'' ⟨v, rfl, hs, hh⟩
  exact ⟨hs, hh⟩
/-- The same, ahead of a last store. -/
theorem callVE {ops : Array Oper} {Q : Exit → Act → World → Prop} {md : Region.Mode} {S : World → Prop} {x : Nat} (i : Nat) (d : Option Tmp) (f : FuncId) (vs : Array Value) {oi : Oper} {fuel : Nat} {listed : Array Bool} {a : Act} {w : World} (hi : ops[i]? = some oi) (hd : oi.dst = d)
    (hw : Region.wanted oi (yielded ops a.tmps) = true) (hx : ∀ w, (execOp a.eval oi).run Tryz.prog w = .ok (.enter f vs) w) (hr : Region.ready md ops listed = [i]) (he : listed.getD x true = false)
    (h : ∀ w', Grows w w' → S w' → Calls Tryz.prog f vs w' fun e w'' => ∃ v, e = .returned v ∧ S w'' ∧ wpAnyE Tryz.prog md ops Q S x fuel (listed.setIfInBounds i true) (a.put d v) w'') : wpAnyE Tryz.prog md ops Q S x (fuel + 1) listed a w := by
  subst hd
  refine oneE i hr he fun w' hg hS => ?_
  unfold wpOp
  simp only [hi]
  rw [if_pos hw]
  left
  unfold Oper.wp
  rw [hx, Oper.upon_enter]
  refine (h w' hg hS).mono ?_
  rintro e w'' ⟨v, rfl, hs, hh⟩
  exact ⟨hs, hh⟩
/-- Such a call, one of two in either order. -/
theorem mkCallV {ops : Array Oper} {Q : Exit → Act → World → Prop} {W : World} (i : Nat) (d : Tmp) (f : FuncId) (vs : Array Value) (A : Value → World → Prop) {oi : Oper} {a : Act} (hi : ops[i]? = some oi) (hd : oi.dst = some d) (hw : Region.wanted oi (yielded ops a.tmps) = true) (hx : ∀ w, (execOp a.eval oi).run Tryz.prog w = .ok (.enter f vs) w)
    (h : ∀ w, Grows W w → Calls Tryz.prog f vs w fun e w' => ∃ v, e = .returned v ∧ A v w' ∧ Below w.heap.size w w') : Mk Tryz.prog ops Q (Grows W) i d A a := by
  intro K w hs k
  unfold wpOp
  simp only [hi]
  rw [if_pos hw]
  left
  unfold Oper.wp
  rw [hx, Oper.upon_enter]
  refine (h w hs).mono ?_
  rintro e w'' ⟨v, rfl, hA, hb⟩
  rw [hd]
  exact k v w'' hA hb (Grows.trans hs hb)
/-- A call of a function that lies in a variable. -/
theorem runV {oi : Oper} {a : Act} (x : Operand) (f : FuncId) (args : Array Operand) (tys : Array TypeId) (vs : Array Value) (ho : oi.op = .call { callee := .value x, args := args, argTypes := tys }) (hx : a.eval x = .func (.func f) #[] #[]) (hv : (args.toList.map a.eval).toArray = vs) (hc : ∀ vs w, (callFunc f vs).run Tryz.prog w = .ok (.enter f vs) w) (w : World) : (execOp a.eval oi).run Tryz.prog w = .ok (.enter f vs) w := by
  have hv' : args.map a.eval = vs := by rw [← hv]; apply Array.toList_inj.1; rw [Array.toList_map]
  subst hv'
  simp [execOp, ho, resolve, invoke, hx, Deferred.ofValue, hc]
/-- Two rows, one behind the other, whose slices lie in memory. -/
theorem oJoinB (w : World) {a : Option Addr} {c : Nat} {l1 l2 : List UInt8} (h : Bss w a 2 c [l1, l2]) (hz : l1.length + l2.length ≤ 99000) : Calls Tryz.prog 58 #[.slice a 2 c] w (Gives w (l1 ++ l2)) := by
  have := oJoin w h (by simp [tot]; omega)
  rw [show [l1, l2].flatten = l1 ++ l2 from by simp] at this
  exact this

end Go.Proofs.YtfknplcnfpincaaGreat

/-
  Contracts of layer 12's program: what a sealer tells of itself, the next noise, whether a key and a nonce fit, a new sealer; rows of regions over texts and maps. Conditions: none beside the sealer in memory.
-/
namespace Go.Proofs.YtfknplcnfpincaaGreat
open Go.RowKit
set_option linter.unusedVariables false

/-- 'string(b)', in a region that draws. -/
theorem ans_str {ops : Array Oper} {S : World → Prop} {oi : Oper} {a : Act} (x : Operand) (ho : oi.op = .convert 22 9 x) (hw : Region.wanted oi (yielded ops a.tmps) = true) (p : Option Addr) (m c : Nat) (l : List UInt8) (hx : a.eval x = .slice p m c) (hb : ∀ w, S w → Bs w p m c l) : Ans Tryz.prog ops S oi (sv l) a :=
  ans_plain hw fun w hs => by simp [execOp, ho, hx, (hb w hs).str, Result.andThen]
/-- A map is asked, in a region that draws. -/
theorem ans_lookK {κ : Type} {kv : κ → Value} {ok : κ → Prop} {ops : Array Oper} {S : World → Prop} {oi : Oper} {a : Act} (x y : Operand) (T K E : TypeId) (ho : oi.op = Op.lookup T x y true) (hw : Region.wanted oi (yielded ops a.tmps) = true) (hK : KeyS K kv ok) (hm : Tryz.prog.underlying T = some (.map K E)) (z : Value) (hz : ∀ w, (zeroValue E).run Tryz.prog w = .ok z w)
    (m : Nat) (f : κ → Option Value) (hx : a.eval x = .map (some m)) (k : κ) (hk : ok k) (hy : a.eval y = kv k) (h : ∀ w, S w → Mks kv ok w m f) : Ans Tryz.prog ops S oi (.tuple #[(f k).getD z, .bool (f k).isSome]) a :=
  ans_plain hw fun w hs => by simp [execOp, ho, hx, hy, (h w hs).look hK hm (hz w) k hk, Result.andThen]
/-- A map is written, as one operation. -/
theorem opMsetK {κ : Type} [DecidableEq κ] {kv : κ → Value} {ok : κ → Prop} {ops : Array Oper} {Q : Exit → Act → World → Prop} (i : Nat) (T K E : TypeId) (x y z : Operand) {oi : Oper} {C : Act → World → Prop} {a : Act} {w : World} (hi : ops[i]? = some oi) (hd0 : oi.dst = none) (ho : oi.op = .mapUpdate T x y z) (hg : oi.guard = none) (hK : KeyS K kv ok) (hm : Tryz.prog.underlying T = some (.map K E))
    (m : Nat) (f : κ → Option Value) (hx : a.eval x = .map (some m)) (k : κ) (hk : ok k) (hy : a.eval y = kv k) (v : Value) (hz : a.eval z = v) (h : Mks kv ok w m f)
    (c : ∀ w', Mks kv ok w' m (updK f k v) → w.grownBy w' (some m) → C a w') : wpOp Tryz.prog ops Q i C a w := by
  obtain ⟨w', hrun, r1, r2⟩ := h.store hK hm k hk v
  have hKK : Hid _ := c w' r1 r2
  clear c
  unfold wpOp
  simp only [hi]
  rw [if_pos (by simp [Region.wanted, hg])]
  left
  unfold Oper.wp
  simp [execOp, ho, hx, hy, hz, hrun, Result.andThen]
  simp only [Oper.upon, hd0]
  exact hKK.out
/-- A literal of a struct, in a region that draws. -/
theorem ans_bdK {ops : Array Oper} {S : World → Prop} {oi : Oper} {a : Act} (ty : TypeId) (parts : List (Nat × Operand)) (vals : List (Nat × Value)) (cells : Array Value) (ho : oi.op = .build ty parts.toArray) (hw : Region.wanted oi (yielded ops a.tmps) = true) (hv : parts.map (fun p => (p.1, a.eval p.2)) = vals) (hb : Tryz.prog.built ty vals = some cells) : Ans Tryz.prog ops S oi (.agg cells) a := by
  refine ans_plain hw fun w hS => ?_
  have hr := run_build (P := Tryz.prog) w ty vals.toArray _ hb
  have e : (parts.toArray.map fun (i, x) => (i, a.eval x)) = vals.toArray := by
    rw [← hv]
    simp
  simp only [execOp, ho, e]
  simp [hr, Result.andThen]

theorem oFit (w : World) (a b : Option Addr) (n c m d : Nat) (hn : n ≤ 1000000) (hm : m ≤ 1000000) :
    Calls Tryz.prog 36 #[.slice a n c, .slice b m d] w fun e w' => e = .returned (.bool (decide (n = 32 ∧ m = 12))) ∧ w = w' := by
  by_cases h1 : n = 32
  · subst h1
    by_cases h2 : m = 12
    · subst h2
      go_enter Tryz.func36, Tryz.ntmps36
      go_wp2_with fail
      go_ret
      exact ⟨rfl, rfl⟩
    · have h3 : ((m : Int) == 12) = false := by simp; omega
      rw [show decide ((32 : Nat) = 32 ∧ m = 12) = false from by simp [h2]]
      go_enter Tryz.func36, Tryz.ntmps36
      go_wp2_with fail
      go_ret
      exact ⟨rfl, rfl⟩
  · have h3 : ((n : Int) == 32) = false := by simp; omega
    rw [show decide (n = 32 ∧ m = 12) = false from by simp [h1]]
    go_enter Tryz.func36, Tryz.ntmps36
    go_wp2_with fail
    go_ret
    exact ⟨rfl, rfl⟩
set_option maxHeartbeats 1000000 in
theorem oSNext (w : World) {U : Nat → Prop} {r : Nat} {S : SeaS} {M : SeaM} (h : Se U w r S M) (hn : S.count + S.book.length + 1 ≤ 1000000) :
    Calls Tryz.prog 55 #[.pointer (some ⟨r, 0, none⟩)] w fun e w' => e = .returned (.int .u64 ((S.count + 1 : Nat) : Int)) ∧ Se U w' r { S with count := S.count + 1 } M ∧ Kp (fun j => j = r) w w' := by
  have hc : w.cell? ⟨r, 7, none⟩ = some (.int .u64 (S.count : Int)) := h.blk.cell 7
  have hl := h.blk.lt
  have hf := h.blk.free 7
  have hb := h.bound
  obtain ⟨q, hq⟩ : ∃ q, q = S.count := ⟨_, rfl⟩
  have k : Kp (fun j => j = r) w (w.setCell ⟨r, 7, none⟩ (.int .u64 ((q + 1 : Nat) : Int))) := Kp.of_grown (but_set w r 7 _)
  have hS : Hid (Se U (w.setCell ⟨r, 7, none⟩ (.int .u64 ((q + 1 : Nat) : Int))) r { S with count := q + 1 } M) := by
    refine h.put k ?_ rfl rfl rfl (by dsimp only; omega)
    have := h.blk.setC 7 (.int .u64 ((q + 1 : Nat) : Int))
    exact this
  have HK : Hid (Kp (fun j => j = r) w (w.setCell ⟨r, 7, none⟩ (.int .u64 ((q + 1 : Nat) : Int)))) := k
  have hlt : (q : Int) + 1 = ((q + 1 : Nat) : Int) := by omega
  have hlt2 : q + 1 ≤ 1000000 := by omega
  rw [← hq] at hc ⊢
  clear h k hq hb hn
  have hy : (((q + 1 : Nat) : Int)) = (q : Int) + 1 := by omega
  rw [hy] at hS HK ⊢
  clear hlt
  go_enter Tryz.func55, Tryz.ntmps55
  go_wp2_with fail
  go_ret
  exact ⟨rfl, hS.out, HK.out⟩

end Go.Proofs.YtfknplcnfpincaaGreat
