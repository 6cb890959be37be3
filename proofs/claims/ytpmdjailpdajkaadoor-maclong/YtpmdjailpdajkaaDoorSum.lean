/-
  The contract of Sum: the sum of all that came; the state is as it was. Conditions: the package's constants lie where they were laid; at most 1000000 bytes came.
-/
import Derived.Test.YtpmdjailpdajkaaDoorFin
import Derived.Deep.CutRange
namespace Go.Proofs.YtpmdjailpdajkaaDoor
open Go.RowKit

theorem Sta.lt {w : World} {r : Nat} {m : List UInt8} (h : Sta w r m) : r < w.heap.size := Blk.lt h
theorem sta_sum (m : List UInt8) (j : Nat) (v : Value) (h : (ws (tks m (m.length / 64)))[j]? = some v) : (sta m)[0 + j]? = some v := by
  have hj := (List.getElem?_eq_some_iff.1 h).1
  rw [Nat.zero_add]
  unfold sta
  rw [List.append_assoc, List.getElem?_append_left hj]
  exact h
theorem sta_rest (m : List UInt8) (j : Nat) (v : Value) (h : (cs (rst m))[j]? = some v) : (sta m)[8 + j]? = some v := by
  have hj := (List.getElem?_eq_some_iff.1 h).1
  have hl : (ws (tks m (m.length / 64))).length = 8 := by rw [ws_length, tks_length]
  unfold sta
  rw [List.append_assoc, List.getElem?_append_right (by omega), hl, Nat.add_sub_cancel_left, List.getElem?_append_left hj]
  exact h
theorem sta_count (m : List UInt8) : (sta m)[72]? = some (.int .u64 (m.length : Int)) := by
  have hl : (ws (tks m (m.length / 64)) ++ cs (rst m)).length = 72 := by rw [List.length_append, ws_length, tks_length, cs_length, rst_length]
  unfold sta
  rw [List.getElem?_append_right (by omega), hl]
  rfl
theorem Sta.sum {w : World} {r : Nat} {m : List UInt8} (h : Sta w r m) : w.rangeAt r 0 (ws (tks m (m.length / 64))) := Blk.range h 0 _ (sta_sum m)
theorem Sta.rest {w : World} {r : Nat} {m : List UInt8} (h : Sta w r m) : w.rangeAt r 8 (cs (rst m)) := Blk.range h 8 _ (sta_rest m)
theorem Sta.count {w : World} {r : Nat} {m : List UInt8} (h : Sta w r m) : w.cell? ⟨r, 72, none⟩ = some (.int .u64 (m.length : Int)) := by rw [Blk.cell h, sta_count]
theorem Sta.below {w w' : World} {r : Nat} {m : List UInt8} (h : Sta w r m) {B : Nat} (hb : Below B w w') (hB : r < B) : Sta w' r m := Blk.below h hb hB

abbrev z48 : Array Value := #[.int .u8 0, .int .u8 0, .int .u8 0, .int .u8 0, .int .u8 0, .int .u8 0, .int .u8 0, .int .u8 0, .int .u8 0, .int .u8 0, .int .u8 0, .int .u8 0, .int .u8 0, .int .u8 0, .int .u8 0, .int .u8 0, .int .u8 0, .int .u8 0, .int .u8 0, .int .u8 0, .int .u8 0, .int .u8 0, .int .u8 0, .int .u8 0, .int .u8 0, .int .u8 0, .int .u8 0, .int .u8 0, .int .u8 0, .int .u8 0, .int .u8 0, .int .u8 0, .int .u8 0, .int .u8 0, .int .u8 0, .int .u8 0, .int .u8 0, .int .u8 0, .int .u8 0, .int .u8 0, .int .u8 0, .int .u8 0, .int .u8 0, .int .u8 0, .int .u8 0, .int .u8 0, .int .u8 0, .int .u8 0, .int .u8 0, .int .u8 0, .int .u8 0, .int .u8 0, .int .u8 0, .int .u8 0, .int .u8 0, .int .u8 0, .int .u8 0, .int .u8 0, .int .u8 0, .int .u8 0, .int .u8 0, .int .u8 0, .int .u8 0, .int .u8 0]
abbrev z24 : Array Value := #[.int .u8 0, .int .u8 0, .int .u8 0, .int .u8 0, .int .u8 0, .int .u8 0, .int .u8 0, .int .u8 0, .int .u8 0, .int .u8 0, .int .u8 0, .int .u8 0, .int .u8 0, .int .u8 0, .int .u8 0, .int .u8 0, .int .u8 0, .int .u8 0, .int .u8 0, .int .u8 0, .int .u8 0, .int .u8 0, .int .u8 0, .int .u8 0, .int .u8 0, .int .u8 0, .int .u8 0, .int .u8 0, .int .u8 0, .int .u8 0, .int .u8 0, .int .u8 0]

theorem there_lastA (w : World) (c : Array Value) : (((w.alloc (.cells z24 26)).alloc (.cells c 60)).alloc (.cells z48 41)).drew.there (w.heap.size + 1 + 1) 0 64 :=
  (Blk.newAt ((w.alloc (.cells z24 26)).alloc (.cells c 60)) z48 41 (w.heap.size + 1 + 1) (by simp) _ rfl).dr.there 0 64 (by decide)
theorem there_lastB (w : World) (c : Array Value) : (((w.alloc (.cells z24 26)).alloc (.cells z48 41)).alloc (.cells c 60)).drew.there (w.heap.size + 1) 0 64 :=
  ((Blk.newAt (w.alloc (.cells z24 26)) z48 41 (w.heap.size + 1) (by simp) _ rfl).old _).dr.there 0 64 (by decide)

/-- What the loads of a state ask. -/
theorem Sta.asks {w : World} {r : Nat} {m : List UInt8} {v0 v1 v2 v3 v4 v5 v6 v7 : UInt32} (h : Sta w r m) (hv : tks m (m.length / 64) = [v0, v1, v2, v3, v4, v5, v6, v7]) :
    w.cell? ⟨r, 0, none⟩ = some (.int .u32 (v0.toNat : Int)) ∧ w.cell? ⟨r, 1, none⟩ = some (.int .u32 (v1.toNat : Int)) ∧ w.cell? ⟨r, 2, none⟩ = some (.int .u32 (v2.toNat : Int)) ∧ w.cell? ⟨r, 3, none⟩ = some (.int .u32 (v3.toNat : Int)) ∧
      w.cell? ⟨r, 4, none⟩ = some (.int .u32 (v4.toNat : Int)) ∧ w.cell? ⟨r, 5, none⟩ = some (.int .u32 (v5.toNat : Int)) ∧ w.cell? ⟨r, 6, none⟩ = some (.int .u32 (v6.toNat : Int)) ∧ w.cell? ⟨r, 7, none⟩ = some (.int .u32 (v7.toNat : Int)) ∧ w.rangeAt r 8 (cs (rst m)) := by
  have hs := h.sum
  rw [hv] at hs
  refine ⟨?_, ?_, ?_, ?_, ?_, ?_, ?_, ?_, h.rest⟩
  · simpa using hs 0 _ rfl
  · simpa using hs 1 _ rfl
  · simpa using hs 2 _ rfl
  · simpa using hs 3 _ rfl
  · simpa using hs 4 _ rfl
  · simpa using hs 5 _ rfl
  · simpa using hs 6 _ rfl
  · simpa using hs 7 _ rfl

theorem cz64 : (cs z64).length = 64 := by rw [cs_length, z64_length]
theorem Sta.setsO {w : World} {r : Nat} {m : List UInt8} (h : Sta w r m) {g : Nat} (hg : r ≠ g) (us : List Value) (o : Nat) : Sta (w.setCells g o us) r m := Blk.setsO (vs := sta m) hg us h o

set_option maxHeartbeats 2000000 in
theorem oSum (w : World) (hK : Kon w) (r : Nat) (m : List UInt8) (hS : Sta w r m) (hm : m.length ≤ 1000000) :
    Calls Tryd.prog 24 #[.pointer (some ⟨r, 0, none⟩)] w fun e w' => e = .returned (bv (sumL m)) ∧ Below w.heap.size w w' := by
  have hr := hS.lt
  have hct := hS.count
  obtain ⟨v0, v1, v2, v3, v4, v5, v6, v7, hv⟩ := ws_len8 (tks_length m (m.length / 64))
  have HV : Hid (tks m (m.length / 64) = [v0, v1, v2, v3, v4, v5, v6, v7]) := hv
  obtain ⟨q0, q1, q2, q3, q4, q5, q6, q7, hrest⟩ := hS.asks hv
  clear hv
  have hu := Tryd.underlying41
  have hi : (Tryd.prog.info? 41).map (·.size) = some (cs (rst m)).length := by rw [size48, cs_length, rst_length]
  have hl : (cs (rst m)).length = 64 := by rw [cs_length, rst_length]
  have h1 : ∀ v ∈ cs (rst m), v.oneCell' = true := cs_one
  go_enter Tryd.func24, Tryd.ntmps24
  go_wp2_with fail
  have tA := there_lastA w #[.int .u32 (v0.toNat : Int), .int .u32 (v1.toNat : Int), .int .u32 (v2.toNat : Int), .int .u32 (v3.toNat : Int), .int .u32 (v4.toNat : Int), .int .u32 (v5.toNat : Int), .int .u32 (v6.toNat : Int), .int .u32 (v7.toNat : Int)]
  have tB := there_lastB w #[.int .u32 (v0.toNat : Int), .int .u32 (v1.toNat : Int), .int .u32 (v2.toNat : Int), .int .u32 (v3.toNat : Int), .int .u32 (v4.toNat : Int), .int .u32 (v5.toNat : Int), .int .u32 (v6.toNat : Int), .int .u32 (v7.toNat : Int)]
  go_cut [3, 4] from 6 (fun p3 p4 wx => ∃ g3 g4, p3 = .pointer (some ⟨g3, 0, none⟩) ∧ p4 = .pointer (some ⟨g4, 0, none⟩) ∧ Blk wx g3 (ws (tks m (m.length / 64))) 60 ∧ Blk wx g4 (cs (rst m)) 41 ∧ Blk wx w.heap.size (cs (List.replicate 32 0)) 26 ∧ g3 ≠ g4 ∧ w.heap.size < g3 ∧ w.heap.size < g4 ∧ Below w.heap.size w wx)
  case first =>
    go_region_held3 (fun w' => w'.cell? ⟨r, 0, none⟩ = some (.int .u32 (v0.toNat : Int)) ∧ w'.cell? ⟨r, 1, none⟩ = some (.int .u32 (v1.toNat : Int)) ∧ w'.cell? ⟨r, 2, none⟩ = some (.int .u32 (v2.toNat : Int)) ∧ w'.cell? ⟨r, 3, none⟩ = some (.int .u32 (v3.toNat : Int)) ∧ w'.cell? ⟨r, 4, none⟩ = some (.int .u32 (v4.toNat : Int)) ∧ w'.cell? ⟨r, 5, none⟩ = some (.int .u32 (v5.toNat : Int)) ∧ w'.cell? ⟨r, 6, none⟩ = some (.int .u32 (v6.toNat : Int)) ∧ w'.cell? ⟨r, 7, none⟩ = some (.int .u32 (v7.toNat : Int)) ∧ w'.rangeAt r 8 (cs (rst m)))
      ((refine Sta.asks (Sta.below hS (B := w.heap.size) ?_ hr) HV.out; (repeat' (first | exact Below.refl _ _ | refine Below.drew ?_ | refine below_sets ?_ _ ?_ _ | refine Below.alloc ?_ ?_ _)) <;> (first | omega | (simp; done) | (simp; omega)))) (fail)
    · go_wp2_with fail
      go_meet
      case rel =>
        refine ⟨_, _, rfl, rfl, ?_, ?_, ?_, by omega, by omega, by omega, below_sets (by omega) _ (below3 w _ _ _).drew 0⟩
        · rw [HV.out]
          exact Blk.setsO (by omega) _ (((Blk.newAt (w.alloc _) _ _ _ (by simp) _ rfl).old _).dr) 0
        · exact Blk.setsW (Blk.newAt ((w.alloc _).alloc _) z48 _ (w.heap.size + 1 + 1) (by simp) _ rfl).dr _ (by rw [hl]; rfl)
        · exact Blk.setsO (by omega) _ (((Blk.new w _ _).old _).old _).dr 0
    · go_wp2_with fail
      go_meet
      case rel =>
        refine ⟨_, _, rfl, rfl, ?_, ?_, ?_, by omega, by omega, by omega, below_sets (by omega) _ (below3 w _ _ _).drew 0⟩
        · rw [HV.out]
          exact Blk.setsO (by omega) _ (Blk.newAt ((w.alloc _).alloc _) _ _ _ (by simp) _ rfl).dr 0
        · exact Blk.setsW ((Blk.newAt (w.alloc _) z48 _ (w.heap.size + 1) (by simp) _ rfl).old _).dr _ (by rw [hl]; rfl)
        · exact Blk.setsO (by omega) _ (((Blk.new w _ _).old _).old _).dr 0
  case rest =>
    clear tA tB q0 q1 q2 q3 q4 q5 q6 q7 hrest hu hi h1 HV hct
    obtain ⟨g3, g4, rfl, rfl, b3, b4, b2, hne, hg3, hg4, hb⟩ := hcut
    have c72 := (hS.below hb hr).count
    obtain ⟨p, hp⟩ : ∃ p, m.length % 64 = p := ⟨_, rfl⟩
    have hp64 : p < 64 := by omega
    have hpi : ((m.length : Nat) : Int) % 64 = (p : Int) := by omega
    have hp0 : (0 : Int) ≤ (p : Int) := by omega
    have hp1 : (p : Int) < 64 := by omega
    have f4 := b4.free p
    obtain ⟨x4, c4⟩ : ∃ v, wc.cell? ⟨g4, p, none⟩ = some v := by rw [b4.cell, List.getElem?_eq_getElem (by omega)]; exact ⟨_, rfl⟩
    have hrg : ¬ g4 = r := by omega
    have hrg' : ¬ r = g4 := by omega
    have hw8 : IntKind.u64.wrap (8 * ((m.length : Nat) : Int)) = 8 * ((m.length : Nat) : Int) := by rw [IntKind.wrap_u64]; omega
    have x1 : Sta (wc.setCell ⟨g4, p, none⟩ (.int .u8 128)) r m := Blk.setO (hS.below hb hr) (p := ⟨g4, p, none⟩) hrg' _
    have x2 := b2.setO (p := ⟨g4, p, none⟩) (by simp; omega) (.int .u8 128)
    have x3 := b3.setO (p := ⟨g4, p, none⟩) hne (.int .u8 128)
    have x4 : Blk (wc.setCell ⟨g4, p, none⟩ (.int .u8 128)) g4 (cs (lst m)) 41 := by
      rw [← lst_cs, hp]
      exact b4.setC p (.int .u8 128)
    have hbx := hb.setCell (p := ⟨g4, p, none⟩) (by simp; omega) (.int .u8 128)
    have HP : Hid (m.length % 64 = p) := hp
    clear hp
    by_cases h56 : p < 56
    · have h56i : (p : Int) < 56 := by omega
      have HE : Hid (tk (tks m (m.length / 64)) (fine (lst m) m.length) = fin m) := by show _ = _; unfold fin; rw [if_pos (by rw [HP.out]; exact h56)]
      have HH1 : Hid ((tks m (m.length / 64)).length = 8) := tks_length _ _
      have HL1 : Hid ((lst m).length = 64) := lst_length m
      have z72 := Sta.count x1
      go_wp2_with fail
      have CP : Hid (∀ w, Calls Tryd.prog 35 #[.int .u64 (8 * (m.length : Int)), .int .i64 8] w fun e w' => ∃ a c, e = .returned (.slice a 8 c) ∧ Bs w' a 8 c (putL (8 * m.length) 8) ∧ Below w.heap.size w w') := fun w => oPutN (8 * m.length) 8 (by omega) (by omega) w
      go_region_held3 (fun w' => w'.cell? ⟨r, 72, none⟩ = some (.int .u64 (m.length : Int))) (first | assumption | go_keep)
        (first
          | (refine step_cp (by rfl) (.tmp 27) (.tmp 33) (by rfl) g4 56 8 8 (by rfl) a1 8 c1 (by rfl) _ ho1 _ _ e4 8 (by rfl) (by rw [cs_length, HL1.out]; omega) (by omega) ?_; intro w6 hc6; have c72c : w6.cell? ⟨r, 72, none⟩ = some (.int .u64 (m.length : Int)) := Sta.count (hc6.other e1 (by omega)))
          | (go_at_call 35; refine (CP.out _).mono ?_; rintro e w5 ⟨a1, c1, rfl, ho1, hb1⟩; have e4 := (x4).dr.below hb1 (x4).lt; have e1 := Sta.below (Blk.dr x1) hb1 (Sta.lt x1); have c72b := Sta.count e1))
      have d3 := hc6.other ((x3).dr.below hb1 (x3).lt) (by omega)
      have d2 := hc6.other ((x2).dr.below hb1 (x2).lt) (by omega)
      have d4 := hc6.blk
      rw [fine_cs HL1.out] at d4
      have hsz : w.heap.size ≤ (wc.setCell ⟨g4, p, none⟩ (.int .u8 128)).heap.size := (hbx).size
      have hb6 := hc6.below ((hbx).drew.trans (hb1.mono hsz)) (by omega) (Nat.le_trans hsz hb1.size)
      have H3 : Hid ((ws (tks m (m.length / 64))).length = 8) := by show _ = _; rw [ws_length, HH1.out]
      have H4 : Hid ((cs (fine (lst m) m.length)).length = 64) := by show _ = _; rw [cs_length, fine_length HL1.out]
      have HF : Hid ((fin m).length = 8) := by show _ = _; rw [← HE.out]; exact tk_length HH1.out _
      have HO : Hid ((cs (sumL m)).length = 32) := by show _ = _; rw [cs_length, sum_fin, outL_length, HF.out]
      have CT : Hid (∀ w, Kon w → Calls Tryd.prog 34 #[.agg (ws (tks m (m.length / 64))).toArray, .agg (cs (fine (lst m) m.length)).toArray] w fun r w' => r = .returned (wv (fin m)) ∧ Below w.heap.size w w') := fun w hK => by rw [← HE.out]; exact oTake w hK _ _ HH1.out (fine_length HL1.out _)
      have CB : Hid (∀ w, Calls Tryd.prog 36 #[wv (fin m)] w fun r w' => r = .returned (.agg (cs (sumL m)).toArray) ∧ Below w.heap.size w w') := fun w => by rw [sum_fin]; exact oWbytes w _ HF.out
      have hK6 := hK.below hb6 hK.lt
      clear hc6 e4 e1 c72b c72c hb1 ho1
      go_wp2_with (first
        | (with_reducible refine at_ld 60 ?_; refine ld 60 (.tmp 3) 8 size46 _ Tryd.underlying60 rfl g3 0 _ H3.out d3.whole rfl ?_)
        | (with_reducible refine at_ld 41 ?_; refine ld 41 (.tmp 4) 64 size48 _ Tryd.underlying41 rfl g4 0 _ H4.out d4.whole rfl ?_)
        | (go_at_call 34; refine (CT.out w6 hK6).mono ?_; rintro e w7 ⟨rfl, hb7⟩)
        | (go_at_call 36; refine (CB.out w7).mono ?_; rintro e w8 ⟨rfl, hb8⟩; have d5 := (d2.below hb7 d2.lt).below hb8 (Nat.lt_of_lt_of_le d2.lt hb7.size))
        | (with_reducible refine at_st 26 ?_; refine st 26 (.tmp 2) (.tmp 38) 32 size24 w.heap.size 0 _ HO.out cs_one (d5.there 0 32 (by rw [cs_length]; decide)) rfl rfl ?_))
      have d6 := d5.setsW (cs (sumL m)) (by rw [HO.out]; rfl)
      have hs6 := hb6.size
      have hs7 := hb7.size
      exact bodyPost_ret (v := .agg (cs (sumL m)).toArray) (res_blk Tryd.results24 _ _ w.heap.size _ _ _ rfl d6 Tryd.underlying26 32 HO.out size24) rfl ⟨rfl, below_sets (Nat.le_refl _) _ ((hb6.trans (hb7.mono (by omega))).trans (hb8.mono (by omega))) 0⟩
    · have h56i : (56 : Int) ≤ (p : Int) := by omega
      have HE : Hid (tk (tk (tks m (m.length / 64)) (lst m)) (fine z64 m.length) = fin m) := by show _ = _; unfold fin; rw [if_neg (by rw [HP.out]; exact h56)]
      have HH1 : Hid ((tk (tks m (m.length / 64)) (lst m)).length = 8) := tk_length (tks_length _ _) _
      have HL1 : Hid (z64.length = 64) := rfl
      have HA : Hid ((ws (tks m (m.length / 64))).length = 8) := by show _ = _; rw [ws_length, tks_length]
      have HB : Hid ((cs (lst m)).length = 64) := by show _ = _; rw [cs_length, lst_length]
      have HC : Hid ((ws (tk (tks m (m.length / 64)) (lst m))).length = 8) := by show _ = _; rw [ws_length, HH1.out]
      have CT0 : Hid (Calls Tryd.prog 34 #[.agg (ws (tks m (m.length / 64))).toArray, .agg (cs (lst m)).toArray] (wc.setCell ⟨g4, p, none⟩ (.int .u8 128)) fun r w' => r = .returned (.agg (ws (tk (tks m (m.length / 64)) (lst m))).toArray) ∧ Below (wc.setCell ⟨g4, p, none⟩ (.int .u8 128)).heap.size (wc.setCell ⟨g4, p, none⟩ (.int .u8 128)) w') := oTake _ (hK.below hbx hK.lt) _ _ (tks_length _ _) (lst_length _)
      have hsx : w.heap.size ≤ (wc.setCell ⟨g4, p, none⟩ (.int .u8 128)).heap.size := hbx.size
      go_wp2_with (first
        | (with_reducible refine at_ld 60 ?_; refine ld 60 (.tmp 3) 8 size46 _ Tryd.underlying60 rfl g3 0 _ HA.out x3.whole rfl ?_)
        | (with_reducible refine at_ld 41 ?_; refine ld 41 (.tmp 4) 64 size48 _ Tryd.underlying41 rfl g4 0 _ HB.out x4.whole rfl ?_)
        | (go_at_call 34; refine CT0.out.mono ?_; rintro e wy ⟨rfl, hbt⟩; have t1 := Sta.below x1 hbt x1.lt; have t2 := x2.below hbt x2.lt; have t3 := x3.below hbt x3.lt; have t4 := x4.below hbt x4.lt; have hby0 := hbx.trans (hbt.mono hsx))
        | (with_reducible refine at_st 60 ?_; refine st' 60 (.tmp 3) (.tmp 25) 8 size46 g3 0 _ HC.out ws_one (t3.there 0 8 (by have := HA.out; omega)) rfl rfl ?_; intro wq hwq; have s1 : Sta wq r m := by rw [hwq]; exact t1.setsO (by omega) _ 0
           have s2 : Blk wq w.heap.size (cs (List.replicate 32 0)) 26 := by rw [hwq]; exact Blk.setsO (by omega) _ t2 0
           have s3 : Blk wq g3 (ws (tk (tks m (m.length / 64)) (lst m))) 60 := by rw [hwq]; exact t3.setsW _ (by rw [HC.out, HA.out])
           have s4 : Blk wq g4 (cs (lst m)) 41 := by rw [hwq]; exact Blk.setsO (by omega) _ t4 0
           have hbq : Below w.heap.size w wq := by rw [hwq]; exact below_sets (by omega) _ hby0 0
           clear hwq)
        | (with_reducible refine at_bd 41 ?_; refine bd 41 #[] [] (cs z64).toArray rfl built48 ?_)
        | (with_reducible refine at_st 41 ?_; refine st' 41 (.tmp 4) (.tmp 26) 64 size48 g4 0 (cs z64) cz64 cs_one (s4.there 0 64 (by have := HB.out; omega)) rfl rfl ?_; intro wz hwz; have y1 : Sta wz r m := by rw [hwz]; exact s1.setsO (by omega) _ 0
           have y2 : Blk wz w.heap.size (cs (List.replicate 32 0)) 26 := by rw [hwz]; exact Blk.setsO (by omega) _ s2 0
           have y3 : Blk wz g3 (ws (tk (tks m (m.length / 64)) (lst m))) 60 := by rw [hwz]; exact Blk.setsO (by omega) _ s3 0
           have y4 : Blk wz g4 (cs z64) 41 := by rw [hwz]; exact s4.setsW _ (by rw [HB.out, cz64])
           have hby : Below w.heap.size w wz := by rw [hwz]; exact below_sets (by omega) _ hbq 0
           have z72 := Sta.count y1
           clear hwz))
      have CP : Hid (∀ w, Calls Tryd.prog 35 #[.int .u64 (8 * (m.length : Int)), .int .i64 8] w fun e w' => ∃ a c, e = .returned (.slice a 8 c) ∧ Bs w' a 8 c (putL (8 * m.length) 8) ∧ Below w.heap.size w w') := fun w => oPutN (8 * m.length) 8 (by omega) (by omega) w
      go_region_held3 (fun w' => w'.cell? ⟨r, 72, none⟩ = some (.int .u64 (m.length : Int))) (first | assumption | go_keep)
        (first
          | (refine step_cp (by rfl) (.tmp 27) (.tmp 33) (by rfl) g4 56 8 8 (by rfl) a1 8 c1 (by rfl) _ ho1 _ _ e4 8 (by rfl) (by rw [cs_length, HL1.out]; omega) (by omega) ?_; intro w6 hc6; have c72c : w6.cell? ⟨r, 72, none⟩ = some (.int .u64 (m.length : Int)) := Sta.count (hc6.other e1 (by omega)))
          | (go_at_call 35; refine (CP.out _).mono ?_; rintro e w5 ⟨a1, c1, rfl, ho1, hb1⟩; have e4 := (y4).dr.below hb1 (y4).lt; have e1 := Sta.below (Blk.dr y1) hb1 (Sta.lt y1); have c72b := Sta.count e1))
      have d3 := hc6.other ((y3).dr.below hb1 (y3).lt) (by omega)
      have d2 := hc6.other ((y2).dr.below hb1 (y2).lt) (by omega)
      have d4 := hc6.blk
      rw [fine_cs HL1.out] at d4
      have hsz : w.heap.size ≤ (wz).heap.size := (hby).size
      have hb6 := hc6.below ((hby).drew.trans (hb1.mono hsz)) (by omega) (Nat.le_trans hsz hb1.size)
      have H3 : Hid ((ws (tk (tks m (m.length / 64)) (lst m))).length = 8) := by show _ = _; rw [ws_length, HH1.out]
      have H4 : Hid ((cs (fine z64 m.length)).length = 64) := by show _ = _; rw [cs_length, fine_length HL1.out]
      have HF : Hid ((fin m).length = 8) := by show _ = _; rw [← HE.out]; exact tk_length HH1.out _
      have HO : Hid ((cs (sumL m)).length = 32) := by show _ = _; rw [cs_length, sum_fin, outL_length, HF.out]
      have CT : Hid (∀ w, Kon w → Calls Tryd.prog 34 #[.agg (ws (tk (tks m (m.length / 64)) (lst m))).toArray, .agg (cs (fine z64 m.length)).toArray] w fun r w' => r = .returned (wv (fin m)) ∧ Below w.heap.size w w') := fun w hK => by rw [← HE.out]; exact oTake w hK _ _ HH1.out (fine_length HL1.out _)
      have CB : Hid (∀ w, Calls Tryd.prog 36 #[wv (fin m)] w fun r w' => r = .returned (.agg (cs (sumL m)).toArray) ∧ Below w.heap.size w w') := fun w => by rw [sum_fin]; exact oWbytes w _ HF.out
      have hK6 := hK.below hb6 hK.lt
      clear hc6 e4 e1 c72b c72c hb1 ho1
      go_wp2_with (first
        | (with_reducible refine at_ld 60 ?_; refine ld 60 (.tmp 3) 8 size46 _ Tryd.underlying60 rfl g3 0 _ H3.out d3.whole rfl ?_)
        | (with_reducible refine at_ld 41 ?_; refine ld 41 (.tmp 4) 64 size48 _ Tryd.underlying41 rfl g4 0 _ H4.out d4.whole rfl ?_)
        | (go_at_call 34; refine (CT.out w6 hK6).mono ?_; rintro e w7 ⟨rfl, hb7⟩)
        | (go_at_call 36; refine (CB.out w7).mono ?_; rintro e w8 ⟨rfl, hb8⟩; have d5 := (d2.below hb7 d2.lt).below hb8 (Nat.lt_of_lt_of_le d2.lt hb7.size))
        | (with_reducible refine at_st 26 ?_; refine st 26 (.tmp 2) (.tmp 38) 32 size24 w.heap.size 0 _ HO.out cs_one (d5.there 0 32 (by rw [cs_length]; decide)) rfl rfl ?_))
      have d6 := d5.setsW (cs (sumL m)) (by rw [HO.out]; rfl)
      have hs6 := hb6.size
      have hs7 := hb7.size
      exact bodyPost_ret (v := .agg (cs (sumL m)).toArray) (res_blk Tryd.results24 _ _ w.heap.size _ _ _ rfl d6 Tryd.underlying26 32 HO.out size24) rfl ⟨rfl, below_sets (Nat.le_refl _) _ ((hb6.trans (hb7.mono (by omega))).trans (hb8.mono (by omega))) 0⟩

end Go.Proofs.YtpmdjailpdajkaaDoor
