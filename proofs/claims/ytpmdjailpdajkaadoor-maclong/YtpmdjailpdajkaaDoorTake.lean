/-
  The contract of 'take': a sum so far with one more block taken. Condition: the package's constants lie where they were laid ('Kon').
-/
import Derived.Test.YtpmdjailpdajkaaDoorSpread
namespace Go.Proofs.YtpmdjailpdajkaaDoor
open Go.RowKit

/-- The program's constants lie in their variable. -/
def Kon (w : World) : Prop := w.rangeAt 0 0 (ws sKs)
theorem sKs_length : sKs.length = 64 := by decide
theorem Kon.cell {w : World} (h : Kon w) (k : Nat) (hk : k < 64) : w.cell? ⟨0, k, none⟩ = some (.int .u32 ((sKs.getD k 0).toNat : Int)) := by
  have := h k _ (ws_get (by rw [sKs_length]; exact hk))
  rw [Nat.zero_add] at this
  exact this
theorem Kon.lt {w : World} (h : Kon w) : 0 < w.heap.size := lt_of_cell (h.cell 0 (by omega))
theorem Kon.below {w w' : World} (h : Kon w) {B : Nat} (hb : Below B w w') (hB : 0 < B) : Kon w' := fun j v hv => by
  rw [hb.cell (p := ⟨0, 0 + j, none⟩) hB]
  exact h j v hv

theorem tk_length {h : List UInt32} (hh : h.length = 8) (b : List UInt8) : (tk h b).length = 8 := add8_length hh (by rw [rnds_length, hh])

/-- An element of a row of words. -/
theorem idx (ty : TypeId) (n : Nat) (hu : Tryd.prog.underlying ty = some (.array n 52)) (l : List UInt32) (k : Nat) (v : Value) (hv : (ws l)[k]? = some v) (hk : k < n) (w : World) :
    Sem.run Tryd.prog (Instr.index ty (.agg (ws l).toArray) (.int .i64 (k : Int))) w = .ok v w := by
  simp [Instr.index, asIntOf, run_underlying hu, part, hv]
  omega

abbrev z46 : Array Value := #[.int .u32 0, .int .u32 0, .int .u32 0, .int .u32 0, .int .u32 0, .int .u32 0, .int .u32 0, .int .u32 0]
theorem z46_eq : z46.toList = ws (List.replicate 8 0) := rfl

abbrev tw (w : World) (h : List UInt32) (b : List UInt8) : World := (((w.alloc (.cells (ws h).toArray 60)).alloc (.cells (cs b).toArray 41)).alloc (.cells z46 60)).alloc (.cells z46 60)
theorem tw_last (w : World) (h : List UInt32) (b : List UInt8) : Blk (tw w h b) (w.heap.size + 1 + 1 + 1) (ws (List.replicate 8 0)) 60 := Blk.newAt _ _ _ _ (by simp) _ rfl
theorem tw_all (w : World) (h : List UInt32) (b : List UInt8) (hh : h.length = 8) (w1 : World) (e : w1 = (tw w h b).setCells (w.heap.size + 1 + 1 + 1) 0 (ws h)) :
    Blk w1 w.heap.size (ws h) 60 ∧ Blk w1 (w.heap.size + 1) (cs b) 41 ∧ Blk w1 (w.heap.size + 1 + 1) (ws (List.replicate 8 0)) 60 ∧ Blk w1 (w.heap.size + 1 + 1 + 1) (ws h) 60 ∧ Below w.heap.size w w1 := by
  subst e
  refine ⟨?_, ?_, ?_, ?_, ?_⟩
  · exact Blk.setsO (by omega) _ (((Blk.new w _ _).old _).old _ |>.old _) 0
  · exact Blk.setsO (by omega) _ (((Blk.newAt (w.alloc _) _ _ _ (by simp) _ rfl).old _).old _) 0
  · exact Blk.setsO (by omega) _ ((Blk.newAt ((w.alloc _).alloc _) _ _ _ (by simp) _ rfl).old _) 0
  · exact (tw_last w h b).setsW _ (by rw [ws_length, ws_length, hh]; rfl)
  · exact below_sets (by omega) _ ((below3 w _ _ _).alloc (by simp; omega) _) 0

theorem Blk.eight {w : World} {g : Nat} {v0 v1 v2 v3 v4 v5 v6 v7 : UInt32} {t : TypeId} (b : Blk w g (ws [v0, v1, v2, v3, v4, v5, v6, v7]) t) :
    w.cell? ⟨g, 0, none⟩ = some (.int .u32 (v0.toNat : Int)) ∧ w.cell? ⟨g, 1, none⟩ = some (.int .u32 (v1.toNat : Int)) ∧ w.cell? ⟨g, 2, none⟩ = some (.int .u32 (v2.toNat : Int)) ∧ w.cell? ⟨g, 3, none⟩ = some (.int .u32 (v3.toNat : Int)) ∧
      w.cell? ⟨g, 4, none⟩ = some (.int .u32 (v4.toNat : Int)) ∧ w.cell? ⟨g, 5, none⟩ = some (.int .u32 (v5.toNat : Int)) ∧ w.cell? ⟨g, 6, none⟩ = some (.int .u32 (v6.toNat : Int)) ∧ w.cell? ⟨g, 7, none⟩ = some (.int .u32 (v7.toNat : Int)) ∧
      w.frozen? ⟨g, 0, none⟩ = false ∧ w.frozen? ⟨g, 1, none⟩ = false ∧ w.frozen? ⟨g, 2, none⟩ = false ∧ w.frozen? ⟨g, 3, none⟩ = false ∧ w.frozen? ⟨g, 4, none⟩ = false ∧ w.frozen? ⟨g, 5, none⟩ = false ∧ w.frozen? ⟨g, 6, none⟩ = false ∧ w.frozen? ⟨g, 7, none⟩ = false :=
  ⟨b.cell 0, b.cell 1, b.cell 2, b.cell 3, b.cell 4, b.cell 5, b.cell 6, b.cell 7, b.free 0, b.free 1, b.free 2, b.free 3, b.free 4, b.free 5, b.free 6, b.free 7⟩

theorem oRoundT (v0 v1 v2 v3 v4 v5 v6 v7 r0 r1 r2 r3 r4 r5 r6 r7 x y : UInt32) (hr : rnd [v0, v1, v2, v3, v4, v5, v6, v7] (y + x) = [r0, r1, r2, r3, r4, r5, r6, r7]) (w : World) :
    Calls Tryd.prog 40 #[.agg #[.int .u32 (v0.toNat : Int), .int .u32 (v1.toNat : Int), .int .u32 (v2.toNat : Int), .int .u32 (v3.toNat : Int), .int .u32 (v4.toNat : Int), .int .u32 (v5.toNat : Int), .int .u32 (v6.toNat : Int), .int .u32 (v7.toNat : Int)], .int .u32 (IntKind.u32.wrap ((y.toNat : Int) + (x.toNat : Int)))] w
      fun r w' => r = .returned (.agg #[.int .u32 (r0.toNat : Int), .int .u32 (r1.toNat : Int), .int .u32 (r2.toNat : Int), .int .u32 (r3.toNat : Int), .int .u32 (r4.toNat : Int), .int .u32 (r5.toNat : Int), .int .u32 (r6.toNat : Int), .int .u32 (r7.toNat : Int)]) ∧ Below w.heap.size w w' := by
  have := oRound w v0 v1 v2 v3 v4 v5 v6 v7 (y + x)
  rw [hr] at this
  rw [w_add]
  exact this

set_option maxHeartbeats 2000000 in
theorem oTake (w : World) (hK : Kon w) (h : List UInt32) (b : List UInt8) (hh : h.length = 8) (hl : b.length = 64) :
    Calls Tryd.prog 34 #[wv h, bv b] w fun r w' => r = .returned (wv (tk h b)) ∧ Below w.heap.size w w' := by
  have hsp := fun w => oSpread w b hl
  have HSP : Hid (∀ w, Calls Tryd.prog 39 #[bv b] w fun r w' => r = .returned (wv (schd b 64)) ∧ Below w.heap.size w w') := hsp
  clear hsp
  have HL : Hid ((ws h).length = 8) := by show _ = _; rw [ws_length, hh]
  have HB : Hid ((cs b).length = 64) := by show _ = _; rw [cs_length, hl]
  have HN : Hid (h.length = 8) := hh
  clear hh hl
  unfold wv bv at *
  go_enter Tryd.func34, Tryd.ntmps34
  go_wp2_with (first
    | (with_reducible refine at_ld 60 ?_; refine ld 60 (.tmp 2) 8 size46 _ Tryd.underlying60 rfl w.heap.size 0 _ HL.out (((Blk.new w _ _).old _).old _).whole rfl ?_)
    | (with_reducible refine at_st 60 ?_; refine st' 60 (.tmp 5) (.tmp 8) 8 size46 (w.heap.size + 1 + 1 + 1) 0 _ HL.out ws_one ((tw_last w h b).there 0 8 (by rw [ws_length]; decide)) rfl rfl ?_; intro w1 hw1; obtain ⟨b0, b1, b2, b3, hb⟩ := tw_all w h b HN.out w1 hw1; clear hw1)
    | (with_reducible refine at_ld 41 ?_; refine ld 41 (.tmp 3) 64 size48 _ Tryd.underlying41 rfl (w.heap.size + 1) 0 _ HB.out b1.whole rfl ?_)
    | (go_at_call 39; refine (HSP.out w1).mono ?_; rintro e w2 ⟨rfl, hb2⟩))
  have hs := b3.lt
  have d0 := b0.below hb2 b0.lt
  have d2 := b2.below hb2 b2.lt
  have d3 := b3.below hb2 b3.lt
  have hb3 := hb.trans (hb2.mono (by omega))
  clear b0 b1 b2 b3 hb hb2 hs
  go_loopw [6, 7, 11] (fun _ _ i wr => ∃ k : Nat, k ≤ 64 ∧ i = .int .i64 k ∧ Blk wr w.heap.size (ws h) 60 ∧ Blk wr (w.heap.size + 1 + 1) (ws (List.replicate 8 0)) 60 ∧ Blk wr (w.heap.size + 1 + 1 + 1) (ws (rnds h (schd b 64) k)) 60 ∧ Below w.heap.size w wr) (fun _ _ i _ => 64 - (intOf i).toNat)
  case atStart => exact ⟨0, by omega, rfl, d0, d2, d3, hb3⟩
  case round =>
    clear d0 d2 d3 hb3
    obtain ⟨k, hk, rfl, b0, b2, b3, hb⟩ := hrel
    by_cases hlt : k < 64
    · have h0 : (0 : Int) ≤ (k : Int) := by omega
      have h8 : (k : Int) < 64 := by omega
      obtain ⟨x, hx⟩ : ∃ x, (schd b 64).getD k 0 = x := ⟨_, rfl⟩
      obtain ⟨y, hy⟩ : ∃ x, sKs.getD k 0 = x := ⟨_, rfl⟩
      have c1 := ws_get (l := schd b 64) (i := k) (by rw [schd_length]; exact hlt)
      have hix := idx 68 64 Tryd.underlying68 (schd b 64) k
      have hK1 := (hK.below hb hK.lt).cell k hlt
      rw [hy] at hK1
      unfold wt at c1
      rw [hx] at c1
      have HR : Hid (rnds h (schd b 64) (k + 1) = rnd (rnds h (schd b 64) k) (y + x)) := by show _ = _; rw [rnds, hx, hy]
      clear hx hy
      replace hix := hix _ c1 hlt
      clear c1
      have hv : (rnds h (schd b 64) k).length = 8 := by rw [rnds_length]; exact HN.out
      generalize hgv : rnds h (schd b 64) k = v at b3 hv HR
      obtain ⟨v0, v1, v2, v3, v4, v5, v6, v7, rfl⟩ := ws_len8 hv
      clear hv hgv
      obtain ⟨q0, q1, q2, q3, q4, q5, q6, q7, p0, p1, p2, p3, p4, p5, p6, p7⟩ := b3.eight
      obtain ⟨r0, r1, r2, r3, r4, r5, r6, r7, hr⟩ := ws_len8 (v := rnd [v0, v1, v2, v3, v4, v5, v6, v7] (y + x)) (by rw [rnd_length]; rfl)
      have cR := oRoundT v0 v1 v2 v3 v4 v5 v6 v7 r0 r1 r2 r3 r4 r5 r6 r7 x y hr
      rw [hr] at HR
      have CR : Hid (∀ w, _) := cR
      clear cR hr
      go_wp2_with fail
      go_region_with (go_at_call 40; refine (CR.out wr.drew).mono ?_; rintro e w3 ⟨rfl, hb3⟩; have b4 := b3.dr.below hb3 b3.lt; obtain ⟨q0', q1', q2', q3', q4', q5', q6', q7', p0', p1', p2', p3', p4', p5', p6', p7'⟩ := b4.eight)
      all_goals
        go_wp2_with fail
        go_roundw
        case rel =>
          have hz := b3.lt
          refine ⟨k + 1, by omega, by go_num, ?_, ?_, ?_, ?_⟩
          · exact Blk.setsO (by omega) (ws [r0, r1, r2, r3, r4, r5, r6, r7]) (b0.dr.below hb3 b0.lt) 0
          · exact Blk.setsO (by omega) (ws [r0, r1, r2, r3, r4, r5, r6, r7]) (b2.dr.below hb3 b2.lt) 0
          · rw [HR.out]
            exact Blk.setsW b4 (ws [r0, r1, r2, r3, r4, r5, r6, r7]) rfl
          · exact below_sets (by omega) (ws [r0, r1, r2, r3, r4, r5, r6, r7]) (hb.drew.trans (hb3.mono (by show w.heap.size ≤ wr.heap.size; omega))) 0
        case measure => simp [intOf]; omega
    · obtain rfl : k = 64 := by omega
      have HV : Hid ((ws (rnds h (schd b 64) 64)).length = 8) := by show _ = _; rw [ws_length, rnds_length]; exact HN.out
      have HT : Hid ((ws (tk h b)).length = 8) := by show _ = _; rw [ws_length]; exact tk_length HN.out b
      have CA : Hid (∀ w, Calls Tryd.prog 41 #[.agg (ws h).toArray, .agg (ws (rnds h (schd b 64) 64)).toArray] w fun r w' => r = .returned (.agg (ws (tk h b)).toArray) ∧ Below w.heap.size w w') := fun w => oAdded w h _ HN.out (by rw [rnds_length]; exact HN.out)
      go_wp2_with (first
        | (with_reducible refine at_ld 60 ?_; refine ld 60 (.tmp 2) 8 size46 _ Tryd.underlying60 rfl w.heap.size 0 _ HL.out b0.whole rfl ?_)
        | (with_reducible refine at_ld 60 ?_; refine ld 60 (.tmp 5) 8 size46 _ Tryd.underlying60 rfl (w.heap.size + 1 + 1 + 1) 0 _ HV.out b3.whole rfl ?_)
        | (go_at_call 41; refine (CA.out wr).mono ?_; rintro e w4 ⟨rfl, hb4⟩; have b5 := b2.below hb4 b2.lt)
        | (with_reducible refine at_st 60 ?_; refine st 60 (.tmp 4) (.tmp 25) 8 size46 (w.heap.size + 1 + 1) 0 _ HT.out ws_one (b5.there 0 8 (by rw [ws_length]; decide)) rfl rfl ?_))
      have b6 := b5.setsW (ws (tk h b)) (by rw [HT.out]; rfl)
      have hz := b3.lt
      exact bodyPost_ret (v := .agg (ws (tk h b)).toArray) (res_blk Tryd.results34 _ _ (w.heap.size + 1 + 1) _ _ _ rfl b6 Tryd.underlying60 8 HT.out size46) rfl ⟨rfl, below_sets (by omega) _ (hb.trans (hb4.mono (by omega))) 0⟩

end Go.Proofs.YtpmdjailpdajkaaDoor
