/-
  The contracts of taken, of a table's Times, and of Times: the product. Condition: the table lies where the pointer leads.
-/
import Derived.Test.YtfgoomlgmepalaaFieldT
namespace Go.Proofs.Ytfgoomlgmepalaa
open Go.RowKit

theorem word_step {x k : Nat} : (x / 16 ^ k : Nat) / 16 = x / 16 ^ (k + 1) := by rw [Nat.div_div_eq_div_mul, Nat.pow_succ]

set_option maxRecDepth 100000 in
set_option maxHeartbeats 2000000 in
theorem oTaken (w : World) (g : Nat) (h p : Fe) (x : Nat) (hT : Tb w g (pr h)) (hx : x < 18446744073709551616) :
    Calls Try.prog 26 #[.pointer (some ⟨g, 0, none⟩), ev p, .int .u64 (x : Int)] w fun e w' => e = .returned (ev (tk h p x 16)) ∧ Below w.heap.size w w' := by
  have C1 : Hid (∀ w a, Calls Try.prog 23 #[.agg #[.int .u64 (hN a : Int), .int .u64 (lN a : Int)], .int .i64 4] w fun e w' => e = .returned (.agg #[.int .u64 (hN (txN a 4) : Int), .int .u64 (lN (txN a 4) : Int)]) ∧ Below w.heap.size w w') := fun w a => oRaise4 w a
  have C2 : Hid (∀ w a b, Calls Try.prog 16 #[.agg #[.int .u64 (hN a : Int), .int .u64 (lN a : Int)], .agg #[.int .u64 (hN b : Int), .int .u64 (lN b : Int)]] w fun e w' => e = .returned (.agg #[.int .u64 (hN (a ^^^ b) : Int), .int .u64 (lN (a ^^^ b) : Int)]) ∧ Below w.heap.size w w') := fun w a b => oAddE w a b
  have hgl := hT.lt
  unfold ev
  go_enter Try.func26, Try.ntmps26
  go_wp2_with fail
  obtain ⟨W, hW⟩ : ∃ W, W = (w.alloc (.cells #[.int .u64 (hN p : Int), .int .u64 (lN p : Int)] 25)).alloc (.cells #[.int .u64 0, .int .u64 0] 25) := ⟨_, rfl⟩
  rw [← hW]
  have b0 : Blk W w.heap.size (ec p) 25 := by rw [hW]; exact (Blk.new w _ _).old _
  have b1 : Blk W (w.heap.size + 1) [.int .u64 0, .int .u64 0] 25 := by rw [hW]; exact Blk.newAt (w.alloc _) _ _ _ (by simp) _ rfl
  have hb0 : Below w.heap.size w W := by rw [hW]; exact below2 w _ _
  clear hW
  go_loopw [2, 7] (fun x' i wr => ∃ k y : Nat, k ≤ 16 ∧ y = x / 16 ^ k ∧ x' = .int .u64 (y : Int) ∧ i = .int .i64 k ∧ Blk wr w.heap.size (ec (tk h p x k)) 25 ∧ Blk wr (w.heap.size + 1) [.int .u64 0, .int .u64 0] 25 ∧ Below w.heap.size w wr) (fun _ i _ => 16 - (intOf i).toNat)
  case atStart => exact ⟨0, x, by omega, by simp, rfl, rfl, b0, b1, hb0⟩
  case round =>
    clear b0 b1 hb0
    obtain ⟨k, y, hk, hy, rfl, rfl, b0, b1, hb0⟩ := hrel
    by_cases hlt : k < 16
    · have HN : Hid (tk h p x (k + 1) = txN (tk h p x k) 4 ^^^ pr h (y % 16)) := by show _ = _; rw [hy]; rfl
      have HY : Hid (y / 16 = x / 16 ^ (k + 1)) := by show _ = _; rw [hy, word_step]
      have hyx : y ≤ x := by rw [hy]; exact Nat.div_le_self _ _
      have hTr := hT.below hb0 hgl
      generalize tk h p x k = q at *
      obtain ⟨m, hm⟩ : ∃ m, m = y % 16 := ⟨_, rfl⟩
      rw [← hm] at HN
      have m16 : m < 16 := by omega
      have i0 : (0 : Int) ≤ (m : Int) := by omega
      have i1 : (m : Int) < 16 := by omega
      have i2 : (y : Int).tmod 16 = (m : Int) := by rw [Int.tmod_eq_emod_of_nonneg (by omega)]; omega
      have i3 : (y : Int) % 16 = (m : Int) := by omega
      have i4 : IntKind.u64.wrap (m : Int) = (m : Int) := by rw [IntKind.wrap_u64]; omega
      obtain ⟨y2, hy2⟩ : ∃ y2, y2 = y / 16 := ⟨_, rfl⟩
      rw [← hy2] at HY
      have i5 : (y : Int).tdiv 16 = (y2 : Int) := by rw [Int.tdiv_eq_ediv_of_nonneg (by omega)]; omega
      have i6 : (y : Int) / 16 = (y2 : Int) := by omega
      have i7 : IntKind.u64.wrap (y2 : Int) = (y2 : Int) := by rw [IntKind.wrap_u64]; omega
      have i8 : (0 : Int) ≤ (k : Int) := by omega
      have i9 : (k : Int) < 16 := by omega
      have t0 := hTr.hi m16
      have t1 := hTr.lo m16
      have c0 := b0.cell 0
      have c1 := b0.cell 1
      simp only [ec, List.getElem?_cons_zero, List.getElem?_cons_succ] at c0 c1
      have hgn : ¬ g = w.heap.size := by omega
      have hwl := b0.lt
      have hgr := hTr.lt
      clear hy hm hy2
      go_wp2_with fail
      go_region_with
        (first
        | (go_at_call 16; go_must (refine (C2.out w2 (txN q 4) (pr h m)).mono ?_); rw [← HN.out]; rintro e w3 ⟨rfl, hb3⟩; have T3 := T2.below hb3 T2.lt; have u0 := T3.hi m16; have u1 := T3.lo m16; have d3 := d2.below hb3 d2.lt; have e3 := e2.below hb3 e2.lt; have q3 := q2.trans (hb3.mono q2.size); have r0 := d3.cell 0; have r1 := d3.cell 1; have r2 := d3.free 0; have r3 := d3.free 1; simp only [ec, List.getElem?_cons_zero, List.getElem?_cons_succ] at r0 r1)
        | (go_at_call 23; go_must (refine (C1.out wr.drew q).mono ?_); rintro e w2 ⟨rfl, hb2⟩; have T2 := hTr.dr.below hb2 hgr; have d2 := b0.dr.below hb2 hwl; have e2 := b1.dr.below hb2 b1.lt; have q2 := hb0.drew.trans (hb2.mono hb0.size); have s0 := T2.hi m16; have s1 := T2.lo m16))
      all_goals
        go_wp2_with fail
        go_roundw
        case rel =>
          have d4 := (d3.setC 0 (.int .u64 (hN (tk h p x (k + 1)) : Int))).setC 1 (.int .u64 (lN (tk h p x (k + 1)) : Int))
          exact ⟨k + 1, y2, by omega, HY.out, rfl, by go_num, d4, (e3.setO (by simp) _).setO (by simp) _, (q3.setCell (Nat.le_refl _) _).setCell (Nat.le_refl _) _⟩
        case measure => simp [intOf]; omega
    · obtain rfl : k = 16 := by omega
      have c0 := b0.cell 0
      have c1 := b0.cell 1
      have e0 := b1.cell 0
      have e1 := b1.cell 1
      have e2 := b1.free 0
      have e3 := b1.free 1
      simp only [ec, List.getElem?_cons_zero, List.getElem?_cons_succ] at c0 c1 e0 e1
      have b2 := (b1.setC 0 (.int .u64 (hN (tk h p x 16) : Int))).setC 1 (.int .u64 (lN (tk h p x 16) : Int))
      have B2 : Hid (Blk _ (w.heap.size + 1) (ec (tk h p x 16)) 25) := b2
      clear b2 hy
      go_wp2_with fail
      exact bodyPost_ret (v := ev (tk h p x 16)) (res_el Try.results26 _ _ (w.heap.size + 1) _ rfl B2.out) rfl ⟨rfl, (hb0.setCell (by simp) _).setCell (by simp) _⟩

set_option maxRecDepth 100000 in
set_option maxHeartbeats 2000000 in
theorem oTimesT (w : World) (g : Nat) (h a : Fe) (hT : Tb w g (pr h)) :
    Calls Try.prog 15 #[.pointer (some ⟨g, 0, none⟩), ev a] w fun e w' => e = .returned (ev (fmul a h)) ∧ Below w.heap.size w w' := by
  have hgl := hT.lt
  obtain ⟨q, hq⟩ : ∃ q, q = tk h 0 (lN a) 16 := ⟨_, rfl⟩
  have C1 : Hid (∀ w, Tb w g (pr h) → Calls Try.prog 26 #[.pointer (some ⟨g, 0, none⟩), .agg #[.int .u64 0, .int .u64 0], .int .u64 (lN a : Int)] w fun e w' => e = .returned (.agg #[.int .u64 (hN q : Int), .int .u64 (lN q : Int)]) ∧ Below w.heap.size w w') := fun w hT => by
    have := oTaken w g h 0 (lN a) hT (lN_lt a)
    rw [ev_zero, ← hq] at this
    exact this
  have C2 : Hid (∀ w, Tb w g (pr h) → Calls Try.prog 26 #[.pointer (some ⟨g, 0, none⟩), .agg #[.int .u64 (hN q : Int), .int .u64 (lN q : Int)], .int .u64 (hN a : Int)] w fun e w' => e = .returned (.agg #[.int .u64 (hN (fmul a h) : Int), .int .u64 (lN (fmul a h) : Int)]) ∧ Below w.heap.size w w') := fun w hT => by
    have := oTaken w g h q (hN a) hT (hN_lt a)
    rw [hq, show tk h (tk h 0 (lN a) 16) (hN a) 16 = fmul a h from tk_mul a h, ← hq] at this
    exact this
  clear hq
  unfold ev
  generalize fmul a h = z at *
  go_enter Try.func15, Try.ntmps15
  go_wp2_with fail
  obtain ⟨W, hW⟩ : ∃ W, W = (w.alloc (.cells #[.int .u64 (hN a : Int), .int .u64 (lN a : Int)] 25)).alloc (.cells #[.int .u64 0, .int .u64 0] 25) := ⟨_, rfl⟩
  rw [← hW]
  have b0 : Blk W w.heap.size (ec a) 25 := by rw [hW]; exact (Blk.new w _ _).old _
  have b1 : Blk W (w.heap.size + 1) [.int .u64 0, .int .u64 0] 25 := by rw [hW]; exact Blk.newAt (w.alloc _) _ _ _ (by simp) _ rfl
  have hb0 : Below w.heap.size w W := by rw [hW]; exact below2 w _ _
  have T1 := hT.below hb0 hgl
  clear hW
  have c0 := b0.cell 0
  have c1 := b0.cell 1
  simp only [ec, List.getElem?_cons_zero, List.getElem?_cons_succ] at c0 c1
  go_region_held3 (fun w' => w'.cell? ⟨w.heap.size, 0, none⟩ = some (.int .u64 (hN a : Int)) ∧ w'.cell? ⟨w.heap.size, 1, none⟩ = some (.int .u64 (lN a : Int)))
    (first | (exact ⟨v0, v1⟩) | (exact ⟨u0, u1⟩) | (exact ⟨s0, s1⟩) | (exact ⟨c0, c1⟩) | go_keep)
    (first
    | (go_at_call 26; refine (C2.out w2 T2).mono ?_; rintro e w3 ⟨rfl, hb3⟩; have d3 := d2.below hb3 d2.lt; have e3 := e2.below hb3 e2.lt; have q3 := q2.trans (hb3.mono q2.size); have u0 := d3.cell 0; have u1 := d3.cell 1; have r0 := e3.cell 0; have r1 := e3.cell 1; have r2 := e3.free 0; have r3 := e3.free 1; have d4 := (d3.setO (p := ⟨w.heap.size + 1, 0, none⟩) (by simp) (.int .u64 (hN z : Int))).setO (p := ⟨w.heap.size + 1, 1, none⟩) (by simp) (.int .u64 (lN z : Int)); have v0 := d4.cell 0; have v1 := d4.cell 1; simp only [ec, List.getElem?_cons_zero, List.getElem?_cons_succ] at u0 u1 v0 v1 r0 r1)
    | (go_at_call 26; refine (C1.out W.drew T1.dr).mono ?_; rintro e w2 ⟨rfl, hb2⟩; have T2 := T1.dr.below hb2 T1.lt; have d2 := b0.dr.below hb2 b0.lt; have e2 := b1.dr.below hb2 b1.lt; have q2 := hb0.drew.trans (hb2.mono hb0.size); have s0 := d2.cell 0; have s1 := d2.cell 1; simp only [ec, List.getElem?_cons_zero, List.getElem?_cons_succ] at s0 s1))
  have b2 := (e3.setC 0 (.int .u64 (hN z : Int))).setC 1 (.int .u64 (lN z : Int))
  have B2 : Hid (Blk _ (w.heap.size + 1) (ec z) 25) := b2
  clear b2
  go_wp2_with fail
  exact bodyPost_ret (v := ev z) (res_el Try.results15 _ _ (w.heap.size + 1) z rfl B2.out) rfl ⟨rfl, (q3.setCell (by simp) _).setCell (by simp) _⟩

set_option maxRecDepth 100000 in
set_option maxHeartbeats 2000000 in
theorem oTimesE (w : World) (a b : Fe) : Calls Try.prog 13 #[ev a, ev b] w fun e w' => e = .returned (ev (fmul a b)) ∧ Below w.heap.size w w' := by
  have C1 : Hid (∀ w, Calls Try.prog 11 #[.agg #[.int .u64 (hN a : Int), .int .u64 (lN a : Int)]] w fun e w' => ∃ g, e = .returned (.pointer (some ⟨g, 0, none⟩)) ∧ w.heap.size ≤ g ∧ Tb w' g (pr a) ∧ Below w.heap.size w w') := fun w => oBuildF w a
  have C2 : Hid (∀ w g, Tb w g (pr a) → Calls Try.prog 15 #[.pointer (some ⟨g, 0, none⟩), .agg #[.int .u64 (hN b : Int), .int .u64 (lN b : Int)]] w fun e w' => e = .returned (.agg #[.int .u64 (hN (fmul a b) : Int), .int .u64 (lN (fmul a b) : Int)]) ∧ Below w.heap.size w w') := fun w g hT => by
    have := oTimesT w g a b hT
    rw [fmul_comm b a] at this
    exact this
  unfold ev
  generalize fmul a b = z at *
  go_enter Try.func13, Try.ntmps13
  go_wp2_with fail
  obtain ⟨W, hW⟩ : ∃ W, W = ((w.alloc (.cells #[.int .u64 (hN a : Int), .int .u64 (lN a : Int)] 25)).alloc (.cells #[.int .u64 (hN b : Int), .int .u64 (lN b : Int)] 25)).alloc (.cells #[.int .u64 0, .int .u64 0] 25) := ⟨_, rfl⟩
  rw [← hW]
  have b0 : Blk W w.heap.size (ec a) 25 := by rw [hW]; exact ((Blk.new w _ _).old _).old _
  have b1 : Blk W (w.heap.size + 1) (ec b) 25 := by rw [hW]; exact (Blk.newAt (w.alloc _) _ _ _ (by simp) _ rfl).old _
  have b2 : Blk W (w.heap.size + 1 + 1) [.int .u64 0, .int .u64 0] 25 := by rw [hW]; exact Blk.newAt ((w.alloc _).alloc _) _ _ _ (by simp) _ rfl
  have hb0 : Below w.heap.size w W := by rw [hW]; exact below3 w _ _ _
  clear hW
  have c0 := b0.cell 0
  have c1 := b0.cell 1
  have k0 := b1.cell 0
  have k1 := b1.cell 1
  simp only [ec, List.getElem?_cons_zero, List.getElem?_cons_succ] at c0 c1 k0 k1
  go_region_held3 (fun w' => w'.cell? ⟨w.heap.size, 0, none⟩ = some (.int .u64 (hN a : Int)) ∧ w'.cell? ⟨w.heap.size, 1, none⟩ = some (.int .u64 (lN a : Int)) ∧ w'.cell? ⟨w.heap.size + 1, 0, none⟩ = some (.int .u64 (hN b : Int)) ∧ w'.cell? ⟨w.heap.size + 1, 1, none⟩ = some (.int .u64 (lN b : Int)))
    (first | (exact ⟨v0, v1, v2, v3⟩) | (exact ⟨u0, u1, u2, u3⟩) | (exact ⟨s0, s1, s2, s3⟩) | (exact ⟨c0, c1, k0, k1⟩) | go_keep)
    (first
    | (go_at_call 15; refine (C2.out w2 g2 T2).mono ?_; rintro e w3 ⟨rfl, hb3⟩; have d3 := d2.below hb3 d2.lt; have e3 := e2.below hb3 e2.lt; have f3 := f2'.below hb3 f2'.lt; have q3 := q2.trans (hb3.mono q2.size); have u0 := d3.cell 0; have u1 := d3.cell 1; have u2 := e3.cell 0; have u3 := e3.cell 1; have r0 := f3.cell 0; have r1 := f3.cell 1; have r2 := f3.free 0; have r3 := f3.free 1; have d4 := (d3.setO (p := ⟨w.heap.size + 1 + 1, 0, none⟩) (by simp; omega) (.int .u64 (hN z : Int))).setO (p := ⟨w.heap.size + 1 + 1, 1, none⟩) (by simp; omega) (.int .u64 (lN z : Int)); have e4 := (e3.setO (p := ⟨w.heap.size + 1 + 1, 0, none⟩) (by simp) (.int .u64 (hN z : Int))).setO (p := ⟨w.heap.size + 1 + 1, 1, none⟩) (by simp) (.int .u64 (lN z : Int)); have v0 := d4.cell 0; have v1 := d4.cell 1; have v2 := e4.cell 0; have v3 := e4.cell 1; simp only [ec, List.getElem?_cons_zero, List.getElem?_cons_succ] at u0 u1 u2 u3 v0 v1 v2 v3 r0 r1)
    | (go_at_call 11; refine (C1.out W.drew).mono ?_; rintro e w2 ⟨g2, rfl, hg2, T2, hb2⟩; have d2 := b0.dr.below hb2 b0.lt; have e2 := b1.dr.below hb2 b1.lt; have f2' := b2.dr.below hb2 b2.lt; have q2 := hb0.drew.trans (hb2.mono hb0.size); have s0 := d2.cell 0; have s1 := d2.cell 1; have s2 := e2.cell 0; have s3 := e2.cell 1; simp only [ec, List.getElem?_cons_zero, List.getElem?_cons_succ] at s0 s1 s2 s3))
  have b3 := (f3.setC 0 (.int .u64 (hN z : Int))).setC 1 (.int .u64 (lN z : Int))
  have B3 : Hid (Blk _ (w.heap.size + 1 + 1) (ec z) 25) := b3
  clear b3
  go_wp2_with fail
  exact bodyPost_ret (v := ev z) (res_el Try.results13 _ _ (w.heap.size + 1 + 1) z rfl B3.out) rfl ⟨rfl, (q3.setCell (by simp; omega) _).setCell (by simp; omega) _⟩

end Go.Proofs.Ytfgoomlgmepalaa
