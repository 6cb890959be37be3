/-
  5 texts in one. No statement of the seat is proved here.
-/
import Derived.Test.YtlenmkhmkommcaaGreatG14

/-
  The contracts of taken and of a table's Times: the product; the table may lie within a greater variable. Condition: the table lies where the pointer leads.
-/
namespace Go.Proofs.YtlenmkhmkommcaaGreat
open Go.RowKit

theorem word_step {x k : Nat} : (x / 16 ^ k : Nat) / 16 = x / 16 ^ (k + 1) := by rw [Nat.div_div_eq_div_mul, Nat.pow_succ]

/-- From place o of block g on lie sixteen elements, the i-th one f i. -/
def TbA (w : World) (g o : Nat) (f : Nat → Fe) : Prop :=
  g < w.heap.size ∧ ∀ i, i < 16 → w.cell? ⟨g, o + i * 2, none⟩ = some (.int .u64 (hN (f i) : Int)) ∧ w.cell? ⟨g, o + i * 2 + 1, none⟩ = some (.int .u64 (lN (f i) : Int))
theorem TbA.lt {w : World} {g o : Nat} {f : Nat → Fe} (h : TbA w g o f) : g < w.heap.size := h.1
theorem TbA.hi {w : World} {g o : Nat} {f : Nat → Fe} (h : TbA w g o f) {i : Nat} (hi : i < 16) : w.cell? ⟨g, o + i * 2, none⟩ = some (.int .u64 (hN (f i) : Int)) := (h.2 i hi).1
theorem TbA.lo {w : World} {g o : Nat} {f : Nat → Fe} (h : TbA w g o f) {i : Nat} (hi : i < 16) : w.cell? ⟨g, o + i * 2 + 1, none⟩ = some (.int .u64 (lN (f i) : Int)) := (h.2 i hi).2
theorem TbA.below {w w' : World} {g o : Nat} {f : Nat → Fe} (h : TbA w g o f) {B : Nat} (hb : Below B w w') (hB : g < B) : TbA w' g o f :=
  ⟨Nat.lt_of_lt_of_le h.1 hb.size, fun i hi => ⟨(hb.cell (p := ⟨g, o + i * 2, none⟩) hB).trans (h.hi hi), (hb.cell (p := ⟨g, o + i * 2 + 1, none⟩) hB).trans (h.lo hi)⟩⟩
theorem TbA.dr {w : World} {g o : Nat} {f : Nat → Fe} (h : TbA w g o f) : TbA w.drew g o f := h

set_option maxRecDepth 100000 in
set_option maxHeartbeats 2000000 in
theorem oTakenA (w : World) (g o : Nat) (h p : Fe) (x : Nat) (hT : TbA w g o (pr h)) (hx : x < 18446744073709551616) :
    Calls Tryz.prog 159 #[.pointer (some ⟨g, o, none⟩), ev p, .int .u64 (x : Int)] w fun e w' => e = .returned (ev (tkF h p x 16)) ∧ Below w.heap.size w w' := by
  have C1 : Hid (∀ w a, Calls Tryz.prog 148 #[.agg #[.int .u64 (hN a : Int), .int .u64 (lN a : Int)], .int .i64 4] w fun e w' => e = .returned (.agg #[.int .u64 (hN (txN a 4) : Int), .int .u64 (lN (txN a 4) : Int)]) ∧ Below w.heap.size w w') := fun w a => oRaise4 w a
  have C2 : Hid (∀ w a b, Calls Tryz.prog 149 #[.agg #[.int .u64 (hN a : Int), .int .u64 (lN a : Int)], .agg #[.int .u64 (hN b : Int), .int .u64 (lN b : Int)]] w fun e w' => e = .returned (.agg #[.int .u64 (hN (a ^^^ b) : Int), .int .u64 (lN (a ^^^ b) : Int)]) ∧ Below w.heap.size w w') := fun w a b => oAddE w a b
  have hgl := hT.lt
  unfold ev
  go_enter Tryz.func159, Tryz.ntmps159
  go_wp2_with fail
  obtain ⟨W, hW⟩ : ∃ W, W = (w.alloc (.cells #[.int .u64 (hN p : Int), .int .u64 (lN p : Int)] 211)).alloc (.cells #[.int .u64 0, .int .u64 0] 211) := ⟨_, rfl⟩
  rw [← hW]
  have b0 : Blk W w.heap.size (ec p) 211 := by rw [hW]; exact (Blk.new w _ _).old _
  have b1 : Blk W (w.heap.size + 1) [.int .u64 0, .int .u64 0] 211 := by rw [hW]; exact Blk.newAt (w.alloc _) _ _ _ (by simp) _ rfl
  have hb0 : Below w.heap.size w W := by rw [hW]; exact below2 w _ _
  clear hW
  go_loopw [2, 7] (fun x' i wr => ∃ k y : Nat, k ≤ 16 ∧ y = x / 16 ^ k ∧ x' = .int .u64 (y : Int) ∧ i = .int .i64 k ∧ Blk wr w.heap.size (ec (tkF h p x k)) 211 ∧ Blk wr (w.heap.size + 1) [.int .u64 0, .int .u64 0] 211 ∧ Below w.heap.size w wr) (fun _ i _ => 16 - (intOf i).toNat)
  case atStart => exact ⟨0, x, by omega, by simp, rfl, rfl, b0, b1, hb0⟩
  case round =>
    clear b0 b1 hb0
    obtain ⟨k, y, hk, hy, rfl, rfl, b0, b1, hb0⟩ := hrel
    by_cases hlt : k < 16
    · have HN : Hid (tkF h p x (k + 1) = txN (tkF h p x k) 4 ^^^ pr h (y % 16)) := by show _ = _; rw [hy]; rfl
      have HY : Hid (y / 16 = x / 16 ^ (k + 1)) := by show _ = _; rw [hy, word_step]
      have hyx : y ≤ x := by rw [hy]; exact Nat.div_le_self _ _
      have hTr := hT.below hb0 hgl
      generalize tkF h p x k = q at *
      obtain ⟨m, hm⟩ : ∃ m, m = y % 16 := ⟨_, rfl⟩
      rw [← hm] at HN
      have m16 : m < 16 := by omega
      have i0 : (0 : Int) ≤ (m : Int) := by omega
      have i1 : (m : Int) < 16 := by omega
      have i2 : (y : Int).tmod 16 = (m : Int) := by rw [Int.tmod_eq_emod_of_nonneg (by omega)]; omega
      have i3 : (y : Int) % 16 = (m : Int) := by omega
      have i4 : IntKind.u64.wrap (m : Int) = (m : Int) := by rw [IntKind.wrap_u64]; omega
      obtain ⟨y2, hy2⟩ : ∃ y2, y2 = y / 16 := ⟨_, rfl⟩
      rw [← hy2] at HY
      have i5 : (y : Int).tdiv 16 = (y2 : Int) := by rw [Int.tdiv_eq_ediv_of_nonneg (by omega)]; omega
      have i6 : (y : Int) / 16 = (y2 : Int) := by omega
      have i7 : IntKind.u64.wrap (y2 : Int) = (y2 : Int) := by rw [IntKind.wrap_u64]; omega
      have i8 : (0 : Int) ≤ (k : Int) := by omega
      have i9 : (k : Int) < 16 := by omega
      have t0 := hTr.hi m16
      have t1 := hTr.lo m16
      have c0 := b0.cell 0
      have c1 := b0.cell 1
      simp only [ec, List.getElem?_cons_zero, List.getElem?_cons_succ] at c0 c1
      have hgn : ¬ g = w.heap.size := by omega
      have hwl := b0.lt
      have hgr := hTr.lt
      clear hy hm hy2
      go_wp2_with fail
      go_region_with
        (first
        | (go_at_call 149; go_must (refine (C2.out w2 (txN q 4) (pr h m)).mono ?_); rw [← HN.out]; rintro e w3 ⟨rfl, hb3⟩; have T3 := T2.below hb3 T2.lt; have u0 := T3.hi m16; have u1 := T3.lo m16; have d3 := d2.below hb3 d2.lt; have e3 := e2.below hb3 e2.lt; have q3 := q2.trans (hb3.mono q2.size); have r0 := d3.cell 0; have r1 := d3.cell 1; have r2 := d3.free 0; have r3 := d3.free 1; simp only [ec, List.getElem?_cons_zero, List.getElem?_cons_succ] at r0 r1)
        | (go_at_call 148; go_must (refine (C1.out wr.drew q).mono ?_); rintro e w2 ⟨rfl, hb2⟩; have T2 := hTr.dr.below hb2 hgr; have d2 := b0.dr.below hb2 hwl; have e2 := b1.dr.below hb2 b1.lt; have q2 := hb0.drew.trans (hb2.mono hb0.size); have s0 := T2.hi m16; have s1 := T2.lo m16))
      all_goals
        go_wp2_with fail
        go_roundw
        case rel =>
          have d4 := (d3.setC 0 (.int .u64 (hN (tkF h p x (k + 1)) : Int))).setC 1 (.int .u64 (lN (tkF h p x (k + 1)) : Int))
          exact ⟨k + 1, y2, by omega, HY.out, rfl, by go_num, d4, (e3.setO (by simp) _).setO (by simp) _, (q3.setCell (Nat.le_refl _) _).setCell (Nat.le_refl _) _⟩
        case measure => simp [intOf]; omega
    · obtain rfl : k = 16 := by omega
      have c0 := b0.cell 0
      have c1 := b0.cell 1
      have e0 := b1.cell 0
      have e1 := b1.cell 1
      have e2 := b1.free 0
      have e3 := b1.free 1
      simp only [ec, List.getElem?_cons_zero, List.getElem?_cons_succ] at c0 c1 e0 e1
      have b2 := (b1.setC 0 (.int .u64 (hN (tkF h p x 16) : Int))).setC 1 (.int .u64 (lN (tkF h p x 16) : Int))
      have B2 : Hid (Blk _ (w.heap.size + 1) (ec (tkF h p x 16)) 211) := b2
      clear b2 hy
      go_wp2_with fail
      exact bodyPost_ret (v := ev (tkF h p x 16)) (res_el Tryz.results159 _ _ (w.heap.size + 1) _ rfl B2.out) rfl ⟨rfl, (hb0.setCell (by simp) _).setCell (by simp) _⟩

set_option maxRecDepth 100000 in
set_option maxHeartbeats 2000000 in
theorem oTimesTA (w : World) (g o : Nat) (h a : Fe) (hT : TbA w g o (pr h)) :
    Calls Tryz.prog 158 #[.pointer (some ⟨g, o, none⟩), ev a] w fun e w' => e = .returned (ev (fmul a h)) ∧ Below w.heap.size w w' := by
  have hgl := hT.lt
  obtain ⟨q, hq⟩ : ∃ q, q = tkF h 0 (lN a) 16 := ⟨_, rfl⟩
  have C1 : Hid (∀ w, TbA w g o (pr h) → Calls Tryz.prog 159 #[.pointer (some ⟨g, o, none⟩), .agg #[.int .u64 0, .int .u64 0], .int .u64 (lN a : Int)] w fun e w' => e = .returned (.agg #[.int .u64 (hN q : Int), .int .u64 (lN q : Int)]) ∧ Below w.heap.size w w') := fun w hT => by
    have := oTakenA w g o h 0 (lN a) hT (lN_lt a)
    rw [ev_zero, ← hq] at this
    exact this
  have C2 : Hid (∀ w, TbA w g o (pr h) → Calls Tryz.prog 159 #[.pointer (some ⟨g, o, none⟩), .agg #[.int .u64 (hN q : Int), .int .u64 (lN q : Int)], .int .u64 (hN a : Int)] w fun e w' => e = .returned (.agg #[.int .u64 (hN (fmul a h) : Int), .int .u64 (lN (fmul a h) : Int)]) ∧ Below w.heap.size w w') := fun w hT => by
    have := oTakenA w g o h q (hN a) hT (hN_lt a)
    rw [hq, show tkF h (tkF h 0 (lN a) 16) (hN a) 16 = fmul a h from tk_mul a h, ← hq] at this
    exact this
  clear hq
  unfold ev
  generalize fmul a h = z at *
  go_enter Tryz.func158, Tryz.ntmps158
  go_wp2_with fail
  obtain ⟨W, hW⟩ : ∃ W, W = (w.alloc (.cells #[.int .u64 (hN a : Int), .int .u64 (lN a : Int)] 211)).alloc (.cells #[.int .u64 0, .int .u64 0] 211) := ⟨_, rfl⟩
  rw [← hW]
  have b0 : Blk W w.heap.size (ec a) 211 := by rw [hW]; exact (Blk.new w _ _).old _
  have b1 : Blk W (w.heap.size + 1) [.int .u64 0, .int .u64 0] 211 := by rw [hW]; exact Blk.newAt (w.alloc _) _ _ _ (by simp) _ rfl
  have hb0 : Below w.heap.size w W := by rw [hW]; exact below2 w _ _
  have T1 := hT.below hb0 hgl
  clear hW
  have c0 := b0.cell 0
  have c1 := b0.cell 1
  simp only [ec, List.getElem?_cons_zero, List.getElem?_cons_succ] at c0 c1
  go_region_held3 (fun w' => w'.cell? ⟨w.heap.size, 0, none⟩ = some (.int .u64 (hN a : Int)) ∧ w'.cell? ⟨w.heap.size, 1, none⟩ = some (.int .u64 (lN a : Int)))
    (first | (exact ⟨v0, v1⟩) | (exact ⟨u0, u1⟩) | (exact ⟨s0, s1⟩) | (exact ⟨c0, c1⟩) | go_keep)
    (first
    | (go_at_call 159; refine (C2.out w2 T2).mono ?_; rintro e w3 ⟨rfl, hb3⟩; have d3 := d2.below hb3 d2.lt; have e3 := e2.below hb3 e2.lt; have q3 := q2.trans (hb3.mono q2.size); have u0 := d3.cell 0; have u1 := d3.cell 1; have r0 := e3.cell 0; have r1 := e3.cell 1; have r2 := e3.free 0; have r3 := e3.free 1; have d4 := (d3.setO (p := ⟨w.heap.size + 1, 0, none⟩) (by simp) (.int .u64 (hN z : Int))).setO (p := ⟨w.heap.size + 1, 1, none⟩) (by simp) (.int .u64 (lN z : Int)); have v0 := d4.cell 0; have v1 := d4.cell 1; simp only [ec, List.getElem?_cons_zero, List.getElem?_cons_succ] at u0 u1 v0 v1 r0 r1)
    | (go_at_call 159; refine (C1.out W.drew T1.dr).mono ?_; rintro e w2 ⟨rfl, hb2⟩; have T2 := T1.dr.below hb2 T1.lt; have d2 := b0.dr.below hb2 b0.lt; have e2 := b1.dr.below hb2 b1.lt; have q2 := hb0.drew.trans (hb2.mono hb0.size); have s0 := d2.cell 0; have s1 := d2.cell 1; simp only [ec, List.getElem?_cons_zero, List.getElem?_cons_succ] at s0 s1))
  have b2 := (e3.setC 0 (.int .u64 (hN z : Int))).setC 1 (.int .u64 (lN z : Int))
  have B2 : Hid (Blk _ (w.heap.size + 1) (ec z) 211) := b2
  clear b2
  go_wp2_with fail
  exact bodyPost_ret (v := ev z) (res_el Tryz.results158 _ _ (w.heap.size + 1) z rfl B2.out) rfl ⟨rfl, (q3.setCell (by simp) _).setCell (by simp) _⟩

end Go.Proofs.YtlenmkhmkommcaaGreat

/-
  The contract of a table's Hash: block by block. Condition: the table lies where the pointer leads; at most 1000 bytes.
-/
namespace Go.Proofs.YtlenmkhmkommcaaGreat
open Go.RowKit

/-- How long a slice is. -/
def slLen : Value → Nat | .slice _ n _ => n | _ => 0
theorem feB_take (l : List UInt8) : feB (l.take 16) = feB l := by
  have := feB_pad l 0
  rw [List.replicate_zero, List.append_nil] at this
  exact this

set_option maxRecDepth 100000 in
set_option maxHeartbeats 2000000 in
theorem oHashFA (w : World) (g o : Nat) (h f : Fe) (hT : TbA w g o (pr h)) {pb : Option Addr} {n cb : Nat} {l : List UInt8} (hB : Bs w pb n cb l) (hn : n ≤ 1000) :
    Calls Tryz.prog 153 #[.pointer (some ⟨g, o, none⟩), ev f, .slice pb n cb] w fun e w' => e = .returned (ev (hashF h f l)) ∧ Below w.heap.size w w' := by
  have C1 : Hid (∀ w a b, Calls Tryz.prog 149 #[.agg #[.int .u64 (hN a : Int), .int .u64 (lN a : Int)], .agg #[.int .u64 (hN b : Int), .int .u64 (lN b : Int)]] w fun e w' => e = .returned (.agg #[.int .u64 (hN (a ^^^ b) : Int), .int .u64 (lN (a ^^^ b) : Int)]) ∧ Below w.heap.size w w') := fun w a b => oAddE w a b
  have C2 : Hid (∀ w a, TbA w g o (pr h) → Calls Tryz.prog 158 #[.pointer (some ⟨g, o, none⟩), .agg #[.int .u64 (hN a : Int), .int .u64 (lN a : Int)]] w fun e w' => e = .returned (.agg #[.int .u64 (hN (fmul a h) : Int), .int .u64 (lN (fmul a h) : Int)]) ∧ Below w.heap.size w w') := fun w a hT => oTimesTA w g o h a hT
  have hgl := hT.lt
  have HL : Hid (l.length = n) := hB.len
  unfold ev
  go_enter Tryz.func153, Tryz.ntmps153
  go_wp2_with fail
  obtain ⟨W, hW⟩ : ∃ W, W = (w.alloc (.cells #[.int .u64 (hN f : Int), .int .u64 (lN f : Int)] 211)).alloc (.cells #[.int .u64 0, .int .u64 0] 211) := ⟨_, rfl⟩
  rw [← hW]
  have b0 : Blk W w.heap.size (ec f) 211 := by rw [hW]; exact (Blk.new w _ _).old _
  have b1 : Blk W (w.heap.size + 1) [.int .u64 0, .int .u64 0] 211 := by rw [hW]; exact Blk.newAt (w.alloc _) _ _ _ (by simp) _ rfl
  have hb0 : Below w.heap.size w W := by rw [hW]; exact below2 w _ _
  clear hW
  go_loopw [2] (fun v wr => ∃ (k m : Nat) (py : Option Addr) (cy : Nat), (m = n - 16 * k ∧ 16 * k < n + 16) ∧ v = .slice py m cy ∧ Bs w py m cy (l.drop (16 * k)) ∧ Blk wr w.heap.size (ec (hsh h f l k)) 211 ∧ Blk wr (w.heap.size + 1) [.int .u64 0, .int .u64 0] 211 ∧ Below w.heap.size w wr) (fun v _ => slLen v)
  case atStart => exact ⟨0, n, pb, cb, ⟨by omega, by omega⟩, rfl, hB, b0, b1, hb0⟩
  case round =>
    clear b0 b1 hb0
    obtain ⟨k, m, py, cy, hkm, rfl, hBy, b0, b1, hb0⟩ := hrel
    have hTr := hT.below hb0 hgl
    by_cases hlt : 0 < m
    · have HN : Hid (hsh h f l (k + 1) = fmul (hsh h f l k ^^^ feB (l.drop (16 * k))) h) := by show _ = _; rw [← feB_take (l.drop (16 * k))]; rfl
      have HK : Hid (m = n - 16 * k ∧ 16 * k < n + 16) := hkm
      have hBr := hBy.below hb0 (Nat.le_refl _)
      obtain ⟨t, ht⟩ : ∃ t, t = min 16 m := ⟨_, rfl⟩
      obtain ⟨a', c', hcut, hcB, _⟩ := hBy.cutLow t (by omega)
      have hB2 := hcB w hBy
      have i0 : (0 : Int) < (m : Int) := by omega
      have i1 : (if (m : Int) < 16 then (m : Int) else 16) = (t : Int) := by split <;> omega
      have HD : Hid ((l.drop (16 * k)).drop t = l.drop (16 * (k + 1))) := by
        show _ = _
        rw [List.drop_drop]
        have := HL.out
        have := HK.out
        by_cases h16 : 16 ≤ m
        · rw [show 16 * k + t = 16 * (k + 1) from by omega]
        · rw [List.drop_eq_nil_of_le (by omega), List.drop_eq_nil_of_le (by omega)]
      have HM : Hid (t = min 16 m) := ht
      obtain ⟨m2, hm2⟩ : ∃ m2, m2 = m - t := ⟨_, rfl⟩
      rw [← hm2] at hcut hB2
      have HM2 : Hid (m2 = m - t) := hm2
      clear hkm ht hcB hm2
      generalize hsh h f l k = y at *
      generalize l.drop (16 * k) = L at *
      have c0 := b0.cell 0
      have c1 := b0.cell 1
      simp only [ec, List.getElem?_cons_zero, List.getElem?_cons_succ] at c0 c1
      go_wp2_with fail
      go_region_with (first
        | (go_at_call 158; refine (C2.out w3 (y ^^^ feB L) T3).mono ?_; rw [← HN.out]; rintro e w4 ⟨rfl, hb4⟩; have d4 := d3.below hb4 d3.lt; have e4 := e3.below hb4 e3.lt; have q4 := q3.trans (hb4.mono q3.size); have r0 := d4.cell 0; have r1 := d4.cell 1; have r2 := d4.free 0; have r3 := d4.free 1; simp only [ec, List.getElem?_cons_zero, List.getElem?_cons_succ] at r0 r1)
        | (go_at_call 149; refine (C1.out w2 y (feB L)).mono ?_; rintro e w3 ⟨rfl, hb3⟩; have T3 := T2.below hb3 T2.lt; have d3 := d2.below hb3 d2.lt; have e3 := e2.below hb3 e2.lt; have q3 := q2.trans (hb3.mono q2.size); have u0 := d3.cell 0; have u1 := d3.cell 1; simp only [ec, List.getElem?_cons_zero, List.getElem?_cons_succ] at u0 u1)
        | (go_at_call 134; refine (oFrom wr.drew hBr.drew).mono ?_; unfold ev; rintro e w2 ⟨rfl, hb2⟩; have T2 := hTr.dr.below hb2 hTr.lt; have d2 := b0.dr.below hb2 b0.lt; have e2 := b1.dr.below hb2 b1.lt; have q2 := hb0.drew.trans (hb2.mono hb0.size); have s0 := d2.cell 0; have s1 := d2.cell 1; simp only [ec, List.getElem?_cons_zero, List.getElem?_cons_succ] at s0 s1))
      all_goals
        go_wp2_with fail
        go_roundw
        case rel =>
          have d5 := (d4.setC 0 (.int .u64 (hN (hsh h f l (k + 1)) : Int))).setC 1 (.int .u64 (lN (hsh h f l (k + 1)) : Int))
          exact ⟨k + 1, m2, a', c', by have := HK.out; have := HM.out; have := HM2.out; omega, rfl, by rw [← HD.out]; exact hB2, d5, (e4.setO (by simp) _).setO (by simp) _, (q4.setCell (Nat.le_refl _) _).setCell (Nat.le_refl _) _⟩
        case measure => have := HM.out; have := HM2.out; simp [slLen]; omega
    · have m0 : m = 0 := by omega
      subst m0
      have HE : Hid (hashF h f l = hsh h f l k) := by
        show _ = _
        unfold hashF
        rw [HL.out]
        congr 1
        omega
      have c0 := b0.cell 0
      have c1 := b0.cell 1
      have e0 := b1.cell 0
      have e1 := b1.cell 1
      have e2 := b1.free 0
      have e3 := b1.free 1
      simp only [ec, List.getElem?_cons_zero, List.getElem?_cons_succ] at c0 c1 e0 e1
      have b2 := (b1.setC 0 (.int .u64 (hN (hsh h f l k) : Int))).setC 1 (.int .u64 (lN (hsh h f l k) : Int))
      have B2 : Hid (Blk _ (w.heap.size + 1) (ec (hsh h f l k)) 211) := b2
      clear b2 hkm
      go_wp2_with fail
      rw [HE.out]
      exact bodyPost_ret (v := ev (hsh h f l k)) (res_el Tryz.results153 _ _ (w.heap.size + 1) _ rfl B2.out) rfl ⟨rfl, (hb0.setCell (by simp) _).setCell (by simp) _⟩

end Go.Proofs.YtlenmkhmkommcaaGreat

/-
  The key of layer 6 as it lies in memory, and the contract of its tag. Conditions: the key lies where the pointer leads; a nonce of 12 bytes; what stands beside, and what is sealed, of at most 900 bytes.
-/
namespace Go.Proofs.YtlenmkhmkommcaaGreat
open Go.RowKit

/-- Block r is a key: the cipher, and the table of its element. -/
structure Gc (w : World) (r : Nat) (K : List UInt8) : Prop where
  cip : Cip w r K
  tab : TbA w r 752 (pr (hKey K))
theorem Gc.lt {w : World} {r : Nat} {K : List UInt8} (h : Gc w r K) : r < w.heap.size := h.tab.lt
theorem Gc.at {w w' : World} {r : Nat} {K : List UInt8} (h : Gc w r K) {B : Nat} (hb : Below B w w') (hB : r < B) : Gc w' r K := ⟨h.cip.below hb hB, h.tab.below hb hB⟩
theorem Gc.below {w w' : World} {r : Nat} {K : List UInt8} (h : Gc w r K) (hb : Below w.heap.size w w') : Gc w' r K := h.at hb h.lt

set_option maxRecDepth 100000 in
set_option maxHeartbeats 4000000 in
theorem oTagG (w : World) {r : Nat} {K nonce be s : List UInt8} {an ae as' : Option Addr} {cn ne ce ns cs' : Nat} (hG : Gc w r K) (hK : K.length = 240) (hn : Bs w an 12 cn nonce) (hE : Bs w ae ne ce be) (hS : Bs w as' ns cs' s) (hze : ne ≤ 900) (hzs : ns ≤ 900) :
    Calls Tryz.prog 136 #[.pointer (some ⟨r, 0, none⟩), .slice an 12 cn, .slice ae ne ce, .slice as' ns cs'] w (Gives w (tagL K nonce be s)) := by
  have HNL : Hid (nonce.length = 12) := hn.len
  have HLE : Hid (lens be s = putL (8 * ne) 8 ++ putL (8 * ns) 8) := by show _ = _; unfold lens; rw [hE.len, hS.len]
  have HTG : Hid (tagL K nonce be s = xorL (byF (hashF (hKey K) (hashF (hKey K) (hashF (hKey K) 0 be) s) (lens be s))) (ctrK K nonce 1)) := rfl
  have HCL : Hid ((ctrK K nonce 1).length = 16) := ctrK_length hK HNL.out 1
  have CM : Hid (∀ w, Gc w r K → Bs w an 12 cn nonce → Calls Tryz.prog 150 #[.pointer (some ⟨r, 0, none⟩), .slice an 12 cn, .int .u64 1] w fun e w' => e = .returned (.agg (cs (ctrK K nonce 1)).toArray) ∧ Below w.heap.size w w') := fun w h1 h2 => oMask w h1.cip hK h2 1 (by omega)
  obtain ⟨Y1, hY1⟩ : ∃ Y, Y = hashF (hKey K) 0 be := ⟨_, rfl⟩
  have CH1 : Hid (∀ w, Gc w r K → Bs w ae ne ce be → Calls Tryz.prog 153 #[.pointer (some ⟨r, 752, none⟩), .agg #[.int .u64 0, .int .u64 0], .slice ae ne ce] w fun e w' => e = .returned (.agg #[.int .u64 (hN Y1 : Int), .int .u64 (lN Y1 : Int)]) ∧ Below w.heap.size w w') := fun w h1 h2 => by
    have := oHashFA w r 752 (hKey K) 0 h1.tab h2 (by omega)
    rw [ev_zero, ← hY1] at this
    exact this
  rw [← hY1] at HTG
  obtain ⟨Y2, hY2⟩ : ∃ Y, Y = hashF (hKey K) Y1 s := ⟨_, rfl⟩
  have CH2 : Hid (∀ w, Gc w r K → Bs w as' ns cs' s → Calls Tryz.prog 153 #[.pointer (some ⟨r, 752, none⟩), ev Y1, .slice as' ns cs'] w fun e w' => e = .returned (ev Y2) ∧ Below w.heap.size w w') := fun w h1 h2 => by
    have := oHashFA w r 752 (hKey K) Y1 h1.tab h2 (by omega)
    rw [← hY2] at this
    exact this
  rw [← hY2] at HTG
  obtain ⟨Y3, hY3⟩ : ∃ Y, Y = hashF (hKey K) Y2 (lens be s) := ⟨_, rfl⟩
  have CH3 : Hid (∀ w a m c, Gc w r K → Bs w a m c (lens be s) → Calls Tryz.prog 153 #[.pointer (some ⟨r, 752, none⟩), ev Y2, .slice a m c] w fun e w' => e = .returned (ev Y3) ∧ Below w.heap.size w w') := fun w a m c h1 h2 => by
    have := oHashFA w r 752 (hKey K) Y2 h1.tab h2 (by rw [← h2.len, lens_length]; omega)
    rw [← hY3] at this
    exact this
  rw [← hY3] at HTG
  clear hY1 hY2 hY3
  generalize tagL K nonce be s = T at *
  go_enter Tryz.func136, Tryz.ntmps136
  go_wp2_with (go_at_call 153; go_must (refine (CH1.out w hG hE).mono ?_); rintro e w1 ⟨rfl, hb1⟩)
  obtain ⟨g, hg⟩ : ∃ g, g = w1.heap.size := ⟨_, rfl⟩
  obtain ⟨W, hW⟩ : ∃ W, W = w1.alloc (.cells #[.int .u64 (hN Y1 : Int), .int .u64 (lN Y1 : Int)] 211) := ⟨_, rfl⟩
  rw [← hW, ← hg]
  have d1 : Blk W g (ec Y1) 211 := by rw [hW, hg]; exact Blk.new w1 _ _
  have q1 : Below w.heap.size w W := by rw [hW]; exact hb1.alloc hb1.size _
  have hwg : w.heap.size ≤ g := by rw [hg]; exact hb1.size
  have hrg : r < w.heap.size := hG.lt
  clear hW hg hb1
  have kW := hG.below q1
  have sW := hS.below q1 (Nat.le_refl _)
  refine regionE 6 (S := Grows W) (by kernel_rfl) (Below.refl _ W).drew ?_
  refine takeE 0 (some 18) (.pointer (some ⟨r, 0, none⟩)) rfl rfl (by kernel_rfl) (by kernel_rfl) (by kernel_rfl) (by kernel_rfl) (by kernel_rfl) (fun _ _ _ h => h) (ans_plain (by rfl) (fun w _ => rfl)) ?_
  simp only [Act.put, List.setIfInBounds_toArray, List.set_cons_zero, List.set_cons_succ]
  refine takeE 1 (some 19) (.pointer (some ⟨r, 0, none⟩)) rfl rfl (by kernel_rfl) (by kernel_rfl) (by kernel_rfl) (by kernel_rfl) (by kernel_rfl) (fun _ _ _ h => h) (ans_plain (by rfl) (fun w _ => rfl)) ?_
  simp only [Act.put, List.setIfInBounds_toArray, List.set_cons_zero, List.set_cons_succ]
  refine takeE 2 (some 20) (.pointer (some ⟨r, 752, none⟩)) rfl rfl (by kernel_rfl) (by kernel_rfl) (by kernel_rfl) (by kernel_rfl) (by kernel_rfl) (fun _ _ _ h => h) (ans_plain (by rfl) (fun w _ => by unfold execOp; go_simp)) ?_
  simp only [Act.put, List.setIfInBounds_toArray, List.set_cons_zero, List.set_cons_succ]
  refine takeE 3 (some 21) (ev Y1) rfl rfl (by kernel_rfl) (by kernel_rfl) (by kernel_rfl) (by kernel_rfl) (by kernel_rfl) (fun _ _ _ h => h) (ans_ld (.tmp 10) rfl (by rfl) g Y1 rfl (fun w h => d1.grows h)) ?_
  simp only [Act.put, List.setIfInBounds_toArray, List.set_cons_zero, List.set_cons_succ]
  refine takeE 4 (some 22) (.slice as' ns cs') rfl rfl (by kernel_rfl) (by kernel_rfl) (by kernel_rfl) (by kernel_rfl) (by kernel_rfl) (fun _ _ _ h => h) (ans_plain (by rfl) (fun w _ => rfl)) ?_
  simp only [Act.put, List.setIfInBounds_toArray, List.set_cons_zero, List.set_cons_succ]
  refine takeE 5 (some 23) (ev Y2) rfl rfl (by kernel_rfl) (by kernel_rfl) (by kernel_rfl) (by kernel_rfl) (by kernel_rfl) (fun _ _ _ h => h) (ans_fn 153 #[.tmp 20, .tmp 21, .tmp 22] #[214, 211, 26] #[.pointer (some ⟨r, 752, none⟩), ev Y1, .slice as' ns cs'] rfl (by rfl) (by rfl) Tryz.call153 fun u h => CH2.out u (kW.below h) (sW.grows h)) ?_
  simp only [Act.put, List.setIfInBounds_toArray, List.set_cons_zero, List.set_cons_succ]
  refine lastE (by kernel_rfl) (by kernel_rfl) (by kernel_rfl) (by kernel_rfl) fun u2 _ hs2 => ?_
  refine storeE 6 (.tmp 10) (.tmp 23) rfl rfl rfl rfl g Y2 _ rfl (d1.grows hs2) rfl rfl fun u3 b3 _ l3 u4 hg4 => ?_
  have q3 : Below w.heap.size w u3 := l3 _ _ hwg (q1.trans (Below.mono hs2 q1.size))
  have d4 := b3.grows hg4
  have q4 : Below w.heap.size w u4 := q3.trans (Below.mono hg4 q3.size)
  have k4 := hG.below q4
  clear q3 l3 b3 hs2 hg4 kW sW d1 q1
  go_wp2_with fail
  refine regionE 13 (S := Grows u4) (by kernel_rfl) (Below.refl _ u4).drew ?_
  refine takeE 0 (some 24) (.pointer (some ⟨r, 0, none⟩)) rfl rfl (by kernel_rfl) (by kernel_rfl) (by kernel_rfl) (by kernel_rfl) (by kernel_rfl) (fun _ _ _ h => h) (ans_plain (by rfl) (fun w _ => rfl)) ?_
  simp only [Act.put, List.setIfInBounds_toArray, List.set_cons_zero, List.set_cons_succ]
  refine takeE 1 (some 25) (.pointer (some ⟨r, 0, none⟩)) rfl rfl (by kernel_rfl) (by kernel_rfl) (by kernel_rfl) (by kernel_rfl) (by kernel_rfl) (fun _ _ _ h => h) (ans_plain (by rfl) (fun w _ => rfl)) ?_
  simp only [Act.put, List.setIfInBounds_toArray, List.set_cons_zero, List.set_cons_succ]
  refine takeE 2 (some 26) (.pointer (some ⟨r, 752, none⟩)) rfl rfl (by kernel_rfl) (by kernel_rfl) (by kernel_rfl) (by kernel_rfl) (by kernel_rfl) (fun _ _ _ h => h) (ans_plain (by rfl) (fun w _ => by unfold execOp; go_simp)) ?_
  simp only [Act.put, List.setIfInBounds_toArray, List.set_cons_zero, List.set_cons_succ]
  refine takeE 3 (some 27) (ev Y2) rfl rfl (by kernel_rfl) (by kernel_rfl) (by kernel_rfl) (by kernel_rfl) (by kernel_rfl) (fun _ _ _ h => h) (ans_ld (.tmp 10) rfl (by rfl) g Y2 rfl (fun w h => d4.grows h)) ?_
  simp only [Act.put, List.setIfInBounds_toArray, List.set_cons_zero, List.set_cons_succ]
  refine takeE 4 (some 28) (.func (.func 152) #[] #[]) rfl rfl (by kernel_rfl) (by kernel_rfl) (by kernel_rfl) (by kernel_rfl) (by kernel_rfl) (fun _ _ _ h => h) (ans_plain (by rfl) (fun w _ => rfl)) ?_
  simp only [Act.put, List.setIfInBounds_toArray, List.set_cons_zero, List.set_cons_succ]
  refine takeE 5 (some 29) (.slice ae ne ce) rfl rfl (by kernel_rfl) (by kernel_rfl) (by kernel_rfl) (by kernel_rfl) (by kernel_rfl) (fun _ _ _ h => h) (ans_plain (by rfl) (fun w _ => rfl)) ?_
  simp only [Act.put, List.setIfInBounds_toArray, List.set_cons_zero, List.set_cons_succ]
  refine takeE 7 (some 31) (.func (.func 152) #[] #[]) rfl rfl (by kernel_rfl) (by kernel_rfl) (by kernel_rfl) (by kernel_rfl) (by kernel_rfl) (fun _ _ _ h => h) (ans_plain (by rfl) (fun w _ => rfl)) ?_
  simp only [Act.put, List.setIfInBounds_toArray, List.set_cons_zero, List.set_cons_succ]
  refine takeE 8 (some 32) (.slice as' ns cs') rfl rfl (by kernel_rfl) (by kernel_rfl) (by kernel_rfl) (by kernel_rfl) (by kernel_rfl) (fun _ _ _ h => h) (ans_plain (by rfl) (fun w _ => rfl)) ?_
  simp only [Act.put, List.setIfInBounds_toArray, List.set_cons_zero, List.set_cons_succ]
  refine callVE 6 (some 30) 152 #[.slice ae ne ce] rfl rfl (by rfl) (runV (.tmp 28) _ #[.tmp 29] #[26] _ rfl rfl (by rfl) Tryz.call152) (by kernel_rfl) (by kernel_rfl) fun v5 hgv5 hsv5 => ?_
  refine (oBitsT v5 hze).mono ?_
  rintro e v6 ⟨p5, m5, x5, rfl, ho5, hGv6⟩
  refine ⟨_, rfl, Grows.trans hsv5 hGv6, ?_⟩
  simp only [Act.put, List.setIfInBounds_toArray, List.set_cons_zero, List.set_cons_succ]
  refine callVE 9 (some 33) 152 #[.slice as' ns cs'] rfl rfl (by rfl) (runV (.tmp 31) _ #[.tmp 32] #[26] _ rfl rfl (by rfl) Tryz.call152) (by kernel_rfl) (by kernel_rfl) fun v7 hgv7 hsv7 => ?_
  refine (oBitsT v7 hzs).mono ?_
  rintro e u5 ⟨p6, m6, x6, rfl, ho6, hGu5⟩
  have b5 := (ho5.toBs.grows hgv7).grows hGu5
  have b6 := ho6.toBs
  have hs5 := Grows.trans hsv7 hGu5
  refine ⟨_, rfl, hs5, ?_⟩
  simp only [Act.put, List.setIfInBounds_toArray, List.set_cons_zero, List.set_cons_succ]
  refine oneE 10 (by kernel_rfl) (by kernel_rfl) fun u7 hg7 hs7 => ?_
  refine opBS2 (some 34) rfl rfl rfl (.tmp 30) (.tmp 33) rfl p5 p6 m5 x5 m6 x6 rfl rfl ⟨Grows.trans hs7 (Grows.alloc _ _), ?_⟩
  simp only [Act.put, List.setIfInBounds_toArray, List.set_cons_zero, List.set_cons_succ]
  refine callE 11 (some 35) 67 #[.tmp 34] #[147] #[.slice (some ⟨u7.heap.size, 0, none⟩) 2 2] rfl rfl rfl (by rfl) (by rfl) (by kernel_rfl) (by kernel_rfl) Tryz.call67 fun u8 hg8 hs8 => ?_
  refine (oJoinB u8 (bss2 (b5.grows hg7) (b6.grows hg7) hg8) (by rw [putL_length, putL_length]; omega)).mono ?_
  rintro e u9 ⟨p9, m9, x9, rfl, ho9, hG9⟩
  have b9 := ho9.toBs
  rw [← HLE.out] at b9
  refine ⟨_, rfl, Grows.trans hs8 hG9, ?_⟩
  simp only [Act.put, List.setIfInBounds_toArray, List.set_cons_zero, List.set_cons_succ]
  refine callE 12 (some 36) 153 #[.tmp 26, .tmp 27, .tmp 35] #[214, 211, 26] #[.pointer (some ⟨r, 752, none⟩), ev Y2, .slice p9 m9 x9] rfl rfl rfl (by rfl) (by rfl) (by kernel_rfl) (by kernel_rfl) Tryz.call153 fun ua hga hsa => ?_
  refine (CH3.out ua _ _ _ (k4.below hsa) (b9.grows hga)).mono ?_
  rintro e ub ⟨rfl, hGb⟩
  refine ⟨_, rfl, Grows.trans hsa hGb, ?_⟩
  simp only [Act.put, List.setIfInBounds_toArray, List.set_cons_zero, List.set_cons_succ]
  refine lastE (by kernel_rfl) (by kernel_rfl) (by kernel_rfl) (by kernel_rfl) fun uc _ hsc => ?_
  refine storeE 13 (.tmp 10) (.tmp 36) rfl rfl rfl rfl g Y3 _ rfl (d4.grows hsc) rfl rfl fun ud bd' _ ld' ue hge => ?_
  have qd : Below w.heap.size w ud := ld' _ _ hwg (q4.trans (Below.mono hsc q4.size))
  have de := bd'.grows hge
  have qe : Below w.heap.size w ue := qd.trans (Below.mono hge qd.size)
  have ke := hG.below qe
  have ne' := hn.below qe (Nat.le_refl _)
  clear qd ld' bd' hsc hge d4 q4 k4 ho5 ho6 hsv5 hsv7 hGv6 hGu5 hgv5 hgv7 b5 b6 b9 ho9 hG9 hs8 hg8 hs7 hg7 hs5 hga hsa hGb
  have HCX : Hid ((cs (ctrK K nonce 1)).length = 16) := by show _ = _; rw [cs_length, HCL.out]
  generalize ctrK K nonce 1 = X at *
  go_wp2_with (first
    | (go_at_call 150; go_must (refine (CM.out ue ke ne').mono ?_); rintro e v1 ⟨rfl, hv1⟩)
    | (with_reducible refine at_st 204 ?_; refine st' 204 (.tmp 11) (.tmp 39) 16 sizeK v1.heap.size 0 _ HCX.out cs_one ((Blk.new v1 z16 204).there 0 16 (by rw [z16_eq, cs_length, List.length_replicate]; omega)) rfl rfl ?_; intro v2 hv2
       have c2 : Blk v2 v1.heap.size (cs X) 204 := by rw [hv2]; exact (Blk.new v1 z16 204).setsW _ (by rw [HCX.out, z16_eq, cs_length, List.length_replicate])
       have p2 : Below ue.heap.size ue v2 := by rw [hv2]; exact below_sets hv1.size _ (hv1.alloc hv1.size _) 0
       clear hv2))
  have s2 : Bs v2 (some ⟨v1.heap.size, 0, none⟩) 16 16 X := by
    have := Bs.of_range c2.whole (c := 16) (by rw [HCL.out]; omega) (by omega)
    rw [HCL.out] at this
    exact this
  have d2 := de.below p2 de.lt
  have q2 : Below w.heap.size w v2 := qe.trans (p2.mono qe.size)
  clear c2 p2 hv1 de qe ke ne'
  refine regionG (S := Grows v2) (by kernel_rfl) (Below.refl _ v2).drew ?_
  refine takeG 0 (some 40) (ev Y3) rfl rfl (by kernel_rfl) (by kernel_rfl) (by kernel_rfl) (fun _ _ _ h => h) (ans_ld (.tmp 10) rfl (by rfl) g Y3 rfl (fun w h => d2.grows h)) ?_
  simp only [Act.put, List.setIfInBounds_toArray, List.set_cons_zero, List.set_cons_succ]
  refine takeG 2 (some 42) (.slice (some ⟨v1.heap.size, 0, none⟩) 16 16) rfl rfl (by kernel_rfl) (by kernel_rfl) (by kernel_rfl) (fun _ _ _ h => h) (ans_all (.tmp 11) rfl (by rfl) v1.heap.size rfl) ?_
  simp only [Act.put, List.setIfInBounds_toArray, List.set_cons_zero, List.set_cons_succ]
  refine callG 1 (some 41) 154 #[.tmp 40] #[211] #[ev Y3] rfl rfl rfl (by rfl) (by rfl) (by kernel_rfl) Tryz.call154 fun ua hga hsa => ?_
  refine (oBytesE ua Y3).mono ?_
  rintro e ub ⟨pb, mb, xb, rfl, hob, hGb⟩
  refine ⟨_, rfl, Grows.trans hsa hGb, ?_⟩
  simp only [Act.put, List.setIfInBounds_toArray, List.set_cons_zero, List.set_cons_succ]
  refine callG 3 (some 43) 151 #[.tmp 41, .tmp 42] #[26, 26] #[.slice pb mb xb, .slice (some ⟨v1.heap.size, 0, none⟩) 16 16] rfl rfl rfl (by rfl) (by rfl) (by kernel_rfl) Tryz.call151 fun uc hgc hsc => ?_
  have hmb : mb ≤ 1000000 := by rw [← hob.toBs.len, byF_length]; omega
  refine (oXor uc (hob.toBs.grows hgc) (s2.grows hsc) hmb (by omega)).mono ?_
  rintro e ud ⟨pd, md, xd, rfl, hod, hGd⟩
  rw [← HTG.out] at hod
  refine ⟨_, rfl, Grows.trans hsc hGd, ?_⟩
  simp only [Act.put, List.setIfInBounds_toArray, List.set_cons_zero, List.set_cons_succ]
  refine takeG 4 (some 8) (.slice pd md xd) rfl rfl (by kernel_rfl) (by kernel_rfl) (by kernel_rfl) (fun _ _ _ h => h) (ans_plain (by rfl) (fun w _ => rfl)) ?_
  simp only [Act.put, List.setIfInBounds_toArray, List.set_cons_zero, List.set_cons_succ]
  refine doneG (by kernel_rfl) fun ue hge hse => ?_
  have hoe := hod.below hge (Nat.le_refl _)
  have hl : w.heap.size ≤ uc.heap.size := Nat.le_trans q2.size (Below.size hsc)
  go_wp2_with fail
  go_ret
  exact Gives.mk (hoe.mono hl) (q2.trans (Below.mono hse q2.size))

end Go.Proofs.YtlenmkhmkommcaaGreat

/-
  The contract of layer 6's hidden: a text under blocks. Conditions: the key lies where the pointer leads; a nonce of 12 bytes; a text of at most 900 bytes.
-/
namespace Go.Proofs.YtlenmkhmkommcaaGreat
open Go.RowKit

theorem xorL_take {l m : List UInt8} (h : m.length = 16) : xorL (l.take 16) m = xorL l m := by
  unfold xorL
  apply List.ext_getElem?
  intro i
  rw [List.getElem?_zipWith, List.getElem?_zipWith]
  by_cases hi : i < 16
  · rw [List.getElem?_take_of_lt hi]
  · rw [List.getElem?_eq_none (l := m) (by omega)]
    cases (List.take 16 l)[i]? <;> cases l[i]? <;> rfl

set_option maxRecDepth 100000 in
set_option maxHeartbeats 4000000 in
theorem oHidden (w : World) {r : Nat} {K nonce l : List UInt8} {an at' : Option Addr} {cn n ct : Nat} (hG : Gc w r K) (hK : K.length = 240) (hn : Bs w an 12 cn nonce) (hT : Bs w at' n ct l) (hz : n ≤ 900) :
    Calls Tryz.prog 135 #[.pointer (some ⟨r, 0, none⟩), .slice an 12 cn, .slice at' n ct] w (Gives w (strL K nonce l)) := by
  have HNL : Hid (nonce.length = 12) := hn.len
  have HL : Hid (l.length = n) := hT.len
  have hall := allK
  go_enter Tryz.func135, Tryz.ntmps135
  go_wp2_with (at_make; go_must (refine wpList_mk0 w rfl _ _ rfl w.heap.size (n : Int) rfl rfl (by omega) (by omega) (Nat.le_refl _) ?_); intro v0 w0 ho0 hb0)
  go_loopw [2, 7, 8, 9] (fun tx out nn _ wr => ∃ (k m : Nat) (py : Option Addr) (cy : Nat), (m = n - 16 * k ∧ 16 * k < n + 16) ∧ tx = .slice py m cy ∧ nn = .int .u64 ((2 + k : Nat) : Int) ∧ Bs w py m cy (l.drop (16 * k)) ∧ Own wr w.heap.size out (strm K nonce l k) ∧ Below w.heap.size w wr) (fun v _ _ _ _ => slLen v)
  case atStart => exact ⟨0, n, at', ct, ⟨by omega, by omega⟩, rfl, rfl, hT, ho0, hb0⟩
  case round =>
    clear ho0 hb0
    rename_i out _
    obtain ⟨k, m, py, cy, hkm, rfl, rfl, hBy, ho, hb⟩ := hrel
    by_cases hlt : 0 < m
    · have hGr := hG.below hb
      have hnr := hn.below hb (Nat.le_refl _)
      have HXL : Hid ((ctrK K nonce (2 + k)).length = 16) := ctrK_length hK HNL.out _
      have HCX : Hid ((cs (ctrK K nonce (2 + k))).length = 16) := by show _ = _; rw [cs_length, HXL.out]
      have HN : Hid (strm K nonce l (k + 1) = strm K nonce l k ++ xorL (l.drop (16 * k)) (ctrK K nonce (2 + k))) := by show _ = _; rw [strm, xorL_take HXL.out]
      have HK : Hid (m = n - 16 * k ∧ 16 * k < n + 16) := hkm
      have HSL : Hid ((strm K nonce l k).length ≤ 900) := by show _ ≤ _; rw [strm_is hK HNL.out, List.length_map, List.length_range]; have := HL.out; omega
      have CM : Hid (Calls Tryz.prog 150 #[.pointer (some ⟨r, 0, none⟩), .slice an 12 cn, .int .u64 ((2 + k : Nat) : Int)] wr fun e w' => e = .returned (.agg (cs (ctrK K nonce (2 + k))).toArray) ∧ Below wr.heap.size wr w') := oMask wr hGr.cip hK hnr (2 + k) (by omega)
      have hBr := hBy.below hb (Nat.le_refl _)
      obtain ⟨t, ht⟩ : ∃ t, t = min 16 m := ⟨_, rfl⟩
      obtain ⟨a', c', hcut, hcB, _⟩ := hBy.cutLow t (by omega)
      have hB2 := hcB w hBy
      have i0 : (0 : Int) < (m : Int) := by omega
      have i1 : (if (m : Int) < 16 then (m : Int) else 16) = (t : Int) := by split <;> omega
      have HD : Hid ((l.drop (16 * k)).drop t = l.drop (16 * (k + 1))) := by
        show _ = _
        rw [List.drop_drop]
        have := HL.out
        have := HK.out
        by_cases h16 : 16 ≤ m
        · rw [show 16 * k + t = 16 * (k + 1) from by omega]
        · rw [List.drop_eq_nil_of_le (by omega), List.drop_eq_nil_of_le (by omega)]
      have HM : Hid (t = min 16 m) := ht
      obtain ⟨m2, hm2⟩ : ∃ m2, m2 = m - t := ⟨_, rfl⟩
      rw [← hm2] at hcut hB2
      have HM2 : Hid (m2 = m - t) := hm2
      clear hkm ht hcB hm2
      obtain ⟨y, hy⟩ : ∃ y : Nat, y = 2 + k := ⟨_, rfl⟩
      rw [← hy] at HXL HCX HN CM ⊢
      have HY : Hid (y = 2 + k) := hy
      have i2 : IntKind.u64.wrap ((y : Int) + 1) = ((y + 1 : Nat) : Int) := by rw [IntKind.wrap_u64]; have := HK.out; omega
      have i3 : ((y : Int) + 1) % 18446744073709551616 = ((y + 1 : Nat) : Int) := by have := HK.out; omega
      clear hy
      have hm900 : m ≤ 900 := by have := HK.out; omega
      generalize ctrK K nonce y = X at *
      obtain ⟨Z, hZ⟩ : ∃ Z, Z = strm K nonce l k := ⟨_, rfl⟩
      rw [← hZ] at ho HN HSL
      obtain ⟨L, hL⟩ : ∃ L, L = l.drop (16 * k) := ⟨_, rfl⟩
      rw [← hL] at hBr HN hB2 HD
      clear hZ hL hBy
      have HR : Hid (Z.length + (xorL L X).length ≤ 1000000000) := by show _ ≤ _; unfold xorL; rw [List.length_zipWith, HXL.out]; have := HSL.out; omega
      go_wp2_with (first
        | (go_at_call 150; go_must (refine CM.out.mono ?_); rintro e w1 ⟨rfl, hb1⟩)
        | (with_reducible refine at_st 204 ?_; refine st' 204 (.tmp 9) (.tmp 21) 16 sizeK w1.heap.size 0 _ HCX.out cs_one ((Blk.new w1 z16 204).there 0 16 (by rw [z16_eq, cs_length, List.length_replicate]; omega)) rfl rfl ?_; intro w2 hw2
           have c2 : Blk w2 w1.heap.size (cs X) 204 := by rw [hw2]; exact (Blk.new w1 z16 204).setsW _ (by rw [HCX.out, z16_eq, cs_length, List.length_replicate])
           have p2 : Below wr.heap.size wr w2 := by rw [hw2]; exact below_sets hb1.size _ (hb1.alloc hb1.size _) 0
           have s2 : Bs w2 (some ⟨w1.heap.size, 0, none⟩) 16 16 X := by have := Bs.of_range c2.whole (c := 16) (by rw [HXL.out]; omega) (by omega); rw [HXL.out] at this; exact this
           clear hw2 c2)
        | (go_at_call 151; go_must (refine (oXor w2 (hBr.below p2 (Nat.le_refl _)) s2 (by omega) (by omega)).mono ?_); rintro e w3 ⟨a3, m3, c3, rfl, ho3, hb3⟩; have p3 : Below wr.heap.size wr w3 := p2.trans (hb3.mono p2.size))
        | (at_builtin; go_must (refine wpList_app w3 rfl (.tmp 22) (.tmp 25) rfl w.heap.size _ Z rfl (ho.below p3 (Nat.le_refl _)) a3 m3 c3 _ rfl ho3.toBs HR.out (Nat.le_trans hb.size p3.size) ?_); intro v4 w4 ho4 hb4))
      go_roundw
      case rel => exact ⟨k + 1, m2, a', c', by have := HK.out; have := HM.out; have := HM2.out; omega, rfl, by rw [HY.out]; rfl, by rw [← HD.out]; exact hB2, by rw [HN.out]; exact ho4, (hb.trans (p3.mono hb.size)).trans hb4⟩
      case measure => have := HM.out; have := HM2.out; simp [slLen]; omega
    · have m0 : m = 0 := by omega
      subst m0
      have HE : Hid (strL K nonce l = strm K nonce l k) := by
        show _ = _
        unfold strL
        rw [HL.out]
        congr 1
        omega
      clear hkm
      go_wp2_with fail
      go_ret
      rw [HE.out]
      exact Gives.mk ho hb

end Go.Proofs.YtlenmkhmkommcaaGreat

/-
  The contracts of 'boxed' and 'turned'. Conditions: words of four bytes; the tables lie where the pointer leads.
-/
namespace Go.Proofs.YtlenmkhmkommcaaGreat
open Go.RowKit

theorem sizeW : (Tryz.prog.info? 224).map (·.size) = some 4 := by kernel_rfl
theorem map_at (f : UInt8 → UInt8) {l : List UInt8} {k : Nat} (h : k < l.length) : (l.map f).getD k 0 = f (l.getD k 0) := by
  simp [List.getD_eq_getElem?_getD, h]
theorem len4 {x : List UInt8} (h : x.length = 4) : ∃ a b c d, x = [a, b, c, d] := by
  match x, h with
  | [a, b, c, d], _ => exact ⟨a, b, c, d, rfl⟩

set_option maxHeartbeats 1000000 in
theorem oBoxed (w : World) (g : Nat) (hT : Tab w g) (x : List UInt8) (hx : x.length = 4) :
    Calls Tryz.prog 156 #[.pointer (some ⟨g, 0, none⟩), bv x] w fun e w' => e = .returned (bv (x.map box)) ∧ Below w.heap.size w w' := by
  unfold bv
  have hgl := hT.lt
  have HX : Hid ((cs x).length = 4) := by show _ = _; rw [cs_length, hx]
  have HXL : Hid (x.length = 4) := hx
  have hm : (x.map box).length = x.length := by simp
  go_enter Tryz.func156, Tryz.ntmps156
  go_wp2_with (first
    | (with_reducible refine at_ld 224 ?_; refine ld 224 (.tmp 3) 4 sizeW _ Tryz.underlying224 rfl w.heap.size 0 _ HX.out ((Blk.new w _ _).old _).whole rfl ?_))
  go_loopw [5, 6, 8] (fun _ _ i wr => ∃ k : Nat, k ≤ 4 ∧ i = .int .i64 k ∧ Blk wr w.heap.size (cs (over (x.map box) x k)) 224 ∧ (∃ z : List UInt8, z.length = 4 ∧ Blk wr (w.heap.size + 1) (cs z) 224) ∧ Below w.heap.size w wr) (fun _ _ i _ => 4 - (intOf i).toNat)
  case atStart =>
    exact ⟨0, by omega, rfl, by rw [over_zero]; exact (Blk.new w _ _).old _, ⟨List.replicate 4 0, rfl, Blk.newAt (w.alloc _) _ _ _ (by simp) _ rfl⟩, below2 w _ _⟩
  case round =>
    obtain ⟨k, hk, rfl, b0, ⟨z, hz, b1⟩, hbl⟩ := hrel
    by_cases hlt : k < 4
    · have h0 : (0 : Int) ≤ (k : Int) := by omega
      have h8 : (k : Int) < 4 := by omega
      have hix := idx8 224 4 Tryz.underlying224 x k HXL.out hlt
      have c0 := b0.at8 (k := k) (by rw [over_length hm]; omega)
      have f0 := b0.free k
      have b3 := b0.set8 k ((x.map box).getD k 0)
      rw [over_set hm (by omega), map_at box (by omega)] at b3
      generalize hp : x.getD k 0 = p at hix b3
      have hpl := b_lt p
      have hp0 : (0 : Int) ≤ (p.toNat : Int) := by omega
      have hp1 : (p.toNat : Int) < 256 := by omega
      have c1 := (hT.below hbl hgl).box p
      have B3 : Hid (Blk (wr.setCell ⟨w.heap.size, k, none⟩ (.int .u8 ((box p).toNat : Int))) w.heap.size (cs (over (x.map box) x (k + 1))) 224) := b3
      clear hp b3
      go_wp2_with fail
      go_roundw
      case rel => exact ⟨k + 1, by omega, by go_num, B3.out, ⟨z, hz, b1.setO (by simp) _⟩, hbl.setCell (Nat.le_refl _) _⟩
      case measure => simp [intOf]; omega
    · obtain rfl : k = 4 := by omega
      rw [show (4 : Nat) = x.length from hx.symm, over_end hm] at b0
      have HL : Hid ((cs (x.map box)).length = 4) := by show _ = _; rw [cs_length, hm, hx]
      obtain ⟨X, hX⟩ : ∃ X, X = x.map box := ⟨_, rfl⟩
      rw [← hX] at b0 HL
      have HXX : Hid (X = x.map box) := hX
      clear hX
      go_wp2_with (first
        | (with_reducible refine at_ld 224 ?_; refine ld 224 (.tmp 3) 4 sizeW _ Tryz.underlying224 rfl w.heap.size 0 _ HL.out b0.whole rfl ?_)
        | (with_reducible refine at_st 224 ?_; refine st 224 (.tmp 4) (.tmp 21) 4 sizeW (w.heap.size + 1) 0 _ HL.out cs_one (b1.there 0 4 (by rw [cs_length, hz]; omega)) rfl rfl ?_))
      have b3 := b1.setsW (cs X) (by rw [HL.out, cs_length, hz])
      exact bodyPost_ret (v := .agg (cs X).toArray) (res_blk Tryz.results156 _ _ (w.heap.size + 1) _ _ _ rfl b3 Tryz.underlying224 4 HL.out sizeW) rfl ⟨by rw [HXX.out], below_sets (by omega) _ hbl 0⟩

theorem oTurned (w : World) (a b c d : UInt8) :
    Calls Tryz.prog 157 #[bv [a, b, c, d]] w fun e w' => e = .returned (bv [b, c, d, a]) ∧ Below w.heap.size w w' := by
  unfold bv cs
  go_enter Tryz.func157, Tryz.ntmps157
  go_wp2_with fail
  exact bodyPost_ret (v := .agg (cs [b, c, d, a]).toArray) (by simp [results, Tryz.results157, go_sem, cs]) rfl ⟨rfl, below2 w _ _⟩

end Go.Proofs.YtlenmkhmkommcaaGreat
