/-
  2 texts in one. No statement of the seat is proved here.
-/
import Derived.Test.YtbifikeecmaakaaG36

/-
  The contract of layer 14's reference's Open. Conditions: the power is there.
-/
namespace Go.Proofs.Ytbifikeecmaakaa
open Go.RowKit

/-- Behind some of the reference's Open's rounds. -/
structure OrI (A : Nat → Prop) (w : World) (C : CelS) (t : Tri) (e1 e2 e4 j : Nat) (p q : Tri) (wr : World) : Prop where
  b1 : Blk wr e1 (cc C t) 51
  b2 : Blk wr e2 zrk 53
  b4 : Blk wr e4 (rkC ⟨C, seqO C j⟩ t p q) 53
  an : Anc (fun i => A i ∧ i < w.heap.size ∨ e4 < i) wr (seqO C j) p q
  be : Below w.heap.size w wr
set_option maxRecDepth 100000 in
set_option maxHeartbeats 8000000 in
theorem rOpen14 (w : World) {A : Nat → Prop} {C : CelS} {t : Tri} (h : RC A w C t) (hA : ∀ j, w.heap.size ≤ j → A j) {mm : Nat} (hf : C.fit mm) (hd : C.p.down = false) : Calls Try.prog 22 #[.agg (cc C t).toArray] w (SavQ A w (⟨C, openA C⟩, 0)) := by
  have HR : Hid (RC (fun i => A i ∧ i < w.heap.size) w C t) := h.mono fun _ hj ha => ⟨ha, hj⟩
  have HAA : Hid (∀ j, w.heap.size ≤ j → A j) := hA
  have HF : Hid (C.fit mm) := hf
  have HD : Hid (C.p.down = false) := hd
  obtain ⟨la, ln, lc⟩ := t
  obtain rfl : ln = 4 := by have := Sl.len h; rw [hf.l] at this; exact this.symm
  obtain ⟨lb, lo, _, _, _, hla, hlb0, _, _⟩ := Sl.bytes h (hf.sec (k := 0) (by decide)).1
  dsimp only at hla
  subst hla
  have HS : Hid (∀ j, j < 4 → ∃ s m z, w.cell? ⟨lb, lo + j, none⟩ = some (.slice s m z) ∧ B5 (fun i => A i ∧ i < w.heap.size) w s m z (C.l.getD j [])) := fun j hj => by
    obtain ⟨b, o, s, m, z, e, _, hc, h5⟩ := Sl.bytes HR.out (HF.out.sec hj).1
    simp only [Option.some.injEq, Addr.mk.injEq] at e
    obtain ⟨rfl, rfl, _⟩ := e
    exact ⟨s, m, z, hc, h5⟩
  clear h hA hf hd
  obtain ⟨W0, hW0⟩ : ∃ W0, W0 = (w.alloc (.cells (cc C ⟨some ⟨lb, lo, none⟩, 4, lc⟩).toArray 51)).alloc (.cells #[.int .i64 0, .int .i64 0, .bool false, .bool false, .slice none 0 0, .int .i64 0, .int .i64 0, .int .i64 0, .int .i64 0, .int .i64 0, .int .i64 0, .int .i64 0, .slice none 0 0, .slice none 0 0, .bool false] 53) := ⟨_, rfl⟩
  obtain ⟨e1, he1⟩ : ∃ e, e = w.heap.size := ⟨_, rfl⟩
  obtain ⟨e2, he2⟩ : ∃ e, e = w.heap.size + 1 := ⟨_, rfl⟩
  have z1 : Blk W0 e1 (cc C ⟨some ⟨lb, lo, none⟩, 4, lc⟩) 51 := by rw [hW0]; exact (Blk.newAt w _ _ e1 he1.symm _ rfl).old _
  have z2 : Blk W0 e2 zrk 53 := by rw [hW0]; exact Blk.newAt (w.alloc _) _ _ e2 (by rw [he2]; simp) _ rfl
  have k0 : Below w.heap.size w W0 := by rw [hW0]; exact below2 _ _ _
  obtain ⟨e4, he4⟩ : ∃ e, e = W0.heap.size := ⟨_, rfl⟩
  have HL : Hid (w.heap.size ≤ e1 ∧ e1 < e2 ∧ e2 < e4) := ⟨by omega, by omega, by rw [he4]; exact z2.lt⟩
  go_enter Try.func22, Try.ntmps22
  go_upto_region 1 with fail
  rw [← hW0, ← he2, ← he1]
  clear hW0 he1 he2
  go_upto_region 2 with ((with_reducible refine at_ld 51 ?_); (refine ld 51 (.tmp 1) 6 size35 _ Try.underlying51 rfl e1 0 ([.int .i64 (C.p.steps : Int), .int .i64 C.p.fuse, .bool C.p.done, .bool C.p.down, .slice (some ⟨lb, lo, none⟩) 4 lc, .int .i64 (C.writes : Int)]) rfl (z1.whole) rfl ?_))
  rw [← he4]
  have z4 : Blk (W0.alloc (.cells #[.int .i64 (C.p.steps : Int), .int .i64 C.p.fuse, .bool C.p.done, .bool C.p.down, .slice (some ⟨lb, lo, none⟩) 4 lc, .int .i64 (C.writes : Int), .int .i64 0, .int .i64 0, .int .i64 0, .int .i64 0, .int .i64 0, .int .i64 0, .slice none 0 0, .slice none 0 0, .bool false] 53)) e4 (rkC ⟨C, zeroA⟩ ⟨some ⟨lb, lo, none⟩, 4, lc⟩ t0 t0) 53 := Blk.newAt W0 _ _ e4 he4.symm _ rfl
  have y1 := z1.old (.cells #[.int .i64 (C.p.steps : Int), .int .i64 C.p.fuse, .bool C.p.done, .bool C.p.down, .slice (some ⟨lb, lo, none⟩) 4 lc, .int .i64 (C.writes : Int), .int .i64 0, .int .i64 0, .int .i64 0, .int .i64 0, .int .i64 0, .int .i64 0, .slice none 0 0, .slice none 0 0, .bool false] 53)
  have y2 := z2.old (.cells #[.int .i64 (C.p.steps : Int), .int .i64 C.p.fuse, .bool C.p.done, .bool C.p.down, .slice (some ⟨lb, lo, none⟩) 4 lc, .int .i64 (C.writes : Int), .int .i64 0, .int .i64 0, .int .i64 0, .int .i64 0, .int .i64 0, .int .i64 0, .slice none 0 0, .slice none 0 0, .bool false] 53)
  have k1 : Below w.heap.size w (W0.alloc (.cells #[.int .i64 (C.p.steps : Int), .int .i64 C.p.fuse, .bool C.p.done, .bool C.p.down, .slice (some ⟨lb, lo, none⟩) 4 lc, .int .i64 (C.writes : Int), .int .i64 0, .int .i64 0, .int .i64 0, .int .i64 0, .int .i64 0, .int .i64 0, .slice none 0 0, .slice none 0 0, .bool false] 53)) := k0.alloc k0.size _
  generalize W0.alloc (.cells #[.int .i64 (C.p.steps : Int), .int .i64 C.p.fuse, .bool C.p.done, .bool C.p.down, .slice (some ⟨lb, lo, none⟩) 4 lc, .int .i64 (C.writes : Int), .int .i64 0, .int .i64 0, .int .i64 0, .int .i64 0, .int .i64 0, .int .i64 0, .slice none 0 0, .slice none 0 0, .bool false] 53) = W1 at *
  clear z1 z2 k0 he4
  have d3 : W1.cell? ⟨e1, 3, none⟩ = some (.bool false) := by rw [← HD.out]; exact y1.cell 3
  have l1 := y1.lt
  have I0 : Hid (OrI A w C ⟨some ⟨lb, lo, none⟩, 4, lc⟩ e1 e2 e4 0 t0 t0 W1) := ⟨y1, y2, z4, Anc.zero _ _, k1⟩
  clear y1 y2 z4 k1
  go_wp2_with fail
  clear d3 l1
  go_loopw [5] (fun i wr => ∃ (j : Nat) (p q : Tri), j ≤ 2 ∧ i = .int .i64 (j : Int) ∧ Hid (OrI A w C ⟨some ⟨lb, lo, none⟩, 4, lc⟩ e1 e2 e4 j p q wr)) (fun i _ => 2 - (intOf i).toNat)
  case atStart => exact ⟨0, t0, t0, Nat.zero_le _, rfl, I0⟩
  case round =>
    clear I0
    obtain ⟨j, p, q, hj, rfl, HI⟩ := hrel
    by_cases hlt : j < 2
    · have i0 : (j : Int) < 2 := by omega
      have i4 : (j : Int) < 4 := by omega
      have i5 : (0 : Int) ≤ (j : Int) := by omega
      obtain ⟨s, m, z, hc0, h5⟩ := HS.out j (by omega)
      have kwr := HI.out.be
      have d4 : wr.cell? ⟨e1, 4, none⟩ = some (.slice (some ⟨lb, lo, none⟩) 4 lc) := HI.out.b1.cell 4
      have l1 := HI.out.b1.lt
      have cj : wr.cell? ⟨lb, lo + j, none⟩ = some (.slice s m z) := (kwr.cell (p := ⟨lb, lo + j, none⟩) hlb0).trans hc0
      have hlbr := Nat.lt_of_lt_of_le hlb0 kwr.size
      have CG : Hid (Calls Try.prog 12 #[.slice s m z] wr (GotR (fun i => A i ∧ i < w.heap.size) wr (getA (C.l.getD j [])))) := rGetA wr ((h5.below kwr).ba)
      have HN : Hid (seqO C (j + 1) = if (seqO C j).seq < (getA (C.l.getD j [])).1.seq then (getA (C.l.getD j [])).1 else seqO C j) := rfl
      have hgs := getA_seq (C.l.getD j [])
      have hLs := (seqO_ok C j).seq
      generalize getA (C.l.getD j []) = G at *
      obtain ⟨X, gc⟩ := G
      dsimp only at hgs
      clear hc0 h5
      go_wp2_with fail
      refine CG.out.mono ?_
      rintro e y1 ⟨px, qx, rfl, anx, hb1⟩
      try dsimp only at anx
      try dsimp only
      obtain ⟨e6, he6⟩ : ∃ g, g = y1.heap.size := ⟨_, rfl⟩
      have z6 : Blk (y1.alloc (.cells #[.int .i64 0, .int .i64 0, .int .i64 0, .int .i64 0, .int .i64 0, .int .i64 0, .slice none 0 0, .slice none 0 0] 25)) e6 zanc 25 := Blk.newAt y1 _ _ e6 he6.symm _ rfl
      have k6 : Below y1.heap.size y1 (y1.alloc (.cells #[.int .i64 0, .int .i64 0, .int .i64 0, .int .i64 0, .int .i64 0, .int .i64 0, .slice none 0 0, .slice none 0 0] 25)) := below_alloc _ _
      unfold anV
      clear CG d4 cj
      go_upto_region 8 with ((with_reducible refine at_st 25 ?_); (refine st' 25 (.tmp 6) (.tmp 25) 8 sizeAn y1.heap.size 0 (anc X px qx) rfl (anc_one _ _ _) (by rw [← he6]; exact z6.there 0 8 (by simp [zanc])) rfl rfl ?_); intro y2 hy2; have c6 : Blk y2 e6 (anc X px qx) 25 := (by rw [hy2, ← he6]; exact z6.setsW _ rfl); have kb2 : Below y1.heap.size y1 y2 := (by rw [hy2]; exact below_sets (Nat.le_refl _) _ k6 0); clear hy2)
      rw [← he6]
      have kw2 : Below wr.heap.size wr y2 := hb1.trans (kb2.mono hb1.size)
      have HB4 : Hid (Blk y2 e4 (rkC ⟨C, seqO C j⟩ ⟨some ⟨lb, lo, none⟩, 4, lc⟩ p q) 53) := HI.out.b4.below kw2 HI.out.b4.lt
      have HE : Hid (e4 < e6) := by show _ < _; rw [he6]; exact Nat.lt_of_lt_of_le HI.out.b4.lt hb1.size
      have I2 : Hid (OrI A w C ⟨some ⟨lb, lo, none⟩, 4, lc⟩ e1 e2 e4 j p q y2) := ⟨HI.out.b1.below kw2 HI.out.b1.lt, HI.out.b2.below kw2 HI.out.b2.lt, HB4.out, HI.out.an.below kw2, HI.out.be.trans (kw2.mono HI.out.be.size)⟩
      have AX2 : Hid (Anc (fun i => A i ∧ i < w.heap.size ∨ e4 < i) y2 X px qx) := (anx.mono fun i _ hi => by have := HI.out.b4.lt; rcases hi with hi | hi; exact Or.inl hi; exact Or.inr (by omega)).below kb2
      clear z6 k6 kb2 hb1 anx kw2 HI he6 kwr hlbr l1
      have b4 := HB4.out
      have f14 : y2.cell? ⟨e4, 14, none⟩ = some (.bool (decide (0 < (seqO C j).seq))) := b4.cell 14
      have f6 : y2.cell? ⟨e4, 6, none⟩ = some (.int .i64 (seqO C j).seq) := b4.cell 6
      have g0 : y2.cell? ⟨e6, 0, none⟩ = some (.int .i64 X.seq) := c6.cell 0
      have l4 := b4.lt
      have l6 := c6.lt
      by_cases hgc : gc = 0
      · obtain ⟨_, _, hX1⟩ : gc = 0 ∧ chkA X = 0 ∧ 1 ≤ X.seq := by rcases hgs with h | h; exact h; exact absurd hgc h.1
        subst hgc
        clear hgs
        by_cases h1 : 0 < (seqO C j).seq
        · rw [decide_eq_true h1] at f14
          by_cases h2 : (seqO C j).seq < X.seq
          · have HO : Hid (seqO C (j + 1) = X) := by show _ = _; rw [HN.out, if_pos (h2)]
            have HX1 : Hid (KepS.has ⟨C, X⟩ = true) := decide_eq_true (by show 0 < X.seq; omega)
            clear HN
            go_upto_region 10 with (first | ((with_reducible refine at_ld 25 ?_); (refine ld 25 (.tmp 6) 8 sizeAn _ Try.underlying25 rfl e6 0 (anc X px qx) rfl (c6.whole) rfl ?_)) | ((with_reducible refine at_st 25 ?_); (refine st' 25 (.tmp 43) (.tmp 42) 8 sizeAn e4 6 (anc X px qx) rfl (anc_one _ _ _) (b4.there 6 8 (by rw [rkC_len]; omega)) rfl rfl ?_); intro y3 hy3; have c3 : Blk y3 e4 (cc C ⟨some ⟨lb, lo, none⟩, 4, lc⟩ ++ (anc X px qx ++ [.bool (KepS.has ⟨C, seqO C j⟩)])) 53 := (by have hh := b4.sets (anc X px qx) 6 (by rw [rkC_len]; show 6 + 8 ≤ 15; omega); rw [← hy3] at hh; exact hh); have kp3 : Kp (fun i => i = e4) y2 y3 := (by rw [hy3]; exact Kp.of_grown (but_cells' _ _ _ _)); clear hy3))
            have d14 : y3.cell? ⟨e4, 14, none⟩ = some (.bool (KepS.has ⟨C, seqO C j⟩)) := c3.cell 14
            have q14 := c3.free 14
            have l14 := c3.lt
            have kpb : Kp (fun i => i = e4) y2 (y3.setCell ⟨e4, 14, none⟩ (.bool true)) := kp3.trans (Kp.setC (F := fun i => i = e4) rfl _ _)
            have I4 : Hid (OrI A w C ⟨some ⟨lb, lo, none⟩, 4, lc⟩ e1 e2 e4 (j + 1) px qx (y3.setCell ⟨e4, 14, none⟩ (.bool true))) := by
              have hl := HL.out
              refine ⟨kpb.blk I2.out.b1 (by omega), kpb.blk I2.out.b2 (by omega), ?_, ?_, below_kp I2.out.be kpb I2.out.be.size (fun i hi e => by omega)⟩
              · have hh := c3.setC 14 (.bool true)
                rw [HO.out, show rkC ⟨C, X⟩ ⟨some ⟨lb, lo, none⟩, 4, lc⟩ px qx = cc C ⟨some ⟨lb, lo, none⟩, 4, lc⟩ ++ (anc X px qx ++ [.bool (KepS.has ⟨C, X⟩)]) from rfl, HX1.out]
                exact hh
              · rw [HO.out]
                exact AX2.out.kp kpb (fun i hi e => by rcases hi with hi | hi <;> omega)
            clear kpb c3 kp3 I2 AX2 HB4 b4 c6 f14 f6 g0 HO HX1
            go_wp2_with fail
            clear d14 q14 l14
            go_roundw
            case rel => exact ⟨j + 1, px, qx, by omega, by go_num, I4⟩
            case measure => simp [intOf]; omega
          · have HO : Hid (seqO C (j + 1) = seqO C j) := by show _ = _; rw [HN.out, if_neg (h2)]
            have I4 : Hid (OrI A w C ⟨some ⟨lb, lo, none⟩, 4, lc⟩ e1 e2 e4 (j + 1) p q y2) := ⟨I2.out.b1, I2.out.b2, by rw [HO.out]; exact I2.out.b4, by rw [HO.out]; exact I2.out.an, I2.out.be⟩
            clear HN HO I2 AX2 HB4 b4 c6
            go_wp2_with fail
            go_roundw
            case rel => exact ⟨j + 1, p, q, by omega, by go_num, I4⟩
            case measure => simp [intOf]; omega
        · rw [decide_eq_false h1] at f14
          have HO : Hid (seqO C (j + 1) = X) := by show _ = _; rw [HN.out, if_pos (by show (seqO C j).seq < X.seq; omega)]
          have HX1 : Hid (KepS.has ⟨C, X⟩ = true) := decide_eq_true (by show 0 < X.seq; omega)
          clear HN
          go_upto_region 10 with (first | ((with_reducible refine at_ld 25 ?_); (refine ld 25 (.tmp 6) 8 sizeAn _ Try.underlying25 rfl e6 0 (anc X px qx) rfl (c6.whole) rfl ?_)) | ((with_reducible refine at_st 25 ?_); (refine st' 25 (.tmp 43) (.tmp 42) 8 sizeAn e4 6 (anc X px qx) rfl (anc_one _ _ _) (b4.there 6 8 (by rw [rkC_len]; omega)) rfl rfl ?_); intro y3 hy3; have c3 : Blk y3 e4 (cc C ⟨some ⟨lb, lo, none⟩, 4, lc⟩ ++ (anc X px qx ++ [.bool (KepS.has ⟨C, seqO C j⟩)])) 53 := (by have hh := b4.sets (anc X px qx) 6 (by rw [rkC_len]; show 6 + 8 ≤ 15; omega); rw [← hy3] at hh; exact hh); have kp3 : Kp (fun i => i = e4) y2 y3 := (by rw [hy3]; exact Kp.of_grown (but_cells' _ _ _ _)); clear hy3))
          have d14 : y3.cell? ⟨e4, 14, none⟩ = some (.bool (KepS.has ⟨C, seqO C j⟩)) := c3.cell 14
          have q14 := c3.free 14
          have l14 := c3.lt
          have kpb : Kp (fun i => i = e4) y2 (y3.setCell ⟨e4, 14, none⟩ (.bool true)) := kp3.trans (Kp.setC (F := fun i => i = e4) rfl _ _)
          have I4 : Hid (OrI A w C ⟨some ⟨lb, lo, none⟩, 4, lc⟩ e1 e2 e4 (j + 1) px qx (y3.setCell ⟨e4, 14, none⟩ (.bool true))) := by
            have hl := HL.out
            refine ⟨kpb.blk I2.out.b1 (by omega), kpb.blk I2.out.b2 (by omega), ?_, ?_, below_kp I2.out.be kpb I2.out.be.size (fun i hi e => by omega)⟩
            · have hh := c3.setC 14 (.bool true)
              rw [HO.out, show rkC ⟨C, X⟩ ⟨some ⟨lb, lo, none⟩, 4, lc⟩ px qx = cc C ⟨some ⟨lb, lo, none⟩, 4, lc⟩ ++ (anc X px qx ++ [.bool (KepS.has ⟨C, X⟩)]) from rfl, HX1.out]
              exact hh
            · rw [HO.out]
              exact AX2.out.kp kpb (fun i hi e => by rcases hi with hi | hi <;> omega)
          clear kpb c3 kp3 I2 AX2 HB4 b4 c6 f14 f6 g0 HO HX1
          go_wp2_with fail
          clear d14 q14 l14
          go_roundw
          case rel => exact ⟨j + 1, px, qx, by omega, by go_num, I4⟩
          case measure => simp [intOf]; omega
      · have bgc : (gc == 0) = false := by simp [hgc]
        obtain rfl : X = zeroA := by rcases hgs with h | h; exact absurd h.1 hgc; exact h.2
        clear hgs hgc
        have HO : Hid (seqO C (j + 1) = seqO C j) := by show _ = _; rw [HN.out, if_neg (by show ¬ (seqO C j).seq < 0; omega)]
        have I4 : Hid (OrI A w C ⟨some ⟨lb, lo, none⟩, 4, lc⟩ e1 e2 e4 (j + 1) p q y2) := ⟨I2.out.b1, I2.out.b2, by rw [HO.out]; exact I2.out.b4, by rw [HO.out]; exact I2.out.an, I2.out.be⟩
        clear HN HO I2 AX2 HB4 b4 c6
        go_wp2_with fail
        go_roundw
        case rel => exact ⟨j + 1, p, q, by omega, by go_num, I4⟩
        case measure => simp [intOf]; omega
    · have i0 : ¬ (j : Int) < 2 := by omega
      obtain rfl : j = 2 := by omega
      have b4 := HI.out.b4
      have b2 := HI.out.b2
      have kw := HI.out.be
      rw [seqO_two] at b4
      have AN : Hid (Anc (fun i => A i ∧ i < w.heap.size ∨ e4 < i) wr (openA C) p q) := by rw [← seqO_two]; exact HI.out.an
      clear HI
      go_wp2_with (first | ((with_reducible refine at_ld 53 ?_); (refine ld 53 (.tmp 4) 15 sizeRK _ Try.underlying53 rfl e4 0 (rkC ⟨C, openA C⟩ ⟨some ⟨lb, lo, none⟩, 4, lc⟩ p q) rfl (b4.whole) rfl ?_)) | ((with_reducible refine at_st 53 ?_); (refine st' 53 (.tmp 2) (.tmp 45) 15 sizeRK e2 0 (rkC ⟨C, openA C⟩ ⟨some ⟨lb, lo, none⟩, 4, lc⟩ p q) rfl (rkC_one _ _ _ _) (b2.there 0 15 (by simp [zrk])) rfl rfl ?_); intro x9 hx9; have b9 : Blk x9 e2 (rkC ⟨C, openA C⟩ ⟨some ⟨lb, lo, none⟩, 4, lc⟩ p q) 53 := (by rw [hx9]; exact b2.setsW _ rfl); have kp9 : Kp (fun i => i = e2) wr x9 := (by rw [hx9]; exact Kp.of_grown (but_cells' _ _ _ _)); clear hx9))
      have k9 : Below w.heap.size w x9 := below_kp kw kp9 kw.size (fun i hi e => by have := HL.out; omega)
      refine bodyPost_ret (v := .tuple #[.agg (rkC ⟨C, openA C⟩ ⟨some ⟨lb, lo, none⟩, 4, lc⟩ p q).toArray, .int .i64 0]) (resCT Try.results22 _ _ e2 _ rfl (run_loadVar_row x9 e2 53 53 _ (0, 0) _ b9 Try.underlying53 rfl sizeRK) _ rfl) rfl ?_
      refine ⟨⟨some ⟨lb, lo, none⟩, 4, lc⟩, p, q, rfl, ⟨(HR.out.below k9).mono (fun i _ hi => hi.1), ?_, okA_open C⟩, k9⟩
      exact (AN.out.kp kp9 (fun i hi e => by have := HL.out; rcases hi with hi | hi <;> omega)).mono (fun i _ hi => hi.elim (fun h => h.1) (fun h => HAA.out i (by have := HL.out; omega)))

end Go.Proofs.Ytbifikeecmaakaa

/-
  Both keepers in the loop of layer 14's second statement: the program's, and the reference's in a variable ('TwoK'). No condition.
-/
namespace Go.Proofs.Ytbifikeecmaakaa
open Go.RowKit

theorem Kk.over {w w' : World} {k c r X : Nat} {K : KepS} {p q : Tri} (h : Kk w k c r K p q) (ha : Anc (fun j => ¬ Fk k c r j ∧ ¬ j = X) w K.last p q) (kx : Kp (fun j => j = X) w w') (hX : ¬ Fk k c r X) : Kk w' k c r K p q :=
  ⟨h.ck.keep kx (fun _ hj e => hX (e ▸ Or.inr hj)), kx.blk h.b (fun e => hX (e ▸ Or.inl rfl)), (ha.kp kx (fun _ hj e => hj.2 e)).mono (fun _ _ hj => hj.1), h.nc, h.nr, h.ok⟩
structure TwoK (w0 wr : World) (X k c r mm : Nat) (K : KepS) (p q t pr qr : Tri) : Prop where
  st : StaK w0 wr k c r K p q
  xw : w0.heap.size ≤ X
  xk : ¬ Fk k c r X
  bx : Blk wr X (rkC K t pr qr) 53
  rk : RK (fun j => ¬ Fk k c r j ∧ ¬ j = X) wr K t pr qr
  an : Anc (fun j => ¬ Fk k c r j ∧ ¬ j = X) wr K.last p q
  ft : K.c.fit mm
theorem TwoK.grow {w0 wr w' : World} {X k c r mm : Nat} {K : KepS} {p q t pr qr : Tri} (T : TwoK w0 wr X k c r mm K p q t pr qr) (h : Below wr.heap.size wr w') : TwoK w0 w' X k c r mm K p q t pr qr :=
  ⟨T.st.grow h, T.xw, T.xk, T.bx.below h T.bx.lt, T.rk.below h, T.an.below h, T.ft⟩
theorem TwoK.more {w0 wr : World} {X k c r mm : Nat} {K : KepS} {p q t pr qr : Tri} (T : TwoK w0 wr X k c r mm K p q t pr qr) : TwoK w0 wr X k c r (mm + 1) K p q t pr qr := ⟨T.st, T.xw, T.xk, T.bx, T.rk, T.an, T.ft.mono (by omega)⟩
theorem TwoK.big {w0 wr : World} {X k c r mm : Nat} {K : KepS} {p q t pr qr : Tri} (T : TwoK w0 wr X k c r mm K p q t pr qr) : ∀ j, wr.heap.size ≤ j → ¬ Fk k c r j ∧ ¬ j = X := fun j hj => ⟨fun hu => by have := T.st.kk.lt j hu; omega, fun e => by have := T.bx.lt; omega⟩
theorem TwoK.arg {w0 wr : World} {X k c r mm : Nat} {K : KepS} {p q t pr qr : Tri} (T : TwoK w0 wr X k c r mm K p q t pr qr) {a : AncS} {p' q' : Tri} (ha : Anc (fun j => j < w0.heap.size) w0 a p' q') : Anc (fun j => ¬ Fk k c r j ∧ ¬ j = X) wr a p' q' :=
  (T.st.arg ha).mono fun j _ hj => ⟨T.st.old j hj, fun e => by have := T.xw; omega⟩
/-- Between the reference's call and the program's. -/
theorem TwoK.mid {w0 wr u1 u2 : World} {X k c r mm : Nat} {K : KepS} {p q t pr qr : Tri} (T : TwoK w0 wr X k c r mm K p q t pr qr) (h1 : Below wr.heap.size wr u1) (k2 : Kp (fun j => j = X) u1 u2) : StaK w0 u2 k c r K p q ∧ Anc (fun j => ¬ Fk k c r j ∧ ¬ j = X) u2 K.last p q := by
  have T1 := T.grow h1
  exact ⟨⟨T1.st.kk.over T1.an k2 T.xk, T.st.base, below_kp T1.st.bel k2 T1.st.bel.size fun j hj e => by have := T.xw; omega⟩, T1.an.kp k2 fun _ hj e => hj.2 e⟩
/-- Behind both. -/
theorem TwoK.acted {w0 wr u1 u2 u3 : World} {X k c r mm : Nat} {K K1 : KepS} {p q t pr qr t1 p1 q1 p3 q3 : Tri} (T : TwoK w0 wr X k c r mm K p q t pr qr) (h1 : Below wr.heap.size wr u1) (k2 : Kp (fun j => j = X) u1 u2) (rk1 : RK (fun j => ¬ Fk k c r j ∧ ¬ j = X) u1 K1 t1 p1 q1) (b2 : Blk u2 X (rkC K1 t1 p1 q1) 53)
    (kk3 : Kk u3 k c r K1 p3 q3) (kp3 : Kp (Fk k c r) u2 u3) (an3 : Anc (fun j => ¬ Fk k c r j ∧ ¬ j = X) u3 K1.last p3 q3) (f1 : K1.c.fit (mm + 1)) : TwoK w0 u3 X k c r (mm + 1) K1 p3 q3 t1 p1 q1 :=
  ⟨(T.mid h1 k2).1.after kk3 kp3, T.xw, T.xk, kp3.blk b2 T.xk, (rk1.kp k2 fun _ hj e => hj.2 e).kp kp3 fun _ hj e => hj.1 e, an3, f1⟩
/-- Another power, the program's first. -/
theorem TwoK.power {w0 wr u1 u2 u3 : World} {X k c r mm : Nat} {K : KepS} {p q t pr qr : Tri} (T : TwoK w0 wr X k c r mm K p q t pr qr) {P : PowS} (hp : Pw u1 r P) (kr : Kp (fun j => j = r) wr u1) (h2 : Below u1.heap.size u1 u2) (b3 : Blk u3 X (rkC ⟨{ K.c with p := P }, K.last⟩ t pr qr) 53) (k3 : Kp (fun j => j = X) u2 u3) (hf : P.fit (mm + 1)) : TwoK w0 u3 X k c r (mm + 1) ⟨{ K.c with p := P }, K.last⟩ p q t pr qr := by
  have s1 := (T.st.power hp kr).grow h2
  have a1 : Anc (fun j => ¬ Fk k c r j ∧ ¬ j = X) u2 K.last p q := (T.an.kp kr fun _ hj e => hj.1 (Or.inr (Or.inr e))).below h2
  have r1 : RK (fun j => ¬ Fk k c r j ∧ ¬ j = X) u2 K t pr qr := (T.rk.kp kr fun _ hj e => hj.1 (Or.inr (Or.inr e))).below h2
  have r3 := r1.kp k3 fun _ hj e => hj.2 e
  exact ⟨⟨s1.kk.over a1 k3 T.xk, s1.base, below_kp s1.bel k3 s1.bel.size fun j hj e => by have := T.xw; omega⟩, T.xw, T.xk, b3, ⟨r3.rc, r3.an, r3.ok⟩, a1.kp k3 fun _ hj e => hj.2 e, (T.ft.mono (by omega)).power hf⟩
/-- The first cells of the reference's keeper: its power. -/
theorem rk_pc {K : KepS} {t p q : Tri} : ∀ j v, ([.int .i64 (K.c.p.steps : Int), .int .i64 K.c.p.fuse, .bool K.c.p.done, .bool K.c.p.down] : List Value)[j]? = some v → (rkC K t p q)[0 + j]? = some v := by
  intro j v hj
  rw [Nat.zero_add]
  rcases j with _ | _ | _ | _ | j
  · exact hj
  · exact hj
  · exact hj
  · exact hj
  · simp at hj
theorem rk_power {K : KepS} {t p q : Tri} {P : PowS} : (rkC K t p q).take 0 ++ pc P ++ (rkC K t p q).drop (0 + (pc P).length) = rkC ⟨{ K.c with p := P }, K.last⟩ t p q := rfl
theorem pc_oneK (S : PowS) : ∀ v ∈ pc S, v.oneCell' = true := by
  intro v hv
  simp only [pc, List.mem_cons, List.not_mem_nil, or_false] at hv
  rcases hv with rfl | rfl | rfl | rfl <;> rfl
/-- Opened anew. -/
theorem TwoK.opened {w0 wr u1 u2 u3 u4 u5 u6 : World} {X k k2 c r mm : Nat} {K : KepS} {C2 : CelS} {p q t pr qr p2 q2 t5 p5 q5 : Tri} (T : TwoK w0 wr X k c r mm K p q t pr qr) (S1 : StaK w0 u1 k c r ⟨C2, K.last⟩ p q) (hs1 : wr.heap.size ≤ u1.heap.size) (hk2 : u1.heap.size ≤ k2) (kk2 : Kk u2 k2 c r ⟨C2, openA C2⟩ p2 q2) (hb2 : Below u1.heap.size u1 u2) (an2 : Anc (fun i => u1.heap.size ≤ i ∧ ¬ i = k2) u2 (openA C2) p2 q2)
    (h3 : Below u2.heap.size u2 u3) (k4 : Kp (fun j => j = X) u3 u4) (h5 : Below u4.heap.size u4 u5) (k6 : Kp (fun j => j = X) u5 u6) (rk5 : RK (fun j => ¬ Fk k2 c r j ∧ ¬ j = X) u5 ⟨C2, openA C2⟩ t5 p5 q5) (b6 : Blk u6 X (rkC ⟨C2, openA C2⟩ t5 p5 q5) 53) (f : C2.fit (mm + 1)) : TwoK w0 u6 X k2 c r (mm + 1) ⟨C2, openA C2⟩ p2 q2 t5 p5 q5 := by
  have hX : X < wr.heap.size := T.bx.lt
  have xk : ¬ Fk k2 c r X := fun hu => by
    rcases hu with hu | hu
    · omega
    · exact T.xk (Or.inr hu)
  have a2 : Anc (fun j => ¬ Fk k2 c r j ∧ ¬ j = X) u2 (openA C2) p2 q2 := an2.mono fun j _ hj => ⟨fun hu => by
    rcases hu with hu | hu
    · exact hj.2 hu
    · have := S1.kk.lt j (Or.inr hu)
      omega, fun e => by omega⟩
  have s2 := S1.opened hk2 kk2 hb2
  have s3 := s2.grow h3
  have a3 := a2.below h3
  have s4 : StaK w0 u4 k2 c r ⟨C2, openA C2⟩ p2 q2 := ⟨s3.kk.over a3 k4 xk, s3.base, below_kp s3.bel k4 s3.bel.size fun j hj e => by have := T.xw; omega⟩
  have a4 : Anc (fun j => ¬ Fk k2 c r j ∧ ¬ j = X) u4 (openA C2) p2 q2 := a3.kp k4 fun _ hj e => hj.2 e
  have s5 := s4.grow h5
  have a5 := a4.below h5
  exact ⟨⟨s5.kk.over a5 k6 xk, s5.base, below_kp s5.bel k6 s5.bel.size fun j hj e => by have := T.xw; omega⟩, T.xw, xk, b6, rk5.kp k6 fun _ hj e => hj.2 e, a5.kp k6 fun _ hj e => hj.2 e, f⟩
/-- What the reference's Open is asked of. -/
theorem TwoK.asks {w0 wr u1 u2 u3 u4 : World} {X k k2 c r mm : Nat} {K : KepS} {p q t pr qr : Tri} (T : TwoK w0 wr X k c r mm K p q t pr qr) {P : PowS} (kr : Kp (fun j => j = r) wr u1) (hk2 : u1.heap.size ≤ k2) (hb2 : Below u1.heap.size u1 u2) (h3 : Below u2.heap.size u2 u3) (k4 : Kp (fun j => j = X) u3 u4) : RC (fun j => ¬ Fk k2 c r j ∧ ¬ j = X) u4 { K.c with p := P } t := by
  have r1 : RC (fun j => ¬ Fk k c r j ∧ ¬ j = X) u1 { K.c with p := P } t := T.rk.rc.kp kr fun _ hj e => hj.1 (Or.inr (Or.inr e))
  have r1' : RC (fun j => ¬ Fk k2 c r j ∧ ¬ j = X) u1 { K.c with p := P } t := r1.mono fun j hj ha => ⟨fun hu => by
    rcases hu with hu | hu
    · omega
    · exact ha.1 (Or.inr hu), ha.2⟩
  exact ((r1'.below hb2).below h3).kp k4 fun _ hj e => hj.2 e
theorem ok_an {x : Op14} {p q : Tri} : ∀ j v, (anc x.a p q)[j]? = some v → (ok14 x p q)[1 + j]? = some v := by
  intro j v hj
  have hl := (List.getElem?_eq_some_iff.1 hj).1
  unfold ok14
  rw [Nat.add_comm, List.getElem?_cons_succ, List.getElem?_append_left hl]
  exact hj
/-- At the start. -/
theorem TwoK.first {w0 v3 v4 v6 v7 : World} {X k c r : Nat} {p q t pr qr : Tri} (S : StaK w0 v3 k c r kep0 p q) (h34 : Below v3.heap.size v3 v4) (h46 : Below v4.heap.size v4 v6) (hX : X = v6.heap.size) (rk6 : RK (fun j => v4.heap.size ≤ j) v6 kep0 t pr qr) (b7 : Blk v7 X (rkC kep0 t pr qr) 53) (k7 : Below v6.heap.size v6 v7) : TwoK w0 v7 X k c r 0 kep0 p q t pr qr := by
  have h36 : Below v3.heap.size v3 v6 := h34.trans (h46.mono h34.size)
  have hl : ∀ j, Fk k c r j → j < v3.heap.size := S.kk.lt
  have h1 := h34.size
  have h2 := h46.size
  refine ⟨(S.grow h36).grow k7, ?_, fun hu => ?_, b7, (rk6.mono fun j hj ha => ⟨fun hu => ?_, fun e => ?_⟩).below k7, ((S.kk.an.mono fun j hj ha => ⟨ha, fun e => ?_⟩).below h36).below k7, CelS.fit_new⟩
  · have := S.bel.size
    omega
  · have := hl X hu
    omega
  · have := hl j hu
    omega
  · omega
  · omega

end Go.Proofs.Ytbifikeecmaakaa
