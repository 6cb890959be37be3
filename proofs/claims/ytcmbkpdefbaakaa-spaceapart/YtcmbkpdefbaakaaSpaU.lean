/-
  The contract of layer 15's reference's set, done; Mark, Give. Conditions: none but that the space may be, and numbers of the language.
-/
import Derived.Test.YtcmbkpdefbaakaaSpaT
namespace Go.Proofs.Ytcmbkpdefbaakaa
open Go.RowKit

theorem OwnB.lower {w : World} {base base' : Nat} {v : Value} {l : List Bool} (h : OwnB w base v l) (hb : base' ≤ base) : OwnB w base' v l := by
  obtain ⟨h1, h2⟩ := h
  refine ⟨h1, ?_⟩
  rcases h2 with h2 | ⟨g, cap, cur, hv, hgb, r2⟩
  · exact Or.inl h2
  · exact Or.inr ⟨g, cap, cur, hv, Nat.le_trans hb hgb, r2⟩
theorem putB_step (l : List Bool) (a n : Nat) (b : Bool) {k : Nat} (hk : k < l.length) : (putB l a n b).take (k + 1) = (putB l a n b).take k ++ [putF l a n b k] := map_stepN _ hk

set_option maxRecDepth 100000 in
set_option maxHeartbeats 4000000 in
theorem rSet15Do (w : World) {A : Nat → Prop} {S : SpS} {p : Option Addr} {c : Nat} (hA : ∀ j, w.heap.size ≤ j → A j) (h : RZ A w S p c) (ok : S.ok) (a n : Nat) (h1 : 1 ≤ n) (h3 : S.first ≤ a) (h4 : a + n ≤ S.l.length) (b : Bool) (e : allB S.l a n (!b) = true) (wrong : Int) : Calls Try.prog 24 #[.agg (zc S p c).toArray, .int .i64 (a : Int), .int .i64 (n : Int), .bool b, .int .i64 wrong] w fun e w' => ∃ p' c', e = .returned (.tuple #[.agg (zc ⟨S.first, putB S.l a n b⟩ p' c').toArray, .int .i64 0]) ∧ RZ A w' ⟨S.first, putB S.l a n b⟩ p' c' ∧ Below w.heap.size w w' := by
  have h2 := ok.n2
  have HC : Hid (∀ u, Below w.heap.size w u → Calls Try.prog 22 #[.agg (zc S p c).toArray, .int .i64 (a : Int), .int .i64 (n : Int), .bool !b] u fun e w' => e = .returned (.bool true) ∧ Below u.heap.size u w') := fun u hu => by
    have := rAll15 u (h.grow hu) ok a n (!b) h4
    rw [e] at this
    exact this
  obtain ⟨g, o, rfl, hgl, hc⟩ := h.b.at ok.n1
  have H : Hid (∀ u, Below w.heap.size w u → ∀ i, i < S.l.length → u.cell? ⟨g, o + i, none⟩ = some (.bool (S.l.getD i false))) := fun u hu i hi => by rw [hu.cell (p := ⟨g, o + i, none⟩) hgl]; exact hc i hi
  have HA : Hid (∀ j, w.heap.size ≤ j → A j) := hA
  obtain ⟨L, hL⟩ : ∃ L, L = putB S.l a n b := ⟨_, rfl⟩
  have HLn : Hid (L.length = S.l.length) := by show L.length = _; rw [hL, putB_length]
  have HS : Hid (∀ k, k < S.l.length → L.take (k + 1) = L.take k ++ [putF S.l a n b k]) := fun k hk => by rw [hL]; exact putB_step _ _ _ _ hk
  rw [← hL]
  have j1 : ¬ (n : Int) < 1 := by omega
  have j2 : ¬ (S.l.length : Int) < (n : Int) := by omega
  have j3 : ¬ (a : Int) < (S.first : Int) := by omega
  have j4 : ¬ (S.l.length : Int) - (n : Int) < (a : Int) := by omega
  have j5 : (S.l.length : Int) ≤ 4096 := by omega
  have key : Hid (∀ u a' c', RZ A u ⟨S.first, L⟩ a' c' → Below w.heap.size w u → ∃ p' c'', (.returned (.tuple #[.agg #[.int .i64 (S.first : Int), .slice a' S.l.length c'], .int .i64 0]) : Ending) = .returned (.tuple #[.agg (zc ⟨S.first, L⟩ p' c'').toArray, .int .i64 0]) ∧ RZ A u ⟨S.first, L⟩ p' c'' ∧ Below w.heap.size w u) := fun u a' c' hr hu => ⟨a', c', by unfold zc; dsimp only; rw [HLn.out], hr, hu⟩
  obtain ⟨X, hX⟩ : ∃ X, X = fun e w' => ∃ p' c', e = Ending.returned (.tuple #[.agg (zc ⟨S.first, L⟩ p' c').toArray, .int .i64 0]) ∧ RZ A w' ⟨S.first, L⟩ p' c' ∧ Below w.heap.size w w' := ⟨_, rfl⟩
  have HX : Hid (∀ u a' c', OwnB u w.heap.size (.slice a' S.l.length c') L → Below w.heap.size w u → X (.returned (.tuple #[.agg #[.int .i64 (S.first : Int), .slice a' S.l.length c'], .int .i64 0])) u) := fun u a' c' ho hu => by rw [hX]; exact key.out u a' c' (OwnB.rz (S := ⟨S.first, L⟩) ho HA.out) hu
  rw [← hX]
  clear hX key hL h ok e hc hA
  unfold zc at *
  have HL4 : Hid (a + n ≤ S.l.length) := h4
  have HP : Hid (∀ k, putF S.l a n b k = if a ≤ k ∧ k < a + n then b else S.l.getD k false) := fun k => rfl
  generalize S.l.length = m at *
  generalize S.l = l at *
  generalize hf : (S.first : Int) = f at *
  clear hf h1 h3 h4
  have bC : Blk ((w.alloc (.cells #[.int .i64 f, .slice (some ⟨g, o, none⟩) m c] 30)).alloc (.cells #[.int .i64 0, .slice none 0 0] 30)) w.heap.size [.int .i64 f, .slice (some ⟨g, o, none⟩) m c] 30 := (Blk.newAt w _ _ w.heap.size rfl _ rfl).old _
  have bR : Blk ((w.alloc (.cells #[.int .i64 f, .slice (some ⟨g, o, none⟩) m c] 30)).alloc (.cells #[.int .i64 0, .slice none 0 0] 30)) (w.heap.size + 1) [.int .i64 0, .slice none 0 0] 30 := Blk.newAt (w.alloc (.cells #[.int .i64 f, .slice (some ⟨g, o, none⟩) m c] 30)) _ _ _ (by simp) _ rfl
  have k0 : Below w.heap.size w ((w.alloc (.cells #[.int .i64 f, .slice (some ⟨g, o, none⟩) m c] 30)).alloc (.cells #[.int .i64 0, .slice none 0 0] 30)) := below2 _ _ _
  cases b
  · go_enter Try.func24, Try.ntmps24
    go_wp2_with fail
    refine (HC.out _ k0).mono ?_
    rintro e w1 ⟨rfl, hb⟩
    have bC1 := bC.below hb bC.lt
    have bR1 := bR.below hb bR.lt
    have k1 : Below w.heap.size w w1 := k0.trans (hb.mono (by simp; omega))
    have c0 : w1.cell? ⟨w.heap.size, 0, none⟩ = some (.int .i64 f) := bC1.cell 0
    have l1 := bR1.lt
    have l0 := bC1.lt
    have bO : Blk (w1.alloc (.cells #[.int .i64 f, .slice none 0 0] 30)) w1.heap.size [.int .i64 f, .slice none 0 0] 30 := Blk.new w1 _ _
    have bC2 := bC1.old (.cells #[.int .i64 f, .slice none 0 0] 30)
    have bR2 := bR1.old (.cells #[.int .i64 f, .slice none 0 0] 30)
    have k2 : Below w.heap.size w (w1.alloc (.cells #[.int .i64 f, .slice none 0 0] 30)) := k1.alloc k1.size _
    have s2 : w1.heap.size + 1 ≤ (w1.alloc (.cells #[.int .i64 f, .slice none 0 0] 30)).heap.size := by simp
    clear bC bR bC1 bR1 k0 k1 hb HC
    have HW : Hid (w.heap.size + 1 < w1.heap.size) := l1
    go_wp2_with fail
    go_loopw [13] (fun x wr => ∃ (k : Nat) (p' : Option Addr) (q c' : Nat), k ≤ m ∧ x = .int .i64 (k : Int) ∧ q = k ∧ Hid (OwnB wr (w1.heap.size + 1) (.slice p' q c') (L.take k)) ∧ Blk wr w.heap.size [.int .i64 f, .slice (some ⟨g, o, none⟩) m c] 30 ∧ Blk wr (w.heap.size + 1) [.int .i64 0, .slice none 0 0] 30 ∧ Blk wr w1.heap.size [.int .i64 f, .slice p' q c'] 30 ∧ Below w.heap.size w wr ∧ w1.heap.size + 1 ≤ wr.heap.size) (fun x _ => m - (intOf x).toNat)
    case atStart => exact ⟨0, none, 0, 0, by omega, rfl, rfl, OwnB.nil _ _, bC2, bR2, bO, k2, s2⟩
    case round =>
      clear bC2 bR2 bO k2 s2 c0 l0 l1
      obtain ⟨k, p', q, c', hk, rfl, rfl, HO, bC, bZ, bX, kb, hs⟩ := hrel
      have d0 : wr.cell? ⟨w1.heap.size, 1, none⟩ = some (.slice p' q c') := bX.cell 1
      have d5 : wr.cell? ⟨w.heap.size, 1, none⟩ = some (.slice (some ⟨g, o, none⟩) m c) := bC.cell 1
      have hlX := bX.lt
      have hlC := bC.lt
      by_cases hlt : q < m
      · have i1 : (q : Int) < (m : Int) := by omega
        have HC : Hid (Blk wr w.heap.size [.int .i64 f, .slice (some ⟨g, o, none⟩) m c] 30) := bC
        have HX2 : Hid (Blk wr w1.heap.size [.int .i64 f, .slice p' q c'] 30) := bX
        have HZ : Hid (Blk wr (w.heap.size + 1) [.int .i64 0, .slice none 0 0] 30) := bZ
        have HK : Hid (Below w.heap.size w wr) := kb
        have Hs : Hid (w1.heap.size + 1 ≤ wr.heap.size) := hs
        have hr : (L.take q).length + 1 ≤ 1000000000 := by
          have := List.length_take_le' q L
          have := HLn.out
          omega
        clear bC bX bZ kb hs
        by_cases hin : a ≤ q ∧ q < a + n
        · have HE : Hid (L.take (q + 1) = L.take q ++ [false]) := by show _ = _; rw [HS.out q hlt, HP.out, if_pos hin]
          have i2 : (a : Int) ≤ (q : Int) := by omega
          have i3 : (q : Int) < (a : Int) + (n : Int) := by omega
          have i4 : (a : Int) + (n : Int) ≤ 4096 := by have := HL4.out; omega
          clear hin
          go_wp2_with (at_builtin; go_must (refine wpList_bapp (wr.alloc (.cells #[.bool false] 4)) rfl (.tmp 69) (.tmp 71) rfl (w1.heap.size + 1) _ _ rfl (HO.out.below (below_alloc _ _) (Nat.le_refl _)) ⟨wr.heap.size, 0, none⟩ 1 1 [false] rfl (bo_made wr false) hr (by have := Hs.out; simp; omega) ?_); intro v2 w2 ho2 hb2; have hb3 : Below (w1.heap.size + 1) wr w2 := (below_alloc wr (.cells #[.bool false] 4)).mono Hs.out |>.trans hb2; have bX2 := HX2.out.below hb3 (by omega); have d2 := bX2.cell 1; have z2 := bX2.free 1; have l2 := bX2.lt; obtain ⟨a2, m2, c2, rfl, hm2⟩ := ho2.shape; have HM : Hid (m2 = (L.take q ++ [false]).length) := hm2; clear hm2)
          have HM2 : Hid (m2 = q + 1) := by show m2 = q + 1; rw [HM.out, ← HE.out, List.length_take, HLn.out]; omega
          have hset := but_set w2 w1.heap.size 1 (.slice a2 m2 c2)
          have HO2 : Hid (OwnB (w2.setCell ⟨w1.heap.size, 1, none⟩ (.slice a2 m2 c2)) (w1.heap.size + 1) (.slice a2 m2 c2) (L.take (q + 1))) := by rw [HE.out]; exact ho2.grown hset (by omega)
          have w1s := HW.out
          have bZ2 := HZ.out.below hb3 (by omega)
          have bC2 := HC.out.below hb3 (by omega)
          have b9 := bX2.setC 1 (.slice a2 m2 c2)
          have b8 := bZ2.setO (p := ⟨w1.heap.size, 1, none⟩) (by simp; omega) (.slice a2 m2 c2)
          have b7 := bC2.setO (p := ⟨w1.heap.size, 1, none⟩) (by simp; omega) (.slice a2 m2 c2)
          have k9 : Below w.heap.size w (w2.setCell ⟨w1.heap.size, 1, none⟩ (.slice a2 m2 c2)) := (HK.out.trans (hb3.mono (by omega))).setCell (p := ⟨w1.heap.size, 1, none⟩) (by show w.heap.size ≤ w1.heap.size; omega) _
          have s9 : w1.heap.size + 1 ≤ (w2.setCell ⟨w1.heap.size, 1, none⟩ (.slice a2 m2 c2)).heap.size := by
            have h := hb3.size
            have h' := Hs.out
            simp [World.setCell]
            omega
          clear HM
          go_roundw
          case rel => exact ⟨q + 1, a2, m2, c2, by omega, by go_num, HM2.out, HO2, b7, b8, b9, k9, s9⟩
          case measure => simp [intOf]; omega
        · obtain ⟨bit, hbit⟩ : ∃ bit, bit = l.getD q false := ⟨_, rfl⟩
          have HE : Hid (L.take (q + 1) = L.take q ++ [bit]) := by show _ = _; rw [HS.out q hlt, HP.out, if_neg hin, hbit]
          have c1 : wr.cell? ⟨g, o + q, none⟩ = some (.bool bit) := by rw [hbit]; exact H.out wr HK.out q hlt
          have i0 : (0 : Int) ≤ (q : Int) := by omega
          have hgw : g < wr.heap.size := Nat.lt_of_lt_of_le hgl HK.out.size
          clear hbit
          by_cases i2 : (a : Int) ≤ (q : Int)
          · have i3 : ¬ (q : Int) < (a : Int) + (n : Int) := by omega
            have i4 : (a : Int) + (n : Int) ≤ 4096 := by have := HL4.out; omega
            clear hin
            go_wp2_with fail
            go_region_law (refine step_bapp rfl (.tmp 75) (.tmp 81) rfl (w1.heap.size + 1) _ _ rfl (HO.out.below (below_alloc _ _).drew (Nat.le_refl _)) _ 1 1 [bit] rfl (bo_made wr bit).dr hr (by have := Hs.out; simp; omega) ?_; intro v2 w2 ho2 hb2; have hb3 : Below (w1.heap.size + 1) wr w2 := ((below_alloc wr (.cells #[.bool bit] 4)).drew).mono Hs.out |>.trans hb2; have bX2 := HX2.out.below hb3 (by omega); have d2 := bX2.cell 1; have z2 := bX2.free 1; have l2 := bX2.lt; obtain ⟨a2, m2, c2, rfl, hm2⟩ := ho2.shape; have HM : Hid (m2 = (L.take q ++ [bit]).length) := hm2; clear hm2)
            all_goals
              have HM2 : Hid (m2 = q + 1) := by show m2 = q + 1; rw [HM.out, ← HE.out, List.length_take, HLn.out]; omega
              have hset := but_set w2 w1.heap.size 1 (.slice a2 m2 c2)
              have HO2 : Hid (OwnB (w2.setCell ⟨w1.heap.size, 1, none⟩ (.slice a2 m2 c2)) (w1.heap.size + 1) (.slice a2 m2 c2) (L.take (q + 1))) := by rw [HE.out]; exact ho2.grown hset (by omega)
              have w1s := HW.out
              have bZ2 := HZ.out.below hb3 (by omega)
              have bC2 := HC.out.below hb3 (by omega)
              have b9 := bX2.setC 1 (.slice a2 m2 c2)
              have b8 := bZ2.setO (p := ⟨w1.heap.size, 1, none⟩) (by simp; omega) (.slice a2 m2 c2)
              have b7 := bC2.setO (p := ⟨w1.heap.size, 1, none⟩) (by simp; omega) (.slice a2 m2 c2)
              have k9 : Below w.heap.size w (w2.setCell ⟨w1.heap.size, 1, none⟩ (.slice a2 m2 c2)) := (HK.out.trans (hb3.mono (by omega))).setCell (p := ⟨w1.heap.size, 1, none⟩) (by show w.heap.size ≤ w1.heap.size; omega) _
              have s9 : w1.heap.size + 1 ≤ (w2.setCell ⟨w1.heap.size, 1, none⟩ (.slice a2 m2 c2)).heap.size := by
                have h := hb3.size
                have h' := Hs.out
                simp [World.setCell]
                omega
              clear HM
              go_wp2
              go_roundw
              case rel => exact ⟨q + 1, a2, m2, c2, by omega, by go_num, HM2.out, HO2, b7, b8, b9, k9, s9⟩
              case measure => simp [intOf]; omega
          · have i4 : (a : Int) + (n : Int) ≤ 4096 := by have := HL4.out; omega
            clear hin
            go_wp2_with fail
            go_region_law (refine step_bapp rfl (.tmp 75) (.tmp 81) rfl (w1.heap.size + 1) _ _ rfl (HO.out.below (below_alloc _ _).drew (Nat.le_refl _)) _ 1 1 [bit] rfl (bo_made wr bit).dr hr (by have := Hs.out; simp; omega) ?_; intro v2 w2 ho2 hb2; have hb3 : Below (w1.heap.size + 1) wr w2 := ((below_alloc wr (.cells #[.bool bit] 4)).drew).mono Hs.out |>.trans hb2; have bX2 := HX2.out.below hb3 (by omega); have d2 := bX2.cell 1; have z2 := bX2.free 1; have l2 := bX2.lt; obtain ⟨a2, m2, c2, rfl, hm2⟩ := ho2.shape; have HM : Hid (m2 = (L.take q ++ [bit]).length) := hm2; clear hm2)
            all_goals
              have HM2 : Hid (m2 = q + 1) := by show m2 = q + 1; rw [HM.out, ← HE.out, List.length_take, HLn.out]; omega
              have hset := but_set w2 w1.heap.size 1 (.slice a2 m2 c2)
              have HO2 : Hid (OwnB (w2.setCell ⟨w1.heap.size, 1, none⟩ (.slice a2 m2 c2)) (w1.heap.size + 1) (.slice a2 m2 c2) (L.take (q + 1))) := by rw [HE.out]; exact ho2.grown hset (by omega)
              have w1s := HW.out
              have bZ2 := HZ.out.below hb3 (by omega)
              have bC2 := HC.out.below hb3 (by omega)
              have b9 := bX2.setC 1 (.slice a2 m2 c2)
              have b8 := bZ2.setO (p := ⟨w1.heap.size, 1, none⟩) (by simp; omega) (.slice a2 m2 c2)
              have b7 := bC2.setO (p := ⟨w1.heap.size, 1, none⟩) (by simp; omega) (.slice a2 m2 c2)
              have k9 : Below w.heap.size w (w2.setCell ⟨w1.heap.size, 1, none⟩ (.slice a2 m2 c2)) := (HK.out.trans (hb3.mono (by omega))).setCell (p := ⟨w1.heap.size, 1, none⟩) (by show w.heap.size ≤ w1.heap.size; omega) _
              have s9 : w1.heap.size + 1 ≤ (w2.setCell ⟨w1.heap.size, 1, none⟩ (.slice a2 m2 c2)).heap.size := by
                have h := hb3.size
                have h' := Hs.out
                simp [World.setCell]
                omega
              clear HM
              go_wp2
              go_roundw
              case rel => exact ⟨q + 1, a2, m2, c2, by omega, by go_num, HM2.out, HO2, b7, b8, b9, k9, s9⟩
              case measure => simp [intOf]; omega
      · obtain rfl : q = m := by omega
        have i1 : ¬ (q : Int) < (q : Int) := by omega
        have w1s := HW.out
        have e0 : wr.cell? ⟨w1.heap.size, 0, none⟩ = some (.int .i64 f) := bX.cell 0
        have y0 : wr.cell? ⟨w.heap.size + 1, 0, none⟩ = some (.int .i64 0) := bZ.cell 0
        have y1 : wr.cell? ⟨w.heap.size + 1, 1, none⟩ = some (.slice none 0 0) := bZ.cell 1
        have z0 := bZ.free 0
        have z1 := bZ.free 1
        have hlZ := bZ.lt
        have ho : OwnB wr (w1.heap.size + 1) (.slice p' q c') L := by
          have h := HO.out
          rw [List.take_of_length_le (by rw [HLn.out]; exact Nat.le_refl _)] at h
          exact h
        have HP9 : Hid (OwnB ((wr.setCell ⟨w.heap.size + 1, 0, none⟩ (.int .i64 f)).setCell ⟨w.heap.size + 1, 1, none⟩ (.slice p' q c')) w.heap.size (.slice p' q c') L) :=
          OwnB.lower ((ho.grown (but_set wr (w.heap.size + 1) 0 (.int .i64 f)) (by omega)).grown (but_set _ (w.heap.size + 1) 1 (.slice p' q c')) (by omega)) (by omega)
        have H9 : Hid (Blk ((wr.setCell ⟨w.heap.size + 1, 0, none⟩ (.int .i64 f)).setCell ⟨w.heap.size + 1, 1, none⟩ (.slice p' q c')) (w.heap.size + 1) [.int .i64 f, .slice p' q c'] 30) := (bZ.setC 0 (.int .i64 f)).setC 1 (.slice p' q c')
        have K9 : Hid (Below w.heap.size w ((wr.setCell ⟨w.heap.size + 1, 0, none⟩ (.int .i64 f)).setCell ⟨w.heap.size + 1, 1, none⟩ (.slice p' q c'))) := (kb.setCell (p := ⟨w.heap.size + 1, 0, none⟩) (by simp) _).setCell (p := ⟨w.heap.size + 1, 1, none⟩) (by simp) _
        clear bX bZ bC kb HO ho hs
        have ne1 : ¬ w.heap.size + 1 = w1.heap.size := by omega
        clear w1s
        go_wp2_with fail
        exact bodyPost_ret (v := .tuple #[.agg #[.int .i64 f, .slice p' q c'], .int .i64 0]) (resZ2 Try.results24 _ _ (w.heap.size + 1) _ rfl (run_loadVar_row _ (w.heap.size + 1) 30 30 _ (0, 0) _ H9.out Try.underlying30 rfl sizeZ) _ rfl) rfl (HX.out _ _ _ HP9.out K9.out)
  · go_enter Try.func24, Try.ntmps24
    go_wp2_with fail
    refine (HC.out _ k0).mono ?_
    rintro e w1 ⟨rfl, hb⟩
    have bC1 := bC.below hb bC.lt
    have bR1 := bR.below hb bR.lt
    have k1 : Below w.heap.size w w1 := k0.trans (hb.mono (by simp; omega))
    have c0 : w1.cell? ⟨w.heap.size, 0, none⟩ = some (.int .i64 f) := bC1.cell 0
    have l1 := bR1.lt
    have l0 := bC1.lt
    have bO : Blk (w1.alloc (.cells #[.int .i64 f, .slice none 0 0] 30)) w1.heap.size [.int .i64 f, .slice none 0 0] 30 := Blk.new w1 _ _
    have bC2 := bC1.old (.cells #[.int .i64 f, .slice none 0 0] 30)
    have bR2 := bR1.old (.cells #[.int .i64 f, .slice none 0 0] 30)
    have k2 : Below w.heap.size w (w1.alloc (.cells #[.int .i64 f, .slice none 0 0] 30)) := k1.alloc k1.size _
    have s2 : w1.heap.size + 1 ≤ (w1.alloc (.cells #[.int .i64 f, .slice none 0 0] 30)).heap.size := by simp
    clear bC bR bC1 bR1 k0 k1 hb HC
    have HW : Hid (w.heap.size + 1 < w1.heap.size) := l1
    go_wp2_with fail
    go_loopw [13] (fun x wr => ∃ (k : Nat) (p' : Option Addr) (q c' : Nat), k ≤ m ∧ x = .int .i64 (k : Int) ∧ q = k ∧ Hid (OwnB wr (w1.heap.size + 1) (.slice p' q c') (L.take k)) ∧ Blk wr w.heap.size [.int .i64 f, .slice (some ⟨g, o, none⟩) m c] 30 ∧ Blk wr (w.heap.size + 1) [.int .i64 0, .slice none 0 0] 30 ∧ Blk wr w1.heap.size [.int .i64 f, .slice p' q c'] 30 ∧ Below w.heap.size w wr ∧ w1.heap.size + 1 ≤ wr.heap.size) (fun x _ => m - (intOf x).toNat)
    case atStart => exact ⟨0, none, 0, 0, by omega, rfl, rfl, OwnB.nil _ _, bC2, bR2, bO, k2, s2⟩
    case round =>
      clear bC2 bR2 bO k2 s2 c0 l0 l1
      obtain ⟨k, p', q, c', hk, rfl, rfl, HO, bC, bZ, bX, kb, hs⟩ := hrel
      have d0 : wr.cell? ⟨w1.heap.size, 1, none⟩ = some (.slice p' q c') := bX.cell 1
      have d5 : wr.cell? ⟨w.heap.size, 1, none⟩ = some (.slice (some ⟨g, o, none⟩) m c) := bC.cell 1
      have hlX := bX.lt
      have hlC := bC.lt
      by_cases hlt : q < m
      · have i1 : (q : Int) < (m : Int) := by omega
        have HC : Hid (Blk wr w.heap.size [.int .i64 f, .slice (some ⟨g, o, none⟩) m c] 30) := bC
        have HX2 : Hid (Blk wr w1.heap.size [.int .i64 f, .slice p' q c'] 30) := bX
        have HZ : Hid (Blk wr (w.heap.size + 1) [.int .i64 0, .slice none 0 0] 30) := bZ
        have HK : Hid (Below w.heap.size w wr) := kb
        have Hs : Hid (w1.heap.size + 1 ≤ wr.heap.size) := hs
        have hr : (L.take q).length + 1 ≤ 1000000000 := by
          have := List.length_take_le' q L
          have := HLn.out
          omega
        clear bC bX bZ kb hs
        by_cases hin : a ≤ q ∧ q < a + n
        · have HE : Hid (L.take (q + 1) = L.take q ++ [true]) := by show _ = _; rw [HS.out q hlt, HP.out, if_pos hin]
          have i2 : (a : Int) ≤ (q : Int) := by omega
          have i3 : (q : Int) < (a : Int) + (n : Int) := by omega
          have i4 : (a : Int) + (n : Int) ≤ 4096 := by have := HL4.out; omega
          clear hin
          go_wp2_with (at_builtin; go_must (refine wpList_bapp (wr.alloc (.cells #[.bool true] 4)) rfl (.tmp 69) (.tmp 71) rfl (w1.heap.size + 1) _ _ rfl (HO.out.below (below_alloc _ _) (Nat.le_refl _)) ⟨wr.heap.size, 0, none⟩ 1 1 [true] rfl (bo_made wr true) hr (by have := Hs.out; simp; omega) ?_); intro v2 w2 ho2 hb2; have hb3 : Below (w1.heap.size + 1) wr w2 := (below_alloc wr (.cells #[.bool true] 4)).mono Hs.out |>.trans hb2; have bX2 := HX2.out.below hb3 (by omega); have d2 := bX2.cell 1; have z2 := bX2.free 1; have l2 := bX2.lt; obtain ⟨a2, m2, c2, rfl, hm2⟩ := ho2.shape; have HM : Hid (m2 = (L.take q ++ [true]).length) := hm2; clear hm2)
          have HM2 : Hid (m2 = q + 1) := by show m2 = q + 1; rw [HM.out, ← HE.out, List.length_take, HLn.out]; omega
          have hset := but_set w2 w1.heap.size 1 (.slice a2 m2 c2)
          have HO2 : Hid (OwnB (w2.setCell ⟨w1.heap.size, 1, none⟩ (.slice a2 m2 c2)) (w1.heap.size + 1) (.slice a2 m2 c2) (L.take (q + 1))) := by rw [HE.out]; exact ho2.grown hset (by omega)
          have w1s := HW.out
          have bZ2 := HZ.out.below hb3 (by omega)
          have bC2 := HC.out.below hb3 (by omega)
          have b9 := bX2.setC 1 (.slice a2 m2 c2)
          have b8 := bZ2.setO (p := ⟨w1.heap.size, 1, none⟩) (by simp; omega) (.slice a2 m2 c2)
          have b7 := bC2.setO (p := ⟨w1.heap.size, 1, none⟩) (by simp; omega) (.slice a2 m2 c2)
          have k9 : Below w.heap.size w (w2.setCell ⟨w1.heap.size, 1, none⟩ (.slice a2 m2 c2)) := (HK.out.trans (hb3.mono (by omega))).setCell (p := ⟨w1.heap.size, 1, none⟩) (by show w.heap.size ≤ w1.heap.size; omega) _
          have s9 : w1.heap.size + 1 ≤ (w2.setCell ⟨w1.heap.size, 1, none⟩ (.slice a2 m2 c2)).heap.size := by
            have h := hb3.size
            have h' := Hs.out
            simp [World.setCell]
            omega
          clear HM
          go_roundw
          case rel => exact ⟨q + 1, a2, m2, c2, by omega, by go_num, HM2.out, HO2, b7, b8, b9, k9, s9⟩
          case measure => simp [intOf]; omega
        · obtain ⟨bit, hbit⟩ : ∃ bit, bit = l.getD q false := ⟨_, rfl⟩
          have HE : Hid (L.take (q + 1) = L.take q ++ [bit]) := by show _ = _; rw [HS.out q hlt, HP.out, if_neg hin, hbit]
          have c1 : wr.cell? ⟨g, o + q, none⟩ = some (.bool bit) := by rw [hbit]; exact H.out wr HK.out q hlt
          have i0 : (0 : Int) ≤ (q : Int) := by omega
          have hgw : g < wr.heap.size := Nat.lt_of_lt_of_le hgl HK.out.size
          clear hbit
          by_cases i2 : (a : Int) ≤ (q : Int)
          · have i3 : ¬ (q : Int) < (a : Int) + (n : Int) := by omega
            have i4 : (a : Int) + (n : Int) ≤ 4096 := by have := HL4.out; omega
            clear hin
            go_wp2_with fail
            go_region_law (refine step_bapp rfl (.tmp 75) (.tmp 81) rfl (w1.heap.size + 1) _ _ rfl (HO.out.below (below_alloc _ _).drew (Nat.le_refl _)) _ 1 1 [bit] rfl (bo_made wr bit).dr hr (by have := Hs.out; simp; omega) ?_; intro v2 w2 ho2 hb2; have hb3 : Below (w1.heap.size + 1) wr w2 := ((below_alloc wr (.cells #[.bool bit] 4)).drew).mono Hs.out |>.trans hb2; have bX2 := HX2.out.below hb3 (by omega); have d2 := bX2.cell 1; have z2 := bX2.free 1; have l2 := bX2.lt; obtain ⟨a2, m2, c2, rfl, hm2⟩ := ho2.shape; have HM : Hid (m2 = (L.take q ++ [bit]).length) := hm2; clear hm2)
            all_goals
              have HM2 : Hid (m2 = q + 1) := by show m2 = q + 1; rw [HM.out, ← HE.out, List.length_take, HLn.out]; omega
              have hset := but_set w2 w1.heap.size 1 (.slice a2 m2 c2)
              have HO2 : Hid (OwnB (w2.setCell ⟨w1.heap.size, 1, none⟩ (.slice a2 m2 c2)) (w1.heap.size + 1) (.slice a2 m2 c2) (L.take (q + 1))) := by rw [HE.out]; exact ho2.grown hset (by omega)
              have w1s := HW.out
              have bZ2 := HZ.out.below hb3 (by omega)
              have bC2 := HC.out.below hb3 (by omega)
              have b9 := bX2.setC 1 (.slice a2 m2 c2)
              have b8 := bZ2.setO (p := ⟨w1.heap.size, 1, none⟩) (by simp; omega) (.slice a2 m2 c2)
              have b7 := bC2.setO (p := ⟨w1.heap.size, 1, none⟩) (by simp; omega) (.slice a2 m2 c2)
              have k9 : Below w.heap.size w (w2.setCell ⟨w1.heap.size, 1, none⟩ (.slice a2 m2 c2)) := (HK.out.trans (hb3.mono (by omega))).setCell (p := ⟨w1.heap.size, 1, none⟩) (by show w.heap.size ≤ w1.heap.size; omega) _
              have s9 : w1.heap.size + 1 ≤ (w2.setCell ⟨w1.heap.size, 1, none⟩ (.slice a2 m2 c2)).heap.size := by
                have h := hb3.size
                have h' := Hs.out
                simp [World.setCell]
                omega
              clear HM
              go_wp2
              go_roundw
              case rel => exact ⟨q + 1, a2, m2, c2, by omega, by go_num, HM2.out, HO2, b7, b8, b9, k9, s9⟩
              case measure => simp [intOf]; omega
          · have i4 : (a : Int) + (n : Int) ≤ 4096 := by have := HL4.out; omega
            clear hin
            go_wp2_with fail
            go_region_law (refine step_bapp rfl (.tmp 75) (.tmp 81) rfl (w1.heap.size + 1) _ _ rfl (HO.out.below (below_alloc _ _).drew (Nat.le_refl _)) _ 1 1 [bit] rfl (bo_made wr bit).dr hr (by have := Hs.out; simp; omega) ?_; intro v2 w2 ho2 hb2; have hb3 : Below (w1.heap.size + 1) wr w2 := ((below_alloc wr (.cells #[.bool bit] 4)).drew).mono Hs.out |>.trans hb2; have bX2 := HX2.out.below hb3 (by omega); have d2 := bX2.cell 1; have z2 := bX2.free 1; have l2 := bX2.lt; obtain ⟨a2, m2, c2, rfl, hm2⟩ := ho2.shape; have HM : Hid (m2 = (L.take q ++ [bit]).length) := hm2; clear hm2)
            all_goals
              have HM2 : Hid (m2 = q + 1) := by show m2 = q + 1; rw [HM.out, ← HE.out, List.length_take, HLn.out]; omega
              have hset := but_set w2 w1.heap.size 1 (.slice a2 m2 c2)
              have HO2 : Hid (OwnB (w2.setCell ⟨w1.heap.size, 1, none⟩ (.slice a2 m2 c2)) (w1.heap.size + 1) (.slice a2 m2 c2) (L.take (q + 1))) := by rw [HE.out]; exact ho2.grown hset (by omega)
              have w1s := HW.out
              have bZ2 := HZ.out.below hb3 (by omega)
              have bC2 := HC.out.below hb3 (by omega)
              have b9 := bX2.setC 1 (.slice a2 m2 c2)
              have b8 := bZ2.setO (p := ⟨w1.heap.size, 1, none⟩) (by simp; omega) (.slice a2 m2 c2)
              have b7 := bC2.setO (p := ⟨w1.heap.size, 1, none⟩) (by simp; omega) (.slice a2 m2 c2)
              have k9 : Below w.heap.size w (w2.setCell ⟨w1.heap.size, 1, none⟩ (.slice a2 m2 c2)) := (HK.out.trans (hb3.mono (by omega))).setCell (p := ⟨w1.heap.size, 1, none⟩) (by show w.heap.size ≤ w1.heap.size; omega) _
              have s9 : w1.heap.size + 1 ≤ (w2.setCell ⟨w1.heap.size, 1, none⟩ (.slice a2 m2 c2)).heap.size := by
                have h := hb3.size
                have h' := Hs.out
                simp [World.setCell]
                omega
              clear HM
              go_wp2
              go_roundw
              case rel => exact ⟨q + 1, a2, m2, c2, by omega, by go_num, HM2.out, HO2, b7, b8, b9, k9, s9⟩
              case measure => simp [intOf]; omega
      · obtain rfl : q = m := by omega
        have i1 : ¬ (q : Int) < (q : Int) := by omega
        have w1s := HW.out
        have e0 : wr.cell? ⟨w1.heap.size, 0, none⟩ = some (.int .i64 f) := bX.cell 0
        have y0 : wr.cell? ⟨w.heap.size + 1, 0, none⟩ = some (.int .i64 0) := bZ.cell 0
        have y1 : wr.cell? ⟨w.heap.size + 1, 1, none⟩ = some (.slice none 0 0) := bZ.cell 1
        have z0 := bZ.free 0
        have z1 := bZ.free 1
        have hlZ := bZ.lt
        have ho : OwnB wr (w1.heap.size + 1) (.slice p' q c') L := by
          have h := HO.out
          rw [List.take_of_length_le (by rw [HLn.out]; exact Nat.le_refl _)] at h
          exact h
        have HP9 : Hid (OwnB ((wr.setCell ⟨w.heap.size + 1, 0, none⟩ (.int .i64 f)).setCell ⟨w.heap.size + 1, 1, none⟩ (.slice p' q c')) w.heap.size (.slice p' q c') L) :=
          OwnB.lower ((ho.grown (but_set wr (w.heap.size + 1) 0 (.int .i64 f)) (by omega)).grown (but_set _ (w.heap.size + 1) 1 (.slice p' q c')) (by omega)) (by omega)
        have H9 : Hid (Blk ((wr.setCell ⟨w.heap.size + 1, 0, none⟩ (.int .i64 f)).setCell ⟨w.heap.size + 1, 1, none⟩ (.slice p' q c')) (w.heap.size + 1) [.int .i64 f, .slice p' q c'] 30) := (bZ.setC 0 (.int .i64 f)).setC 1 (.slice p' q c')
        have K9 : Hid (Below w.heap.size w ((wr.setCell ⟨w.heap.size + 1, 0, none⟩ (.int .i64 f)).setCell ⟨w.heap.size + 1, 1, none⟩ (.slice p' q c'))) := (kb.setCell (p := ⟨w.heap.size + 1, 0, none⟩) (by simp) _).setCell (p := ⟨w.heap.size + 1, 1, none⟩) (by simp) _
        clear bX bZ bC kb HO ho hs
        have ne1 : ¬ w.heap.size + 1 = w1.heap.size := by omega
        clear w1s
        go_wp2_with fail
        exact bodyPost_ret (v := .tuple #[.agg #[.int .i64 f, .slice p' q c'], .int .i64 0]) (resZ2 Try.results24 _ _ (w.heap.size + 1) _ rfl (run_loadVar_row _ (w.heap.size + 1) 30 30 _ (0, 0) _ H9.out Try.underlying30 rfl sizeZ) _ rfl) rfl (HX.out _ _ _ HP9.out K9.out)

end Go.Proofs.Ytcmbkpdefbaakaa
