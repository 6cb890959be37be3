/-
  2 texts in one. No statement of the seat is proved here.
-/
import Derived.Test.YtbifikeecmaakaaG32
import Derived.Deep.CutBlock
import Derived.Lib.ConvBytes
import Derived.Laws.AppendOwn
/-
  The contract of layer 14's reference's Check. Conditions: none.
-/
namespace Go.Proofs.Ytbifikeecmaakaa
open Go.RowKit

set_option maxRecDepth 100000 in
set_option maxHeartbeats 4000000 in
theorem rCheckA (w : World) {A : Nat → Prop} {a : AncS} {p q : Tri} (h : Anc A w a p q) : Calls Try.prog 15 #[anV a p q] w fun e w' => e = .returned (.int .i64 (chkA a)) ∧ Below w.heap.size w w' := by
  obtain ⟨sq, ep, gi, ro, re, pe, ma, ks⟩ := a
  obtain ⟨pa, pn, pc⟩ := p
  obtain ⟨qa, qn, qc⟩ := q
  have hml : ma.length = pn := h.ml
  have hkl : ks.length = qn := h.kl
  have hmx := h.max
  dsimp only at hmx
  have HH : Hid (Anc A w ⟨sq, ep, gi, ro, re, pe, ma, ks⟩ ⟨pa, pn, pc⟩ ⟨qa, qn, qc⟩) := h
  clear h
  unfold anV anc
  dsimp only
  by_cases t1 : ¬ sq < 1
  · by_cases t2 : 0 ≤ sq ∧ sq ≤ 1099511627776
    · have C2 : Hid (∀ w, Calls Try.prog 51 #[.int .i64 sq] w fun e w' => e = .returned (.bool true) ∧ w = w') := fun w => rSmall w sq true (decide_eq_true (by omega)).symm
      by_cases t3 : 0 ≤ ep ∧ ep ≤ 1099511627776
      · have C3 : Hid (∀ w, Calls Try.prog 51 #[.int .i64 ep] w fun e w' => e = .returned (.bool true) ∧ w = w') := fun w => rSmall w ep true (decide_eq_true (by omega)).symm
        by_cases t4 : 0 ≤ gi ∧ gi ≤ 1099511627776
        · have C4 : Hid (∀ w, Calls Try.prog 51 #[.int .i64 gi] w fun e w' => e = .returned (.bool true) ∧ w = w') := fun w => rSmall w gi true (decide_eq_true (by omega)).symm
          by_cases t5 : 0 ≤ re ∧ re ≤ 1099511627776
          · have C5 : Hid (∀ w, Calls Try.prog 51 #[.int .i64 re] w fun e w' => e = .returned (.bool true) ∧ w = w') := fun w => rSmall w re true (decide_eq_true (by omega)).symm
            by_cases t6 : ¬ gi < ep
            · by_cases t7 : ¬ ro < -1
              · by_cases t8 : ¬ 4096 ≤ ro
                · by_cases t9 : ¬ pe < 0
                  · by_cases t10 : ¬ 4096 ≤ pe
                    · by_cases s1 : pn = 32
                      · have b1 : ((pn : Int) == 32) = true := by simp; omega
                        by_cases s2 : 16 < qn
                        · rw [chkA_size (show okN _ from by unfold okN; dsimp only; omega) (show okB _ from by unfold okB; dsimp only; omega) (Or.inr (by show 16 < ks.length; omega))]
                          have b2 : (16 : Int) < (qn : Int) := by omega
                          clear HH hml hkl t2 t3 t4 t5
                          go_enter Try.func15, Try.ntmps15
                          go_wp2_with fail
                          refine (C2.out _).mono ?_
                          rintro e w1 ⟨rfl, rfl⟩
                          go_wp2_with fail
                          refine (C3.out _).mono ?_
                          rintro e w1 ⟨rfl, rfl⟩
                          go_wp2_with fail
                          refine (C4.out _).mono ?_
                          rintro e w1 ⟨rfl, rfl⟩
                          go_wp2_with fail
                          refine (C5.out _).mono ?_
                          rintro e w1 ⟨rfl, rfl⟩
                          go_wp2_with fail
                          go_ret
                          exact ⟨rfl, below_alloc _ _⟩
                        · have b2 : ¬ (16 : Int) < (qn : Int) := by omega
                          rw [chkA_keks (show okN _ from by unfold okN; dsimp only; omega) (show okB _ from by unfold okB; dsimp only; omega) (by show ¬ (ma.length ≠ 32 ∨ 16 < ks.length); omega)]
                          dsimp only
                          clear t2 t3 t4 t5
                          go_enter Try.func15, Try.ntmps15
                          go_wp2_with fail
                          refine (C2.out _).mono ?_
                          rintro e w1 ⟨rfl, rfl⟩
                          go_wp2_with fail
                          refine (C3.out _).mono ?_
                          rintro e w1 ⟨rfl, rfl⟩
                          go_wp2_with fail
                          refine (C4.out _).mono ?_
                          rintro e w1 ⟨rfl, rfl⟩
                          go_wp2_with fail
                          refine (C5.out _).mono ?_
                          rintro e w1 ⟨rfl, rfl⟩
                          go_wp2_with fail
                          clear C2 C3 C4 C5
                          go_loopw [3] (fun i wr => ∃ k : Nat, k ≤ qn ∧ i = .int .i64 (k : Int) ∧ Hid (chkKs ks = chkKs (ks.drop k)) ∧ wr.cell? ⟨w.heap.size, 7, none⟩ = some (.slice qa qn qc) ∧ Below w.heap.size w wr) (fun i _ => qn - (intOf i).toNat)
                          case atStart => exact ⟨0, Nat.zero_le _, rfl, rfl, cell_new _ _ _ _ _, below_alloc _ _⟩
                          case round =>
                            obtain ⟨k, hk, rfl, HI, c7, hb⟩ := hrel
                            have l7 := lt_of_cell c7
                            dsimp only at l7
                            by_cases hlt : k < qn
                            · have i0 : (k : Int) < (qn : Int) := by omega
                              obtain ⟨x, hx⟩ : ∃ x, ks[k]? = some x := ⟨_, List.getElem?_eq_getElem (by omega)⟩
                              obtain ⟨b, o, s, m, c, e0, hlb, hrg, hB, -, -⟩ := (HH.out.below hb).at (x := x) (k := k) hx
                              dsimp only at e0
                              subst e0
                              have hm : x.key.length = m := hB.1.len
                              have hd := chkKs_drop hx
                              obtain ⟨kb, kg, kk⟩ := x
                              dsimp only at hm
                              obtain ⟨g, hg⟩ : ∃ g, g = wr.heap.size := ⟨_, rfl⟩
                              have z9 : Blk (wr.alloc (.cells #[.int .i64 0, .int .i64 0, .slice none 0 0] 78)) g [.int .i64 0, .int .i64 0, .slice none 0 0] 78 := Blk.newAt wr _ _ g hg.symm _ rfl
                              have k9 : Below w.heap.size w (wr.alloc (.cells #[.int .i64 0, .int .i64 0, .slice none 0 0] 78)) := hb.alloc hb.size _
                              have c8 : Below wr.heap.size wr (wr.alloc (.cells #[.int .i64 0, .int .i64 0, .slice none 0 0] 78)) := below_alloc _ _
                              by_cases h1 : ¬ kb < 0
                              · by_cases h2 : ¬ 65535 < kb
                                · by_cases h3 : ¬ kg < 0
                                  · by_cases h4 : ¬ 65535 < kg
                                    · by_cases h5 : m = 32
                                      · have b3 : ((m : Int) == 32) = true := by simp; omega
                                        have HN : Hid (chkKs ks = chkKs (ks.drop (k + 1))) := by show _ = _; rw [HI.out, hd, if_pos (by unfold chkK; dsimp only; rw [if_neg (by omega), if_neg (by omega)])]
                                        clear hd HI hx hm h5
                                        go_wp2_with (first | ((with_reducible refine at_ld 78 ?_); (refine ld 78 (.tmp 77) 3 sizeKk _ Try.underlying78 rfl b (o + k * 3) (kkc ⟨kb, kg, kk⟩ s m c) rfl hrg rfl ?_)) | ((with_reducible refine at_st 78 ?_); (refine st' 78 (.tmp 4) (.tmp 78) 3 sizeKk wr.heap.size 0 (kkc ⟨kb, kg, kk⟩ s m c) rfl (kkc_one _ _ _ _) (by rw [← hg]; exact z9.there 0 3 (by simp)) rfl rfl ?_); intro v5 hv5; have b5 : Blk v5 g (kkc ⟨kb, kg, kk⟩ s m c) 78 := (by rw [hv5, ← hg]; exact z9.setsW _ rfl); have k5 : Below w.heap.size w v5 := (by rw [hv5]; exact below_sets hb.size _ k9 0); have c9 : Below wr.heap.size wr v5 := (by rw [hv5]; exact below_sets (Nat.le_refl _) _ c8 0); have d0 : v5.cell? ⟨wr.heap.size, 0, none⟩ = some (.int .i64 kb) := (by rw [← hg]; exact b5.cell 0); have d1 : v5.cell? ⟨wr.heap.size, 1, none⟩ = some (.int .i64 kg) := (by rw [← hg]; exact b5.cell 1); have d2 : v5.cell? ⟨wr.heap.size, 2, none⟩ = some (.slice s m c) := (by rw [← hg]; exact b5.cell 2); have l5 : wr.heap.size < v5.heap.size := (by rw [← hg]; exact b5.lt); have c7' : v5.cell? ⟨w.heap.size, 7, none⟩ = some (.slice (some ⟨b, o, none⟩) qn qc) := (by rw [c9.cell (p := ⟨w.heap.size, 7, none⟩) l7]; exact c7); clear hv5))
                                        go_roundw
                                        case rel => exact ⟨k + 1, by omega, by go_num, HN, c7', k5⟩
                                        case measure => simp [intOf]; omega
                                      · have b3 : ((m : Int) == 32) = false := by simp; omega
                                        have e2 : chkK ⟨kb, kg, kk⟩ = 17 := by unfold chkK; dsimp only; rw [if_neg (by omega), if_pos (by omega)]
                                        have HN : Hid (chkKs ks = 17) := by show _ = _; rw [HI.out, hd, e2, if_neg (by decide)]
                                        clear hd HI hx hm h5
                                        go_wp2_with (first | ((with_reducible refine at_ld 78 ?_); (refine ld 78 (.tmp 77) 3 sizeKk _ Try.underlying78 rfl b (o + k * 3) (kkc ⟨kb, kg, kk⟩ s m c) rfl hrg rfl ?_)) | ((with_reducible refine at_st 78 ?_); (refine st' 78 (.tmp 4) (.tmp 78) 3 sizeKk wr.heap.size 0 (kkc ⟨kb, kg, kk⟩ s m c) rfl (kkc_one _ _ _ _) (by rw [← hg]; exact z9.there 0 3 (by simp)) rfl rfl ?_); intro v5 hv5; have b5 : Blk v5 g (kkc ⟨kb, kg, kk⟩ s m c) 78 := (by rw [hv5, ← hg]; exact z9.setsW _ rfl); have k5 : Below w.heap.size w v5 := (by rw [hv5]; exact below_sets hb.size _ k9 0); have c9 : Below wr.heap.size wr v5 := (by rw [hv5]; exact below_sets (Nat.le_refl _) _ c8 0); have d0 : v5.cell? ⟨wr.heap.size, 0, none⟩ = some (.int .i64 kb) := (by rw [← hg]; exact b5.cell 0); have d1 : v5.cell? ⟨wr.heap.size, 1, none⟩ = some (.int .i64 kg) := (by rw [← hg]; exact b5.cell 1); have d2 : v5.cell? ⟨wr.heap.size, 2, none⟩ = some (.slice s m c) := (by rw [← hg]; exact b5.cell 2); have l5 : wr.heap.size < v5.heap.size := (by rw [← hg]; exact b5.lt); have c7' : v5.cell? ⟨w.heap.size, 7, none⟩ = some (.slice (some ⟨b, o, none⟩) qn qc) := (by rw [c9.cell (p := ⟨w.heap.size, 7, none⟩) l7]; exact c7); clear hv5))
                                        go_ret
                                        exact ⟨by rw [HN.out]; rfl, k5⟩
                                    · have u5 := Classical.not_not.1 h4
                                      clear h4
                                      have e2 : chkK ⟨kb, kg, kk⟩ = 2 := by unfold chkK; dsimp only; rw [if_pos (by omega)]
                                      have HN : Hid (chkKs ks = 2) := by show _ = _; rw [HI.out, hd, e2, if_neg (by decide)]
                                      clear hd HI hx hm
                                      go_wp2_with (first | ((with_reducible refine at_ld 78 ?_); (refine ld 78 (.tmp 77) 3 sizeKk _ Try.underlying78 rfl b (o + k * 3) (kkc ⟨kb, kg, kk⟩ s m c) rfl hrg rfl ?_)) | ((with_reducible refine at_st 78 ?_); (refine st' 78 (.tmp 4) (.tmp 78) 3 sizeKk wr.heap.size 0 (kkc ⟨kb, kg, kk⟩ s m c) rfl (kkc_one _ _ _ _) (by rw [← hg]; exact z9.there 0 3 (by simp)) rfl rfl ?_); intro v5 hv5; have b5 : Blk v5 g (kkc ⟨kb, kg, kk⟩ s m c) 78 := (by rw [hv5, ← hg]; exact z9.setsW _ rfl); have k5 : Below w.heap.size w v5 := (by rw [hv5]; exact below_sets hb.size _ k9 0); have c9 : Below wr.heap.size wr v5 := (by rw [hv5]; exact below_sets (Nat.le_refl _) _ c8 0); have d0 : v5.cell? ⟨wr.heap.size, 0, none⟩ = some (.int .i64 kb) := (by rw [← hg]; exact b5.cell 0); have d1 : v5.cell? ⟨wr.heap.size, 1, none⟩ = some (.int .i64 kg) := (by rw [← hg]; exact b5.cell 1); have d2 : v5.cell? ⟨wr.heap.size, 2, none⟩ = some (.slice s m c) := (by rw [← hg]; exact b5.cell 2); have l5 : wr.heap.size < v5.heap.size := (by rw [← hg]; exact b5.lt); have c7' : v5.cell? ⟨w.heap.size, 7, none⟩ = some (.slice (some ⟨b, o, none⟩) qn qc) := (by rw [c9.cell (p := ⟨w.heap.size, 7, none⟩) l7]; exact c7); clear hv5))
                                      go_ret
                                      exact ⟨by rw [HN.out]; rfl, k5⟩
                                  · have u5 := Classical.not_not.1 h3
                                    clear h3
                                    have e2 : chkK ⟨kb, kg, kk⟩ = 2 := by unfold chkK; dsimp only; rw [if_pos (by omega)]
                                    have HN : Hid (chkKs ks = 2) := by show _ = _; rw [HI.out, hd, e2, if_neg (by decide)]
                                    clear hd HI hx hm
                                    go_wp2_with (first | ((with_reducible refine at_ld 78 ?_); (refine ld 78 (.tmp 77) 3 sizeKk _ Try.underlying78 rfl b (o + k * 3) (kkc ⟨kb, kg, kk⟩ s m c) rfl hrg rfl ?_)) | ((with_reducible refine at_st 78 ?_); (refine st' 78 (.tmp 4) (.tmp 78) 3 sizeKk wr.heap.size 0 (kkc ⟨kb, kg, kk⟩ s m c) rfl (kkc_one _ _ _ _) (by rw [← hg]; exact z9.there 0 3 (by simp)) rfl rfl ?_); intro v5 hv5; have b5 : Blk v5 g (kkc ⟨kb, kg, kk⟩ s m c) 78 := (by rw [hv5, ← hg]; exact z9.setsW _ rfl); have k5 : Below w.heap.size w v5 := (by rw [hv5]; exact below_sets hb.size _ k9 0); have c9 : Below wr.heap.size wr v5 := (by rw [hv5]; exact below_sets (Nat.le_refl _) _ c8 0); have d0 : v5.cell? ⟨wr.heap.size, 0, none⟩ = some (.int .i64 kb) := (by rw [← hg]; exact b5.cell 0); have d1 : v5.cell? ⟨wr.heap.size, 1, none⟩ = some (.int .i64 kg) := (by rw [← hg]; exact b5.cell 1); have d2 : v5.cell? ⟨wr.heap.size, 2, none⟩ = some (.slice s m c) := (by rw [← hg]; exact b5.cell 2); have l5 : wr.heap.size < v5.heap.size := (by rw [← hg]; exact b5.lt); have c7' : v5.cell? ⟨w.heap.size, 7, none⟩ = some (.slice (some ⟨b, o, none⟩) qn qc) := (by rw [c9.cell (p := ⟨w.heap.size, 7, none⟩) l7]; exact c7); clear hv5))
                                    go_ret
                                    exact ⟨by rw [HN.out]; rfl, k5⟩
                                · have u5 := Classical.not_not.1 h2
                                  clear h2
                                  have e2 : chkK ⟨kb, kg, kk⟩ = 2 := by unfold chkK; dsimp only; rw [if_pos (by omega)]
                                  have HN : Hid (chkKs ks = 2) := by show _ = _; rw [HI.out, hd, e2, if_neg (by decide)]
                                  clear hd HI hx hm
                                  go_wp2_with (first | ((with_reducible refine at_ld 78 ?_); (refine ld 78 (.tmp 77) 3 sizeKk _ Try.underlying78 rfl b (o + k * 3) (kkc ⟨kb, kg, kk⟩ s m c) rfl hrg rfl ?_)) | ((with_reducible refine at_st 78 ?_); (refine st' 78 (.tmp 4) (.tmp 78) 3 sizeKk wr.heap.size 0 (kkc ⟨kb, kg, kk⟩ s m c) rfl (kkc_one _ _ _ _) (by rw [← hg]; exact z9.there 0 3 (by simp)) rfl rfl ?_); intro v5 hv5; have b5 : Blk v5 g (kkc ⟨kb, kg, kk⟩ s m c) 78 := (by rw [hv5, ← hg]; exact z9.setsW _ rfl); have k5 : Below w.heap.size w v5 := (by rw [hv5]; exact below_sets hb.size _ k9 0); have c9 : Below wr.heap.size wr v5 := (by rw [hv5]; exact below_sets (Nat.le_refl _) _ c8 0); have d0 : v5.cell? ⟨wr.heap.size, 0, none⟩ = some (.int .i64 kb) := (by rw [← hg]; exact b5.cell 0); have d1 : v5.cell? ⟨wr.heap.size, 1, none⟩ = some (.int .i64 kg) := (by rw [← hg]; exact b5.cell 1); have d2 : v5.cell? ⟨wr.heap.size, 2, none⟩ = some (.slice s m c) := (by rw [← hg]; exact b5.cell 2); have l5 : wr.heap.size < v5.heap.size := (by rw [← hg]; exact b5.lt); have c7' : v5.cell? ⟨w.heap.size, 7, none⟩ = some (.slice (some ⟨b, o, none⟩) qn qc) := (by rw [c9.cell (p := ⟨w.heap.size, 7, none⟩) l7]; exact c7); clear hv5))
                                  go_ret
                                  exact ⟨by rw [HN.out]; rfl, k5⟩
                              · have u5 := Classical.not_not.1 h1
                                clear h1
                                have e2 : chkK ⟨kb, kg, kk⟩ = 2 := by unfold chkK; dsimp only; rw [if_pos (by omega)]
                                have HN : Hid (chkKs ks = 2) := by show _ = _; rw [HI.out, hd, e2, if_neg (by decide)]
                                clear hd HI hx hm
                                go_wp2_with (first | ((with_reducible refine at_ld 78 ?_); (refine ld 78 (.tmp 77) 3 sizeKk _ Try.underlying78 rfl b (o + k * 3) (kkc ⟨kb, kg, kk⟩ s m c) rfl hrg rfl ?_)) | ((with_reducible refine at_st 78 ?_); (refine st' 78 (.tmp 4) (.tmp 78) 3 sizeKk wr.heap.size 0 (kkc ⟨kb, kg, kk⟩ s m c) rfl (kkc_one _ _ _ _) (by rw [← hg]; exact z9.there 0 3 (by simp)) rfl rfl ?_); intro v5 hv5; have b5 : Blk v5 g (kkc ⟨kb, kg, kk⟩ s m c) 78 := (by rw [hv5, ← hg]; exact z9.setsW _ rfl); have k5 : Below w.heap.size w v5 := (by rw [hv5]; exact below_sets hb.size _ k9 0); have c9 : Below wr.heap.size wr v5 := (by rw [hv5]; exact below_sets (Nat.le_refl _) _ c8 0); have d0 : v5.cell? ⟨wr.heap.size, 0, none⟩ = some (.int .i64 kb) := (by rw [← hg]; exact b5.cell 0); have d1 : v5.cell? ⟨wr.heap.size, 1, none⟩ = some (.int .i64 kg) := (by rw [← hg]; exact b5.cell 1); have d2 : v5.cell? ⟨wr.heap.size, 2, none⟩ = some (.slice s m c) := (by rw [← hg]; exact b5.cell 2); have l5 : wr.heap.size < v5.heap.size := (by rw [← hg]; exact b5.lt); have c7' : v5.cell? ⟨w.heap.size, 7, none⟩ = some (.slice (some ⟨b, o, none⟩) qn qc) := (by rw [c9.cell (p := ⟨w.heap.size, 7, none⟩) l7]; exact c7); clear hv5))
                                go_ret
                                exact ⟨by rw [HN.out]; rfl, k5⟩
                            · have i0 : ¬ (k : Int) < (qn : Int) := by omega
                              have HN : Hid (chkKs ks = 0) := by show _ = _; rw [HI.out, List.drop_of_length_le (by omega)]; rfl
                              clear HI
                              go_wp2_with fail
                              go_ret
                              exact ⟨by rw [HN.out]; rfl, hb⟩
                      · have b1 : ((pn : Int) == 32) = false := by simp; omega
                        rw [chkA_size (show okN _ from by unfold okN; dsimp only; omega) (show okB _ from by unfold okB; dsimp only; omega) (Or.inl (by show ma.length ≠ 32; omega))]
                        clear HH hml hkl t2 t3 t4 t5
                        go_enter Try.func15, Try.ntmps15
                        go_wp2_with fail
                        refine (C2.out _).mono ?_
                        rintro e w1 ⟨rfl, rfl⟩
                        go_wp2_with fail
                        refine (C3.out _).mono ?_
                        rintro e w1 ⟨rfl, rfl⟩
                        go_wp2_with fail
                        refine (C4.out _).mono ?_
                        rintro e w1 ⟨rfl, rfl⟩
                        go_wp2_with fail
                        refine (C5.out _).mono ?_
                        rintro e w1 ⟨rfl, rfl⟩
                        go_wp2_with fail
                        go_ret
                        exact ⟨rfl, below_alloc _ _⟩
                    · rw [chkA_blk (show okN _ from by unfold okN; dsimp only; omega) (fun hh => by unfold okB at hh; dsimp only at hh; omega)]
                      have u10 := Classical.not_not.1 t10
                      clear HH hml hkl hmx t2 t3 t4 t5 t10
                      go_enter Try.func15, Try.ntmps15
                      go_wp2_with fail
                      refine (C2.out _).mono ?_
                      rintro e w1 ⟨rfl, rfl⟩
                      go_wp2_with fail
                      refine (C3.out _).mono ?_
                      rintro e w1 ⟨rfl, rfl⟩
                      go_wp2_with fail
                      refine (C4.out _).mono ?_
                      rintro e w1 ⟨rfl, rfl⟩
                      go_wp2_with fail
                      refine (C5.out _).mono ?_
                      rintro e w1 ⟨rfl, rfl⟩
                      go_wp2_with fail
                      go_ret
                      exact ⟨rfl, below_alloc _ _⟩
                  · rw [chkA_blk (show okN _ from by unfold okN; dsimp only; omega) (fun hh => by unfold okB at hh; dsimp only at hh; omega)]
                    have u9 := Classical.not_not.1 t9
                    clear HH hml hkl hmx t2 t3 t4 t5 t9
                    go_enter Try.func15, Try.ntmps15
                    go_wp2_with fail
                    refine (C2.out _).mono ?_
                    rintro e w1 ⟨rfl, rfl⟩
                    go_wp2_with fail
                    refine (C3.out _).mono ?_
                    rintro e w1 ⟨rfl, rfl⟩
                    go_wp2_with fail
                    refine (C4.out _).mono ?_
                    rintro e w1 ⟨rfl, rfl⟩
                    go_wp2_with fail
                    refine (C5.out _).mono ?_
                    rintro e w1 ⟨rfl, rfl⟩
                    go_wp2_with fail
                    go_ret
                    exact ⟨rfl, below_alloc _ _⟩
                · rw [chkA_blk (show okN _ from by unfold okN; dsimp only; omega) (fun hh => by unfold okB at hh; dsimp only at hh; omega)]
                  have u8 := Classical.not_not.1 t8
                  clear HH hml hkl hmx t2 t3 t4 t5 t8
                  go_enter Try.func15, Try.ntmps15
                  go_wp2_with fail
                  refine (C2.out _).mono ?_
                  rintro e w1 ⟨rfl, rfl⟩
                  go_wp2_with fail
                  refine (C3.out _).mono ?_
                  rintro e w1 ⟨rfl, rfl⟩
                  go_wp2_with fail
                  refine (C4.out _).mono ?_
                  rintro e w1 ⟨rfl, rfl⟩
                  go_wp2_with fail
                  refine (C5.out _).mono ?_
                  rintro e w1 ⟨rfl, rfl⟩
                  go_wp2_with fail
                  go_ret
                  exact ⟨rfl, below_alloc _ _⟩
              · rw [chkA_blk (show okN _ from by unfold okN; dsimp only; omega) (fun hh => by unfold okB at hh; dsimp only at hh; omega)]
                have u7 := Classical.not_not.1 t7
                clear HH hml hkl hmx t2 t3 t4 t5 t7
                go_enter Try.func15, Try.ntmps15
                go_wp2_with fail
                refine (C2.out _).mono ?_
                rintro e w1 ⟨rfl, rfl⟩
                go_wp2_with fail
                refine (C3.out _).mono ?_
                rintro e w1 ⟨rfl, rfl⟩
                go_wp2_with fail
                refine (C4.out _).mono ?_
                rintro e w1 ⟨rfl, rfl⟩
                go_wp2_with fail
                refine (C5.out _).mono ?_
                rintro e w1 ⟨rfl, rfl⟩
                go_wp2_with fail
                go_ret
                exact ⟨rfl, below_alloc _ _⟩
            · rw [chkA_num (fun hh => by unfold okN at hh; dsimp only at hh; omega)]
              have u6 := Classical.not_not.1 t6
              clear HH hml hkl hmx t2 t3 t4 t5 t6
              go_enter Try.func15, Try.ntmps15
              go_wp2_with fail
              refine (C2.out _).mono ?_
              rintro e w1 ⟨rfl, rfl⟩
              go_wp2_with fail
              refine (C3.out _).mono ?_
              rintro e w1 ⟨rfl, rfl⟩
              go_wp2_with fail
              refine (C4.out _).mono ?_
              rintro e w1 ⟨rfl, rfl⟩
              go_wp2_with fail
              refine (C5.out _).mono ?_
              rintro e w1 ⟨rfl, rfl⟩
              go_wp2_with fail
              go_ret
              exact ⟨rfl, below_alloc _ _⟩
          · rw [chkA_num (fun hh => by unfold okN at hh; dsimp only at hh; omega)]
            have C5 : Hid (∀ w, Calls Try.prog 51 #[.int .i64 re] w fun e w' => e = .returned (.bool false) ∧ w = w') := fun w => rSmall w re false (decide_eq_false (by omega)).symm
            clear HH hml hkl hmx t2 t3 t4 t5
            go_enter Try.func15, Try.ntmps15
            go_wp2_with fail
            refine (C2.out _).mono ?_
            rintro e w1 ⟨rfl, rfl⟩
            go_wp2_with fail
            refine (C3.out _).mono ?_
            rintro e w1 ⟨rfl, rfl⟩
            go_wp2_with fail
            refine (C4.out _).mono ?_
            rintro e w1 ⟨rfl, rfl⟩
            go_wp2_with fail
            refine (C5.out _).mono ?_
            rintro e w1 ⟨rfl, rfl⟩
            go_wp2_with fail
            go_ret
            exact ⟨rfl, below_alloc _ _⟩
        · rw [chkA_num (fun hh => by unfold okN at hh; dsimp only at hh; omega)]
          have C4 : Hid (∀ w, Calls Try.prog 51 #[.int .i64 gi] w fun e w' => e = .returned (.bool false) ∧ w = w') := fun w => rSmall w gi false (decide_eq_false (by omega)).symm
          clear HH hml hkl hmx t2 t3 t4
          go_enter Try.func15, Try.ntmps15
          go_wp2_with fail
          refine (C2.out _).mono ?_
          rintro e w1 ⟨rfl, rfl⟩
          go_wp2_with fail
          refine (C3.out _).mono ?_
          rintro e w1 ⟨rfl, rfl⟩
          go_wp2_with fail
          refine (C4.out _).mono ?_
          rintro e w1 ⟨rfl, rfl⟩
          go_wp2_with fail
          go_ret
          exact ⟨rfl, below_alloc _ _⟩
      · rw [chkA_num (fun hh => by unfold okN at hh; dsimp only at hh; omega)]
        have C3 : Hid (∀ w, Calls Try.prog 51 #[.int .i64 ep] w fun e w' => e = .returned (.bool false) ∧ w = w') := fun w => rSmall w ep false (decide_eq_false (by omega)).symm
        clear HH hml hkl hmx t2 t3
        go_enter Try.func15, Try.ntmps15
        go_wp2_with fail
        refine (C2.out _).mono ?_
        rintro e w1 ⟨rfl, rfl⟩
        go_wp2_with fail
        refine (C3.out _).mono ?_
        rintro e w1 ⟨rfl, rfl⟩
        go_wp2_with fail
        go_ret
        exact ⟨rfl, below_alloc _ _⟩
    · rw [chkA_num (fun hh => by unfold okN at hh; dsimp only at hh; omega)]
      have C2 : Hid (∀ w, Calls Try.prog 51 #[.int .i64 sq] w fun e w' => e = .returned (.bool false) ∧ w = w') := fun w => rSmall w sq false (decide_eq_false (by omega)).symm
      clear HH hml hkl hmx t2
      go_enter Try.func15, Try.ntmps15
      go_wp2_with fail
      refine (C2.out _).mono ?_
      rintro e w1 ⟨rfl, rfl⟩
      go_wp2_with fail
      go_ret
      exact ⟨rfl, below_alloc _ _⟩
  · rw [chkA_num (fun hh => by unfold okN at hh; dsimp only at hh; omega)]
    have u1 := Classical.not_not.1 t1
    clear HH hml hkl hmx t1
    go_enter Try.func15, Try.ntmps15
    go_wp2_with fail
    go_ret
    exact ⟨rfl, below_alloc _ _⟩

end Go.Proofs.Ytbifikeecmaakaa

/-
  Bytes as a text and a text as bytes: 'string(b)' of whatever bytes, '[]byte(s)' of whatever text. No condition; no statement of the seat is proved here.
-/
namespace Go.Proofs.Ytbifikeecmaakaa
open Go.RowKit

/-- Bytes as a text. -/
def sv (l : List UInt8) : Value := .string ⟨l.toArray⟩
theorem sv_inj {l m : List UInt8} (h : sv l = sv m) : l = m := by
  simp only [sv, Value.string.injEq, ByteArray.mk.injEq] at h
  simpa using h
/-- 'string(b)'. -/
theorem Bs.str {w : World} {a : Option Addr} {m c : Nat} {l : List UInt8} (h : Bs w a m c l) : Sem.run Try.prog (convert 22 9 (.slice a m c)) w = .ok (sv l) w := by
  have hl := h.len
  by_cases h0 : m = 0
  · subst h0
    have e : l = [] := List.length_eq_zero_iff.1 hl
    subst e
    rw [run_convert_bytes_string w 22 9 5 a 0 c Try.underlying22 Try.underlying5 Try.underlying9]
    cases a <;> simp [Conv.bytesToString, sv, loadCells] <;> rfl
  · obtain ⟨b, o, rfl, _, hc⟩ := h.at (by omega)
    rw [run_convert_bytes_arg w 22 5 Try.underlying22 Try.underlying5 b o m c (l.map fun x => (x.toNat : Int)) (by simp [hl]) ?_ 9 Try.underlying9]
    · have e : strOfNums (l.map fun x => (x.toNat : Int)) = ⟨l.toArray⟩ := by
        unfold strOfNums
        simp [Function.comp_def]
      rw [e]
      rfl
    · intro i hi
      rw [hc i hi]
      have hi' : i < l.length := by rw [hl]; exact hi
      rw [bt_of_lt hi']
      simp [List.getD_eq_getElem?_getD, hi']
/-- '[]byte(s)'. -/
theorem str_bytes (w : World) (l : List UInt8) (hl : l.length ≤ 1000000) : ∃ c w', Sem.run Try.prog (convert 9 22 (sv l)) w = .ok (.slice (some ⟨w.heap.size, 0, none⟩) l.length c) w' ∧ Bs w' (some ⟨w.heap.size, 0, none⟩) l.length c l ∧ w.heap.size < w'.heap.size ∧ Below w.heap.size w w' := by
  have hs : (ByteArray.mk l.toArray).size = l.length := by simp [ByteArray.size]
  refine ⟨grownCap w l.length 0 5, Lib.bytesWorld w 5 ⟨l.toArray⟩, ?_, ⟨rfl, grownCap_ge _ _ _ _, grownCap_le_maxLen _ _ _ _ (by unfold maxLen; omega), fun h => by simp at h, fun i hi => ⟨w.heap.size, 0, rfl, ?_⟩⟩, ?_, ?_⟩
  · have := Lib.run_convert_string_bytes (P := Try.prog) w 9 22 5 ⟨l.toArray⟩ Try.underlying9 Try.underlying22 Try.underlying5
    rw [hs] at this
    exact this
  · rw [Nat.zero_add, Lib.bytesWorld_cell w 5 ⟨l.toArray⟩ i (by rw [hs]; exact hi)]
    rfl
  · rw [Lib.bytesWorld_size]
    exact Nat.lt_succ_self _
  · refine ⟨rfl, rfl, rfl, by rw [Lib.bytesWorld_size]; omega, fun k hk => Lib.bytesWorld_at_old w 5 _ k hk⟩

end Go.Proofs.Ytbifikeecmaakaa
