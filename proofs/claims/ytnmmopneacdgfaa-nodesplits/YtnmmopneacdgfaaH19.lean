/-
  1 texts in one. No statement of the seat is proved here.
-/
import Derived.Test.YtnmmopneacdgfaaH18
import Derived.Deep.DeepCutAuto
/-
  Contract of layer 18's reference: Split, in words of its own. Condition: a node that is light, of one kind.
-/
namespace Go.Proofs.Ytnmmopneacdgfaa
open Go.RowKit
set_option linter.unusedVariables false
def prtG (G : Nat → Nat) : Nat → Nat × Nat
  | 0 => (0, 0)
  | k + 1 => if (prtG G k).1 = 0 ∨ G (k + 1) < (prtG G k).2 then (k + 1, G (k + 1)) else prtG G k
theorem prtG_pos (G : Nat → Nat) : ∀ k, 1 ≤ (prtG G (k + 1)).1 := fun k => by
  unfold prtG
  split
  · exact Nat.succ_le_succ (Nat.zero_le _)
  · rename_i h
    by_cases e : (prtG G k).1 = 0
    · exact absurd (Or.inl e) h
    · omega
theorem prtG_le (G : Nat → Nat) : ∀ k, (prtG G k).1 ≤ k
  | 0 => Nat.le_refl _
  | k + 1 => by
    unfold prtG
    split
    · exact Nat.le_refl _
    · exact Nat.le_succ_of_le (prtG_le G k)
def thgs (n : NodeS) : Nat := if n.leaf then n.pairs.length else n.kids.length
def grG (n : NodeS) (i : Nat) : Nat := if sizeN (cutN n 0 i) < sizeN (cutN n i (thgs n)) then sizeN (cutN n i (thgs n)) else sizeN (cutN n 0 i)
def splitR (n : NodeS) : NodeS × NodeS × Bool := if n.pairs.length + n.kids.length < 2 then (zeroN, zeroN, false) else (cutN n 0 (prtG (grG n) (thgs n - 1)).1, cutN n (prtG (grG n) (thgs n - 1)).1 (thgs n), true)
theorem cutN_lit {n : NodeS} (h : Lit n) (i j : Nat) : Lit (cutN n i j) := by
  unfold cutN
  split
  · exact ⟨Nat.le_trans (by simp; omega) h.ps, Nat.zero_le _, fun x hx => h.p x (List.mem_of_mem_drop (List.mem_of_mem_take hx)), (fun x hx => by cases hx)⟩
  · exact ⟨Nat.zero_le _, Nat.le_trans (by simp; omega) h.ks, (fun x hx => by cases hx), fun x hx => h.k x (List.mem_of_mem_drop (List.mem_of_mem_take hx))⟩
set_option maxRecDepth 100000 in
set_option maxHeartbeats 8000000 in
theorem rSplitN (w : World) {A : Nat → Prop} {n : NodeS} {p q : Tri} (h : Nd A w n p q) (hL : Ltd n) (hk : kindOk n) : Calls Try.prog 24 #[ndv n p q] w fun e w' => ∃ p1 q1 p2 q2, e = .returned (.tuple #[ndv (splitR n).1 p1 q1, ndv (splitR n).2.1 p2 q2, .bool (splitR n).2.2]) ∧ Nd (fun _ => True) w' (splitR n).1 p1 q1 ∧ Nd (fun _ => True) w' (splitR n).2.1 p2 q2 ∧ Below w.heap.size w w' := by
  have l1 := h.lp
  have l2 := h.lk
  have hps := hL.ps
  have hks := hL.ks
  have hlit := hL.lit
  have hk1 := hk.1
  have hk2 := hk.2
  have H0 : Nd (fun j => j < w.heap.size) w n p q := h.mono fun j hj _ => hj
  clear h hk hL
  obtain ⟨tn, htn⟩ : ∃ tn, thgs n = tn := ⟨_, rfl⟩
  have HT : Hid (∀ i j, i < j → j ≤ tn → ∀ u, Nd (fun j => j < w.heap.size) u n p q → Calls Try.prog 70 #[ndv n p q, .int .i64 (i : Int), .int .i64 (j : Int)] u fun e u' => ∃ p' q', e = .returned (ndv (cutN n i j) p' q') ∧ Nd (fun k => (k < w.heap.size ∧ k < u.heap.size) ∨ u.heap.size ≤ k) u' (cutN n i j) p' q' ∧ Below u.heap.size u u') := fun i j hij hj u hu => rPrtN u hu hij (by rw [← htn] at hj; exact hj) (Nat.le_trans hps (by decide)) (Nat.le_trans hks (by decide))
  have HS : Hid (∀ i j u (A : Nat → Prop) p' q', Nd A u (cutN n i j) p' q' → Calls Try.prog 17 #[ndv (cutN n i j) p' q'] u fun e u' => e = .returned (.int .i64 (sizeN (cutN n i j) : Nat)) ∧ Below u.heap.size u u') := fun i j u A p' q' hu => rSizeN u hu (cutN_lit hlit i j)
  have HZ : Hid (∀ i j, sizeN (cutN n i j) ≤ 100000000) := fun i j => by
    have hl := cutN_lit hlit i j
    have a1 := totL_le psz (b := 3000) (l := (cutN n i j).pairs) fun x hx => by have := hl.p x hx; unfold psz; omega
    have a2 := totL_le ksz (b := 3000) (l := (cutN n i j).kids) fun x hx => by have := hl.k x hx; unfold ksz; omega
    have b1 : (cutN n i j).pairs.length ≤ 40 := by unfold cutN; split <;> simp <;> omega
    have b2 : (cutN n i j).kids.length ≤ 60 := by unfold cutN; split <;> simp <;> omega
    unfold sizeN
    omega
  have HG : Hid (∀ k, prtG (grG n) (k + 1) = if (prtG (grG n) k).1 = 0 ∨ grG n (k + 1) < (prtG (grG n) k).2 then (k + 1, grG n (k + 1)) else prtG (grG n) k) := fun k => rfl
  have HR : Hid (∀ i, grG n i = if sizeN (cutN n 0 i) < sizeN (cutN n i tn) then sizeN (cutN n i tn) else sizeN (cutN n 0 i)) := fun i => by show grG n i = _; unfold grG; rw [htn]
  obtain ⟨G, hG⟩ : ∃ G, grG n = G := ⟨_, rfl⟩
  have HP : Hid (splitR n = if n.pairs.length + n.kids.length < 2 then (zeroN, zeroN, false) else (cutN n 0 (prtG G (tn - 1)).1, cutN n (prtG G (tn - 1)).1 tn, true)) := by show splitR n = _; unfold splitR; rw [hG, htn]
  rw [hG] at HG HR
  have htn' : tn = if n.leaf then n.pairs.length else n.kids.length := htn.symm
  clear htn hG hlit
  generalize splitR n = R at *
  generalize hC : cutN n = C at *
  clear hC
  obtain ⟨lf, ps, ks⟩ := n
  obtain ⟨pa, pn, pc⟩ := p
  obtain ⟨qa, qn, qc⟩ := q
  dsimp only at *
  unfold ndv ndc at *
  dsimp only at *
  obtain ⟨V, hV⟩ : ∃ V, V = ((w.alloc (.cells (List.toArray [.bool lf, .slice pa pn pc, .slice qa qn qc]) 25)).alloc (.cells #[.bool false, .slice none 0 0, .slice none 0 0] 25)).alloc (.cells #[.bool false, .slice none 0 0, .slice none 0 0] 25) := ⟨_, rfl⟩
  have t0 : Blk V w.heap.size [.bool lf, .slice pa pn pc, .slice qa qn qc] 25 := by rw [hV]; exact ((Blk.newAt w _ _ w.heap.size rfl _ rfl).old _).old _
  have t1 : Blk V (w.heap.size + 1) [.bool false, .slice none 0 0, .slice none 0 0] 25 := by rw [hV]; exact (Blk.newAt (w.alloc _) _ _ (w.heap.size + 1) (by simp) _ rfl).old _
  have t2 : Blk V (w.heap.size + 2) [.bool false, .slice none 0 0, .slice none 0 0] 25 := by rw [hV]; exact Blk.newAt ((w.alloc _).alloc _) _ _ (w.heap.size + 2) (by simp) _ rfl
  have kV : Below w.heap.size w V := by rw [hV]; exact (below2 _ _ _).alloc (by simp; omega) _
  have sV : V.heap.size = w.heap.size + 3 := by rw [hV]; simp
  replace H0 := H0.below kV
  have c0 : V.cell? ⟨w.heap.size, 0, none⟩ = some (.bool lf) := t0.cell 0
  have c1 : V.cell? ⟨w.heap.size, 1, none⟩ = some (.slice pa pn pc) := t0.cell 1
  have c2 : V.cell? ⟨w.heap.size, 2, none⟩ = some (.slice qa qn qc) := t0.cell 2
  rw [l1, l2] at HP htn'
  cases lf
  · have z0 : pn = 0 := by rw [← l1]; exact hk2 rfl
    subst z0
    have e0 : tn = qn := by simpa using htn'
    subst e0
    have hle : tn ≤ 60 := by omega
    have w0 : IntKind.i64.wrap (tn : Int) = (tn : Int) := by rw [IntKind.wrap_i64]; omega
    clear htn' hk1 hk2
    by_cases h2 : tn < 2
    · rw [show R = (zeroN, zeroN, false) from by rw [HP.out, if_pos (by omega)]]
      have i2 : (tn : Int) < 2 := by omega
      clear HP HG HR HZ HS HT
      go_enter Try.func24, Try.ntmps24
      go_upto_region 1 with fail
      rw [← hV]
      clear hV
      go_wp2_with ((with_reducible refine at_st 25 ?_); (with_reducible refine Hid.out ?_))
      unfold Hid
      refine st' 25 (.tmp 2) (.tmp 27) 3 sizeNd (w.heap.size + 1) 0 [.bool false, .slice none 0 0, .slice none 0 0] rfl (ndc_one ⟨false, [], []⟩ T0 T0) (t1.there 0 3 (by decide)) rfl rfl ?_
      intro v1 hv1
      have b1 : Blk v1 (w.heap.size + 1) [.bool false, .slice none 0 0, .slice none 0 0] 25 := by rw [hv1]; exact Blk.setsW t1 _ rfl
      have b2 : Blk v1 (w.heap.size + 2) [.bool false, .slice none 0 0, .slice none 0 0] 25 := by rw [hv1]; exact Blk.setsO (by omega) _ t2 0
      have k1 : Below w.heap.size w v1 := by rw [hv1]; exact below_sets (by omega) _ kV 0
      clear hv1 t1 t2 kV
      go_wp2_with ((with_reducible refine at_st 25 ?_); (with_reducible refine Hid.out ?_))
      unfold Hid
      refine st' 25 (.tmp 3) (.tmp 28) 3 sizeNd (w.heap.size + 2) 0 [.bool false, .slice none 0 0, .slice none 0 0] rfl (ndc_one ⟨false, [], []⟩ T0 T0) (b2.there 0 3 (by decide)) rfl rfl ?_
      intro v2 hv2
      have d1 : Blk v2 (w.heap.size + 1) [.bool false, .slice none 0 0, .slice none 0 0] 25 := by rw [hv2]; exact Blk.setsO (by omega) _ b1 0
      have d2 : Blk v2 (w.heap.size + 2) [.bool false, .slice none 0 0, .slice none 0 0] 25 := by rw [hv2]; exact Blk.setsW b2 _ rfl
      have k2 : Below w.heap.size w v2 := by rw [hv2]; exact below_sets (by omega) _ k1 0
      clear hv2 b1 b2 k1
      go_wp2_with fail
      refine bodyPost_ret (v := .tuple #[.agg (List.toArray [.bool false, .slice none 0 0, .slice none 0 0]), .agg (List.toArray [.bool false, .slice none 0 0, .slice none 0 0]), .bool false]) (resCCT Try.results24 _ _ (w.heap.size + 1) (w.heap.size + 2) _ _ rfl rfl (run_loadVar_row v2 (w.heap.size + 1) 25 25 _ (0, 0) _ d1 Try.underlying25 rfl sizeNd) (run_loadVar_row v2 (w.heap.size + 2) 25 25 _ (0, 0) _ d2 Try.underlying25 rfl sizeNd) _ rfl) rfl ?_
      exact ⟨T0, T0, T0, T0, rfl, Nd.zero _ _, Nd.zero _ _, k2⟩
    · have i2 : ¬ (tn : Int) < 2 := by omega
      rw [show R = (C 0 (prtG G (tn - 1)).1, C (prtG G (tn - 1)).1 tn, true) from by rw [HP.out, if_neg (by omega)]]
      dsimp only
      obtain ⟨y, hy⟩ : ∃ y, (prtG G (tn - 1)).1 = y := ⟨_, rfl⟩
      rw [hy]
      have HY : Hid ((prtG G (tn - 1)).1 = y) := hy
      clear HP hy
      go_enter Try.func24, Try.ntmps24
      go_upto_region 1 with fail
      rw [← hV]
      clear hV
      go_wp2_with fail
      go_loopw [6, 7, 8, 9] (fun a6 a7 i a9 wr => ∃ k z m : Nat, k + 1 ≤ tn ∧ a6 = .int .i64 (z : Int) ∧ a7 = .int .i64 (m : Int) ∧ i = .int .i64 ((k : Int) + 1) ∧ Hid (prtG G k = (z, m)) ∧ Below V.heap.size V wr) (fun _ _ i _ _ => tn - (intOf i).toNat)
      case atStart => exact ⟨0, 0, 0, by omega, rfl, rfl, rfl, rfl, Below.refl _ _⟩
      case round =>
        clear c0 c1 c2
        obtain ⟨k, z, m, hk, rfl, rfl, rfl, HM, hb⟩ := hrel
        have X := t0.below hb t0.lt
        have hN := H0.below hb
        by_cases hlt : k + 1 < tn
        · have i0 : (k : Int) + 1 < (tn : Int) := by omega
          have HA : Hid (∀ u, Nd (fun j => j < w.heap.size) u ⟨false, ps, ks⟩ ⟨pa, 0, pc⟩ ⟨qa, tn, qc⟩ → Calls Try.prog 70 #[.agg (List.toArray [.bool false, .slice pa 0 pc, .slice qa tn qc]), .int .i64 0, .int .i64 ((k : Int) + 1)] u fun e u' => ∃ cs, e = .returned (.agg cs) ∧ Below u.heap.size u u' ∧ Hid (Calls Try.prog 17 #[.agg cs] u' fun e u3 => e = .returned (.int .i64 (sizeN (C 0 (k + 1)) : Nat)) ∧ Below u'.heap.size u' u3)) := fun u hu => by
            have := HT.out 0 (k + 1) (by omega) (by omega) u hu
            rw [show ((k + 1 : Nat) : Int) = (k : Int) + 1 from by omega] at this
            exact this.mono fun e u' ⟨p', q', h1, h2, h3⟩ => ⟨_, h1, h3, HS.out 0 (k + 1) u' _ p' q' h2⟩
          have HB : Hid (∀ u, Nd (fun j => j < w.heap.size) u ⟨false, ps, ks⟩ ⟨pa, 0, pc⟩ ⟨qa, tn, qc⟩ → Calls Try.prog 70 #[.agg (List.toArray [.bool false, .slice pa 0 pc, .slice qa tn qc]), .int .i64 ((k : Int) + 1), .int .i64 (tn : Int)] u fun e u' => ∃ cs, e = .returned (.agg cs) ∧ Below u.heap.size u u' ∧ Hid (Calls Try.prog 17 #[.agg cs] u' fun e u3 => e = .returned (.int .i64 (sizeN (C (k + 1) tn) : Nat)) ∧ Below u'.heap.size u' u3)) := fun u hu => by
            have := HT.out (k + 1) tn (by omega) (Nat.le_refl _) u hu
            rw [show ((k + 1 : Nat) : Int) = (k : Int) + 1 from by omega] at this
            exact this.mono fun e u' ⟨p', q', h1, h2, h3⟩ => ⟨_, h1, h3, HS.out (k + 1) tn u' _ p' q' h2⟩
          have hM := HG.out k
          rw [HM.out, HR.out (k + 1)] at hM
          dsimp only at hM
          have z1 := HZ.out 0 (k + 1)
          have z2 := HZ.out (k + 1) tn
          clear HT HS HZ HM H0 HR HG
          generalize sizeN (C 0 (k + 1)) = sA at *
          generalize sizeN (C (k + 1) tn) = sB at *
          by_cases c1 : sA < sB
          · rw [if_pos c1] at hM
            have j1 : (sA : Int) < (sB : Int) := by omega
            by_cases c2 : z = 0
            · subst c2
              have HQ : Hid (prtG G (k + 1) = (k + 1, sB)) := by rw [hM]; exact if_pos (Or.inl rfl)
              clear hM
              go_wp2_with (first | ((with_reducible refine at_ld 25 ?_); (refine ld 25 (.tmp 1) 3 sizeNd _ Try.underlying25 rfl w.heap.size 0 [.bool false, .slice pa 0 pc, .slice qa tn qc] rfl X.whole rfl ?_)) | (go_at_call 70; (with_reducible refine Hid.out ?_)))
              unfold Hid
              refine (HA.out _ hN).mono ?_
              rintro e u1 ⟨cs, rfl, kk, HZ1⟩
              replace X := X.below kk X.lt
              replace hN := hN.below kk
              replace hb := hb.trans (kk.mono hb.size)
              clear kk
              go_wp2_with (first | (go_at_call 17; (refine HZ1.out.mono ?_); rintro e u2 ⟨rfl, kk⟩; replace X := X.below kk X.lt; replace hN := hN.below kk; replace hb := hb.trans (kk.mono hb.size); clear kk; clear HZ1) | ((with_reducible refine at_ld 25 ?_); (refine ld 25 (.tmp 1) 3 sizeNd _ Try.underlying25 rfl w.heap.size 0 [.bool false, .slice pa 0 pc, .slice qa tn qc] rfl X.whole rfl ?_)) | (go_at_call 70; (with_reducible refine Hid.out ?_)))
              unfold Hid
              refine (HB.out _ hN).mono ?_
              rintro e u1 ⟨cs, rfl, kk, HZ1⟩
              replace X := X.below kk X.lt
              replace hN := hN.below kk
              replace hb := hb.trans (kk.mono hb.size)
              clear kk
              go_wp2_with (first | (go_at_call 17; (refine HZ1.out.mono ?_); rintro e u2 ⟨rfl, kk⟩; replace X := X.below kk X.lt; replace hN := hN.below kk; replace hb := hb.trans (kk.mono hb.size); clear kk; clear HZ1) | ((with_reducible refine at_ld 25 ?_); (refine ld 25 (.tmp 1) 3 sizeNd _ Try.underlying25 rfl w.heap.size 0 [.bool false, .slice pa 0 pc, .slice qa tn qc] rfl X.whole rfl ?_)) | (go_at_call 70; (with_reducible refine Hid.out ?_)))
              unfold Hid
              refine (HB.out _ hN).mono ?_
              rintro e u1 ⟨cs, rfl, kk, HZ1⟩
              replace X := X.below kk X.lt
              replace hN := hN.below kk
              replace hb := hb.trans (kk.mono hb.size)
              clear kk
              go_wp2_with (first | (go_at_call 17; (refine HZ1.out.mono ?_); rintro e u2 ⟨rfl, kk⟩; replace X := X.below kk X.lt; replace hN := hN.below kk; replace hb := hb.trans (kk.mono hb.size); clear kk; clear HZ1))
              go_roundw
              case rel => exact ⟨k + 1, k + 1, sB, by omega, by first | rfl | go_num, by first | rfl | go_num, by go_num, HQ, hb⟩
              case measure => simp [intOf]; omega
            · have d1 : ¬ (z : Int) = 0 := by omega
              have d2 : ((z : Int) == 0) = false := by simpa using d1
              by_cases c3 : sB < m
              · have j3 : (sB : Int) < (m : Int) := by omega
                have HQ : Hid (prtG G (k + 1) = (k + 1, sB)) := by rw [hM]; exact if_pos (Or.inr c3)
                clear hM
                go_wp2_with (first | ((with_reducible refine at_ld 25 ?_); (refine ld 25 (.tmp 1) 3 sizeNd _ Try.underlying25 rfl w.heap.size 0 [.bool false, .slice pa 0 pc, .slice qa tn qc] rfl X.whole rfl ?_)) | (go_at_call 70; (with_reducible refine Hid.out ?_)))
                unfold Hid
                refine (HA.out _ hN).mono ?_
                rintro e u1 ⟨cs, rfl, kk, HZ1⟩
                replace X := X.below kk X.lt
                replace hN := hN.below kk
                replace hb := hb.trans (kk.mono hb.size)
                clear kk
                go_wp2_with (first | (go_at_call 17; (refine HZ1.out.mono ?_); rintro e u2 ⟨rfl, kk⟩; replace X := X.below kk X.lt; replace hN := hN.below kk; replace hb := hb.trans (kk.mono hb.size); clear kk; clear HZ1) | ((with_reducible refine at_ld 25 ?_); (refine ld 25 (.tmp 1) 3 sizeNd _ Try.underlying25 rfl w.heap.size 0 [.bool false, .slice pa 0 pc, .slice qa tn qc] rfl X.whole rfl ?_)) | (go_at_call 70; (with_reducible refine Hid.out ?_)))
                unfold Hid
                refine (HB.out _ hN).mono ?_
                rintro e u1 ⟨cs, rfl, kk, HZ1⟩
                replace X := X.below kk X.lt
                replace hN := hN.below kk
                replace hb := hb.trans (kk.mono hb.size)
                clear kk
                go_wp2_with (first | (go_at_call 17; (refine HZ1.out.mono ?_); rintro e u2 ⟨rfl, kk⟩; replace X := X.below kk X.lt; replace hN := hN.below kk; replace hb := hb.trans (kk.mono hb.size); clear kk; clear HZ1) | ((with_reducible refine at_ld 25 ?_); (refine ld 25 (.tmp 1) 3 sizeNd _ Try.underlying25 rfl w.heap.size 0 [.bool false, .slice pa 0 pc, .slice qa tn qc] rfl X.whole rfl ?_)) | (go_at_call 70; (with_reducible refine Hid.out ?_)))
                unfold Hid
                refine (HB.out _ hN).mono ?_
                rintro e u1 ⟨cs, rfl, kk, HZ1⟩
                replace X := X.below kk X.lt
                replace hN := hN.below kk
                replace hb := hb.trans (kk.mono hb.size)
                clear kk
                go_wp2_with (first | (go_at_call 17; (refine HZ1.out.mono ?_); rintro e u2 ⟨rfl, kk⟩; replace X := X.below kk X.lt; replace hN := hN.below kk; replace hb := hb.trans (kk.mono hb.size); clear kk; clear HZ1))
                go_roundw
                case rel => exact ⟨k + 1, k + 1, sB, by omega, by first | rfl | go_num, by first | rfl | go_num, by go_num, HQ, hb⟩
                case measure => simp [intOf]; omega
              · have j3 : ¬ (sB : Int) < (m : Int) := by omega
                have HQ : Hid (prtG G (k + 1) = (z, m)) := by rw [hM]; exact if_neg (by rintro (e | e) <;> contradiction)
                clear hM
                go_wp2_with (first | ((with_reducible refine at_ld 25 ?_); (refine ld 25 (.tmp 1) 3 sizeNd _ Try.underlying25 rfl w.heap.size 0 [.bool false, .slice pa 0 pc, .slice qa tn qc] rfl X.whole rfl ?_)) | (go_at_call 70; (with_reducible refine Hid.out ?_)))
                unfold Hid
                refine (HA.out _ hN).mono ?_
                rintro e u1 ⟨cs, rfl, kk, HZ1⟩
                replace X := X.below kk X.lt
                replace hN := hN.below kk
                replace hb := hb.trans (kk.mono hb.size)
                clear kk
                go_wp2_with (first | (go_at_call 17; (refine HZ1.out.mono ?_); rintro e u2 ⟨rfl, kk⟩; replace X := X.below kk X.lt; replace hN := hN.below kk; replace hb := hb.trans (kk.mono hb.size); clear kk; clear HZ1) | ((with_reducible refine at_ld 25 ?_); (refine ld 25 (.tmp 1) 3 sizeNd _ Try.underlying25 rfl w.heap.size 0 [.bool false, .slice pa 0 pc, .slice qa tn qc] rfl X.whole rfl ?_)) | (go_at_call 70; (with_reducible refine Hid.out ?_)))
                unfold Hid
                refine (HB.out _ hN).mono ?_
                rintro e u1 ⟨cs, rfl, kk, HZ1⟩
                replace X := X.below kk X.lt
                replace hN := hN.below kk
                replace hb := hb.trans (kk.mono hb.size)
                clear kk
                go_wp2_with (first | (go_at_call 17; (refine HZ1.out.mono ?_); rintro e u2 ⟨rfl, kk⟩; replace X := X.below kk X.lt; replace hN := hN.below kk; replace hb := hb.trans (kk.mono hb.size); clear kk; clear HZ1) | ((with_reducible refine at_ld 25 ?_); (refine ld 25 (.tmp 1) 3 sizeNd _ Try.underlying25 rfl w.heap.size 0 [.bool false, .slice pa 0 pc, .slice qa tn qc] rfl X.whole rfl ?_)) | (go_at_call 70; (with_reducible refine Hid.out ?_)))
                unfold Hid
                refine (HB.out _ hN).mono ?_
                rintro e u1 ⟨cs, rfl, kk, HZ1⟩
                replace X := X.below kk X.lt
                replace hN := hN.below kk
                replace hb := hb.trans (kk.mono hb.size)
                clear kk
                go_wp2_with (first | (go_at_call 17; (refine HZ1.out.mono ?_); rintro e u2 ⟨rfl, kk⟩; replace X := X.below kk X.lt; replace hN := hN.below kk; replace hb := hb.trans (kk.mono hb.size); clear kk; clear HZ1))
                go_roundw
                case rel => exact ⟨k + 1, z, m, by omega, by first | rfl | go_num, by first | rfl | go_num, by go_num, HQ, hb⟩
                case measure => simp [intOf]; omega
          · rw [if_neg c1] at hM
            have j1 : ¬ (sA : Int) < (sB : Int) := by omega
            by_cases c2 : z = 0
            · subst c2
              have HQ : Hid (prtG G (k + 1) = (k + 1, sA)) := by rw [hM]; exact if_pos (Or.inl rfl)
              clear hM
              go_wp2_with (first | ((with_reducible refine at_ld 25 ?_); (refine ld 25 (.tmp 1) 3 sizeNd _ Try.underlying25 rfl w.heap.size 0 [.bool false, .slice pa 0 pc, .slice qa tn qc] rfl X.whole rfl ?_)) | (go_at_call 70; (with_reducible refine Hid.out ?_)))
              unfold Hid
              refine (HA.out _ hN).mono ?_
              rintro e u1 ⟨cs, rfl, kk, HZ1⟩
              replace X := X.below kk X.lt
              replace hN := hN.below kk
              replace hb := hb.trans (kk.mono hb.size)
              clear kk
              go_wp2_with (first | (go_at_call 17; (refine HZ1.out.mono ?_); rintro e u2 ⟨rfl, kk⟩; replace X := X.below kk X.lt; replace hN := hN.below kk; replace hb := hb.trans (kk.mono hb.size); clear kk; clear HZ1) | ((with_reducible refine at_ld 25 ?_); (refine ld 25 (.tmp 1) 3 sizeNd _ Try.underlying25 rfl w.heap.size 0 [.bool false, .slice pa 0 pc, .slice qa tn qc] rfl X.whole rfl ?_)) | (go_at_call 70; (with_reducible refine Hid.out ?_)))
              unfold Hid
              refine (HB.out _ hN).mono ?_
              rintro e u1 ⟨cs, rfl, kk, HZ1⟩
              replace X := X.below kk X.lt
              replace hN := hN.below kk
              replace hb := hb.trans (kk.mono hb.size)
              clear kk
              go_wp2_with (first | (go_at_call 17; (refine HZ1.out.mono ?_); rintro e u2 ⟨rfl, kk⟩; replace X := X.below kk X.lt; replace hN := hN.below kk; replace hb := hb.trans (kk.mono hb.size); clear kk; clear HZ1))
              go_roundw
              case rel => exact ⟨k + 1, k + 1, sA, by omega, by first | rfl | go_num, by first | rfl | go_num, by go_num, HQ, hb⟩
              case measure => simp [intOf]; omega
            · have d1 : ¬ (z : Int) = 0 := by omega
              have d2 : ((z : Int) == 0) = false := by simpa using d1
              by_cases c3 : sA < m
              · have j3 : (sA : Int) < (m : Int) := by omega
                have HQ : Hid (prtG G (k + 1) = (k + 1, sA)) := by rw [hM]; exact if_pos (Or.inr c3)
                clear hM
                go_wp2_with (first | ((with_reducible refine at_ld 25 ?_); (refine ld 25 (.tmp 1) 3 sizeNd _ Try.underlying25 rfl w.heap.size 0 [.bool false, .slice pa 0 pc, .slice qa tn qc] rfl X.whole rfl ?_)) | (go_at_call 70; (with_reducible refine Hid.out ?_)))
                unfold Hid
                refine (HA.out _ hN).mono ?_
                rintro e u1 ⟨cs, rfl, kk, HZ1⟩
                replace X := X.below kk X.lt
                replace hN := hN.below kk
                replace hb := hb.trans (kk.mono hb.size)
                clear kk
                go_wp2_with (first | (go_at_call 17; (refine HZ1.out.mono ?_); rintro e u2 ⟨rfl, kk⟩; replace X := X.below kk X.lt; replace hN := hN.below kk; replace hb := hb.trans (kk.mono hb.size); clear kk; clear HZ1) | ((with_reducible refine at_ld 25 ?_); (refine ld 25 (.tmp 1) 3 sizeNd _ Try.underlying25 rfl w.heap.size 0 [.bool false, .slice pa 0 pc, .slice qa tn qc] rfl X.whole rfl ?_)) | (go_at_call 70; (with_reducible refine Hid.out ?_)))
                unfold Hid
                refine (HB.out _ hN).mono ?_
                rintro e u1 ⟨cs, rfl, kk, HZ1⟩
                replace X := X.below kk X.lt
                replace hN := hN.below kk
                replace hb := hb.trans (kk.mono hb.size)
                clear kk
                go_wp2_with (first | (go_at_call 17; (refine HZ1.out.mono ?_); rintro e u2 ⟨rfl, kk⟩; replace X := X.below kk X.lt; replace hN := hN.below kk; replace hb := hb.trans (kk.mono hb.size); clear kk; clear HZ1))
                go_roundw
                case rel => exact ⟨k + 1, k + 1, sA, by omega, by first | rfl | go_num, by first | rfl | go_num, by go_num, HQ, hb⟩
                case measure => simp [intOf]; omega
              · have j3 : ¬ (sA : Int) < (m : Int) := by omega
                have HQ : Hid (prtG G (k + 1) = (z, m)) := by rw [hM]; exact if_neg (by rintro (e | e) <;> contradiction)
                clear hM
                go_wp2_with (first | ((with_reducible refine at_ld 25 ?_); (refine ld 25 (.tmp 1) 3 sizeNd _ Try.underlying25 rfl w.heap.size 0 [.bool false, .slice pa 0 pc, .slice qa tn qc] rfl X.whole rfl ?_)) | (go_at_call 70; (with_reducible refine Hid.out ?_)))
                unfold Hid
                refine (HA.out _ hN).mono ?_
                rintro e u1 ⟨cs, rfl, kk, HZ1⟩
                replace X := X.below kk X.lt
                replace hN := hN.below kk
                replace hb := hb.trans (kk.mono hb.size)
                clear kk
                go_wp2_with (first | (go_at_call 17; (refine HZ1.out.mono ?_); rintro e u2 ⟨rfl, kk⟩; replace X := X.below kk X.lt; replace hN := hN.below kk; replace hb := hb.trans (kk.mono hb.size); clear kk; clear HZ1) | ((with_reducible refine at_ld 25 ?_); (refine ld 25 (.tmp 1) 3 sizeNd _ Try.underlying25 rfl w.heap.size 0 [.bool false, .slice pa 0 pc, .slice qa tn qc] rfl X.whole rfl ?_)) | (go_at_call 70; (with_reducible refine Hid.out ?_)))
                unfold Hid
                refine (HB.out _ hN).mono ?_
                rintro e u1 ⟨cs, rfl, kk, HZ1⟩
                replace X := X.below kk X.lt
                replace hN := hN.below kk
                replace hb := hb.trans (kk.mono hb.size)
                clear kk
                go_wp2_with (first | (go_at_call 17; (refine HZ1.out.mono ?_); rintro e u2 ⟨rfl, kk⟩; replace X := X.below kk X.lt; replace hN := hN.below kk; replace hb := hb.trans (kk.mono hb.size); clear kk; clear HZ1))
                go_roundw
                case rel => exact ⟨k + 1, z, m, by omega, by first | rfl | go_num, by first | rfl | go_num, by go_num, HQ, hb⟩
                case measure => simp [intOf]; omega
        · have e1 : k = tn - 1 := by omega
          have hM := HM.out
          have hz1 : 1 ≤ z := by
            have := prtG_pos G (k - 1)
            rw [show k - 1 + 1 = k from by omega, hM] at this
            exact this
          have hz2 : z ≤ k := by
            have := prtG_le G k
            rw [hM] at this
            exact this
          have hzy := HY.out
          rw [← e1, hM] at hzy
          dsimp only at hzy
          subst hzy
          have i0 : ¬ (k : Int) + 1 < (tn : Int) := by omega
          have hzt : z < tn := by omega
          have HN : Hid (∀ u, Kp (fun j => j = w.heap.size + 1 ∨ j = w.heap.size + 2) V u → Nd (fun j => j < w.heap.size) u ⟨false, ps, ks⟩ ⟨pa, 0, pc⟩ ⟨qa, tn, qc⟩) := fun u hu => H0.keep hu.size (fun j hj ha => hu.block j hj (by rintro (e | e) <;> omega))
          clear HG HR HZ HS HM HY hM hN X
          go_wp2_with fail
          refine regionG (S := Kp (fun j => j = w.heap.size + 1 ∨ j = w.heap.size + 2) V) (by kernel_rfl) (Kp.of_below hb.drew) ?_
          refine takeG 0 (some 59) (.agg (List.toArray [.bool false, .slice pa 0 pc, .slice qa tn qc])) rfl rfl (by kernel_rfl) (by kernel_rfl) (by kernel_rfl) (fun _ _ _ h => h) (ans_row 25 (.tmp 1) _ 3 rfl (by rfl) w.heap.size 0 rfl [.bool false, .slice pa 0 pc, .slice qa tn qc] (fun u hu => (Kp.blk hu t0 (by rintro (e | e) <;> omega)).whole) Try.underlying25 rfl rfl sizeNd) ?_
          simp only [Act.put, List.setIfInBounds_toArray, List.set_cons_zero, List.set_cons_succ]
          refine takeG 1 (some 60) (.int .i64 (z : Int)) rfl rfl (by kernel_rfl) (by kernel_rfl) (by kernel_rfl) (fun _ _ _ h => h) (ans_plain (by rfl) (fun w _ => rfl)) ?_
          simp only [Act.put, List.setIfInBounds_toArray, List.set_cons_zero, List.set_cons_succ]
          refine takeG 3 (some 62) (.agg (List.toArray [.bool false, .slice pa 0 pc, .slice qa tn qc])) rfl rfl (by kernel_rfl) (by kernel_rfl) (by kernel_rfl) (fun _ _ _ h => h) (ans_row 25 (.tmp 1) _ 3 rfl (by rfl) w.heap.size 0 rfl [.bool false, .slice pa 0 pc, .slice qa tn qc] (fun u hu => (Kp.blk hu t0 (by rintro (e | e) <;> omega)).whole) Try.underlying25 rfl rfl sizeNd) ?_
          simp only [Act.put, List.setIfInBounds_toArray, List.set_cons_zero, List.set_cons_succ]
          refine takeG 4 (some 63) (.int .i64 (z : Int)) rfl rfl (by kernel_rfl) (by kernel_rfl) (by kernel_rfl) (fun _ _ _ h => h) (ans_plain (by rfl) (fun w _ => rfl)) ?_
          simp only [Act.put, List.setIfInBounds_toArray, List.set_cons_zero, List.set_cons_succ]
          refine takeG 5 (some 64) (.int .i64 (tn : Int)) rfl rfl (by kernel_rfl) (by kernel_rfl) (by kernel_rfl) (fun _ _ _ h => h) (ans_plain (by rfl) (fun w _ => rfl)) ?_
          simp only [Act.put, List.setIfInBounds_toArray, List.set_cons_zero, List.set_cons_succ]
          refine callG 2 (some 61) 70 #[.tmp 59, .const (.int .i64 0), .tmp 60] #[25, 3, 3] #[.agg (List.toArray [.bool false, .slice pa 0 pc, .slice qa tn qc]), .int .i64 0, .int .i64 (z : Int)] rfl rfl rfl (by rfl) (by rfl) (by kernel_rfl) Try.call70 fun u1 hg1 hs1 => ?_
          refine (HT.out 0 z (by omega) (by omega) u1 (HN.out u1 hs1)).mono ?_
          rintro e u2 ⟨p1, q1, rfl, N1, b1⟩
          refine ⟨_, rfl, hs1.trans (Kp.of_below b1), ?_⟩
          simp only [Act.put, List.setIfInBounds_toArray, List.set_cons_zero, List.set_cons_succ]
          refine callG 6 (some 65) 70 #[.tmp 62, .tmp 63, .tmp 64] #[25, 3, 3] #[.agg (List.toArray [.bool false, .slice pa 0 pc, .slice qa tn qc]), .int .i64 (z : Int), .int .i64 (tn : Int)] rfl rfl rfl (by rfl) (by rfl) (by kernel_rfl) Try.call70 fun u3 hg3 hs3 => ?_
          refine (HT.out z tn (by omega) (by omega) u3 (HN.out u3 hs3)).mono ?_
          rintro e u4 ⟨p2, q2, rfl, N2, b2⟩
          refine ⟨_, rfl, hs3.trans (Kp.of_below b2), ?_⟩
          simp only [Act.put, List.setIfInBounds_toArray, List.set_cons_zero, List.set_cons_succ]
          refine oneG 7 (by kernel_rfl) fun u5 hg5 hs5 => ?_
          have g12 : Below V.heap.size V u2 := (hb.drew.trans (Below.mono hg1 hb.drew.size)).trans (b1.mono (Nat.le_trans hb.drew.size (Below.size hg1)))
          have g14 : Below V.heap.size V u4 := (g12.trans (Below.mono hg3 g12.size)).trans (b2.mono (Nat.le_trans g12.size (Below.size hg3)))
          have g15 : Below V.heap.size V u5 := g14.trans (Below.mono hg5 g14.size)
          have y1 := t1.below g15 t1.lt
          have y2 := t2.below g15 t2.lt
          have su1 : w.heap.size + 3 ≤ u1.heap.size := by rw [← sV]; exact Nat.le_trans hb.drew.size (Below.size hg1)
          have su3 : w.heap.size + 3 ≤ u3.heap.size := by rw [← sV]; exact Nat.le_trans g12.size (Below.size hg3)
          have M1 : Nd (fun j => ¬ (j = w.heap.size + 1 ∨ j = w.heap.size + 2)) u5 (C 0 z) p1 q1 := (((N1.mono (fun j _ hj => by rcases hj with hj | hj <;> (rintro (e | e) <;> omega))).below hg3).below b2).below hg5
          have M2 : Nd (fun j => ¬ (j = w.heap.size + 1 ∨ j = w.heap.size + 2)) u5 (C z tn) p2 q2 := (N2.mono (fun j _ hj => by rcases hj with hj | hj <;> (rintro (e | e) <;> omega))).below hg5
          refine opStR 7 25 (.tmp 2) (.tmp 61) 3 rfl rfl rfl rfl (w.heap.size + 1) [.bool false, .slice none 0 0, .slice none 0 0] (ndc (C 0 z) p1 q1) 25 y1 rfl rfl (ndc_one (C 0 z) p1 q1) sizeNd rfl rfl ?_
          intro u6 f1 hk6
          have y2b := hk6.blk y2 (by omega)
          have hs6 := hs5.trans (hk6.mono (G := (fun j => j = w.heap.size + 1 ∨ j = w.heap.size + 2)) fun j _ e => Or.inl e)
          refine ⟨hs6, ?_⟩
          refine oneG 8 (by kernel_rfl) fun u7 hg7 hs7 => ?_
          have f1b := f1.below hg7 f1.lt
          have y2c := y2b.below hg7 y2b.lt
          refine opStR 8 25 (.tmp 3) (.tmp 65) 3 rfl rfl rfl rfl (w.heap.size + 2) [.bool false, .slice none 0 0, .slice none 0 0] (ndc (C z tn) p2 q2) 25 y2c rfl rfl (ndc_one (C z tn) p2 q2) sizeNd rfl rfl ?_
          intro u8 f2 hk8
          have f1c := hk8.blk f1b (by omega)
          have hs8 := hs7.trans (hk8.mono (G := (fun j => j = w.heap.size + 1 ∨ j = w.heap.size + 2)) fun j _ e => Or.inr e)
          refine ⟨hs8, ?_⟩
          refine takeG 9 (some 4) (.bool true) rfl rfl (by kernel_rfl) (by kernel_rfl) (by kernel_rfl) (fun _ _ _ h => h) (ans_plain (by rfl) (fun w _ => rfl)) ?_
          simp only [Act.put, List.setIfInBounds_toArray, List.set_cons_zero, List.set_cons_succ]
          refine doneG (by kernel_rfl) fun v9 hg9 hs9 => ?_
          have b1d := f1c.below hg9 f1c.lt
          have b2d := f2.below hg9 f2.lt
          have k9 : Below w.heap.size w v9 := below_kp kV hs9 kV.size (fun j hj e => by rcases e with e | e <;> omega)
          have j59 : Kp (fun j => j = w.heap.size + 1 ∨ j = w.heap.size + 2) u5 v9 := ((hk6.mono (G := (fun j => j = w.heap.size + 1 ∨ j = w.heap.size + 2)) fun j _ e => Or.inl e).trans (Kp.of_below hg7)).trans ((hk8.mono (G := (fun j => j = w.heap.size + 1 ∨ j = w.heap.size + 2)) fun j _ e => Or.inr e).trans (Kp.of_below hg9))
          have R1 := (M1.keep j59.size (fun j hj ha => j59.block j hj ha)).mono (A' := fun _ => True) (fun _ _ _ => trivial)
          have R2 := (M2.keep j59.size (fun j hj ha => j59.block j hj ha)).mono (A' := fun _ => True) (fun _ _ _ => trivial)
          clear j59 hs9 hg9 hs8 f1c hk8 f2 f1b y2c hs7 hg7 hs6 y2b hk6 f1 M1 M2 y1 y2 g15 g14 g12 hs5 hg5 N1 N2 HN HT t0 t1 t2
          go_wp2_with fail
          refine bodyPost_ret (v := .tuple #[.agg (ndc (C 0 z) p1 q1).toArray, .agg (ndc (C z tn) p2 q2).toArray, .bool true]) (resCCT Try.results24 _ _ (w.heap.size + 1) (w.heap.size + 2) _ _ rfl rfl (run_loadVar_row v9 (w.heap.size + 1) 25 25 _ (0, 0) _ b1d Try.underlying25 rfl sizeNd) (run_loadVar_row v9 (w.heap.size + 2) 25 25 _ (0, 0) _ b2d Try.underlying25 rfl sizeNd) _ rfl) rfl ?_
          exact ⟨p1, q1, p2, q2, rfl, R1, R2, k9⟩
  · have z0 : qn = 0 := by rw [← l2]; exact hk1 rfl
    subst z0
    have e0 : tn = pn := by simpa using htn'
    subst e0
    have hle : tn ≤ 60 := by omega
    have w0 : IntKind.i64.wrap (tn : Int) = (tn : Int) := by rw [IntKind.wrap_i64]; omega
    clear htn' hk1 hk2
    by_cases h2 : tn < 2
    · rw [show R = (zeroN, zeroN, false) from by rw [HP.out, if_pos (by omega)]]
      have i2 : (tn : Int) < 2 := by omega
      clear HP HG HR HZ HS HT
      go_enter Try.func24, Try.ntmps24
      go_upto_region 1 with fail
      rw [← hV]
      clear hV
      go_wp2_with ((with_reducible refine at_st 25 ?_); (with_reducible refine Hid.out ?_))
      unfold Hid
      refine st' 25 (.tmp 2) (.tmp 27) 3 sizeNd (w.heap.size + 1) 0 [.bool false, .slice none 0 0, .slice none 0 0] rfl (ndc_one ⟨false, [], []⟩ T0 T0) (t1.there 0 3 (by decide)) rfl rfl ?_
      intro v1 hv1
      have b1 : Blk v1 (w.heap.size + 1) [.bool false, .slice none 0 0, .slice none 0 0] 25 := by rw [hv1]; exact Blk.setsW t1 _ rfl
      have b2 : Blk v1 (w.heap.size + 2) [.bool false, .slice none 0 0, .slice none 0 0] 25 := by rw [hv1]; exact Blk.setsO (by omega) _ t2 0
      have k1 : Below w.heap.size w v1 := by rw [hv1]; exact below_sets (by omega) _ kV 0
      clear hv1 t1 t2 kV
      go_wp2_with ((with_reducible refine at_st 25 ?_); (with_reducible refine Hid.out ?_))
      unfold Hid
      refine st' 25 (.tmp 3) (.tmp 28) 3 sizeNd (w.heap.size + 2) 0 [.bool false, .slice none 0 0, .slice none 0 0] rfl (ndc_one ⟨false, [], []⟩ T0 T0) (b2.there 0 3 (by decide)) rfl rfl ?_
      intro v2 hv2
      have d1 : Blk v2 (w.heap.size + 1) [.bool false, .slice none 0 0, .slice none 0 0] 25 := by rw [hv2]; exact Blk.setsO (by omega) _ b1 0
      have d2 : Blk v2 (w.heap.size + 2) [.bool false, .slice none 0 0, .slice none 0 0] 25 := by rw [hv2]; exact Blk.setsW b2 _ rfl
      have k2 : Below w.heap.size w v2 := by rw [hv2]; exact below_sets (by omega) _ k1 0
      clear hv2 b1 b2 k1
      go_wp2_with fail
      refine bodyPost_ret (v := .tuple #[.agg (List.toArray [.bool false, .slice none 0 0, .slice none 0 0]), .agg (List.toArray [.bool false, .slice none 0 0, .slice none 0 0]), .bool false]) (resCCT Try.results24 _ _ (w.heap.size + 1) (w.heap.size + 2) _ _ rfl rfl (run_loadVar_row v2 (w.heap.size + 1) 25 25 _ (0, 0) _ d1 Try.underlying25 rfl sizeNd) (run_loadVar_row v2 (w.heap.size + 2) 25 25 _ (0, 0) _ d2 Try.underlying25 rfl sizeNd) _ rfl) rfl ?_
      exact ⟨T0, T0, T0, T0, rfl, Nd.zero _ _, Nd.zero _ _, k2⟩
    · have i2 : ¬ (tn : Int) < 2 := by omega
      rw [show R = (C 0 (prtG G (tn - 1)).1, C (prtG G (tn - 1)).1 tn, true) from by rw [HP.out, if_neg (by omega)]]
      dsimp only
      obtain ⟨y, hy⟩ : ∃ y, (prtG G (tn - 1)).1 = y := ⟨_, rfl⟩
      rw [hy]
      have HY : Hid ((prtG G (tn - 1)).1 = y) := hy
      clear HP hy
      go_enter Try.func24, Try.ntmps24
      go_upto_region 1 with fail
      rw [← hV]
      clear hV
      go_wp2_with fail
      go_loopw [6, 7, 8, 9] (fun a6 a7 i a9 wr => ∃ k z m : Nat, k + 1 ≤ tn ∧ a6 = .int .i64 (z : Int) ∧ a7 = .int .i64 (m : Int) ∧ i = .int .i64 ((k : Int) + 1) ∧ Hid (prtG G k = (z, m)) ∧ Below V.heap.size V wr) (fun _ _ i _ _ => tn - (intOf i).toNat)
      case atStart => exact ⟨0, 0, 0, by omega, rfl, rfl, rfl, rfl, Below.refl _ _⟩
      case round =>
        clear c0 c1 c2
        obtain ⟨k, z, m, hk, rfl, rfl, rfl, HM, hb⟩ := hrel
        have X := t0.below hb t0.lt
        have hN := H0.below hb
        by_cases hlt : k + 1 < tn
        · have i0 : (k : Int) + 1 < (tn : Int) := by omega
          have HA : Hid (∀ u, Nd (fun j => j < w.heap.size) u ⟨true, ps, ks⟩ ⟨pa, tn, pc⟩ ⟨qa, 0, qc⟩ → Calls Try.prog 70 #[.agg (List.toArray [.bool true, .slice pa tn pc, .slice qa 0 qc]), .int .i64 0, .int .i64 ((k : Int) + 1)] u fun e u' => ∃ cs, e = .returned (.agg cs) ∧ Below u.heap.size u u' ∧ Hid (Calls Try.prog 17 #[.agg cs] u' fun e u3 => e = .returned (.int .i64 (sizeN (C 0 (k + 1)) : Nat)) ∧ Below u'.heap.size u' u3)) := fun u hu => by
            have := HT.out 0 (k + 1) (by omega) (by omega) u hu
            rw [show ((k + 1 : Nat) : Int) = (k : Int) + 1 from by omega] at this
            exact this.mono fun e u' ⟨p', q', h1, h2, h3⟩ => ⟨_, h1, h3, HS.out 0 (k + 1) u' _ p' q' h2⟩
          have HB : Hid (∀ u, Nd (fun j => j < w.heap.size) u ⟨true, ps, ks⟩ ⟨pa, tn, pc⟩ ⟨qa, 0, qc⟩ → Calls Try.prog 70 #[.agg (List.toArray [.bool true, .slice pa tn pc, .slice qa 0 qc]), .int .i64 ((k : Int) + 1), .int .i64 (tn : Int)] u fun e u' => ∃ cs, e = .returned (.agg cs) ∧ Below u.heap.size u u' ∧ Hid (Calls Try.prog 17 #[.agg cs] u' fun e u3 => e = .returned (.int .i64 (sizeN (C (k + 1) tn) : Nat)) ∧ Below u'.heap.size u' u3)) := fun u hu => by
            have := HT.out (k + 1) tn (by omega) (Nat.le_refl _) u hu
            rw [show ((k + 1 : Nat) : Int) = (k : Int) + 1 from by omega] at this
            exact this.mono fun e u' ⟨p', q', h1, h2, h3⟩ => ⟨_, h1, h3, HS.out (k + 1) tn u' _ p' q' h2⟩
          have hM := HG.out k
          rw [HM.out, HR.out (k + 1)] at hM
          dsimp only at hM
          have z1 := HZ.out 0 (k + 1)
          have z2 := HZ.out (k + 1) tn
          clear HT HS HZ HM H0 HR HG
          generalize sizeN (C 0 (k + 1)) = sA at *
          generalize sizeN (C (k + 1) tn) = sB at *
          by_cases c1 : sA < sB
          · rw [if_pos c1] at hM
            have j1 : (sA : Int) < (sB : Int) := by omega
            by_cases c2 : z = 0
            · subst c2
              have HQ : Hid (prtG G (k + 1) = (k + 1, sB)) := by rw [hM]; exact if_pos (Or.inl rfl)
              clear hM
              go_wp2_with (first | ((with_reducible refine at_ld 25 ?_); (refine ld 25 (.tmp 1) 3 sizeNd _ Try.underlying25 rfl w.heap.size 0 [.bool true, .slice pa tn pc, .slice qa 0 qc] rfl X.whole rfl ?_)) | (go_at_call 70; (with_reducible refine Hid.out ?_)))
              unfold Hid
              refine (HA.out _ hN).mono ?_
              rintro e u1 ⟨cs, rfl, kk, HZ1⟩
              replace X := X.below kk X.lt
              replace hN := hN.below kk
              replace hb := hb.trans (kk.mono hb.size)
              clear kk
              go_wp2_with (first | (go_at_call 17; (refine HZ1.out.mono ?_); rintro e u2 ⟨rfl, kk⟩; replace X := X.below kk X.lt; replace hN := hN.below kk; replace hb := hb.trans (kk.mono hb.size); clear kk; clear HZ1) | ((with_reducible refine at_ld 25 ?_); (refine ld 25 (.tmp 1) 3 sizeNd _ Try.underlying25 rfl w.heap.size 0 [.bool true, .slice pa tn pc, .slice qa 0 qc] rfl X.whole rfl ?_)) | (go_at_call 70; (with_reducible refine Hid.out ?_)))
              unfold Hid
              refine (HB.out _ hN).mono ?_
              rintro e u1 ⟨cs, rfl, kk, HZ1⟩
              replace X := X.below kk X.lt
              replace hN := hN.below kk
              replace hb := hb.trans (kk.mono hb.size)
              clear kk
              go_wp2_with (first | (go_at_call 17; (refine HZ1.out.mono ?_); rintro e u2 ⟨rfl, kk⟩; replace X := X.below kk X.lt; replace hN := hN.below kk; replace hb := hb.trans (kk.mono hb.size); clear kk; clear HZ1) | ((with_reducible refine at_ld 25 ?_); (refine ld 25 (.tmp 1) 3 sizeNd _ Try.underlying25 rfl w.heap.size 0 [.bool true, .slice pa tn pc, .slice qa 0 qc] rfl X.whole rfl ?_)) | (go_at_call 70; (with_reducible refine Hid.out ?_)))
              unfold Hid
              refine (HB.out _ hN).mono ?_
              rintro e u1 ⟨cs, rfl, kk, HZ1⟩
              replace X := X.below kk X.lt
              replace hN := hN.below kk
              replace hb := hb.trans (kk.mono hb.size)
              clear kk
              go_wp2_with (first | (go_at_call 17; (refine HZ1.out.mono ?_); rintro e u2 ⟨rfl, kk⟩; replace X := X.below kk X.lt; replace hN := hN.below kk; replace hb := hb.trans (kk.mono hb.size); clear kk; clear HZ1))
              go_roundw
              case rel => exact ⟨k + 1, k + 1, sB, by omega, by first | rfl | go_num, by first | rfl | go_num, by go_num, HQ, hb⟩
              case measure => simp [intOf]; omega
            · have d1 : ¬ (z : Int) = 0 := by omega
              have d2 : ((z : Int) == 0) = false := by simpa using d1
              by_cases c3 : sB < m
              · have j3 : (sB : Int) < (m : Int) := by omega
                have HQ : Hid (prtG G (k + 1) = (k + 1, sB)) := by rw [hM]; exact if_pos (Or.inr c3)
                clear hM
                go_wp2_with (first | ((with_reducible refine at_ld 25 ?_); (refine ld 25 (.tmp 1) 3 sizeNd _ Try.underlying25 rfl w.heap.size 0 [.bool true, .slice pa tn pc, .slice qa 0 qc] rfl X.whole rfl ?_)) | (go_at_call 70; (with_reducible refine Hid.out ?_)))
                unfold Hid
                refine (HA.out _ hN).mono ?_
                rintro e u1 ⟨cs, rfl, kk, HZ1⟩
                replace X := X.below kk X.lt
                replace hN := hN.below kk
                replace hb := hb.trans (kk.mono hb.size)
                clear kk
                go_wp2_with (first | (go_at_call 17; (refine HZ1.out.mono ?_); rintro e u2 ⟨rfl, kk⟩; replace X := X.below kk X.lt; replace hN := hN.below kk; replace hb := hb.trans (kk.mono hb.size); clear kk; clear HZ1) | ((with_reducible refine at_ld 25 ?_); (refine ld 25 (.tmp 1) 3 sizeNd _ Try.underlying25 rfl w.heap.size 0 [.bool true, .slice pa tn pc, .slice qa 0 qc] rfl X.whole rfl ?_)) | (go_at_call 70; (with_reducible refine Hid.out ?_)))
                unfold Hid
                refine (HB.out _ hN).mono ?_
                rintro e u1 ⟨cs, rfl, kk, HZ1⟩
                replace X := X.below kk X.lt
                replace hN := hN.below kk
                replace hb := hb.trans (kk.mono hb.size)
                clear kk
                go_wp2_with (first | (go_at_call 17; (refine HZ1.out.mono ?_); rintro e u2 ⟨rfl, kk⟩; replace X := X.below kk X.lt; replace hN := hN.below kk; replace hb := hb.trans (kk.mono hb.size); clear kk; clear HZ1) | ((with_reducible refine at_ld 25 ?_); (refine ld 25 (.tmp 1) 3 sizeNd _ Try.underlying25 rfl w.heap.size 0 [.bool true, .slice pa tn pc, .slice qa 0 qc] rfl X.whole rfl ?_)) | (go_at_call 70; (with_reducible refine Hid.out ?_)))
                unfold Hid
                refine (HB.out _ hN).mono ?_
                rintro e u1 ⟨cs, rfl, kk, HZ1⟩
                replace X := X.below kk X.lt
                replace hN := hN.below kk
                replace hb := hb.trans (kk.mono hb.size)
                clear kk
                go_wp2_with (first | (go_at_call 17; (refine HZ1.out.mono ?_); rintro e u2 ⟨rfl, kk⟩; replace X := X.below kk X.lt; replace hN := hN.below kk; replace hb := hb.trans (kk.mono hb.size); clear kk; clear HZ1))
                go_roundw
                case rel => exact ⟨k + 1, k + 1, sB, by omega, by first | rfl | go_num, by first | rfl | go_num, by go_num, HQ, hb⟩
                case measure => simp [intOf]; omega
              · have j3 : ¬ (sB : Int) < (m : Int) := by omega
                have HQ : Hid (prtG G (k + 1) = (z, m)) := by rw [hM]; exact if_neg (by rintro (e | e) <;> contradiction)
                clear hM
                go_wp2_with (first | ((with_reducible refine at_ld 25 ?_); (refine ld 25 (.tmp 1) 3 sizeNd _ Try.underlying25 rfl w.heap.size 0 [.bool true, .slice pa tn pc, .slice qa 0 qc] rfl X.whole rfl ?_)) | (go_at_call 70; (with_reducible refine Hid.out ?_)))
                unfold Hid
                refine (HA.out _ hN).mono ?_
                rintro e u1 ⟨cs, rfl, kk, HZ1⟩
                replace X := X.below kk X.lt
                replace hN := hN.below kk
                replace hb := hb.trans (kk.mono hb.size)
                clear kk
                go_wp2_with (first | (go_at_call 17; (refine HZ1.out.mono ?_); rintro e u2 ⟨rfl, kk⟩; replace X := X.below kk X.lt; replace hN := hN.below kk; replace hb := hb.trans (kk.mono hb.size); clear kk; clear HZ1) | ((with_reducible refine at_ld 25 ?_); (refine ld 25 (.tmp 1) 3 sizeNd _ Try.underlying25 rfl w.heap.size 0 [.bool true, .slice pa tn pc, .slice qa 0 qc] rfl X.whole rfl ?_)) | (go_at_call 70; (with_reducible refine Hid.out ?_)))
                unfold Hid
                refine (HB.out _ hN).mono ?_
                rintro e u1 ⟨cs, rfl, kk, HZ1⟩
                replace X := X.below kk X.lt
                replace hN := hN.below kk
                replace hb := hb.trans (kk.mono hb.size)
                clear kk
                go_wp2_with (first | (go_at_call 17; (refine HZ1.out.mono ?_); rintro e u2 ⟨rfl, kk⟩; replace X := X.below kk X.lt; replace hN := hN.below kk; replace hb := hb.trans (kk.mono hb.size); clear kk; clear HZ1) | ((with_reducible refine at_ld 25 ?_); (refine ld 25 (.tmp 1) 3 sizeNd _ Try.underlying25 rfl w.heap.size 0 [.bool true, .slice pa tn pc, .slice qa 0 qc] rfl X.whole rfl ?_)) | (go_at_call 70; (with_reducible refine Hid.out ?_)))
                unfold Hid
                refine (HB.out _ hN).mono ?_
                rintro e u1 ⟨cs, rfl, kk, HZ1⟩
                replace X := X.below kk X.lt
                replace hN := hN.below kk
                replace hb := hb.trans (kk.mono hb.size)
                clear kk
                go_wp2_with (first | (go_at_call 17; (refine HZ1.out.mono ?_); rintro e u2 ⟨rfl, kk⟩; replace X := X.below kk X.lt; replace hN := hN.below kk; replace hb := hb.trans (kk.mono hb.size); clear kk; clear HZ1))
                go_roundw
                case rel => exact ⟨k + 1, z, m, by omega, by first | rfl | go_num, by first | rfl | go_num, by go_num, HQ, hb⟩
                case measure => simp [intOf]; omega
          · rw [if_neg c1] at hM
            have j1 : ¬ (sA : Int) < (sB : Int) := by omega
            by_cases c2 : z = 0
            · subst c2
              have HQ : Hid (prtG G (k + 1) = (k + 1, sA)) := by rw [hM]; exact if_pos (Or.inl rfl)
              clear hM
              go_wp2_with (first | ((with_reducible refine at_ld 25 ?_); (refine ld 25 (.tmp 1) 3 sizeNd _ Try.underlying25 rfl w.heap.size 0 [.bool true, .slice pa tn pc, .slice qa 0 qc] rfl X.whole rfl ?_)) | (go_at_call 70; (with_reducible refine Hid.out ?_)))
              unfold Hid
              refine (HA.out _ hN).mono ?_
              rintro e u1 ⟨cs, rfl, kk, HZ1⟩
              replace X := X.below kk X.lt
              replace hN := hN.below kk
              replace hb := hb.trans (kk.mono hb.size)
              clear kk
              go_wp2_with (first | (go_at_call 17; (refine HZ1.out.mono ?_); rintro e u2 ⟨rfl, kk⟩; replace X := X.below kk X.lt; replace hN := hN.below kk; replace hb := hb.trans (kk.mono hb.size); clear kk; clear HZ1) | ((with_reducible refine at_ld 25 ?_); (refine ld 25 (.tmp 1) 3 sizeNd _ Try.underlying25 rfl w.heap.size 0 [.bool true, .slice pa tn pc, .slice qa 0 qc] rfl X.whole rfl ?_)) | (go_at_call 70; (with_reducible refine Hid.out ?_)))
              unfold Hid
              refine (HB.out _ hN).mono ?_
              rintro e u1 ⟨cs, rfl, kk, HZ1⟩
              replace X := X.below kk X.lt
              replace hN := hN.below kk
              replace hb := hb.trans (kk.mono hb.size)
              clear kk
              go_wp2_with (first | (go_at_call 17; (refine HZ1.out.mono ?_); rintro e u2 ⟨rfl, kk⟩; replace X := X.below kk X.lt; replace hN := hN.below kk; replace hb := hb.trans (kk.mono hb.size); clear kk; clear HZ1))
              go_roundw
              case rel => exact ⟨k + 1, k + 1, sA, by omega, by first | rfl | go_num, by first | rfl | go_num, by go_num, HQ, hb⟩
              case measure => simp [intOf]; omega
            · have d1 : ¬ (z : Int) = 0 := by omega
              have d2 : ((z : Int) == 0) = false := by simpa using d1
              by_cases c3 : sA < m
              · have j3 : (sA : Int) < (m : Int) := by omega
                have HQ : Hid (prtG G (k + 1) = (k + 1, sA)) := by rw [hM]; exact if_pos (Or.inr c3)
                clear hM
                go_wp2_with (first | ((with_reducible refine at_ld 25 ?_); (refine ld 25 (.tmp 1) 3 sizeNd _ Try.underlying25 rfl w.heap.size 0 [.bool true, .slice pa tn pc, .slice qa 0 qc] rfl X.whole rfl ?_)) | (go_at_call 70; (with_reducible refine Hid.out ?_)))
                unfold Hid
                refine (HA.out _ hN).mono ?_
                rintro e u1 ⟨cs, rfl, kk, HZ1⟩
                replace X := X.below kk X.lt
                replace hN := hN.below kk
                replace hb := hb.trans (kk.mono hb.size)
                clear kk
                go_wp2_with (first | (go_at_call 17; (refine HZ1.out.mono ?_); rintro e u2 ⟨rfl, kk⟩; replace X := X.below kk X.lt; replace hN := hN.below kk; replace hb := hb.trans (kk.mono hb.size); clear kk; clear HZ1) | ((with_reducible refine at_ld 25 ?_); (refine ld 25 (.tmp 1) 3 sizeNd _ Try.underlying25 rfl w.heap.size 0 [.bool true, .slice pa tn pc, .slice qa 0 qc] rfl X.whole rfl ?_)) | (go_at_call 70; (with_reducible refine Hid.out ?_)))
                unfold Hid
                refine (HB.out _ hN).mono ?_
                rintro e u1 ⟨cs, rfl, kk, HZ1⟩
                replace X := X.below kk X.lt
                replace hN := hN.below kk
                replace hb := hb.trans (kk.mono hb.size)
                clear kk
                go_wp2_with (first | (go_at_call 17; (refine HZ1.out.mono ?_); rintro e u2 ⟨rfl, kk⟩; replace X := X.below kk X.lt; replace hN := hN.below kk; replace hb := hb.trans (kk.mono hb.size); clear kk; clear HZ1))
                go_roundw
                case rel => exact ⟨k + 1, k + 1, sA, by omega, by first | rfl | go_num, by first | rfl | go_num, by go_num, HQ, hb⟩
                case measure => simp [intOf]; omega
              · have j3 : ¬ (sA : Int) < (m : Int) := by omega
                have HQ : Hid (prtG G (k + 1) = (z, m)) := by rw [hM]; exact if_neg (by rintro (e | e) <;> contradiction)
                clear hM
                go_wp2_with (first | ((with_reducible refine at_ld 25 ?_); (refine ld 25 (.tmp 1) 3 sizeNd _ Try.underlying25 rfl w.heap.size 0 [.bool true, .slice pa tn pc, .slice qa 0 qc] rfl X.whole rfl ?_)) | (go_at_call 70; (with_reducible refine Hid.out ?_)))
                unfold Hid
                refine (HA.out _ hN).mono ?_
                rintro e u1 ⟨cs, rfl, kk, HZ1⟩
                replace X := X.below kk X.lt
                replace hN := hN.below kk
                replace hb := hb.trans (kk.mono hb.size)
                clear kk
                go_wp2_with (first | (go_at_call 17; (refine HZ1.out.mono ?_); rintro e u2 ⟨rfl, kk⟩; replace X := X.below kk X.lt; replace hN := hN.below kk; replace hb := hb.trans (kk.mono hb.size); clear kk; clear HZ1) | ((with_reducible refine at_ld 25 ?_); (refine ld 25 (.tmp 1) 3 sizeNd _ Try.underlying25 rfl w.heap.size 0 [.bool true, .slice pa tn pc, .slice qa 0 qc] rfl X.whole rfl ?_)) | (go_at_call 70; (with_reducible refine Hid.out ?_)))
                unfold Hid
                refine (HB.out _ hN).mono ?_
                rintro e u1 ⟨cs, rfl, kk, HZ1⟩
                replace X := X.below kk X.lt
                replace hN := hN.below kk
                replace hb := hb.trans (kk.mono hb.size)
                clear kk
                go_wp2_with (first | (go_at_call 17; (refine HZ1.out.mono ?_); rintro e u2 ⟨rfl, kk⟩; replace X := X.below kk X.lt; replace hN := hN.below kk; replace hb := hb.trans (kk.mono hb.size); clear kk; clear HZ1))
                go_roundw
                case rel => exact ⟨k + 1, z, m, by omega, by first | rfl | go_num, by first | rfl | go_num, by go_num, HQ, hb⟩
                case measure => simp [intOf]; omega
        · have e1 : k = tn - 1 := by omega
          have hM := HM.out
          have hz1 : 1 ≤ z := by
            have := prtG_pos G (k - 1)
            rw [show k - 1 + 1 = k from by omega, hM] at this
            exact this
          have hz2 : z ≤ k := by
            have := prtG_le G k
            rw [hM] at this
            exact this
          have hzy := HY.out
          rw [← e1, hM] at hzy
          dsimp only at hzy
          subst hzy
          have i0 : ¬ (k : Int) + 1 < (tn : Int) := by omega
          have hzt : z < tn := by omega
          have HN : Hid (∀ u, Kp (fun j => j = w.heap.size + 1 ∨ j = w.heap.size + 2) V u → Nd (fun j => j < w.heap.size) u ⟨true, ps, ks⟩ ⟨pa, tn, pc⟩ ⟨qa, 0, qc⟩) := fun u hu => H0.keep hu.size (fun j hj ha => hu.block j hj (by rintro (e | e) <;> omega))
          clear HG HR HZ HS HM HY hM hN X
          go_wp2_with fail
          refine regionG (S := Kp (fun j => j = w.heap.size + 1 ∨ j = w.heap.size + 2) V) (by kernel_rfl) (Kp.of_below hb.drew) ?_
          refine takeG 0 (some 59) (.agg (List.toArray [.bool true, .slice pa tn pc, .slice qa 0 qc])) rfl rfl (by kernel_rfl) (by kernel_rfl) (by kernel_rfl) (fun _ _ _ h => h) (ans_row 25 (.tmp 1) _ 3 rfl (by rfl) w.heap.size 0 rfl [.bool true, .slice pa tn pc, .slice qa 0 qc] (fun u hu => (Kp.blk hu t0 (by rintro (e | e) <;> omega)).whole) Try.underlying25 rfl rfl sizeNd) ?_
          simp only [Act.put, List.setIfInBounds_toArray, List.set_cons_zero, List.set_cons_succ]
          refine takeG 1 (some 60) (.int .i64 (z : Int)) rfl rfl (by kernel_rfl) (by kernel_rfl) (by kernel_rfl) (fun _ _ _ h => h) (ans_plain (by rfl) (fun w _ => rfl)) ?_
          simp only [Act.put, List.setIfInBounds_toArray, List.set_cons_zero, List.set_cons_succ]
          refine takeG 3 (some 62) (.agg (List.toArray [.bool true, .slice pa tn pc, .slice qa 0 qc])) rfl rfl (by kernel_rfl) (by kernel_rfl) (by kernel_rfl) (fun _ _ _ h => h) (ans_row 25 (.tmp 1) _ 3 rfl (by rfl) w.heap.size 0 rfl [.bool true, .slice pa tn pc, .slice qa 0 qc] (fun u hu => (Kp.blk hu t0 (by rintro (e | e) <;> omega)).whole) Try.underlying25 rfl rfl sizeNd) ?_
          simp only [Act.put, List.setIfInBounds_toArray, List.set_cons_zero, List.set_cons_succ]
          refine takeG 4 (some 63) (.int .i64 (z : Int)) rfl rfl (by kernel_rfl) (by kernel_rfl) (by kernel_rfl) (fun _ _ _ h => h) (ans_plain (by rfl) (fun w _ => rfl)) ?_
          simp only [Act.put, List.setIfInBounds_toArray, List.set_cons_zero, List.set_cons_succ]
          refine takeG 5 (some 64) (.int .i64 (tn : Int)) rfl rfl (by kernel_rfl) (by kernel_rfl) (by kernel_rfl) (fun _ _ _ h => h) (ans_plain (by rfl) (fun w _ => rfl)) ?_
          simp only [Act.put, List.setIfInBounds_toArray, List.set_cons_zero, List.set_cons_succ]
          refine callG 2 (some 61) 70 #[.tmp 59, .const (.int .i64 0), .tmp 60] #[25, 3, 3] #[.agg (List.toArray [.bool true, .slice pa tn pc, .slice qa 0 qc]), .int .i64 0, .int .i64 (z : Int)] rfl rfl rfl (by rfl) (by rfl) (by kernel_rfl) Try.call70 fun u1 hg1 hs1 => ?_
          refine (HT.out 0 z (by omega) (by omega) u1 (HN.out u1 hs1)).mono ?_
          rintro e u2 ⟨p1, q1, rfl, N1, b1⟩
          refine ⟨_, rfl, hs1.trans (Kp.of_below b1), ?_⟩
          simp only [Act.put, List.setIfInBounds_toArray, List.set_cons_zero, List.set_cons_succ]
          refine callG 6 (some 65) 70 #[.tmp 62, .tmp 63, .tmp 64] #[25, 3, 3] #[.agg (List.toArray [.bool true, .slice pa tn pc, .slice qa 0 qc]), .int .i64 (z : Int), .int .i64 (tn : Int)] rfl rfl rfl (by rfl) (by rfl) (by kernel_rfl) Try.call70 fun u3 hg3 hs3 => ?_
          refine (HT.out z tn (by omega) (by omega) u3 (HN.out u3 hs3)).mono ?_
          rintro e u4 ⟨p2, q2, rfl, N2, b2⟩
          refine ⟨_, rfl, hs3.trans (Kp.of_below b2), ?_⟩
          simp only [Act.put, List.setIfInBounds_toArray, List.set_cons_zero, List.set_cons_succ]
          refine oneG 7 (by kernel_rfl) fun u5 hg5 hs5 => ?_
          have g12 : Below V.heap.size V u2 := (hb.drew.trans (Below.mono hg1 hb.drew.size)).trans (b1.mono (Nat.le_trans hb.drew.size (Below.size hg1)))
          have g14 : Below V.heap.size V u4 := (g12.trans (Below.mono hg3 g12.size)).trans (b2.mono (Nat.le_trans g12.size (Below.size hg3)))
          have g15 : Below V.heap.size V u5 := g14.trans (Below.mono hg5 g14.size)
          have y1 := t1.below g15 t1.lt
          have y2 := t2.below g15 t2.lt
          have su1 : w.heap.size + 3 ≤ u1.heap.size := by rw [← sV]; exact Nat.le_trans hb.drew.size (Below.size hg1)
          have su3 : w.heap.size + 3 ≤ u3.heap.size := by rw [← sV]; exact Nat.le_trans g12.size (Below.size hg3)
          have M1 : Nd (fun j => ¬ (j = w.heap.size + 1 ∨ j = w.heap.size + 2)) u5 (C 0 z) p1 q1 := (((N1.mono (fun j _ hj => by rcases hj with hj | hj <;> (rintro (e | e) <;> omega))).below hg3).below b2).below hg5
          have M2 : Nd (fun j => ¬ (j = w.heap.size + 1 ∨ j = w.heap.size + 2)) u5 (C z tn) p2 q2 := (N2.mono (fun j _ hj => by rcases hj with hj | hj <;> (rintro (e | e) <;> omega))).below hg5
          refine opStR 7 25 (.tmp 2) (.tmp 61) 3 rfl rfl rfl rfl (w.heap.size + 1) [.bool false, .slice none 0 0, .slice none 0 0] (ndc (C 0 z) p1 q1) 25 y1 rfl rfl (ndc_one (C 0 z) p1 q1) sizeNd rfl rfl ?_
          intro u6 f1 hk6
          have y2b := hk6.blk y2 (by omega)
          have hs6 := hs5.trans (hk6.mono (G := (fun j => j = w.heap.size + 1 ∨ j = w.heap.size + 2)) fun j _ e => Or.inl e)
          refine ⟨hs6, ?_⟩
          refine oneG 8 (by kernel_rfl) fun u7 hg7 hs7 => ?_
          have f1b := f1.below hg7 f1.lt
          have y2c := y2b.below hg7 y2b.lt
          refine opStR 8 25 (.tmp 3) (.tmp 65) 3 rfl rfl rfl rfl (w.heap.size + 2) [.bool false, .slice none 0 0, .slice none 0 0] (ndc (C z tn) p2 q2) 25 y2c rfl rfl (ndc_one (C z tn) p2 q2) sizeNd rfl rfl ?_
          intro u8 f2 hk8
          have f1c := hk8.blk f1b (by omega)
          have hs8 := hs7.trans (hk8.mono (G := (fun j => j = w.heap.size + 1 ∨ j = w.heap.size + 2)) fun j _ e => Or.inr e)
          refine ⟨hs8, ?_⟩
          refine takeG 9 (some 4) (.bool true) rfl rfl (by kernel_rfl) (by kernel_rfl) (by kernel_rfl) (fun _ _ _ h => h) (ans_plain (by rfl) (fun w _ => rfl)) ?_
          simp only [Act.put, List.setIfInBounds_toArray, List.set_cons_zero, List.set_cons_succ]
          refine doneG (by kernel_rfl) fun v9 hg9 hs9 => ?_
          have b1d := f1c.below hg9 f1c.lt
          have b2d := f2.below hg9 f2.lt
          have k9 : Below w.heap.size w v9 := below_kp kV hs9 kV.size (fun j hj e => by rcases e with e | e <;> omega)
          have j59 : Kp (fun j => j = w.heap.size + 1 ∨ j = w.heap.size + 2) u5 v9 := ((hk6.mono (G := (fun j => j = w.heap.size + 1 ∨ j = w.heap.size + 2)) fun j _ e => Or.inl e).trans (Kp.of_below hg7)).trans ((hk8.mono (G := (fun j => j = w.heap.size + 1 ∨ j = w.heap.size + 2)) fun j _ e => Or.inr e).trans (Kp.of_below hg9))
          have R1 := (M1.keep j59.size (fun j hj ha => j59.block j hj ha)).mono (A' := fun _ => True) (fun _ _ _ => trivial)
          have R2 := (M2.keep j59.size (fun j hj ha => j59.block j hj ha)).mono (A' := fun _ => True) (fun _ _ _ => trivial)
          clear j59 hs9 hg9 hs8 f1c hk8 f2 f1b y2c hs7 hg7 hs6 y2b hk6 f1 M1 M2 y1 y2 g15 g14 g12 hs5 hg5 N1 N2 HN HT t0 t1 t2
          go_wp2_with fail
          refine bodyPost_ret (v := .tuple #[.agg (ndc (C 0 z) p1 q1).toArray, .agg (ndc (C z tn) p2 q2).toArray, .bool true]) (resCCT Try.results24 _ _ (w.heap.size + 1) (w.heap.size + 2) _ _ rfl rfl (run_loadVar_row v9 (w.heap.size + 1) 25 25 _ (0, 0) _ b1d Try.underlying25 rfl sizeNd) (run_loadVar_row v9 (w.heap.size + 2) 25 25 _ (0, 0) _ b2d Try.underlying25 rfl sizeNd) _ rfl) rfl ?_
          exact ⟨p1, q1, p2, q2, rfl, R1, R2, k9⟩

end Go.Proofs.Ytnmmopneacdgfaa
