/-
  2 texts in one. No statement of the seat is proved here.
-/
import Derived.Test.YtbifikeecmaakaaG35

/-
  How the reference's keeper lies in memory ('RK'); the contract of layer 14's reference's Save. Conditions: fewer than 5000 writes.
-/
namespace Go.Proofs.Ytbifikeecmaakaa
open Go.RowKit

/-- The reference's keeper's cells. -/
def rkC (K : KepS) (t p q : Tri) : List Value := cc K.c t ++ (anc K.last p q ++ [.bool K.has])
def zrk : List Value := [.int .i64 0, .int .i64 0, .bool false, .bool false, .slice none 0 0, .int .i64 0, .int .i64 0, .int .i64 0, .int .i64 0, .int .i64 0, .int .i64 0, .int .i64 0, .slice none 0 0, .slice none 0 0, .bool false]
theorem rkC_len (K : KepS) (t p q : Tri) : (rkC K t p q).length = 15 := rfl
theorem rkC_one (K : KepS) (t p q : Tri) : ∀ v ∈ rkC K t p q, v.oneCell' = true := by
  intro v hv
  simp only [rkC, List.mem_append, List.mem_singleton] at hv
  rcases hv with hv | hv | rfl
  · exact cc_one _ _ v hv
  · exact anc_one _ _ _ v hv
  · rfl
theorem rk_cc {K : KepS} {t p q : Tri} : ∀ j v, (cc K.c t)[j]? = some v → (rkC K t p q)[0 + j]? = some v := by
  intro j v hj
  have hl := (List.getElem?_eq_some_iff.1 hj).1
  rw [Nat.zero_add]
  unfold rkC
  rw [List.getElem?_append_left hl]
  exact hj
theorem rk_an {K : KepS} {t p q : Tri} : ∀ j v, (anc K.last p q)[j]? = some v → (rkC K t p q)[6 + j]? = some v := by
  intro j v hj
  have hl := (List.getElem?_eq_some_iff.1 hj).1
  have e : (cc K.c t).length = 6 := rfl
  unfold rkC
  rw [List.getElem?_append_right (by omega), e, Nat.add_sub_cancel_left, List.getElem?_append_left hl]
  exact hj
theorem sizeRK : (Try.prog.info? 53).map (·.size) = some 15 := by kernel_rfl
/-- The reference's keeper in memory of A. -/
structure RK (A : Nat → Prop) (w : World) (K : KepS) (t p q : Tri) : Prop where
  rc : RC A w K.c t
  an : Anc A w K.last p q
  ok : okA K.last
theorem RK.below {A : Nat → Prop} {w w' : World} {K : KepS} {t p q : Tri} (h : RK A w K t p q) (hb : Below w.heap.size w w') : RK A w' K t p q := ⟨h.rc.below hb, h.an.below hb, h.ok⟩
theorem RK.kp {A F : Nat → Prop} {w w' : World} {K : KepS} {t p q : Tri} (h : RK A w K t p q) (k : Kp F w w') (hA : ∀ j, A j → ¬ F j) : RK A w' K t p q := ⟨h.rc.kp k hA, h.an.kp k hA, h.ok⟩
theorem RK.mono {A A' : Nat → Prop} {w : World} {K : KepS} {t p q : Tri} (h : RK A w K t p q) (hA : ∀ j, j < w.heap.size → A j → A' j) : RK A' w K t p q := ⟨h.rc.mono hA, h.an.mono hA, h.ok⟩

/-- What the reference's Save hands back. -/
def SavQ (A : Nat → Prop) (w : World) (x : KepS × Int) (e : Ending) (w' : World) : Prop := ∃ t p q, e = .returned (.tuple #[.agg (rkC x.1 t p q).toArray, .int .i64 x.2]) ∧ RK A w' x.1 t p q ∧ Below w.heap.size w w'
set_option maxRecDepth 100000 in
set_option maxHeartbeats 8000000 in
theorem rSave14 (w : World) {A : Nat → Prop} {K : KepS} {t p q : Tri} (h : RK A w K t p q) (hA : ∀ j, w.heap.size ≤ j → A j) {mm : Nat} (hf : K.c.fit mm) (hmm : mm ≤ 5000) {a : AncS} {p' q' : Tri} (ha : Anc A w a p' q') : Calls Try.prog 25 #[.agg (rkC K t p q).toArray, .agg (anc a p' q').toArray] w (SavQ A w (K.save a)) := by
  have hsq := h.ok.seq
  have HX0 : Hid (Anc A w (nextA K a) p' q') := ha.nums rfl rfl (nextA_nums h.ok ha.ns)
  obtain ⟨x, hx⟩ : ∃ x, x = nextA K a := ⟨_, rfl⟩
  have HS : Hid (K.save a = if chkA x ≠ 0 then (K, chkA x) else if (K.c.write (x.seq % 2) (ancL x)).2 ≠ 0 then (⟨(K.c.write (x.seq % 2) (ancL x)).1, K.last⟩, (K.c.write (x.seq % 2) (ancL x)).2) else (⟨(K.c.write (x.seq % 2) (ancL x)).1, x⟩, 0)) := by rw [hx]; rfl
  have HC : Hid ((anc a p' q').set 0 (.int .i64 (K.last.seq + 1)) = anc x p' q') := by rw [hx]; rfl
  have HXS : Hid (0 < x.seq) := by show 0 < x.seq; rw [hx]; show 0 < K.last.seq + 1; omega
  have hxs : x.seq = K.last.seq + 1 := by rw [hx]; rfl
  rw [← hx] at HX0
  obtain ⟨t2, ht2⟩ : ∃ t2, t2 = x.seq % 2 := ⟨_, rfl⟩
  have htm : x.seq.tmod 2 = t2 := by rw [ht2, Int.tmod_eq_emod_of_nonneg (by omega)]
  have hti : i64 t2 := ⟨by omega, by omega⟩
  rw [← ht2] at HS
  have HRK : Hid (RK A w K t p q) := h
  have HAA : Hid (∀ j, w.heap.size ≤ j → A j) := hA
  have HF : Hid (K.c.fit mm) := hf
  have b1 : K.last.seq + 1 ≤ 9223372036854775807 := by omega
  have b2 : -9223372036854775808 ≤ K.last.seq + 1 := by omega
  generalize K.save a = out at *
  clear h ha hA hf hx ht2 hxs
  obtain ⟨W0, hW0⟩ : ∃ W0, W0 = ((w.alloc (.cells (rkC K t p q).toArray 53)).alloc (.cells (anc a p' q').toArray 25)).alloc (.cells #[.int .i64 0, .int .i64 0, .bool false, .bool false, .slice none 0 0, .int .i64 0, .int .i64 0, .int .i64 0, .int .i64 0, .int .i64 0, .int .i64 0, .int .i64 0, .slice none 0 0, .slice none 0 0, .bool false] 53) := ⟨_, rfl⟩
  obtain ⟨e2, he2⟩ : ∃ e, e = w.heap.size := ⟨_, rfl⟩
  obtain ⟨e3, he3⟩ : ∃ e, e = w.heap.size + 1 := ⟨_, rfl⟩
  obtain ⟨e4, he4⟩ : ∃ e, e = w.heap.size + 1 + 1 := ⟨_, rfl⟩
  have z2 : Blk W0 e2 (rkC K t p q) 53 := by rw [hW0]; exact ((Blk.newAt w _ _ e2 he2.symm _ rfl).old _).old _
  have z3 : Blk W0 e3 (anc a p' q') 25 := by rw [hW0]; exact (Blk.newAt (w.alloc _) _ _ e3 (by rw [he3]; simp) _ rfl).old _
  have z4 : Blk W0 e4 zrk 53 := by rw [hW0]; exact Blk.newAt ((w.alloc _).alloc _) _ _ e4 (by rw [he4]; simp) _ rfl
  have k0 : Below w.heap.size w W0 := by rw [hW0]; exact below3 _ _ _ _
  have HL : Hid (w.heap.size ≤ e2 ∧ e2 < e3 ∧ e3 < e4 ∧ e4 < W0.heap.size) := by refine ⟨by omega, by omega, by omega, z4.lt⟩
  go_enter Try.func25, Try.ntmps25
  go_upto_region 1 with fail
  rw [← hW0, ← he4, ← he3, ← he2]
  clear hW0 he2 he3 he4
  obtain ⟨e6, he6⟩ : ∃ g, g = W0.heap.size := ⟨_, rfl⟩
  have z6 : Blk (W0.alloc (.cells #[.int .i64 0, .int .i64 0, .int .i64 0, .int .i64 0, .int .i64 0, .int .i64 0, .slice none 0 0, .slice none 0 0] 25)) e6 zanc 25 := Blk.newAt W0 _ _ e6 he6.symm _ rfl
  have k6 : Below W0.heap.size W0 (W0.alloc (.cells #[.int .i64 0, .int .i64 0, .int .i64 0, .int .i64 0, .int .i64 0, .int .i64 0, .slice none 0 0, .slice none 0 0] 25)) := below_alloc _ _
  have ne62 : ¬ e6 = e2 := by have := HL.out; omega
  have ne26 : ¬ e2 = e6 := by have := HL.out; omega
  go_upto_region 2 with (first
    | ((with_reducible refine at_ld 25 ?_); (refine ld 25 (.tmp 3) 8 sizeAn _ Try.underlying25 rfl e3 0 (anc a p' q') rfl (z3.whole) rfl ?_))
    | ((with_reducible refine at_st 25 ?_); (refine st' 25 (.tmp 6) (.tmp 12) 8 sizeAn W0.heap.size 0 (anc a p' q') rfl (anc_one _ _ _) (by rw [← he6]; exact z6.there 0 8 (by simp [zanc])) rfl rfl ?_); intro x1 hx1; have c6 : Blk x1 e6 (anc a p' q') 25 := (by rw [hx1, ← he6]; exact z6.setsW _ rfl); have kb1 : Below W0.heap.size W0 x1 := (by rw [hx1]; exact below_sets (Nat.le_refl _) _ k6 0); clear hx1))
  rw [← he6]
  have c2 := z2.below kb1 z2.lt
  have d2 : x1.cell? ⟨e2, 6, none⟩ = some (.int .i64 K.last.seq) := c2.cell 6
  have l2 := c2.lt
  have e0 : x1.cell? ⟨e6, 0, none⟩ = some (.int .i64 a.seq) := c6.cell 0
  have f0 := c6.free 0
  have l6 := c6.lt
  have y6 : Blk (x1.setCell ⟨e6, 0, none⟩ (.int .i64 (K.last.seq + 1))) e6 (anc x p' q') 25 := by rw [← HC.out]; exact c6.setC 0 _
  have n6 : e2 ≠ e6 ∧ e4 ≠ e6 := by have := HL.out; omega
  have y2 : Blk (x1.setCell ⟨e6, 0, none⟩ (.int .i64 (K.last.seq + 1))) e2 (rkC K t p q) 53 := c2.setO n6.1 _
  have y4 : Blk (x1.setCell ⟨e6, 0, none⟩ (.int .i64 (K.last.seq + 1))) e4 zrk 53 := (z4.below kb1 z4.lt).setO n6.2 _
  have ky : Below w.heap.size w (x1.setCell ⟨e6, 0, none⟩ (.int .i64 (K.last.seq + 1))) := (k0.trans (kb1.mono k0.size)).setCell (by show w.heap.size ≤ e6; rw [he6]; exact k0.size) _
  have HE6 : Hid (w.heap.size ≤ e6 ∧ e4 < e6) := by have := HL.out; exact ⟨by rw [he6]; exact k0.size, by omega⟩
  clear he6 z2 z3 z4 k0 z6 k6 c6 kb1 c2 n6 ne62 ne26
  go_wp2_with ((with_reducible refine at_ld 25 ?_); (refine ld 25 (.tmp 6) 8 sizeAn _ Try.underlying25 rfl e6 0 (anc x p' q') rfl (y6.whole) rfl ?_))
  generalize x1.setCell ⟨e6, 0, none⟩ (.int .i64 (K.last.seq + 1)) = x2 at *
  clear d2 e0 f0 l6 l2
  have CP : Hid (Calls Try.prog 10 #[.agg (anc x p' q').toArray] x2 fun e w' => ∃ s m c, e = .returned (.tuple #[.slice s m c, .int .i64 (chkA x)]) ∧ Own w' x2.heap.size (.slice s m c) (if chkA x = 0 then ancL x else []) ∧ Below x2.heap.size x2 w') := rPutA x2 (HX0.out.below ky)
  refine CP.out.mono ?_
  rintro e x3 ⟨s, m, z, rfl, o3, hb3⟩
  have y23 := y2.below hb3 y2.lt
  have y43 := y4.below hb3 y4.lt
  have y63 := y6.below hb3 y6.lt
  have k3 : Below w.heap.size w x3 := ky.trans (hb3.mono ky.size)
  have HL3 : Hid (e4 < x3.heap.size ∧ e6 < x3.heap.size) := ⟨y43.lt, y63.lt⟩
  clear CP y2 y4 y6 ky hb3
  by_cases hc : chkA x = 0
  · rw [if_pos hc] at o3
    rw [hc] at HS ⊢
    have HOK : Hid (okA x) := Or.inl hc
    have HS2 : Hid (out = if (K.c.write t2 (ancL x)).2 ≠ 0 then (⟨(K.c.write t2 (ancL x)).1, K.last⟩, (K.c.write t2 (ancL x)).2) else (⟨(K.c.write t2 (ancL x)).1, x⟩, 0)) := by show _ = _; rw [HS.out, if_neg (by simp)]
    have CW : Hid (Calls Try.prog 58 #[.agg (cc K.c t).toArray, .int .i64 t2, .slice s m z] x3 fun e w' => ∃ q', e = .returned (.tuple #[.agg (cc (K.c.write t2 (ancL x)).1 q').toArray, .int .i64 (K.c.write t2 (ancL x)).2]) ∧ RC (fun j => A j ∧ j < w.heap.size ∨ x3.heap.size ≤ j) w' (K.c.write t2 (ancL x)).1 q' ∧ Below x3.heap.size x3 w') := rCWrite x3 (A := fun j => A j ∧ j < w.heap.size ∨ x3.heap.size ≤ j) ((HRK.out.rc.mono fun j hj ha => Or.inl ⟨ha, hj⟩).below k3) (fun j hj => Or.inr hj) HF.out (by omega) t2 hti o3.toBs
    have d60 : x3.cell? ⟨e6, 0, none⟩ = some (.int .i64 x.seq) := y63.cell 0
    have l63 := y63.lt
    have rg2 : x3.rangeAt e2 0 (cc K.c t) := y23.range 0 _ rk_cc
    generalize K.c.write t2 (ancL x) = cw at *
    obtain ⟨C4, cd⟩ := cw
    try dsimp only at HS2 CW
    clear HS hc o3
    go_wp2_with ((with_reducible refine at_ld 51 ?_); (refine ld 51 (.tmp 28) 6 size35 _ Try.underlying51 rfl e2 0 (cc K.c t) rfl (rg2) rfl ?_))
    refine CW.out.mono ?_
    rintro e x4 ⟨t4, rfl, rc4, hb4⟩
    have y24 := y23.below hb4 y23.lt
    have y44 := y43.below hb4 y43.lt
    have y64 := y63.below hb4 y63.lt
    have k4 : Below w.heap.size w x4 := k3.trans (hb4.mono k3.size)
    have HLx : Hid (x3.heap.size ≤ x4.heap.size) := hb4.size
    clear CW y23 y43 y63 rg2 d60 l63 hb4
    obtain ⟨e9, he9⟩ : ∃ g, g = x4.heap.size := ⟨_, rfl⟩
    have z9 : Blk (x4.alloc (.cells #[.int .i64 0, .int .i64 0, .bool false, .bool false, .slice none 0 0, .int .i64 0] 51)) e9 [.int .i64 0, .int .i64 0, .bool false, .bool false, .slice none 0 0, .int .i64 0] 51 := Blk.newAt x4 _ _ e9 he9.symm _ rfl
    have k9 : Below x4.heap.size x4 (x4.alloc (.cells #[.int .i64 0, .int .i64 0, .bool false, .bool false, .slice none 0 0, .int .i64 0] 51)) := below_alloc _ _
    go_upto_region 7 with ((with_reducible refine at_st 51 ?_); (refine st' 51 (.tmp 9) (.tmp 35) 6 size35 x4.heap.size 0 (cc C4 t4) rfl (cc_one _ _) (by rw [← he9]; exact z9.there 0 6 (by simp)) rfl rfl ?_); intro x5 hx5; have c9 : Blk x5 e9 (cc C4 t4) 51 := (by rw [hx5, ← he9]; exact z9.setsW _ rfl); have kb5 : Below x4.heap.size x4 x5 := (by rw [hx5]; exact below_sets (Nat.le_refl _) _ k9 0); clear hx5)
    rw [← he9]
    have y25 := y24.below kb5 y24.lt
    have y45 := y44.below kb5 y44.lt
    have y65 := y64.below kb5 y64.lt
    have HLy : Hid (x4.heap.size ≤ e9 ∧ e9 < x5.heap.size) := ⟨by show _ ≤ _; omega, c9.lt⟩
    clear y24 y44 y64 z9 k9 he9
    obtain ⟨e11, he11⟩ : ∃ g, g = x5.heap.size := ⟨_, rfl⟩
    have z11 : Blk (x5.alloc (.cells #[.int .i64 0, .int .i64 0, .bool false, .bool false, .slice none 0 0, .int .i64 0, .int .i64 0, .int .i64 0, .int .i64 0, .int .i64 0, .int .i64 0, .int .i64 0, .slice none 0 0, .slice none 0 0, .bool false] 53)) e11 zrk 53 := Blk.newAt x5 _ _ e11 he11.symm _ rfl
    have k11 : Below x5.heap.size x5 (x5.alloc (.cells #[.int .i64 0, .int .i64 0, .bool false, .bool false, .slice none 0 0, .int .i64 0, .int .i64 0, .int .i64 0, .int .i64 0, .int .i64 0, .int .i64 0, .int .i64 0, .slice none 0 0, .slice none 0 0, .bool false] 53)) := below_alloc _ _
    go_upto_region 8 with (first
      | ((with_reducible refine at_ld 53 ?_); (refine ld 53 (.tmp 2) 15 sizeRK _ Try.underlying53 rfl e2 0 (rkC K t p q) rfl (y25.whole) rfl ?_))
      | ((with_reducible refine at_st 53 ?_); (refine st' 53 (.tmp 11) (.tmp 37) 15 sizeRK x5.heap.size 0 (rkC K t p q) rfl (rkC_one _ _ _ _) (by rw [← he11]; exact z11.there 0 15 (by simp [zrk])) rfl rfl ?_); intro x6 hx6; have c11 : Blk x6 e11 (rkC K t p q) 53 := (by rw [hx6, ← he11]; exact z11.setsW _ rfl); have kb6 : Below x5.heap.size x5 x6 := (by rw [hx6]; exact below_sets (Nat.le_refl _) _ k11 0); clear hx6))
    rw [← he11]
    have y46 := y45.below kb6 y45.lt
    have y66 := y65.below kb6 y65.lt
    have c96 := c9.below kb6 c9.lt
    have kx6 : Below x4.heap.size x4 x6 := kb5.trans (kb6.mono kb5.size)
    have HLz : Hid (x5.heap.size ≤ e11) := by show _ ≤ _; omega
    clear y25 y45 y65 z11 k11 kb6 he11 c9
    go_upto_region 9 with (first | ((with_reducible refine at_ld 51 ?_); (refine ld 51 (.tmp 9) 6 size35 _ Try.underlying51 rfl e9 0 (cc C4 t4) rfl (c96.whole) rfl ?_)) | ((with_reducible refine at_st 51 ?_); (refine st' 51 (.tmp 39) (.tmp 38) 6 size35 e11 0 (cc C4 t4) rfl (cc_one _ _) (c11.there 0 6 (by rw [rkC_len]; omega)) rfl rfl ?_); intro x7 hx7; have c7 : Blk x7 e11 (rkC ⟨C4, K.last⟩ t4 p q) 53 := (by have hh := c11.sets (cc C4 t4) 0 (by rw [rkC_len]; show 0 + 6 ≤ 15; omega); rw [← hx7] at hh; exact hh); have kp7 : Kp (fun j => j = e11) x6 x7 := (by rw [hx7]; exact Kp.of_grown (but_cells' _ _ _ _)); clear hx7))
    have n11 : ¬ e4 = e11 ∧ ¬ e6 = e11 ∧ x4.heap.size ≤ e11 := by have := HLz.out; have := HLy.out; have := HL3.out; have := HLx.out; omega
    have y47 := kp7.blk y46 n11.1
    have y67 := kp7.blk y66 n11.2.1
    have kx7 : Below x4.heap.size x4 x7 := below_kp kx6 kp7 kx6.size (fun j hj e => by have := n11.2.2; omega)
    clear y46 y66 c96 c11 kp7 kx6 kb5
    by_cases hw : cd = 0
    · subst hw
      have HO : Hid (out = (⟨C4, x⟩, 0)) := by show _ = _; rw [HS2.out, if_neg (by simp)]
      have HHS : Hid (KepS.has ⟨C4, x⟩ = true) := decide_eq_true HXS.out
      clear HS2
      go_upto_region 11 with (first | ((with_reducible refine at_ld 25 ?_); (refine ld 25 (.tmp 6) 8 sizeAn _ Try.underlying25 rfl e6 0 (anc x p' q') rfl (y67.whole) rfl ?_)) | ((with_reducible refine at_st 25 ?_); (refine st' 25 (.tmp 43) (.tmp 42) 8 sizeAn e11 6 (anc x p' q') rfl (anc_one _ _ _) (c7.there 6 8 (by rw [rkC_len]; omega)) rfl rfl ?_); intro x8a hx8a; have c8a : Blk x8a e11 (cc C4 t4 ++ (anc x p' q' ++ [.bool (KepS.has ⟨C4, K.last⟩)])) 53 := (by have hh := c7.sets (anc x p' q') 6 (by rw [rkC_len]; show 6 + 8 ≤ 15; omega); rw [← hx8a] at hh; exact hh); have kp8 : Kp (fun j => j = e11) x7 x8a := (by rw [hx8a]; exact Kp.of_grown (but_cells' _ _ _ _)); clear hx8a))
      have d14 : x8a.cell? ⟨e11, 14, none⟩ = some (.bool (KepS.has ⟨C4, K.last⟩)) := c8a.cell 14
      have f14 := c8a.free 14
      have l14 := c8a.lt
      have c8 : Blk (x8a.setCell ⟨e11, 14, none⟩ (.bool true)) e11 (rkC ⟨C4, x⟩ t4 p' q') 53 := by
        have hh := c8a.setC 14 (.bool true)
        rw [show rkC ⟨C4, x⟩ t4 p' q' = cc C4 t4 ++ (anc x p' q' ++ [.bool (KepS.has ⟨C4, x⟩)]) from rfl, HHS.out]
        exact hh
      have kpb : Kp (fun j => j = e11) x7 (x8a.setCell ⟨e11, 14, none⟩ (.bool true)) := kp8.trans (Kp.setC (F := fun j => j = e11) rfl _ _)
      have y48 := kpb.blk y47 n11.1
      have kx8 : Below x4.heap.size x4 (x8a.setCell ⟨e11, 14, none⟩ (.bool true)) := below_kp kx7 kpb kx7.size (fun j hj e => by have := n11.2.2; omega)
      go_upto_region 12 with fail
      generalize x8a.setCell ⟨e11, 14, none⟩ (.bool true) = x8 at *
      clear d14 f14 l14 c8a kp8 kpb kx7 y47 y67 c7
      go_wp2_with (first | ((with_reducible refine at_ld 53 ?_); (refine ld 53 (.tmp 11) 15 sizeRK _ Try.underlying53 rfl e11 0 (rkC ⟨C4, x⟩ t4 p' q') rfl (c8.whole) rfl ?_)) | ((with_reducible refine at_st 53 ?_); (refine st' 53 (.tmp 4) (.tmp 45) 15 sizeRK e4 0 (rkC ⟨C4, x⟩ t4 p' q') rfl (rkC_one _ _ _ _) (y48.there 0 15 (by simp [zrk])) rfl rfl ?_); intro x9 hx9; have b9 : Blk x9 e4 (rkC ⟨C4, x⟩ t4 p' q') 53 := (by rw [hx9]; exact y48.setsW _ rfl); have kp9 : Kp (fun j => j = e4) x8 x9 := (by rw [hx9]; exact Kp.of_grown (but_cells' _ _ _ _)); clear hx9))
      have k8 : Below w.heap.size w x8 := k4.trans (kx8.mono k4.size)
      have k9 : Below w.heap.size w x9 := below_kp k8 kp9 k8.size (fun j hj e => by have := HL.out; omega)
      have rc9 : RC A x9 C4 t4 := ((rc4.below kx8).kp kp9 (fun j hj e => by have := HL3.out; have := HL.out; rcases hj with hj | hj <;> omega)).mono (fun j _ hj => hj.elim (fun h => h.1) (fun h => HAA.out j (by have := k3.size; omega)))
      refine bodyPost_ret (v := .tuple #[.agg (rkC ⟨C4, x⟩ t4 p' q').toArray, .int .i64 0]) (resCT Try.results25 _ _ e4 _ rfl (run_loadVar_row x9 e4 53 53 _ (0, 0) _ b9 Try.underlying53 rfl sizeRK) _ rfl) rfl ?_
      rw [HO.out]
      exact ⟨t4, p', q', rfl, ⟨rc9, HX0.out.below k9, HOK.out⟩, k9⟩
    · have bw : (cd == 0) = false := by simp [hw]
      have HO : Hid (out = (⟨C4, K.last⟩, cd)) := by show _ = _; rw [HS2.out, if_pos hw]
      clear HS2 hw
      have c8 := c7
      have y48 := y47
      have kx8 := kx7
      clear c7 y47 kx7 y67
      go_wp2_with (first | ((with_reducible refine at_ld 53 ?_); (refine ld 53 (.tmp 11) 15 sizeRK _ Try.underlying53 rfl e11 0 (rkC ⟨C4, K.last⟩ t4 p q) rfl (c8.whole) rfl ?_)) | ((with_reducible refine at_st 53 ?_); (refine st' 53 (.tmp 4) (.tmp 45) 15 sizeRK e4 0 (rkC ⟨C4, K.last⟩ t4 p q) rfl (rkC_one _ _ _ _) (y48.there 0 15 (by simp [zrk])) rfl rfl ?_); intro x9 hx9; have b9 : Blk x9 e4 (rkC ⟨C4, K.last⟩ t4 p q) 53 := (by rw [hx9]; exact y48.setsW _ rfl); have kp9 : Kp (fun j => j = e4) x7 x9 := (by rw [hx9]; exact Kp.of_grown (but_cells' _ _ _ _)); clear hx9))
      have k8 : Below w.heap.size w x7 := k4.trans (kx8.mono k4.size)
      have k9 : Below w.heap.size w x9 := below_kp k8 kp9 k8.size (fun j hj e => by have := HL.out; omega)
      have rc9 : RC A x9 C4 t4 := ((rc4.below kx8).kp kp9 (fun j hj e => by have := HL3.out; have := HL.out; rcases hj with hj | hj <;> omega)).mono (fun j _ hj => hj.elim (fun h => h.1) (fun h => HAA.out j (by have := k3.size; omega)))
      refine bodyPost_ret (v := .tuple #[.agg (rkC ⟨C4, K.last⟩ t4 p q).toArray, .int .i64 cd]) (resCT Try.results25 _ _ e4 _ rfl (run_loadVar_row x9 e4 53 53 _ (0, 0) _ b9 Try.underlying53 rfl sizeRK) _ rfl) rfl ?_
      rw [HO.out]
      exact ⟨t4, p, q, rfl, ⟨rc9, HRK.out.an.below k9, HRK.out.ok⟩, k9⟩
  · have bc : (chkA x == 0) = false := by simp [hc]
    have HO : Hid (out = (K, chkA x)) := by show _ = _; rw [HS.out, if_pos hc]
    generalize chkA x = cd at *
    clear HS hc o3 y63
    go_wp2_with (first | ((with_reducible refine at_ld 53 ?_); (refine ld 53 (.tmp 2) 15 sizeRK _ Try.underlying53 rfl e2 0 (rkC K t p q) rfl (y23.whole) rfl ?_)) | ((with_reducible refine at_st 53 ?_); (refine st' 53 (.tmp 4) (.tmp 25) 15 sizeRK e4 0 (rkC K t p q) rfl (rkC_one _ _ _ _) (y43.there 0 15 (by simp [zrk])) rfl rfl ?_); intro x9 hx9; have b9 : Blk x9 e4 (rkC K t p q) 53 := (by rw [hx9]; exact y43.setsW _ rfl); have kp9 : Kp (fun j => j = e4) x3 x9 := (by rw [hx9]; exact Kp.of_grown (but_cells' _ _ _ _)); clear hx9))
    have k9 : Below w.heap.size w x9 := below_kp k3 kp9 k3.size (fun j hj e => by have := HL.out; omega)
    refine bodyPost_ret (v := .tuple #[.agg (rkC K t p q).toArray, .int .i64 cd]) (resCT Try.results25 _ _ e4 _ rfl (run_loadVar_row x9 e4 53 53 _ (0, 0) _ b9 Try.underlying53 rfl sizeRK) _ rfl) rfl ?_
    rw [HO.out]
    exact ⟨t, p, q, rfl, HRK.out.below k9, k9⟩

end Go.Proofs.Ytbifikeecmaakaa

/-
  The contracts of layer 14's reference's Commit, Clean and Give. Conditions: fewer than 5000 writes.
-/
namespace Go.Proofs.Ytbifikeecmaakaa
open Go.RowKit

theorem resKTT {fn : Func} {p t u : Tmp} {ty : TypeId} (h : fn.results = #[.cell p ty, .tmp t, .tmp u]) (tmps : Array Value) (w : World) (g : Nat) (cs : Array Value) (hp : tmps.getD p undef = .pointer (some ⟨g, 0, none⟩)) (hl : (loadVar ty ⟨g, 0, none⟩).run Try.prog w = .ok (.agg cs) w) (x y : Value) (hx : tmps.getD t undef = x) (hy : tmps.getD u undef = y) : (results fn tmps).run Try.prog w = .ok (.tuple #[.agg cs, x, y]) w := by
  have hp' : tmps[p]?.getD undef = .pointer (some ⟨g, 0, none⟩) := by simpa using hp
  have hx' : tmps[t]?.getD undef = x := by simpa using hx
  have hy' : tmps[u]?.getD undef = y := by simpa using hy
  simp [results, h, hp', hx', hy', asAddr, hl]
/-- The reference's keeper in memory that a call may write beside. -/
theorem RK.inner {A : Nat → Prop} {w x : World} {K : KepS} {t p q : Tri} (h : RK A w K t p q) (hb : Below w.heap.size w x) : RK (fun j => A j ∧ j < w.heap.size ∨ x.heap.size ≤ j) x K t p q := (h.mono fun _ hj ha => Or.inl ⟨ha, hj⟩).below hb
theorem RK.outer {A : Nat → Prop} {w x y z : World} {K : KepS} {t p q : Tri} {e : Nat} (h : RK (fun j => A j ∧ j < w.heap.size ∨ x.heap.size ≤ j) y K t p q) (k : Kp (fun j => j = e) y z) (he : w.heap.size ≤ e ∧ e < x.heap.size) (hA : ∀ j, w.heap.size ≤ j → A j) (_hx : w.heap.size ≤ x.heap.size) : RK A z K t p q :=
  (h.kp k (fun j hj e => by rcases hj with hj | hj <;> omega)).mono (fun j _ hj => hj.elim (fun h => h.1) (fun h => hA j (by omega)))
set_option maxRecDepth 100000 in
set_option maxHeartbeats 8000000 in
theorem rCommit14 (w : World) {A : Nat → Prop} {K : KepS} {t p q : Tri} (h : RK A w K t p q) (hA : ∀ j, w.heap.size ≤ j → A j) {mm : Nat} (hf : K.c.fit mm) (hmm : mm ≤ 5000) (ep ro pe : Int) (he : i64 ep) (hr : i64 ro) (hp : i64 pe) : Calls Try.prog 29 #[.agg (rkC K t p q).toArray, .int .i64 ep, .int .i64 ro, .int .i64 pe] w (SavQ A w (K.commit ep ro pe)) := by
  have HRK : Hid (RK A w K t p q) := h
  have HAA : Hid (∀ j, w.heap.size ≤ j → A j) := hA
  have HF : Hid (K.c.fit mm) := hf
  have HAN : Hid (Anc A w (K.committed ep ro pe) p q) := h.an.nums rfl rfl ⟨h.an.ns.1, he, h.an.ns.2.2.1, hr, he, hp⟩
  have HC : Hid (((((anc K.last p q).set 1 (.int .i64 ep)).set 3 (.int .i64 ro)).set 4 (.int .i64 ep)).set 5 (.int .i64 pe) = anc (K.committed ep ro pe) p q) := rfl
  have HM : Hid (K.commit ep ro pe = if K.has = false ∨ ep ≤ K.last.epoch ∨ K.last.given < ep then (K, 15) else K.save (K.committed ep ro pe)) := rfl
  generalize K.commit ep ro pe = out at *
  clear h hA hf he hr hp
  obtain ⟨W0, hW0⟩ : ∃ W0, W0 = (w.alloc (.cells (rkC K t p q).toArray 53)).alloc (.cells #[.int .i64 0, .int .i64 0, .bool false, .bool false, .slice none 0 0, .int .i64 0, .int .i64 0, .int .i64 0, .int .i64 0, .int .i64 0, .int .i64 0, .int .i64 0, .slice none 0 0, .slice none 0 0, .bool false] 53) := ⟨_, rfl⟩
  obtain ⟨e1, he1⟩ : ∃ e, e = w.heap.size := ⟨_, rfl⟩
  obtain ⟨e2, he2⟩ : ∃ e, e = w.heap.size + 1 := ⟨_, rfl⟩
  have z1 : Blk W0 e1 (rkC K t p q) 53 := by rw [hW0]; exact (Blk.newAt w _ _ e1 he1.symm _ rfl).old _
  have z2 : Blk W0 e2 zrk 53 := by rw [hW0]; exact Blk.newAt (w.alloc _) _ _ e2 (by rw [he2]; simp) _ rfl
  have k0 : Below w.heap.size w W0 := by rw [hW0]; exact below2 _ _ _
  have HL : Hid (w.heap.size ≤ e1 ∧ e1 < e2 ∧ e2 < W0.heap.size) := ⟨by omega, by omega, z2.lt⟩
  go_enter Try.func29, Try.ntmps29
  go_upto_region 1 with fail
  rw [← hW0, ← he2, ← he1]
  clear hW0 he1 he2
  have d14 : W0.cell? ⟨e1, 14, none⟩ = some (.bool K.has) := z1.cell 14
  have l1 := z1.lt
  have d7 : W0.cell? ⟨e1, 7, none⟩ = some (.int .i64 K.last.epoch) := z1.cell 7
  have d8 : W0.cell? ⟨e1, 8, none⟩ = some (.int .i64 K.last.given) := z1.cell 8
  have rg6 : W0.rangeAt e1 6 (anc K.last p q) := z1.range 6 _ rk_an
  cases hh : K.has with
  | false =>
    rw [hh] at d14
    have HO : Hid (out = (K, 15)) := by show _ = _; rw [HM.out, if_pos (Or.inl hh)]
    clear HM HC HAN rg6
    go_wp2_with (first | ((with_reducible refine at_ld 53 ?_); (refine ld 53 (.tmp 4) 15 sizeRK _ Try.underlying53 rfl e1 0 (rkC K t p q) rfl (z1.whole) rfl ?_)) | ((with_reducible refine at_st 53 ?_); (refine st' 53 (.tmp 8) (.tmp 28) 15 sizeRK e2 0 (rkC K t p q) rfl (rkC_one _ _ _ _) (z2.there 0 15 (by simp [zrk])) rfl rfl ?_); intro x9 hx9; have b9 : Blk x9 e2 (rkC K t p q) 53 := (by rw [hx9]; exact z2.setsW _ rfl); have kp9 : Kp (fun j => j = e2) W0 x9 := (by rw [hx9]; exact Kp.of_grown (but_cells' _ _ _ _)); clear hx9))
    have k9 : Below w.heap.size w x9 := below_kp k0 kp9 k0.size (fun j hj e => by have := HL.out; omega)
    refine bodyPost_ret (v := .tuple #[.agg (rkC K t p q).toArray, .int .i64 15]) (resCT Try.results29 _ _ e2 _ rfl (run_loadVar_row x9 e2 53 53 _ (0, 0) _ b9 Try.underlying53 rfl sizeRK) _ rfl) rfl ?_
    rw [HO.out]
    exact ⟨t, p, q, rfl, HRK.out.below k9, k9⟩
  | true =>
    rw [hh] at d14
    by_cases h1 : ep ≤ K.last.epoch
    · have HO : Hid (out = (K, 15)) := by show _ = _; rw [HM.out, if_pos (Or.inr (Or.inl h1))]
      clear HM HC HAN rg6
      go_wp2_with (first | ((with_reducible refine at_ld 53 ?_); (refine ld 53 (.tmp 4) 15 sizeRK _ Try.underlying53 rfl e1 0 (rkC K t p q) rfl (z1.whole) rfl ?_)) | ((with_reducible refine at_st 53 ?_); (refine st' 53 (.tmp 8) (.tmp 28) 15 sizeRK e2 0 (rkC K t p q) rfl (rkC_one _ _ _ _) (z2.there 0 15 (by simp [zrk])) rfl rfl ?_); intro x9 hx9; have b9 : Blk x9 e2 (rkC K t p q) 53 := (by rw [hx9]; exact z2.setsW _ rfl); have kp9 : Kp (fun j => j = e2) W0 x9 := (by rw [hx9]; exact Kp.of_grown (but_cells' _ _ _ _)); clear hx9))
      have k9 : Below w.heap.size w x9 := below_kp k0 kp9 k0.size (fun j hj e => by have := HL.out; omega)
      refine bodyPost_ret (v := .tuple #[.agg (rkC K t p q).toArray, .int .i64 15]) (resCT Try.results29 _ _ e2 _ rfl (run_loadVar_row x9 e2 53 53 _ (0, 0) _ b9 Try.underlying53 rfl sizeRK) _ rfl) rfl ?_
      rw [HO.out]
      exact ⟨t, p, q, rfl, HRK.out.below k9, k9⟩
    · by_cases h2 : K.last.given < ep
      · have HO : Hid (out = (K, 15)) := by show _ = _; rw [HM.out, if_pos (Or.inr (Or.inr h2))]
        clear HM HC HAN rg6
        go_wp2_with (first | ((with_reducible refine at_ld 53 ?_); (refine ld 53 (.tmp 4) 15 sizeRK _ Try.underlying53 rfl e1 0 (rkC K t p q) rfl (z1.whole) rfl ?_)) | ((with_reducible refine at_st 53 ?_); (refine st' 53 (.tmp 8) (.tmp 28) 15 sizeRK e2 0 (rkC K t p q) rfl (rkC_one _ _ _ _) (z2.there 0 15 (by simp [zrk])) rfl rfl ?_); intro x9 hx9; have b9 : Blk x9 e2 (rkC K t p q) 53 := (by rw [hx9]; exact z2.setsW _ rfl); have kp9 : Kp (fun j => j = e2) W0 x9 := (by rw [hx9]; exact Kp.of_grown (but_cells' _ _ _ _)); clear hx9))
        have k9 : Below w.heap.size w x9 := below_kp k0 kp9 k0.size (fun j hj e => by have := HL.out; omega)
        refine bodyPost_ret (v := .tuple #[.agg (rkC K t p q).toArray, .int .i64 15]) (resCT Try.results29 _ _ e2 _ rfl (run_loadVar_row x9 e2 53 53 _ (0, 0) _ b9 Try.underlying53 rfl sizeRK) _ rfl) rfl ?_
        rw [HO.out]
        exact ⟨t, p, q, rfl, HRK.out.below k9, k9⟩
      · have HO : Hid (out = K.save (K.committed ep ro pe)) := by show _ = _; rw [HM.out, if_neg (by rw [hh]; simp; omega)]
        clear HM
        obtain ⟨g, hg⟩ : ∃ g, g = W0.heap.size := ⟨_, rfl⟩
        have zg : Blk (W0.alloc (.cells #[.int .i64 0, .int .i64 0, .int .i64 0, .int .i64 0, .int .i64 0, .int .i64 0, .slice none 0 0, .slice none 0 0] 25)) g zanc 25 := Blk.newAt W0 _ _ g hg.symm _ rfl
        have kg : Below W0.heap.size W0 (W0.alloc (.cells #[.int .i64 0, .int .i64 0, .int .i64 0, .int .i64 0, .int .i64 0, .int .i64 0, .slice none 0 0, .slice none 0 0] 25)) := below_alloc _ _
        go_upto_region 4 with (first | ((with_reducible refine at_ld 25 ?_); (refine ld 25 (.tmp 29) 8 sizeAn _ Try.underlying25 rfl e1 6 (anc K.last p q) rfl (rg6) rfl ?_)) | ((with_reducible refine at_st 25 ?_); (refine st' 25 (.tmp 10) (.tmp 30) 8 sizeAn W0.heap.size 0 (anc K.last p q) rfl (anc_one _ _ _) (by rw [← hg]; exact zg.there 0 8 (by simp [zanc])) rfl rfl ?_); intro x1 hx1; have c1 : Blk x1 g (anc K.last p q) 25 := (by rw [hx1, ← hg]; exact zg.setsW _ rfl); have kb1 : Below W0.heap.size W0 x1 := (by rw [hx1]; exact below_sets (Nat.le_refl _) _ kg 0); clear hx1))
        rw [← hg]
        have q1 : x1.cell? ⟨g, 1, none⟩ = some (.int .i64 K.last.epoch) := c1.cell 1
        have f1 := c1.free 1
        have q3 : x1.cell? ⟨g, 3, none⟩ = some (.int .i64 K.last.root) := c1.cell 3
        have f3 := c1.free 3
        have q4 : x1.cell? ⟨g, 4, none⟩ = some (.int .i64 K.last.rootEpoch) := c1.cell 4
        have f4 := c1.free 4
        have q5 : x1.cell? ⟨g, 5, none⟩ = some (.int .i64 K.last.pending) := c1.cell 5
        have f5 := c1.free 5
        have lg := c1.lt
        have c5 := (((c1.setC 1 (.int .i64 ep)).setC 3 (.int .i64 ro)).setC 4 (.int .i64 ep)).setC 5 (.int .i64 pe)
        rw [HC.out] at c5
        have n1 : e1 ≠ g ∧ e2 ≠ g := by have := HL.out; omega
        have y1 : Blk ((((x1.setCell ⟨g, 1, none⟩ (.int .i64 ep)).setCell ⟨g, 3, none⟩ (.int .i64 ro)).setCell ⟨g, 4, none⟩ (.int .i64 ep)).setCell ⟨g, 5, none⟩ (.int .i64 pe)) e1 (rkC K t p q) 53 := ((((z1.below kb1 z1.lt).setO n1.1 _).setO n1.1 _).setO n1.1 _).setO n1.1 _
        have y2 : Blk ((((x1.setCell ⟨g, 1, none⟩ (.int .i64 ep)).setCell ⟨g, 3, none⟩ (.int .i64 ro)).setCell ⟨g, 4, none⟩ (.int .i64 ep)).setCell ⟨g, 5, none⟩ (.int .i64 pe)) e2 zrk 53 := ((((z2.below kb1 z2.lt).setO n1.2 _).setO n1.2 _).setO n1.2 _).setO n1.2 _
        have hwg : w.heap.size ≤ g := by rw [hg]; exact k0.size
        have ky : Below w.heap.size w ((((x1.setCell ⟨g, 1, none⟩ (.int .i64 ep)).setCell ⟨g, 3, none⟩ (.int .i64 ro)).setCell ⟨g, 4, none⟩ (.int .i64 ep)).setCell ⟨g, 5, none⟩ (.int .i64 pe)) := ((((k0.trans (kb1.mono k0.size)).setCell hwg _).setCell hwg _).setCell hwg _).setCell hwg _
        clear z1 z2 k0 zg kg kb1 hg d14 d7 d8 rg6 l1
        go_wp2_with (first | ((with_reducible refine at_ld 53 ?_); (refine ld 53 (.tmp 4) 15 sizeRK _ Try.underlying53 rfl e1 0 (rkC K t p q) rfl (y1.whole) rfl ?_)) | ((with_reducible refine at_ld 25 ?_); (refine ld 25 (.tmp 10) 8 sizeAn _ Try.underlying25 rfl g 0 (anc (K.committed ep ro pe) p q) rfl (c5.whole) rfl ?_)))
        generalize ((((x1.setCell ⟨g, 1, none⟩ (.int .i64 ep)).setCell ⟨g, 3, none⟩ (.int .i64 ro)).setCell ⟨g, 4, none⟩ (.int .i64 ep)).setCell ⟨g, 5, none⟩ (.int .i64 pe)) = x2 at *
        clear q1 f1 q3 f3 q4 f4 q5 f5 lg c1 n1
        have CS : Hid (Calls Try.prog 25 #[.agg (rkC K t p q).toArray, .agg (anc (K.committed ep ro pe) p q).toArray] x2 (SavQ (fun j => A j ∧ j < w.heap.size ∨ x2.heap.size ≤ j) x2 (K.save (K.committed ep ro pe)))) := rSave14 x2 (HRK.out.inner ky) (fun j hj => Or.inr hj) HF.out hmm ((HAN.out.mono fun j hj ha => Or.inl ⟨ha, hj⟩).below ky)
        rw [← HO.out] at CS
        refine CS.out.mono ?_
        rintro e x3 ⟨t3, p3, q3, rfl, rk3, hb3⟩
        have y23 := y2.below hb3 y2.lt
        have k3 : Below w.heap.size w x3 := ky.trans (hb3.mono ky.size)
        have hl2 := y2.lt
        clear CS y2
        go_wp2_with ((with_reducible refine at_st 53 ?_); (refine st' 53 (.tmp 8) (.tmp 42) 15 sizeRK e2 0 (rkC out.1 t3 p3 q3) rfl (rkC_one _ _ _ _) (y23.there 0 15 (by simp [zrk])) rfl rfl ?_); intro x9 hx9; have b9 : Blk x9 e2 (rkC out.1 t3 p3 q3) 53 := (by rw [hx9]; exact y23.setsW _ rfl); have kp9 : Kp (fun j => j = e2) x3 x9 := (by rw [hx9]; exact Kp.of_grown (but_cells' _ _ _ _)); clear hx9)
        have k9 : Below w.heap.size w x9 := below_kp k3 kp9 k3.size (fun j hj e => by have := HL.out; omega)
        refine bodyPost_ret (v := .tuple #[.agg (rkC out.1 t3 p3 q3).toArray, .int .i64 out.2]) (resCT Try.results29 _ _ e2 _ rfl (run_loadVar_row x9 e2 53 53 _ (0, 0) _ b9 Try.underlying53 rfl sizeRK) _ rfl) rfl ?_
        exact ⟨t3, p3, q3, rfl, rk3.outer kp9 ⟨by have := HL.out; omega, hl2⟩ HAA.out ky.size, k9⟩
set_option maxRecDepth 100000 in
set_option maxHeartbeats 8000000 in
theorem rClean14 (w : World) {A : Nat → Prop} {K : KepS} {t p q : Tri} (h : RK A w K t p q) (hA : ∀ j, w.heap.size ≤ j → A j) {mm : Nat} (hf : K.c.fit mm) (hmm : mm ≤ 5000) : Calls Try.prog 31 #[.agg (rkC K t p q).toArray] w (SavQ A w K.clean) := by
  have HRK : Hid (RK A w K t p q) := h
  have HAA : Hid (∀ j, w.heap.size ≤ j → A j) := hA
  have HF : Hid (K.c.fit mm) := hf
  have HAN : Hid (Anc A w (K.cleaned) p q) := h.an.nums rfl rfl ⟨h.an.ns.1, h.an.ns.2.1, h.an.ns.2.2.1, h.an.ns.2.2.2.1, h.an.ns.2.2.2.2.1, i64_0⟩
  have HC : Hid ((anc K.last p q).set 5 (.int .i64 0) = anc (K.cleaned) p q) := rfl
  have HM : Hid (K.clean = if K.has = false then (K, 9) else K.save K.cleaned) := rfl
  generalize K.clean = out at *
  clear h hA hf
  obtain ⟨W0, hW0⟩ : ∃ W0, W0 = (w.alloc (.cells (rkC K t p q).toArray 53)).alloc (.cells #[.int .i64 0, .int .i64 0, .bool false, .bool false, .slice none 0 0, .int .i64 0, .int .i64 0, .int .i64 0, .int .i64 0, .int .i64 0, .int .i64 0, .int .i64 0, .slice none 0 0, .slice none 0 0, .bool false] 53) := ⟨_, rfl⟩
  obtain ⟨e1, he1⟩ : ∃ e, e = w.heap.size := ⟨_, rfl⟩
  obtain ⟨e2, he2⟩ : ∃ e, e = w.heap.size + 1 := ⟨_, rfl⟩
  have z1 : Blk W0 e1 (rkC K t p q) 53 := by rw [hW0]; exact (Blk.newAt w _ _ e1 he1.symm _ rfl).old _
  have z2 : Blk W0 e2 zrk 53 := by rw [hW0]; exact Blk.newAt (w.alloc _) _ _ e2 (by rw [he2]; simp) _ rfl
  have k0 : Below w.heap.size w W0 := by rw [hW0]; exact below2 _ _ _
  have HL : Hid (w.heap.size ≤ e1 ∧ e1 < e2 ∧ e2 < W0.heap.size) := ⟨by omega, by omega, z2.lt⟩
  go_enter Try.func31, Try.ntmps31
  go_upto_region 1 with fail
  rw [← hW0, ← he2, ← he1]
  clear hW0 he1 he2
  have d14 : W0.cell? ⟨e1, 14, none⟩ = some (.bool K.has) := z1.cell 14
  have l1 := z1.lt
  have d7 : W0.cell? ⟨e1, 7, none⟩ = some (.int .i64 K.last.epoch) := z1.cell 7
  have d8 : W0.cell? ⟨e1, 8, none⟩ = some (.int .i64 K.last.given) := z1.cell 8
  have rg6 : W0.rangeAt e1 6 (anc K.last p q) := z1.range 6 _ rk_an
  cases hh : K.has with
  | false =>
    rw [hh] at d14
    have HO : Hid (out = (K, 9)) := by show _ = _; rw [HM.out, if_pos hh]
    clear HM HC HAN rg6
    go_wp2_with (first | ((with_reducible refine at_ld 53 ?_); (refine ld 53 (.tmp 1) 15 sizeRK _ Try.underlying53 rfl e1 0 (rkC K t p q) rfl (z1.whole) rfl ?_)) | ((with_reducible refine at_st 53 ?_); (refine st' 53 (.tmp 2) (.tmp 8) 15 sizeRK e2 0 (rkC K t p q) rfl (rkC_one _ _ _ _) (z2.there 0 15 (by simp [zrk])) rfl rfl ?_); intro x9 hx9; have b9 : Blk x9 e2 (rkC K t p q) 53 := (by rw [hx9]; exact z2.setsW _ rfl); have kp9 : Kp (fun j => j = e2) W0 x9 := (by rw [hx9]; exact Kp.of_grown (but_cells' _ _ _ _)); clear hx9))
    have k9 : Below w.heap.size w x9 := below_kp k0 kp9 k0.size (fun j hj e => by have := HL.out; omega)
    refine bodyPost_ret (v := .tuple #[.agg (rkC K t p q).toArray, .int .i64 9]) (resCT Try.results31 _ _ e2 _ rfl (run_loadVar_row x9 e2 53 53 _ (0, 0) _ b9 Try.underlying53 rfl sizeRK) _ rfl) rfl ?_
    rw [HO.out]
    exact ⟨t, p, q, rfl, HRK.out.below k9, k9⟩
  | true =>
    rw [hh] at d14
    have HO : Hid (out = K.save (K.cleaned)) := by show _ = _; rw [HM.out, if_neg (by rw [hh]; simp)]
    clear HM
    obtain ⟨g, hg⟩ : ∃ g, g = W0.heap.size := ⟨_, rfl⟩
    have zg : Blk (W0.alloc (.cells #[.int .i64 0, .int .i64 0, .int .i64 0, .int .i64 0, .int .i64 0, .int .i64 0, .slice none 0 0, .slice none 0 0] 25)) g zanc 25 := Blk.newAt W0 _ _ g hg.symm _ rfl
    have kg : Below W0.heap.size W0 (W0.alloc (.cells #[.int .i64 0, .int .i64 0, .int .i64 0, .int .i64 0, .int .i64 0, .int .i64 0, .slice none 0 0, .slice none 0 0] 25)) := below_alloc _ _
    go_upto_region 4 with (first | ((with_reducible refine at_ld 25 ?_); (refine ld 25 (.tmp 9) 8 sizeAn _ Try.underlying25 rfl e1 6 (anc K.last p q) rfl (rg6) rfl ?_)) | ((with_reducible refine at_st 25 ?_); (refine st' 25 (.tmp 4) (.tmp 10) 8 sizeAn W0.heap.size 0 (anc K.last p q) rfl (anc_one _ _ _) (by rw [← hg]; exact zg.there 0 8 (by simp [zanc])) rfl rfl ?_); intro x1 hx1; have c1 : Blk x1 g (anc K.last p q) 25 := (by rw [hx1, ← hg]; exact zg.setsW _ rfl); have kb1 : Below W0.heap.size W0 x1 := (by rw [hx1]; exact below_sets (Nat.le_refl _) _ kg 0); clear hx1))
    rw [← hg]
    have q5 : x1.cell? ⟨g, 5, none⟩ = some (.int .i64 K.last.pending) := c1.cell 5
    have f5 := c1.free 5
    have lg := c1.lt
    have c5 := c1.setC 5 (.int .i64 0)
    rw [HC.out] at c5
    have n1 : e1 ≠ g ∧ e2 ≠ g := by have := HL.out; omega
    have y1 : Blk (x1.setCell ⟨g, 5, none⟩ (.int .i64 0)) e1 (rkC K t p q) 53 := (z1.below kb1 z1.lt).setO n1.1 _
    have y2 : Blk (x1.setCell ⟨g, 5, none⟩ (.int .i64 0)) e2 zrk 53 := (z2.below kb1 z2.lt).setO n1.2 _
    have hwg : w.heap.size ≤ g := by rw [hg]; exact k0.size
    have ky : Below w.heap.size w (x1.setCell ⟨g, 5, none⟩ (.int .i64 0)) := (k0.trans (kb1.mono k0.size)).setCell hwg _
    clear z1 z2 k0 zg kg kb1 hg d14 d7 d8 rg6 l1
    go_wp2_with (first | ((with_reducible refine at_ld 53 ?_); (refine ld 53 (.tmp 1) 15 sizeRK _ Try.underlying53 rfl e1 0 (rkC K t p q) rfl (y1.whole) rfl ?_)) | ((with_reducible refine at_ld 25 ?_); (refine ld 25 (.tmp 4) 8 sizeAn _ Try.underlying25 rfl g 0 (anc (K.cleaned) p q) rfl (c5.whole) rfl ?_)))
    generalize (x1.setCell ⟨g, 5, none⟩ (.int .i64 0)) = x2 at *
    clear q5 f5 lg c1 n1
    have CS : Hid (Calls Try.prog 25 #[.agg (rkC K t p q).toArray, .agg (anc (K.cleaned) p q).toArray] x2 (SavQ (fun j => A j ∧ j < w.heap.size ∨ x2.heap.size ≤ j) x2 (K.save (K.cleaned)))) := rSave14 x2 (HRK.out.inner ky) (fun j hj => Or.inr hj) HF.out hmm ((HAN.out.mono fun j hj ha => Or.inl ⟨ha, hj⟩).below ky)
    rw [← HO.out] at CS
    refine CS.out.mono ?_
    rintro e x3 ⟨t3, p3, q3, rfl, rk3, hb3⟩
    have y23 := y2.below hb3 y2.lt
    have k3 : Below w.heap.size w x3 := ky.trans (hb3.mono ky.size)
    have hl2 := y2.lt
    clear CS y2
    go_wp2_with ((with_reducible refine at_st 53 ?_); (refine st' 53 (.tmp 2) (.tmp 15) 15 sizeRK e2 0 (rkC out.1 t3 p3 q3) rfl (rkC_one _ _ _ _) (y23.there 0 15 (by simp [zrk])) rfl rfl ?_); intro x9 hx9; have b9 : Blk x9 e2 (rkC out.1 t3 p3 q3) 53 := (by rw [hx9]; exact y23.setsW _ rfl); have kp9 : Kp (fun j => j = e2) x3 x9 := (by rw [hx9]; exact Kp.of_grown (but_cells' _ _ _ _)); clear hx9)
    have k9 : Below w.heap.size w x9 := below_kp k3 kp9 k3.size (fun j hj e => by have := HL.out; omega)
    refine bodyPost_ret (v := .tuple #[.agg (rkC out.1 t3 p3 q3).toArray, .int .i64 out.2]) (resCT Try.results31 _ _ e2 _ rfl (run_loadVar_row x9 e2 53 53 _ (0, 0) _ b9 Try.underlying53 rfl sizeRK) _ rfl) rfl ?_
    exact ⟨t3, p3, q3, rfl, rk3.outer kp9 ⟨by have := HL.out; omega, hl2⟩ HAA.out ky.size, k9⟩
/-- What the reference's Give hands back. -/
def GivQ (A : Nat → Prop) (w : World) (x : KepS × Int × Int) (e : Ending) (w' : World) : Prop := ∃ t p q, e = .returned (.tuple #[.agg (rkC x.1 t p q).toArray, .int .i64 x.2.1, .int .i64 x.2.2]) ∧ RK A w' x.1 t p q ∧ Below w.heap.size w w'
set_option maxRecDepth 100000 in
set_option maxHeartbeats 8000000 in
theorem rGive14 (w : World) {A : Nat → Prop} {K : KepS} {t p q : Tri} (h : RK A w K t p q) (hA : ∀ j, w.heap.size ≤ j → A j) {mm : Nat} (hf : K.c.fit mm) (hmm : mm ≤ 5000) : Calls Try.prog 27 #[.agg (rkC K t p q).toArray] w (GivQ A w K.give) := by
  have HRK : Hid (RK A w K t p q) := h
  have HAA : Hid (∀ j, w.heap.size ≤ j → A j) := hA
  have HF : Hid (K.c.fit mm) := hf
  have hgv := h.ok.given
  have HAN : Hid (Anc A w (K.given) p q) := h.an.nums rfl rfl ⟨h.an.ns.1, h.an.ns.2.1, ⟨by show _ ≤ K.last.given + 1; omega, by show K.last.given + 1 ≤ _; omega⟩, h.an.ns.2.2.2.1, h.an.ns.2.2.2.2.1, h.an.ns.2.2.2.2.2⟩
  have HC : Hid ((anc K.last p q).set 2 (.int .i64 (K.last.given + 1)) = anc (K.given) p q) := rfl
  have HM : Hid (K.give = if K.has = false then (K, 0, 9) else if (K.save K.given).2 ≠ 0 then ((K.save K.given).1, 0, (K.save K.given).2) else ((K.save K.given).1, K.last.given + 1, 0)) := rfl
  have b1 : K.last.given + 1 ≤ 9223372036854775807 := by omega
  have b2 : -9223372036854775808 ≤ K.last.given + 1 := by omega
  generalize K.give = out at *
  clear h hA hf hgv
  obtain ⟨W0, hW0⟩ : ∃ W0, W0 = (w.alloc (.cells (rkC K t p q).toArray 53)).alloc (.cells #[.int .i64 0, .int .i64 0, .bool false, .bool false, .slice none 0 0, .int .i64 0, .int .i64 0, .int .i64 0, .int .i64 0, .int .i64 0, .int .i64 0, .int .i64 0, .slice none 0 0, .slice none 0 0, .bool false] 53) := ⟨_, rfl⟩
  obtain ⟨e1, he1⟩ : ∃ e, e = w.heap.size := ⟨_, rfl⟩
  obtain ⟨e2, he2⟩ : ∃ e, e = w.heap.size + 1 := ⟨_, rfl⟩
  have z1 : Blk W0 e1 (rkC K t p q) 53 := by rw [hW0]; exact (Blk.newAt w _ _ e1 he1.symm _ rfl).old _
  have z2 : Blk W0 e2 zrk 53 := by rw [hW0]; exact Blk.newAt (w.alloc _) _ _ e2 (by rw [he2]; simp) _ rfl
  have k0 : Below w.heap.size w W0 := by rw [hW0]; exact below2 _ _ _
  have HL : Hid (w.heap.size ≤ e1 ∧ e1 < e2 ∧ e2 < W0.heap.size) := ⟨by omega, by omega, z2.lt⟩
  go_enter Try.func27, Try.ntmps27
  go_upto_region 1 with fail
  rw [← hW0, ← he2, ← he1]
  clear hW0 he1 he2
  have d14 : W0.cell? ⟨e1, 14, none⟩ = some (.bool K.has) := z1.cell 14
  have l1 := z1.lt
  have d7 : W0.cell? ⟨e1, 7, none⟩ = some (.int .i64 K.last.epoch) := z1.cell 7
  have d8 : W0.cell? ⟨e1, 8, none⟩ = some (.int .i64 K.last.given) := z1.cell 8
  have rg6 : W0.rangeAt e1 6 (anc K.last p q) := z1.range 6 _ rk_an
  cases hh : K.has with
  | false =>
    rw [hh] at d14
    have HO : Hid (out = (K, 0, 9)) := by show _ = _; rw [HM.out, if_pos hh]
    clear HM HC HAN rg6
    go_wp2_with (first | ((with_reducible refine at_ld 53 ?_); (refine ld 53 (.tmp 1) 15 sizeRK _ Try.underlying53 rfl e1 0 (rkC K t p q) rfl (z1.whole) rfl ?_)) | ((with_reducible refine at_st 53 ?_); (refine st' 53 (.tmp 2) (.tmp 11) 15 sizeRK e2 0 (rkC K t p q) rfl (rkC_one _ _ _ _) (z2.there 0 15 (by simp [zrk])) rfl rfl ?_); intro x9 hx9; have b9 : Blk x9 e2 (rkC K t p q) 53 := (by rw [hx9]; exact z2.setsW _ rfl); have kp9 : Kp (fun j => j = e2) W0 x9 := (by rw [hx9]; exact Kp.of_grown (but_cells' _ _ _ _)); clear hx9))
    have k9 : Below w.heap.size w x9 := below_kp k0 kp9 k0.size (fun j hj e => by have := HL.out; omega)
    refine bodyPost_ret (v := .tuple #[.agg (rkC K t p q).toArray, .int .i64 0, .int .i64 9]) (resKTT Try.results27 _ _ e2 _ rfl (run_loadVar_row x9 e2 53 53 _ (0, 0) _ b9 Try.underlying53 rfl sizeRK) _ _ rfl rfl) rfl ?_
    rw [HO.out]
    exact ⟨t, p, q, rfl, HRK.out.below k9, k9⟩
  | true =>
    rw [hh] at d14
    have HM2 : Hid (out = if (K.save K.given).2 ≠ 0 then ((K.save K.given).1, 0, (K.save K.given).2) else ((K.save K.given).1, K.last.given + 1, 0)) := by show _ = _; rw [HM.out, if_neg (by rw [hh]; simp)]
    clear HM
    obtain ⟨g, hg⟩ : ∃ g, g = W0.heap.size := ⟨_, rfl⟩
    have zg : Blk (W0.alloc (.cells #[.int .i64 0, .int .i64 0, .int .i64 0, .int .i64 0, .int .i64 0, .int .i64 0, .slice none 0 0, .slice none 0 0] 25)) g zanc 25 := Blk.newAt W0 _ _ g hg.symm _ rfl
    have kg : Below W0.heap.size W0 (W0.alloc (.cells #[.int .i64 0, .int .i64 0, .int .i64 0, .int .i64 0, .int .i64 0, .int .i64 0, .slice none 0 0, .slice none 0 0] 25)) := below_alloc _ _
    go_upto_region 4 with (first | ((with_reducible refine at_ld 25 ?_); (refine ld 25 (.tmp 12) 8 sizeAn _ Try.underlying25 rfl e1 6 (anc K.last p q) rfl (rg6) rfl ?_)) | ((with_reducible refine at_st 25 ?_); (refine st' 25 (.tmp 5) (.tmp 13) 8 sizeAn W0.heap.size 0 (anc K.last p q) rfl (anc_one _ _ _) (by rw [← hg]; exact zg.there 0 8 (by simp [zanc])) rfl rfl ?_); intro x1 hx1; have c1 : Blk x1 g (anc K.last p q) 25 := (by rw [hx1, ← hg]; exact zg.setsW _ rfl); have kb1 : Below W0.heap.size W0 x1 := (by rw [hx1]; exact below_sets (Nat.le_refl _) _ kg 0); clear hx1))
    rw [← hg]
    have q5 : x1.cell? ⟨g, 2, none⟩ = some (.int .i64 K.last.given) := c1.cell 2
    have f5 := c1.free 2
    have lg := c1.lt
    have c5 := c1.setC 2 (.int .i64 (K.last.given + 1))
    rw [HC.out] at c5
    have n1 : e1 ≠ g ∧ e2 ≠ g := by have := HL.out; omega
    have w1 := z1.below kb1 z1.lt
    have d8x : x1.cell? ⟨e1, 8, none⟩ = some (.int .i64 K.last.given) := w1.cell 8
    have l1x := w1.lt
    have hne1 : ¬ e1 = g := n1.1
    have y1 : Blk (x1.setCell ⟨g, 2, none⟩ (.int .i64 (K.last.given + 1))) e1 (rkC K t p q) 53 := w1.setO n1.1 _
    have y2 : Blk (x1.setCell ⟨g, 2, none⟩ (.int .i64 (K.last.given + 1))) e2 zrk 53 := (z2.below kb1 z2.lt).setO n1.2 _
    have hwg : w.heap.size ≤ g := by rw [hg]; exact k0.size
    have ky : Below w.heap.size w (x1.setCell ⟨g, 2, none⟩ (.int .i64 (K.last.given + 1))) := (k0.trans (kb1.mono k0.size)).setCell hwg _
    have HG2 : Hid (w.heap.size ≤ g) := hwg
    clear z1 z2 k0 zg kg kb1 hg d14 d7 d8 rg6 l1 w1
    go_wp2_with (first | ((with_reducible refine at_ld 53 ?_); (refine ld 53 (.tmp 1) 15 sizeRK _ Try.underlying53 rfl e1 0 (rkC K t p q) rfl (y1.whole) rfl ?_)) | ((with_reducible refine at_ld 25 ?_); (refine ld 25 (.tmp 5) 8 sizeAn _ Try.underlying25 rfl g 0 (anc (K.given) p q) rfl (c5.whole) rfl ?_)))
    generalize (x1.setCell ⟨g, 2, none⟩ (.int .i64 (K.last.given + 1))) = x2 at *
    clear q5 f5 lg c1 d8x l1x
    have CS : Hid (Calls Try.prog 25 #[.agg (rkC K t p q).toArray, .agg (anc (K.given) p q).toArray] x2 (SavQ (fun j => A j ∧ j < w.heap.size ∨ x2.heap.size ≤ j) x2 (K.save (K.given)))) := rSave14 x2 (HRK.out.inner ky) (fun j hj => Or.inr hj) HF.out hmm ((HAN.out.mono fun j hj ha => Or.inl ⟨ha, hj⟩).below ky)
    generalize K.save K.given = sv at *
    refine CS.out.mono ?_
    rintro e x3 ⟨t3, p3, q3, rfl, rk3, hb3⟩
    have y23 := y2.below hb3 y2.lt
    have c53 := c5.below hb3 c5.lt
    have k3 : Below w.heap.size w x3 := ky.trans (hb3.mono ky.size)
    have HLb : Hid (e2 < x2.heap.size) := y2.lt
    clear CS y2 y1 c5
    obtain ⟨e6, he6⟩ : ∃ g, g = x3.heap.size := ⟨_, rfl⟩
    have z6 : Blk (x3.alloc (.cells #[.int .i64 0, .int .i64 0, .bool false, .bool false, .slice none 0 0, .int .i64 0, .int .i64 0, .int .i64 0, .int .i64 0, .int .i64 0, .int .i64 0, .int .i64 0, .slice none 0 0, .slice none 0 0, .bool false] 53)) e6 zrk 53 := Blk.newAt x3 _ _ e6 he6.symm _ rfl
    have k6 : Below x3.heap.size x3 (x3.alloc (.cells #[.int .i64 0, .int .i64 0, .bool false, .bool false, .slice none 0 0, .int .i64 0, .int .i64 0, .int .i64 0, .int .i64 0, .int .i64 0, .int .i64 0, .int .i64 0, .slice none 0 0, .slice none 0 0, .bool false] 53)) := below_alloc _ _
    go_upto_region 6 with ((with_reducible refine at_st 53 ?_); (refine st' 53 (.tmp 6) (.tmp 23) 15 sizeRK x3.heap.size 0 (rkC sv.1 t3 p3 q3) rfl (rkC_one _ _ _ _) (by rw [← he6]; exact z6.there 0 15 (by simp [zrk])) rfl rfl ?_); intro x4 hx4; have c6 : Blk x4 e6 (rkC sv.1 t3 p3 q3) 53 := (by rw [hx4, ← he6]; exact z6.setsW _ rfl); have kb4 : Below x3.heap.size x3 x4 := (by rw [hx4]; exact below_sets (Nat.le_refl _) _ k6 0); clear hx4)
    rw [← he6]
    have y24 := y23.below kb4 y23.lt
    have c54 := c53.below kb4 c53.lt
    have k4 : Below w.heap.size w x4 := k3.trans (kb4.mono k3.size)
    have rk4 := rk3.below kb4
    have HE6 : Hid (e2 < e6) := by show _ < _; rw [he6]; exact y23.lt
    have hwx : w.heap.size ≤ x2.heap.size := ky.size
    clear y23 c53 k3 rk3 z6 k6 kb4 he6 hb3 ky
    by_cases hc : sv.2 = 0
    · have HO : Hid (out = (sv.1, K.last.given + 1, 0)) := by show _ = _; rw [HM2.out, if_neg (by rw [hc]; simp)]
      have bc : (sv.2 == 0) = true := by simp [hc]
      clear HM2 hc
      have lg4 := c54.lt
      have le6 := c6.lt
      have HNE : Hid (¬ e6 = e2 ∧ ¬ g = e2) := by have := HE6.out; exact ⟨by omega, fun e => n1.2 e.symm⟩
      go_wp2_with fail
      have F0 : ∀ u, (Kp (fun j => j = e2) x4 u ∧ ∃ vs : List Value, vs.length = 15 ∧ Blk u e2 vs 53) → u.rangeAt e6 0 (rkC sv.1 t3 p3 q3) := fun u hu => (hu.1.blk c6 HNE.out.1).whole
      have F1 : ∀ u, (Kp (fun j => j = e2) x4 u ∧ ∃ vs : List Value, vs.length = 15 ∧ Blk u e2 vs 53) → u.cell? ⟨g, 2, none⟩ = some (.int .i64 (K.last.given + 1)) := fun u hu => (hu.1.blk c54 HNE.out.2).cell 2
      have F2 : ∀ u, (Kp (fun j => j = e2) x4 u ∧ ∃ vs : List Value, vs.length = 15 ∧ Blk u e2 vs 53) → g < u.heap.size := fun u hu => Nat.lt_of_lt_of_le lg4 hu.1.size
      refine regionG (S := fun u => Kp (fun j => j = e2) x4 u ∧ ∃ vs : List Value, vs.length = 15 ∧ Blk u e2 vs 53) (by kernel_rfl) ⟨(Kp.refl _ x4).drew 1, zrk, rfl, y24.below (below_drewN' x4 1) y24.lt⟩ ?_
      refine takeG 0 (some 29) (.agg (rkC sv.1 t3 p3 q3).toArray) rfl rfl (by kernel_rfl) (by kernel_rfl) (by kernel_rfl) (fun _ _ _ h => h) (ans_row 53 (.tmp 6) _ 15 rfl (by rfl) e6 0 rfl (rkC sv.1 t3 p3 q3) (fun u hu => F0 u hu) Try.underlying53 rfl rfl sizeRK) ?_
      simp only [Act.put, List.setIfInBounds_toArray, List.set_cons_zero, List.set_cons_succ]
      refine takeG 1 (some 30) (.pointer (some ⟨g, 2, none⟩)) rfl rfl (by kernel_rfl) (by kernel_rfl) (by kernel_rfl) (fun _ _ _ h => h) (ans_plain (by rfl) (fun w _ => by unfold execOp; go_simp)) ?_
      simp only [Act.put, List.setIfInBounds_toArray, List.set_cons_zero, List.set_cons_succ]
      refine takeG 2 (some 31) (.int .i64 (K.last.given + 1)) rfl rfl (by kernel_rfl) (by kernel_rfl) (by kernel_rfl) (fun _ _ _ h => h) (ans_plain (by rfl) (fun w h => by have hc := F1 w h; have hl := F2 w h; unfold execOp; go_simp)) ?_
      simp only [Act.put, List.setIfInBounds_toArray, List.set_cons_zero, List.set_cons_succ]
      refine oneG 3 (by kernel_rfl) fun u1 hg1 hs1 => ?_
      obtain ⟨kp1, vs1, hl1, bz1⟩ := hs1
      refine opStR 3 53 (.tmp 2) (.tmp 29) 15 rfl rfl rfl rfl e2 vs1 (rkC sv.1 t3 p3 q3) 53 bz1 hl1 rfl (rkC_one _ _ _ _) sizeRK rfl rfl fun u2 b9 k9 => ?_
      refine ⟨⟨kp1.trans k9, rkC sv.1 t3 p3 q3, rfl, b9⟩, ?_⟩
      refine takeG 4 (some 3) (.int .i64 (K.last.given + 1)) rfl rfl (by kernel_rfl) (by kernel_rfl) (by kernel_rfl) (fun _ _ _ h => h) (ans_plain (by rfl) (fun w _ => rfl)) ?_
      simp only [Act.put, List.setIfInBounds_toArray, List.set_cons_zero, List.set_cons_succ]
      refine takeG 5 (some 4) (.int .i64 0) rfl rfl (by kernel_rfl) (by kernel_rfl) (by kernel_rfl) (fun _ _ _ h => h) (ans_plain (by rfl) (fun w _ => rfl)) ?_
      simp only [Act.put, List.setIfInBounds_toArray, List.set_cons_zero, List.set_cons_succ]
      refine doneG (by kernel_rfl) fun x9 hg9 hs9 => ?_
      have b9x := b9.below hg9 b9.lt
      have kx9 : Below w.heap.size w x9 := below_kp k4 hs9.1 k4.size (fun j hj e => by have := HL.out; omega)
      have rk9 : RK A x9 sv.1 t3 p3 q3 := rk4.outer hs9.1 ⟨by have := HL.out; omega, HLb.out⟩ HAA.out hwx
      clear F0 F1 F2 hs9 hg9 b9 k9 kp1 bz1 hg1
      go_wp2_with fail
      refine bodyPost_ret (v := .tuple #[.agg (rkC sv.1 t3 p3 q3).toArray, .int .i64 (K.last.given + 1), .int .i64 0]) (resKTT Try.results27 _ _ e2 _ rfl (run_loadVar_row x9 e2 53 53 _ (0, 0) _ b9x Try.underlying53 rfl sizeRK) _ _ rfl rfl) rfl ?_
      rw [HO.out]
      exact ⟨t3, p3, q3, rfl, rk9, kx9⟩
    · have HO : Hid (out = (sv.1, 0, sv.2)) := by show _ = _; rw [HM2.out, if_pos hc]
      have bc : (sv.2 == 0) = false := by simp [hc]
      generalize hcd : sv.2 = cd at *
      clear HM2 hc hcd
      go_wp2_with (first | ((with_reducible refine at_ld 53 ?_); (refine ld 53 (.tmp 6) 15 sizeRK _ Try.underlying53 rfl e6 0 (rkC sv.1 t3 p3 q3) rfl (c6.whole) rfl ?_)) | ((with_reducible refine at_st 53 ?_); (refine st' 53 (.tmp 2) (.tmp 27) 15 sizeRK e2 0 (rkC sv.1 t3 p3 q3) rfl (rkC_one _ _ _ _) (y24.there 0 15 (by simp [zrk])) rfl rfl ?_); intro x9 hx9; have b9 : Blk x9 e2 (rkC sv.1 t3 p3 q3) 53 := (by rw [hx9]; exact y24.setsW _ rfl); have kp9 : Kp (fun j => j = e2) x4 x9 := (by rw [hx9]; exact Kp.of_grown (but_cells' _ _ _ _)); clear hx9))
      have k9 : Below w.heap.size w x9 := below_kp k4 kp9 k4.size (fun j hj e => by have := HL.out; omega)
      refine bodyPost_ret (v := .tuple #[.agg (rkC sv.1 t3 p3 q3).toArray, .int .i64 0, .int .i64 cd]) (resKTT Try.results27 _ _ e2 _ rfl (run_loadVar_row x9 e2 53 53 _ (0, 0) _ b9 Try.underlying53 rfl sizeRK) _ _ rfl rfl) rfl ?_
      rw [HO.out]
      exact ⟨t3, p3, q3, rfl, rk4.outer kp9 ⟨by have := HL.out; omega, HLb.out⟩ HAA.out hwx, k9⟩

end Go.Proofs.Ytbifikeecmaakaa
