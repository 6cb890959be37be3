/-
  1 texts in one. No statement of the seat is proved here.
-/
import Derived.Test.YtbifikeecmaakaaG33

/-
  The contract of layer 14's reference's Get. Condition: none.
-/
namespace Go.Proofs.Ytbifikeecmaakaa
open Go.RowKit

/-- What the reference's Get hands back: an anchor in memory of A, or new. -/
def GotR (A : Nat → Prop) (w : World) (x : AncS × Int) (e : Ending) (w' : World) : Prop := ∃ p q, e = .returned (.tuple #[anV x.1 p q, .int .i64 x.2]) ∧ Anc (fun j => A j ∨ w.heap.size ≤ j) w' x.1 p q ∧ Below w.heap.size w w'
theorem mark_pos {b : List UInt8} (h : rB (b, 0) 8 = markL) : 0 < b.length := by
  cases b with
  | nil => exact absurd h (by decide)
  | cons x l => simp
/-- Behind some of Get's rounds. -/
structure GtI (A : Nat → Prop) (w : World) (a : Option Addr) (n c : Nat) (b : List UInt8) (g1 g2 : Nat) (H : AncS) (pm : Tri) (sk : RdS) (k : Nat) (a' : Option Addr) (n' c' : Nat) (q : Tri) (wr : World) : Prop where
  t : ∀ W, Bs W a n c b → Bs W a' n' c' (rKs k sk).1
  b0 : Blk wr w.heap.size zanc 25
  b1 : Blk wr g1 (rrC a' n' c' (rKs k sk).2) 90
  b2 : Blk wr g2 (anc H pm q) 25
  ks : OwS (elK fun j => A j ∧ j < w.heap.size) 3 78 wr (g2 + 1) (.slice q.la q.ln q.lc) (keksR k sk)
  be : Below w.heap.size w wr
  lt : w.heap.size < g1 ∧ g1 < g2 ∧ g2 < wr.heap.size

theorem cap62_pos (n : Nat) : 0 ≤ cap62 n := by
  unfold cap62
  split <;> omega
theorem cap62_i64 (n : Nat) : i64 (cap62 n) := by
  unfold cap62
  split
  · exact ⟨by decide, by decide⟩
  · exact ⟨by omega, by omega⟩
set_option maxRecDepth 100000 in
set_option maxHeartbeats 8000000 in
theorem rGetA (w : World) {A : Nat → Prop} {a : Option Addr} {n c : Nat} {b : List UInt8} (h : BA A w a n c b) : Calls Try.prog 12 #[.slice a n c] w (GotR A w (getA b)) := by
  obtain ⟨W0, hW0⟩ : ∃ W0, W0 = w.alloc (.cells #[.int .i64 0, .int .i64 0, .int .i64 0, .int .i64 0, .int .i64 0, .int .i64 0, .slice none 0 0, .slice none 0 0] 25) := ⟨_, rfl⟩
  have z0 : Blk W0 w.heap.size zanc 25 := by rw [hW0]; exact Blk.newAt w _ _ w.heap.size rfl _ rfl
  have k0 : Below w.heap.size w W0 := by rw [hW0]; exact below_alloc _ _
  have HBA : Hid (BA A w a n c b) := h
  have CB : Hid (Calls Try.prog 46 #[.agg #[.slice a n c, .int .i64 0], .int .i64 8] W0 (RefReads W0 a n c b (rdBytes b 0 8))) := rBytes W0 (h.1.below k0 (Nat.le_refl _)) 0 8 (by decide) (by decide)
  have HG : Hid (getA b = if rB (b, 0) 8 ≠ markL then (zeroA, 9) else if (restR (rN (b, 0) 8)).2 ≠ 0 then (zeroA, (restR (rN (b, 0) 8)).2) else if chkA (readR (rN (b, 0) 8)) ≠ 0 then (zeroA, chkA (readR (rN (b, 0) 8))) else (readR (rN (b, 0) 8), 0)) := rfl
  have HMP : Hid (rB (b, 0) 8 = markL → 0 < n) := fun e => by have := mark_pos e; have := HBA.out.1.len; omega
  obtain ⟨S1, hS1⟩ : ∃ S1, S1 = rN (b, 0) 8 := ⟨_, rfl⟩
  obtain ⟨M, hM1⟩ : ∃ M, M = rB (b, 0) 8 := ⟨_, rfl⟩
  have HR : Hid (rdBytes b 0 8 = (S1.1, S1.2, M)) := by rw [hS1, hM1]; rfl
  rw [← hS1, ← hM1] at HG
  rw [← hM1] at HMP
  rw [HR.out] at CB
  generalize getA b = out at *
  clear h hS1 hM1 HR
  go_enter Try.func12, Try.ntmps12
  go_wp2_with fail
  rw [← hW0]
  clear hW0
  refine CB.out.mono ?_
  rintro e x1 ⟨a1, n1, c1, ma, mn, mc, rfl, hT1, hb1⟩
  dsimp only at hT1 ⊢
  have z1 := z0.below hb1 z0.lt
  have k1 : Below w.heap.size w x1 := k0.trans (hb1.mono k0.size)
  have HT1 : Hid (∀ W, Bs W a n c b → Bs W a1 n1 c1 S1.1) := fun W hW => (hT1 W hW).1
  obtain ⟨g4, hg4⟩ : ∃ g, g = x1.heap.size := ⟨_, rfl⟩
  have z4 : Blk (x1.alloc (.cells #[.slice none 0 0, .int .i64 0] 90)) g4 (rrC none 0 0 0) 90 := Blk.newAt x1 _ _ g4 hg4.symm _ rfl
  have k4 : Below x1.heap.size x1 (x1.alloc (.cells #[.slice none 0 0, .int .i64 0] 90)) := below_alloc _ _
  have hmx : ∀ u, Below x1.heap.size x1 u → Bs u ma mn mc M := fun u hu => ((hT1 x1 (HBA.out.1.below k1 (Nat.le_refl _))).2).below hu (Nat.le_refl _)
  clear CB z0 k0 hb1 hT1
  go_upto_region 2 with ((with_reducible refine at_st 90 ?_); (refine st' 90 (.tmp 4) (.tmp 25) 2 sizeRR x1.heap.size 0 (rrC a1 n1 c1 S1.2) rfl (rr_one _ _ _ _) (by rw [← hg4]; exact z4.there 0 2 (by simp [rrC])) rfl rfl ?_); intro x2 hx2; have b4 : Blk x2 g4 (rrC a1 n1 c1 S1.2) 90 := (by rw [hx2, ← hg4]; exact z4.setsW _ rfl); have kb2 : Below x1.heap.size x1 x2 := (by rw [hx2]; exact below_sets (Nat.le_refl _) _ k4 0); clear hx2)
  rw [← hg4]
  have hstr : Sem.run Try.prog (convert 22 9 (.slice ma mn mc)) x2 = .ok (.string ⟨M.toArray⟩) x2 := (hmx x2 kb2).str
  have z2 := z1.below kb2 z1.lt
  have k2 : Below w.heap.size w x2 := k1.trans (kb2.mono k1.size)
  have hlg4 : w.heap.size < g4 := by rw [hg4]; exact z1.lt
  clear hmx z1 k1 z4 k4 kb2 hg4
  have l2 := z2.lt
  have l4 := b4.lt
  by_cases hM : M = markL
  · have hn0 := HMP.out hM
    subst hM
    have HB2 : Hid (BA A w a n c b) := HBA.out
    have CNs : Hid (Calls Try.prog 47 #[.agg (rrC a1 n1 c1 S1.2).toArray] x2 (NumsR x2 a1 n1 c1 S1)) := rNumbersA x2 (HT1.out x2 (HB2.out.1.below k2 (Nat.le_refl _)))
    have HG2 : Hid (out = if (restR S1).2 ≠ 0 then (zeroA, (restR S1).2) else if chkA (readR S1) ≠ 0 then (zeroA, chkA (readR S1)) else (readR S1, 0)) := by show _ = _; rw [HG.out, if_neg (by simp)]
    clear HG HMP HBA
    go_wp2_with ((with_reducible refine at_ld 90 ?_); (refine ld 90 (.tmp 4) 2 sizeRR _ Try.underlying90 rfl g4 0 (rrC a1 n1 c1 S1.2) rfl (b4.whole) rfl ?_))
    refine CNs.out.mono ?_
    rintro e x3 ⟨a2, n2, c2, la, lc, rfl, hT2, slN, hb3⟩
    have HT2 : Hid (∀ W, Bs W a n c b → Bs W a2 n2 c2 (rNs 6 S1).1) := fun W hW => hT2 W (HT1.out W hW)
    have z3 := z2.below hb3 z2.lt
    have k3 : Below w.heap.size w x3 := k2.trans (hb3.mono k2.size)
    have HN : Hid (readR S1 = ⟨numR S1 0, numR S1 1, numR S1 2, numR S1 3 - 1, numR S1 4, numR S1 5, rB (rNs 6 S1) 32, keksR (rV (rN (rNs 6 S1) 32) 1) (rN (rN (rNs 6 S1) 32) 1)⟩) := rfl
    have HRs : Hid (restR S1 = rKs (rV (rN (rNs 6 S1) 32) 1) (rN (rN (rNs 6 S1) 32) 1)) := rfl
    have HNs : Hid (∀ i, i < 6 → ∃ lb lo, la = some ⟨lb, lo, none⟩ ∧ lb < x3.heap.size ∧ x3.cell? ⟨lb, lo + i, none⟩ = some (.int .i64 (numR S1 i))) := fun i hi => by
      have hx : (numsR S1 6)[i]? = some (numR S1 i) := by simp [numsR, hi]
      obtain ⟨lb, lo, vs, hla, hlt, hrg, _, hv⟩ := slN.at hx
      obtain rfl : vs = [.int .i64 (numR S1 i)] := hv
      exact ⟨lb, lo, hla, hlt, by have := hrg 0 _ rfl; rwa [Nat.mul_one, Nat.add_zero] at this⟩
    have HNi : Hid (∀ i, i64 (numR S1 i)) := fun i => cap62_i64 _
    generalize hs6 : rNs 6 S1 = s6 at *
    obtain ⟨g6, hg6⟩ : ∃ g, g = x3.heap.size := ⟨_, rfl⟩
    have z6 : Blk (x3.alloc (.cells #[.slice none 0 0, .int .i64 0] 90)) g6 (rrC none 0 0 0) 90 := Blk.newAt x3 _ _ g6 hg6.symm _ rfl
    have k6 : Below x3.heap.size x3 (x3.alloc (.cells #[.slice none 0 0, .int .i64 0] 90)) := below_alloc _ _
    clear CNs slN hT2 hb3 HT1 z2 k2 hstr b4 l2 l4
    have CB2 : Hid (∀ u, Below x3.heap.size x3 u → Calls Try.prog 46 #[.agg #[.slice a2 n2 c2, .int .i64 s6.2], .int .i64 32] u (RefReads u a2 n2 c2 s6.1 (rdBytes s6.1 s6.2 32))) := fun u hu => rBytes u (HT2.out u (HB2.out.1.below (k3.trans (hu.mono k3.size)) (Nat.le_refl _))) s6.2 32 (by decide) (by decide)
    go_wp2_with (first | ((with_reducible refine at_st 90 ?_); (refine st' 90 (.tmp 6) (.tmp 34) 2 sizeRR x3.heap.size 0 (rrC a2 n2 c2 s6.2) rfl (rr_one _ _ _ _) (by rw [← hg6]; exact z6.there 0 2 (by simp [rrC])) rfl rfl ?_); intro x4 hx4; have b6 : Blk x4 g6 (rrC a2 n2 c2 s6.2) 90 := (by rw [hx4, ← hg6]; exact z6.setsW _ rfl); have kb4 : Below x3.heap.size x3 x4 := (by rw [hx4]; exact below_sets (Nat.le_refl _) _ k6 0); clear hx4) | ((with_reducible refine at_ld 90 ?_); (refine ld 90 (.tmp 6) 2 sizeRR _ Try.underlying90 rfl x3.heap.size 0 (rrC a2 n2 c2 s6.2) rfl (by rw [← hg6]; exact b6.whole) rfl ?_)))
    rw [← hg6]
    have z4 := z3.below kb4 z3.lt
    have k4 : Below w.heap.size w x4 := k3.trans (kb4.mono k3.size)
    have hlg6 : w.heap.size < g6 := by rw [hg6]; exact z3.lt
    have HNs4 : Hid (∀ i, i < 6 → ∃ lb lo, la = some ⟨lb, lo, none⟩ ∧ lb < x4.heap.size ∧ x4.cell? ⟨lb, lo + i, none⟩ = some (.int .i64 (numR S1 i))) := fun i hi => by
      obtain ⟨lb, lo, h1, h2, h3⟩ := HNs.out i hi
      exact ⟨lb, lo, h1, Nat.lt_of_lt_of_le h2 kb4.size, (kb4.cell (p := ⟨lb, lo + i, none⟩) h2).trans h3⟩
    refine (CB2.out x4 kb4).mono ?_
    rintro e x5 ⟨a3, n3, c3, pa, pn, pc, rfl, hT3, hb5⟩
    have HT3 : Hid (∀ W, Bs W a n c b → Bs W a3 n3 c3 (rN s6 32).1) := fun W hW => (hT3 W (HT2.out W hW)).1
    have HPM : Hid (BA A w pa pn pc (rB s6 32)) := BA.part (fun W hW => (hT3 W (HT2.out W hW)).2) HB2.out (Or.inr hn0)
    rw [show (rdBytes s6.1 s6.2 32).2.1 = (rN s6 32).2 from rfl]
    have z5 := z4.below hb5 z4.lt
    have k5 : Below w.heap.size w x5 := k4.trans (hb5.mono k4.size)
    have HNs5 : Hid (∀ i, i < 6 → ∃ lb lo, la = some ⟨lb, lo, none⟩ ∧ lb < x5.heap.size ∧ x5.cell? ⟨lb, lo + i, none⟩ = some (.int .i64 (numR S1 i))) := fun i hi => by
      obtain ⟨lb, lo, h1, h2, h3⟩ := HNs4.out i hi
      exact ⟨lb, lo, h1, Nat.lt_of_lt_of_le h2 hb5.size, (hb5.cell (p := ⟨lb, lo + i, none⟩) h2).trans h3⟩
    generalize rB s6 32 = mb at *
    generalize hs7 : rN s6 32 = s7 at *
    obtain ⟨g8, hg8⟩ : ∃ g, g = x5.heap.size := ⟨_, rfl⟩
    have z8 : Blk (x5.alloc (.cells #[.slice none 0 0, .int .i64 0] 90)) g8 (rrC none 0 0 0) 90 := Blk.newAt x5 _ _ g8 hg8.symm _ rfl
    have k8 : Below x5.heap.size x5 (x5.alloc (.cells #[.slice none 0 0, .int .i64 0] 90)) := below_alloc _ _
    clear CB2 HT2 hT3 hb5 kb4 HNs HNs4 z3 z4 k3 k4 z6 k6 b6 hg6 hs6 hs7
    have CN2 : Hid (∀ u, Below x5.heap.size x5 u → Calls Try.prog 48 #[.agg (rrC a3 n3 c3 s7.2).toArray, .int .i64 1] u fun e w' => ∃ a' n' q', e = .returned (.tuple #[.agg (rrC a' n' q' (rN s7 1).2).toArray, .int .u64 (rV s7 1 : Nat)]) ∧ (∀ W, Bs W a3 n3 c3 s7.1 → Bs W a' n' q' (rN s7 1).1) ∧ Below u.heap.size u w') := fun u hu => rNumber u (HT3.out u (HB2.out.1.below (k5.trans (hu.mono k5.size)) (Nat.le_refl _))) s7.2 1 (by decide) (by decide)
    have hcnt : rV s7 1 ≤ 255 := rV1 _
    go_wp2_with (first | ((with_reducible refine at_st 90 ?_); (refine st' 90 (.tmp 8) (.tmp 39) 2 sizeRR x5.heap.size 0 (rrC a3 n3 c3 s7.2) rfl (rr_one _ _ _ _) (by rw [← hg8]; exact z8.there 0 2 (by simp [rrC])) rfl rfl ?_); intro x6 hx6; have b8 : Blk x6 g8 (rrC a3 n3 c3 s7.2) 90 := (by rw [hx6, ← hg8]; exact z8.setsW _ rfl); have kb6 : Below x5.heap.size x5 x6 := (by rw [hx6]; exact below_sets (Nat.le_refl _) _ k8 0); clear hx6) | ((with_reducible refine at_ld 90 ?_); (refine ld 90 (.tmp 8) 2 sizeRR _ Try.underlying90 rfl x5.heap.size 0 (rrC a3 n3 c3 s7.2) rfl (by rw [← hg8]; exact b8.whole) rfl ?_)))
    rw [← hg8]
    have z6 := z5.below kb6 z5.lt
    have k6 : Below w.heap.size w x6 := k5.trans (kb6.mono k5.size)
    refine (CN2.out x6 kb6).mono ?_
    rintro e x7 ⟨a4, n4, c4, rfl, hT4, hb7⟩
    have HT4 : Hid (∀ W, Bs W a n c b → Bs W a4 n4 c4 (rN s7 1).1) := fun W hW => hT4 W (HT3.out W hW)
    have z7 := z6.below hb7 z6.lt
    have k7 : Below w.heap.size w x7 := k6.trans (hb7.mono k6.size)
    have HNs7 : Hid (∀ i, i < 6 → ∃ lb lo, la = some ⟨lb, lo, none⟩ ∧ lb < x7.heap.size ∧ x7.cell? ⟨lb, lo + i, none⟩ = some (.int .i64 (numR S1 i))) := fun i hi => by
      obtain ⟨lb, lo, h1, h2, h3⟩ := HNs5.out i hi
      have h4 := Nat.lt_of_lt_of_le h2 kb6.size
      exact ⟨lb, lo, h1, Nat.lt_of_lt_of_le h4 hb7.size, ((hb7.cell (p := ⟨lb, lo + i, none⟩) h4).trans (kb6.cell (p := ⟨lb, lo + i, none⟩) h2)).trans h3⟩
    generalize rV s7 1 = cnt at *
    generalize hsk : rN s7 1 = sk at *
    obtain ⟨g10, hg10⟩ : ∃ g, g = x7.heap.size := ⟨_, rfl⟩
    have z10 : Blk (x7.alloc (.cells #[.slice none 0 0, .int .i64 0] 90)) g10 (rrC none 0 0 0) 90 := Blk.newAt x7 _ _ g10 hg10.symm _ rfl
    have k10 : Below x7.heap.size x7 (x7.alloc (.cells #[.slice none 0 0, .int .i64 0] 90)) := below_alloc _ _
    clear CN2 HT3 hT4 hb7 kb6 HNs5 z5 z6 k5 k6 z8 k8 b8 hg8 hsk
    go_upto_region 7 with ((with_reducible refine at_st 90 ?_); (refine st' 90 (.tmp 10) (.tmp 44) 2 sizeRR x7.heap.size 0 (rrC a4 n4 c4 sk.2) rfl (rr_one _ _ _ _) (by rw [← hg10]; exact z10.there 0 2 (by simp [rrC])) rfl rfl ?_); intro x8 hx8; have b10 : Blk x8 g10 (rrC a4 n4 c4 sk.2) 90 := (by rw [hx8, ← hg10]; exact z10.setsW _ rfl); have kb8 : Below x7.heap.size x7 x8 := (by rw [hx8]; exact below_sets (Nat.le_refl _) _ k10 0); clear hx8)
    rw [← hg10]
    have z8 := z7.below kb8 z7.lt
    have k8 : Below w.heap.size w x8 := k7.trans (kb8.mono k7.size)
    have hl10 : w.heap.size < g10 := by rw [hg10]; exact z7.lt
    obtain ⟨lb, lo, hla, hlb7, cn0⟩ := HNs7.out 0 (by decide)
    subst hla
    have hlb := Nat.lt_of_lt_of_le hlb7 kb8.size
    have CE : Hid (∀ i, i < 6 → ∀ u, Grows x8 u → u.cell? ⟨lb, lo + i, none⟩ = some (.int .i64 (numR S1 i))) := fun i hi u hu => by
      obtain ⟨lb2, lo2, h1, h2, h3⟩ := HNs7.out i hi
      simp only [Option.some.injEq, Addr.mk.injEq] at h1
      obtain ⟨rfl, rfl, _⟩ := h1
      exact ((Below.cell hu (p := ⟨lb, lo + i, none⟩) hlb).trans (kb8.cell (p := ⟨lb, lo + i, none⟩) h2)).trans h3
    have hi3 := HNi.out 3
    have hcp := cap62_pos (rV (rNs 3 S1) 8)
    have E0 : ∀ u, Grows x8 u → u.cell? ⟨lb, lo, none⟩ = some (.int .i64 (numR S1 0)) := CE.out 0 (by decide)
    have E1 : ∀ u, Grows x8 u → u.cell? ⟨lb, lo + 1, none⟩ = some (.int .i64 (numR S1 1)) := CE.out 1 (by decide)
    have E2 : ∀ u, Grows x8 u → u.cell? ⟨lb, lo + 2, none⟩ = some (.int .i64 (numR S1 2)) := CE.out 2 (by decide)
    have E3 : ∀ u, Grows x8 u → u.cell? ⟨lb, lo + 3, none⟩ = some (.int .i64 (numR S1 3)) := CE.out 3 (by decide)
    have E4 : ∀ u, Grows x8 u → u.cell? ⟨lb, lo + 4, none⟩ = some (.int .i64 (numR S1 4)) := CE.out 4 (by decide)
    have E5 : ∀ u, Grows x8 u → u.cell? ⟨lb, lo + 5, none⟩ = some (.int .i64 (numR S1 5)) := CE.out 5 (by decide)
    have HLB : ∀ u, Grows x8 u → lb < u.heap.size := fun u hu => Nat.lt_of_lt_of_le hlb (Below.size hu)
    rw [show numR S1 3 = cap62 (rV (rNs 3 S1) 8) from rfl] at E3 hi3 HN
    have HI6 : Hid (numsI ⟨numR S1 0, numR S1 1, numR S1 2, cap62 (rV (rNs 3 S1) 8) - 1, numR S1 4, numR S1 5, mb, []⟩) := ⟨HNi.out 0, HNi.out 1, HNi.out 2, ⟨by show _ ≤ cap62 _ - 1; omega, by show cap62 _ - 1 ≤ _; have := hi3.2; omega⟩, HNi.out 4, HNi.out 5⟩
    have b31 : -9223372036854775808 ≤ cap62 (rV (rNs 3 S1) 8) - 1 := by omega
    have b32 : cap62 (rV (rNs 3 S1) 8) - 1 ≤ 9223372036854775807 := by have := hi3.2; omega
    have w3 : IntKind.i64.wrap (cap62 (rV (rNs 3 S1) 8) - 1) = cap62 (rV (rNs 3 S1) 8) - 1 := by rw [IntKind.wrap_i64]; omega
    generalize cap62 (rV (rNs 3 S1) 8) = m3 at *
    generalize numR S1 0 = m0 at *
    generalize numR S1 1 = m1 at *
    generalize numR S1 2 = m2 at *
    generalize numR S1 4 = m4 at *
    generalize numR S1 5 = m5 at *
    clear HNs7 CE HNi cn0 kb8 z7 k7 z10 k10 hg10 hlb7 hi3 hcp
    refine regionE 22 (S := Grows x8) (by kernel_rfl) (Below.refl _ x8).drew ?_
    refine takeT 0 (some 46) (.slice (some ⟨lb, lo, none⟩) 6 lc) rfl rfl (by kernel_rfl) (fun _ _ _ h => h) (ans_plain (by rfl) (fun w _ => rfl)) ?_
    simp only [Act.put, List.setIfInBounds_toArray, List.set_cons_zero, List.set_cons_succ]
    refine takeT 1 (some 47) (.pointer (some ⟨lb, lo, none⟩)) rfl rfl (by kernel_rfl) (fun _ _ _ h => h) (ans_plain (by rfl) (fun w _ => by unfold execOp; go_simp)) ?_
    simp only [Act.put, List.setIfInBounds_toArray, List.set_cons_zero, List.set_cons_succ]
    refine takeT 2 (some 48) (.int .i64 m0) rfl rfl (by kernel_rfl) (fun _ _ _ h => h) (ans_plain (by rfl) (fun w h => by have hc := E0 w h; have hl := HLB w h; unfold execOp; go_simp)) ?_
    simp only [Act.put, List.setIfInBounds_toArray, List.set_cons_zero, List.set_cons_succ]
    refine takeT 3 (some 49) (.slice (some ⟨lb, lo, none⟩) 6 lc) rfl rfl (by kernel_rfl) (fun _ _ _ h => h) (ans_plain (by rfl) (fun w _ => rfl)) ?_
    simp only [Act.put, List.setIfInBounds_toArray, List.set_cons_zero, List.set_cons_succ]
    refine takeT 4 (some 50) (.pointer (some ⟨lb, lo + 1, none⟩)) rfl rfl (by kernel_rfl) (fun _ _ _ h => h) (ans_plain (by rfl) (fun w _ => by unfold execOp; go_simp)) ?_
    simp only [Act.put, List.setIfInBounds_toArray, List.set_cons_zero, List.set_cons_succ]
    refine takeT 5 (some 51) (.int .i64 m1) rfl rfl (by kernel_rfl) (fun _ _ _ h => h) (ans_plain (by rfl) (fun w h => by have hc := E1 w h; have hl := HLB w h; unfold execOp; go_simp)) ?_
    simp only [Act.put, List.setIfInBounds_toArray, List.set_cons_zero, List.set_cons_succ]
    refine takeT 6 (some 52) (.slice (some ⟨lb, lo, none⟩) 6 lc) rfl rfl (by kernel_rfl) (fun _ _ _ h => h) (ans_plain (by rfl) (fun w _ => rfl)) ?_
    simp only [Act.put, List.setIfInBounds_toArray, List.set_cons_zero, List.set_cons_succ]
    refine takeT 7 (some 53) (.pointer (some ⟨lb, lo + 2, none⟩)) rfl rfl (by kernel_rfl) (fun _ _ _ h => h) (ans_plain (by rfl) (fun w _ => by unfold execOp; go_simp)) ?_
    simp only [Act.put, List.setIfInBounds_toArray, List.set_cons_zero, List.set_cons_succ]
    refine takeT 8 (some 54) (.int .i64 m2) rfl rfl (by kernel_rfl) (fun _ _ _ h => h) (ans_plain (by rfl) (fun w h => by have hc := E2 w h; have hl := HLB w h; unfold execOp; go_simp)) ?_
    simp only [Act.put, List.setIfInBounds_toArray, List.set_cons_zero, List.set_cons_succ]
    refine takeT 9 (some 55) (.slice (some ⟨lb, lo, none⟩) 6 lc) rfl rfl (by kernel_rfl) (fun _ _ _ h => h) (ans_plain (by rfl) (fun w _ => rfl)) ?_
    simp only [Act.put, List.setIfInBounds_toArray, List.set_cons_zero, List.set_cons_succ]
    refine takeT 10 (some 56) (.pointer (some ⟨lb, lo + 3, none⟩)) rfl rfl (by kernel_rfl) (fun _ _ _ h => h) (ans_plain (by rfl) (fun w _ => by unfold execOp; go_simp)) ?_
    simp only [Act.put, List.setIfInBounds_toArray, List.set_cons_zero, List.set_cons_succ]
    refine takeT 11 (some 57) (.int .i64 m3) rfl rfl (by kernel_rfl) (fun _ _ _ h => h) (ans_plain (by rfl) (fun w h => by have hc := E3 w h; have hl := HLB w h; unfold execOp; go_simp)) ?_
    simp only [Act.put, List.setIfInBounds_toArray, List.set_cons_zero, List.set_cons_succ]
    refine takeT 12 (some 58) (.int .i64 (m3 - 1)) rfl rfl (by kernel_rfl) (fun _ _ _ h => h) (ans_plain (by rfl) (fun w _ => by unfold execOp; go_simp)) ?_
    simp only [Act.put, List.setIfInBounds_toArray, List.set_cons_zero, List.set_cons_succ]
    refine takeT 13 (some 59) (.slice (some ⟨lb, lo, none⟩) 6 lc) rfl rfl (by kernel_rfl) (fun _ _ _ h => h) (ans_plain (by rfl) (fun w _ => rfl)) ?_
    simp only [Act.put, List.setIfInBounds_toArray, List.set_cons_zero, List.set_cons_succ]
    refine takeT 14 (some 60) (.pointer (some ⟨lb, lo + 4, none⟩)) rfl rfl (by kernel_rfl) (fun _ _ _ h => h) (ans_plain (by rfl) (fun w _ => by unfold execOp; go_simp)) ?_
    simp only [Act.put, List.setIfInBounds_toArray, List.set_cons_zero, List.set_cons_succ]
    refine takeT 15 (some 61) (.int .i64 m4) rfl rfl (by kernel_rfl) (fun _ _ _ h => h) (ans_plain (by rfl) (fun w h => by have hc := E4 w h; have hl := HLB w h; unfold execOp; go_simp)) ?_
    simp only [Act.put, List.setIfInBounds_toArray, List.set_cons_zero, List.set_cons_succ]
    refine takeT 16 (some 62) (.slice (some ⟨lb, lo, none⟩) 6 lc) rfl rfl (by kernel_rfl) (fun _ _ _ h => h) (ans_plain (by rfl) (fun w _ => rfl)) ?_
    simp only [Act.put, List.setIfInBounds_toArray, List.set_cons_zero, List.set_cons_succ]
    refine takeT 17 (some 63) (.pointer (some ⟨lb, lo + 5, none⟩)) rfl rfl (by kernel_rfl) (fun _ _ _ h => h) (ans_plain (by rfl) (fun w _ => by unfold execOp; go_simp)) ?_
    simp only [Act.put, List.setIfInBounds_toArray, List.set_cons_zero, List.set_cons_succ]
    refine takeT 18 (some 64) (.int .i64 m5) rfl rfl (by kernel_rfl) (fun _ _ _ h => h) (ans_plain (by rfl) (fun w h => by have hc := E5 w h; have hl := HLB w h; unfold execOp; go_simp)) ?_
    simp only [Act.put, List.setIfInBounds_toArray, List.set_cons_zero, List.set_cons_succ]
    refine takeT 19 (some 65) (.slice pa pn pc) rfl rfl (by kernel_rfl) (fun _ _ _ h => h) (ans_plain (by rfl) (fun w _ => rfl)) ?_
    simp only [Act.put, List.setIfInBounds_toArray, List.set_cons_zero, List.set_cons_succ]
    refine takeT 20 (some 66) (.agg (anc ⟨m0, m1, m2, m3 - 1, m4, m5, mb, []⟩ ⟨pa, pn, pc⟩ t0).toArray) rfl rfl (by kernel_rfl) (fun _ _ _ h => h) (ans_plain (by rfl) (fun w _ => by unfold execOp; go_simp; try rfl)) ?_
    simp only [Act.put, List.setIfInBounds_toArray, List.set_cons_zero, List.set_cons_succ]
    refine oneE 21 (by kernel_rfl) (by kernel_rfl) fun u1 hg1 hs1 => ?_
    refine Makes.op (cells := #[.int .i64 0, .int .i64 0, .int .i64 0, .int .i64 0, .int .i64 0, .int .i64 0, .slice none 0 0, .slice none 0 0]) (t := 25) ⟨_, rfl, rfl, rfl, fun ρ w => rfl⟩ ?_
    refine ⟨Grows.trans hs1 (below_alloc _ _), ?_⟩
    simp only [Act.put, List.setIfInBounds_toArray, List.set_cons_zero, List.set_cons_succ]
    obtain ⟨g12, hg12⟩ : ∃ g, g = u1.heap.size := ⟨_, rfl⟩
    have zg : Blk (u1.alloc (.cells #[.int .i64 0, .int .i64 0, .int .i64 0, .int .i64 0, .int .i64 0, .int .i64 0, .slice none 0 0, .slice none 0 0] 25)) g12 zanc 25 := Blk.newAt u1 _ _ g12 hg12.symm _ rfl
    have su1 : Grows x8 (u1.alloc (.cells #[.int .i64 0, .int .i64 0, .int .i64 0, .int .i64 0, .int .i64 0, .int .i64 0, .slice none 0 0, .slice none 0 0] 25)) := Grows.trans hs1 (below_alloc _ _)
    have hlg12 : g10 < g12 := by rw [hg12]; exact Nat.lt_of_lt_of_le b10.lt (Below.size hs1)
    rw [← hg12]
    generalize u1.alloc (.cells #[.int .i64 0, .int .i64 0, .int .i64 0, .int .i64 0, .int .i64 0, .int .i64 0, .slice none 0 0, .slice none 0 0] 25) = u2 at *
    clear hg12 hs1 hg1
    refine lastE (by kernel_rfl) (by kernel_rfl) (by kernel_rfl) (by kernel_rfl) fun u3 hg3 hs3 => ?_
    refine opStR 22 25 (.tmp 12) (.tmp 66) 8 rfl rfl rfl rfl g12 _ (anc ⟨m0, m1, m2, m3 - 1, m4, m5, mb, []⟩ ⟨pa, pn, pc⟩ t0) 25 (zg.below hg3 zg.lt) rfl rfl (anc_one _ _ _) sizeAn rfl rfl fun u4 b12 k12 => ?_
    intro x9 hg9
    have b10u : Blk u4 g10 (rrC a4 n4 c4 sk.2) 90 := k12.blk (b10.below hs3 b10.lt) (by omega)
    have z0u : Blk u4 w.heap.size zanc 25 := k12.blk (z8.below hs3 z8.lt) (by omega)
    have k9 : Below w.heap.size w x9 := (below_kp (k8.trans (Below.mono hs3 k8.size)) k12 (Nat.le_trans k8.size (Below.size hs3)) (fun j hj e => by omega)).trans (Below.mono hg9 (Nat.le_trans (Nat.le_trans k8.size (Below.size hs3)) k12.size))
    have I0 : Hid (GtI A w a n c b g10 g12 ⟨m0, m1, m2, m3 - 1, m4, m5, mb, []⟩ ⟨pa, pn, pc⟩ sk 0 a4 n4 c4 t0 x9) := ⟨HT4.out, z0u.below hg9 z0u.lt, b10u.below hg9 b10u.lt, b12.below hg9 b12.lt, OwS.nil _ _ _ _ _, k9, hl10, hlg12, Nat.lt_of_lt_of_le b12.lt (Below.size hg9)⟩
    have HLc : Hid (w.heap.size < g10 ∧ g10 < g12) := ⟨hl10, hlg12⟩
    clear b10 z8 k8 b10u z0u k9 b12 k12 zg su1 hg3 hs3 hg9 E0 E1 E2 E3 E4 E5 HT4 hl10 hlg12 b31 b32 w3
    go_wp2_with fail
    have wcn : IntKind.i64.wrap (cnt : Int) = (cnt : Int) := by rw [IntKind.wrap_i64]; omega
    go_loopw [13] (fun i wr => ∃ (k : Nat) (a' : Option Addr) (n' c' : Nat) (q2 : Tri), k ≤ cnt ∧ i = .int .i64 (k : Int) ∧ Hid (GtI A w a n c b g10 g12 ⟨m0, m1, m2, m3 - 1, m4, m5, mb, []⟩ ⟨pa, pn, pc⟩ sk k a' n' c' q2 wr)) (fun i _ => cnt - (intOf i).toNat)
    case atStart => exact ⟨0, a4, n4, c4, t0, Nat.zero_le _, rfl, I0⟩
    case round =>
      clear I0
      obtain ⟨k, a5, n5, c5, q2, hk, rfl, HI⟩ := hrel
      obtain ⟨qa, qn, qc⟩ := q2
      have b1 := HI.out.b1
      have b2 := HI.out.b2
      by_cases hlt : k < cnt
      · have i0 : (k : Int) < (cnt : Int) := by omega
        have HT5 : Hid (∀ W, Bs W a n c b → Bs W a5 n5 c5 (rKs k sk).1) := HI.out.t
        have EK : Hid (keksR (k + 1) sk = keksR k sk ++ [⟨(rV (rKs k sk) 2 : Nat), (rV (rN (rKs k sk) 2) 2 : Nat), rB (rN (rN (rKs k sk) 2) 2) 32⟩]) := rfl
        have ER : Hid (rKs (k + 1) sk = rN (rN (rN (rKs k sk) 2) 2) 32) := rfl
        have HKS : Hid (OwS (elK fun j => A j ∧ j < w.heap.size) 3 78 wr (g12 + 1) (.slice qa qn qc) (keksR k sk)) := HI.out.ks
        have hkl := keksR_len k sk
        have HZ : Hid (Blk wr w.heap.size zanc 25) := HI.out.b0
        have HBe : Hid (Below w.heap.size w wr) := HI.out.be
        have hlc := HI.out.lt
        generalize keksR k sk = kk at *
        generalize rKs k sk = s1 at *
        have CN1 : Hid (Calls Try.prog 48 #[.agg (rrC a5 n5 c5 s1.2).toArray, .int .i64 2] wr fun e w' => ∃ a' n' q', e = .returned (.tuple #[.agg (rrC a' n' q' (rN s1 2).2).toArray, .int .u64 (rV s1 2 : Nat)]) ∧ (∀ W, Bs W a5 n5 c5 s1.1 → Bs W a' n' q' (rN s1 2).1) ∧ Below wr.heap.size wr w') := rNumber wr (HT5.out wr (HB2.out.1.below HBe.out (Nat.le_refl _))) s1.2 2 (by decide) (by decide)
        have E1 := rV2 s1
        have E2 := rV2 (rN s1 2)
        clear HI
        go_wp2_with ((with_reducible refine at_ld 90 ?_); (refine ld 90 (.tmp 10) 2 sizeRR _ Try.underlying90 rfl g10 0 (rrC a5 n5 c5 s1.2) rfl (b1.whole) rfl ?_))
        refine CN1.out.mono ?_
        rintro e y1 ⟨a6, n6, c6, rfl, hT6, hb1⟩
        have HT6 : Hid (∀ W, Bs W a n c b → Bs W a6 n6 c6 (rN s1 2).1) := fun W hW => hT6 W (HT5.out W hW)
        generalize rV s1 2 = e1 at *
        generalize rN s1 2 = s2 at *
        obtain ⟨g14, hg14⟩ : ∃ g, g = y1.heap.size := ⟨_, rfl⟩
        have z14 : Blk (y1.alloc (.cells #[.slice none 0 0, .int .i64 0] 90)) g14 (rrC none 0 0 0) 90 := Blk.newAt y1 _ _ g14 hg14.symm _ rfl
        have k14 : Below y1.heap.size y1 (y1.alloc (.cells #[.slice none 0 0, .int .i64 0] 90)) := below_alloc _ _
        have ky1 : Below w.heap.size w y1 := HBe.out.trans (hb1.mono HBe.out.size)
        have CN2 : Hid (∀ u, Below y1.heap.size y1 u → Calls Try.prog 48 #[.agg (rrC a6 n6 c6 s2.2).toArray, .int .i64 2] u fun e w' => ∃ a' n' q', e = .returned (.tuple #[.agg (rrC a' n' q' (rN s2 2).2).toArray, .int .u64 (rV s2 2 : Nat)]) ∧ (∀ W, Bs W a6 n6 c6 s2.1 → Bs W a' n' q' (rN s2 2).1) ∧ Below u.heap.size u w') := fun u hu => rNumber u (HT6.out u (HB2.out.1.below (ky1.trans (hu.mono ky1.size)) (Nat.le_refl _))) s2.2 2 (by decide) (by decide)
        clear CN1 hT6 HT5
        go_wp2_with (first | ((with_reducible refine at_st 90 ?_); (refine st' 90 (.tmp 14) (.tmp 76) 2 sizeRR y1.heap.size 0 (rrC a6 n6 c6 s2.2) rfl (rr_one _ _ _ _) (by rw [← hg14]; exact z14.there 0 2 (by simp [rrC])) rfl rfl ?_); intro y2 hy2; have b14 : Blk y2 g14 (rrC a6 n6 c6 s2.2) 90 := (by rw [hy2, ← hg14]; exact z14.setsW _ rfl); have kb2 : Below y1.heap.size y1 y2 := (by rw [hy2]; exact below_sets (Nat.le_refl _) _ k14 0); clear hy2) | ((with_reducible refine at_ld 90 ?_); (refine ld 90 (.tmp 14) 2 sizeRR _ Try.underlying90 rfl y1.heap.size 0 (rrC a6 n6 c6 s2.2) rfl (by rw [← hg14]; exact b14.whole) rfl ?_)))
        refine (CN2.out y2 kb2).mono ?_
        rintro e y3 ⟨a7, n7, c7, rfl, hT7, hb3⟩
        have HT7 : Hid (∀ W, Bs W a n c b → Bs W a7 n7 c7 (rN s2 2).1) := fun W hW => hT7 W (HT6.out W hW)
        generalize rV s2 2 = e2 at *
        generalize rN s2 2 = s3 at *
        obtain ⟨g16, hg16⟩ : ∃ g, g = y3.heap.size := ⟨_, rfl⟩
        have z16 : Blk (y3.alloc (.cells #[.slice none 0 0, .int .i64 0] 90)) g16 (rrC none 0 0 0) 90 := Blk.newAt y3 _ _ g16 hg16.symm _ rfl
        have k16 : Below y3.heap.size y3 (y3.alloc (.cells #[.slice none 0 0, .int .i64 0] 90)) := below_alloc _ _
        have kw3 : Below wr.heap.size wr y3 := (hb1.trans (kb2.mono hb1.size)).trans (hb3.mono (Nat.le_trans hb1.size kb2.size))
        have ky3 : Below w.heap.size w y3 := HBe.out.trans (kw3.mono HBe.out.size)
        have CB3 : Hid (∀ u, Below y3.heap.size y3 u → Calls Try.prog 46 #[.agg #[.slice a7 n7 c7, .int .i64 s3.2], .int .i64 32] u (RefReads u a7 n7 c7 s3.1 (rdBytes s3.1 s3.2 32))) := fun u hu => rBytes u (HT7.out u (HB2.out.1.below (ky3.trans (hu.mono ky3.size)) (Nat.le_refl _))) s3.2 32 (by decide) (by decide)
        clear CN2 hT7 HT6 hb1 kb2 hb3 ky1 z14 k14 b14
        go_wp2_with (first | ((with_reducible refine at_st 90 ?_); (refine st' 90 (.tmp 16) (.tmp 81) 2 sizeRR y3.heap.size 0 (rrC a7 n7 c7 s3.2) rfl (rr_one _ _ _ _) (by rw [← hg16]; exact z16.there 0 2 (by simp [rrC])) rfl rfl ?_); intro y4 hy4; have b16 : Blk y4 g16 (rrC a7 n7 c7 s3.2) 90 := (by rw [hy4, ← hg16]; exact z16.setsW _ rfl); have kb4 : Below y3.heap.size y3 y4 := (by rw [hy4]; exact below_sets (Nat.le_refl _) _ k16 0); clear hy4) | ((with_reducible refine at_ld 90 ?_); (refine ld 90 (.tmp 16) 2 sizeRR _ Try.underlying90 rfl y3.heap.size 0 (rrC a7 n7 c7 s3.2) rfl (by rw [← hg16]; exact b16.whole) rfl ?_)))
        refine (CB3.out y4 kb4).mono ?_
        rintro e y5 ⟨a8, n8, c8, ka, kn, kc, rfl, hT8, hb5⟩
        have HT8 : Hid (∀ W, Bs W a n c b → Bs W a8 n8 c8 (rN s3 32).1) := fun W hW => (hT8 W (HT7.out W hW)).1
        have HKB : Hid (BA (fun j => A j ∧ j < w.heap.size) w ka kn kc (rB s3 32)) := (BA.part (fun W hW => (hT8 W (HT7.out W hW)).2) HB2.out (Or.inr hn0)).mono (fun j hj ha => ⟨ha, hj⟩)
        rw [show (rdBytes s3.1 s3.2 32).2.1 = (rN s3 32).2 from rfl]
        generalize rB s3 32 = kb at *
        generalize rN s3 32 = s4 at *
        obtain ⟨g18, hg18⟩ : ∃ g, g = y5.heap.size := ⟨_, rfl⟩
        have z18 : Blk (y5.alloc (.cells #[.slice none 0 0, .int .i64 0] 90)) g18 (rrC none 0 0 0) 90 := Blk.newAt y5 _ _ g18 hg18.symm _ rfl
        have k18 : Below y5.heap.size y5 (y5.alloc (.cells #[.slice none 0 0, .int .i64 0] 90)) := below_alloc _ _
        have kw5 : Below wr.heap.size wr y5 := (kw3.trans (kb4.mono kw3.size)).trans (hb5.mono (Nat.le_trans kw3.size kb4.size))
        have b1y := b1.below kw5 b1.lt
        have b2y := b2.below kw5 b2.lt
        have z0y := HZ.out.below kw5 HZ.out.lt
        have ksy := OwK.below HKS.out kw5
        have ky5 : Below w.heap.size w y5 := HBe.out.trans (kw5.mono HBe.out.size)
        have we1 : IntKind.i64.wrap (e1 : Int) = (e1 : Int) := by rw [IntKind.wrap_i64]; omega
        have we2 : IntKind.i64.wrap (e2 : Int) = (e2 : Int) := by rw [IntKind.wrap_i64]; omega
        have hg18b : g12 < g18 := by rw [hg18]; exact b2y.lt
        clear CB3 hT8 HT7 hb5 kw3 ky3 kb4 z16 k16 b16 b1 b2 HZ HKS kw5 HBe hg14 hg16
        go_wp2_with (first
          | ((with_reducible refine at_st 90 ?_); (first
            | ((refine st' 90 (.tmp 18) (.tmp 86) 2 sizeRR y5.heap.size 0 (rrC a8 n8 c8 s4.2) rfl (rr_one _ _ _ _) (by rw [← hg18]; exact z18.there 0 2 (by simp [rrC])) rfl rfl ?_); intro y6 hy6; have b18 : Blk y6 g18 (rrC a8 n8 c8 s4.2) 90 := (by rw [hy6, ← hg18]; exact z18.setsW _ rfl); have k6 : Below y5.heap.size y5 y6 := (by rw [hy6]; exact below_sets (Nat.le_refl _) _ k18 0); have b1z := b1y.below k6 b1y.lt; clear hy6)
            | ((refine st' 90 (.tmp 10) (.tmp 88) 2 sizeRR g10 0 (rrC a8 n8 c8 s4.2) rfl (rr_one _ _ _ _) (b1z.there 0 2 (by simp [rrC])) rfl rfl ?_); intro y7 hy7; have b1w : Blk y7 g10 (rrC a8 n8 c8 s4.2) 90 := (by rw [hy7]; exact b1z.setsW _ rfl); have k7 : Kp (fun j => j = g10) y6 y7 := (by rw [hy7]; exact Kp.of_grown (but_cells' _ _ _ _)); clear hy7; have b2w : Blk y7 g12 (anc ⟨m0, m1, m2, m3 - 1, m4, m5, mb, []⟩ ⟨pa, pn, pc⟩ ⟨qa, qn, qc⟩) 25 := k7.blk (b2y.below k6 b2y.lt) (by omega); have d7 : y7.cell? ⟨g12, 7, none⟩ = some (.slice qa qn qc) := b2w.cell 7; have lw7 := b2w.lt; have ks7 : OwS (elK fun j => A j ∧ j < w.heap.size) 3 78 y7 (g12 + 1) (.slice qa qn qc) kk := OwK.keep (OwK.below ksy k6) k7.size (fun j hj ha => k7.block j hj (by have := ha.2; omega)) (fun j hj => k7.block j ((OwK.below ksy k6).lt j hj).2 (by have := ((OwK.below ksy k6).lt j hj).1; omega)); have ks8 : OwS (elK fun j => A j ∧ j < w.heap.size) 3 78 (y7.alloc (.cells #[.int .i64 (e1 : Int), .int .i64 (e2 : Int), .slice ka kn kc] 78)) (g12 + 1) (.slice qa qn qc) kk := OwK.below ks7 (below_alloc _ _); have bl : Blk (y7.alloc (.cells #[.int .i64 (e1 : Int), .int .i64 (e2 : Int), .slice ka kn kc] 78)) y7.heap.size (kkc ⟨(e1 : Int), (e2 : Int), kb⟩ ka kn kc) 78 := Blk.newAt y7 _ _ y7.heap.size rfl _ rfl; have ky7 : Below w.heap.size w y7 := below_kp (ky5.trans (k6.mono ky5.size)) k7 (Nat.le_trans ky5.size k6.size) (fun j hj e => by omega); have src : Sl (elK fun j => A j ∧ j < w.heap.size) 3 (fun _ => True) (y7.alloc (.cells #[.int .i64 (e1 : Int), .int .i64 (e2 : Int), .slice ka kn kc] 78)) (some ⟨y7.heap.size, 0, none⟩) 1 1 [⟨(e1 : Int), (e2 : Int), kb⟩] := Sl.one bl ⟨rfl, kkc_one _ _ _ _, ka, kn, kc, rfl, (HKB.out.keep ky7.size (fun j hj _ => ky7.block j hj)).keep (below_alloc y7 _).size (fun j hj _ => (below_alloc y7 _).block j hj), ⟨by show _ ≤ (e1 : Int); omega, by show (e1 : Int) ≤ _; omega⟩, ⟨by show _ ≤ (e2 : Int); omega, by show (e2 : Int) ≤ _; omega⟩⟩ trivial)))
          | ((with_reducible refine at_ld 90 ?_); (refine ld 90 (.tmp 18) 2 sizeRR _ Try.underlying90 rfl y5.heap.size 0 (rrC a8 n8 c8 s4.2) rfl (by rw [← hg18]; exact b18.whole) rfl ?_))
          | (at_builtin; refine wpList_slapp (elK fun j => A j ∧ j < w.heap.size) 3 40 23 78 _ Try.underlying23 infoKk rfl (by decide) (by decide) (y7.alloc (.cells #[.int .i64 (e1 : Int), .int .i64 (e2 : Int), .slice ka kn kc] 78)) rfl (.tmp 90) (.tmp 97) rfl (g12 + 1) (.slice qa qn qc) kk rfl ks8 (fun _ => True) (some ⟨y7.heap.size, 0, none⟩) 1 1 [⟨(e1 : Int), (e2 : Int), kb⟩] rfl src (by rw [hkl]; simp; omega) (by simp; omega) (fun w' y vs hg hy => elK.keep hg.size (fun j hj ha => hg.block j hj (fun e => by have := (ks8.lt j e.symm).1; have := ha.2; omega)) y vs hy) ?_; intro v8 y8 o8 g8; obtain ⟨a9, m9, c9, rfl, hm9⟩ := o8.shape; have b2x : Blk y8 g12 (anc ⟨m0, m1, m2, m3 - 1, m4, m5, mb, []⟩ ⟨pa, pn, pc⟩ ⟨qa, qn, qc⟩) 25 := (by unfold Blk; rw [g8.block g12 (b2w.old _).lt (fun e => by have := (ks8.lt g12 e.symm).1; omega)]; exact b2w.old _); have d8 : y8.cell? ⟨g12, 7, none⟩ = some (.slice qa qn qc) := b2x.cell 7; have f8 := b2x.free 7; have l8 := b2x.lt))
        have HI9 : Hid (GtI A w a n c b g10 g12 ⟨m0, m1, m2, m3 - 1, m4, m5, mb, []⟩ ⟨pa, pn, pc⟩ sk (k + 1) a8 n8 c8 ⟨a9, m9, c9⟩ (y8.setCell ⟨g12, 7, none⟩ (.slice a9 m9 c9))) := by
          have k8 : Below (g12 + 1) (y7.alloc (.cells #[.int .i64 (e1 : Int), .int .i64 (e2 : Int), .slice ka kn kc] 78)) y8 := (Below.refl _ _).grown g8 (by simp; omega) (fun j hj => (ks8.lt j hj).1)
          have b1x : Blk y8 g10 (rrC a8 n8 c8 s4.2) 90 := (b1w.old _).below k8 (by omega)
          have z0w : Blk y7 w.heap.size zanc 25 := k7.blk (z0y.below k6 z0y.lt) (by omega)
          have z0x : Blk y8 w.heap.size zanc 25 := (z0w.old _).below k8 (by omega)
          have kx : Below w.heap.size w y8 := (ky7.trans ((below_alloc y7 _).mono ky7.size)).trans (k8.mono (by omega))
          have ks9 : Kp (fun j => j = g12) y8 (y8.setCell ⟨g12, 7, none⟩ (.slice a9 m9 c9)) := Kp.setC (F := fun j => j = g12) rfl _ _
          refine ⟨by rw [ER.out]; exact HT8.out, ks9.blk z0x (by omega), by rw [ER.out]; exact ks9.blk b1x (by omega), ?_, ?_, below_kp kx ks9 kx.size (fun j hj e => by omega), hlc.1, hlc.2.1, Nat.lt_of_lt_of_le b2x.lt ks9.size⟩
          · exact b2x.setC 7 (.slice a9 m9 c9)
          · rw [EK.out]
            exact OwK.keep o8 ks9.size (fun j hj ha => ks9.block j hj (by have := ha.2; omega)) (fun j hj => ks9.block j (o8.lt j hj).2 (by have := (o8.lt j hj).1; omega))
        clear b2x d8 f8 l8 o8 g8 src bl ks8 ks7 b2w d7 lw7 b1w k7 b1z b18 k6 b1y b2y z0y ksy ky5 ky7 z18 k18 hg18 hg18b HT8 HKB EK ER
        go_roundw
        case rel => exact ⟨k + 1, a8, n8, c8, ⟨a9, m9, c9⟩, by omega, by go_num, HI9⟩
        case measure => simp [intOf]; omega
      · have i0 : ¬ (k : Int) < (cnt : Int) := by omega
        obtain rfl : k = cnt := by omega
        have HAN : Hid (Anc (fun j => A j ∧ j < w.heap.size ∨ w.heap.size < j) wr (readR S1) ⟨pa, pn, pc⟩ ⟨qa, qn, qc⟩) := by
          rw [HN.out]
          refine ⟨(HPM.out.mono (fun j hj ha => Or.inl ⟨ha, hj⟩)).grow HI.out.be, ?_, HI6.out⟩
          exact (OwS.sl3 (A := fun j => A j ∧ j < w.heap.size ∨ w.heap.size < j) HI.out.ks (fun j hj _ => Or.inr (by have := HLc.out; omega))).mono (elK.mono fun j _ ha => Or.inl ha) (fun j _ ha => ha)
        have c1 : wr.cell? ⟨g10, 1, none⟩ = some (.int .i64 (rKs k sk).2) := b1.cell 1
        have l1 := b1.lt
        have z0 := HI.out.b0
        have kw : Below w.heap.size w wr := HI.out.be
        have lz := z0.lt
        have hlc := HI.out.lt
        have HV : Hid (anc ⟨m0, m1, m2, m3 - 1, m4, m5, mb, []⟩ ⟨pa, pn, pc⟩ ⟨qa, qn, qc⟩ = anc (readR S1) ⟨pa, pn, pc⟩ ⟨qa, qn, qc⟩) := by show _ = _; rw [HN.out]; rfl
        rw [HV.out] at b2
        rw [HRs.out] at HG2
        have CC : Hid (∀ u, Below wr.heap.size wr u → Calls Try.prog 15 #[.agg (anc (readR S1) ⟨pa, pn, pc⟩ ⟨qa, qn, qc⟩).toArray] u fun e w' => e = .returned (.int .i64 (chkA (readR S1))) ∧ Below u.heap.size u w') := fun u hu => rCheckA u (HAN.out.below hu)
        generalize (rKs k sk).2 = rc at *
        generalize readR S1 = AN at *
        generalize chkA AN = cd at *
        clear HI HPM HI6 HN HRs HV
        by_cases hR : rc = 0
        · subst hR
          go_wp2_with ((with_reducible refine at_ld 25 ?_); (refine ld 25 (.tmp 12) 8 sizeAn _ Try.underlying25 rfl g12 0 (anc AN ⟨pa, pn, pc⟩ ⟨qa, qn, qc⟩) rfl (b2.whole) rfl ?_))
          refine (CC.out wr (Below.refl _ _)).mono ?_
          rintro e y1 ⟨rfl, hb1⟩
          have an1 := HAN.out.below hb1
          have z1 := z0.below hb1 z0.lt
          have b21 := b2.below hb1 b2.lt
          have kw1 : Below w.heap.size w y1 := kw.trans (hb1.mono kw.size)
          clear CC HAN z0 b2 kw b1 c1 hb1
          by_cases hc : cd = 0
          · subst hc
            have HO : Hid (out = (AN, 0)) := by show _ = _; rw [HG2.out, if_neg (by simp), if_neg (by simp)]
            clear HG2
            go_wp2_with (first | ((with_reducible refine at_ld 25 ?_); (refine ld 25 (.tmp 12) 8 sizeAn _ Try.underlying25 rfl g12 0 (anc AN ⟨pa, pn, pc⟩ ⟨qa, qn, qc⟩) rfl (b21.whole) rfl ?_)) | ((with_reducible refine at_st 25 ?_); (refine st' 25 (.tmp 2) (.tmp 112) 8 sizeAn w.heap.size 0 (anc AN ⟨pa, pn, pc⟩ ⟨qa, qn, qc⟩) rfl (anc_one _ _ _) (z1.there 0 8 (by simp [zanc])) rfl rfl ?_); intro x9 hx9; have b9 : Blk x9 w.heap.size (anc AN ⟨pa, pn, pc⟩ ⟨qa, qn, qc⟩) 25 := (by rw [hx9]; exact z1.setsW _ rfl); have k9 : Below w.heap.size w x9 := (by rw [hx9]; exact below_sets (Nat.le_refl _) _ kw1 0); have g9 : y1.grownBy x9 (some w.heap.size) := (by rw [hx9]; exact but_cells' _ _ _ _); clear hx9))
            have an9 : Anc (fun j => A j ∧ j < w.heap.size ∨ w.heap.size < j) x9 AN ⟨pa, pn, pc⟩ ⟨qa, qn, qc⟩ := an1.keep g9.size fun j hj ha => g9.block j hj (fun e => by have := Option.some.inj e; rcases ha with ha | ha <;> omega)
            refine bodyPost_ret (v := .tuple #[anV AN ⟨pa, pn, pc⟩ ⟨qa, qn, qc⟩, .int .i64 0]) (resCT Try.results12 _ _ w.heap.size _ rfl (run_loadVar_row x9 w.heap.size 25 25 _ (0, 0) _ b9 Try.underlying25 rfl sizeAn) _ rfl) rfl ?_
            rw [HO.out]
            exact ⟨_, _, rfl, an9.mono (fun j _ hj => hj.elim (fun h => Or.inl h.1) (fun h => Or.inr (by omega))), k9⟩
          · have bc : (cd == 0) = false := by simp [hc]
            have HO : Hid (out = (zeroA, cd)) := by show _ = _; rw [HG2.out, if_neg (by simp), if_pos hc]
            clear HG2 hc an1
            go_wp2_with ((with_reducible refine at_st 25 ?_); (refine st' 25 (.tmp 2) (.tmp 110) 8 sizeAn w.heap.size 0 zanc rfl (anc_one zeroA t0 t0) (z1.there 0 8 (by simp [zanc])) rfl rfl ?_); intro x9 hx9; have b9 : Blk x9 w.heap.size zanc 25 := (by rw [hx9]; exact z1.setsW _ rfl); have k9 : Below w.heap.size w x9 := (by rw [hx9]; exact below_sets (Nat.le_refl _) _ kw1 0); clear hx9)
            refine bodyPost_ret (v := .tuple #[anV zeroA t0 t0, .int .i64 cd]) (resCT Try.results12 _ _ w.heap.size _ rfl (run_loadVar_row x9 w.heap.size 25 25 _ (0, 0) _ b9 Try.underlying25 rfl sizeAn) _ rfl) rfl ?_
            rw [HO.out]
            exact ⟨t0, t0, rfl, Anc.zero _ _, k9⟩
        · have bR : (rc == 0) = false := by simp [hR]
          have HO : Hid (out = (zeroA, rc)) := by show _ = _; rw [HG2.out, if_pos hR]
          clear HG2 hR CC HAN b2
          go_wp2_with fail
          have F1 : ∀ u, (Kp (fun j => j = w.heap.size) wr u ∧ ∃ vs : List Value, vs.length = 8 ∧ Blk u w.heap.size vs 25) → u.cell? ⟨g10, 1, none⟩ = some (.int .i64 rc) := fun u hu => (hu.1.blk b1 (by omega)).cell 1
          have F2 : ∀ u, (Kp (fun j => j = w.heap.size) wr u ∧ ∃ vs : List Value, vs.length = 8 ∧ Blk u w.heap.size vs 25) → g10 < u.heap.size := fun u hu => Nat.lt_of_lt_of_le l1 hu.1.size
          refine regionG (S := fun u => Kp (fun j => j = w.heap.size) wr u ∧ ∃ vs : List Value, vs.length = 8 ∧ Blk u w.heap.size vs 25) (by kernel_rfl) ⟨(Kp.refl _ wr).drew 1, zanc, rfl, z0.below (below_drewN' wr 1) z0.lt⟩ ?_
          refine takeG 0 (some 103) (.agg zanc.toArray) rfl rfl (by kernel_rfl) (by kernel_rfl) (by kernel_rfl) (fun _ _ _ h => h) (ans_plain (by rfl) (fun w _ => by unfold execOp; go_simp; try rfl)) ?_
          simp only [Act.put, List.setIfInBounds_toArray, List.set_cons_zero, List.set_cons_succ]
          refine takeG 1 (some 104) (.pointer (some ⟨g10, 1, none⟩)) rfl rfl (by kernel_rfl) (by kernel_rfl) (by kernel_rfl) (fun _ _ _ h => h) (ans_plain (by rfl) (fun w _ => by unfold execOp; go_simp)) ?_
          simp only [Act.put, List.setIfInBounds_toArray, List.set_cons_zero, List.set_cons_succ]
          refine takeG 2 (some 105) (.int .i64 rc) rfl rfl (by kernel_rfl) (by kernel_rfl) (by kernel_rfl) (fun _ _ _ h => h) (ans_plain (by rfl) (fun w h => by have hc := F1 w h; have hl := F2 w h; unfold execOp; go_simp)) ?_
          simp only [Act.put, List.setIfInBounds_toArray, List.set_cons_zero, List.set_cons_succ]
          refine oneG 3 (by kernel_rfl) fun u1 hg1 hs1 => ?_
          obtain ⟨kp1, vs1, hl1, bz1⟩ := hs1
          refine opStR 3 25 (.tmp 2) (.tmp 103) 8 rfl rfl rfl rfl w.heap.size vs1 zanc 25 bz1 hl1 rfl (anc_one zeroA t0 t0) sizeAn rfl rfl fun u2 b9 k9 => ?_
          refine ⟨⟨kp1.trans k9, zanc, rfl, b9⟩, ?_⟩
          refine takeG 4 (some 3) (.int .i64 rc) rfl rfl (by kernel_rfl) (by kernel_rfl) (by kernel_rfl) (fun _ _ _ h => h) (ans_plain (by rfl) (fun w _ => rfl)) ?_
          simp only [Act.put, List.setIfInBounds_toArray, List.set_cons_zero, List.set_cons_succ]
          refine doneG (by kernel_rfl) fun x9 hg9 hs9 => ?_
          have b9x := b9.below hg9 b9.lt
          have kx9 : Below w.heap.size w x9 := below_kp kw hs9.1 kw.size (fun j hj e => by omega)
          clear F1 F2 hs9 hg9 b9 k9 kp1 bz1 hg1
          go_wp2_with fail
          refine bodyPost_ret (v := .tuple #[anV zeroA t0 t0, .int .i64 rc]) (resCT Try.results12 _ _ w.heap.size _ rfl (run_loadVar_row x9 w.heap.size 25 25 _ (0, 0) _ b9x Try.underlying25 rfl sizeAn) _ rfl) rfl ?_
          rw [HO.out]
          exact ⟨t0, t0, rfl, Anc.zero _ _, kx9⟩
  · have bM : (M == [100, 101, 101, 100, 98, 111, 120, 49]) = false := by
      rw [beq_eq_false_iff_ne]
      exact hM
    have HO : Hid (out = (zeroA, 9)) := by show _ = _; rw [HG.out, if_pos hM]
    clear HG hM HMP HT1 HBA
    go_wp2_with ((with_reducible refine at_st 25 ?_); (refine st' 25 (.tmp 2) (.tmp 30) 8 sizeAn w.heap.size 0 zanc rfl (anc_one zeroA t0 t0) (z2.there 0 8 (by simp [zanc])) rfl rfl ?_); intro x9 hx9; have b9 : Blk x9 w.heap.size zanc 25 := (by rw [hx9]; exact z2.setsW _ rfl); have k9 : Below w.heap.size w x9 := (by rw [hx9]; exact below_sets (Nat.le_refl _) _ k2 0); clear hx9)
    refine bodyPost_ret (v := .tuple #[anV zeroA t0 t0, .int .i64 9]) (resCT Try.results12 _ _ w.heap.size _ rfl (run_loadVar_row x9 w.heap.size 25 25 _ (0, 0) _ b9 Try.underlying25 rfl sizeAn) _ rfl) rfl ?_
    rw [HO.out]
    exact ⟨t0, t0, rfl, Anc.zero _ _, k9⟩

end Go.Proofs.Ytbifikeecmaakaa
