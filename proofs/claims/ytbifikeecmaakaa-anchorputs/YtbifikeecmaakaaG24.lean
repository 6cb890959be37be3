/-
  3 texts in one. No statement of the seat is proved here.
-/
import Derived.Test.YtbifikeecmaakaaG23

/-
  The contracts of layer 14's program: Clean, Commit, Give. Conditions: fewer than 5000 writes.
-/
namespace Go.Proofs.Ytbifikeecmaakaa
open Go.RowKit

def ptrC (c : Nat) : Value := .pointer (some ⟨c, 0, none⟩)
theorem Kk.rg {w : World} {k c r : Nat} {K : KepS} {p q : Tri} (h : Kk w k c r K p q) : w.rangeAt k 1 (anc K.last p q) := h.b.range 1 _ (fun j v hj => by rw [Nat.add_comm, List.getElem?_cons_succ]; exact hj)
/-- What Clean and Commit leave. -/
def MovR (w : World) (k c r : Nat) (x : KepS × Int) (e : Ending) (w' : World) : Prop := ∃ p q, e = .returned (.int .i64 x.2) ∧ Kk w' k c r x.1 p q ∧ Kp (Fk k c r) w w'
set_option maxRecDepth 100000 in
set_option maxHeartbeats 4000000 in
theorem oKClean (w : World) {k c r : Nat} {K : KepS} {p q : Tri} (h : Kk w k c r K p q) {mm : Nat} (hf : K.c.fit mm) (hmm : mm ≤ 5000) : Calls Try.prog 32 #[.pointer (some ⟨k, 0, none⟩)] w (MovR w k c r K.clean) := by
  have CN := oKCounts w h
  unfold KepS.clean
  cases hh : K.has with
  | false =>
    rw [if_pos rfl]
    rw [hh] at CN
    have HK : Hid (Kk w k c r K p q) := h
    clear h hf hh
    go_enter Try.func32, Try.ntmps32
    go_wp2_with fail
    refine CN.mono ?_
    rintro e w1 ⟨rfl, rfl⟩
    go_wp2_with fail
    go_ret
    exact ⟨p, q, rfl, HK.out, Kp.refl _ _⟩
  | true =>
    rw [if_neg (by simp)]
    rw [hh] at CN
    obtain ⟨W0, hW0⟩ : ∃ W0, W0 = w.alloc (.cells #[.int .i64 0, .int .i64 0, .int .i64 0, .int .i64 0, .int .i64 0, .int .i64 0, .slice none 0 0, .slice none 0 0] 25) := ⟨_, rfl⟩
    have z0 : Blk W0 w.heap.size zanc 25 := by rw [hW0]; exact Blk.newAt w _ _ w.heap.size rfl _ rfl
    have k0 : Below w.heap.size w W0 := by rw [hW0]; exact below_alloc _ _
    have rg := h.rg
    have hlk := h.b.lt
    have HS : Hid (∀ u, Below w.heap.size w u → Calls Try.prog 26 #[.pointer (some ⟨k, 0, none⟩), .agg (anc K.cleaned p q).toArray] u (SaveR u k c r K K.cleaned)) := fun u hu => oKSave u (h.grow hu) hf hmm (A := fun j => ¬ Fk k c r j) (a := K.cleaned) (p' := p) (q' := q) ((h.an.below hu).nums rfl rfl ⟨h.an.ns.1, h.an.ns.2.1, h.an.ns.2.2.1, h.an.ns.2.2.2.1, h.an.ns.2.2.2.2.1, i64_0⟩) (fun _ hj => hj)
    have HC : Hid (anc K.cleaned p q = (anc K.last p q).set 5 (.int .i64 0)) := rfl
    clear h hf hh
    go_enter Try.func32, Try.ntmps32
    go_wp2_with fail
    refine CN.mono ?_
    rintro e w1 ⟨rfl, rfl⟩
    go_wp2_with (first
      | ((with_reducible refine at_ld 25 ?_); (first | (refine ld 25 (.tmp 9) 8 sizeAn _ Try.underlying25 rfl k 1 (anc K.last p q) rfl rg rfl ?_) | (refine ld 25 (.tmp 3) 8 sizeAn _ Try.underlying25 rfl w.heap.size 0 (anc K.cleaned p q) rfl y5.whole rfl ?_)))
      | ((with_reducible refine at_st 25 ?_); (refine st' 25 (.tmp 3) (.tmp 10) 8 sizeAn w.heap.size 0 (anc K.last p q) rfl (anc_one _ _ _) (by rw [← hW0]; exact z0.there 0 8 (by simp [zanc])) rfl rfl ?_); intro w4 hw4; have b4 : Blk w4 w.heap.size (anc K.last p q) 25 := (by rw [hw4, ← hW0]; exact z0.setsW _ rfl); have k4 : Below w.heap.size w w4 := (by rw [hw4, ← hW0]; exact below_sets (Nat.le_refl _) _ k0 0); have d5 : w4.cell? ⟨w.heap.size, 5, none⟩ = some (.int .i64 K.last.pending) := b4.cell 5; have e5 := b4.free 5; have l5 := b4.lt; have y5 : Blk (w4.setCell ⟨w.heap.size, 5, none⟩ (.int .i64 0)) w.heap.size (anc K.cleaned p q) 25 := (by rw [HC.out]; exact b4.setC 5 _); have k5 : Below w.heap.size w (w4.setCell ⟨w.heap.size, 5, none⟩ (.int .i64 0)) := k4.setCell (Nat.le_refl _) _; clear hw4))
    refine (HS.out _ k5).mono ?_
    rintro e w6 ⟨p6, q6, rfl, K6, kp6⟩
    have HQ : Hid (Kp (Fk k c r) w w6) := (Kp.of_below k5).trans kp6
    generalize K.save K.cleaned = out at *
    clear HS kp6 y5 k5 d5 e5 l5 b4 k4 z0 k0 rg
    go_wp2_with fail
    go_ret
    exact ⟨p6, q6, rfl, K6, HQ.out⟩

end Go.Proofs.Ytbifikeecmaakaa

/-
  The contract of layer 14's program: Commit. Conditions: fewer than 5000 writes.
-/
namespace Go.Proofs.Ytbifikeecmaakaa
open Go.RowKit

set_option maxRecDepth 100000 in
set_option maxHeartbeats 4000000 in
theorem oKCommit (w : World) {k c r : Nat} {K : KepS} {p q : Tri} (h : Kk w k c r K p q) {mm : Nat} (hf : K.c.fit mm) (hmm : mm ≤ 5000) (ep ro pe : Int) (he : i64 ep) (hr : i64 ro) (hp : i64 pe) : Calls Try.prog 30 #[.pointer (some ⟨k, 0, none⟩), .int .i64 ep, .int .i64 ro, .int .i64 pe] w (MovR w k c r (K.commit ep ro pe)) := by
  obtain ⟨W0, hW0⟩ : ∃ W0, W0 = w.alloc (.cells #[.int .i64 0, .int .i64 0, .int .i64 0, .int .i64 0, .int .i64 0, .int .i64 0, .slice none 0 0, .slice none 0 0] 25) := ⟨_, rfl⟩
  have z0 : Blk W0 w.heap.size zanc 25 := by rw [hW0]; exact Blk.newAt w _ _ w.heap.size rfl _ rfl
  have k0 : Below w.heap.size w W0 := by rw [hW0]; exact below_alloc _ _
  have rg := h.rg
  have hlk := h.b.lt
  have HK : Hid (Kk w k c r K p q) := h
  have CN : Hid (∀ u, Below w.heap.size w u → Calls Try.prog 60 #[.pointer (some ⟨k, 0, none⟩)] u fun e w' => e = .returned (.bool K.has) ∧ u = w') := fun u hu => oKCounts u (h.grow hu)
  have HS : Hid (∀ u, Below w.heap.size w u → Calls Try.prog 26 #[.pointer (some ⟨k, 0, none⟩), .agg (anc (K.committed ep ro pe) p q).toArray] u (SaveR u k c r K (K.committed ep ro pe))) := fun u hu => oKSave u (h.grow hu) hf hmm (A := fun j => ¬ Fk k c r j) (a := K.committed ep ro pe) (p' := p) (q' := q) ((h.an.below hu).nums rfl rfl ⟨h.an.ns.1, he, h.an.ns.2.2.1, hr, he, hp⟩) (fun _ hj => hj)
  have HC : Hid (anc (K.committed ep ro pe) p q = ((((anc K.last p q).set 1 (.int .i64 ep)).set 3 (.int .i64 ro)).set 4 (.int .i64 ep)).set 5 (.int .i64 pe)) := rfl
  have HM : Hid (K.commit ep ro pe = if K.has = false ∨ ep ≤ K.last.epoch ∨ K.last.given < ep then (K, 15) else K.save (K.committed ep ro pe)) := rfl
  unfold MovR
  generalize K.commit ep ro pe = out at *
  clear h hf he hr hp
  go_enter Try.func30, Try.ntmps30
  go_wp2_with (first
    | ((with_reducible refine at_ld 25 ?_); (refine ld 25 (.tmp 12) 8 sizeAn _ Try.underlying25 rfl k 1 (anc K.last p q) rfl rg rfl ?_))
    | ((with_reducible refine at_st 25 ?_); (refine st' 25 (.tmp 9) (.tmp 13) 8 sizeAn w.heap.size 0 (anc K.last p q) rfl (anc_one _ _ _) (by rw [← hW0]; exact z0.there 0 8 (by simp [zanc])) rfl rfl ?_); intro w4 hw4; have b4 : Blk w4 w.heap.size (anc K.last p q) 25 := (by rw [hw4, ← hW0]; exact z0.setsW _ rfl); have k4 : Below w.heap.size w w4 := (by rw [hw4, ← hW0]; exact below_sets (Nat.le_refl _) _ k0 0); clear hw4))
  have c1 : w4.cell? ⟨w.heap.size, 1, none⟩ = some (.int .i64 K.last.epoch) := b4.cell 1
  have c2 : w4.cell? ⟨w.heap.size, 2, none⟩ = some (.int .i64 K.last.given) := b4.cell 2
  have c3 : w4.cell? ⟨w.heap.size, 3, none⟩ = some (.int .i64 K.last.root) := b4.cell 3
  have c4 : w4.cell? ⟨w.heap.size, 4, none⟩ = some (.int .i64 K.last.rootEpoch) := b4.cell 4
  have c5 : w4.cell? ⟨w.heap.size, 5, none⟩ = some (.int .i64 K.last.pending) := b4.cell 5
  have l4 := b4.lt
  have e1 := b4.free 1
  have e3 := b4.free 3
  have e4 := b4.free 4
  have e5 := b4.free 5
  have y5 := (((b4.setC 1 (.int .i64 ep)).setC 3 (.int .i64 ro)).setC 4 (.int .i64 ep)).setC 5 (.int .i64 pe)
  rw [← HC.out] at y5
  have k5 : Below w.heap.size w ((((w4.setCell ⟨w.heap.size, 1, none⟩ (.int .i64 ep)).setCell ⟨w.heap.size, 3, none⟩ (.int .i64 ro)).setCell ⟨w.heap.size, 4, none⟩ (.int .i64 ep)).setCell ⟨w.heap.size, 5, none⟩ (.int .i64 pe)) := (((k4.setCell (Nat.le_refl _) _).setCell (Nat.le_refl _) _).setCell (Nat.le_refl _) _).setCell (Nat.le_refl _) _
  refine (CN.out w4 k4).mono ?_
  rintro e w1 ⟨rfl, rfl⟩
  have K4 : Hid (Kk w4 k c r K p q) := HK.out.grow k4
  clear CN z0 k0 rg hW0 HC
  generalize K.last.epoch = le at *
  generalize K.last.given = lg at *
  generalize K.has = hs at *
  cases hs with
  | false =>
    have HO : Hid (out = (K, 15)) := by show _ = _; rw [HM.out, if_pos (Or.inl rfl)]
    clear HM HS y5 k5
    go_wp2_with fail
    go_ret
    rw [HO.out]
    exact ⟨p, q, rfl, K4.out, Kp.of_below k4⟩
  | true =>
    by_cases h1 : ep ≤ le
    · have HO : Hid (out = (K, 15)) := by show _ = _; rw [HM.out, if_pos (Or.inr (Or.inl h1))]
      clear HM HS y5 k5
      go_wp2_with fail
      go_ret
      rw [HO.out]
      exact ⟨p, q, rfl, K4.out, Kp.of_below k4⟩
    · by_cases h2 : lg < ep
      · have HO : Hid (out = (K, 15)) := by show _ = _; rw [HM.out, if_pos (Or.inr (Or.inr h2))]
        clear HM HS y5 k5
        go_wp2_with fail
        go_ret
        rw [HO.out]
        exact ⟨p, q, rfl, K4.out, Kp.of_below k4⟩
      · have HO : Hid (out = K.save (K.committed ep ro pe)) := by show _ = _; rw [HM.out, if_neg (by simp; omega)]
        clear HM
        go_wp2_with ((with_reducible refine at_ld 25 ?_); (refine ld 25 (.tmp 9) 8 sizeAn _ Try.underlying25 rfl w.heap.size 0 (anc (K.committed ep ro pe) p q) rfl y5.whole rfl ?_))
        refine (HS.out _ k5).mono ?_
        rintro e w6 ⟨p6, q6, rfl, K6, kp6⟩
        have HQ : Hid (Kp (Fk k c r) w w6) := (Kp.of_below k5).trans kp6
        generalize K.save (K.committed ep ro pe) = sv at *
        clear HS kp6 y5 k5 c1 c2 c3 c4 c5 e1 e3 e4 e5 b4
        go_wp2_with fail
        go_ret
        rw [HO.out]
        exact ⟨p6, q6, rfl, K6, HQ.out⟩

end Go.Proofs.Ytbifikeecmaakaa

/-
  The contract of layer 14's program: Give. Conditions: fewer than 5000 writes.
-/
namespace Go.Proofs.Ytbifikeecmaakaa
open Go.RowKit

/-- What Give leaves. -/
def GivR (w : World) (k c r : Nat) (x : KepS × Int × Int) (e : Ending) (w' : World) : Prop := ∃ p q, e = .returned (.tuple #[.int .i64 x.2.1, .int .i64 x.2.2]) ∧ Kk w' k c r x.1 p q ∧ Kp (Fk k c r) w w'
set_option maxRecDepth 100000 in
set_option maxHeartbeats 4000000 in
theorem oKGive (w : World) {k c r : Nat} {K : KepS} {p q : Tri} (h : Kk w k c r K p q) {mm : Nat} (hf : K.c.fit mm) (hmm : mm ≤ 5000) : Calls Try.prog 28 #[.pointer (some ⟨k, 0, none⟩)] w (GivR w k c r K.give) := by
  have CN := oKCounts w h
  have HM : Hid (K.give = if K.has = false then (K, 0, 9) else if (K.save K.given).2 ≠ 0 then ((K.save K.given).1, 0, (K.save K.given).2) else ((K.save K.given).1, K.last.given + 1, 0)) := rfl
  unfold GivR
  generalize K.give = out at *
  cases hh : K.has with
  | false =>
    have HO : Hid (out = (K, 0, 9)) := by show _ = _; rw [HM.out, if_pos hh]
    rw [hh] at CN
    have HK : Hid (Kk w k c r K p q) := h
    clear h hf hh HM
    go_enter Try.func28, Try.ntmps28
    go_wp2_with fail
    refine CN.mono ?_
    rintro e w1 ⟨rfl, rfl⟩
    go_wp2_with fail
    refine bodyPost_ret (v := .tuple #[.int .i64 0, .int .i64 9]) (by simp [results, Try.results28, go_sem]) rfl ?_
    rw [HO.out]
    exact ⟨p, q, rfl, HK.out, Kp.refl _ _⟩
  | true =>
    rw [hh] at CN
    obtain ⟨W0, hW0⟩ : ∃ W0, W0 = w.alloc (.cells #[.int .i64 0, .int .i64 0, .int .i64 0, .int .i64 0, .int .i64 0, .int .i64 0, .slice none 0 0, .slice none 0 0] 25) := ⟨_, rfl⟩
    have z0 : Blk W0 w.heap.size zanc 25 := by rw [hW0]; exact Blk.newAt w _ _ w.heap.size rfl _ rfl
    have k0 : Below w.heap.size w W0 := by rw [hW0]; exact below_alloc _ _
    have rg := h.rg
    have hlk := h.b.lt
    have hgv := h.ok.given
    have hnw : ¬ Fk k c r w.heap.size := fun hu => by have := h.lt _ hu; omega
    have HS : Hid (∀ u, Below w.heap.size w u → Calls Try.prog 26 #[.pointer (some ⟨k, 0, none⟩), .agg (anc K.given p q).toArray] u (SaveR u k c r K K.given)) := fun u hu => oKSave u (h.grow hu) hf hmm (A := fun j => ¬ Fk k c r j) (a := K.given) (p' := p) (q' := q) ((h.an.below hu).nums rfl rfl ⟨h.an.ns.1, h.an.ns.2.1, ⟨by show _ ≤ K.last.given + 1; omega, by show K.last.given + 1 ≤ _; omega⟩, h.an.ns.2.2.2.1, h.an.ns.2.2.2.2.1, h.an.ns.2.2.2.2.2⟩) (fun _ hj => hj)
    have HC : Hid (anc K.given p q = (anc K.last p q).set 2 (.int .i64 (K.last.given + 1))) := rfl
    have HM2 : Hid (out = if (K.save K.given).2 ≠ 0 then ((K.save K.given).1, 0, (K.save K.given).2) else ((K.save K.given).1, K.last.given + 1, 0)) := by show _ = _; rw [HM.out, if_neg (by rw [hh]; simp)]
    have b1 : K.last.given + 1 ≤ 9223372036854775807 := by omega
    have b2 : -9223372036854775808 ≤ K.last.given + 1 := by omega
    clear h hf hh HM hgv
    go_enter Try.func28, Try.ntmps28
    go_wp2_with fail
    refine CN.mono ?_
    rintro e w1 ⟨rfl, rfl⟩
    go_wp2_with (first
      | ((with_reducible refine at_ld 25 ?_); (first | (refine ld 25 (.tmp 11) 8 sizeAn _ Try.underlying25 rfl k 1 (anc K.last p q) rfl rg rfl ?_) | (refine ld 25 (.tmp 4) 8 sizeAn _ Try.underlying25 rfl w.heap.size 0 (anc K.given p q) rfl y5.whole rfl ?_)))
      | ((with_reducible refine at_st 25 ?_); (refine st' 25 (.tmp 4) (.tmp 12) 8 sizeAn w.heap.size 0 (anc K.last p q) rfl (anc_one _ _ _) (by rw [← hW0]; exact z0.there 0 8 (by simp [zanc])) rfl rfl ?_); intro w4 hw4; have b4 : Blk w4 w.heap.size (anc K.last p q) 25 := (by rw [hw4, ← hW0]; exact z0.setsW _ rfl); have k4 : Below w.heap.size w w4 := (by rw [hw4, ← hW0]; exact below_sets (Nat.le_refl _) _ k0 0); have d5 : w4.cell? ⟨w.heap.size, 2, none⟩ = some (.int .i64 K.last.given) := b4.cell 2; have e5 := b4.free 2; have l5 := b4.lt; have y5 : Blk (w4.setCell ⟨w.heap.size, 2, none⟩ (.int .i64 (K.last.given + 1))) w.heap.size (anc K.given p q) 25 := (by rw [HC.out]; exact b4.setC 2 _); have k5 : Below w.heap.size w (w4.setCell ⟨w.heap.size, 2, none⟩ (.int .i64 (K.last.given + 1))) := k4.setCell (Nat.le_refl _) _; clear hw4))
    refine (HS.out _ k5).mono ?_
    rintro e w6 ⟨p6, q6, rfl, K6, kp6⟩
    have HQ : Hid (Kp (Fk k c r) w w6) := (Kp.of_below k5).trans kp6
    have y6 := kp6.blk y5 hnw
    have d6 : w6.cell? ⟨w.heap.size, 2, none⟩ = some (.int .i64 (K.last.given + 1)) := y6.cell 2
    have l6 := y6.lt
    generalize K.save K.given = sv at *
    generalize K.last.given = lg at *
    clear HS kp6 y5 k5 d5 e5 l5 b4 k4 z0 k0 rg y6
    by_cases hc : sv.2 = 0
    · have HO : Hid (out = (sv.1, lg + 1, 0)) := by show _ = _; rw [HM2.out, if_neg (by rw [hc]; simp)]
      rw [hc]
      clear HM2 hc
      go_wp2_with fail
      refine bodyPost_ret (v := .tuple #[.int .i64 (lg + 1), .int .i64 0]) (by simp [results, Try.results28, go_sem]) rfl ?_
      rw [HO.out]
      exact ⟨p6, q6, rfl, K6, HQ.out⟩
    · have HO : Hid (out = (sv.1, 0, sv.2)) := by show _ = _; rw [HM2.out, if_pos hc]
      have bc : (sv.2 == 0) = false := by simp [hc]
      generalize sv.2 = cd at *
      clear HM2 hc d6
      go_wp2_with fail
      refine bodyPost_ret (v := .tuple #[.int .i64 0, .int .i64 cd]) (by simp [results, Try.results28, go_sem]) rfl ?_
      rw [HO.out]
      exact ⟨p6, q6, rfl, K6, HQ.out⟩

end Go.Proofs.Ytbifikeecmaakaa
