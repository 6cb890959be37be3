/-
  7 texts in one. No statement of the seat is proved here.
-/
import Derived.Test.YtjpejheipkfanaaDoorG19
import Derived.Deep.Matrix
/-
  The contract of 'link': what was last, what it is for, and the count, as a list of parts of its own. Conditions: at most 1000 parts; a count of at most 255.
-/
namespace Go.Proofs.YtjpejheipkfanaaDoor
open Go.RowKit

theorem Bs.grown {w w' : World} {r : Option Nat} {a : Option Addr} {n c : Nat} {l : List UInt8} (h : Bs w a n c l) (hg : w.grownBy w' r) (hr : 0 < n → ∀ x, a = some x → r ≠ some x.block) : Bs w' a n c l := by
  refine ⟨h.1, h.2.1, h.2.2.1, h.2.2.2.1, fun i hi => ?_⟩
  obtain ⟨b, o, ha, hc⟩ := h.2.2.2.2 i hi
  exact ⟨b, o, ha, hg.cell hc (fun e => hr (by omega) _ ha e.symm)⟩
theorem Own.blocks {w : World} {base : Nat} {a : Option Addr} {m c : Nat} {l : List UInt8} (h : Own w base (.slice a m c) l) (x : Addr) (hx : a = some x) : base ≤ x.block := by
  subst hx
  exact h.size _ rfl
theorem putL_one (i : Nat) : putL i 1 = [UInt8.ofNat i] := rfl

theorem cells_on {w w' : World} {p : Option Addr} {pn : Nat} {vs : List Value} (h : ∀ i, i < pn → ∃ b o, p = some ⟨b, o, none⟩ ∧ w.cell? ⟨b, o + i, none⟩ = vs[i]?) (hl : vs.length = pn) (hb : Below w.heap.size w w') (i : Nat) (hi : i < pn) :
    ∃ b o, p = some ⟨b, o, none⟩ ∧ w'.cell? ⟨b, o + i, none⟩ = vs[i]? := by
  obtain ⟨b, o, e, hc⟩ := h i hi
  refine ⟨b, o, e, ?_⟩
  rw [List.getElem?_eq_getElem (by omega)] at hc ⊢
  rw [hb.cell (p := ⟨b, o + i, none⟩) (lt_of_cell hc)]
  exact hc

set_option maxRecDepth 100000 in
set_option maxHeartbeats 1000000 in
theorem oLink (w : World) {a p : Option Addr} {m c pn pc : Nat} {l : List UInt8} {ls : List (List UInt8)} (ha : Bs w a m c l) (hp : Bss w p pn pc ls) (hn : pn ≤ 1000) (i : Nat) (hi : i ≤ 255) :
    Calls Tryd.prog 53 #[.slice a m c, .slice p pn pc, .int .u64 (i : Int)] w fun e w' => ∃ a' c', e = .returned (.slice a' (pn + 2) c') ∧ Bss w' a' (pn + 2) c' (l :: (ls ++ [[UInt8.ofNat i]])) ∧ Below w.heap.size w w' := by
  have HN : Hid (ls.length = pn) := hp.len
  obtain ⟨vs, hv1, hv2, hv3⟩ := hp.vals
  have HV1 : Hid (∀ u ∈ vs, u.oneCell' = true) := fun u hu => by
    obtain ⟨j, hj, rfl⟩ := List.getElem_of_mem hu
    obtain ⟨x, y, z, e, _⟩ := hv3 j (by omega)
    rw [List.getElem?_eq_getElem hj] at e
    simp only [Option.some.injEq] at e
    rw [e]
    rfl
  have HVL : Hid (vs.length = pn) := hv1
  have CP : Hid (∀ w : World, Calls Tryd.prog 25 #[.int .u64 (i : Int), .int .i64 1] w (Gives w [UInt8.ofNat i])) := fun w => by
    have := oPut (i : Int) 1 w (by omega) (by omega) (by omega) (by omega)
    rw [Int.toNat_natCast, show (1 : Int).toNat = 1 from rfl, putL_one] at this
    exact this
  clear hv1
  have hpn : (pn : Int) + 2 ≤ 1002 := by omega
  go_enter Tryd.func53, Tryd.ntmps53
  go_wp2_with (first
    | (at_make; go_must (refine wpList_vmk0 w rfl _ _ rfl w.heap.size _ rfl rfl (by omega) (by omega) (Nat.le_refl _) ?_); intro v1 w1 ho1 hb1; have HA : Hid (OwnV (w1.alloc (.cells #[.slice a m c] 22)) w.heap.size v1 []) := ho1.below (below_alloc _ _) (Nat.le_refl _); have hs1 : w.heap.size ≤ (w1.alloc (.cells #[.slice a m c] 22)).heap.size := by simp; have := hb1.size; omega)
    | (at_builtin; refine wpList_vapp (w1.alloc (.cells #[.slice a m c] 22)) rfl (.tmp 12) (.tmp 14) rfl w.heap.size v1 [] rfl HA.out (some ⟨w1.heap.size, 0, none⟩) 1 1 [.slice a m c] rfl rfl (one_cell w1 _ _) one_one (by simp) hs1 ?_; intro v2 w2 ho2 hg2; rw [List.nil_append] at ho2; have hb2 : Below w.heap.size w w2 := (hb1.alloc hb1.size _).grown hg2 hs1 (fun k hk => ho1.size k hk); have hc2 : Hid (∀ i, i < pn → ∃ b o, p = some ⟨b, o, none⟩ ∧ w2.cell? ⟨b, o + i, none⟩ = vs[i]?) := cells_on hv2 HVL.out hb2)
    | (at_builtin; go_must (refine wpList_vapp w2 rfl (.tmp 16) (.tmp 17) rfl w.heap.size v2 [.slice a m c] rfl ho2 p pn pc vs rfl HVL.out hc2.out HV1.out (by rw [HVL.out]; simp; omega) hb2.size ?_); intro v3 w3 ho3 hg3; have hb3 : Below w.heap.size w w3 := hb2.grown hg3 hb2.size (fun k hk => ho2.size k hk)))
  refine (CP.out w3).mono ?_
  rintro e w4 ⟨a4, m4, c4, rfl, ho4, hb4⟩
  have hb4' := hb3.trans (hb4.mono hb3.size)
  have HA4 : Hid (OwnV (w4.alloc (.cells #[.slice a4 m4 c4] 22)) w.heap.size v3 ([.slice a m c] ++ vs)) := (ho3.below hb4 (Nat.le_refl _)).below (below_alloc _ _) (Nat.le_refl _)
  have hs4 : w.heap.size ≤ (w4.alloc (.cells #[.slice a4 m4 c4] 22)).heap.size := by simp; have := hb4'.size; omega
  go_wp2_with (first
    | (at_builtin; go_must (refine wpList_vapp (w4.alloc (.cells #[.slice a4 m4 c4] 22)) rfl (.tmp 19) (.tmp 22) rfl w.heap.size v3 ([.slice a m c] ++ vs) rfl HA4.out (some ⟨w4.heap.size, 0, none⟩) 1 1 [.slice a4 m4 c4] rfl rfl (one_cell w4 _ _) one_one (by rw [List.length_append, HVL.out]; simp; omega) hs4 ?_); intro v5 w5 ho5 hg5))
  have hb5 : Below w.heap.size w w5 := (hb4'.alloc hb4'.size _).grown hg5 hs4 (fun k hk => ho3.size k hk)
  have hB4 : Bs w5 a4 m4 c4 [UInt8.ofNat i] := (ho4.toBs.below (below_alloc w4 (.cells #[.slice a4 m4 c4] 22)) (Nat.le_refl _)).grown hg5 (fun _ x hx e => by
    have h1 := ho4.blocks x hx
    have h2 := ho3.lt _ e
    omega)
  have hlen : ([.slice a m c] ++ vs ++ [.slice a4 m4 c4] : List Value).length = pn + 2 := by have := HVL.out; simp; omega
  obtain ⟨a', c', rfl, hB⟩ := ho5.bss (ls := l :: (ls ++ [[UInt8.ofNat i]])) (by have := HN.out; have := HVL.out; simp; omega) (fun j hj => by
    rw [hlen] at hj
    by_cases h0 : j = 0
    · subst h0
      exact ⟨a, m, c, rfl, ha.below hb5 (Nat.le_refl _)⟩
    · obtain ⟨k, rfl⟩ := Nat.exists_eq_add_of_le (show 1 ≤ j by omega)
      rw [Nat.add_comm 1 k, List.append_assoc, List.singleton_append, List.getElem?_cons_succ, List.getD_cons_succ]
      by_cases hk : k < pn
      · obtain ⟨x, y, z, e, hb⟩ := hv3 k hk
        refine ⟨x, y, z, by rw [List.getElem?_append_left (by have := HVL.out; omega)]; exact e, ?_⟩
        rw [List.getD_eq_getElem?_getD, List.getElem?_append_left (by have := HN.out; omega), ← List.getD_eq_getElem?_getD]
        exact hb.below hb5 (Nat.le_refl _)
      · obtain rfl : k = pn := by omega
        refine ⟨a4, m4, c4, by rw [List.getElem?_append_right (by have := HVL.out; omega), HVL.out, Nat.sub_self]; rfl, ?_⟩
        rw [List.getD_eq_getElem?_getD, List.getElem?_append_right (by have := HN.out; omega), HN.out, Nat.sub_self]
        exact hB4)
  go_ret
  rw [hlen] at hB ⊢
  exact ⟨a', c', rfl, hB, hb5⟩

end Go.Proofs.YtjpejheipkfanaaDoor

/-
  The contract of Expand: so many bytes of a key. Conditions: the package's constants lie where they were laid; a key of at most 90000 bytes, at most 1000 parts of at most 80000 bytes in all.
-/
namespace Go.Proofs.YtjpejheipkfanaaDoor
open Go.RowKit

/-- So many bytes of a key; none, if there are to be too many. -/
def expI (key info : List UInt8) (N : Int) : List UInt8 := if N < 0 ∨ 8160 < N then [] else expL key info N.toNat
theorem tot_append (x y : List (List UInt8)) : tot (x ++ y) = tot x + tot y := by
  induction x with
  | nil => simp [tot]
  | cons a x ih => simp [tot, ih]; omega

set_option maxRecDepth 100000 in
set_option maxHeartbeats 1000000 in
theorem oExpand (w : World) (hK : Kon w) {a p : Option Addr} {n c pn pc : Nat} {l : List UInt8} {ls : List (List UInt8)} (ha : Bs w a n c l) (hz : n ≤ 90000) (N : Int) (hN0 : -9223372036854775808 ≤ N) (hN1 : N ≤ 9223372036854775807) (hp : Bss w p pn pc ls) (hn : pn ≤ 1000) (ht : tot ls ≤ 80000) :
    Calls Tryd.prog 42 #[.slice a n c, .int .i64 N, .slice p pn pc] w fun e w' => ∃ a' m' c', e = .returned (.slice a' m' c') ∧ Bs w' a' m' c' (expI l ls.flatten N) ∧ Below w.heap.size w w' := by
  by_cases hbad : N < 0 ∨ 8160 < N
  · have E : Hid (expI l ls.flatten N = []) := by show _ = _; unfold expI; rw [if_pos hbad]
    rcases hbad with h | h
    · go_enter Tryd.func42, Tryd.ntmps42
      go_wp2
      go_ret
      rw [E.out]
      exact ⟨none, 0, 0, rfl, Bs.nil w, Below.refl _ _⟩
    · have h' : ¬ N < 0 := by omega
      go_enter Tryd.func42, Tryd.ntmps42
      go_wp2
      go_ret
      rw [E.out]
      exact ⟨none, 0, 0, rfl, Bs.nil w, Below.refl _ _⟩
  · obtain ⟨k0, rfl⟩ : ∃ k0 : Nat, N = (k0 : Int) := ⟨N.toNat, by omega⟩
    have hk0 : k0 ≤ 8160 := by omega
    have hk0i : ¬ (8160 : Int) < (k0 : Int) := by omega
    have hk0j : ¬ (k0 : Int) < 0 := by omega
    have E : Hid (expI l ls.flatten (k0 : Int) = expL l ls.flatten k0) := by show _ = _; unfold expI; rw [if_neg hbad, Int.toNat_natCast]
    rw [E.out]
    clear hbad E hN0 hN1
    have hall := all24
    go_enter Tryd.func42, Tryd.ntmps42
    go_wp2_with (first
      | (at_make; go_must (refine wpList_mk0 w rfl _ _ rfl w.heap.size _ rfl rfl (by omega) (by omega) (Nat.le_refl _) ?_); intro v1 w1 hown hbel))
    go_loopw [7, 8, 9, 10] (fun o la i _ wr => ∃ k : Nat, k ≤ (k0 + 31) / 32 ∧ i = .int .u64 ((k : Int) + 1) ∧ Own wr w.heap.size o ((outC l ls.flatten k).take k0) ∧ (∃ a' m' c', la = .slice a' m' c' ∧ Bs wr a' m' c' (chn l ls.flatten k)) ∧ Below w.heap.size w wr) (fun _ _ i _ _ => 300 - (intOf i).toNat)
    case atStart => exact ⟨0, by omega, rfl, by simpa [outC] using hown, ⟨none, 0, 0, rfl, Bs.nil _⟩, hbel⟩
    case round =>
      clear hown hbel
      obtain ⟨k, hk, rfl, ho, ⟨al, ml, cl, rfl, hL⟩, hb⟩ := hrel
      obtain ⟨ao, mo, co, rfl, hBo⟩ := ho.bs3
      have hmo : min k0 (32 * k) = mo := by
        have := hBo.len
        rw [List.length_take, outC_length] at this
        exact this
      by_cases hlt : mo < k0
      · have hkk : 32 * k = mo := by omega
        have hlti : (mo : Int) < (k0 : Int) := by omega
        obtain ⟨M, hM⟩ : ∃ M, M = macL l (chn l ls.flatten k :: (ls ++ [[UInt8.ofNat (k + 1)]])).flatten := ⟨_, rfl⟩
        have HC : Hid (chn l ls.flatten (k + 1) = M) := by show _ = _; rw [hM, chn]; simp
        have HM : Hid ((cs M).length = 32) := by show _ = _; rw [hM]; exact cs_mac _ _
        have HML : Hid (M.length = 32) := by show _ = _; rw [hM]; exact macL_length _ _
        have hlc : (chn l ls.flatten k).length ≤ 32 := by
          cases k with
          | zero => simp [chn]
          | succ k => rw [chn_length]; omega
        have CL : Hid (Calls Tryd.prog 53 #[.slice al ml cl, .slice p pn pc, .int .u64 ((k : Int) + 1)] wr fun e w' => ∃ a' c', e = .returned (.slice a' (pn + 2) c') ∧ Bss w' a' (pn + 2) c' (chn l ls.flatten k :: (ls ++ [[UInt8.ofNat (k + 1)]])) ∧ Below wr.heap.size wr w') := by
          have := oLink wr hL (hp.below hb (Nat.le_refl _)) hn (k + 1) (by omega)
          rw [show ((k + 1 : Nat) : Int) = (k : Int) + 1 from by omega] at this
          exact this
        have CM : Hid (∀ (w' : World) (a' : Option Addr) (c' : Nat), Kon w' → Bs w' a n c l → Bss w' a' (pn + 2) c' (chn l ls.flatten k :: (ls ++ [[UInt8.ofNat (k + 1)]])) → Calls Tryd.prog 52 #[.slice a n c, .slice a' (pn + 2) c'] w' fun e w'' => e = .returned (.agg (cs M).toArray) ∧ Below w'.heap.size w' w'') := fun w' a' c' hK' h1 h2 => by
          rw [hM]
          exact oMac w' hK' h1 hz h2 (by simp only [tot, tot_append]; simp; omega)
        clear hM
        have hsz := hb.size
        have e1 : (mo : Int) ≤ 8160 := by omega
        obtain ⟨t, ht'⟩ : ∃ t, t = min 32 (k0 - 32 * k) := ⟨_, rfl⟩
        have HST : Hid ((outC l ls.flatten k).take k0 ++ M.take t = (outC l ls.flatten (k + 1)).take k0) := by
          show _ = _
          rw [← HC.out, ht']
          exact out_step _ _ _ _
        have htl : t ≤ 32 := by omega
        have hrm : ((outC l ls.flatten k).take k0).length ≤ 8160 := by rw [List.length_take]; omega
        have HRM : Hid (∀ t, ((outC l ls.flatten k).take k0).length + (M.take t).length ≤ 1000000000) := fun t => by
          have h1 : (M.take t).length ≤ M.length := List.length_take_le' _ _
          have h2 := HML.out
          omega
        have hkl : k + 1 ≤ (k0 + 31) / 32 := by omega
        have hku : k ≤ 255 := by omega
        by_cases h32 : k0 - mo < 32
        · have ht2 : t = k0 - mo := by omega
          rw [ht2] at HST htl
          have h32i : (k0 : Int) - (mo : Int) < 32 := by omega
          clear hmo hkk ht' ht2
          go_wp2_with (first
            | (go_at_call 53; go_must (refine CL.out.mono ?_); rintro e w2 ⟨a2, c2, rfl, hB2, hb2⟩; have q2 := hb.trans (hb2.mono hsz); have hK2 := hK.below q2 hK.lt)
            | (go_at_call 52; go_must (refine (CM.out w2 a2 c2 hK2 (ha.below q2 (Nat.le_refl _)) hB2).mono ?_); rintro e w3 ⟨rfl, hb3⟩; have q3 : Below wr.heap.size wr w3 := hb2.trans (hb3.mono hb2.size))
            | (with_reducible refine at_st 111 ?_; go_must (refine st' 111 (.tmp 10) (.tmp 30) 32 size24 w3.heap.size 0 _ HM.out cs_one ((Blk.new w3 z24 111).there 0 32 (by decide)) rfl rfl ?_); intro w4 hw4
               have b4 : Blk w4 w3.heap.size (cs M) 111 := by rw [hw4]; exact (Blk.new w3 z24 111).setsW _ (by rw [HM.out]; rfl)
               have q4 : Below wr.heap.size wr w4 := by rw [hw4]; exact below_sets q3.size _ (q3.alloc q3.size _) 0
               clear hw4)
            | (at_builtin; go_must (refine wpList_appG w4 rfl (.tmp 32) (.tmp 41) rfl w.heap.size (.slice ao mo co) _ rfl (ho.below q4 (Nat.le_refl _)) (some ⟨w3.heap.size, 0, none⟩) (k0 - mo) 32 (M.take (k0 - mo)) rfl ((blk32 b4 HML.out).cutHigh (k0 - mo) (by omega) |>.2 w4 (blk32 b4 HML.out)) (HRM.out _) (Nat.le_trans hsz q4.size) ?_); intro v5 w5 ho5 hg5; have hb5 : Below w.heap.size w4 w5 := (Below.refl _ _).grown hg5 (Nat.le_trans hsz q4.size) (fun k hk => ho.size k hk)))
          go_roundw
          case rel =>
            refine ⟨k + 1, hkl, by simp, by rw [← HST.out]; exact ho5, ⟨_, 32, 32, rfl, ?_⟩, (hb.trans (q4.mono hsz)).trans hb5⟩
            rw [HC.out]
            exact (blk32 b4 HML.out).grown hg5 (fun _ x hx e => by simp only [Option.some.injEq] at hx; subst hx; have h1 := ho.lt _ e; have h2 := q3.size; simp only at h1; omega)
          case measure => simp [intOf]; omega
        · have ht2 : t = 32 := by omega
          rw [ht2] at HST
          have h32i : ¬ (k0 : Int) - (mo : Int) < 32 := by omega
          have HTM : Hid (M.take 32 = M) := List.take_of_length_le (by rw [HML.out]; omega)
          clear hmo hkk ht' ht2 htl
          go_wp2_with (first
            | (go_at_call 53; go_must (refine CL.out.mono ?_); rintro e w2 ⟨a2, c2, rfl, hB2, hb2⟩; have q2 := hb.trans (hb2.mono hsz); have hK2 := hK.below q2 hK.lt)
            | (go_at_call 52; go_must (refine (CM.out w2 a2 c2 hK2 (ha.below q2 (Nat.le_refl _)) hB2).mono ?_); rintro e w3 ⟨rfl, hb3⟩; have q3 : Below wr.heap.size wr w3 := hb2.trans (hb3.mono hb2.size))
            | (with_reducible refine at_st 111 ?_; go_must (refine st' 111 (.tmp 10) (.tmp 30) 32 size24 w3.heap.size 0 _ HM.out cs_one ((Blk.new w3 z24 111).there 0 32 (by decide)) rfl rfl ?_); intro w4 hw4
               have b4 : Blk w4 w3.heap.size (cs M) 111 := by rw [hw4]; exact (Blk.new w3 z24 111).setsW _ (by rw [HM.out]; rfl)
               have q4 : Below wr.heap.size wr w4 := by rw [hw4]; exact below_sets q3.size _ (q3.alloc q3.size _) 0
               clear hw4)
            | (at_builtin; go_must (refine wpList_appG w4 rfl (.tmp 32) (.tmp 41) rfl w.heap.size (.slice ao mo co) _ rfl (ho.below q4 (Nat.le_refl _)) (some ⟨w3.heap.size, 0, none⟩) 32 32 (M.take 32) rfl (by rw [HTM.out]; exact blk32 b4 HML.out) (HRM.out _) (Nat.le_trans hsz q4.size) ?_); intro v5 w5 ho5 hg5; have hb5 : Below w.heap.size w4 w5 := (Below.refl _ _).grown hg5 (Nat.le_trans hsz q4.size) (fun k hk => ho.size k hk)))
          go_roundw
          case rel =>
            refine ⟨k + 1, hkl, by simp, by rw [← HST.out]; exact ho5, ⟨_, 32, 32, rfl, ?_⟩, (hb.trans (q4.mono hsz)).trans hb5⟩
            rw [HC.out]
            exact (blk32 b4 HML.out).grown hg5 (fun _ x hx e => by simp only [Option.some.injEq] at hx; subst hx; have h1 := ho.lt _ e; have h2 := q3.size; simp only at h1; omega)
          case measure => simp [intOf]; omega
      · have hge : ¬ (mo : Int) < (k0 : Int) := by omega
        have hfin : k0 ≤ 32 * k := by omega
        rw [exp_eq l ls.flatten hfin] at hBo
        go_wp2
        go_ret
        exact ⟨ao, mo, co, rfl, hBo, hb⟩

end Go.Proofs.YtjpejheipkfanaaDoor

/-
  The contracts of the reference's Expand and Derive: so many bytes of a key. Conditions: a key and what it is for of at most 80000 bytes.
-/
namespace Go.Proofs.YtjpejheipkfanaaDoor
open Go.RowKit

set_option maxRecDepth 100000 in
set_option maxHeartbeats 1000000 in
theorem oDerive (w : World) (hK : Kon w) {a b p : Option Addr} {n c m q pn pc : Nat} {l t : List UInt8} {ls : List (List UInt8)} (ha : Bs w a n c t) (hz : n ≤ 80000) (hb : Bs w b m q l) (hm : m ≤ 80000) (N : Int) (hN0 : -9223372036854775808 ≤ N) (hN1 : N ≤ 9223372036854775807) (hp : Bss w p pn pc ls) (hn : pn ≤ 1000) (ht : tot ls ≤ 80000) :
    Calls Tryd.prog 32 #[.slice a n c, .slice b m q, .int .i64 N, .slice p pn pc] w fun e w' => ∃ a' m' c', e = .returned (.slice a' m' c') ∧ Bs w' a' m' c' (expI (macL l t) ls.flatten N) ∧ Below w.heap.size w w' := by
  have C1 : Hid (Calls Tryd.prog 43 #[.slice b m q, .slice a n c] w fun e w' => ∃ g, e = .returned (.slice (some ⟨g, 0, none⟩) 32 32) ∧ Bs w' (some ⟨g, 0, none⟩) 32 32 (macL l t) ∧ Below w.heap.size w w') := oExtract w hK hb (by omega) ha (by omega)
  generalize macL l t = K at *
  go_enter Tryd.func32, Tryd.ntmps32
  go_wp2_with fail
  refine C1.out.mono ?_
  rintro e w1 ⟨g, rfl, hB1, hb1⟩
  have C2 : Hid (Calls Tryd.prog 42 #[.slice (some ⟨g, 0, none⟩) 32 32, .int .i64 N, .slice p pn pc] w1 fun e w' => ∃ a' m' c', e = .returned (.slice a' m' c') ∧ Bs w' a' m' c' (expI K ls.flatten N) ∧ Below w1.heap.size w1 w') :=
    oExpand w1 (hK.below hb1 hK.lt) hB1 (by omega) N hN0 hN1 (hp.below hb1 (Nat.le_refl _)) hn ht
  go_wp2_with fail
  refine C2.out.mono ?_
  rintro e w2 ⟨a2, m2, c2, rfl, hB2, hb2⟩
  go_wp2
  go_ret
  exact ⟨a2, m2, c2, rfl, hB2, hb1.trans (hb2.mono hb1.size)⟩

end Go.Proofs.YtjpejheipkfanaaDoor

/-
  Slices of slices of bytes, and the contracts of total, Join and Pack, the reference's Join and Pack, Short and SameAll. Conditions: the parts have at most 100000 bytes in all, and are at most 100000 (of Short and SameAll: none but that lengths fit).
-/
namespace Go.Proofs.YtjpejheipkfanaaDoor
open Go.RowKit

/-- Each part with its length ahead. -/
def packL : List (List UInt8) → List UInt8
  | [] => []
  | x :: r => putL x.length 4 ++ x ++ packL r

theorem packL_snoc (l : List (List UInt8)) (x : List UInt8) : packL (l ++ [x]) = packL l ++ putL x.length 4 ++ x := by
  induction l with
  | nil => simp [packL]
  | cons y r ih => simp [packL, ih]

theorem packL_length (l : List (List UInt8)) : (packL l).length = tot l + 4 * l.length := by
  induction l with
  | nil => rfl
  | cons y r ih => simp [packL, tot, ih, putL_length]; omega

theorem pack_room {l : List (List UInt8)} {k m : Nat} (h : k < l.length) (hm : (l.getD k []).length = m) (hz : tot l ≤ 100000) (hn : l.length ≤ 100000) :
    m ≤ 100000 ∧ (packL (l.take k)).length + (putL m 4).length ≤ 1000000000 ∧ (packL (l.take k) ++ putL m 4).length + (l.getD k []).length ≤ 1000000000 := by
  have h1 := tot_take_le l (k + 1)
  rw [takes_snoc h, tot_snoc] at h1
  have h2 : (l.take k).length ≤ l.length := List.length_take_le' _ _
  rw [List.length_append, packL_length, putL_length]
  omega
theorem pack_step {l : List (List UInt8)} {k m : Nat} (h : k < l.length) (hm : (l.getD k []).length = m) : packL (l.take k) ++ putL m 4 ++ l.getD k [] = packL (l.take (k + 1)) := by
  rw [takes_snoc h, packL_snoc, hm]
theorem pack_end {w : World} {base n k : Nat} {v : Value} {l : List (List UInt8)} (H : Hid (l.length = n)) (h : ¬ k < n) (ho : Own w base v (packL (l.take k))) : Own w base v (packL l) := by
  rw [List.take_of_length_le (by rw [H.out]; omega)] at ho
  exact ho

set_option maxHeartbeats 400000 in
theorem oPack (w : World) {a : Option Addr} {n c : Nat} {ls : List (List UInt8)} (ha : Bss w a n c ls) (hz : tot ls ≤ 100000) (hn : n ≤ 100000) :
    Calls Tryd.prog 31 #[.slice a n c] w (Gives w (packL ls)) := by
  have hT := oTotal w ha hz
  by_cases h0 : n = 0
  · subst h0
    have e : ls = [] := List.length_eq_zero_iff.1 ha.len
    subst e
    clear ha
    go_enter Tryd.func31, Tryd.ntmps31
    go_wp2_with (first | (go_at_call 38; refine hT.mono ?_; rintro e w' ⟨rfl, rfl⟩) | (at_make; refine wpList_mk0 _ rfl _ _ rfl _ _ rfl rfl (by omega) (by omega) (Nat.le_refl _) ?_; intro v1 w1 hown hbel))
    refine wp_loop_rounds 1 ?_; rw [rounds_succ]; go_wp2
    go_ret
    exact Gives.mk hown hbel
  · obtain ⟨x, o, rfl, hx, hc⟩ := ha.at (by omega)
    have H : Hid (ls.length = n) := ha.len
    clear ha
    go_enter Tryd.func31, Tryd.ntmps31
    go_wp2_with (first | (go_at_call 38; refine hT.mono ?_; rintro e w' ⟨rfl, rfl⟩) | (at_make; refine wpList_mk0 _ rfl _ _ rfl _ _ rfl rfl (by omega) (by omega) (Nat.le_refl _) ?_; intro v1 w1 hown hbel))
    clear hT
    go_loopw [3, 15] (fun v i wr => ∃ k : Nat, k ≤ n ∧ i = .int .i64 k ∧ Own wr w.heap.size v (packL (ls.take k)) ∧ Below w.heap.size w wr) (fun _ i _ => n - (intOf i).toNat)
    case atStart => exact ⟨0, Nat.zero_le _, rfl, hown, hbel⟩
    case round =>
      obtain ⟨k, hk, rfl, ho, hb⟩ := hrel
      clear hown hbel
      by_cases hlt : k < n
      · obtain ⟨p, m, q, c1, hp⟩ := Bss.part hc hb k hlt
        obtain ⟨r0, r1, r2⟩ := pack_room (by rw [H.out]; exact hlt) hp.len hz (by rw [H.out]; exact hn)
        have hs := hb.size
        have HS : Hid (packL (ls.take k) ++ putL m 4 ++ ls.getD k [] = packL (ls.take (k + 1))) := pack_step (by rw [H.out]; exact hlt) hp.len
        have hP := oPut (m : Int) 4 wr (by omega) (by omega) (by omega) (by omega)
        rw [Int.toNat_natCast, show (4 : Int).toNat = 4 from rfl] at hP
        have HP : Hid (Calls Tryd.prog 25 #[.int .u64 (m : Int), .int .i64 4] wr (Gives wr (putL m 4))) := hP
        clear hP
        go_wp2_with (first | (go_at_call 25; refine HP.out.mono ?_; rintro e w1 ⟨a1, m1, c1', rfl, ho1, hb1⟩) | (at_builtin; refine wpList_app _ rfl (.tmp 19) (.tmp 23) rfl w.heap.size _ _ rfl (ho.below hb1 (Nat.le_refl _)) _ _ _ _ rfl ho1.toBs r1 (Nat.le_trans hs hb1.size) ?_; intro v2 w2 ho2 hb2) | (at_builtin; refine wpList_app _ rfl (.tmp 25) (.tmp 26) rfl w.heap.size _ _ rfl ho2 _ _ _ _ rfl (hp.below (hb.trans ((hb1.mono hs).trans hb2)) (Nat.le_refl _)) r2 (Nat.le_trans (Nat.le_trans hs hb1.size) hb2.size) ?_; intro v3 w3 ho3 hb3))
        go_roundw
        case rel => exact ⟨k + 1, by omega, by go_num, by rw [← HS.out]; exact ho3, hb.trans (((hb1.mono hs).trans hb2).trans hb3)⟩
        case measure => simp [intOf]; omega
      · go_wp2
        go_ret
        exact Gives.mk (pack_end H hlt ho) hb

end Go.Proofs.YtjpejheipkfanaaDoor

/-
  Contracts of layer 12's program's Nonce and Derive. Conditions: a key of at most 1000 bytes, ends of at most 80000 in all.
-/
namespace Go.Proofs.YtjpejheipkfanaaDoor
open Go.RowKit
set_option linter.unusedVariables false

/-- The nonce of two numbers. -/
def nonL (h l : Nat) : List UInt8 := putL h 8 ++ putL l 4
theorem nonL_length (h l : Nat) : (nonL h l).length = 12 := by simp [nonL, putL_length]
set_option maxHeartbeats 1000000 in
theorem oSNonce (w : World) (h l : Nat) (hh : h ≤ 18446744073709551615) (hl : l ≤ 4294967295) :
    Calls Tryd.prog 9 #[.int .u64 (h : Int), .int .u32 (l : Int)] w (Gives w (nonL h l)) := by
  have hl2 : (l : Int) ≤ 4294967295 := by omega
  go_enter Tryd.func9, Tryd.ntmps9
  go_wp2_with fail
  refine (oPut (h : Int) 8 w (by omega) (by omega) (by omega) (by omega)).mono ?_
  rintro e w1 ⟨a1, m1, c1, rfl, o1, hb1⟩
  go_wp2_with fail
  refine (oPut (l : Int) 4 w1 (by omega) (by omega) (by omega) (by omega)).mono ?_
  rintro e w2 ⟨a2, m2, c2, rfl, o2, hb2⟩
  have z1 : m1 ≤ 100 := by have := o1.toBs.len; rw [putL_length] at this; omega
  have z2 : m2 ≤ 100 := by have := o2.toBs.len; rw [putL_length] at this; omega
  go_wp2_with fail
  refine (oJoin2 w2 (o1.toBs.below hb2 (Nat.le_refl _)) o2.toBs (by omega)).mono ?_
  rintro e w3 ⟨a3, m3, c3, rfl, o3, hb3⟩
  go_wp2_with fail
  go_ret
  have q2 := hb1.trans (hb2.mono hb1.size)
  rw [Int.toNat_natCast, Int.toNat_natCast] at o3
  exact ⟨a3, m3, c3, rfl, o3.mono q2.size, q2.trans (hb3.mono q2.size)⟩

theorem builtEn (k n : ByteArray) : Tryd.prog.built 72 [(0, .string k), (1, .string n)] = some #[.string k, .string n] := by kernel_rfl
theorem sizeEn : (Tryd.prog.info? 72).map (·.size) = some 2 := by kernel_rfl
theorem zeroU (w : World) : (zeroValue 32).run Tryd.prog w = .ok (.int .u64 0) w := by kernel_rfl
theorem kid_derive_none {S : SeaS} {u p : List UInt8} (h : S.kid u p = none) : updK (kidK S) (u, p) (.int .u64 ((S.count + 1 : Nat) : Int)) = kidK (S.derive u p) := by
  funext x
  unfold updK kidK
  rw [S.kid_derive]
  by_cases hx : x = (u, p)
  · subst hx
    dsimp only
    rw [if_pos rfl, h]
    simp
  · rw [if_neg hx]
    cases hf : S.kid x.1 x.2 with
    | some e => rfl
    | none =>
      dsimp only
      rw [if_neg]
      rintro ⟨rfl, rfl⟩
      exact hx rfl
theorem SeaS.derive_some {S : SeaS} {u p : List UInt8} {c : Kid} (h : S.kid u p = some c) : S.derive u p = S := by unfold SeaS.derive; rw [h]
theorem SeaS.derive_none {S : SeaS} {u p : List UInt8} (h : S.kid u p = none) : S.derive u p = { S with count := S.count + 1, kids := S.kids ++ [⟨u, p, S.count + 1⟩] } := by unfold SeaS.derive; rw [h]
/-- The map of keys was written. -/
theorem Se.derived {U : Nat → Prop} {w w' : World} {r m3 : Nat} {S : SeaS} {M : SeaM} {u p : List UInt8} (hn : S.kid u p = none) (h : Se U w r { S with count := S.count + 1 } M) (hi : S.ideal = true) (h3 : M.ks = some m3) (hu : U m3) (n1 : m3 ≠ M.m1) (n2 : m3 ≠ M.m2) (hm : Mks kvP okKP w' m3 (kidK (S.derive u p))) (hm0 : Mks kvP okKP w m3 (kidK S)) (k : Kp (fun j => j = m3) w w') : Se U w' r (S.derive u p) M := by
  have hd := SeaS.derive_none hn
  have hb : Blk w' r (seC (S.derive u p) M) 55 := by
    rw [hd]
    exact k.blk h.blk (hm0.notCells h.blk)
  refine ⟨fun j hj => Nat.lt_of_lt_of_le (h.lt j hj) k.size, h.inR, hb, h.in1, h.in2, h.ne12, ?_, ?_, fun _ => ⟨m3, h3, hu, n1, n2, hm⟩, fun hf => ?_, ?_⟩
  · rw [hd]
    exact h.first.same (k.block _ h.first.lt (Ne.symm n1))
  · obtain ⟨g, a1, a2⟩ := h.texts
    refine ⟨g, a1.same (k.block _ a1.lt (Ne.symm n2)), ?_⟩
    rw [hd]
    exact a2
  · rw [hd] at hf
    dsimp only at hf
    rw [hi] at hf
    cases hf
  · rw [hd]
    exact h.bound
/-- What Derive answers, ideally. -/
def DerivS (U : Nat → Prop) (r : Nat) (S' : SeaS) (M : SeaM) (l : List UInt8) (w : World) (e : Ending) (w' : World) : Prop := ∃ a m c, e = .returned (.slice a m c) ∧ Own w' w.heap.size (.slice a m c) l ∧ Se U w' r S' M ∧ Kp U w w'

set_option maxHeartbeats 1000000 in
theorem oSDeriveR (w : World) (hK : Kon w) {U : Nat → Prop} {r : Nat} {S : SeaS} {M : SeaM} (h : Se U w r S M) (hi : S.ideal = false) {f : List UInt8} {ls : List (List UInt8)} {af ap : Option Addr} {nf cf np cp : Nat} (hf : Bs w af nf cf f) (hp : Bss w ap np cp ls) (zf : nf ≤ 1000) (zp : np ≤ 1000) (zt : tot ls ≤ 60000) :
    Calls Tryd.prog 16 #[.pointer (some ⟨r, 0, none⟩), .slice af nf cf, .slice ap np cp] w fun e w' => ∃ a m c, e = .returned (.slice a m c) ∧ Bs w' a m c (expI (macL [] f) (packL ls) 32) ∧ Below w.heap.size w w' := by
  have HS : Hid (Se U w r S M) := h
  have HF : Hid (Bs w af nf cf f) := hf
  have HKn : Hid (Kon w) := hK
  have HI : Hid (S.ideal = false) := hi
  have HPL : Hid ((packL ls).length ≤ 70000) := by
    show _ ≤ _
    have := packL_length ls
    have := hp.len
    omega
  have CP : Hid (Calls Tryd.prog 31 #[.slice ap np cp] w (Gives w (packL ls))) := oPack w hp (by omega) (by omega)
  obtain ⟨P, hP⟩ : ∃ P, P = packL ls := ⟨_, rfl⟩
  rw [← hP] at CP HPL ⊢
  clear h hf hp hK hi hP
  go_enter Tryd.func16, Tryd.ntmps16
  go_wp2_with fail
  refine CP.out.mono ?_
  rintro e w1 ⟨a1, m1, c1, rfl, o1, hb1⟩
  have hS1 := HS.out.grow hb1
  have hi0 : w1.cell? ⟨r, 0, none⟩ = some (.bool S.ideal) := hS1.blk.cell 0
  rw [HI.out] at hi0
  have lr := hS1.blk.lt
  have HO : Hid (Own w1 w.heap.size (.slice a1 m1 c1) P) := o1
  have HB1 : Hid (Below w.heap.size w w1) := hb1
  clear o1 hb1 hS1
  go_wp2_with fail
  have e1 : [P].flatten = P := by simp
  have CD := oDerive (w1.alloc (.cells #[.slice a1 m1 c1] 22)) (HKn.out.below (HB1.out.trans ((below_alloc w1 _).mono HB1.out.size)) HKn.out.lt) (ls := [P]) (HF.out.below (HB1.out.trans ((below_alloc w1 _).mono HB1.out.size)) (Nat.le_refl _)) (by omega) (Bs.nil _) (by omega) 32 (by omega) (by omega) (Bss.one1 HO.out.toBs) (by omega) (by have := HPL.out; simp [tot]; omega)
  rw [e1] at CD
  refine CD.mono ?_
  rintro e w2 ⟨a2, m2, c2, rfl, hB2, hb2⟩
  have q := HB1.out.trans (((below_alloc w1 (.cells #[.slice a1 m1 c1] 22)).trans (hb2.mono (below_alloc w1 _).size)).mono HB1.out.size)
  clear CD hb2
  go_wp2_with fail
  go_ret
  exact ⟨a2, m2, c2, rfl, hB2, q⟩

set_option maxRecDepth 100000 in
set_option maxHeartbeats 2000000 in
theorem oSDeriveI (w : World) {U : Nat → Prop} {r : Nat} {S : SeaS} {M : SeaM} (h : Se U w r S M) (hok : S.Ok) (hi : S.ideal = true) {f : List UInt8} {ls : List (List UInt8)} {af ap : Option Addr} {nf cf np cp : Nat} (hf : Bs w af nf cf f) (hp : Bss w ap np cp ls) (zf : nf ≤ 1000) (zp : np ≤ 1000) (zt : tot ls ≤ 60000) (hc : S.count + S.book.length + 2 ≤ 1000000) :
    Calls Tryd.prog 16 #[.pointer (some ⟨r, 0, none⟩), .slice af nf cf, .slice ap np cp] w (DerivS U r (S.derive f (packL ls)) M (noiseL (S.num f (packL ls)) 32) w) := by
  have HS : Hid (Se U w r S M) := h
  have HF : Hid (Bs w af nf cf f) := hf
  have HI : Hid (S.ideal = true) := hi
  have HPL : Hid (fitW (packL ls) ∧ fitW f) := by
    have h1 := packL_length ls
    have h2 := hp.len
    have h3 := hf.len
    constructor <;> (unfold fitW; omega)
  have CP : Hid (Calls Tryd.prog 31 #[.slice ap np cp] w (Gives w (packL ls))) := oPack w hp (by omega) (by omega)
  obtain ⟨P, hP⟩ : ∃ P, P = packL ls := ⟨_, rfl⟩
  rw [← hP] at CP HPL ⊢
  obtain ⟨m3, k1, k2, k3, k4, k5⟩ := h.keys hi
  have OKP : Hid (okKP (f, P)) := ⟨HPL.out.2, HPL.out.1⟩
  have HM : Hid (M.ks = some m3 ∧ U m3 ∧ m3 ≠ M.m1 ∧ m3 ≠ M.m2 ∧ Mks kvP okKP w m3 (kidK S)) := ⟨k1, k2, k3, k4, k5⟩
  clear h hf hp hi hP k1 k2 k3 k4 k5
  have hbE := builtEn
  go_enter Tryd.func16, Tryd.ntmps16
  go_wp2_with fail
  refine CP.out.mono ?_
  rintro e w1 ⟨a1, m1, c1, rfl, o1, hb1⟩
  have hS1 := HS.out.grow hb1
  have hi0 : w1.cell? ⟨r, 0, none⟩ = some (.bool S.ideal) := hS1.blk.cell 0
  rw [HI.out] at hi0
  have lr := hS1.blk.lt
  have s1 := (HF.out.below hb1 (Nat.le_refl _)).str
  have s2 := o1.toBs.str
  have HB1 : Hid (Below w.heap.size w w1) := hb1
  unfold sv at s1 s2
  clear o1 hb1 hS1
  go_wp2_with fail
  have B8 : Hid (Blk (w1.alloc (.cells #[.string ⟨f.toArray⟩, .string ⟨P.toArray⟩] 72)) w1.heap.size [sv f, sv P] 72) := Blk.new w1 _ _
  have q2 : Below w.heap.size w (w1.alloc (.cells #[.string ⟨f.toArray⟩, .string ⟨P.toArray⟩] 72)) := HB1.out.trans ((below_alloc w1 _).mono HB1.out.size)
  have HB2 : Hid (Below w.heap.size w (w1.alloc (.cells #[.string ⟨f.toArray⟩, .string ⟨P.toArray⟩] 72))) := q2
  obtain ⟨x8, hx8⟩ : ∃ x, x = w1.heap.size := ⟨_, rfl⟩
  rw [← hx8] at B8 ⊢
  clear hx8 q2 s1 s2 hi0 lr
  generalize w1.alloc (.cells #[.string ⟨f.toArray⟩, .string ⟨P.toArray⟩] 72) = w2 at *
  have S2 : Hid (Se U w2 r S M) := HS.out.grow HB2.out
  have M2 : Hid (Mks kvP okKP w2 m3 (kidK S)) := HM.out.2.2.2.2.same (HB2.out.block _ HM.out.2.2.2.2.lt)
  have F8 : ∀ u, Grows w2 u → u.cell? ⟨r, 8, none⟩ = some (.map (some m3)) := fun u hu => by
    have := (S2.out.grow hu).blk.cell 8
    rw [show (seC S M)[8]? = some (.map M.ks) from rfl, HM.out.1] at this
    exact this
  obtain ⟨nv, hnv⟩ : ∃ nv : Nat, ((kidK S) (f, P)).getD (.int .u64 0) = .int .u64 (nv : Int) := by
    unfold kidK
    cases S.kid f P with
    | none => exact ⟨0, rfl⟩
    | some e => exact ⟨e.num, rfl⟩
  obtain ⟨tk, htk⟩ : ∃ tk, ((kidK S) (f, P)).isSome = tk := ⟨_, rfl⟩
  have HV : Hid (((kidK S) (f, P)).getD (.int .u64 0) = .int .u64 (nv : Int) ∧ ((kidK S) (f, P)).isSome = tk) := ⟨hnv, htk⟩
  refine regionG (S := Grows w2) (by kernel_rfl) (Below.refl _ w2).drew ?_
  refine takeG 0 (some 28) (.pointer (some ⟨r, 0, none⟩)) rfl rfl (by kernel_rfl) (by kernel_rfl) (by kernel_rfl) (fun _ _ _ h => h) (ans_plain (by rfl) (fun w _ => rfl)) ?_
  simp only [Act.put, List.setIfInBounds_toArray, List.set_cons_zero, List.set_cons_succ]
  refine takeG 1 (some 29) (.pointer (some ⟨r, 0, none⟩)) rfl rfl (by kernel_rfl) (by kernel_rfl) (by kernel_rfl) (fun _ _ _ h => h) (ans_plain (by rfl) (fun w _ => by unfold execOp; go_simp)) ?_
  simp only [Act.put, List.setIfInBounds_toArray, List.set_cons_zero, List.set_cons_succ]
  refine takeG 2 (some 30) (.pointer (some ⟨r, 8, none⟩)) rfl rfl (by kernel_rfl) (by kernel_rfl) (by kernel_rfl) (fun _ _ _ h => h) (ans_plain (by rfl) (fun w _ => by unfold execOp; go_simp)) ?_
  simp only [Act.put, List.setIfInBounds_toArray, List.set_cons_zero, List.set_cons_succ]
  refine takeG 3 (some 31) (.map (some m3)) rfl rfl (by kernel_rfl) (by kernel_rfl) (by kernel_rfl) (fun _ _ _ h => h) (ans_plain (by rfl) (fun w h => by have hc := F8 w h; unfold execOp; go_simp)) ?_
  simp only [Act.put, List.setIfInBounds_toArray, List.set_cons_zero, List.set_cons_succ]
  refine takeG 4 (some 32) (.agg #[sv f, sv P]) rfl rfl (by kernel_rfl) (by kernel_rfl) (by kernel_rfl) (fun _ _ _ h => h) (ans_row 72 (.tmp 8) _ 2 rfl (by rfl) x8 0 rfl [sv f, sv P] (fun u hu => (B8.out.grows hu).whole) Tryd.underlying72 rfl rfl sizeEn) ?_
  simp only [Act.put, List.setIfInBounds_toArray, List.set_cons_zero, List.set_cons_succ]
  refine takeG 5 (some 33) (.tuple #[((kidK S) (f, P)).getD (.int .u64 0), .bool ((kidK S) (f, P)).isSome]) rfl rfl (by kernel_rfl) (by kernel_rfl) (by kernel_rfl) (fun _ _ _ h => h) (ans_lookK (.tmp 31) (.tmp 32) 53 72 32 rfl (by rfl) keysE Tryd.underlying53 (.int .u64 0) zeroU m3 (kidK S) rfl (f, P) OKP.out rfl (fun u hu => M2.out.same (Below.block hu _ M2.out.lt))) ?_
  simp only [Act.put, List.setIfInBounds_toArray, List.set_cons_zero, List.set_cons_succ]
  rw [hnv, htk]
  clear hnv htk F8
  refine takeG 6 (some 27) (.tuple #[.int .u64 (nv : Int), .bool tk]) rfl rfl (by kernel_rfl) (by kernel_rfl) (by kernel_rfl) (fun _ _ _ h => h) (ans_plain (by rfl) (fun w _ => rfl)) ?_
  simp only [Act.put, List.setIfInBounds_toArray, List.set_cons_zero, List.set_cons_succ]
  refine takeG 7 (some 34) (.int .u64 (nv : Int)) rfl rfl (by kernel_rfl) (by kernel_rfl) (by kernel_rfl) (fun _ _ _ h => h) (ans_plain (by rfl) (fun w _ => by unfold execOp; go_simp)) ?_
  simp only [Act.put, List.setIfInBounds_toArray, List.set_cons_zero, List.set_cons_succ]
  refine takeG 8 (some 35) (.bool tk) rfl rfl (by kernel_rfl) (by kernel_rfl) (by kernel_rfl) (fun _ _ _ h => h) (ans_plain (by rfl) (fun w _ => by unfold execOp; go_simp)) ?_
  simp only [Act.put, List.setIfInBounds_toArray, List.set_cons_zero, List.set_cons_succ]
  refine takeG 9 (some 9) (.int .u64 (nv : Int)) rfl rfl (by kernel_rfl) (by kernel_rfl) (by kernel_rfl) (fun _ _ _ h => h) (ans_plain (by rfl) (fun w _ => rfl)) ?_
  simp only [Act.put, List.setIfInBounds_toArray, List.set_cons_zero, List.set_cons_succ]
  refine takeG 10 (some 10) (.bool tk) rfl rfl (by kernel_rfl) (by kernel_rfl) (by kernel_rfl) (fun _ _ _ h => h) (ans_plain (by rfl) (fun w _ => rfl)) ?_
  simp only [Act.put, List.setIfInBounds_toArray, List.set_cons_zero, List.set_cons_succ]
  refine doneG (by kernel_rfl) fun w3 hg3 hs3 => ?_
  have S3 : Hid (Se U w3 r S M) := S2.out.grow hs3
  have M3 : Hid (Mks kvP okKP w3 m3 (kidK S)) := M2.out.same (Below.block hs3 _ M2.out.lt)
  have B83 : Hid (Blk w3 x8 [sv f, sv P] 72) := B8.out.grows hs3
  have HB3 : Hid (Below w.heap.size w w3) := HB2.out.trans (Below.mono hs3 HB2.out.size)
  clear S2 M2 B8 HB2 hg3 hs3
  rcases Option.eq_none_or_eq_some (S.kid f P) with hk | ⟨c, hk⟩
  · have htk : tk = false := by rw [← HV.out.2]; unfold kidK; rw [hk]; rfl
    have HN : Hid (S.kid f P = none) := hk
    have HNN : Hid (S.num f P = S.count + 1) := by show _ = _; unfold SeaS.num; rw [hk]
    clear hk
    subst htk
    go_wp2_with fail
    refine (oSNext w3 S3.out (by omega)).mono ?_
    rintro e w4 ⟨rfl, hS4, hk4⟩
    have S4 : Hid (Se U w4 r { S with count := S.count + 1 } M) := hS4
    have M4 : Hid (Mks kvP okKP w4 m3 (kidK S)) := M3.out.same (hk4.block _ M3.out.lt fun e => (M3.out.notCells S3.out.blk).symm e)
    have hne8 : x8 ≠ r := fun e => by
      have b1 := B83.out
      have b2 := S3.out.blk
      rw [e] at b1
      unfold Blk at b1 b2
      rw [b2] at b1
      simp only [Option.some.injEq, Obj.cells.injEq] at b1
      exact absurd b1.2.1 (by decide)
    have B84 : Hid (Blk w4 x8 [sv f, sv P] 72) := hk4.blk B83.out hne8
    have K4 : Hid (Kp U w w4) := (Kp.of_below HB3.out).trans (hk4.mono fun j _ e => by rw [e]; exact HS.out.inR)
    have F8 : ∀ u, Grows w4 u → u.cell? ⟨r, 8, none⟩ = some (.map (some m3)) := fun u hu => by
      have := (S4.out.grow hu).blk.cell 8
      rw [show (seC { S with count := S.count + 1 } M)[8]? = some (.map M.ks) from rfl, HM.out.1] at this
      exact this
    clear hS4 hk4 S3 M3 B83 hne8
    obtain ⟨q, hq⟩ : ∃ q, q = S.count + 1 := ⟨_, rfl⟩
    have HQ : Hid (q = S.count + 1) := hq
    have hq2 : q ≤ 1000000 := by omega
    rw [← hq]
    clear hq
    go_wp2_with fail
    refine regionE 6 (S := Grows w4) (by kernel_rfl) (Below.refl _ w4).drew ?_
    refine takeT 0 (some 40) (.pointer (some ⟨r, 0, none⟩)) rfl rfl (by kernel_rfl) (fun _ _ _ h => h) (ans_plain (by rfl) (fun w _ => rfl)) ?_
    simp only [Act.put, List.setIfInBounds_toArray, List.set_cons_zero, List.set_cons_succ]
    refine takeT 1 (some 41) (.pointer (some ⟨r, 0, none⟩)) rfl rfl (by kernel_rfl) (fun _ _ _ h => h) (ans_plain (by rfl) (fun w _ => by unfold execOp; go_simp)) ?_
    simp only [Act.put, List.setIfInBounds_toArray, List.set_cons_zero, List.set_cons_succ]
    refine takeT 2 (some 42) (.pointer (some ⟨r, 8, none⟩)) rfl rfl (by kernel_rfl) (fun _ _ _ h => h) (ans_plain (by rfl) (fun w _ => by unfold execOp; go_simp)) ?_
    simp only [Act.put, List.setIfInBounds_toArray, List.set_cons_zero, List.set_cons_succ]
    refine takeT 3 (some 43) (.map (some m3)) rfl rfl (by kernel_rfl) (fun _ _ _ h => h) (ans_plain (by rfl) (fun w h => by have hc := F8 w h; unfold execOp; go_simp)) ?_
    simp only [Act.put, List.setIfInBounds_toArray, List.set_cons_zero, List.set_cons_succ]
    refine takeT 4 (some 44) (.agg #[sv f, sv P]) rfl rfl (by kernel_rfl) (fun _ _ _ h => h) (ans_row 72 (.tmp 8) _ 2 rfl (by rfl) x8 0 rfl [sv f, sv P] (fun u hu => (B84.out.grows hu).whole) Tryd.underlying72 rfl rfl sizeEn) ?_
    simp only [Act.put, List.setIfInBounds_toArray, List.set_cons_zero, List.set_cons_succ]
    refine takeT 5 (some 45) (.int .u64 (q : Int)) rfl rfl (by kernel_rfl) (fun _ _ _ h => h) (ans_plain (by rfl) (fun w _ => rfl)) ?_
    simp only [Act.put, List.setIfInBounds_toArray, List.set_cons_zero, List.set_cons_succ]
    refine lastE (by kernel_rfl) (by kernel_rfl) (by kernel_rfl) (by kernel_rfl) fun w5 hg5 hs5 => ?_
    refine opMsetK 6 53 72 32 (.tmp 43) (.tmp 44) (.tmp 45) rfl rfl rfl rfl keysE Tryd.underlying53 m3 (kidK S) rfl (f, P) OKP.out rfl (.int .u64 (q : Int)) rfl (M4.out.same (Below.block hs5 _ M4.out.lt)) fun w6 k6 hgr6 => ?_
    intro w7 hg7
    have kk : Kp (fun j => j = m3) w4 w7 := ((Kp.of_below hs5).trans (Kp.of_grown hgr6)).trans (Kp.of_below hg7)
    rw [HQ.out, kid_derive_none HN.out] at k6
    have S7 : Hid (Se U w7 r (S.derive f P) M) := Se.derived HN.out S4.out HI.out HM.out.1 HM.out.2.1 HM.out.2.2.1 HM.out.2.2.2.1 (k6.same (Below.block hg7 _ k6.lt)) M4.out kk
    have K7 : Hid (Kp U w w7) := K4.out.trans (kk.mono fun j _ e => by rw [e]; exact HM.out.2.1)
    clear kk k6 hgr6 hg7 hg5 hs5 F8 S4 M4 B84 K4
    go_wp2_with fail
    refine (oNoise (q : Int) 32 w7 (by omega) (by omega) (by omega) (by omega)).mono ?_
    rintro e w8 ⟨a8, m8, c8, rfl, o8, hb8⟩
    rw [Int.toNat_natCast, HQ.out, ← HNN.out] at o8
    go_wp2_with fail
    go_ret
    exact ⟨a8, m8, c8, rfl, o8.mono K7.out.size, S7.out.grow hb8, K7.out.trans (Kp.of_below hb8)⟩
  · have htk : tk = true := by rw [← HV.out.2]; unfold kidK; rw [hk]; rfl
    have hcn : c.num = nv := by
      have := HV.out.1
      unfold kidK at this
      rw [hk] at this
      simp only [Option.map_some, Option.getD_some, Value.int.injEq, true_and] at this
      omega
    have HNN : Hid (S.num f P = nv) := by show _ = _; rw [SeaS.num_of hk, hcn]
    have hkb : nv ≤ 1000000 := by
      have h1 := hok.kids c (List.mem_of_find?_eq_some hk)
      have h2 := hok.bound
      omega
    have HD : Hid (S.derive f P = S) := SeaS.derive_some hk
    clear hk hcn
    subst htk
    go_wp2_with fail
    refine (oNoise (nv : Int) 32 w3 (by omega) (by omega) (by have := hkb; omega) (by omega)).mono ?_
    rintro e w8 ⟨a8, m8, c8, rfl, o8, hb8⟩
    rw [Int.toNat_natCast, ← HNN.out] at o8
    go_wp2_with fail
    go_ret
    exact ⟨a8, m8, c8, rfl, o8.mono HB3.out.size, by rw [HD.out]; exact S3.out.grow hb8, (Kp.of_below HB3.out).trans (Kp.of_below hb8)⟩

end Go.Proofs.YtjpejheipkfanaaDoor

/-
  How an argument that is a slice of bytes is opened into a plain list. No condition; no statement of the seat is proved here.
-/
namespace Go.Proofs.YtjpejheipkfanaaDoor
open Go.RowKit Go.ChangeShapes Go.WideShapes Go.ChangeAt

theorem Bs.of_trod {H : Type} {enc : TypeId × Value → H} {W : World} {base : Nat} {held : Bool} {fuel : Nat} {a : Option Addr} {n c : Nat} {x : DataW H × List MemPlace}
    (h : DataW.trod enc Tryd.prog W base (fun _ => true) held fuel 22 [.slice a n c] = some x) : ∃ l, Bs W a n c l := by
  rcases open_ints Tryd.underlying22 Tryd.underlying5 (by kernel_rfl) h with ⟨hcs, _⟩ | ⟨x, l, c, zs, hcs, _, hl, hm, hz, _, hcell, hwz⟩
  · simp at hcs
    obtain ⟨rfl, rfl, rfl⟩ := hcs
    exact ⟨[], Bs.nil W⟩
  · simp at hcs
    obtain ⟨rfl, rfl, rfl⟩ := hcs
    exact Bs.of_row (zs := zs) (Or.inr ⟨_, rfl, hl, hm, by simpa using hz, hcell, hwz⟩)

end Go.Proofs.YtjpejheipkfanaaDoor

/-
  How slices of structs and bytes that were handed in are opened. No condition; no statement of the seat is proved here.
-/
namespace Go.Proofs.YtjpejheipkfanaaDoor
open Go.RowKit Go.ChangeShapes Go.WideShapes Go.ChangeAt

theorem Rel2.map {α β : Type} {R : α → β → Prop} {f : Nat → α} {g : Nat → β} : ∀ {L : List Nat}, (∀ i ∈ L, R (f i) (g i)) → Rel2 R (L.map f) (L.map g)
  | [], _ => trivial
  | a :: L, h => ⟨h a (by simp), Rel2.map fun i hi => h i (by simp [hi])⟩
theorem len_cons {l : List Value} {n : Nat} (h : l.length = n + 1) : ∃ a m, l = a :: m ∧ m.length = n := by
  cases l with
  | nil => simp at h
  | cons a m => exact ⟨a, m, rfl, by simpa using h⟩
theorem len_zero {l : List Value} (h : l.length = 0) : l = [] := List.length_eq_zero_iff.1 h
/-- Rows in memory, each of them a struct, are a slice of structs. -/
theorem Sl.of_rows {α : Type} (z0 : α) {el : World → α → List Value → Prop} {sz : Nat} {A : Nat → Prop} {W : World} {base : Nat} {y : Addr} {n c : Nat} (hsz : 0 < sz) (hl : n ≤ c) (hm : c ≤ maxLen) (hA : ∀ j, j < W.heap.size → A j)
    (hrow : ∀ i, i < n → ∃ cs', W.cells? base (y.add (i * sz)) sz = some cs' ∧ ∃ x, Row el sz W x cs') : ∃ l, Sl el sz A W (some y) n c l := by
  haveI : Inhabited α := ⟨z0⟩
  have hex : ∀ i, i < n → ∃ z : α × List Value, W.cells? base (y.add (i * sz)) sz = some z.2 ∧ Row el sz W z.1 z.2 := by
    intro i hi
    obtain ⟨cs', h1, x, h2⟩ := hrow i hi
    exact ⟨(x, cs'), h1, h2⟩
  obtain ⟨f, hf⟩ := Deep.choose_lt hex
  have hrel : Rel2 (Row el sz W) ((List.range n).map fun i => (f i).1) ((List.range n).map fun i => (f i).2) := Rel2.map fun i hi => (hf i (by simpa using hi)).2
  refine ⟨(List.range n).map fun i => (f i).1, (List.range n).map fun i => (f i).2, hrel, by simp, hl, hm, by simp, fun hn => ?_⟩
  obtain ⟨b, o, s⟩ := y
  have h00 := (hf 0 hn).1
  obtain ⟨_, hlen0, h0⟩ := World.cells?_some h00
  have hc0 := h0 0 hsz
  have hlt : 0 < (f 0).2.length := by omega
  rw [List.getElem?_eq_getElem hlt] at hc0
  have hs : s = none := by
    have := World.cell?_spot hc0
    simpa [Addr.add] using this
  subst hs
  rw [add_none, add_none] at hc0
  refine ⟨b, o, rfl, lt_of_cell hc0, hA _ (lt_of_cell hc0), ?_⟩
  intro j v hj
  have hflen := flatC_len (rel_lens hrel)
  have hjl : j < n * sz := by
    have := (List.getElem?_eq_some_iff.1 hj).1
    rw [hflen] at this
    simpa using this
  have hi : j / sz < n := (Nat.div_lt_iff_lt_mul hsz).2 hjl
  have hr : j % sz < sz := Nat.mod_lt _ hsz
  have hdm : j / sz * sz + j % sz = j := by rw [Nat.mul_comm]; exact Nat.div_add_mod j sz
  have hfl := flat_at (rel_lens hrel) (i := j / sz) (vs := (f (j / sz)).2) (by simp [hi]) (j % sz) hr
  rw [hdm, hj] at hfl
  obtain ⟨_, _, hcell⟩ := World.cells?_some (hf (j / sz) hi).1
  have hc := hcell (j % sz) hr
  rw [add_none, add_none, ← hfl, Nat.add_assoc, hdm] at hc
  exact hc

theorem BA.of_trod {H : Type} {enc : TypeId × Value → H} {W : World} {base : Nat} {held : Bool} {fuel : Nat} {a : Option Addr} {n c : Nat} {x : DataW H × List MemPlace} {A : Nat → Prop} (hA : ∀ j, j < W.heap.size → A j)
    (h : DataW.trod enc Tryd.prog W base (fun _ => true) held fuel 22 [.slice a n c] = some x) : ∃ l, BA A W a n c l := by
  obtain ⟨l, hb⟩ := Bs.of_trod h
  refine ⟨l, hb, fun hn => ?_⟩
  obtain ⟨b, o, ha, hlt, _⟩ := hb.at hn
  exact ⟨_, ha, hA _ hlt, hlt⟩
/-- A slice in a field. -/
theorem slice_of_trod {H : Type} {enc : TypeId × Value → H} {W : World} {base : Nat} {held : Bool} {fuel : Nat} {t e : TypeId} {v : Value} {x : DataW H × List MemPlace} (ht : Tryd.prog.underlying t = some (.slice e))
    (h : DataW.trod enc Tryd.prog W base (fun _ => true) held fuel t [v] = some x) : ∃ a n c, v = .slice a n c := by
  rcases Deep.open_slice ht h with ⟨hcs, _⟩ | ⟨y, len, cap, m, n', D, Pl, hcs, _⟩
  · simp at hcs
    exact ⟨_, _, _, hcs⟩
  · simp at hcs
    exact ⟨_, _, _, hcs⟩

end Go.Proofs.YtjpejheipkfanaaDoor
