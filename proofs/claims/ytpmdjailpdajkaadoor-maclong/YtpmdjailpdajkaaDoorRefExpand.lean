/-
  The contracts of the reference's Expand and Derive: so many bytes of a key. Conditions: a key and what it is for of at most 80000 bytes.
-/
import Derived.Test.YtpmdjailpdajkaaDoorRefMac
import Derived.Test.YtpmdjailpdajkaaDoorRJoin
import Derived.Test.YtpmdjailpdajkaaDoorExpand
namespace Go.Proofs.YtpmdjailpdajkaaDoor
open Go.RowKit

theorem Bss.three {w : World} {a1 a2 a3 : Option Addr} {n1 c1 n2 c2 n3 c3 : Nat} {l1 l2 l3 : List UInt8} (h1 : Bs w a1 n1 c1 l1) (h2 : Bs w a2 n2 c2 l2) (h3 : Bs w a3 n3 c3 l3) :
    Bss (w.alloc (.cells #[.slice a1 n1 c1, .slice a2 n2 c2, .slice a3 n3 c3] 22)) (some ⟨w.heap.size, 0, none⟩) 3 3 [l1, l2, l3] := by
  refine ⟨rfl, Nat.le_refl _, by unfold maxLen; omega, fun i hi => ?_⟩
  match i, hi with
  | 0, _ => exact ⟨w.heap.size, 0, a1, n1, c1, rfl, by rw [cell_new]; rfl, h1.below (below_alloc _ _) (Nat.le_refl _)⟩
  | 1, _ => exact ⟨w.heap.size, 0, a2, n2, c2, rfl, by rw [cell_new]; rfl, h2.below (below_alloc _ _) (Nat.le_refl _)⟩
  | 2, _ => exact ⟨w.heap.size, 0, a3, n3, c3, rfl, by rw [cell_new]; rfl, h3.below (below_alloc _ _) (Nat.le_refl _)⟩

theorem rJoin3 (w : World) {a1 a2 : Option Addr} {n1 c1 n2 c2 k : Nat} {l1 l2 : List UInt8} (h1 : Bs w a1 n1 c1 l1) (h2 : Bs w a2 n2 c2 l2) (hk : k + 1 ≤ 255) (hz : n1 + n2 ≤ 99000) :
    Calls Tryd.prog 12 #[.slice (some ⟨w.heap.size + 1, 0, none⟩) 3 3] ((w.alloc (.cells #[.int .u8 ((k : Int) + 1)] 5)).alloc (.cells #[.slice a1 n1 c1, .slice a2 n2 c2, .slice (some ⟨w.heap.size, 0, none⟩) 1 1] 22)) fun e w' =>
      ∃ a m c, e = .returned (.slice a m c) ∧ Bs w' a m c (l1 ++ l2 ++ [UInt8.ofNat (k + 1)]) ∧ Below w.heap.size w w' := by
  have hb1 := below_alloc w (.cells #[.int .u8 ((k : Int) + 1)] 5)
  have h3 := Bs.one w ((k : Int) + 1) (by omega) (by omega)
  rw [show ((k : Int) + 1).toNat = k + 1 from by omega] at h3
  have hB := Bss.three (h1.below hb1 (Nat.le_refl _)) (h2.below hb1 (Nat.le_refl _)) h3
  rw [World.size_alloc] at hB
  have := rJoin _ hB (by have := h1.len; have := h2.len; simp [tot]; omega)
  refine this.mono ?_
  rintro e w' ⟨a, m, c, rfl, ho, hb⟩
  have hb2 := below2 w (.cells #[.int .u8 ((k : Int) + 1)] 5) (.cells #[.slice a1 n1 c1, .slice a2 n2 c2, .slice (some ⟨w.heap.size, 0, none⟩) 1 1] 22)
  have e : ([l1, l2, [UInt8.ofNat (k + 1)]] : List (List UInt8)).flatten = l1 ++ l2 ++ [UInt8.ofNat (k + 1)] := by simp
  rw [e] at ho
  exact ⟨a, m, c, rfl, ho.toBs, hb2.trans (hb.mono hb2.size)⟩

set_option maxHeartbeats 1000000 in
theorem rExpand (w : World) {a p : Option Addr} {n c pn pc : Nat} {l s : List UInt8} (ha : Bs w a n c l) (hz : n ≤ 80000) (N : Int) (hN0 : -9223372036854775808 ≤ N) (hN1 : N ≤ 9223372036854775807) (hp : Bs w p pn pc s) (hn : pn ≤ 80000) :
    Calls Tryd.prog 15 #[.slice a n c, .int .i64 N, .slice p pn pc] w fun e w' => ∃ a' m' c', e = .returned (.slice a' m' c') ∧ Bs w' a' m' c' (expI l s N) ∧ Below w.heap.size w w' := by
  by_cases hbad : N < 0 ∨ 8160 < N
  · have E : Hid (expI l s N = []) := by show _ = _; unfold expI; rw [if_pos hbad]
    rcases hbad with h | h
    · go_enter Tryd.func15, Tryd.ntmps15
      go_wp2
      go_ret
      rw [E.out]
      exact ⟨none, 0, 0, rfl, Bs.nil w, Below.refl _ _⟩
    · have h' : ¬ N < 0 := by omega
      go_enter Tryd.func15, Tryd.ntmps15
      go_wp2
      go_ret
      rw [E.out]
      exact ⟨none, 0, 0, rfl, Bs.nil w, Below.refl _ _⟩
  · obtain ⟨k0, rfl⟩ : ∃ k0 : Nat, N = (k0 : Int) := ⟨N.toNat, by omega⟩
    have hk0 : k0 ≤ 8160 := by omega
    have hk0i : ¬ (8160 : Int) < (k0 : Int) := by omega
    have hk0j : ¬ (k0 : Int) < 0 := by omega
    have E : Hid (expI l s (k0 : Int) = expL l s k0) := by show _ = _; unfold expI; rw [if_neg hbad, Int.toNat_natCast]
    rw [E.out]
    clear hbad E hN0 hN1
    go_enter Tryd.func15, Tryd.ntmps15
    go_wp2_with fail
    go_loopw [7, 8, 9] (fun o la i wr => ∃ k : Nat, k ≤ (k0 + 31) / 32 ∧ i = .int .i64 ((k : Int) + 1) ∧ Own wr w.heap.size o (outC l s k) ∧ (∃ a' m' c', la = .slice a' m' c' ∧ Bs wr a' m' c' (chn l s k)) ∧ Below w.heap.size w wr) (fun _ _ i _ => 300 - (intOf i).toNat)
    case atStart => exact ⟨0, by omega, rfl, Own.nil _ _, ⟨none, 0, 0, rfl, Bs.nil _⟩, Below.refl _ _⟩
    case round =>
      obtain ⟨k, hk, rfl, ho, ⟨al, ml, cl, rfl, hL⟩, hb⟩ := hrel
      obtain ⟨ao, mo, co, rfl, hBo⟩ := ho.bs3
      have hmo : 32 * k = mo := by
        have := hBo.len
        rw [outC_length] at this
        exact this
      have hsz := hb.size
      by_cases hlt : mo < k0
      · have hlti : (mo : Int) < (k0 : Int) := by omega
        obtain ⟨M, hM⟩ : ∃ M, M = macL l (chn l s k ++ s ++ [UInt8.ofNat (k + 1)]) := ⟨_, rfl⟩
        have HC : Hid (chn l s (k + 1) = M) := by show _ = _; rw [hM, chn]
        have HML : Hid (M.length = 32) := by show _ = _; rw [hM]; exact macL_length _ _
        have hlc : (chn l s k).length ≤ 32 := by
          cases k with
          | zero => simp [chn]
          | succ k => rw [chn_length]; omega
        have hll := hL.len
        have CJ : Hid (Calls Tryd.prog 12 #[.slice (some ⟨wr.heap.size + 1, 0, none⟩) 3 3] ((wr.alloc (.cells #[.int .u8 ((k : Int) + 1)] 5)).alloc (.cells #[.slice al ml cl, .slice p pn pc, .slice (some ⟨wr.heap.size, 0, none⟩) 1 1] 22)) fun e w' =>
            ∃ a m c, e = .returned (.slice a m c) ∧ Bs w' a m c (chn l s k ++ s ++ [UInt8.ofNat (k + 1)]) ∧ Below wr.heap.size wr w') := rJoin3 wr hL (hp.below hb (Nat.le_refl _)) (by omega) (by omega)
        have CM : Hid (∀ (w' : World) (a' : Option Addr) (m' c' : Nat), Bs w' a n c l → Bs w' a' m' c' (chn l s k ++ s ++ [UInt8.ofNat (k + 1)]) → Calls Tryd.prog 11 #[.slice a n c, .slice a' m' c'] w' (Gives w' M)) := fun w' a' m' c' h1 h2 => by
          rw [hM]
          exact rOf w' h1 (by omega) h2 (by have h3 := h2.len; have h4 := hp.len; simp only [List.length_append, List.length_singleton] at h3; omega)
        have hlen : (outC l s k).length ≤ 8160 := by rw [outC_length]; omega
        have hkl : k + 1 ≤ (k0 + 31) / 32 := by omega
        have hku : (k : Int) + 1 ≤ 255 := by omega
        have hku2 : (0 : Int) ≤ (k : Int) + 1 := by omega
        have HO : Hid (outC l s k ++ M = outC l s (k + 1)) := by show _ = _; rw [outC, HC.out]
        clear hM hmo hll
        go_wp2_with (first
          | (go_at_call 12; go_must (refine CJ.out.mono ?_); rintro e w2 ⟨a2, m2, c2, rfl, hB2, hb2⟩; have q2 := hb.trans (hb2.mono hsz))
          | (go_at_call 11; go_must (refine (CM.out w2 a2 m2 c2 (ha.below q2 (Nat.le_refl _)) hB2).mono ?_); rintro e w3 ⟨a3, m3, c3, rfl, ho3, hb3⟩; have q3 : Below wr.heap.size wr w3 := hb2.trans (hb3.mono hb2.size))
          | (at_builtin; go_must (refine wpList_appG w3 rfl (.tmp 31) (.tmp 32) rfl w.heap.size (.slice ao mo co) _ rfl (ho.below q3 (Nat.le_refl _)) a3 m3 c3 M rfl ho3.toBs (by have := HML.out; omega) (Nat.le_trans hsz q3.size) ?_); intro v5 w5 ho5 hg5; have hb5 : Below w.heap.size w3 w5 := (Below.refl _ _).grown hg5 (Nat.le_trans hsz q3.size) (fun k hk => ho.size k hk)))
        go_roundw
        case rel =>
          refine ⟨k + 1, hkl, by simp, by rw [← HO.out]; exact ho5, ⟨a3, m3, c3, rfl, ?_⟩, (hb.trans (q3.mono hsz)).trans hb5⟩
          rw [HC.out]
          exact ho3.toBs.grown hg5 (fun _ x hx e => by have h1 := ho.lt _ e; have h2 := ho3.blocks x hx; have h3 := hb2.size; omega)
        case measure => simp [intOf]; omega
      · have hge : ¬ (mo : Int) < (k0 : Int) := by omega
        obtain ⟨hcut, hB⟩ := hBo.cutHigh k0 (by omega)
        have hB' := hB wr hBo
        rw [exp_eq l s (by omega)] at hB'
        go_wp2
        go_ret
        exact ⟨ao, k0, co, rfl, hB', hb⟩

set_option maxHeartbeats 1000000 in
theorem rDerive (w : World) {a b p : Option Addr} {n c m q pn pc : Nat} {l t s : List UInt8} (ha : Bs w a n c t) (hz : n ≤ 80000) (hb : Bs w b m q l) (hm : m ≤ 80000) (N : Int) (hN0 : -9223372036854775808 ≤ N) (hN1 : N ≤ 9223372036854775807) (hp : Bs w p pn pc s) (hn : pn ≤ 80000) :
    Calls Tryd.prog 17 #[.slice a n c, .slice b m q, .int .i64 N, .slice p pn pc] w fun e w' => ∃ a' m' c', e = .returned (.slice a' m' c') ∧ Bs w' a' m' c' (expI (macL l t) s N) ∧ Below w.heap.size w w' := by
  have HL : Hid ((macL l t).length = 32) := macL_length _ _
  have C1 : Hid (Calls Tryd.prog 11 #[.slice b m q, .slice a n c] w (Gives w (macL l t))) := rOf w hb (by omega) ha (by omega)
  generalize macL l t = K at *
  go_enter Tryd.func17, Tryd.ntmps17
  go_wp2_with fail
  refine C1.out.mono ?_
  rintro e w1 ⟨a1, m1, c1, rfl, ho1, hb1⟩
  have C2 : Hid (Calls Tryd.prog 15 #[.slice a1 m1 c1, .int .i64 N, .slice p pn pc] w1 fun e w' => ∃ a' m' c', e = .returned (.slice a' m' c') ∧ Bs w' a' m' c' (expI K s N) ∧ Below w1.heap.size w1 w') :=
    rExpand w1 ho1.toBs (by have := ho1.toBs.len; have := HL.out; omega) N hN0 hN1 (hp.below hb1 (Nat.le_refl _)) hn
  go_wp2_with fail
  refine C2.out.mono ?_
  rintro e w2 ⟨a2, m2, c2, rfl, hB2, hb2⟩
  go_wp2
  go_ret
  exact ⟨a2, m2, c2, rfl, hB2, hb1.trans (hb2.mono hb1.size)⟩

set_option maxHeartbeats 1000000 in
theorem oDerive (w : World) (hK : Kon w) {a b p : Option Addr} {n c m q pn pc : Nat} {l t : List UInt8} {ls : List (List UInt8)} (ha : Bs w a n c t) (hz : n ≤ 80000) (hb : Bs w b m q l) (hm : m ≤ 80000) (N : Int) (hN0 : -9223372036854775808 ≤ N) (hN1 : N ≤ 9223372036854775807) (hp : Bss w p pn pc ls) (hn : pn ≤ 1000) (ht : tot ls ≤ 80000) :
    Calls Tryd.prog 16 #[.slice a n c, .slice b m q, .int .i64 N, .slice p pn pc] w fun e w' => ∃ a' m' c', e = .returned (.slice a' m' c') ∧ Bs w' a' m' c' (expI (macL l t) ls.flatten N) ∧ Below w.heap.size w w' := by
  have C1 : Hid (Calls Tryd.prog 13 #[.slice b m q, .slice a n c] w fun e w' => ∃ g, e = .returned (.slice (some ⟨g, 0, none⟩) 32 32) ∧ Bs w' (some ⟨g, 0, none⟩) 32 32 (macL l t) ∧ Below w.heap.size w w') := oExtract w hK hb (by omega) ha (by omega)
  generalize macL l t = K at *
  go_enter Tryd.func16, Tryd.ntmps16
  go_wp2_with fail
  refine C1.out.mono ?_
  rintro e w1 ⟨g, rfl, hB1, hb1⟩
  have C2 : Hid (Calls Tryd.prog 14 #[.slice (some ⟨g, 0, none⟩) 32 32, .int .i64 N, .slice p pn pc] w1 fun e w' => ∃ a' m' c', e = .returned (.slice a' m' c') ∧ Bs w' a' m' c' (expI K ls.flatten N) ∧ Below w1.heap.size w1 w') :=
    oExpand w1 (hK.below hb1 hK.lt) hB1 (by omega) N hN0 hN1 (hp.below hb1 (Nat.le_refl _)) hn ht
  go_wp2_with fail
  refine C2.out.mono ?_
  rintro e w2 ⟨a2, m2, c2, rfl, hB2, hb2⟩
  go_wp2
  go_ret
  exact ⟨a2, m2, c2, rfl, hB2, hb1.trans (hb2.mono hb1.size)⟩

end Go.Proofs.YtpmdjailpdajkaaDoor
