/-
  The contract of Expand: so many bytes of a key. Conditions: the package's constants lie where they were laid; a key of at most 90000 bytes, at most 1000 parts of at most 80000 bytes in all.
-/
import Derived.Test.YtpmdjailpdajkaaDoorExtract
import Derived.Test.YtpmdjailpdajkaaDoorLink
import Derived.Test.YtpmdjailpdajkaaDoorAppG
namespace Go.Proofs.YtpmdjailpdajkaaDoor
open Go.RowKit

/-- So many bytes of a key; none, if there are to be too many. -/
def expI (key info : List UInt8) (N : Int) : List UInt8 := if N < 0 ∨ 8160 < N then [] else expL key info N.toNat
theorem tot_append (x y : List (List UInt8)) : tot (x ++ y) = tot x + tot y := by
  induction x with
  | nil => simp [tot]
  | cons a x ih => simp [tot, ih]; omega

set_option maxHeartbeats 1000000 in
theorem oExpand (w : World) (hK : Kon w) {a p : Option Addr} {n c pn pc : Nat} {l : List UInt8} {ls : List (List UInt8)} (ha : Bs w a n c l) (hz : n ≤ 90000) (N : Int) (hN0 : -9223372036854775808 ≤ N) (hN1 : N ≤ 9223372036854775807) (hp : Bss w p pn pc ls) (hn : pn ≤ 1000) (ht : tot ls ≤ 80000) :
    Calls Tryd.prog 14 #[.slice a n c, .int .i64 N, .slice p pn pc] w fun e w' => ∃ a' m' c', e = .returned (.slice a' m' c') ∧ Bs w' a' m' c' (expI l ls.flatten N) ∧ Below w.heap.size w w' := by
  by_cases hbad : N < 0 ∨ 8160 < N
  · have E : Hid (expI l ls.flatten N = []) := by show _ = _; unfold expI; rw [if_pos hbad]
    rcases hbad with h | h
    · go_enter Tryd.func14, Tryd.ntmps14
      go_wp2
      go_ret
      rw [E.out]
      exact ⟨none, 0, 0, rfl, Bs.nil w, Below.refl _ _⟩
    · have h' : ¬ N < 0 := by omega
      go_enter Tryd.func14, Tryd.ntmps14
      go_wp2
      go_ret
      rw [E.out]
      exact ⟨none, 0, 0, rfl, Bs.nil w, Below.refl _ _⟩
  · obtain ⟨k0, rfl⟩ : ∃ k0 : Nat, N = (k0 : Int) := ⟨N.toNat, by omega⟩
    have hk0 : k0 ≤ 8160 := by omega
    have hk0i : ¬ (8160 : Int) < (k0 : Int) := by omega
    have hk0j : ¬ (k0 : Int) < 0 := by omega
    have E : Hid (expI l ls.flatten (k0 : Int) = expL l ls.flatten k0) := by show _ = _; unfold expI; rw [if_neg hbad, Int.toNat_natCast]
    rw [E.out]
    clear hbad E hN0 hN1
    have hall := all24
    go_enter Tryd.func14, Tryd.ntmps14
    go_wp2_with (first
      | (at_make; go_must (refine wpList_mk0 w rfl _ _ rfl w.heap.size _ rfl rfl (by omega) (by omega) (Nat.le_refl _) ?_); intro v1 w1 hown hbel))
    go_loopw [7, 8, 9, 10] (fun o la i _ wr => ∃ k : Nat, k ≤ (k0 + 31) / 32 ∧ i = .int .u64 ((k : Int) + 1) ∧ Own wr w.heap.size o ((outC l ls.flatten k).take k0) ∧ (∃ a' m' c', la = .slice a' m' c' ∧ Bs wr a' m' c' (chn l ls.flatten k)) ∧ Below w.heap.size w wr) (fun _ _ i _ _ => 300 - (intOf i).toNat)
    case atStart => exact ⟨0, by omega, rfl, by simpa [outC] using hown, ⟨none, 0, 0, rfl, Bs.nil _⟩, hbel⟩
    case round =>
      clear hown hbel
      obtain ⟨k, hk, rfl, ho, ⟨al, ml, cl, rfl, hL⟩, hb⟩ := hrel
      obtain ⟨ao, mo, co, rfl, hBo⟩ := ho.bs3
      have hmo : min k0 (32 * k) = mo := by
        have := hBo.len
        rw [List.length_take, outC_length] at this
        exact this
      by_cases hlt : mo < k0
      · have hkk : 32 * k = mo := by omega
        have hlti : (mo : Int) < (k0 : Int) := by omega
        obtain ⟨M, hM⟩ : ∃ M, M = macL l (chn l ls.flatten k :: (ls ++ [[UInt8.ofNat (k + 1)]])).flatten := ⟨_, rfl⟩
        have HC : Hid (chn l ls.flatten (k + 1) = M) := by show _ = _; rw [hM, chn]; simp
        have HM : Hid ((cs M).length = 32) := by show _ = _; rw [hM]; exact cs_mac _ _
        have HML : Hid (M.length = 32) := by show _ = _; rw [hM]; exact macL_length _ _
        have hlc : (chn l ls.flatten k).length ≤ 32 := by
          cases k with
          | zero => simp [chn]
          | succ k => rw [chn_length]; omega
        have CL : Hid (Calls Tryd.prog 27 #[.slice al ml cl, .slice p pn pc, .int .u64 ((k : Int) + 1)] wr fun e w' => ∃ a' c', e = .returned (.slice a' (pn + 2) c') ∧ Bss w' a' (pn + 2) c' (chn l ls.flatten k :: (ls ++ [[UInt8.ofNat (k + 1)]])) ∧ Below wr.heap.size wr w') := by
          have := oLink wr hL (hp.below hb (Nat.le_refl _)) hn (k + 1) (by omega)
          rw [show ((k + 1 : Nat) : Int) = (k : Int) + 1 from by omega] at this
          exact this
        have CM : Hid (∀ (w' : World) (a' : Option Addr) (c' : Nat), Kon w' → Bs w' a n c l → Bss w' a' (pn + 2) c' (chn l ls.flatten k :: (ls ++ [[UInt8.ofNat (k + 1)]])) → Calls Tryd.prog 9 #[.slice a n c, .slice a' (pn + 2) c'] w' fun e w'' => e = .returned (.agg (cs M).toArray) ∧ Below w'.heap.size w' w'') := fun w' a' c' hK' h1 h2 => by
          rw [hM]
          exact oMac w' hK' h1 hz h2 (by simp only [tot, tot_append]; simp; omega)
        clear hM
        have hsz := hb.size
        have e1 : (mo : Int) ≤ 8160 := by omega
        obtain ⟨t, ht'⟩ : ∃ t, t = min 32 (k0 - 32 * k) := ⟨_, rfl⟩
        have HST : Hid ((outC l ls.flatten k).take k0 ++ M.take t = (outC l ls.flatten (k + 1)).take k0) := by
          show _ = _
          rw [← HC.out, ht']
          exact out_step _ _ _ _
        have htl : t ≤ 32 := by omega
        have hrm : ((outC l ls.flatten k).take k0).length ≤ 8160 := by rw [List.length_take]; omega
        have HRM : Hid (∀ t, ((outC l ls.flatten k).take k0).length + (M.take t).length ≤ 1000000000) := fun t => by
          have h1 : (M.take t).length ≤ M.length := List.length_take_le' _ _
          have h2 := HML.out
          omega
        have hkl : k + 1 ≤ (k0 + 31) / 32 := by omega
        have hku : k ≤ 255 := by omega
        by_cases h32 : k0 - mo < 32
        · have ht2 : t = k0 - mo := by omega
          rw [ht2] at HST htl
          have h32i : (k0 : Int) - (mo : Int) < 32 := by omega
          clear hmo hkk ht' ht2
          go_wp2_with (first
            | (go_at_call 27; go_must (refine CL.out.mono ?_); rintro e w2 ⟨a2, c2, rfl, hB2, hb2⟩; have q2 := hb.trans (hb2.mono hsz); have hK2 := hK.below q2 hK.lt)
            | (go_at_call 9; go_must (refine (CM.out w2 a2 c2 hK2 (ha.below q2 (Nat.le_refl _)) hB2).mono ?_); rintro e w3 ⟨rfl, hb3⟩; have q3 : Below wr.heap.size wr w3 := hb2.trans (hb3.mono hb2.size))
            | (with_reducible refine at_st 26 ?_; go_must (refine st' 26 (.tmp 10) (.tmp 30) 32 size24 w3.heap.size 0 _ HM.out cs_one ((Blk.new w3 z24 26).there 0 32 (by decide)) rfl rfl ?_); intro w4 hw4
               have b4 : Blk w4 w3.heap.size (cs M) 26 := by rw [hw4]; exact (Blk.new w3 z24 26).setsW _ (by rw [HM.out]; rfl)
               have q4 : Below wr.heap.size wr w4 := by rw [hw4]; exact below_sets q3.size _ (q3.alloc q3.size _) 0
               clear hw4)
            | (at_builtin; go_must (refine wpList_appG w4 rfl (.tmp 32) (.tmp 41) rfl w.heap.size (.slice ao mo co) _ rfl (ho.below q4 (Nat.le_refl _)) (some ⟨w3.heap.size, 0, none⟩) (k0 - mo) 32 (M.take (k0 - mo)) rfl ((blk32 b4 HML.out).cutHigh (k0 - mo) (by omega) |>.2 w4 (blk32 b4 HML.out)) (HRM.out _) (Nat.le_trans hsz q4.size) ?_); intro v5 w5 ho5 hg5; have hb5 : Below w.heap.size w4 w5 := (Below.refl _ _).grown hg5 (Nat.le_trans hsz q4.size) (fun k hk => ho.size k hk)))
          go_roundw
          case rel =>
            refine ⟨k + 1, hkl, by simp, by rw [← HST.out]; exact ho5, ⟨_, 32, 32, rfl, ?_⟩, (hb.trans (q4.mono hsz)).trans hb5⟩
            rw [HC.out]
            exact (blk32 b4 HML.out).grown hg5 (fun _ x hx e => by simp only [Option.some.injEq] at hx; subst hx; have h1 := ho.lt _ e; have h2 := q3.size; simp only at h1; omega)
          case measure => simp [intOf]; omega
        · have ht2 : t = 32 := by omega
          rw [ht2] at HST
          have h32i : ¬ (k0 : Int) - (mo : Int) < 32 := by omega
          have HTM : Hid (M.take 32 = M) := List.take_of_length_le (by rw [HML.out]; omega)
          clear hmo hkk ht' ht2 htl
          go_wp2_with (first
            | (go_at_call 27; go_must (refine CL.out.mono ?_); rintro e w2 ⟨a2, c2, rfl, hB2, hb2⟩; have q2 := hb.trans (hb2.mono hsz); have hK2 := hK.below q2 hK.lt)
            | (go_at_call 9; go_must (refine (CM.out w2 a2 c2 hK2 (ha.below q2 (Nat.le_refl _)) hB2).mono ?_); rintro e w3 ⟨rfl, hb3⟩; have q3 : Below wr.heap.size wr w3 := hb2.trans (hb3.mono hb2.size))
            | (with_reducible refine at_st 26 ?_; go_must (refine st' 26 (.tmp 10) (.tmp 30) 32 size24 w3.heap.size 0 _ HM.out cs_one ((Blk.new w3 z24 26).there 0 32 (by decide)) rfl rfl ?_); intro w4 hw4
               have b4 : Blk w4 w3.heap.size (cs M) 26 := by rw [hw4]; exact (Blk.new w3 z24 26).setsW _ (by rw [HM.out]; rfl)
               have q4 : Below wr.heap.size wr w4 := by rw [hw4]; exact below_sets q3.size _ (q3.alloc q3.size _) 0
               clear hw4)
            | (at_builtin; go_must (refine wpList_appG w4 rfl (.tmp 32) (.tmp 41) rfl w.heap.size (.slice ao mo co) _ rfl (ho.below q4 (Nat.le_refl _)) (some ⟨w3.heap.size, 0, none⟩) 32 32 (M.take 32) rfl (by rw [HTM.out]; exact blk32 b4 HML.out) (HRM.out _) (Nat.le_trans hsz q4.size) ?_); intro v5 w5 ho5 hg5; have hb5 : Below w.heap.size w4 w5 := (Below.refl _ _).grown hg5 (Nat.le_trans hsz q4.size) (fun k hk => ho.size k hk)))
          go_roundw
          case rel =>
            refine ⟨k + 1, hkl, by simp, by rw [← HST.out]; exact ho5, ⟨_, 32, 32, rfl, ?_⟩, (hb.trans (q4.mono hsz)).trans hb5⟩
            rw [HC.out]
            exact (blk32 b4 HML.out).grown hg5 (fun _ x hx e => by simp only [Option.some.injEq] at hx; subst hx; have h1 := ho.lt _ e; have h2 := q3.size; simp only at h1; omega)
          case measure => simp [intOf]; omega
      · have hge : ¬ (mo : Int) < (k0 : Int) := by omega
        have hfin : k0 ≤ 32 * k := by omega
        rw [exp_eq l ls.flatten hfin] at hBo
        go_wp2
        go_ret
        exact ⟨ao, mo, co, rfl, hBo, hb⟩

end Go.Proofs.YtpmdjailpdajkaaDoor
