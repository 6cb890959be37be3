/-
  The contract of Of: the sum of parts, one behind the other. Conditions: the package's constants lie where they were laid; the parts have at most 100000 bytes in all.
-/
import Derived.Test.YtpmdjailpdajkaaDoorWrite
import Derived.Test.YtpmdjailpdajkaaDoorBss
namespace Go.Proofs.YtpmdjailpdajkaaDoor
open Go.RowKit

theorem flat_len_take {ls : List (List UInt8)} {k : Nat} (hz : tot ls ≤ 100000) : (ls.take k).flatten.length ≤ 100000 := by
  have := tot_take_le ls k
  rw [tot_flatten]
  omega

theorem Bs.lt {w : World} {a : Option Addr} {n c : Nat} {l : List UInt8} (h : Bs w a n c l) (hn : 0 < n) : ∀ x, a = some x → x.block < w.heap.size := fun x hx => by
  obtain ⟨b, o, ha, hb, _⟩ := h.at hn
  rw [ha] at hx
  simp at hx
  rw [← hx]
  exact hb

set_option maxHeartbeats 1000000 in
theorem oOf (w : World) (hK : Kon w) {a : Option Addr} {n c : Nat} {ls : List (List UInt8)} (ha : Bss w a n c ls) (hz : tot ls ≤ 100000) :
    Calls Tryd.prog 25 #[.slice a n c] w fun e w' => e = .returned (bv (sumL ls.flatten)) ∧ Below w.heap.size w w' := by
  have HN : Hid (ls.length = n) := ha.len
  have hn1 := ha.max
  have HO : Hid ((cs (sumL ls.flatten)).length = 32) := by show _ = _; rw [cs_length, sum_fin, outL_length]; unfold fin; split <;> rw [tk_length]; all_goals first | exact tks_length _ _ | exact tk_length (tks_length _ _) _
  unfold bv
  go_enter Tryd.func25, Tryd.ntmps25
  go_wp2_with (first | (go_at_call 21; refine (oNew _).mono ?_; rintro e w1 ⟨r, rfl, hr, hS, hb⟩; have b1 := (Blk.new w _ _).below hb (by simp); have hb1 := (below_alloc w _).trans (hb.mono (by simp)); simp only [World.size_alloc] at hr; clear hb))
  have hr0 : w.heap.size < r := by omega
  clear hr
  go_loopw [5, 9] (fun _ i wr => ∃ k : Nat, k ≤ n ∧ i = .int .i64 k ∧ Sta wr r (ls.take k).flatten ∧ Blk wr w.heap.size (cs (List.replicate 32 0)) 26 ∧ Below w.heap.size w wr) (fun _ i _ => n - (intOf i).toNat)
  case atStart => exact ⟨0, by omega, rfl, hS, b1, hb1⟩
  case round =>
    clear hS b1 hb1
    obtain ⟨k, hk, rfl, hS, b1, hb⟩ := hrel
    by_cases hlt : k < n
    · obtain ⟨x, o, rfl, hx, hc⟩ := ha.at (by omega)
      obtain ⟨p, m, q, c1, hp⟩ := Bss.part hc hb k hlt
      have hpw := hp.below hb (Nat.le_refl _)
      have HS : Hid ((ls.take k).flatten ++ ls.getD k [] = (ls.take (k + 1)).flatten) := flat_step (by rw [HN.out]; exact hlt)
      have hK1 := hK.below hb hK.lt
      have CW : Hid (Calls Tryd.prog 22 #[.pointer (some ⟨r, 0, none⟩), .slice p m q] wr fun e w' => e = .returned (.tuple #[]) ∧ Sta w' r (ls.take (k + 1)).flatten ∧ wr.grownBy w' (some r)) := by
        have := oWrite wr hK1 r _ hS hpw (by omega) (fun h y hy => by have := hp.lt h y hy; omega) (by
          have h1 := flat_len_take (k := k + 1) hz
          rw [← HS.out, List.length_append] at h1
          omega)
        rw [HS.out] at this
        exact this
      go_wp2_with (first | (go_at_call 22; refine CW.out.mono ?_; rintro e w2 ⟨rfl, hS2, hg2⟩))
      go_roundw
      case rel =>
        refine ⟨k + 1, by omega, by go_num, hS2, ?_, hb.grown hg2 hb.size (fun i hi => by simp at hi; omega)⟩
        unfold Blk
        rw [hg2.block _ b1.lt (by simp; omega)]
        exact b1
      case measure => simp [intOf]; omega
    · have e : ls.take k = ls := List.take_of_length_le (by rw [HN.out]; omega)
      rw [e] at hS
      clear e
      have hK1 := hK.below hb hK.lt
      have CS : Hid (Calls Tryd.prog 24 #[.pointer (some ⟨r, 0, none⟩)] wr fun e w' => e = .returned (.agg (cs (sumL ls.flatten)).toArray) ∧ Below wr.heap.size wr w') := oSum wr hK1 r _ hS (by rw [tot_flatten]; omega)
      go_wp2_with (first
        | (go_at_call 24; refine CS.out.mono ?_; rintro e w2 ⟨rfl, hb2⟩; have b2 := b1.below hb2 b1.lt)
        | (with_reducible refine at_st 26 ?_; refine st 26 (.tmp 2) (.tmp 18) 32 size24 w.heap.size 0 _ HO.out cs_one (b2.there 0 32 (by rw [cs_length]; decide)) rfl rfl ?_))
      have b3 := b2.setsW (cs (sumL ls.flatten)) (by rw [HO.out]; rfl)
      have hs := hb.size
      exact bodyPost_ret (v := .agg (cs (sumL ls.flatten)).toArray) (res_blk Tryd.results25 _ _ w.heap.size _ _ _ rfl b3 Tryd.underlying26 32 HO.out size24) rfl ⟨rfl, below_sets (Nat.le_refl _) _ (hb.trans (hb2.mono (by omega))) 0⟩

end Go.Proofs.YtpmdjailpdajkaaDoor
