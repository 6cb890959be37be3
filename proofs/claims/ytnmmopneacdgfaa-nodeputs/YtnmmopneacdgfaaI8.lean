/-
  5 texts in one. No statement of the seat is proved here.
-/
import Derived.Test.YtnmmopneacdgfaaI7

/-
  Contracts of layer 18's program: total. Condition: keys and values of at most a thousand bytes, at most a hundred thousand things.
-/
namespace Go.Proofs.Ytnmmopneacdgfaa
open Go.RowKit
set_option linter.unusedVariables false
set_option maxRecDepth 100000 in
set_option maxHeartbeats 4000000 in
theorem oTotP (w : World) {A : Nat → Prop} {a : Option Addr} {n c : Nat} {l : List PairS} (h : SlP A w a n c l) (hs : ∀ x ∈ l, x.key.length ≤ 1000 ∧ x.value.length ≤ 1000) (hn : n ≤ 100000) : Calls Try.prog 53 #[.slice a n c, .func (.func 54) #[] #[]] w fun e w' => e = .returned (.int .i64 (totL psz l : Nat)) ∧ Below w.heap.size w w' := by
  have hln : l.length = n := h.len
  have hB : ∀ k x, l[k]? = some x → psz x ≤ 3000 := fun k x hx => by have := hs x (List.mem_of_getElem? hx); unfold psz; omega
  have HS : Hid (SlP A w a n c l) := h
  have CF : Hid (∀ (u : World) k x vs, l[k]? = some x → elPr A u x vs → Calls Try.prog 54 #[.agg vs.toArray] u fun e w' => e = .returned (.int .i64 (psz x : Nat)) ∧ Below u.heap.size u w') := fun u k x vs hx hv => oSzP u hv (hs x (List.mem_of_getElem? hx))
  clear h hs
  go_enter Try.func53, Try.ntmps53
  go_wp2_with fail
  go_loopw [5, 10] (fun s i wr => ∃ k : Nat, k ≤ n ∧ i = .int .i64 (k : Int) ∧ (∃ t : Nat, s = .int .i64 (t : Int) ∧ Hid (totL psz (l.take k) = t) ∧ t ≤ k * 3000) ∧ Below w.heap.size w wr) (fun _ i _ => n - (intOf i).toNat)
  case atStart => exact ⟨0, Nat.zero_le _, rfl, ⟨0, rfl, rfl, by omega⟩, Below.refl _ _⟩
  case round =>
    obtain ⟨k, hk, rfl, ⟨t, rfl, HI, ht⟩, hb⟩ := hrel
    by_cases hlt : k < n
    · have i0 : (k : Int) < (n : Int) := by omega
      obtain ⟨x, hx⟩ : ∃ x, l[k]? = some x := ⟨_, List.getElem?_eq_getElem (by omega)⟩
      have hp := hB k x hx
      have hT := totL_snoc psz hx
      obtain ⟨b, o, vs, ea, hlb, hrg, hvl, hel⟩ := HS.out.at hb hx
      obtain ⟨g, hg⟩ : ∃ g, g = wr.heap.size := ⟨_, rfl⟩
      have hel0 := hel
      obtain ⟨kp, km, kc, vp, vm, vc, rfl, hB1, hB2⟩ := hel
      have z9 : Blk (wr.alloc (.cells #[.slice none 0 0, .slice none 0 0] 44)) g [.slice none 0 0, .slice none 0 0] 44 := Blk.newAt wr _ _ g hg.symm _ rfl
      have k9 : Below w.heap.size w (wr.alloc (.cells #[.slice none 0 0, .slice none 0 0] 44)) := hb.alloc hb.size _
      have k8 : Below wr.heap.size wr (wr.alloc (.cells #[.slice none 0 0, .slice none 0 0] 44)) := below_alloc _ _
      subst ea
      have hK : Hid (∀ u, Below wr.heap.size wr u → Calls Try.prog 54 #[.agg (List.toArray [.slice kp km kc, .slice vp vm vc])] u fun e w' => e = .returned (.int .i64 (psz x : Nat)) ∧ Below u.heap.size u w') := fun u hu => CF.out u k x _ hx (elPr.below hu x _ (hel0))
      rw [HI.out] at hT
      generalize psz x = z at *
      have i1 : IntKind.i64.wrap ((t : Int) + (z : Int)) = ((t + z : Nat) : Int) := by rw [IntKind.wrap_i64]; omega
      clear HI hel0
      go_wp2_with (first | ((with_reducible refine at_ld 44 ?_); (first | (refine ld 44 (.tmp 12) 2 sizePr _ Try.underlying44 rfl b (o + k * 2) [.slice kp km kc, .slice vp vm vc] rfl hrg rfl ?_) | (refine ld 44 (.tmp 7) 2 sizePr _ Try.underlying44 rfl wr.heap.size 0 [.slice kp km kc, .slice vp vm vc] rfl (by rw [← hg]; exact b5.whole) rfl ?_))) | ((with_reducible refine at_st 44 ?_); (refine st' 44 (.tmp 7) (.tmp 13) 2 sizePr wr.heap.size 0 [.slice kp km kc, .slice vp vm vc] rfl (by intro u hu; simp only [List.mem_cons, List.not_mem_nil, or_false] at hu; rcases hu with rfl | rfl <;> rfl) (by rw [← hg]; exact z9.there 0 2 (by simp)) rfl rfl ?_); intro v5 hv5; have b5 : Blk v5 g [.slice kp km kc, .slice vp vm vc] 44 := (by rw [hv5, ← hg]; exact z9.setsW _ rfl); have k5 : Below w.heap.size w v5 := (by rw [hv5]; exact below_sets hb.size _ k9 0); have k6 : Below wr.heap.size wr v5 := (by rw [hv5]; exact below_sets (Nat.le_refl _) _ k8 0); clear hv5))
      refine (hK.out v5 k6).mono ?_
      rintro e v6 ⟨rfl, hb6⟩
      have k7 : Below w.heap.size w v6 := k5.trans (hb6.mono k5.size)
      clear hK hb6 k5 k6 k8 b5 z9 k9 hrg hb
      go_wp2_with fail
      go_roundw
      case rel => exact ⟨k + 1, by omega, by go_num, ⟨t + z, by go_num, hT, by omega⟩, k7⟩
      case measure => simp [intOf]; omega
    · have i0 : ¬ (k : Int) < (n : Int) := by omega
      have HN : Hid (totL psz l = t) := by
        have := HI.out
        rwa [List.take_of_length_le (by omega)] at this
      clear HI
      go_wp2_with fail
      go_ret
      exact ⟨by rw [HN.out]; rfl, hb⟩
set_option maxRecDepth 100000 in
set_option maxHeartbeats 4000000 in
theorem oTotK (w : World) {A : Nat → Prop} {a : Option Addr} {n c : Nat} {l : List KidS} (h : SlD A w a n c l) (hs : ∀ x ∈ l, x.key.length ≤ 1000) (hn : n ≤ 100000) : Calls Try.prog 55 #[.slice a n c, .func (.func 56) #[] #[]] w fun e w' => e = .returned (.int .i64 (totL ksz l : Nat)) ∧ Below w.heap.size w w' := by
  have hln : l.length = n := h.len
  have hB : ∀ k x, l[k]? = some x → ksz x ≤ 3000 := fun k x hx => by have := hs x (List.mem_of_getElem? hx); unfold ksz; omega
  have HS : Hid (SlD A w a n c l) := h
  have CF : Hid (∀ (u : World) k x vs, l[k]? = some x → elKd A u x vs → Calls Try.prog 56 #[.agg vs.toArray] u fun e w' => e = .returned (.int .i64 (ksz x : Nat)) ∧ Below u.heap.size u w') := fun u k x vs hx hv => oSzK u hv (hs x (List.mem_of_getElem? hx))
  clear h hs
  go_enter Try.func55, Try.ntmps55
  go_wp2_with fail
  go_loopw [5, 10] (fun s i wr => ∃ k : Nat, k ≤ n ∧ i = .int .i64 (k : Int) ∧ (∃ t : Nat, s = .int .i64 (t : Int) ∧ Hid (totL ksz (l.take k) = t) ∧ t ≤ k * 3000) ∧ Below w.heap.size w wr) (fun _ i _ => n - (intOf i).toNat)
  case atStart => exact ⟨0, Nat.zero_le _, rfl, ⟨0, rfl, rfl, by omega⟩, Below.refl _ _⟩
  case round =>
    obtain ⟨k, hk, rfl, ⟨t, rfl, HI, ht⟩, hb⟩ := hrel
    by_cases hlt : k < n
    · have i0 : (k : Int) < (n : Int) := by omega
      obtain ⟨x, hx⟩ : ∃ x, l[k]? = some x := ⟨_, List.getElem?_eq_getElem (by omega)⟩
      have hp := hB k x hx
      have hT := totL_snoc ksz hx
      obtain ⟨b, o, vs, ea, hlb, hrg, hvl, hel⟩ := HS.out.at hb hx
      obtain ⟨g, hg⟩ : ∃ g, g = wr.heap.size := ⟨_, rfl⟩
      have hel0 := hel
      obtain ⟨kp, km, kc, rfl, hB1, hp6, he6⟩ := hel
      have z9 : Blk (wr.alloc (.cells #[.slice none 0 0, .int .i64 0, .int .i64 0] 46)) g [.slice none 0 0, .int .i64 0, .int .i64 0] 46 := Blk.newAt wr _ _ g hg.symm _ rfl
      have k9 : Below w.heap.size w (wr.alloc (.cells #[.slice none 0 0, .int .i64 0, .int .i64 0] 46)) := hb.alloc hb.size _
      have k8 : Below wr.heap.size wr (wr.alloc (.cells #[.slice none 0 0, .int .i64 0, .int .i64 0] 46)) := below_alloc _ _
      subst ea
      have hK : Hid (∀ u, Below wr.heap.size wr u → Calls Try.prog 56 #[.agg (List.toArray [.slice kp km kc, .int .i64 x.page, .int .i64 x.epoch])] u fun e w' => e = .returned (.int .i64 (ksz x : Nat)) ∧ Below u.heap.size u w') := fun u hu => CF.out u k x _ hx (elKd.below hu x _ (hel0))
      rw [HI.out] at hT
      generalize ksz x = z at *
      have i1 : IntKind.i64.wrap ((t : Int) + (z : Int)) = ((t + z : Nat) : Int) := by rw [IntKind.wrap_i64]; omega
      clear HI hel0
      go_wp2_with (first | ((with_reducible refine at_ld 46 ?_); (first | (refine ld 46 (.tmp 12) 3 sizeKd _ Try.underlying46 rfl b (o + k * 3) [.slice kp km kc, .int .i64 x.page, .int .i64 x.epoch] rfl hrg rfl ?_) | (refine ld 46 (.tmp 7) 3 sizeKd _ Try.underlying46 rfl wr.heap.size 0 [.slice kp km kc, .int .i64 x.page, .int .i64 x.epoch] rfl (by rw [← hg]; exact b5.whole) rfl ?_))) | ((with_reducible refine at_st 46 ?_); (refine st' 46 (.tmp 7) (.tmp 13) 3 sizeKd wr.heap.size 0 [.slice kp km kc, .int .i64 x.page, .int .i64 x.epoch] rfl (by intro u hu; simp only [List.mem_cons, List.not_mem_nil, or_false] at hu; rcases hu with rfl | rfl | rfl <;> rfl) (by rw [← hg]; exact z9.there 0 3 (by simp)) rfl rfl ?_); intro v5 hv5; have b5 : Blk v5 g [.slice kp km kc, .int .i64 x.page, .int .i64 x.epoch] 46 := (by rw [hv5, ← hg]; exact z9.setsW _ rfl); have k5 : Below w.heap.size w v5 := (by rw [hv5]; exact below_sets hb.size _ k9 0); have k6 : Below wr.heap.size wr v5 := (by rw [hv5]; exact below_sets (Nat.le_refl _) _ k8 0); clear hv5))
      refine (hK.out v5 k6).mono ?_
      rintro e v6 ⟨rfl, hb6⟩
      have k7 : Below w.heap.size w v6 := k5.trans (hb6.mono k5.size)
      clear hK hb6 k5 k6 k8 b5 z9 k9 hrg hb
      go_wp2_with fail
      go_roundw
      case rel => exact ⟨k + 1, by omega, by go_num, ⟨t + z, by go_num, hT, by omega⟩, k7⟩
      case measure => simp [intOf]; omega
    · have i0 : ¬ (k : Int) < (n : Int) := by omega
      have HN : Hid (totL ksz l = t) := by
        have := HI.out
        rwa [List.take_of_length_le (by omega)] at this
      clear HI
      go_wp2_with fail
      go_ret
      exact ⟨by rw [HN.out]; rfl, hb⟩

end Go.Proofs.Ytnmmopneacdgfaa

/-
  Contracts of layer 18's program: firstCode. Condition: keys and values of at most a thousand bytes, at most a hundred thousand things.
-/
namespace Go.Proofs.Ytnmmopneacdgfaa
open Go.RowKit
set_option linter.unusedVariables false
set_option maxRecDepth 100000 in
set_option maxHeartbeats 4000000 in
theorem oFstP (w : World) {A : Nat → Prop} {a : Option Addr} {n c : Nat} {l : List PairS} (h : SlP A w a n c l) (hn : n ≤ 100000) : Calls Try.prog 43 #[.slice a n c, .func (.func 44) #[] #[]] w fun e w' => e = .returned (.int .i64 (firstC chkP l)) ∧ Below w.heap.size w w' := by
  have hln : l.length = n := h.len
  have HS : Hid (SlP A w a n c l) := h
  clear h
  go_enter Try.func43, Try.ntmps43
  go_wp2_with fail
  go_loopw [10] (fun i wr => ∃ k : Nat, k ≤ n ∧ i = .int .i64 (k : Int) ∧ Hid (firstC chkP l = firstC chkP (l.drop k)) ∧ Below w.heap.size w wr) (fun i _ => n - (intOf i).toNat)
  case atStart => exact ⟨0, Nat.zero_le _, rfl, rfl, Below.refl _ _⟩
  case round =>
    obtain ⟨k, hk, rfl, HI, hb⟩ := hrel
    by_cases hlt : k < n
    · have i0 : (k : Int) < (n : Int) := by omega
      obtain ⟨x, hx⟩ : ∃ x, l[k]? = some x := ⟨_, List.getElem?_eq_getElem (by omega)⟩
      have hd := firstC_drop chkP hx
      obtain ⟨b, o, vs, ea, hlb, hrg, hvl, hel⟩ := HS.out.at hb hx
      obtain ⟨g, hg⟩ : ∃ g, g = wr.heap.size := ⟨_, rfl⟩
      have hel0 := hel
      obtain ⟨kp, km, kc, vp, vm, vc, rfl, hB1, hB2⟩ := hel
      have z9 : Blk (wr.alloc (.cells #[.slice none 0 0, .slice none 0 0] 44)) g [.slice none 0 0, .slice none 0 0] 44 := Blk.newAt wr _ _ g hg.symm _ rfl
      have k9 : Below w.heap.size w (wr.alloc (.cells #[.slice none 0 0, .slice none 0 0] 44)) := hb.alloc hb.size _
      have k8 : Below wr.heap.size wr (wr.alloc (.cells #[.slice none 0 0, .slice none 0 0] 44)) := below_alloc _ _
      subst ea
      have hK : Hid (∀ u, Below wr.heap.size wr u → Calls Try.prog 44 #[.agg (List.toArray [.slice kp km kc, .slice vp vm vc])] u fun e w' => e = .returned (.int .i64 (chkP x)) ∧ Below u.heap.size u w') := fun u hu => oChP u (elPr.below hu x _ (hel0))
      generalize chkP x = cd at *
      clear hel0
      go_wp2_with (first | ((with_reducible refine at_ld 44 ?_); (first | (refine ld 44 (.tmp 12) 2 sizePr _ Try.underlying44 rfl b (o + k * 2) [.slice kp km kc, .slice vp vm vc] rfl hrg rfl ?_) | (refine ld 44 (.tmp 6) 2 sizePr _ Try.underlying44 rfl wr.heap.size 0 [.slice kp km kc, .slice vp vm vc] rfl (by rw [← hg]; exact b5.whole) rfl ?_))) | ((with_reducible refine at_st 44 ?_); (refine st' 44 (.tmp 6) (.tmp 13) 2 sizePr wr.heap.size 0 [.slice kp km kc, .slice vp vm vc] rfl (by intro u hu; simp only [List.mem_cons, List.not_mem_nil, or_false] at hu; rcases hu with rfl | rfl <;> rfl) (by rw [← hg]; exact z9.there 0 2 (by simp)) rfl rfl ?_); intro v5 hv5; have b5 : Blk v5 g [.slice kp km kc, .slice vp vm vc] 44 := (by rw [hv5, ← hg]; exact z9.setsW _ rfl); have k5 : Below w.heap.size w v5 := (by rw [hv5]; exact below_sets hb.size _ k9 0); have k6 : Below wr.heap.size wr v5 := (by rw [hv5]; exact below_sets (Nat.le_refl _) _ k8 0); clear hv5))
      refine (hK.out v5 k6).mono ?_
      rintro e v6 ⟨rfl, hb6⟩
      have k7 : Below w.heap.size w v6 := k5.trans (hb6.mono k5.size)
      clear hK hb6 k5 k6 k8 b5 z9 k9 hrg hb
      by_cases hc : cd = 0
      · have b3 : (cd == 0) = true := by simp [hc]
        rw [if_pos hc] at hd
        have HN : Hid (firstC chkP l = firstC chkP (l.drop (k + 1))) := HI.out.trans hd
        clear hd HI hx
        go_wp2_with fail
        go_roundw
        case rel => exact ⟨k + 1, by omega, by go_num, HN, k7⟩
        case measure => simp [intOf]; omega
      · have b3 : (cd == 0) = false := by simp [hc]
        rw [if_neg hc] at hd
        have HN : Hid (firstC chkP l = cd) := HI.out.trans hd
        clear hd HI hx
        go_wp2_with fail
        go_ret
        exact ⟨by rw [HN.out]; rfl, k7⟩
    · have i0 : ¬ (k : Int) < (n : Int) := by omega
      have HN : Hid (firstC chkP l = 0) := by show _ = _; rw [HI.out, List.drop_of_length_le (by omega)]; rfl
      clear HI
      go_wp2_with fail
      go_ret
      exact ⟨by rw [HN.out]; rfl, hb⟩
set_option maxRecDepth 100000 in
set_option maxHeartbeats 4000000 in
theorem oFstK (w : World) {A : Nat → Prop} {a : Option Addr} {n c : Nat} {l : List KidS} (h : SlD A w a n c l) (hn : n ≤ 100000) : Calls Try.prog 45 #[.slice a n c, .func (.func 46) #[] #[]] w fun e w' => e = .returned (.int .i64 (firstC chkD l)) ∧ Below w.heap.size w w' := by
  have hln : l.length = n := h.len
  have HS : Hid (SlD A w a n c l) := h
  clear h
  go_enter Try.func45, Try.ntmps45
  go_wp2_with fail
  go_loopw [10] (fun i wr => ∃ k : Nat, k ≤ n ∧ i = .int .i64 (k : Int) ∧ Hid (firstC chkD l = firstC chkD (l.drop k)) ∧ Below w.heap.size w wr) (fun i _ => n - (intOf i).toNat)
  case atStart => exact ⟨0, Nat.zero_le _, rfl, rfl, Below.refl _ _⟩
  case round =>
    obtain ⟨k, hk, rfl, HI, hb⟩ := hrel
    by_cases hlt : k < n
    · have i0 : (k : Int) < (n : Int) := by omega
      obtain ⟨x, hx⟩ : ∃ x, l[k]? = some x := ⟨_, List.getElem?_eq_getElem (by omega)⟩
      have hd := firstC_drop chkD hx
      obtain ⟨b, o, vs, ea, hlb, hrg, hvl, hel⟩ := HS.out.at hb hx
      obtain ⟨g, hg⟩ : ∃ g, g = wr.heap.size := ⟨_, rfl⟩
      have hel0 := hel
      obtain ⟨kp, km, kc, rfl, hB1, hp6, he6⟩ := hel
      have z9 : Blk (wr.alloc (.cells #[.slice none 0 0, .int .i64 0, .int .i64 0] 46)) g [.slice none 0 0, .int .i64 0, .int .i64 0] 46 := Blk.newAt wr _ _ g hg.symm _ rfl
      have k9 : Below w.heap.size w (wr.alloc (.cells #[.slice none 0 0, .int .i64 0, .int .i64 0] 46)) := hb.alloc hb.size _
      have k8 : Below wr.heap.size wr (wr.alloc (.cells #[.slice none 0 0, .int .i64 0, .int .i64 0] 46)) := below_alloc _ _
      subst ea
      have hK : Hid (∀ u, Below wr.heap.size wr u → Calls Try.prog 46 #[.agg (List.toArray [.slice kp km kc, .int .i64 x.page, .int .i64 x.epoch])] u fun e w' => e = .returned (.int .i64 (chkD x)) ∧ Below u.heap.size u w') := fun u hu => oChK u (elKd.below hu x _ (hel0))
      generalize chkD x = cd at *
      clear hel0
      go_wp2_with (first | ((with_reducible refine at_ld 46 ?_); (first | (refine ld 46 (.tmp 12) 3 sizeKd _ Try.underlying46 rfl b (o + k * 3) [.slice kp km kc, .int .i64 x.page, .int .i64 x.epoch] rfl hrg rfl ?_) | (refine ld 46 (.tmp 6) 3 sizeKd _ Try.underlying46 rfl wr.heap.size 0 [.slice kp km kc, .int .i64 x.page, .int .i64 x.epoch] rfl (by rw [← hg]; exact b5.whole) rfl ?_))) | ((with_reducible refine at_st 46 ?_); (refine st' 46 (.tmp 6) (.tmp 13) 3 sizeKd wr.heap.size 0 [.slice kp km kc, .int .i64 x.page, .int .i64 x.epoch] rfl (by intro u hu; simp only [List.mem_cons, List.not_mem_nil, or_false] at hu; rcases hu with rfl | rfl | rfl <;> rfl) (by rw [← hg]; exact z9.there 0 3 (by simp)) rfl rfl ?_); intro v5 hv5; have b5 : Blk v5 g [.slice kp km kc, .int .i64 x.page, .int .i64 x.epoch] 46 := (by rw [hv5, ← hg]; exact z9.setsW _ rfl); have k5 : Below w.heap.size w v5 := (by rw [hv5]; exact below_sets hb.size _ k9 0); have k6 : Below wr.heap.size wr v5 := (by rw [hv5]; exact below_sets (Nat.le_refl _) _ k8 0); clear hv5))
      refine (hK.out v5 k6).mono ?_
      rintro e v6 ⟨rfl, hb6⟩
      have k7 : Below w.heap.size w v6 := k5.trans (hb6.mono k5.size)
      clear hK hb6 k5 k6 k8 b5 z9 k9 hrg hb
      by_cases hc : cd = 0
      · have b3 : (cd == 0) = true := by simp [hc]
        rw [if_pos hc] at hd
        have HN : Hid (firstC chkD l = firstC chkD (l.drop (k + 1))) := HI.out.trans hd
        clear hd HI hx
        go_wp2_with fail
        go_roundw
        case rel => exact ⟨k + 1, by omega, by go_num, HN, k7⟩
        case measure => simp [intOf]; omega
      · have b3 : (cd == 0) = false := by simp [hc]
        rw [if_neg hc] at hd
        have HN : Hid (firstC chkD l = cd) := HI.out.trans hd
        clear hd HI hx
        go_wp2_with fail
        go_ret
        exact ⟨by rw [HN.out]; rfl, k7⟩
    · have i0 : ¬ (k : Int) < (n : Int) := by omega
      have HN : Hid (firstC chkD l = 0) := by show _ = _; rw [HI.out, List.drop_of_length_le (by omega)]; rfl
      clear HI
      go_wp2_with fail
      go_ret
      exact ⟨by rw [HN.out]; rfl, hb⟩

end Go.Proofs.Ytnmmopneacdgfaa

/-
  Regions that draw their order: a call of a function that lies in a variable, whose answer is a value. No condition; no statement of the seat is proved here.
-/
namespace Go.Proofs.Ytnmmopneacdgfaa
open Go.RowKit

theorem ans_fnV {ops : Array Oper} {W : World} {oi : Oper} {a : Act} (f : FuncId) (vs : Array Value) {v : Value} (hw : Region.wanted oi (yielded ops a.tmps) = true) (hx : ∀ w, (execOp a.eval oi).run Try.prog w = .ok (.enter f vs) w)
    (h : ∀ w, Grows W w → Calls Try.prog f vs w fun e w' => e = .returned v ∧ Below w.heap.size w w') : Ans Try.prog ops (Grows W) oi v a :=
  Or.inl ⟨hw, fun w hg => Or.inr ⟨f, vs, hx w, (h w hg).mono fun _ _ h2 => ⟨h2.1, h2.2, Grows.trans hg h2.2⟩⟩⟩
theorem rangeB {w w' : World} {b o : Nat} {vs : List Value} (h : w.rangeAt b o vs) (hb : Below w.heap.size w w') (hlt : b < w.heap.size) : w'.rangeAt b o vs := fun j v hj => (hb.cell (p := ⟨b, o + j, none⟩) hlt).trans (h j v hj)

end Go.Proofs.Ytnmmopneacdgfaa

/-
  Contracts of layer 18's program: rise, of pairs and of kids. Condition: at most a hundred thousand things.
-/
namespace Go.Proofs.Ytnmmopneacdgfaa
open Go.RowKit
set_option linter.unusedVariables false
set_option maxRecDepth 100000 in
set_option maxHeartbeats 4000000 in
theorem oKvP (w : World) (x : PairS) (kp : Option Addr) (km kc : Nat) (vp : Option Addr) (vm vc : Nat) : Calls Try.prog 48 #[.agg (List.toArray [.slice kp km kc, .slice vp vm vc])] w fun e w' => e = .returned (.slice kp km kc) ∧ Below w.heap.size w w' := by
  go_enter Try.func48, Try.ntmps48
  go_wp2_with fail
  go_ret
  exact ⟨rfl, below_alloc _ _⟩
set_option maxRecDepth 100000 in
set_option maxHeartbeats 4000000 in
theorem oRiseP (w : World) {A : Nat → Prop} {a : Option Addr} {n c : Nat} {l : List PairS} (h : SlP A w a n c l) (hn : n ≤ 100000) : Calls Try.prog 47 #[.slice a n c, .func (.func 48) #[] #[]] w fun e w' => e = .returned (.bool (riseB keyP l)) ∧ Below w.heap.size w w' := by
  have hln : l.length = n := h.len
  have hcall := Try.call48
  have HS : Hid (SlP A w a n c l) := h
  clear h
  go_enter Try.func47, Try.ntmps47
  go_wp2_with fail
  go_loopw [5] (fun i wr => ∃ k : Nat, k ≤ n ∧ i = .int .i64 ((k : Int) + 1) ∧ Hid (riseB keyP l = riseB keyP (l.drop k)) ∧ Below w.heap.size w wr) (fun i _ => n + 1 - (intOf i).toNat)
  case atStart => exact ⟨0, Nat.zero_le _, rfl, rfl, Below.refl _ _⟩
  case round =>
    obtain ⟨k, hk, rfl, HI, hb⟩ := hrel
    by_cases hlt : k + 1 < n
    · have i0 : (k : Int) + 1 < (n : Int) := by omega
      have i1 : (k : Int) < (n : Int) := by omega
      have i2 : IntKind.i64.wrap ((k : Int) + 1 - 1) = (k : Int) := by rw [IntKind.wrap_i64]; omega
      have i3 : IntKind.i64.wrap ((k : Int) + 1 + 1) = ((k + 1 : Nat) : Int) + 1 := by rw [IntKind.wrap_i64]; omega
      have i4 : ((k : Int) + 1).toNat = k + 1 := by omega
      have i5 : IntKind.i64.wrap (k : Int) = (k : Int) := by rw [IntKind.wrap_i64]; omega
      have i6 : ¬ (k : Int) + 1 < 0 := by omega
      obtain ⟨x, hx⟩ : ∃ x, l[k]? = some x := ⟨_, List.getElem?_eq_getElem (by omega)⟩
      obtain ⟨y, hy⟩ : ∃ y, l[k + 1]? = some y := ⟨_, List.getElem?_eq_getElem (by omega)⟩
      have hd := riseB_drop keyP hx hy
      obtain ⟨b, o, vs, ea, hlb, hrg, hvl, hel⟩ := HS.out.at hb hx
      obtain ⟨b2, o2, vs2, ea2, hlb2, hrg2, hvl2, hel2⟩ := HS.out.at hb hy
      rw [ea] at ea2
      simp only [Option.some.injEq, Addr.mk.injEq, and_true] at ea2
      obtain ⟨rfl, rfl⟩ := ea2
      obtain ⟨kp, km, kc, vp, vm, vc, rfl, hB1, hB2⟩ := hel
      obtain ⟨lp, lm, lc, up, um, uc, rfl, hC1, hC2⟩ := hel2
      subst ea
      obtain ⟨cb, hcb⟩ : ∃ cb, cb = Lib.compareBytes (keyP x) (keyP y) := ⟨_, rfl⟩
      have CC : Hid (∀ u, Grows wr u → Calls Try.prog 60 #[.slice kp km kc, .slice lp lm lc] u fun e w' => e = .returned (.int .i64 cb) ∧ Below u.heap.size u w') := fun u hu => (oCompare u (Bs.below hB1.1 hu (Nat.le_refl _)) (Bs.below hC1.1 hu (Nat.le_refl _))).mono (by rintro e w' ⟨rfl, rfl⟩; exact ⟨by rw [hcb]; rfl, Below.refl _ _⟩)
      rw [← hcb] at hd
      clear hcb HS hB1 hC1 hx hy
      by_cases hc : 0 ≤ cb
      · have b3 : (0 : Int) ≤ cb := hc
        rw [decide_eq_false (by omega), Bool.false_and] at hd
        have HN : Hid (riseB keyP l = false) := HI.out.trans hd
        clear hd HI
        go_wp2_with fail
        refine regionG (S := Grows wr) (by kernel_rfl) (Below.refl _ wr).drew ?_
        refine takeG 0 (some 12) (.func (.func 48) #[] #[]) rfl rfl (by kernel_rfl) (by kernel_rfl) (by kernel_rfl) (fun _ _ _ h => h) (ans_plain (by rfl) (fun w _ => rfl)) ?_
        simp only [Act.put, List.setIfInBounds_toArray, List.set_cons_zero, List.set_cons_succ]
        refine takeG 1 (some 13) (.slice (some ⟨b, o, none⟩) n c) rfl rfl (by kernel_rfl) (by kernel_rfl) (by kernel_rfl) (fun _ _ _ h => h) (ans_plain (by rfl) (fun w _ => rfl)) ?_
        simp only [Act.put, List.setIfInBounds_toArray, List.set_cons_zero, List.set_cons_succ]
        refine takeG 2 (some 14) (.int .i64 ((k : Int) + 1)) rfl rfl (by kernel_rfl) (by kernel_rfl) (by kernel_rfl) (fun _ _ _ h => h) (ans_plain (by rfl) (fun w _ => rfl)) ?_
        simp only [Act.put, List.setIfInBounds_toArray, List.set_cons_zero, List.set_cons_succ]
        refine takeG 3 (some 15) (.int .i64 (k : Int)) rfl rfl (by kernel_rfl) (by kernel_rfl) (by kernel_rfl) (fun _ _ _ h => h) (ans_plain (by rfl) (fun w _ => by unfold execOp; go_simp)) ?_
        simp only [Act.put, List.setIfInBounds_toArray, List.set_cons_zero, List.set_cons_succ]
        refine takeG 4 (some 16) (.pointer (some ⟨b, o + k * 2, none⟩)) rfl rfl (by kernel_rfl) (by kernel_rfl) (by kernel_rfl) (fun _ _ _ h => h) (ans_plain (by rfl) (fun w _ => by unfold execOp; go_simp)) ?_
        simp only [Act.put, List.setIfInBounds_toArray, List.set_cons_zero, List.set_cons_succ]
        refine takeG 5 (some 17) (.agg (List.toArray [.slice kp km kc, .slice vp vm vc])) rfl rfl (by kernel_rfl) (by kernel_rfl) (by kernel_rfl) (fun _ _ _ h => h) (ans_row 44 (.tmp 16) _ 2 rfl (by rfl) b (o + k * 2) rfl [.slice kp km kc, .slice vp vm vc] (fun u hu => rangeB hrg hu hlb) Try.underlying44 rfl rfl sizePr) ?_
        simp only [Act.put, List.setIfInBounds_toArray, List.set_cons_zero, List.set_cons_succ]
        refine takeG 6 (some 18) (.slice kp km kc) rfl rfl (by kernel_rfl) (by kernel_rfl) (by kernel_rfl) (fun _ _ _ h => h) (ans_fnV 48 #[.agg (List.toArray [.slice kp km kc, .slice vp vm vc])] (by rfl) (fun w => by simp [execOp, resolve, invoke, Act.eval, Deferred.ofValue, hcall]) fun u hu => oKvP u x _ _ _ _ _ _) ?_
        simp only [Act.put, List.setIfInBounds_toArray, List.set_cons_zero, List.set_cons_succ]
        refine takeG 7 (some 19) (.func (.func 48) #[] #[]) rfl rfl (by kernel_rfl) (by kernel_rfl) (by kernel_rfl) (fun _ _ _ h => h) (ans_plain (by rfl) (fun w _ => rfl)) ?_
        simp only [Act.put, List.setIfInBounds_toArray, List.set_cons_zero, List.set_cons_succ]
        refine takeG 8 (some 20) (.slice (some ⟨b, o, none⟩) n c) rfl rfl (by kernel_rfl) (by kernel_rfl) (by kernel_rfl) (fun _ _ _ h => h) (ans_plain (by rfl) (fun w _ => rfl)) ?_
        simp only [Act.put, List.setIfInBounds_toArray, List.set_cons_zero, List.set_cons_succ]
        refine takeG 9 (some 21) (.int .i64 ((k : Int) + 1)) rfl rfl (by kernel_rfl) (by kernel_rfl) (by kernel_rfl) (fun _ _ _ h => h) (ans_plain (by rfl) (fun w _ => rfl)) ?_
        simp only [Act.put, List.setIfInBounds_toArray, List.set_cons_zero, List.set_cons_succ]
        refine takeG 10 (some 22) (.pointer (some ⟨b, o + (k + 1) * 2, none⟩)) rfl rfl (by kernel_rfl) (by kernel_rfl) (by kernel_rfl) (fun _ _ _ h => h) (ans_plain (by rfl) (fun w _ => by unfold execOp; go_simp)) ?_
        simp only [Act.put, List.setIfInBounds_toArray, List.set_cons_zero, List.set_cons_succ]
        refine takeG 11 (some 23) (.agg (List.toArray [.slice lp lm lc, .slice up um uc])) rfl rfl (by kernel_rfl) (by kernel_rfl) (by kernel_rfl) (fun _ _ _ h => h) (ans_row 44 (.tmp 22) _ 2 rfl (by rfl) b (o + (k + 1) * 2) rfl [.slice lp lm lc, .slice up um uc] (fun u hu => rangeB hrg2 hu hlb) Try.underlying44 rfl rfl sizePr) ?_
        simp only [Act.put, List.setIfInBounds_toArray, List.set_cons_zero, List.set_cons_succ]
        refine takeG 12 (some 24) (.slice lp lm lc) rfl rfl (by kernel_rfl) (by kernel_rfl) (by kernel_rfl) (fun _ _ _ h => h) (ans_fnV 48 #[.agg (List.toArray [.slice lp lm lc, .slice up um uc])] (by rfl) (fun w => by simp [execOp, resolve, invoke, Act.eval, Deferred.ofValue, hcall]) fun u hu => oKvP u y _ _ _ _ _ _) ?_
        simp only [Act.put, List.setIfInBounds_toArray, List.set_cons_zero, List.set_cons_succ]
        refine takeG 13 (some 25) (.int .i64 cb) rfl rfl (by kernel_rfl) (by kernel_rfl) (by kernel_rfl) (fun _ _ _ h => h) (ans_fn 60 #[.tmp 18, .tmp 24] #[26, 26] #[.slice kp km kc, .slice lp lm lc] rfl (by rfl) (by rfl) Try.call60 fun u hu => CC.out u hu) ?_
        simp only [Act.put, List.setIfInBounds_toArray, List.set_cons_zero, List.set_cons_succ]
        refine takeG 14 (some 26) (.bool true) rfl rfl (by kernel_rfl) (by kernel_rfl) (by kernel_rfl) (fun _ _ _ h => h) (ans_plain (by rfl) (fun w _ => by unfold execOp; go_simp)) ?_
        simp only [Act.put, List.setIfInBounds_toArray, List.set_cons_zero, List.set_cons_succ]
        refine doneG (by kernel_rfl) fun v6 hg_v6 hs_v6 => ?_
        have k7 : Below w.heap.size w v6 := hb.trans (Below.mono hs_v6 hb.size)
        clear CC
        go_wp2_with fail
        go_ret
        exact ⟨by rw [HN.out]; rfl, k7⟩
      · have b3 : ¬ (0 : Int) ≤ cb := hc
        rw [decide_eq_true (by omega), Bool.true_and] at hd
        have HN : Hid (riseB keyP l = riseB keyP (l.drop (k + 1))) := HI.out.trans hd
        clear hd HI
        go_wp2_with fail
        refine regionG (S := Grows wr) (by kernel_rfl) (Below.refl _ wr).drew ?_
        refine takeG 0 (some 12) (.func (.func 48) #[] #[]) rfl rfl (by kernel_rfl) (by kernel_rfl) (by kernel_rfl) (fun _ _ _ h => h) (ans_plain (by rfl) (fun w _ => rfl)) ?_
        simp only [Act.put, List.setIfInBounds_toArray, List.set_cons_zero, List.set_cons_succ]
        refine takeG 1 (some 13) (.slice (some ⟨b, o, none⟩) n c) rfl rfl (by kernel_rfl) (by kernel_rfl) (by kernel_rfl) (fun _ _ _ h => h) (ans_plain (by rfl) (fun w _ => rfl)) ?_
        simp only [Act.put, List.setIfInBounds_toArray, List.set_cons_zero, List.set_cons_succ]
        refine takeG 2 (some 14) (.int .i64 ((k : Int) + 1)) rfl rfl (by kernel_rfl) (by kernel_rfl) (by kernel_rfl) (fun _ _ _ h => h) (ans_plain (by rfl) (fun w _ => rfl)) ?_
        simp only [Act.put, List.setIfInBounds_toArray, List.set_cons_zero, List.set_cons_succ]
        refine takeG 3 (some 15) (.int .i64 (k : Int)) rfl rfl (by kernel_rfl) (by kernel_rfl) (by kernel_rfl) (fun _ _ _ h => h) (ans_plain (by rfl) (fun w _ => by unfold execOp; go_simp)) ?_
        simp only [Act.put, List.setIfInBounds_toArray, List.set_cons_zero, List.set_cons_succ]
        refine takeG 4 (some 16) (.pointer (some ⟨b, o + k * 2, none⟩)) rfl rfl (by kernel_rfl) (by kernel_rfl) (by kernel_rfl) (fun _ _ _ h => h) (ans_plain (by rfl) (fun w _ => by unfold execOp; go_simp)) ?_
        simp only [Act.put, List.setIfInBounds_toArray, List.set_cons_zero, List.set_cons_succ]
        refine takeG 5 (some 17) (.agg (List.toArray [.slice kp km kc, .slice vp vm vc])) rfl rfl (by kernel_rfl) (by kernel_rfl) (by kernel_rfl) (fun _ _ _ h => h) (ans_row 44 (.tmp 16) _ 2 rfl (by rfl) b (o + k * 2) rfl [.slice kp km kc, .slice vp vm vc] (fun u hu => rangeB hrg hu hlb) Try.underlying44 rfl rfl sizePr) ?_
        simp only [Act.put, List.setIfInBounds_toArray, List.set_cons_zero, List.set_cons_succ]
        refine takeG 6 (some 18) (.slice kp km kc) rfl rfl (by kernel_rfl) (by kernel_rfl) (by kernel_rfl) (fun _ _ _ h => h) (ans_fnV 48 #[.agg (List.toArray [.slice kp km kc, .slice vp vm vc])] (by rfl) (fun w => by simp [execOp, resolve, invoke, Act.eval, Deferred.ofValue, hcall]) fun u hu => oKvP u x _ _ _ _ _ _) ?_
        simp only [Act.put, List.setIfInBounds_toArray, List.set_cons_zero, List.set_cons_succ]
        refine takeG 7 (some 19) (.func (.func 48) #[] #[]) rfl rfl (by kernel_rfl) (by kernel_rfl) (by kernel_rfl) (fun _ _ _ h => h) (ans_plain (by rfl) (fun w _ => rfl)) ?_
        simp only [Act.put, List.setIfInBounds_toArray, List.set_cons_zero, List.set_cons_succ]
        refine takeG 8 (some 20) (.slice (some ⟨b, o, none⟩) n c) rfl rfl (by kernel_rfl) (by kernel_rfl) (by kernel_rfl) (fun _ _ _ h => h) (ans_plain (by rfl) (fun w _ => rfl)) ?_
        simp only [Act.put, List.setIfInBounds_toArray, List.set_cons_zero, List.set_cons_succ]
        refine takeG 9 (some 21) (.int .i64 ((k : Int) + 1)) rfl rfl (by kernel_rfl) (by kernel_rfl) (by kernel_rfl) (fun _ _ _ h => h) (ans_plain (by rfl) (fun w _ => rfl)) ?_
        simp only [Act.put, List.setIfInBounds_toArray, List.set_cons_zero, List.set_cons_succ]
        refine takeG 10 (some 22) (.pointer (some ⟨b, o + (k + 1) * 2, none⟩)) rfl rfl (by kernel_rfl) (by kernel_rfl) (by kernel_rfl) (fun _ _ _ h => h) (ans_plain (by rfl) (fun w _ => by unfold execOp; go_simp)) ?_
        simp only [Act.put, List.setIfInBounds_toArray, List.set_cons_zero, List.set_cons_succ]
        refine takeG 11 (some 23) (.agg (List.toArray [.slice lp lm lc, .slice up um uc])) rfl rfl (by kernel_rfl) (by kernel_rfl) (by kernel_rfl) (fun _ _ _ h => h) (ans_row 44 (.tmp 22) _ 2 rfl (by rfl) b (o + (k + 1) * 2) rfl [.slice lp lm lc, .slice up um uc] (fun u hu => rangeB hrg2 hu hlb) Try.underlying44 rfl rfl sizePr) ?_
        simp only [Act.put, List.setIfInBounds_toArray, List.set_cons_zero, List.set_cons_succ]
        refine takeG 12 (some 24) (.slice lp lm lc) rfl rfl (by kernel_rfl) (by kernel_rfl) (by kernel_rfl) (fun _ _ _ h => h) (ans_fnV 48 #[.agg (List.toArray [.slice lp lm lc, .slice up um uc])] (by rfl) (fun w => by simp [execOp, resolve, invoke, Act.eval, Deferred.ofValue, hcall]) fun u hu => oKvP u y _ _ _ _ _ _) ?_
        simp only [Act.put, List.setIfInBounds_toArray, List.set_cons_zero, List.set_cons_succ]
        refine takeG 13 (some 25) (.int .i64 cb) rfl rfl (by kernel_rfl) (by kernel_rfl) (by kernel_rfl) (fun _ _ _ h => h) (ans_fn 60 #[.tmp 18, .tmp 24] #[26, 26] #[.slice kp km kc, .slice lp lm lc] rfl (by rfl) (by rfl) Try.call60 fun u hu => CC.out u hu) ?_
        simp only [Act.put, List.setIfInBounds_toArray, List.set_cons_zero, List.set_cons_succ]
        refine takeG 14 (some 26) (.bool false) rfl rfl (by kernel_rfl) (by kernel_rfl) (by kernel_rfl) (fun _ _ _ h => h) (ans_plain (by rfl) (fun w _ => by unfold execOp; go_simp)) ?_
        simp only [Act.put, List.setIfInBounds_toArray, List.set_cons_zero, List.set_cons_succ]
        refine doneG (by kernel_rfl) fun v6 hg_v6 hs_v6 => ?_
        have k7 : Below w.heap.size w v6 := hb.trans (Below.mono hs_v6 hb.size)
        clear CC
        go_wp2_with fail
        go_roundw
        case rel => exact ⟨k + 1, by omega, by first | rfl | go_num, HN, k7⟩
        case measure => simp [intOf]; omega
    · have i0 : ¬ (k : Int) + 1 < (n : Int) := by omega
      have HN : Hid (riseB keyP l = true) := by show _ = _; rw [HI.out]; exact riseB_short _ (by omega)
      clear HI
      go_wp2_with fail
      go_ret
      exact ⟨by rw [HN.out]; rfl, hb⟩
set_option maxRecDepth 100000 in
set_option maxHeartbeats 4000000 in
theorem oKvK (w : World) (x : KidS) (kp : Option Addr) (km kc : Nat) : Calls Try.prog 50 #[.agg (List.toArray [.slice kp km kc, .int .i64 x.page, .int .i64 x.epoch])] w fun e w' => e = .returned (.slice kp km kc) ∧ Below w.heap.size w w' := by
  go_enter Try.func50, Try.ntmps50
  go_wp2_with fail
  go_ret
  exact ⟨rfl, below_alloc _ _⟩
set_option maxRecDepth 100000 in
set_option maxHeartbeats 4000000 in
theorem oRiseK (w : World) {A : Nat → Prop} {a : Option Addr} {n c : Nat} {l : List KidS} (h : SlD A w a n c l) (hn : n ≤ 100000) : Calls Try.prog 49 #[.slice a n c, .func (.func 50) #[] #[]] w fun e w' => e = .returned (.bool (riseB keyD l)) ∧ Below w.heap.size w w' := by
  have hln : l.length = n := h.len
  have hcall := Try.call50
  have HS : Hid (SlD A w a n c l) := h
  clear h
  go_enter Try.func49, Try.ntmps49
  go_wp2_with fail
  go_loopw [5] (fun i wr => ∃ k : Nat, k ≤ n ∧ i = .int .i64 ((k : Int) + 1) ∧ Hid (riseB keyD l = riseB keyD (l.drop k)) ∧ Below w.heap.size w wr) (fun i _ => n + 1 - (intOf i).toNat)
  case atStart => exact ⟨0, Nat.zero_le _, rfl, rfl, Below.refl _ _⟩
  case round =>
    obtain ⟨k, hk, rfl, HI, hb⟩ := hrel
    by_cases hlt : k + 1 < n
    · have i0 : (k : Int) + 1 < (n : Int) := by omega
      have i1 : (k : Int) < (n : Int) := by omega
      have i2 : IntKind.i64.wrap ((k : Int) + 1 - 1) = (k : Int) := by rw [IntKind.wrap_i64]; omega
      have i3 : IntKind.i64.wrap ((k : Int) + 1 + 1) = ((k + 1 : Nat) : Int) + 1 := by rw [IntKind.wrap_i64]; omega
      have i4 : ((k : Int) + 1).toNat = k + 1 := by omega
      have i5 : IntKind.i64.wrap (k : Int) = (k : Int) := by rw [IntKind.wrap_i64]; omega
      have i6 : ¬ (k : Int) + 1 < 0 := by omega
      obtain ⟨x, hx⟩ : ∃ x, l[k]? = some x := ⟨_, List.getElem?_eq_getElem (by omega)⟩
      obtain ⟨y, hy⟩ : ∃ y, l[k + 1]? = some y := ⟨_, List.getElem?_eq_getElem (by omega)⟩
      have hd := riseB_drop keyD hx hy
      obtain ⟨b, o, vs, ea, hlb, hrg, hvl, hel⟩ := HS.out.at hb hx
      obtain ⟨b2, o2, vs2, ea2, hlb2, hrg2, hvl2, hel2⟩ := HS.out.at hb hy
      rw [ea] at ea2
      simp only [Option.some.injEq, Addr.mk.injEq, and_true] at ea2
      obtain ⟨rfl, rfl⟩ := ea2
      obtain ⟨kp, km, kc, rfl, hB1, hp6, he6⟩ := hel
      obtain ⟨lp, lm, lc, rfl, hC1, hq6, hf6⟩ := hel2
      subst ea
      obtain ⟨cb, hcb⟩ : ∃ cb, cb = Lib.compareBytes (keyD x) (keyD y) := ⟨_, rfl⟩
      have CC : Hid (∀ u, Grows wr u → Calls Try.prog 60 #[.slice kp km kc, .slice lp lm lc] u fun e w' => e = .returned (.int .i64 cb) ∧ Below u.heap.size u w') := fun u hu => (oCompare u (Bs.below hB1.1 hu (Nat.le_refl _)) (Bs.below hC1.1 hu (Nat.le_refl _))).mono (by rintro e w' ⟨rfl, rfl⟩; exact ⟨by rw [hcb]; rfl, Below.refl _ _⟩)
      rw [← hcb] at hd
      clear hcb HS hB1 hC1 hx hy
      by_cases hc : 0 ≤ cb
      · have b3 : (0 : Int) ≤ cb := hc
        rw [decide_eq_false (by omega), Bool.false_and] at hd
        have HN : Hid (riseB keyD l = false) := HI.out.trans hd
        clear hd HI
        go_wp2_with fail
        refine regionG (S := Grows wr) (by kernel_rfl) (Below.refl _ wr).drew ?_
        refine takeG 0 (some 12) (.func (.func 50) #[] #[]) rfl rfl (by kernel_rfl) (by kernel_rfl) (by kernel_rfl) (fun _ _ _ h => h) (ans_plain (by rfl) (fun w _ => rfl)) ?_
        simp only [Act.put, List.setIfInBounds_toArray, List.set_cons_zero, List.set_cons_succ]
        refine takeG 1 (some 13) (.slice (some ⟨b, o, none⟩) n c) rfl rfl (by kernel_rfl) (by kernel_rfl) (by kernel_rfl) (fun _ _ _ h => h) (ans_plain (by rfl) (fun w _ => rfl)) ?_
        simp only [Act.put, List.setIfInBounds_toArray, List.set_cons_zero, List.set_cons_succ]
        refine takeG 2 (some 14) (.int .i64 ((k : Int) + 1)) rfl rfl (by kernel_rfl) (by kernel_rfl) (by kernel_rfl) (fun _ _ _ h => h) (ans_plain (by rfl) (fun w _ => rfl)) ?_
        simp only [Act.put, List.setIfInBounds_toArray, List.set_cons_zero, List.set_cons_succ]
        refine takeG 3 (some 15) (.int .i64 (k : Int)) rfl rfl (by kernel_rfl) (by kernel_rfl) (by kernel_rfl) (fun _ _ _ h => h) (ans_plain (by rfl) (fun w _ => by unfold execOp; go_simp)) ?_
        simp only [Act.put, List.setIfInBounds_toArray, List.set_cons_zero, List.set_cons_succ]
        refine takeG 4 (some 16) (.pointer (some ⟨b, o + k * 3, none⟩)) rfl rfl (by kernel_rfl) (by kernel_rfl) (by kernel_rfl) (fun _ _ _ h => h) (ans_plain (by rfl) (fun w _ => by unfold execOp; go_simp)) ?_
        simp only [Act.put, List.setIfInBounds_toArray, List.set_cons_zero, List.set_cons_succ]
        refine takeG 5 (some 17) (.agg (List.toArray [.slice kp km kc, .int .i64 x.page, .int .i64 x.epoch])) rfl rfl (by kernel_rfl) (by kernel_rfl) (by kernel_rfl) (fun _ _ _ h => h) (ans_row 46 (.tmp 16) _ 3 rfl (by rfl) b (o + k * 3) rfl [.slice kp km kc, .int .i64 x.page, .int .i64 x.epoch] (fun u hu => rangeB hrg hu hlb) Try.underlying46 rfl rfl sizeKd) ?_
        simp only [Act.put, List.setIfInBounds_toArray, List.set_cons_zero, List.set_cons_succ]
        refine takeG 6 (some 18) (.slice kp km kc) rfl rfl (by kernel_rfl) (by kernel_rfl) (by kernel_rfl) (fun _ _ _ h => h) (ans_fnV 50 #[.agg (List.toArray [.slice kp km kc, .int .i64 x.page, .int .i64 x.epoch])] (by rfl) (fun w => by simp [execOp, resolve, invoke, Act.eval, Deferred.ofValue, hcall]) fun u hu => oKvK u x _ _ _) ?_
        simp only [Act.put, List.setIfInBounds_toArray, List.set_cons_zero, List.set_cons_succ]
        refine takeG 7 (some 19) (.func (.func 50) #[] #[]) rfl rfl (by kernel_rfl) (by kernel_rfl) (by kernel_rfl) (fun _ _ _ h => h) (ans_plain (by rfl) (fun w _ => rfl)) ?_
        simp only [Act.put, List.setIfInBounds_toArray, List.set_cons_zero, List.set_cons_succ]
        refine takeG 8 (some 20) (.slice (some ⟨b, o, none⟩) n c) rfl rfl (by kernel_rfl) (by kernel_rfl) (by kernel_rfl) (fun _ _ _ h => h) (ans_plain (by rfl) (fun w _ => rfl)) ?_
        simp only [Act.put, List.setIfInBounds_toArray, List.set_cons_zero, List.set_cons_succ]
        refine takeG 9 (some 21) (.int .i64 ((k : Int) + 1)) rfl rfl (by kernel_rfl) (by kernel_rfl) (by kernel_rfl) (fun _ _ _ h => h) (ans_plain (by rfl) (fun w _ => rfl)) ?_
        simp only [Act.put, List.setIfInBounds_toArray, List.set_cons_zero, List.set_cons_succ]
        refine takeG 10 (some 22) (.pointer (some ⟨b, o + (k + 1) * 3, none⟩)) rfl rfl (by kernel_rfl) (by kernel_rfl) (by kernel_rfl) (fun _ _ _ h => h) (ans_plain (by rfl) (fun w _ => by unfold execOp; go_simp)) ?_
        simp only [Act.put, List.setIfInBounds_toArray, List.set_cons_zero, List.set_cons_succ]
        refine takeG 11 (some 23) (.agg (List.toArray [.slice lp lm lc, .int .i64 y.page, .int .i64 y.epoch])) rfl rfl (by kernel_rfl) (by kernel_rfl) (by kernel_rfl) (fun _ _ _ h => h) (ans_row 46 (.tmp 22) _ 3 rfl (by rfl) b (o + (k + 1) * 3) rfl [.slice lp lm lc, .int .i64 y.page, .int .i64 y.epoch] (fun u hu => rangeB hrg2 hu hlb) Try.underlying46 rfl rfl sizeKd) ?_
        simp only [Act.put, List.setIfInBounds_toArray, List.set_cons_zero, List.set_cons_succ]
        refine takeG 12 (some 24) (.slice lp lm lc) rfl rfl (by kernel_rfl) (by kernel_rfl) (by kernel_rfl) (fun _ _ _ h => h) (ans_fnV 50 #[.agg (List.toArray [.slice lp lm lc, .int .i64 y.page, .int .i64 y.epoch])] (by rfl) (fun w => by simp [execOp, resolve, invoke, Act.eval, Deferred.ofValue, hcall]) fun u hu => oKvK u y _ _ _) ?_
        simp only [Act.put, List.setIfInBounds_toArray, List.set_cons_zero, List.set_cons_succ]
        refine takeG 13 (some 25) (.int .i64 cb) rfl rfl (by kernel_rfl) (by kernel_rfl) (by kernel_rfl) (fun _ _ _ h => h) (ans_fn 60 #[.tmp 18, .tmp 24] #[26, 26] #[.slice kp km kc, .slice lp lm lc] rfl (by rfl) (by rfl) Try.call60 fun u hu => CC.out u hu) ?_
        simp only [Act.put, List.setIfInBounds_toArray, List.set_cons_zero, List.set_cons_succ]
        refine takeG 14 (some 26) (.bool true) rfl rfl (by kernel_rfl) (by kernel_rfl) (by kernel_rfl) (fun _ _ _ h => h) (ans_plain (by rfl) (fun w _ => by unfold execOp; go_simp)) ?_
        simp only [Act.put, List.setIfInBounds_toArray, List.set_cons_zero, List.set_cons_succ]
        refine doneG (by kernel_rfl) fun v6 hg_v6 hs_v6 => ?_
        have k7 : Below w.heap.size w v6 := hb.trans (Below.mono hs_v6 hb.size)
        clear CC
        go_wp2_with fail
        go_ret
        exact ⟨by rw [HN.out]; rfl, k7⟩
      · have b3 : ¬ (0 : Int) ≤ cb := hc
        rw [decide_eq_true (by omega), Bool.true_and] at hd
        have HN : Hid (riseB keyD l = riseB keyD (l.drop (k + 1))) := HI.out.trans hd
        clear hd HI
        go_wp2_with fail
        refine regionG (S := Grows wr) (by kernel_rfl) (Below.refl _ wr).drew ?_
        refine takeG 0 (some 12) (.func (.func 50) #[] #[]) rfl rfl (by kernel_rfl) (by kernel_rfl) (by kernel_rfl) (fun _ _ _ h => h) (ans_plain (by rfl) (fun w _ => rfl)) ?_
        simp only [Act.put, List.setIfInBounds_toArray, List.set_cons_zero, List.set_cons_succ]
        refine takeG 1 (some 13) (.slice (some ⟨b, o, none⟩) n c) rfl rfl (by kernel_rfl) (by kernel_rfl) (by kernel_rfl) (fun _ _ _ h => h) (ans_plain (by rfl) (fun w _ => rfl)) ?_
        simp only [Act.put, List.setIfInBounds_toArray, List.set_cons_zero, List.set_cons_succ]
        refine takeG 2 (some 14) (.int .i64 ((k : Int) + 1)) rfl rfl (by kernel_rfl) (by kernel_rfl) (by kernel_rfl) (fun _ _ _ h => h) (ans_plain (by rfl) (fun w _ => rfl)) ?_
        simp only [Act.put, List.setIfInBounds_toArray, List.set_cons_zero, List.set_cons_succ]
        refine takeG 3 (some 15) (.int .i64 (k : Int)) rfl rfl (by kernel_rfl) (by kernel_rfl) (by kernel_rfl) (fun _ _ _ h => h) (ans_plain (by rfl) (fun w _ => by unfold execOp; go_simp)) ?_
        simp only [Act.put, List.setIfInBounds_toArray, List.set_cons_zero, List.set_cons_succ]
        refine takeG 4 (some 16) (.pointer (some ⟨b, o + k * 3, none⟩)) rfl rfl (by kernel_rfl) (by kernel_rfl) (by kernel_rfl) (fun _ _ _ h => h) (ans_plain (by rfl) (fun w _ => by unfold execOp; go_simp)) ?_
        simp only [Act.put, List.setIfInBounds_toArray, List.set_cons_zero, List.set_cons_succ]
        refine takeG 5 (some 17) (.agg (List.toArray [.slice kp km kc, .int .i64 x.page, .int .i64 x.epoch])) rfl rfl (by kernel_rfl) (by kernel_rfl) (by kernel_rfl) (fun _ _ _ h => h) (ans_row 46 (.tmp 16) _ 3 rfl (by rfl) b (o + k * 3) rfl [.slice kp km kc, .int .i64 x.page, .int .i64 x.epoch] (fun u hu => rangeB hrg hu hlb) Try.underlying46 rfl rfl sizeKd) ?_
        simp only [Act.put, List.setIfInBounds_toArray, List.set_cons_zero, List.set_cons_succ]
        refine takeG 6 (some 18) (.slice kp km kc) rfl rfl (by kernel_rfl) (by kernel_rfl) (by kernel_rfl) (fun _ _ _ h => h) (ans_fnV 50 #[.agg (List.toArray [.slice kp km kc, .int .i64 x.page, .int .i64 x.epoch])] (by rfl) (fun w => by simp [execOp, resolve, invoke, Act.eval, Deferred.ofValue, hcall]) fun u hu => oKvK u x _ _ _) ?_
        simp only [Act.put, List.setIfInBounds_toArray, List.set_cons_zero, List.set_cons_succ]
        refine takeG 7 (some 19) (.func (.func 50) #[] #[]) rfl rfl (by kernel_rfl) (by kernel_rfl) (by kernel_rfl) (fun _ _ _ h => h) (ans_plain (by rfl) (fun w _ => rfl)) ?_
        simp only [Act.put, List.setIfInBounds_toArray, List.set_cons_zero, List.set_cons_succ]
        refine takeG 8 (some 20) (.slice (some ⟨b, o, none⟩) n c) rfl rfl (by kernel_rfl) (by kernel_rfl) (by kernel_rfl) (fun _ _ _ h => h) (ans_plain (by rfl) (fun w _ => rfl)) ?_
        simp only [Act.put, List.setIfInBounds_toArray, List.set_cons_zero, List.set_cons_succ]
        refine takeG 9 (some 21) (.int .i64 ((k : Int) + 1)) rfl rfl (by kernel_rfl) (by kernel_rfl) (by kernel_rfl) (fun _ _ _ h => h) (ans_plain (by rfl) (fun w _ => rfl)) ?_
        simp only [Act.put, List.setIfInBounds_toArray, List.set_cons_zero, List.set_cons_succ]
        refine takeG 10 (some 22) (.pointer (some ⟨b, o + (k + 1) * 3, none⟩)) rfl rfl (by kernel_rfl) (by kernel_rfl) (by kernel_rfl) (fun _ _ _ h => h) (ans_plain (by rfl) (fun w _ => by unfold execOp; go_simp)) ?_
        simp only [Act.put, List.setIfInBounds_toArray, List.set_cons_zero, List.set_cons_succ]
        refine takeG 11 (some 23) (.agg (List.toArray [.slice lp lm lc, .int .i64 y.page, .int .i64 y.epoch])) rfl rfl (by kernel_rfl) (by kernel_rfl) (by kernel_rfl) (fun _ _ _ h => h) (ans_row 46 (.tmp 22) _ 3 rfl (by rfl) b (o + (k + 1) * 3) rfl [.slice lp lm lc, .int .i64 y.page, .int .i64 y.epoch] (fun u hu => rangeB hrg2 hu hlb) Try.underlying46 rfl rfl sizeKd) ?_
        simp only [Act.put, List.setIfInBounds_toArray, List.set_cons_zero, List.set_cons_succ]
        refine takeG 12 (some 24) (.slice lp lm lc) rfl rfl (by kernel_rfl) (by kernel_rfl) (by kernel_rfl) (fun _ _ _ h => h) (ans_fnV 50 #[.agg (List.toArray [.slice lp lm lc, .int .i64 y.page, .int .i64 y.epoch])] (by rfl) (fun w => by simp [execOp, resolve, invoke, Act.eval, Deferred.ofValue, hcall]) fun u hu => oKvK u y _ _ _) ?_
        simp only [Act.put, List.setIfInBounds_toArray, List.set_cons_zero, List.set_cons_succ]
        refine takeG 13 (some 25) (.int .i64 cb) rfl rfl (by kernel_rfl) (by kernel_rfl) (by kernel_rfl) (fun _ _ _ h => h) (ans_fn 60 #[.tmp 18, .tmp 24] #[26, 26] #[.slice kp km kc, .slice lp lm lc] rfl (by rfl) (by rfl) Try.call60 fun u hu => CC.out u hu) ?_
        simp only [Act.put, List.setIfInBounds_toArray, List.set_cons_zero, List.set_cons_succ]
        refine takeG 14 (some 26) (.bool false) rfl rfl (by kernel_rfl) (by kernel_rfl) (by kernel_rfl) (fun _ _ _ h => h) (ans_plain (by rfl) (fun w _ => by unfold execOp; go_simp)) ?_
        simp only [Act.put, List.setIfInBounds_toArray, List.set_cons_zero, List.set_cons_succ]
        refine doneG (by kernel_rfl) fun v6 hg_v6 hs_v6 => ?_
        have k7 : Below w.heap.size w v6 := hb.trans (Below.mono hs_v6 hb.size)
        clear CC
        go_wp2_with fail
        go_roundw
        case rel => exact ⟨k + 1, by omega, by first | rfl | go_num, HN, k7⟩
        case measure => simp [intOf]; omega
    · have i0 : ¬ (k : Int) + 1 < (n : Int) := by omega
      have HN : Hid (riseB keyD l = true) := by show _ = _; rw [HI.out]; exact riseB_short _ (by omega)
      clear HI
      go_wp2_with fail
      go_ret
      exact ⟨by rw [HN.out]; rfl, hb⟩

end Go.Proofs.Ytnmmopneacdgfaa

/-
  Contracts of layer 18's program: a node's size, and what is wrong with it. Condition: a node of at most a hundred thousand things, keys and values of at most a thousand bytes.
-/
namespace Go.Proofs.Ytnmmopneacdgfaa
open Go.RowKit
set_option linter.unusedVariables false
theorem zeroB_drop {l : List UInt8} {k : Nat} {x : UInt8} (h : l[k]? = some x) : zeroB (l.drop k) = ((x == 0) && zeroB (l.drop (k + 1))) := by
  rw [drop_at h]
  rfl
set_option maxRecDepth 100000 in
set_option maxHeartbeats 4000000 in
theorem oKindN (w : World) (lf : Bool) (p q : Tri) : Calls Try.prog 27 #[.agg (List.toArray [.bool lf, .slice p.la p.ln p.lc, .slice q.la q.ln q.lc])] w fun e w' => e = .returned (.int .u64 (if lf then 1 else 0)) ∧ Below w.heap.size w w' := by
  cases lf <;>
  · go_enter Try.func27, Try.ntmps27
    go_wp2_with fail
    go_ret
    exact ⟨rfl, below_alloc _ _⟩
set_option maxRecDepth 100000 in
set_option maxHeartbeats 4000000 in
theorem oNoughtsN (w : World) {a : Option Addr} {n c : Nat} {l : List UInt8} (h : Bs w a n c l) : Calls Try.prog 35 #[.slice a n c] w fun e w' => e = .returned (.bool (zeroB l)) ∧ w' = w := by
  have hn := h.len
  have hm := h.max
  have HB : Hid (Bs w a n c l) := h
  clear h
  go_enter Try.func35, Try.ntmps35
  go_wp2_with fail
  go_loop [7] (fun i => ∃ k : Nat, k ≤ n ∧ i = .int .i64 (k : Int) ∧ Hid (zeroB l = zeroB (l.drop k))) (fun i => n - (intOf i).toNat)
  case atStart => exact ⟨0, Nat.zero_le _, rfl, rfl⟩
  case round =>
    obtain ⟨k, hk, rfl, HI⟩ := hrel
    by_cases hlt : k < n
    · have i0 : (k : Int) < (n : Int) := by omega
      obtain ⟨x, hx⟩ : ∃ x, l[k]? = some x := ⟨_, List.getElem?_eq_getElem (by omega)⟩
      have hd := zeroB_drop hx
      obtain ⟨b, o, ea, hc⟩ := HB.out.2.2.2.2 k hlt
      have ex : bt l k = (x.toNat : Int) := by unfold bt; rw [List.getD_eq_getElem?_getD, hx]; rfl
      rw [ex] at hc
      subst ea
      by_cases h0 : x = 0
      · subst h0
        have HN : Hid (zeroB l = zeroB (l.drop (k + 1))) := by show _ = _; rw [HI.out, hd]; rfl
        clear HI hd hx ex
        go_wp2_with fail
        go_round
        case rel => exact ⟨k + 1, by omega, by go_num, HN⟩
        case measure => simp [intOf]; omega
      · have b3 : ((x.toNat : Int) == 0) = false := by
          have : x.toNat ≠ 0 := fun e => h0 (by apply UInt8.toNat_inj.1; simpa using e)
          simp; omega
        have HN : Hid (zeroB l = false) := by show _ = _; rw [HI.out, hd, show (x == 0) = false from by simpa using h0]; rfl
        clear HI hd hx ex
        go_wp2_with fail
        go_ret
        exact ⟨by rw [HN.out]; rfl, rfl⟩
    · have i0 : ¬ (k : Int) < (n : Int) := by omega
      have HN : Hid (zeroB l = true) := by show _ = _; rw [HI.out, List.drop_of_length_le (by omega)]; rfl
      clear HI
      go_wp2_with fail
      go_ret
      exact ⟨by rw [HN.out]; rfl, rfl⟩
set_option maxRecDepth 100000 in
set_option maxHeartbeats 4000000 in
theorem oSizeN (w : World) {A : Nat → Prop} {n : NodeS} {p q : Tri} (h : Nd A w n p q) (hl : Lit n) : Calls Try.prog 16 #[ndv n p q] w fun e w' => e = .returned (.int .i64 (sizeN n : Nat)) ∧ Below w.heap.size w w' := by
  have z1 := hl.totP
  have z2 := hl.totK
  have hp := hl.p
  have hk := hl.k
  have hps := hl.ps
  have hks := hl.ks
  have l1 := h.lp
  have l2 := h.lk
  obtain ⟨lf, ps, ks⟩ := n
  obtain ⟨pa, pn, pc⟩ := p
  obtain ⟨qa, qn, qc⟩ := q
  dsimp only at *
  unfold ndv ndc sizeN
  dsimp only
  obtain ⟨V, hV⟩ : ∃ V, V = w.alloc (.cells (List.toArray [.bool lf, .slice pa pn pc, .slice qa qn qc]) 25) := ⟨_, rfl⟩
  have bV : Blk V w.heap.size [.bool lf, .slice pa pn pc, .slice qa qn qc] 25 := by rw [hV]; exact Blk.newAt w _ _ w.heap.size rfl _ rfl
  have kW : Below w.heap.size w V := by rw [hV]; exact below_alloc _ _
  have X1 : ∀ u, Grows V u → u.cell? ⟨w.heap.size, 1, none⟩ = some (.slice pa pn pc) := fun u hu => (bV.below hu bV.lt).cell 1
  have X2 : ∀ u, Grows V u → u.cell? ⟨w.heap.size, 2, none⟩ = some (.slice qa qn qc) := fun u hu => (bV.below hu bV.lt).cell 2
  have C1 : Hid (∀ u, Grows V u → Calls Try.prog 53 #[.slice pa pn pc, .func (.func 54) #[] #[]] u fun e w' => e = .returned (.int .i64 (totL psz ps : Nat)) ∧ Below u.heap.size u w') := fun u hu => oTotP u (h.ps.below (kW.trans (Below.mono hu kW.size))) hp (by omega)
  have C2 : Hid (∀ u, Grows V u → Calls Try.prog 55 #[.slice qa qn qc, .func (.func 56) #[] #[]] u fun e w' => e = .returned (.int .i64 (totL ksz ks : Nat)) ∧ Below u.heap.size u w') := fun u hu => oTotK u (h.ks.below (kW.trans (Below.mono hu kW.size))) hk (by omega)
  clear h hp hk l1 l2 hl
  generalize totL psz ps = T1 at *
  generalize totL ksz ks = T2 at *
  have s1 : IntKind.i64.wrap ((3 : Int) + (T1 : Int)) = (3 : Int) + (T1 : Int) := by rw [IntKind.wrap_i64]; omega
  have s2 : IntKind.i64.wrap ((3 : Int) + (T1 : Int) + (T2 : Int)) = (3 : Int) + (T1 : Int) + (T2 : Int) := by rw [IntKind.wrap_i64]; omega
  go_enter Try.func16, Try.ntmps16
  go_wp2_with fail
  rw [← hV]
  refine regionG (S := Grows V) (by kernel_rfl) (Below.refl _ V).drew ?_
  refine takeG 0 (some 3) (.pointer (some ⟨w.heap.size, 1, none⟩)) rfl rfl (by kernel_rfl) (by kernel_rfl) (by kernel_rfl) (fun _ _ _ h => h) (ans_plain (by rfl) (fun w _ => by unfold execOp; go_simp)) ?_
  simp only [Act.put, List.setIfInBounds_toArray, List.set_cons_zero, List.set_cons_succ]
  refine takeG 1 (some 4) (.slice pa pn pc) rfl rfl (by kernel_rfl) (by kernel_rfl) (by kernel_rfl) (fun _ _ _ h => h) (ans_plain (by rfl) (fun w h => by have hc := X1 w h; unfold execOp; go_simp)) ?_
  simp only [Act.put, List.setIfInBounds_toArray, List.set_cons_zero, List.set_cons_succ]
  refine takeG 2 (some 5) (.int .i64 (T1 : Int)) rfl rfl (by kernel_rfl) (by kernel_rfl) (by kernel_rfl) (fun _ _ _ h => h) (ans_fn 53 #[.tmp 4, .func 54] #[22, 78] #[.slice pa pn pc, .func (.func 54) #[] #[]] rfl (by rfl) (by rfl) Try.call53 fun u hu => C1.out u hu) ?_
  simp only [Act.put, List.setIfInBounds_toArray, List.set_cons_zero, List.set_cons_succ]
  refine takeG 3 (some 6) (.int .i64 ((3 + T1 : Nat) : Int)) rfl rfl (by kernel_rfl) (by kernel_rfl) (by kernel_rfl) (fun _ _ _ h => h) (ans_plain (by rfl) (fun w _ => by unfold execOp; go_simp)) ?_
  simp only [Act.put, List.setIfInBounds_toArray, List.set_cons_zero, List.set_cons_succ]
  refine takeG 4 (some 7) (.pointer (some ⟨w.heap.size, 2, none⟩)) rfl rfl (by kernel_rfl) (by kernel_rfl) (by kernel_rfl) (fun _ _ _ h => h) (ans_plain (by rfl) (fun w _ => by unfold execOp; go_simp)) ?_
  simp only [Act.put, List.setIfInBounds_toArray, List.set_cons_zero, List.set_cons_succ]
  refine takeG 5 (some 8) (.slice qa qn qc) rfl rfl (by kernel_rfl) (by kernel_rfl) (by kernel_rfl) (fun _ _ _ h => h) (ans_plain (by rfl) (fun w h => by have hc := X2 w h; unfold execOp; go_simp)) ?_
  simp only [Act.put, List.setIfInBounds_toArray, List.set_cons_zero, List.set_cons_succ]
  refine takeG 6 (some 9) (.int .i64 (T2 : Int)) rfl rfl (by kernel_rfl) (by kernel_rfl) (by kernel_rfl) (fun _ _ _ h => h) (ans_fn 55 #[.tmp 8, .func 56] #[23, 80] #[.slice qa qn qc, .func (.func 56) #[] #[]] rfl (by rfl) (by rfl) Try.call55 fun u hu => C2.out u hu) ?_
  simp only [Act.put, List.setIfInBounds_toArray, List.set_cons_zero, List.set_cons_succ]
  refine takeG 7 (some 10) (.int .i64 ((3 + T1 + T2 : Nat) : Int)) rfl rfl (by kernel_rfl) (by kernel_rfl) (by kernel_rfl) (fun _ _ _ h => h) (ans_plain (by rfl) (fun w _ => by unfold execOp; go_simp)) ?_
  simp only [Act.put, List.setIfInBounds_toArray, List.set_cons_zero, List.set_cons_succ]
  refine takeG 8 (some 2) (.int .i64 ((3 + T1 + T2 : Nat) : Int)) rfl rfl (by kernel_rfl) (by kernel_rfl) (by kernel_rfl) (fun _ _ _ h => h) (ans_plain (by rfl) (fun w _ => rfl)) ?_
  simp only [Act.put, List.setIfInBounds_toArray, List.set_cons_zero, List.set_cons_succ]
  refine doneG (by kernel_rfl) fun v6 hg_v6 hs_v6 => ?_
  have k8 : Below w.heap.size w v6 := kW.trans (Below.mono hs_v6 kW.size)
  clear C1 C2
  go_wp2_with fail
  go_ret
  exact ⟨rfl, k8⟩

end Go.Proofs.Ytnmmopneacdgfaa
