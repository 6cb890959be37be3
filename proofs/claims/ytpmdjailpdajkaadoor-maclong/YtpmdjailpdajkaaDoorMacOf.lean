/-
  The contract of mac.Of: the sum of parts, one behind the other, under a key. Conditions: the package's constants lie where they were laid; a key and parts of at most 90000 bytes.
-/
import Derived.Test.YtpmdjailpdajkaaDoorBlockOf
namespace Go.Proofs.YtpmdjailpdajkaaDoor
open Go.RowKit

theorem oMaskedI (w : World) (b : List UInt8) (hl : b.length = 64) :
    Calls Tryd.prog 23 #[.agg (cs b).toArray, .int .u8 54] w fun e w' => e = .returned (.slice (some ⟨w.heap.size, 0, none⟩) 64 64) ∧ Bs w' (some ⟨w.heap.size, 0, none⟩) 64 64 (xorB b 54) ∧ Below w.heap.size w w' := by
  have := oMasked w b hl 54
  rw [show (((54 : UInt8).toNat : Nat) : Int) = 54 from rfl] at this
  exact this
theorem oMaskedO (w : World) (b : List UInt8) (hl : b.length = 64) :
    Calls Tryd.prog 23 #[.agg (cs b).toArray, .int .u8 92] w fun e w' => e = .returned (.slice (some ⟨w.heap.size, 0, none⟩) 64 64) ∧ Bs w' (some ⟨w.heap.size, 0, none⟩) 64 64 (xorB b 92) ∧ Below w.heap.size w w' := by
  have := oMasked w b hl 92
  rw [show (((92 : UInt8).toNat : Nat) : Int) = 92 from rfl] at this
  exact this
theorem oOf2 (w : World) (hK : Kon w) {a1 a2 : Option Addr} {n1 c1 n2 c2 : Nat} {l1 l2 : List UInt8} (h1 : Bs w a1 n1 c1 l1) (h2 : Bs w a2 n2 c2 l2) (hz : n1 + n2 ≤ 100000) :
    Calls Tryd.prog 25 #[.slice (some ⟨w.heap.size, 0, none⟩) 2 2] (w.alloc (.cells #[.slice a1 n1 c1, .slice a2 n2 c2] 22)) fun e w' => e = .returned (.agg (cs (sumL (l1 ++ l2))).toArray) ∧ Below w.heap.size w w' := by
  have hb := below_alloc w (.cells #[.slice a1 n1 c1, .slice a2 n2 c2] 22)
  have := oOf _ (hK.below hb hK.lt) (Bss.two h1 h2) (by have := h1.len; have := h2.len; simp [tot]; omega)
  refine this.mono ?_
  rintro e w' ⟨rfl, hb'⟩
  refine ⟨?_, hb.trans (hb'.mono hb.size)⟩
  simp [bv]

theorem blk32 {w : World} {g : Nat} {Z : List UInt8} {t : TypeId} (h : Blk w g (cs Z) t) (hl : Z.length = 32) : Bs w (some ⟨g, 0, none⟩) 32 32 Z := by
  have := h.bs 0 32 Z cs_self (by omega) (by omega)
  rw [hl] at this
  exact this

set_option maxHeartbeats 2000000 in
theorem oMac (w : World) (hK : Kon w) {a p : Option Addr} {n c pn pc : Nat} {l : List UInt8} {ls : List (List UInt8)} (ha : Bs w a n c l) (hz : n ≤ 90000) (hp : Bss w p pn pc ls) (ht : tot ls ≤ 90000) :
    Calls Tryd.prog 9 #[.slice a n c, .slice p pn pc] w fun e w' => e = .returned (.agg (cs (macL l ls.flatten)).toArray) ∧ Below w.heap.size w w' := by
  have HN : Hid (ls.length = pn) := hp.len
  have hn1 := hp.max
  obtain ⟨B, hB⟩ : ∃ B, B = blkL l := ⟨_, rfl⟩
  obtain ⟨X, hX⟩ : ∃ X, X = xorB B 54 := ⟨_, rfl⟩
  obtain ⟨Y, hY⟩ : ∃ Y, Y = xorB B 92 := ⟨_, rfl⟩
  have HBL : Hid (B.length = 64) := by show _ = _; rw [hB, blkL_length]
  have HCB : Hid ((cs B).length = 64) := by show _ = _; rw [cs_length]; exact HBL.out
  have HL1 : Hid (X.length = 64) := by show _ = _; rw [hX, xorB_length]; exact HBL.out
  have HL2 : Hid (Y.length = 64) := by show _ = _; rw [hY, xorB_length]; exact HBL.out
  have C0 : Hid (∀ w, Kon w → Bs w a n c l → Calls Tryd.prog 20 #[.slice a n c] w fun e w' => e = .returned (.agg (cs B).toArray) ∧ Below w.heap.size w w') := fun w hK h => by rw [hB]; exact oBlockOf w hK h hz
  have C1 : Hid (∀ w : World, Calls Tryd.prog 23 #[.agg (cs B).toArray, .int .u8 54] w fun e w' => e = .returned (.slice (some ⟨w.heap.size, 0, none⟩) 64 64) ∧ Bs w' (some ⟨w.heap.size, 0, none⟩) 64 64 X ∧ Below w.heap.size w w') := fun w => by rw [hX]; exact oMaskedI w B HBL.out
  have C2 : Hid (∀ w : World, Calls Tryd.prog 23 #[.agg (cs B).toArray, .int .u8 92] w fun e w' => e = .returned (.slice (some ⟨w.heap.size, 0, none⟩) 64 64) ∧ Bs w' (some ⟨w.heap.size, 0, none⟩) 64 64 Y ∧ Below w.heap.size w w') := fun w => by rw [hY]; exact oMaskedO w B HBL.out
  have E : Hid (macL l ls.flatten = sumL (Y ++ sumL (X ++ ls.flatten))) := by show _ = _; rw [hX, hY, hB]; rfl
  rw [E.out]
  obtain ⟨Z, hZ⟩ : ∃ Z, Z = sumL (X ++ ls.flatten) := ⟨_, rfl⟩
  obtain ⟨V, hV⟩ : ∃ V, V = sumL (Y ++ Z) := ⟨_, rfl⟩
  have HZ : Hid (Z.length = 32) := by show _ = _; rw [hZ, sumL_length]
  have HO : Hid ((cs Z).length = 32) := by show _ = _; rw [cs_length]; exact HZ.out
  have HV : Hid ((cs V).length = 32) := by show _ = _; rw [cs_length, hV, sumL_length]
  have CS : Hid (∀ (wr : World) (r : Nat), Kon wr → Sta wr r (X ++ ls.flatten) → Calls Tryd.prog 24 #[.pointer (some ⟨r, 0, none⟩)] wr fun e w' => e = .returned (.agg (cs Z).toArray) ∧ Below wr.heap.size wr w') := fun wr r hK1 hS => by
    rw [hZ]
    exact oSum wr hK1 r _ hS (by rw [List.length_append, tot_flatten, HL1.out]; omega)
  have CO : Hid (∀ (w : World) (a1 a2 : Option Addr) (n1 c1 n2 c2 : Nat), Kon w → Bs w a1 n1 c1 Y → Bs w a2 n2 c2 Z → Calls Tryd.prog 25 #[.slice (some ⟨w.heap.size, 0, none⟩) 2 2] (w.alloc (.cells #[.slice a1 n1 c1, .slice a2 n2 c2] 22)) fun e w' => e = .returned (.agg (cs V).toArray) ∧ Below w.heap.size w w') := fun w a1 a2 n1 c1 n2 c2 hK h1 h2 => by
    rw [hV]
    exact oOf2 w hK h1 h2 (by have := h1.len; have := h2.len; have := HL2.out; have := HZ.out; omega)
  rw [← hZ, ← hV]
  clear hX hY hB E hZ hV
  go_enter Tryd.func9, Tryd.ntmps9
  go_wp2_with fail
  obtain ⟨W1, hW1⟩ : ∃ W1, W1 = w.alloc (.cells z24 26) := ⟨_, rfl⟩
  rw [← hW1]
  have b4 : Blk W1 w.heap.size (cs (List.replicate 32 0)) 26 := by rw [hW1]; exact Blk.new w _ _
  have q1 : Below w.heap.size w W1 := by rw [hW1]; exact below_alloc w _
  clear hW1
  refine (C0.out W1 (hK.below q1 hK.lt) (ha.below q1 (Nat.le_refl _))).mono ?_
  rintro e w2 ⟨rfl, hb2⟩
  have q2 := q1.trans (hb2.mono q1.size)
  go_wp2_with (first
    | (with_reducible refine at_st 41 ?_; refine st' 41 (.tmp 5) (.tmp 11) 64 size48 w2.heap.size 0 _ HCB.out cs_one ((Blk.new w2 z48 41).there 0 64 (by decide)) rfl rfl ?_; intro w3 hw3
       have b5 : Blk w3 w2.heap.size (cs B) 41 := by rw [hw3]; exact (Blk.new w2 z48 41).setsW _ (by rw [HCB.out]; rfl)
       have hb3 : Below w2.heap.size w2 w3 := by rw [hw3]; exact below_sets (Nat.le_refl _) _ (below_alloc _ _) 0
       clear hw3))
  have q3 := q2.trans (hb3.mono q2.size)
  have hg5 : w.heap.size < w2.heap.size := Nat.lt_of_lt_of_le b4.lt hb2.size
  have d4 := (b4.below hb2 b4.lt).below hb3 hg5
  generalize hG : w2.heap.size = g5 at *
  clear hG hb2 hb3 b4 q2 q1
  refine (oNew w3).mono ?_
  rintro e w4 ⟨r, rfl, hr, hS, hb4⟩
  have q4 := q3.trans (hb4.mono q3.size)
  have hrw : g5 < r := Nat.lt_of_lt_of_le b5.lt hr
  have e4 := d4.below hb4 d4.lt
  have e5 := b5.below hb4 b5.lt
  clear d4 b5 hb4 q3 hr
  go_wp2_with (first
    | (with_reducible refine at_ld 41 ?_; refine ld 41 (.tmp 5) 64 size48 _ Tryd.underlying41 rfl g5 0 _ HCB.out e5.whole rfl ?_))
  refine (C1.out w4).mono ?_
  rintro e w5 ⟨rfl, hB5, hb5⟩
  have hS5 := hS.below hb5 hS.lt
  have hrl := hS.lt
  have f4 := e4.below hb5 e4.lt
  have f5 := e5.below hb5 e5.lt
  have q5 := q4.trans (hb5.mono q4.size)
  clear hS e4 e5 hb5 q4
  go_wp2_with fail
  refine (oWrite w5 (hK.below q5 hK.lt) r [] hS5 hB5 (by omega) (fun _ x hx => by simp at hx; rw [← hx]; simp; omega) (by rw [HL1.out]; simp)).mono ?_
  rintro e w6 ⟨rfl, hS6, hg6⟩
  rw [List.nil_append] at hS6
  have b4 : Blk w6 w.heap.size (cs (List.replicate 32 0)) 26 := by unfold Blk; rw [hg6.block _ f4.lt (by simp; omega)]; exact f4
  have b5 : Blk w6 g5 (cs B) 41 := by unfold Blk; rw [hg6.block _ f5.lt (by simp; omega)]; exact f5
  have q6 : Below w.heap.size w w6 := q5.grown hg6 q5.size (fun i hi => by simp at hi; omega)
  clear f4 f5 hS5 hB5 hg6 q5 hrl
  go_wp2_with fail
  go_loopw [8, 19] (fun _ i wr => ∃ k : Nat, k ≤ pn ∧ i = .int .i64 k ∧ Sta wr r (X ++ (ls.take k).flatten) ∧ Blk wr w.heap.size (cs (List.replicate 32 0)) 26 ∧ Blk wr g5 (cs B) 41 ∧ Below w.heap.size w wr) (fun _ i _ => pn - (intOf i).toNat)
  case atStart => exact ⟨0, by omega, rfl, by simpa using hS6, b4, b5, q6⟩
  case round =>
    clear hS6 b4 b5 q6 C0 C1
    obtain ⟨k, hk, rfl, hS, b4, b5, hb⟩ := hrel
    have hrl := hS.lt
    by_cases hlt : k < pn
    · obtain ⟨x, o, rfl, hx, hc⟩ := hp.at (by omega)
      obtain ⟨pp, m, q, c1, hpp⟩ := Bss.part hc hb k hlt
      have hpw := hpp.below hb (Nat.le_refl _)
      have HS : Hid (X ++ (ls.take k).flatten ++ ls.getD k [] = X ++ (ls.take (k + 1)).flatten) := by show _ = _; rw [List.append_assoc, flat_step (by rw [HN.out]; exact hlt)]
      have hK1 := hK.below hb hK.lt
      have CW : Hid (Calls Tryd.prog 22 #[.pointer (some ⟨r, 0, none⟩), .slice pp m q] wr fun e w' => e = .returned (.tuple #[]) ∧ Sta w' r (X ++ (ls.take (k + 1)).flatten) ∧ wr.grownBy w' (some r)) := by
        have := oWrite wr hK1 r _ hS hpw (by omega) (fun h y hy => by have := hpp.lt h y hy; omega) (by
          have h1 := flat_len_take (k := k + 1) (ls := ls) (by omega)
          have h2 := HL1.out
          have h3 := congrArg List.length HS.out
          simp only [List.length_append] at h3 ⊢
          omega)
        rw [HS.out] at this
        exact this
      go_wp2_with (first | (go_at_call 22; refine CW.out.mono ?_; rintro e w2 ⟨rfl, hS2, hg2⟩))
      go_roundw
      case rel =>
        refine ⟨k + 1, by omega, by go_num, hS2, ?_, ?_, hb.grown hg2 hb.size (fun i hi => by simp at hi; omega)⟩
        · unfold Blk
          rw [hg2.block _ b4.lt (by simp; omega)]
          exact b4
        · unfold Blk
          rw [hg2.block _ b5.lt (by simp; omega)]
          exact b5
      case measure => simp [intOf]; omega
    · have e : ls.take k = ls := List.take_of_length_le (by rw [HN.out]; omega)
      rw [e] at hS
      clear e
      have hK1 := hK.below hb hK.lt
      have hall := all24
      go_wp2_with (first
        | (go_at_call 24; refine (CS.out wr r hK1 hS).mono ?_; rintro e w2 ⟨rfl, hb2⟩; have d4 := b4.below hb2 b4.lt; have d5 := b5.below hb2 b5.lt)
        | (with_reducible refine at_st 26 ?_; refine st' 26 (.tmp 9) (.tmp 28) 32 size24 w2.heap.size 0 _ HO.out cs_one ((Blk.new w2 z24 26).there 0 32 (by decide)) rfl rfl ?_; intro w3 hw3
           have b9 : Blk w3 w2.heap.size (cs Z) 26 := by rw [hw3]; exact (Blk.new w2 z24 26).setsW _ (by rw [HO.out]; rfl)
           have hb3 : Below w2.heap.size w2 w3 := by rw [hw3]; exact below_sets (Nat.le_refl _) _ (below_alloc _ _) 0
           clear hw3))
      simp only [Act.put]
      have hb3' : Below w.heap.size w w3 := (hb.trans (hb2.mono hb.size)).trans (hb3.mono (Nat.le_trans hb.size hb2.size))
      have x4 := d4.below hb3 d4.lt
      have x5 := d5.below hb3 d5.lt
      have hrest : w3.rangeAt g5 0 (cs B) := x5.whole
      have hu := Tryd.underlying41
      have hi : (Tryd.prog.info? 41).map (·.size) = some (cs B).length := by rw [size48, HCB.out]
      have hl := HCB.out
      have hi2 : (Tryd.prog.info? 26).map (·.size) = some (cs V).length := by rw [size24, HV.out]
      have hl2 := HV.out
      have h1 : ∀ v ∈ cs V, v.oneCell' = true := cs_one
      have CO' := CO
      generalize hg9 : w2.heap.size = g9 at *
      clear hg9 d4 d5 b4 b5 hb2 hb3 hS CS hb hK1
      go_region_held3 (fun w' => w'.rangeAt g5 0 (cs B)) (first | assumption | exact r6 | exact (y5.old _).whole | exact r7 | exact r8 | go_keep)
        (first
          | (go_at_call 23; refine (C2.out _).mono ?_; rintro e w5 ⟨rfl, hB5, hb5⟩; have y4 := x4.dr.below hb5 x4.lt; have y5 := x5.dr.below hb5 x5.lt; have y9 := b9.dr.below hb5 b9.lt; have q5 := hb3'.drew.trans (hb5.mono hb3'.size); have r6 := y5.whole; have hB5' : Bs w5 (some ⟨w3.heap.size, 0, none⟩) 64 64 Y := hB5; have hB9 : Bs w5 (some ⟨g9, 0, none⟩) 32 32 Z := blk32 y9 HZ.out)
          | (go_at_call 25; go_must (refine (CO.out w5 _ _ _ _ _ _ (hK.below q5 hK.lt) hB5' hB9).mono ?_); rintro e w7 ⟨rfl, hb7⟩; have z4 := y4.below hb7 y4.lt; have z5 := y5.below hb7 y5.lt; have q7 := q5.trans (hb7.mono q5.size); have r7 := z5.whole; have r8 := (Blk.setsO (show g5 ≠ w.heap.size by omega) (cs V) z5 0).whole; have t4 := z4.there 0 32 (by rw [cs_length]; decide)))
      go_wp2_with fail
      have z6 := z4.setsW (cs V) (by rw [HV.out]; rfl)
      exact bodyPost_ret (v := .agg (cs V).toArray) (res_blk Tryd.results9 _ _ w.heap.size _ _ _ rfl z6 Tryd.underlying26 32 HV.out size24) rfl ⟨rfl, below_sets (Nat.le_refl _) _ q7 0⟩

end Go.Proofs.YtpmdjailpdajkaaDoor
