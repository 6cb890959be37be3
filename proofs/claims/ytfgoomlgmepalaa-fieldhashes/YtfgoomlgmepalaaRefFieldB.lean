/-
  The contract of layer 5's reference's Times. No condition but that both are rows of 128 bits.
-/
import Derived.Test.YtfgoomlgmepalaaRefFieldA
import Derived.Deep.DeepCutAuto
import Derived.Deep.RegionHeld3
namespace Go.Proofs.Ytfgoomlgmepalaa
open Go.RowKit

theorem lin_yes {a : Fe} {f : Nat → Fe} {i : Nat} (h : a.getLsbD i = true) : lin a f (i + 1) = lin a f i ^^^ f i := by rw [lin, if_pos h]
theorem lin_no {a : Fe} {f : Nat → Fe} {i : Nat} (h : a.getLsbD i = false) : lin a f (i + 1) = lin a f i := by rw [lin, h]; simp
theorem rep_length : (List.replicate 128 false).length = 128 := List.length_replicate ..
set_option maxRecDepth 100000 in
theorem fb_zero : fb 0 = List.replicate 128 false := by decide +kernel
theorem up_start (x : Fe) : overB (fb (x <<< 1)) (List.replicate 128 false) 1 = List.replicate 128 false := by
  have h := overB_set (L := fb (x <<< 1)) (a := List.replicate 128 false) (by rw [fb_length, rep_length]) (k := 0) (by rw [rep_length]; omega)
  rw [← h, overB_zero, fb_up_at x (by omega)]
  simp
theorem up_end (x : Fe) : overB (fb (x <<< 1)) (List.replicate 128 false) 128 = fb (x <<< 1) := by
  have h := overB_end (L := fb (x <<< 1)) (a := List.replicate 128 false) (by rw [fb_length, rep_length])
  rw [rep_length] at h
  exact h
theorem tx_lo {x : Fe} (h : x.getLsbD 127 = false) : tx x = x <<< 1 := by unfold tx; rw [h]; simp
theorem bit87 (j : Nat) : (0x87 : Fe).getLsbD j = (decide (j = 0) || decide (j = 1) || decide (j = 2) || decide (j = 7)) := by
  by_cases h : j < 128
  · have : ∀ i : Fin 128, (0x87 : Fe).getLsbD i.val = (decide (i.val = 0) || decide (i.val = 1) || decide (i.val = 2) || decide (i.val = 7)) := by decide +kernel
    exact this ⟨j, h⟩
  · rw [BitVec.getLsbD_of_ge _ _ (by omega)]
    have h0 : ¬ j = 0 := by omega
    have h1 : ¬ j = 1 := by omega
    have h2 : ¬ j = 2 := by omega
    have h7 : ¬ j = 7 := by omega
    simp [h0, h1, h2, h7]
/-- Four bits turned. -/
theorem tx_hi {x : Fe} (h : x.getLsbD 127 = true) : fb (tx x) = ((((fb (x <<< 1)).set 0 (!(x <<< 1).getLsbD 0)).set 1 (!(x <<< 1).getLsbD 1)).set 2 (!(x <<< 1).getLsbD 2)).set 7 (!(x <<< 1).getLsbD 7) := by
  have e : tx x = (x <<< 1) ^^^ 0x87 := by unfold tx; rw [h]; rfl
  rw [e]
  generalize x <<< 1 = y
  apply List.ext_getElem
  · simp [fb]
  · intro i h1 h2
    rw [fb_length] at h1
    simp only [fb, List.getElem_map, List.getElem_range, List.getElem_set, BitVec.getLsbD_xor, bit87]
    by_cases h7 : i = 7
    · subst h7; simp
    · by_cases h2' : i = 2
      · subst h2'; simp
      · by_cases h1' : i = 1
        · subst h1'; simp
        · by_cases h0 : i = 0
          · subst h0; simp
          · have a7 : ¬ 7 = i := by omega
            have a2 : ¬ 2 = i := by omega
            have a1 : ¬ 1 = i := by omega
            have a0 : ¬ 0 = i := by omega
            simp [h7, h2', h1', h0, a7, a2, a1, a0]

set_option maxRecDepth 100000 in
set_option maxHeartbeats 4000000 in
theorem rTimesF (w : World) {pa pb : Option Addr} {ca cb : Nat} {a b : Fe} (ha : Bo w pa 128 ca (fb a)) (hb : Bo w pb 128 cb (fb b)) :
    Calls Try.prog 9 #[.slice pa 128 ca, .slice pb 128 cb] w (GivesB w (fb (fmul a b))) := by
  obtain ⟨ba, oa, rfl, hal, hca⟩ := ha.at (by omega)
  obtain ⟨bb, ob, rfl, hbl, hcb⟩ := hb.at (by omega)
  clear hcb
  go_enter Try.func9, Try.ntmps9
  go_wp2_with (first
    | (at_make; go_must (refine wpList_bmk w rfl _ _ rfl 128 _ rfl rfl rfl (by omega) ?_); intro g w1 hg bG hb1; have hbo1 := hb.below hb1 (Nat.le_refl _))
    | (at_builtin; go_must (refine wpList_bapp w1 rfl (.tmp 13) (.tmp 14) rfl w1.heap.size (.slice none 0 0) [] rfl (OwnB.nil _ _) ⟨bb, ob, none⟩ 128 cb (fb b) rfl hbo1 (by rw [fb_length]; simp) (Nat.le_refl _) ?_); intro vx w2 hox hb2))
  rw [List.nil_append] at hox
  obtain ⟨px, cx, rfl, hBx, hxb⟩ := hox.bo
  rw [fb_length] at hBx ⊢
  have bG2 := bG.below hb2 bG.lt
  have q2 := hb1.trans (hb2.mono hb1.size)
  have hgl := bG.lt
  have hne : ∀ y, px = some y → y.block ≠ g := fun y hy => by have := hxb y hy; omega
  rw [← fb_zero] at bG2
  clear hox hxb bG hb1 hb2 hbo1 hb
  go_loopw [6, 7, 8, 9, 10, 11] (fun v i _ _ _ _ wr => ∃ (k : Nat) (px : Option Addr) (cx : Nat), k ≤ 128 ∧ i = .int .i64 k ∧ v = .slice px 128 cx ∧ Bo wr px 128 cx (fb (txN b k)) ∧ (∀ y, px = some y → y.block ≠ g) ∧ Blk wr g (bo (fb (lin a (txN b) k))) 4 ∧ Below w.heap.size w wr) (fun _ i _ _ _ _ _ => 128 - (intOf i).toNat)
  case atStart => exact ⟨0, px, cx, by omega, rfl, rfl, hBx, hne, bG2, q2⟩
  case round =>
    clear hBx hne bG2 q2
    obtain ⟨i, px, cx, hi, rfl, rfl, hBx, hne, bG, hbw⟩ := hrel
    rename World => wo
    by_cases hlt : i < 128
    · have i0 : (0 : Int) ≤ (i : Int) := by omega
      have i8 : (i : Int) < 128 := by omega
      have c1 : wo.cell? ⟨ba, oa + i, none⟩ = some (.bool (a.getLsbD i)) := by rw [hbw.cell (p := ⟨ba, oa + i, none⟩) hal, hca i hlt, fb_at a hlt]
      generalize hai : a.getLsbD i = ai at c1
      have HAI : Hid (a.getLsbD i = ai) := hai
      clear hai
      obtain ⟨x, hx⟩ : ∃ x, x = txN b i := ⟨_, rfl⟩
      obtain ⟨s, hs⟩ : ∃ s, s = lin a (txN b) i := ⟨_, rfl⟩
      have HX : Hid (x = txN b i) := hx
      have HS : Hid (s = lin a (txN b) i) := hs
      rw [← hx] at hBx
      rw [← hs] at bG
      clear hx hs
      obtain ⟨s', hs'⟩ : ∃ s', s' = lin a (txN b) (i + 1) := ⟨_, rfl⟩
      have HS' : Hid (s' = lin a (txN b) (i + 1)) := hs'
      clear hs'
      go_upto_if 23 with fail
      go_cut [8] (fun _ wx => Bo wx px 128 cx (fb x) ∧ Blk wx g (bo (fb s')) 4 ∧ Below w.heap.size w wx ∧ wo.heap.size ≤ wx.heap.size)
      case first =>
        cases ai with
        | false =>
          have HE : Hid (s' = s) := by show _ = _; rw [HS'.out, HS.out]; exact lin_no HAI.out
          go_wp2_with fail
          go_meet
          case rel => exact ⟨hBx, by rw [HE.out]; exact bG, hbw, Nat.le_refl _⟩
        | true =>
          have HE : Hid (s' = s ^^^ x) := by show _ = _; rw [HS'.out, HS.out, HX.out]; exact lin_yes HAI.out
          obtain ⟨bx, ox, rfl, hxl, hcx⟩ := hBx.at (by omega)
          have hbxg : ¬ bx = g := hne _ rfl
          have hbxg' : ¬ g = bx := fun e => hbxg e.symm
          go_wp2_with fail
          go_loopw [8] (fun kk wr => ∃ k : Nat, k ≤ 128 ∧ kk = .int .i64 k ∧ Bo wr (some ⟨bx, ox, none⟩) 128 cx (fb x) ∧ Blk wr g (bo (overB (fb s') (fb s) k)) 4 ∧ Below w.heap.size w wr ∧ wo.heap.size ≤ wr.heap.size) (fun kk _ => 128 - (intOf kk).toNat)
          case atStart => exact ⟨0, by omega, rfl, hBx, by rw [overB_zero]; exact bG, hbw, Nat.le_refl _⟩
          case round =>
            obtain ⟨k, hk, rfl, hB, bK, hbk, hsz⟩ := hrel
            by_cases hkl : k < 128
            · have k0 : (0 : Int) ≤ (k : Int) := by omega
              have k8 : (k : Int) < 128 := by omega
              have hll : (fb s').length = (fb s).length := by rw [fb_length, fb_length]
              obtain ⟨_, _, ex, _, hcc⟩ := hB.at (by omega)
              simp only [Option.some.injEq, Addr.mk.injEq, and_true] at ex
              obtain ⟨rfl, rfl⟩ := ex
              have d1 := hcc k hkl
              rw [fb_at x hkl] at d1
              have d2 := bK.atB (k := k) (by rw [overB_length hll, fb_length]; exact hkl)
              rw [overB_at hll (by rw [fb_length]; omega) (Nat.le_refl _), fb_at s hkl] at d2
              have f2 := bK.free k
              have bN := bK.setB k ((fb s').getD k false)
              rw [overB_set hll (by rw [fb_length]; exact hkl), HE.out, fb_xor_at s x hkl, ← HE.out] at bN
              generalize s.getLsbD k = sk at d2 bN
              generalize x.getLsbD k = xk at d1 bN
              have BN : Hid _ := bN
              clear bN hcc
              go_wp2_with fail
              go_region
              go_wp2_with fail
              go_roundw
              case rel => exact ⟨k + 1, by omega, by go_num, (hB.setO (p := ⟨g, k, none⟩) hne _).dr, BN.out, (hbk.setCell (by simp; omega) _).drew, by simpa using hsz⟩
              case measure => simp [intOf]; omega
            · obtain rfl : k = 128 := by omega
              rw [show (128 : Nat) = (fb s).length from (fb_length s).symm, overB_end (by rw [fb_length, fb_length])] at bK
              go_wp2_with fail
              go_meet
              case rel => exact ⟨hB, bK, hbk, hsz⟩
      case rest =>
        clear hBx bG hbw c1
        obtain ⟨hBx, bG, hbw, hsz⟩ := hcut
        have HT : Hid (txN b (i + 1) = tx x) := by show _ = _; rw [HX.out]; rfl
        obtain ⟨bx, ox, rfl, hxl, hcx⟩ := hBx.at (by omega)
        have hbxg : ¬ bx = g := hne _ rfl
        have c127 := hcx 127 (by omega)
        rw [fb_at x (by omega)] at c127
        obtain ⟨last, hlast⟩ : ∃ z, z = x.getLsbD 127 := ⟨_, rfl⟩
        rw [← hlast] at c127
        have HLA : Hid (x.getLsbD 127 = last) := hlast.symm
        clear hlast hcx
        have hgw := bG.lt
        go_wp2_with (at_make; go_must (refine wpList_bmk wc rfl _ _ rfl 128 _ rfl rfl rfl (by omega) ?_); intro gn w3 hgn bN hb3)
        have bG3 := bG.below hb3 hgw
        have hB3 := hBx.below hb3 (Nat.le_refl _)
        have q3 := hbw.trans (hb3.mono hbw.size)
        have hgng : ¬ gn = g := by omega
        have hgng' : ¬ g = gn := by omega
        have hgnx : ¬ bx = gn := by omega
        have hgnw : w.heap.size ≤ gn := Nat.le_trans hbw.size hgn
        clear bG hBx hbw hb3 c127
        go_loopw [11] (fun kk wr => ∃ k : Nat, 1 ≤ k ∧ k ≤ 128 ∧ kk = .int .i64 k ∧ Bo wr (some ⟨bx, ox, none⟩) 128 cx (fb x) ∧ Blk wr g (bo (fb s')) 4 ∧ Blk wr gn (bo (overB (fb (x <<< 1)) (List.replicate 128 false) k)) 4 ∧ Below w.heap.size w wr) (fun kk _ => 128 - (intOf kk).toNat)
        case atStart => exact ⟨1, by omega, by omega, rfl, hB3, bG3, by rw [up_start]; exact bN, q3⟩
        case round =>
          clear hB3 bG3 bN q3
          obtain ⟨k, hk1, hk, rfl, hB, bG, bN, hbk⟩ := hrel
          have hll : (fb (x <<< 1)).length = (List.replicate 128 false).length := by rw [fb_length, rep_length]
          by_cases hkl : k < 128
          · have k0 : (0 : Int) ≤ (k : Int) := by omega
            have k1 : (1 : Int) ≤ (k : Int) := by omega
            have k8 : (k : Int) < 128 := by omega
            obtain ⟨_, _, ex, _, hcc⟩ := hB.at (by omega)
            simp only [Option.some.injEq, Addr.mk.injEq, and_true] at ex
            obtain ⟨rfl, rfl⟩ := ex
            have d1 := hcc (k - 1) (by omega)
            rw [fb_at x (by omega)] at d1
            have d2 := bN.atB (k := k) (by rw [overB_length hll, rep_length]; exact hkl)
            have f2 := bN.free k
            have bM := bN.setB k ((fb (x <<< 1)).getD k false)
            rw [overB_set hll (by rw [rep_length]; exact hkl), fb_up_at x hkl, decide_eq_true (show 0 < k by omega), Bool.true_and] at bM
            generalize x.getLsbD (k - 1) = xk at d1 bM
            have BM : Hid _ := bM
            clear bM hcc
            go_wp2_with fail
            go_roundw
            case rel => exact ⟨k + 1, by omega, by omega, by go_num, hB.setO (p := ⟨gn, k, none⟩) (fun y hy => by simp only [Option.some.injEq] at hy; subst hy; exact hgnx) _, bG.setO (by simpa using hgng') _, BM.out, hbk.setCell (by simpa using hgnw) _⟩
            case measure => simp [intOf]; omega
          · obtain rfl : k = 128 := by omega
            rw [up_end] at bN
            have n0 := bN.atB (k := 0) (by rw [fb_length]; omega)
            have n1 := bN.atB (k := 1) (by rw [fb_length]; omega)
            have n2 := bN.atB (k := 2) (by rw [fb_length]; omega)
            have n7 := bN.atB (k := 7) (by rw [fb_length]; omega)
            rw [fb_at _ (by omega)] at n0 n1 n2 n7
            have f0 := bN.free 0
            have f1 := bN.free 1
            have f2 := bN.free 2
            have f7 := bN.free 7
            cases last with
            | false =>
              have HE : Hid (tx x = x <<< 1) := tx_lo HLA.out
              go_wp2_with fail
              go_roundw
              case rel =>
                have hB2 := bN.bo (by rw [fb_length]; omega)
                rw [fb_length] at hB2
                exact ⟨i + 1, some ⟨gn, 0, none⟩, 128, by omega, by go_num, rfl, by rw [HT.out, HE.out]; exact hB2, fun y hy => by simp only [Option.some.injEq] at hy; subst hy; exact hgng, by rw [← HS'.out]; exact bG, hbk⟩
              case measure => simp [intOf]; omega
            | true =>
              have HE : Hid (fb (tx x) = _) := tx_hi HLA.out
              have bM := (((bN.setB 0 (!(x <<< 1).getLsbD 0)).setB 1 (!(x <<< 1).getLsbD 1)).setB 2 (!(x <<< 1).getLsbD 2)).setB 7 (!(x <<< 1).getLsbD 7)
              rw [← HE.out] at bM
              generalize (x <<< 1).getLsbD 0 = z0 at n0 bM
              generalize (x <<< 1).getLsbD 1 = z1 at n1 bM
              generalize (x <<< 1).getLsbD 2 = z2 at n2 bM
              generalize (x <<< 1).getLsbD 7 = z7 at n7 bM
              have BM : Hid _ := bM
              clear bM HE
              go_wp2_with fail
              go_roundw
              case rel =>
                have hB2 := Blk.bo BM.out (by rw [fb_length]; omega)
                rw [fb_length] at hB2
                exact ⟨i + 1, some ⟨gn, 0, none⟩, 128, by omega, by go_num, rfl, by rw [HT.out]; exact hB2, fun y hy => by simp only [Option.some.injEq] at hy; subst hy; exact hgng, by rw [← HS'.out]; exact (((bG.setO (by simpa using hgng') _).setO (by simpa using hgng') _).setO (by simpa using hgng') _).setO (by simpa using hgng') _, (((hbk.setCell (by simpa using hgnw) _).setCell (by simpa using hgnw) _).setCell (by simpa using hgnw) _).setCell (by simpa using hgnw) _⟩
              case measure => simp [intOf]; omega
    · obtain rfl : i = 128 := by omega
      go_wp2_with fail
      go_ret
      have := bG.bo (by rw [fb_length]; omega)
      exact ⟨_, _, rfl, this, fun y hy => by simp only [Option.some.injEq] at hy; subst hy; exact hg, hbw⟩

end Go.Proofs.Ytfgoomlgmepalaa
