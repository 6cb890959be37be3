/-
  The contract of layer 5's reference's Hash. Condition: rows of 128 bits; at most 1000 bytes.
-/
import Derived.Test.YtfgoomlgmepalaaRefFieldC
namespace Go.Proofs.Ytfgoomlgmepalaa
open Go.RowKit

/-- Behind so many blocks of sixteen bytes. -/
def hsh (h f : Fe) (l : List UInt8) : Nat → Fe
  | 0 => f
  | k + 1 => fmul (hsh h f l k ^^^ feB ((l.drop (16 * k)).take 16)) h
/-- All blocks. -/
def hashF (h f : Fe) (l : List UInt8) : Fe := hsh h f l ((l.length + 15) / 16)
/-- What a call that hands back bools leaves. -/
def HasB (w : World) (l : List Bool) (e : Ending) (w' : World) : Prop := ∃ a c, e = .returned (.slice a l.length c) ∧ Bo w' a l.length c l ∧ Below w.heap.size w w'
theorem take16 (l : List UInt8) {j t n : Nat} (hl : l.length = n) (ht : t = min (j + 16) n) : (l.drop j).take (t - j) = (l.drop j).take 16 := by
  by_cases h : j + 16 ≤ n
  · rw [show t - j = 16 from by omega]
  · rw [List.take_of_length_le (by rw [List.length_drop, hl]; omega), List.take_of_length_le (by rw [List.length_drop, hl]; omega)]

set_option maxRecDepth 100000 in
set_option maxHeartbeats 4000000 in
theorem rHash (w : World) {ph pf pb : Option Addr} {ch cf cb n : Nat} {h f : Fe} {l : List UInt8} (hh : Bo w ph 128 ch (fb h)) (hf : Bo w pf 128 cf (fb f)) (hb : Bs w pb n cb l) (hn : n ≤ 1000) :
    Calls Try.prog 20 #[.slice ph 128 ch, .slice pf 128 cf, .slice pb n cb] w (HasB w (fb (hashF h f l))) := by
  have HL : Hid (l.length = n) := hb.len
  go_enter Try.func20, Try.ntmps20
  go_wp2_with fail
  go_loopw [7, 8, 9, 10, 11, 12] (fun v i _ _ _ _ wr => ∃ (k j : Nat) (py : Option Addr) (cy : Nat), j = 16 * k ∧ j < n + 16 ∧ i = .int .i64 (j : Int) ∧ v = .slice py 128 cy ∧ Bo wr py 128 cy (fb (hsh h f l k)) ∧ Below w.heap.size w wr) (fun _ i _ _ _ _ _ => n + 16 - (intOf i).toNat)
  case atStart => exact ⟨0, 0, pf, cf, rfl, by omega, rfl, rfl, hf, Below.refl _ _⟩
  case round =>
    obtain ⟨k, j, py, cy, hj, hjn, rfl, rfl, hBy, hbw⟩ := hrel
    rename World => wo
    have HJ : Hid (j = 16 * k) := hj
    clear hj
    by_cases hlt : j < n
    · have j0 : (0 : Int) ≤ (j : Int) := by omega
      have j1 : (j : Int) < (n : Int) := by omega
      have jn : (n : Int) ≤ 1000 := by omega
      obtain ⟨t, ht⟩ : ∃ t, t = min (j + 16) n := ⟨_, rfl⟩
      have ht1 : j ≤ t := by omega
      have ht2 : t ≤ n := by omega
      have ht3 : t - j ≤ 16 := by omega
      obtain ⟨p, q, hcut2, hB2⟩ := hb.cut2 j t ht1 ht2
      have HE := take16 l (j := j) HL.out ht
      obtain ⟨y, hy⟩ : ∃ y, y = hsh h f l k := ⟨_, rfl⟩
      rw [← hy] at hBy
      have HN : Hid (hsh h f l (k + 1) = fmul (y ^^^ feB ((l.drop j).take 16)) h) := by show _ = _; rw [hy, HJ.out]; rfl
      have HTT : Hid (t = min (j + 16) n) := ht
      clear hy ht
      go_upto_if 25 with fail
      go_cut [9] (fun v wx => v = .int .i64 (t : Int) ∧ wx = wo)
      case first =>
        by_cases hbig : (j : Int) + 16 ≤ (n : Int)
        · have e : Hid ((j : Int) + 16 = (t : Int)) := by show _ = _; have := HTT.out; omega
          go_wp2_with fail
          go_meet
          case rel => exact ⟨by rw [e.out], rfl⟩
        · have e : Hid ((n : Int) = (t : Int)) := by show _ = _; have := HTT.out; omega
          go_wp2_with fail
          go_meet
          case rel => exact ⟨by rw [e.out], rfl⟩
      case rest =>
        obtain ⟨rfl, rfl⟩ := hcut
        have hB3 := hB2 wc (hb.below hbw (Nat.le_refl _))
        rw [HE] at hB3
        have tj0 : (j : Int) ≤ (t : Int) := by omega
        have tn : (t : Int) ≤ (n : Int) := by omega
        clear hB2 HE
        generalize (l.drop j).take 16 = X at *
        obtain ⟨u, hu⟩ : ∃ u, u = t - j := ⟨_, rfl⟩
        rw [← hu] at hcut2 hB3 ht3
        clear hu
        go_wp2_with fail
        refine (rBits wc hB3 ht3).mono ?_
        rintro e w1 ⟨ax, cx, rfl, hBx, hxn, hb1⟩
        rw [fb_length] at hBx ⊢
        have q1 := hbw.trans (hb1.mono hbw.size)
        have hBy1 := hBy.below hb1 (Nat.le_refl _)
        generalize feB X = x at *
        go_wp2_with (at_make; go_must (refine wpList_bmk w1 rfl _ _ rfl 128 _ rfl rfl rfl (by omega) ?_); intro g w2 hg bG hb2)
        have q2 := q1.trans (hb2.mono q1.size)
        have hBy2 := hBy1.below hb2 (Nat.le_refl _)
        have hBx2 := hBx.below hb2 (Nat.le_refl _)
        obtain ⟨by', oy, rfl, hyl, _⟩ := hBy1.at (by omega)
        obtain ⟨bx, ox, rfl, hxl, _⟩ := hBx.at (by omega)
        have hyg : ¬ by' = g := by omega
        have hxg : ¬ bx = g := by omega
        have hyg' : ¬ g = by' := by omega
        have hxg' : ¬ g = bx := by omega
        have hgw : w.heap.size ≤ g := Nat.le_trans q1.size hg
        clear hBy hBy1 hBx hb1 hb2 hbw q1 hB3
        go_loopw [12] (fun kk wr => ∃ k : Nat, k ≤ 128 ∧ kk = .int .i64 k ∧ Bo wr (some ⟨by', oy, none⟩) 128 cy (fb y) ∧ Bo wr (some ⟨bx, ox, none⟩) 128 cx (fb x) ∧ Blk wr g (bo (overB (fb (y ^^^ x)) (List.replicate 128 false) k)) 4 ∧ Below w.heap.size w wr) (fun kk _ => 128 - (intOf kk).toNat)
        case atStart => exact ⟨0, by omega, rfl, hBy2, hBx2, by rw [overB_zero]; exact bG, q2⟩
        case round =>
          clear hBy2 hBx2 bG q2
          obtain ⟨i, hi, rfl, hBy, hBx, bG, hbk⟩ := hrel
          have hll : (fb (y ^^^ x)).length = (List.replicate 128 false).length := by rw [fb_length, rep_length]
          by_cases hil : i < 128
          · have i0 : (0 : Int) ≤ (i : Int) := by omega
            have i8 : (i : Int) < 128 := by omega
            obtain ⟨_, _, ex, _, hcy⟩ := hBy.at (by omega)
            simp only [Option.some.injEq, Addr.mk.injEq, and_true] at ex
            obtain ⟨rfl, rfl⟩ := ex
            obtain ⟨_, _, ex, _, hcx⟩ := hBx.at (by omega)
            simp only [Option.some.injEq, Addr.mk.injEq, and_true] at ex
            obtain ⟨rfl, rfl⟩ := ex
            have d1 := hcy i hil
            have d2 := hcx i hil
            rw [fb_at _ hil] at d1 d2
            have d3 := bG.atB (k := i) (by rw [overB_length hll, rep_length]; exact hil)
            have f3 := bG.free i
            have bN := bG.setB i ((fb (y ^^^ x)).getD i false)
            rw [overB_set hll (by rw [rep_length]; exact hil), fb_xor_at y x hil] at bN
            generalize y.getLsbD i = yi at d1 bN
            generalize x.getLsbD i = xi at d2 bN
            have BN : Hid _ := bN
            clear bN hcx hcy
            go_wp2_with fail
            go_region
            go_wp2_with fail
            go_roundw
            case rel => exact ⟨i + 1, by omega, by go_num, (hBy.setO (p := ⟨g, i, none⟩) (fun z hz => by simp only [Option.some.injEq] at hz; subst hz; exact hyg) _).dr, (hBx.setO (p := ⟨g, i, none⟩) (fun z hz => by simp only [Option.some.injEq] at hz; subst hz; exact hxg) _).dr, BN.out, (hbk.setCell (by simpa using hgw) _).drew⟩
            case measure => simp [intOf]; omega
          · obtain rfl : i = 128 := by omega
            have hend := overB_end hll
            rw [rep_length] at hend
            rw [hend] at bG
            have hBz := bG.bo (by rw [fb_length]; omega)
            rw [fb_length] at hBz
            go_wp2_with fail
            refine (rTimesF wr hBz (hh.below hbk (Nat.le_refl _))).mono ?_
            rintro e w5 ⟨a5, c5, rfl, hB5, _, hb5⟩
            rw [fb_length] at hB5 ⊢
            rw [← HN.out] at hB5
            have q5 := hbk.trans (hb5.mono hbk.size)
            go_wp2_with fail
            go_roundw
            case rel => exact ⟨k + 1, j + 16, a5, c5, by have := HJ.out; omega, by omega, by go_num, rfl, hB5, q5⟩
            case measure => simp [intOf]; omega
    · have HN : Hid (hashF h f l = hsh h f l k) := by
        show _ = _
        unfold hashF
        rw [HL.out]
        congr 1
        have := HJ.out
        omega
      go_wp2_with fail
      go_ret
      refine ⟨py, cy, by rw [fb_length]; rfl, ?_, hbw⟩
      rw [fb_length, HN.out]
      exact hBy

end Go.Proofs.Ytfgoomlgmepalaa
