/-
  The contract of the reference's Sum. Condition: at most 100000 bytes.
-/
import Derived.Test.YtpmdjailpdajkaaDoorRefWords
import Derived.Test.YtpmdjailpdajkaaDoorRefPad
import Derived.Test.YtpmdjailpdajkaaDoorBytes
namespace Go.Proofs.YtpmdjailpdajkaaDoor
open Go.RowKit

theorem rRoundL (w : World) {ad : Option Addr} {cp : Nat} (v : List UInt32) (k x : UInt32) (hl : v.length = 8) (hv : Ws w ad 8 cp v) :
    Calls Tryd.prog 31 #[.slice ad 8 cp, .int .u32 (k.toNat : Int), .int .u32 (x.toNat : Int)] w fun e w' => ∃ a c, e = .returned (.slice a 8 c) ∧ Ws w' a 8 c (rnd v (k + x)) ∧ Below w.heap.size w w' := by
  obtain ⟨a, b, c, d, e, f, g, z, rfl⟩ := ws_len8 hl
  exact rRound w a b c d e f g z k x hv
theorem rWordsL (w : World) {a : Option Addr} {c : Nat} {b : List UInt8} (ha : Bs w a 64 c b) :
    Calls Tryd.prog 30 #[.slice a 64 c] w fun e w' => ∃ a c, e = .returned (.slice a 64 c) ∧ Ws w' a 64 c (schd b 64) ∧ Below w.heap.size w w' := by
  refine (rWords w ha).mono ?_
  rintro e w' ⟨a, c, rfl, hW, hb⟩
  rw [schd_length] at hW ⊢
  exact ⟨a, c, rfl, hW, hb⟩
theorem rConstL (w : World) : Calls Tryd.prog 28 #[] w fun e w' => ∃ a c, e = .returned (.slice a 64 c) ∧ Ws w' a 64 c sKs ∧ Below w.heap.size w w' := rConst w
theorem padL_length (l : List UInt8) : ∃ N, (padL l).length = 64 * N := by
  refine ⟨(padL l).length / 64, ?_⟩
  have : (padL l).length % 64 = 0 := by simp [padL, putL_length]; omega
  omega
theorem rPadL (w : World) {a : Option Addr} {n c : Nat} {l : List UInt8} (ha : Bs w a n c l) (hz : n ≤ 100000) (N : Nat) (hN : (padL l).length = 64 * N) :
    Calls Tryd.prog 29 #[.slice a n c] w fun e w' => ∃ a c, e = .returned (.slice a (64 * N) c) ∧ Bs w' a (64 * N) c (padL l) ∧ Below w.heap.size w w' := by
  refine (rPad w ha hz).mono ?_
  rintro e w' ⟨a, m, c, rfl, ho, hb⟩
  have hB := ho.toBs
  have e := hB.len
  rw [hN] at e
  subst e
  exact ⟨a, c, rfl, hB, hb⟩
theorem tks_len8 (m : List UInt8) (n : Nat) : (tks m n).length = 8 := by
  induction n with
  | zero => rfl
  | succ n ih =>
    rw [tks]
    exact add8_length ih (by rw [rnds_length, ih])
theorem wtk_snoc {l : List UInt32} {k : Nat} (h : k < l.length) : l.take (k + 1) = l.take k ++ [l.getD k 0] := wtake_snoc h
theorem add8_get {h v : List UInt32} {k : Nat} (hh : h.length = 8) (hv : v.length = 8) (hk : k < 8) : (add8 h v).getD k 0 = h.getD k 0 + v.getD k 0 := by
  unfold add8
  simp [List.getD_eq_getElem?_getD, hh, hv, hk]

set_option maxRecDepth 100000 in
set_option maxHeartbeats 4000000 in
theorem rSum (w : World) {a : Option Addr} {n c : Nat} {l : List UInt8} (ha : Bs w a n c l) (hz : n ≤ 100000) :
    Calls Tryd.prog 18 #[.slice a n c] w (Gives w (sumL l)) := by
  obtain ⟨N, hN⟩ := padL_length l
  have hNs : N ≤ 2000 := by
    have e : (padL l).length ≤ l.length + 73 := by simp [padL, putL_length]; omega
    have := ha.len
    omega
  have HSUM : Hid (sumL l = outL (tks (padL l) N)) := by
    show _ = _
    unfold sumL
    rw [hN, Nat.mul_div_cancel_left _ (by omega)]
  have CPad : Hid (∀ w, Bs w a n c l → Calls Tryd.prog 29 #[.slice a n c] w fun e w' => ∃ a c, e = .returned (.slice a (64 * N) c) ∧ Bs w' a (64 * N) c (padL l) ∧ Below w.heap.size w w') := fun w h => rPadL w h hz N hN
  have HN : Hid ((padL l).length = 64 * N) := hN
  clear hN
  go_enter Tryd.func18, Tryd.ntmps18
  go_wp2_with (first
    | (go_at_call 28; refine (rConstL _).mono ?_; rintro e w1 ⟨ak, ck, rfl, hk1, hb1⟩; have hh1 := (Ws.made w sHs _ rfl (by decide)).below hb1 (Nat.le_refl _); have hbA := (below_alloc w _).trans (hb1.mono (by simp)))
    | (go_at_call 29; refine (CPad.out _ (ha.below hbA (Nat.le_refl _))).mono ?_; rintro e w2 ⟨ap, cp, rfl, hp2, hb2⟩; have hk2 := hk1.below hb2 (Nat.le_refl _); have hh2 := hh1.below hb2 (Nat.le_refl _); have hbB := hbA.trans (hb2.mono hbA.size)))
  have hh3 : Ws w2 (some ⟨w.heap.size, 0, none⟩) 8 8 (tks (padL l) 0) := hh2
  clear hk1 hh1 hh2 hb1 hb2 hbA
  obtain ⟨bk, ok, rfl, hkl, hkc⟩ := hk2.at (by omega)
  go_loopw [3, 6, 7, 8, 9, 10, 11] (fun h i _ _ _ _ _ wr => ∃ (q : Nat) (ah : Option Addr) (ch : Nat), q ≤ N ∧ i = .int .i64 (64 * (q : Int)) ∧ h = .slice ah 8 ch ∧ Ws wr ah 8 ch (tks (padL l) q) ∧ Below w2.heap.size w2 wr) (fun _ i _ _ _ _ _ _ => 64 * N - (intOf i).toNat)
  case atStart => exact ⟨0, _, _, by omega, rfl, rfl, hh3, Below.refl _ _⟩
  case round =>
    clear hh3
    rename World => wo
    obtain ⟨q, ah, ch, hq, rfl, rfl, hh, hb⟩ := hrel
    obtain ⟨bh, oh, rfl, hhl, hhc⟩ := hh.at (by omega)
    have HT : Hid ((tks (padL l) q).length = 8) := tks_len8 _ _
    by_cases hlt : q < N
    · obtain ⟨a4, c4, hcut, hB4⟩ := hp2.cut2 (64 * q) (64 * q + 64) (by omega) (by omega)
      have hB := hB4 wo (hp2.below hb (Nat.le_refl _))
      have e4 : 64 * q + 64 - 64 * q = 64 := by omega
      rw [e4] at hcut hB
      have hcut' : ∀ w, Sem.run Tryd.prog (Instr.slice 22 (.slice ap (64 * N) cp) (some (.int .i64 (64 * (q : Int)))) (some (.int .i64 (64 * (q : Int) + 64))) none) w = .ok (.slice a4 64 c4) w := fun w => by
        have := hcut w
        rw [show ((64 * q + 64 : Nat) : Int) = 64 * (q : Int) + 64 from by omega, show ((64 * q : Nat) : Int) = 64 * (q : Int) from by omega] at this
        exact this
      clear hcut hB4 e4
      have hB' : Bs wo a4 64 c4 (blk (padL l) q) := hB
      clear hB
      have i1 : (0 : Int) ≤ (q : Int) := by omega
      have i2 : (q : Int) < (N : Int) := by omega
      have i3 : (N : Int) ≤ 2000 := by omega
      have HQ : Hid (tks (padL l) (q + 1) = add8 (tks (padL l) q) (rnds (tks (padL l) q) (schd (blk (padL l) q) 64) 64)) := rfl
      generalize hH : tks (padL l) q = H at hh hhc HT HQ
      generalize hB0 : blk (padL l) q = B at hB' HQ
      clear hH hB0
      have hbs := hb.size
      go_wp2_with (first
        | (go_at_call 30; refine (rWordsL wo hB').mono ?_; rintro e w3 ⟨aw, cw, rfl, hw3, hb3⟩))
      obtain ⟨bw, ow, rfl, hwl, hwc⟩ := hw3.at (by omega)
      go_loopw [8, 9] (fun v j wx => ∃ (jn : Nat) (av : Option Addr) (cv : Nat), jn ≤ 64 ∧ j = .int .i64 jn ∧ v = .slice av 8 cv ∧ Ws wx av 8 cv (rnds H (schd B 64) jn) ∧ Below w3.heap.size w3 wx) (fun _ j _ => 64 - (intOf j).toNat)
      case atStart => exact ⟨0, _, _, by omega, rfl, rfl, hh.below hb3 (Nat.le_refl _), Below.refl _ _⟩
      case round =>
        rename World => wx
        obtain ⟨jn, av, cv, hj, rfl, rfl, hv, hbx⟩ := hrel
        obtain ⟨bv, ov, rfl, hvl, hvc⟩ := hv.at (by omega)
        by_cases hjl : jn < 64
        · have j1 : (0 : Int) ≤ (jn : Int) := by omega
          have j2 : (jn : Int) < 64 := by omega
          have s1 := hkc jn hjl
          have s2 := hwc jn hjl
          unfold wt at s1 s2
          obtain ⟨y, hy⟩ : ∃ x, sKs.getD jn 0 = x := ⟨_, rfl⟩
          obtain ⟨x, hx⟩ : ∃ x, (schd B 64).getD jn 0 = x := ⟨_, rfl⟩
          rw [hy] at s1
          rw [hx] at s2
          have HR : Hid (rnds H (schd B 64) (jn + 1) = rnd (rnds H (schd B 64) jn) (y + x)) := by show _ = _; rw [rnds, hx, hy]
          clear hy hx
          have HVL : Hid ((rnds H (schd B 64) jn).length = 8) := by show _ = _; rw [rnds_length]; exact HT.out
          have hs3 := hb3.size
          have k1 : wx.cell? ⟨bk, ok + jn, none⟩ = some (.int .u32 (y.toNat : Int)) := by
            rw [hbx.cell (p := ⟨bk, ok + jn, none⟩) (by simp; omega), hb3.cell (p := ⟨bk, ok + jn, none⟩) (by simp; omega), hb.cell (p := ⟨bk, ok + jn, none⟩) (by simpa using hkl)]
            exact s1
          have k2 : wx.cell? ⟨bw, ow + jn, none⟩ = some (.int .u32 (x.toNat : Int)) := by
            rw [hbx.cell (p := ⟨bw, ow + jn, none⟩) (by simpa using hwl)]
            exact s2
          have lx := lt_of_cell k1
          have lx2 := lt_of_cell k2
          clear s1 s2
          go_wp2_with fail
          go_region_held3 (fun w' => w'.cell? ⟨bk, ok + jn, none⟩ = some (.int .u32 (y.toNat : Int)) ∧ w'.cell? ⟨bw, ow + jn, none⟩ = some (.int .u32 (x.toNat : Int))) (first | (exact ⟨m1, m2⟩) | go_keep)
            (((go_at_call 31; refine (rRoundL _ _ y x HVL.out hv.drew).mono ?_; rintro e w5 ⟨a5, c5, rfl, hW5, hb5⟩; have m1 := (hb5.cell (p := ⟨bk, ok + jn, none⟩) lx).trans k1; have m2 := (hb5.cell (p := ⟨bw, ow + jn, none⟩) lx2).trans k2)))
          go_wp2_with fail
          go_roundw
          case rel => exact ⟨jn + 1, a5, c5, by omega, by go_num, rfl, by rw [HR.out]; exact hW5, hbx.drew.trans (hb5.mono hbx.size)⟩
          case measure => simp [intOf]; omega
        · have ej : jn = 64 := by omega
          rw [ej] at hv hvc
          have hhx := (hh.below hb3 (Nat.le_refl _)).below hbx (Nat.le_refl _)
          have HVL : Hid ((rnds H (schd B 64) 64).length = 8) := by show _ = _; rw [rnds_length]; exact HT.out
          generalize hV : rnds H (schd B 64) 64 = V at hv hvc HQ HVL
          clear hV ej
          have HA : Hid ((add8 H V).length = 8) := add8_length HT.out HVL.out
          have hb4 : Below w2.heap.size w2 wx := (hb.trans (hb3.mono hbs)).trans (hbx.mono (Nat.le_trans hbs hb3.size))
          obtain ⟨bh', oh', eh, hhl', hhc'⟩ := hhx.at (by omega)
          simp only [Option.some.injEq, Addr.mk.injEq] at eh
          obtain ⟨rfl, rfl, _⟩ := eh
          clear hwc hkc hk2 hp2 hcut' hB' hhc
          go_wp2_with fail
          go_loopw [10, 11] (fun nx j wy => ∃ jm : Nat, jm ≤ 8 ∧ j = .int .i64 jm ∧ Owd wy wx.heap.size nx ((add8 H V).take jm) ∧ Below wx.heap.size wx wy) (fun _ j _ => 8 - (intOf j).toNat)
          case atStart => exact ⟨0, by omega, rfl, Owd.nil _ _, Below.refl _ _⟩
          case round =>
            rename World => wy
            obtain ⟨jm, hjm, rfl, hon, hby⟩ := hrel
            have hsy := hby.size
            by_cases hjl2 : jm < 8
            · have j1 : (0 : Int) ≤ (jm : Int) := by omega
              have j2 : (jm : Int) < 8 := by omega
              have s1 := hhc' jm hjl2
              have s2 := hvc jm hjl2
              unfold wt at s1 s2
              obtain ⟨x, hx⟩ : ∃ x, H.getD jm 0 = x := ⟨_, rfl⟩
              obtain ⟨y, hy⟩ : ∃ x, V.getD jm 0 = x := ⟨_, rfl⟩
              have HS : Hid ((add8 H V).take jm ++ [x + y] = (add8 H V).take (jm + 1)) := by
                show _ = _
                rw [wtk_snoc (by rw [HA.out]; exact hjl2), add8_get HT.out HVL.out hjl2, hx, hy]
              rw [hx] at s1
              rw [hy] at s2
              clear hx hy
              have lx := lt_of_cell s1
              have lx2 := lt_of_cell s2
              have k1 := (hby.cell (p := ⟨bh, oh + jm, none⟩) lx).trans s1
              have k2 := (hby.cell (p := ⟨bv, ov + jm, none⟩) lx2).trans s2
              have ly := lt_of_cell k1
              have ly2 := lt_of_cell k2
              clear s1 s2
              have hv0 : IntKind.u32.wrap ((x.toNat : Int) + (y.toNat : Int)) = ((x + y).toNat : Int) := w_add x y
              have b1 : 0 ≤ IntKind.u32.wrap ((x.toNat : Int) + (y.toNat : Int)) := by rw [hv0]; omega
              have b2 : IntKind.u32.wrap ((x.toNat : Int) + (y.toNat : Int)) ≤ 4294967295 := by rw [hv0]; have := w_lt (x + y); omega
              have HE : Hid ((add8 H V).take jm ++ [UInt32.ofNat (IntKind.u32.wrap ((x.toNat : Int) + (y.toNat : Int))).toNat] = (add8 H V).take (jm + 1)) := by
                show _ = _
                rw [hv0, one_of, HS.out]
              clear hv0 HS
              have hrm : ((add8 H V).take jm).length + [UInt32.ofNat (IntKind.u32.wrap ((x.toNat : Int) + (y.toNat : Int))).toNat].length ≤ 1000000000 := by rw [List.length_take, HA.out]; simp; omega
              go_wp2_with fail
              go_region_held3 (fun w' => w'.cell? ⟨bh, oh + jm, none⟩ = some (.int .u32 (x.toNat : Int)) ∧ w'.cell? ⟨bv, ov + jm, none⟩ = some (.int .u32 (y.toNat : Int))) (first | (exact ⟨m1, m2⟩) | (exact ⟨((below_alloc wy _).drew.cell (p := ⟨bh, oh + jm, none⟩) ly).trans k1, ((below_alloc wy _).drew.cell (p := ⟨bv, ov + jm, none⟩) ly2).trans k2⟩) | go_keep)
                ((refine step_wapp (by rfl) (.tmp 49) (.tmp 59) (by rfl) wx.heap.size _ _ (by rfl) (hon.below (below_alloc wy _).drew (Nat.le_refl _)) _ 1 1 [UInt32.ofNat (IntKind.u32.wrap ((x.toNat : Int) + (y.toNat : Int))).toNat] (by rfl) (Ws.one _ _ b1 b2).drew hrm (by simp; omega) ?_; intro v2 w6 ho6 hb6; have m1 := (hb6.cell (p := ⟨bh, oh + jm, none⟩) lx).trans (((below_alloc wy _).drew.cell (p := ⟨bh, oh + jm, none⟩) ly).trans k1); have m2 := (hb6.cell (p := ⟨bv, ov + jm, none⟩) lx2).trans (((below_alloc wy _).drew.cell (p := ⟨bv, ov + jm, none⟩) ly2).trans k2)))
              go_wp2_with fail
              go_roundw
              case rel => exact ⟨jm + 1, by omega, by go_num, by rw [← HE.out]; exact ho6, (hby.alloc hsy _).drew.trans hb6⟩
              case measure => simp [intOf]; omega
            · rw [List.take_of_length_le (by rw [HA.out]; omega), ← HQ.out] at hon
              obtain ⟨an, cn, rfl, hWn⟩ := hon.bs
              rw [show (tks (padL l) (q + 1)).length = 8 from tks_len8 _ _] at hWn ⊢
              go_wp2_with fail
              go_roundw
              case rel => exact ⟨q + 1, an, cn, by omega, by go_num, rfl, hWn, hb4.trans (hby.mono hb4.size)⟩
              case measure => simp [intOf]; omega
    · have eq : q = N := by omega
      rw [eq] at hh hhc
      have i2 : ¬ 64 * (q : Int) < 64 * (N : Int) := by omega
      generalize hH : tks (padL l) N = H at hh hhc HSUM
      have HTN : Hid (H.length = 8) := by rw [← hH]; exact tks_len8 _ _
      clear hH eq
      go_wp2_with fail
      go_loopw [12, 13] (fun o i wy => ∃ jm : Nat, jm ≤ 8 ∧ i = .int .i64 jm ∧ Own wy wo.heap.size o (outL (H.take jm)) ∧ Below wo.heap.size wo wy) (fun _ j _ => 8 - (intOf j).toNat)
      case atStart => exact ⟨0, by omega, rfl, Own.nil _ _, Below.refl _ _⟩
      case round =>
        rename World => wy
        obtain ⟨jm, hjm, rfl, hon, hby⟩ := hrel
        have hsy := hby.size
        by_cases hjl2 : jm < 8
        · have j1 : (0 : Int) ≤ (jm : Int) := by omega
          have j2 : (jm : Int) < 8 := by omega
          have s1 := hhc jm hjl2
          unfold wt at s1
          obtain ⟨x, hx⟩ : ∃ x, H.getD jm 0 = x := ⟨_, rfl⟩
          have HS : Hid (outL (H.take jm) ++ putL x.toNat 4 = outL (H.take (jm + 1))) := by
            show _ = _
            rw [wtk_snoc (by rw [HTN.out]; exact hjl2), outL_snoc, hx]
          rw [hx] at s1
          clear hx
          have lx := lt_of_cell s1
          have k1 := (hby.cell (p := ⟨bh, oh + jm, none⟩) lx).trans s1
          clear s1
          have hxl := w_lt x
          have hx1 : (x.toNat : Int) < 4294967296 := by omega
          have hlo : (outL (H.take jm)).length ≤ 32 := by rw [outL_length, List.length_take]; omega
          have CP : Hid (Calls Tryd.prog 32 #[.int .u64 (x.toNat : Int), .int .i64 4] wy (Gives wy (putL x.toNat 4))) := rPut 4 (x.toNat : Int) 4 wy (by omega) (by omega) (by omega) (by omega) (by omega)
          go_wp2_with (first
            | (go_at_call 32; refine CP.out.mono ?_; rintro e w7 ⟨a7, m7, c7, rfl, ho7, hb7⟩)
            | (at_builtin; refine wpList_app _ rfl (.tmp 66) (.tmp 72) rfl wo.heap.size _ _ rfl (hon.below hb7 (Nat.le_refl _)) _ _ _ _ rfl ho7.toBs (by rw [putL_length]; omega) (Nat.le_trans hsy hb7.size) ?_; intro v8 w8 ho8 hb8))
          go_roundw
          case rel => exact ⟨jm + 1, by omega, by go_num, by rw [← HS.out]; exact ho8, (hby.trans (hb7.mono hsy)).trans hb8⟩
          case measure => simp [intOf]; omega
        · rw [List.take_of_length_le (by rw [HTN.out]; omega), ← HSUM.out] at hon
          go_wp2
          go_ret
          have hwo := hbB.trans (hb.mono hbB.size)
          exact Gives.mk (hon.mono hwo.size) (hwo.trans (hby.mono hwo.size))

end Go.Proofs.YtpmdjailpdajkaaDoor
