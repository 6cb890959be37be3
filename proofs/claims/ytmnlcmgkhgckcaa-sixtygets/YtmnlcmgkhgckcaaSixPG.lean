/-
  The contract of layer 7's Get. Condition: a text of at most 2000 bytes.
-/
import Derived.Test.YtmnlcmgkhgckcaaSixPB
import Derived.Test.YtmnlcmgkhgckcaaAppG
import Derived.Lib.OthersKept
namespace Go.Proofs.Ytmnlcmgkhgckcaa
open Go.RowKit

theorem Own.iterAt {w : World} {base k pos : Nat} {v : Value} {l : List UInt8} {s : ByteArray} (h : Own w base v l) (hk : w.heap[k]? = some (.stringIter s pos)) (pos' : Nat) : Own (w.iterAt k s pos') base v l := by
  refine ⟨h.1, ?_⟩
  rcases h.2 with h0 | ⟨g, cap, cur, hv, hb, hg, rest⟩
  · exact .inl h0
  · refine .inr ⟨g, cap, cur, hv, hb, ?_, rest⟩
    rw [Lib.iterAt_other _ _ _ _ _ (fun e => by subst e; rw [hk] at hg; cases hg)]
    exact hg
theorem Own.ne_iter {w : World} {base k pos : Nat} {v : Value} {l : List UInt8} {s : ByteArray} (h : Own w base v l) (hk : w.heap[k]? = some (.stringIter s pos)) : some k ≠ v.ownBlock := by
  rcases h.2 with ⟨rfl, _⟩ | ⟨g, cap, cur, rfl, hb, hg, rest⟩
  · simp [Value.ownBlock]
  · intro e
    simp only [Value.ownBlock, Option.some.injEq] at e
    subst e
    rw [hk] at hg
    cases hg
theorem iter_lt {w : World} {k pos : Nat} {s : ByteArray} (hk : w.heap[k]? = some (.stringIter s pos)) : k < w.heap.size := (Array.getElem?_eq_some_iff.1 hk).1
theorem iter_alloc {w : World} {k pos : Nat} {s : ByteArray} (hk : w.heap[k]? = some (.stringIter s pos)) (o : Obj) : (w.alloc o).heap[k]? = some (.stringIter s pos) := by
  rw [(below_alloc w o).block k (iter_lt hk)]
  exact hk
theorem iter_pos {w : World} {k pos : Nat} {s : ByteArray} (hk : w.heap[k]? = some (.stringIter s pos)) : w.iterPos k = pos := by
  unfold World.iterPos
  rw [hk]
theorem num_high : ∀ y : UInt8, 128 ≤ y.toNat → num y = 64 := by
  have : ∀ y : Fin 256, 128 ≤ (UInt8.ofNat y.val).toNat → num (UInt8.ofNat y.val) = 64 := by decide +kernel
  intro y h
  have := this ⟨y.toNat, y.toNat_lt⟩
  simp only [UInt8.ofNat_toNat] at this
  exact this h
theorem numR_low {y : UInt8} (h : y.toNat < 128) : numR y.toNat = num y := by
  unfold numR
  rw [if_pos h, UInt8.ofNat_toNat]
/-- The rune at a place: a letter's own number, or no letter. -/
theorem rune_at (s : List UInt8) {t : Nat} (h : t < (ByteArray.mk s.toArray).size) : (num (s.getD t 0) < 64 → Utf8.decode ⟨s.toArray⟩ t = ((s.getD t 0).toNat, 1) ∧ numR (s.getD t 0).toNat = num (s.getD t 0)) ∧ (¬ num (s.getD t 0) < 64 → ¬ numR (Utf8.decode ⟨s.toArray⟩ t).1 < 64) ∧ 1 ≤ (Utf8.decode ⟨s.toArray⟩ t).2 := by
  have hat := str_at s t h
  by_cases hy : (s.getD t 0).toNat < 128
  · have hd := decode_ascii ⟨s.toArray⟩ t h (by rw [hat]; exact hy)
    rw [hat] at hd
    rw [hd]
    exact ⟨fun _ => ⟨rfl, numR_low hy⟩, fun hn => by show ¬ numR (s.getD t 0).toNat < 64; rw [numR_low hy]; exact hn, Nat.le_refl _⟩
  · have hd := decode_high ⟨s.toArray⟩ t h (by rw [hat]; omega)
    refine ⟨fun hn => absurd hn (by rw [num_high _ (by omega)]; omega), fun _ => ?_, hd.2⟩
    unfold numR
    rw [if_neg (by omega)]
    omega
theorem take_at (s : List UInt8) {t E : Nat} (h : t < E) : (s.take E).getD t 0 = s.getD t 0 := getD_take h

set_option maxRecDepth 100000 in
set_option maxHeartbeats 4000000 in
theorem oGet7 (w : World) (s : List UInt8) (hz : s.length ≤ 2000) : Calls Try.prog 8 #[.string ⟨s.toArray⟩] w (GivesG w (get64 s)) := by
  obtain ⟨x, hx⟩ : ∃ x, x = s.length := ⟨_, rfl⟩
  have HX : Hid (s.length = x) := hx.symm
  have hs : (ByteArray.mk s.toArray).size = x := by rw [str_size, hx]
  obtain ⟨r, hr⟩ : ∃ r, r = x % 4 := ⟨_, rfl⟩
  have t1 : (x : Int).tmod 4 = (r : Int) := by rw [Int.tmod_eq_emod_of_nonneg (by omega)]; omega
  have t2 : (x : Int) % 4 = (r : Int) := by omega
  have x2000 : x ≤ 2000 := by omega
  by_cases h4 : r = 0
  · have hne : ((r : Int) != 0) = false := by simp; omega
    have H4 : Hid (s.length % 4 = 0) := by show _ = _; omega
    obtain ⟨E, hE⟩ : ∃ E, E = ends s := ⟨_, rfl⟩
    obtain ⟨T, hT⟩ : ∃ T, T = s.take E := ⟨_, rfl⟩
    have hEx : E ≤ x := by rw [hE, hx]; exact ends_le s
    have CW : Hid (∀ w, Calls Try.prog 14 #[.string ⟨s.toArray⟩] w fun e w' => e = .returned (.string ⟨T.toArray⟩) ∧ w = w') := fun w => by rw [hT, hE]; exact oWithout w s hz
    have HTS : Hid ((ByteArray.mk T.toArray).size = E) := by show _ = _; rw [str_size, hT, List.length_take]; omega
    have HTA : Hid (∀ t, t < E → T.getD t 0 = s.getD t 0) := fun t ht => by rw [hT]; exact take_at s ht
    have HBAD : Hid (∀ t, t < E → ¬ num (s.getD t 0) < 64 → get64 s = ([], 4)) := fun t ht hn => get_not H4.out (put_letters (by rw [← hE]; exact ht) (by have := num_le (s.getD t 0); omega))
    obtain ⟨L, hL⟩ : ∃ L, L = bitsS s := ⟨_, rfl⟩
    obtain ⟨BD, hBD⟩ : ∃ BD, BD = dec64 s := ⟨_, rfl⟩
    have HBL : Hid (BD.length = 6 * E / 8) := by show _ = _; rw [hBD, dec_length, ← hE]
    have HBT : Hid (∀ m, m < 6 * E / 8 → BD.take (m + 1) = BD.take m ++ [UInt8.ofNat (valN L (8 * m) 8)]) := fun m hm => by rw [hBD, hL]; exact dec_take s (by rw [← hE]; exact hm)
    have HLE : Hid (∀ t, t < E → num (s.getD t 0) < 64 → valN L (6 * t) 6 = num (s.getD t 0)) := fun t ht hn => by rw [hL]; exact valN_bitsS s (by rw [← hE]; exact ht) hn
    have HOK : Hid ((∀ t, t < E → num (s.getD t 0) < 64) → valN L (8 * (6 * E / 8)) (6 * E % 8) = 0 → get64 s = (BD, 0)) := fun hl hv => by
      rw [hBD]
      exact get_of (put_dec H4.out (by rw [← hE]; exact hl) (by rw [← hE, ← hL]; exact hv))
    have HNO : Hid (valN L (8 * (6 * E / 8)) (6 * E % 8) ≠ 0 → get64 s = ([], 4)) := fun hv => get_not H4.out (put_tail (by rw [← hE, ← hL]; exact hv))
    have q1 : (x : Int).tdiv 4 = ((x / 4 : Nat) : Int) := by rw [Int.tdiv_eq_ediv_of_nonneg (by omega)]; omega
    clear hx hr h4 hz hT hE hL hBD
    go_enter Try.func8, Try.ntmps8
    go_wp2_with (first
      | (go_at_call 14; go_must (refine (CW.out _).mono ?_); rintro e w2 ⟨rfl, rfl⟩)
      | (at_make; refine wpList_mk0 _ rfl _ _ rfl w.heap.size _ rfl rfl (by omega) (by omega) (Nat.le_refl _) ?_; intro v1 w1 hown hbel))
    obtain ⟨K, hK⟩ : ∃ K, K = w1.heap.size := ⟨_, rfl⟩
    have hi0 : (w1.iter ⟨T.toArray⟩ 0).heap[K]? = some (.stringIter ⟨T.toArray⟩ 0) := by rw [hK]; exact World.iter_heap w1 _ 0
    have hwK : w.heap.size ≤ K := by rw [hK]; exact hbel.size
    rw [← hK]
    have hown0 : Own (w1.iter ⟨T.toArray⟩ 0) w.heap.size v1 [] := hown.below (below_alloc _ _) (Nat.le_refl _)
    have hbel0 : Below w.heap.size w (w1.iter ⟨T.toArray⟩ 0) := hbel.alloc hbel.size _
    generalize w1.iter ⟨T.toArray⟩ 0 = w0 at *
    clear hown hbel hK q1
    go_loopw [5, 6, 7, 9, 10, 11] (fun v h q _ _ _ wr => ∃ (t m C H : Nat) (X : List UInt8), t ≤ E ∧ q = .int .i64 (C : Int) ∧ h = .int .i32 (H : Int) ∧ C < 8 ∧ H < 256 ∧ Hid (6 * t = 8 * m + C ∧ H = valN L (8 * m) C ∧ X = BD.take m ∧ ∀ i, i < t → num (s.getD i 0) < 64) ∧ wr.heap[K]? = some (.stringIter ⟨T.toArray⟩ t) ∧ Own wr w.heap.size v X ∧ Below w.heap.size w wr) (fun _ _ _ _ _ _ wr => E - wr.iterPos K)
    case atStart => exact ⟨0, 0, 0, 0, [], by omega, rfl, rfl, by omega, by omega, ⟨rfl, rfl, by simp, fun i hi => by omega⟩, hi0, hown0, hbel0⟩
    case round =>
      clear hi0 hown0 hbel0
      obtain ⟨t, m, C, H, X, ht, rfl, rfl, hC, hH, HI, hit, ho, hb⟩ := hrel
      have HP : Hid (wr.iterPos K = t) := iter_pos hit
      have HIT : Hid (wr.heap[K]? = some (.stringIter ⟨T.toArray⟩ t)) := hit
      by_cases hlt : t < E
      · have htT : t < (ByteArray.mk T.toArray).size := by rw [HTS.out]; exact hlt
        have hra := rune_at T htT
        rw [HTA.out t hlt] at hra
        have hnx0 : ∀ ty, (Instr.next (.pointer (some ⟨K, 0, none⟩)) true ty).run Try.prog wr = _ := fun ty => Lib.run_next_any_at wr K _ t ty hit htT
        have hrl := decode_le ⟨T.toArray⟩ t
        obtain ⟨R, hR⟩ : ∃ R, R = (Utf8.decode ⟨T.toArray⟩ t).1 := ⟨_, rfl⟩
        obtain ⟨d, hd⟩ : ∃ d, d = (Utf8.decode ⟨T.toArray⟩ t).2 := ⟨_, rfl⟩
        rw [← hR] at hra hrl
        rw [← hR, ← hd] at hnx0
        by_cases hy : num (s.getD t 0) < 64
        · obtain ⟨hdec, hnr⟩ := hra.1 hy
          rw [hdec] at hR hd
          simp only at hR hd
          subst hd
          rw [← hR] at hnr
          have HV : Hid (valN L (6 * t) 6 = num (s.getD t 0)) := HLE.out t hlt hy
          have HALL : Hid (∀ i, i < t + 1 → num (s.getD i 0) < 64) := fun i hi => by
            by_cases e : i = t
            · rw [e]; exact hy
            · exact HI.out.2.2.2 i (by omega)
          obtain ⟨N, hN⟩ : ∃ N, N = num (s.getD t 0) := ⟨_, rfl⟩
          rw [← hN] at hnr hy HV
          have CN : Hid (∀ w, Calls Try.prog 15 #[.int .i32 (R : Int)] w fun e w' => e = .returned (.tuple #[.int .i32 (N : Int), .bool true]) ∧ w = w') := fun w => by
            have := oNumber w R hrl
            rw [numV_in hnr hy] at this
            exact this
          obtain ⟨W, hW⟩ : ∃ W, W = wr.iterAt K ⟨T.toArray⟩ (t + 1) := ⟨_, rfl⟩
          have HWI : Hid (W.heap[K]? = some (.stringIter ⟨T.toArray⟩ (t + 1))) := by show _ = _; rw [hW]; exact Lib.iterAt_heap wr K _ t _ hit
          have hoW : Own W w.heap.size u5 X := by rw [hW]; exact ho.iterAt hit _
          have hbW : Below w.heap.size w W := by rw [hW]; exact Lib.below_iterAt hb hwK _ _
          rw [← hW] at hnx0
          obtain ⟨Pq, hPq⟩ : ∃ Pq, Pq = H * 2 ^ 6 := ⟨_, rfl⟩
          have s2 : (H : Int) * 64 = (Pq : Int) := by omega
          obtain ⟨G, hG⟩ : ∃ G, G = Pq + N := ⟨_, rfl⟩
          have s3 : bits .or .i32 (Pq : Int) (N : Int) = (G : Int) := by rw [hG, hPq]; exact or_low H 6 N (by omega) (by omega) (by omega)
          have p1 : IntKind.i32.wrap (Pq : Int) = (Pq : Int) := by rw [IntKind.wrap_i32]; omega
          have HG : Hid (G = valN L (8 * m) (C + 6)) := by
            show _ = _
            rw [hG, hPq, valN_add, ← HI.out.2.1, show 8 * m + C = 6 * t from HI.out.1.symm, HV.out]
          have hG14 : G < 16384 := by omega
          clear hra hdec hR hnr hN hit ho hb HIT hW hPq hG hrl htT
          by_cases h8 : C < 2
          · have i8 : ¬ (8 : Int) ≤ (C : Int) + 6 := by omega
            have HGl : Hid (G < 256) := by
              show _ < _
              rw [HG.out]
              exact Nat.lt_of_lt_of_le (valN_lt _ _ _) (Nat.pow_le_pow_right (n := 2) (by decide) (show C + 6 ≤ 8 by omega))
            go_wp2_with (go_at_call 15; go_must (refine (CN.out _).mono ?_); rintro e w2 ⟨rfl, rfl⟩)
            go_roundw
            case rel => exact ⟨t + 1, m, C + 6, G, X, by omega, by go_num, rfl, by omega, HGl.out, ⟨by have := HI.out.1; omega, HG.out, HI.out.2.2.1, HALL.out⟩, HWI.out, hoW, hbW⟩
            case measure => show E - W.iterPos K < E - wr.iterPos K; rw [iter_pos HWI.out, HP.out]; omega
          · obtain ⟨D, hD⟩ : ∃ D, D = C - 2 := ⟨_, rfl⟩
            have i8 : (8 : Int) ≤ (C : Int) + 6 := by omega
            have i7 : (C : Int) + 6 - 8 = (D : Int) := by omega
            have i6 : (0 : Int) ≤ (D : Int) := by omega
            have i9 : D < 32 := by omega
            have HC : Hid (C + 6 = 8 + D) := by show _ = _; omega
            have hV256 := valN_lt L (8 * m) 8
            obtain ⟨y, hyy⟩ : ∃ y, y = UInt8.ofNat (valN L (8 * m) 8) := ⟨_, rfl⟩
            have hyN : y.toNat = valN L (8 * m) 8 := by rw [hyy, UInt8.toNat_ofNat']; omega
            have d0 : G / 2 ^ D = y.toNat := by rw [HG.out, HC.out, valN_div, hyN]
            have d1 : (G : Int) / 2 ^ D = (y.toNat : Int) := by rw [← d0, Int.natCast_ediv, Int.natCast_pow]; rfl
            obtain ⟨Q, hQ⟩ : ∃ Q, Q = G % 2 ^ D := ⟨_, rfl⟩
            have HQ : Hid (Q = valN L (8 * (m + 1)) D) := by show _ = _; rw [hQ, HG.out, HC.out, valN_mod]; rfl
            have CLo : Hid (∀ w, Calls Try.prog 13 #[.int .i32 (G : Int), .int .i64 (D : Int)] w fun e w' => e = .returned (.int .i32 (Q : Int)) ∧ w = w') := fun w => by rw [hQ]; exact oLowest w G D (by omega) (by omega)
            have HQl : Hid (Q < 256) := by
              show _ < _
              rw [HQ.out]
              exact Nat.lt_of_lt_of_le (valN_lt _ _ _) (Nat.pow_le_pow_right (n := 2) (by decide) (show D ≤ 8 by omega))
            have hmM : m < 6 * E / 8 := by have := HI.out.1; omega
            have HX2 : Hid (BD.take (m + 1) = X ++ [y]) := by show _ = _; rw [HBT.out m hmM, ← HI.out.2.2.1, hyy]
            have HI1 : Hid (6 * (t + 1) = 8 * (m + 1) + D) := by show _ = _; have := HI.out.1; have := HC.out; omega
            have hr : X.length + [y].length ≤ 1000000000 := by
              rw [HI.out.2.2.1]
              have := List.length_take_le' m BD
              have := HBL.out
              simp only [List.length_cons, List.length_nil]
              omega
            have y1 := b_lt y
            have y2 : IntKind.u8.wrap (y.toNat : Int) = (y.toNat : Int) := by rw [IntKind.wrap_u8]; omega
            have y3 : (y.toNat : Int) % 256 = (y.toNat : Int) := by omega
            have hs' := hbW.size
            have hD8 : D < 8 := by omega
            clear hyy hyN hV256 hD d0 hQ HC h8 HI
            go_wp2_with (first
              | (go_at_call 15; go_must (refine (CN.out _).mono ?_); rintro e w2 ⟨rfl, rfl⟩)
              | (go_at_call 13; go_must (refine (CLo.out _).mono ?_); rintro e w2 ⟨rfl, rfl⟩)
              | (at_builtin; go_must (refine wpList_appG (W.alloc (.cells #[.int .u8 (y.toNat : Int)] 5)) rfl (.tmp 45) (.tmp 50) rfl w.heap.size _ X rfl (hoW.below (below_alloc _ _) (Nat.le_refl _)) (some ⟨W.heap.size, 0, none⟩) 1 1 [y] rfl (Bs.made W [y] _ rfl (by simp)) hr (by simp; omega) ?_); intro v3 w3 ho3 hg3))
            have hia := iter_alloc HWI.out (.cells #[.int .u8 (y.toNat : Int)] 5)
            have hoa := hoW.below (below_alloc W (.cells #[.int .u8 (y.toNat : Int)] 5)) (Nat.le_refl _)
            have hi3 : w3.heap[K]? = some (.stringIter ⟨T.toArray⟩ (t + 1)) := by
              rw [hg3.block K (iter_lt hia) (hoa.ne_iter hia)]
              exact hia
            have hb3 : Below w.heap.size w w3 := (hbW.alloc hs' _).trans ((Below.refl _ _).grown hg3 (by simp; omega) hoa.size)
            go_roundw
            case rel => exact ⟨t + 1, m + 1, D, Q, X ++ [y], by omega, rfl, rfl, hD8, HQl.out, ⟨HI1.out, HQ.out, HX2.out.symm, HALL.out⟩, hi3, ho3, hb3⟩
            case measure => show E - w3.iterPos K < E - wr.iterPos K; rw [iter_pos hi3, HP.out]; omega
        · have hnr := hra.2.1 hy
          have HB : Hid (get64 s = ([], 4)) := HBAD.out t hlt hy
          have CN : Hid (∀ w, Calls Try.prog 15 #[.int .i32 (R : Int)] w fun e w' => e = .returned (.tuple #[.int .i32 0, .bool false]) ∧ w = w') := fun w => by
            have := oNumber w R hrl
            rw [numV_out hnr] at this
            exact this
          have hbW : Below w.heap.size w (wr.iterAt K ⟨T.toArray⟩ (t + d)) := Lib.below_iterAt hb hwK _ _
          clear hra hnr hR hd hit hrl htT hy
          generalize wr.iterAt K ⟨T.toArray⟩ (t + d) = W at *
          go_wp2_with (go_at_call 15; go_must (refine (CN.out _).mono ?_); rintro e w2 ⟨rfl, rfl⟩)
          go_ret2
          exact GivesG.none HB.out hbW
      · obtain rfl : t = E := by omega
        have hnx0 : ∀ ty, (Instr.next (.pointer (some ⟨K, 0, none⟩)) true ty).run Try.prog wr = _ := fun ty => Lib.run_next_end_at wr K _ t ty hit (by rw [HTS.out]; exact hlt)
        have hm8 : m = 6 * t / 8 := by have := HI.out.1; omega
        have hC8 : C = 6 * t % 8 := by have := HI.out.1; omega
        have HHV : Hid (H = valN L (8 * (6 * t / 8)) (6 * t % 8)) := by show _ = _; rw [HI.out.2.1, ← hm8, ← hC8]
        have HXB : X = BD := by rw [HI.out.2.2.1, List.take_of_length_le (by rw [HBL.out]; omega)]
        obtain ⟨ap, mp, cp, rfl, hBp⟩ := ho.bs3
        by_cases h0 : H = 0
        · have hn0 : ((H : Int) != 0) = false := by simp; omega
          have HO : Hid (get64 s = (BD, 0)) := HOK.out HI.out.2.2.2 (by rw [← HHV.out]; exact h0)
          clear hm8 hC8 hit hlt
          go_wp2_with fail
          go_ret2
          rw [HO.out]
          rw [HXB] at ho
          exact ⟨ap, mp, cp, rfl, ho, hb⟩
        · have hn0 : ((H : Int) != 0) = true := by simp; omega
          have HO : Hid (get64 s = ([], 4)) := HNO.out (by rw [← HHV.out]; exact h0)
          clear hm8 hC8 hit hlt
          go_wp2_with fail
          go_ret2
          exact GivesG.none HO.out hb
  · have hne : ((r : Int) != 0) = true := by simp; omega
    have HG : Hid (get64 s = ([], 3)) := get_short (by omega)
    clear hx hr h4 hz
    go_enter Try.func8, Try.ntmps8
    go_wp2_with fail
    go_ret2
    exact GivesG.none HG.out (Below.refl _ _)

end Go.Proofs.Ytmnlcmgkhgckcaa
