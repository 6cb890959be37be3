/-
  7 texts in one. No statement of the seat is proved here.
-/
import Derived.Test.YtjpejheipkfanaaGreatDoorG14
import Derived.Deep.RegionLaw
import Derived.BigRegion
/-
  The contract of the reference's Xor. Condition: rows of at most 1000000 bytes.
-/
namespace Go.Proofs.YtjpejheipkfanaaGreatDoor
open Go.RowKit

theorem xors_own {w : World} {base : Nat} {v : Value} {A B : List UInt8} (e : A = B) (h : Own w base v A) : Own w base v B := by
  rw [← e]
  exact h
theorem xor_take_end {l m : List UInt8} {n n' k : Nat} (H : Hid (l.length = n ∧ m.length = n')) (h : ¬ (k < n ∧ k < n')) : xorL (l.take k) (m.take k) = xorL l m := by
  unfold xorL
  rw [← List.take_zipWith, List.take_of_length_le]
  rw [List.length_zipWith, H.out.1, H.out.2]
  omega

set_option maxHeartbeats 400000 in
theorem rXor (w : World) {a b : Option Addr} {n c n' c' : Nat} {l m : List UInt8} (ha : Bs w a n c l) (hb : Bs w b n' c' m) (hz : n ≤ 1000000) (hz' : n' ≤ 1000000) :
    Calls Tryz.prog 76 #[.slice a n c, .slice b n' c'] w (Gives w (xorL l m)) := by
  by_cases h0 : n = 0 ∨ n' = 0
  · have H : Hid (l.length = n ∧ m.length = n') := ⟨ha.len, hb.len⟩
    clear ha hb
    have e := xor_take_end (k := 0) H (by omega)
    by_cases hn : (0 : Int) < n
    · have hn' : ¬ (0 : Int) < n' := by omega
      go_enter Tryz.func76, Tryz.ntmps76
      go_wp2_with fail
      refine wp_loop_rounds 1 ?_; rw [rounds_succ]; go_wp2
      go_ret
      exact Gives.mk (xors_own e (Own.nil _ _)) (Below.refl _ _)
    · go_enter Tryz.func76, Tryz.ntmps76
      go_wp2_with fail
      refine wp_loop_rounds 1 ?_; rw [rounds_succ]; go_wp2
      go_ret
      exact Gives.mk (xors_own e (Own.nil _ _)) (Below.refl _ _)
  · obtain ⟨x, o, rfl, hx, hc⟩ := ha.at (by omega)
    obtain ⟨y, q, rfl, hy, hd⟩ := hb.at (by omega)
    have H : Hid (l.length = n ∧ m.length = n') := ⟨ha.len, hb.len⟩
    clear ha hb
    go_enter Tryz.func76, Tryz.ntmps76
    go_wp2_with fail
    go_loopw [5, 6] (fun v i wr => ∃ k : Nat, k ≤ n ∧ k ≤ n' ∧ i = .int .i64 k ∧ Own wr w.heap.size v (xorL (l.take k) (m.take k)) ∧ Below w.heap.size w wr) (fun _ i _ => n - (intOf i).toNat)
    case atStart => exact ⟨0, Nat.zero_le _, Nat.zero_le _, rfl, Own.nil _ _, Below.refl _ _⟩
    case round =>
      obtain ⟨k, hk, hk', rfl, ho, hb⟩ := hrel
      by_cases hlt : k < n ∧ k < n'
      · obtain ⟨k1, k2⟩ := hlt
        have c1 : wr.cell? ⟨x, o + k, none⟩ = some (.int .u8 (bt l k)) := by rw [hb.cell (p := ⟨x, o + k, none⟩) hx]; exact hc k (by omega)
        have c2 : wr.cell? ⟨y, q + k, none⟩ = some (.int .u8 (bt m k)) := by rw [hb.cell (p := ⟨y, q + k, none⟩) hy]; exact hd k (by omega)
        obtain ⟨z, hz1, hz2⟩ := xor_eq (l := l) (m := m) (k := k) (by rw [H.out.1]; omega) (by rw [H.out.2]; omega)
        have hzlt := UInt8.toNat_lt z
        have b1 : 0 ≤ bits .xor .u8 (bt l k) (bt m k) := by rw [hz1]; omega
        have b2 : bits .xor .u8 (bt l k) (bt m k) ≤ 255 := by rw [hz1]; omega
        have hZ : Hid (UInt8.ofNat (bits .xor .u8 (bt l k) (bt m k)).toNat = z) := by
          show _ = _
          rw [hz1]
          simp
        have HZ : Hid (xorL (l.take (k + 1)) (m.take (k + 1)) = xorL (l.take k) (m.take k) ++ [z]) := hz2
        have hr : (xorL (l.take k) (m.take k)).length + [UInt8.ofNat (bits .xor .u8 (bt l k) (bt m k)).toNat].length ≤ 1000000000 := by
          unfold xorL
          simp
          omega
        have hs : w.heap.size ≤ wr.heap.size := hb.size
        clear hz1 hz2 hzlt
        go_wp2
        go_region_law (refine step_app rfl (.tmp 19) (.tmp 29) rfl w.heap.size _ _ rfl (ho.below (below_alloc _ _).drew (Nat.le_refl _)) _ 1 1 [UInt8.ofNat (bits .xor .u8 (bt l k) (bt m k)).toNat] rfl (Bs.one _ _ b1 b2).drew hr (by simp; omega) ?_; intro v2 w2 ho2 hb2)
        all_goals
          go_wp2
          go_roundw
          case rel => exact ⟨k + 1, by omega, by omega, by go_num, xors_own (by rw [hZ.out, HZ.out]) ho2, (hb.trans ((below_alloc _ _).drew.mono hs)).trans hb2⟩
          case measure => simp [intOf]; omega
      · have e := xor_take_end H hlt
        by_cases hn : (k : Int) < n
        · have hn' : ¬ (k : Int) < n' := by omega
          go_wp2
          go_ret
          exact Gives.mk (xors_own e ho) hb
        · go_wp2
          go_ret
          exact Gives.mk (xors_own e ho) hb

end Go.Proofs.YtjpejheipkfanaaGreatDoor

/-
  The contract of layer 6's reference's Tag. Conditions: the key's parts lie where its slices lead; a nonce of 12 bytes; what stands beside, and what is sealed, of at most 900 bytes.
-/
namespace Go.Proofs.YtjpejheipkfanaaGreatDoor
open Go.RowKit

set_option maxRecDepth 100000 in
set_option maxHeartbeats 4000000 in
theorem rTag (w : World) {K nonce be s : List UInt8} {a1 a2 a3 an ae as' : Option Addr} {c1 c2 c3 cn ne ce ns cs' : Nat} (hk : KeyR w K a1 a2 a3 c1 c2 c3) (hK : K.length = 240) (hn : Bs w an 12 cn nonce) (hE : Bs w ae ne ce be) (hS : Bs w as' ns cs' s) (hze : ne ≤ 900) (hzs : ns ≤ 900) :
    Calls Tryz.prog 58 #[kv a1 a2 a3 c1 c2 c3, .slice an 12 cn, .slice ae ne ce, .slice as' ns cs'] w (Gives w (tagL K nonce be s)) := by
  have HNL : Hid (nonce.length = 12) := hn.len
  have CP : Hid (∀ (w : World) (m : Nat), m ≤ 900 → Calls Tryz.prog 40 #[.int .u64 (8 * (m : Int)), .int .i64 8] w (Gives w (putL (8 * m) 8))) := fun w m hm => by
    have := rPut 8 ((8 * m : Nat) : Int) 8 w (by omega) (by omega) (by omega) (by omega) (by omega)
    rw [Int.toNat_natCast, show ((8 * m : Nat) : Int) = 8 * (m : Int) from by omega] at this
    exact this
  have HLE : Hid (lens be s = putL (8 * ne) 8 ++ putL (8 * ns) 8) := by show _ = _; unfold lens; rw [hE.len, hS.len]
  have HTG : Hid (tagL K nonce be s = xorL (byF (hashF (hKey K) (hashF (hKey K) (hashF (hKey K) 0 be) s) (lens be s))) (ctrK K nonce 1)) := rfl
  have HCL : Hid ((ctrK K nonce 1).length = 16) := ctrK_length hK HNL.out 1
  have CC : Hid (∀ w, KeyR w K a1 a2 a3 c1 c2 c3 → Bs w an 12 cn nonce → Calls Tryz.prog 74 #[kv a1 a2 a3 c1 c2 c3, .slice an 12 cn, .int .i64 1] w (Gives w (ctrK K nonce 1))) := fun w h1 h2 => rCounter w h1 hK h2 1 (by omega)
  obtain ⟨T, hT⟩ : ∃ T, T = tagL K nonce be s := ⟨_, rfl⟩
  rw [← hT] at HTG ⊢
  clear hT
  obtain ⟨W, hW⟩ : ∃ W, W = w.alloc (.cells (kc a1 a2 a3 c1 c2 c3).toArray 92) := ⟨_, rfl⟩
  have d0 : Blk W w.heap.size (kc a1 a2 a3 c1 c2 c3) 92 := by rw [hW]; exact Blk.new w _ _
  have q0 : Below w.heap.size w W := by rw [hW]; exact below_alloc w _
  have HW : Hid (W = w.alloc (.cells #[.slice a1 256 c1, .slice a2 60 c2, .slice a3 128 c3] 92)) := hW
  clear hW
  have kW := hk.below q0
  have nW := hn.below q0 (Nat.le_refl _)
  have eW := hE.below q0 (Nat.le_refl _)
  have sW := hS.below q0 (Nat.le_refl _)
  have i1 : IntKind.u64.wrap (ne : Int) = (ne : Int) := by rw [IntKind.wrap_u64]; omega
  have i2 : IntKind.u64.wrap (ns : Int) = (ns : Int) := by rw [IntKind.wrap_u64]; omega
  have i3 : (ne : Int) % 18446744073709551616 = (ne : Int) := by omega
  have i4 : (ns : Int) % 18446744073709551616 = (ns : Int) := by omega
  have i5 : IntKind.u64.wrap (8 * (ne : Int)) = 8 * (ne : Int) := by rw [IntKind.wrap_u64]; omega
  have i6 : IntKind.u64.wrap (8 * (ns : Int)) = 8 * (ns : Int) := by rw [IntKind.wrap_u64]; omega
  have i7 : 8 * (ne : Int) % 18446744073709551616 = 8 * (ne : Int) := by omega
  have i8 : 8 * (ns : Int) % 18446744073709551616 = 8 * (ns : Int) := by omega
  unfold kv
  go_enter Tryz.func58, Tryz.ntmps58
  go_upto_region 1 with fail
  rw [← HW.out]
  refine regionG (S := Grows W) (by kernel_rfl) (Below.refl _ W).drew ?_
  refine takeG 0 (some 11) (.pointer (some ⟨w.heap.size, 2, none⟩)) rfl rfl (by kernel_rfl) (by kernel_rfl) (by kernel_rfl) (fun _ _ _ h => h) (ans_at (.tmp 4) 2 (by decide) rfl (by rfl) w.heap.size rfl) ?_
  simp only [Act.put, List.setIfInBounds_toArray, List.set_cons_zero, List.set_cons_succ]
  refine takeG 1 (some 12) (.slice a3 128 c3) rfl rfl (by kernel_rfl) (by kernel_rfl) (by kernel_rfl) (fun _ _ _ h => h) (ans_cB (.tmp 11) rfl (by rfl) w.heap.size 2 _ rfl (fun w h => (d0.grows h).cell 2)) ?_
  simp only [Act.put, List.setIfInBounds_toArray, List.set_cons_zero, List.set_cons_succ]
  refine takeG 3 (some 14) (.slice ae ne ce) rfl rfl (by kernel_rfl) (by kernel_rfl) (by kernel_rfl) (fun _ _ _ h => h) (ans_plain (by rfl) (fun w _ => rfl)) ?_
  simp only [Act.put, List.setIfInBounds_toArray, List.set_cons_zero, List.set_cons_succ]
  refine oneG 2 (by kernel_rfl) fun u1 hg1 hs1 => ?_
  refine opMkB (some 13) rfl rfl rfl (.const (.int .i64 128)) (.const (.int .i64 128)) rfl 128 rfl rfl (by decide) fun u2 hZ hG2 => ⟨Grows.trans hs1 hG2, ?_⟩
  have hZ2 : Bo u2 (some ⟨u1.heap.size, 0, none⟩) 128 128 (fb 0) := by
    rw [fb_zero]
    have := hZ.bo (by simp)
    rw [List.length_replicate] at this
    exact this
  have hs2 := Grows.trans hs1 hG2
  simp only [Act.put, List.setIfInBounds_toArray, List.set_cons_zero, List.set_cons_succ]
  refine callG 4 (some 15) 75 #[.tmp 12, .tmp 13, .tmp 14] #[90, 90, 32] #[.slice a3 128 c3, .slice (some ⟨u1.heap.size, 0, none⟩) 128 128, .slice ae ne ce] rfl rfl rfl (by rfl) (by rfl) (by kernel_rfl) Tryz.call75 fun u3 hg3 hs3 => ?_
  refine (rHash u3 (kW.elem.below hs3 (Nat.le_refl _)) (hZ2.below hg3 (Nat.le_refl _)) (eW.grows hs3) (by omega)).mono ?_
  rintro e u4 ⟨p4, x4, rfl, hB4, hG4⟩
  rw [fb_length] at hB4 ⊢
  refine ⟨_, rfl, Grows.trans hs3 hG4, ?_⟩
  simp only [Act.put, List.setIfInBounds_toArray, List.set_cons_zero, List.set_cons_succ]
  refine takeG 5 (some 9) (.slice p4 128 x4) rfl rfl (by kernel_rfl) (by kernel_rfl) (by kernel_rfl) (fun _ _ _ h => h) (ans_plain (by rfl) (fun w _ => rfl)) ?_
  simp only [Act.put, List.setIfInBounds_toArray, List.set_cons_zero, List.set_cons_succ]
  refine doneG (by kernel_rfl) fun u5 hg5 hs5 => ?_
  have hB5 := hB4.below hg5 (Nat.le_refl _)
  have d5 := d0.grows hs5
  have e2 := d5.cell 2
  simp only [kc, List.getElem?_cons_zero, List.getElem?_cons_succ] at e2
  generalize hashF (hKey K) 0 be = Y1 at *
  go_wp2_with fail
  refine (rHash u5 (kW.elem.below hs5 (Nat.le_refl _)) hB5 (sW.grows hs5) (by omega)).mono ?_
  rintro e u6 ⟨p6, x6, rfl, hB6, hG6⟩
  rw [fb_length] at hB6 ⊢
  have hs6 : Grows W u6 := Grows.trans hs5 hG6
  generalize hashF (hKey K) Y1 s = Y2 at *
  clear hB5 hB4 hZ hZ2 e2 d5 hG6 hg5 hG4 hG2 hs1 hs2 hs3 hg1 hg3
  go_wp2_with fail
  refine (CP.out u6 ne hze).mono ?_
  rintro e u7 ⟨p7, m7, x7, rfl, ho7, hG7⟩
  go_wp2_with fail
  refine (CP.out u7 ns hzs).mono ?_
  rintro e u8 ⟨p8, m8, x8, rfl, ho8, hG8⟩
  have hs8 : Grows W u8 := Grows.trans hs6 (Grows.trans hG7 hG8)
  have ho7' := ho7.below hG8 (Nat.le_refl _)
  have hr : (putL (8 * ne) 8).length + (putL (8 * ns) 8).length ≤ 1000000000 := by rw [putL_length, putL_length]; omega
  go_wp2_with (at_builtin; go_must (refine wpList_app u8 rfl (.tmp 25) (.tmp 30) rfl u6.heap.size _ _ rfl ho7' p8 m8 x8 _ rfl ho8.toBs hr (Nat.le_trans (Below.size hG7) (Below.size hG8)) ?_); intro v9 u9 ho9 hb9; obtain ⟨p9, m9, x9, rfl, hB9⟩ := ho9.bs3; have hs9 : Below W.heap.size W u9 := Below.trans hs8 (hb9.mono (Below.size hs6)); have e9 := (d0.below hs9 d0.lt).cell 2; simp only [kc, List.getElem?_cons_zero, List.getElem?_cons_succ] at e9)
  rw [← HLE.out] at hB9
  have hB6' : Bo u9 p6 128 x6 (fb Y2) := hB6.below (Below.trans (Grows.trans hG7 hG8) hb9) (Nat.le_refl _)
  have hm9 : m9 ≤ 1000 := by rw [← hB9.len, lens_length]; omega
  refine (rHash u9 (kW.elem.below hs9 (Nat.le_refl _)) hB6' hB9 hm9).mono ?_
  rintro e ua ⟨pa, xa, rfl, hBa, hGa⟩
  rw [fb_length] at hBa ⊢
  have hsa : Grows W ua := Grows.trans hs9 hGa
  generalize hashF (hKey K) Y2 (lens be s) = Y3 at *
  clear hB6' hB9 e9 hB6 ho9 hb9 ho7' ho7 ho8 hG7 hG8 hs8 hs6 hs5 hs9 hGa
  go_wp2_with fail
  refine regionG (S := Grows ua) (by kernel_rfl) (Below.refl _ ua).drew ?_
  refine takeG 0 (some 37) (.slice pa 128 xa) rfl rfl (by kernel_rfl) (by kernel_rfl) (by kernel_rfl) (fun _ _ _ h => h) (ans_plain (by rfl) (fun w _ => rfl)) ?_
  simp only [Act.put, List.setIfInBounds_toArray, List.set_cons_zero, List.set_cons_succ]
  refine takeG 2 (some 39) (kv a1 a2 a3 c1 c2 c3) rfl rfl (by kernel_rfl) (by kernel_rfl) (by kernel_rfl) (fun _ _ _ h => h) (ans_key (.tmp 4) rfl (by rfl) w.heap.size rfl (fun w h => (d0.grows hsa).grows h)) ?_
  simp only [Act.put, List.setIfInBounds_toArray, List.set_cons_zero, List.set_cons_succ]
  refine takeG 3 (some 40) (.slice an 12 cn) rfl rfl (by kernel_rfl) (by kernel_rfl) (by kernel_rfl) (fun _ _ _ h => h) (ans_plain (by rfl) (fun w _ => rfl)) ?_
  simp only [Act.put, List.setIfInBounds_toArray, List.set_cons_zero, List.set_cons_succ]
  refine callG 1 (some 38) 77 #[.tmp 37] #[90] #[.slice pa 128 xa] rfl rfl rfl (by rfl) (by rfl) (by kernel_rfl) Tryz.call77 fun ub hgb hsb => ?_
  refine (rBytesF ub (hBa.below hsb (Nat.le_refl _))).mono ?_
  rintro e uc ⟨pc, mc, xc, rfl, hoc, hGc⟩
  refine ⟨_, rfl, Grows.trans hsb hGc, ?_⟩
  simp only [Act.put, List.setIfInBounds_toArray, List.set_cons_zero, List.set_cons_succ]
  refine callG 4 (some 41) 74 #[.tmp 39, .tmp 40, .const (.int .i64 1)] #[92, 32, 3] #[kv a1 a2 a3 c1 c2 c3, .slice an 12 cn, .int .i64 1] rfl rfl rfl (by rfl) (by rfl) (by kernel_rfl) Tryz.call74 fun ud hgd hsd => ?_
  refine (CC.out ud (kW.below (Grows.trans hsa hsd)) (nW.grows (Grows.trans hsa hsd))).mono ?_
  rintro e ue ⟨pe, me, xe, rfl, hoe, hGe⟩
  refine ⟨_, rfl, Grows.trans hsd hGe, ?_⟩
  simp only [Act.put, List.setIfInBounds_toArray, List.set_cons_zero, List.set_cons_succ]
  have hBc := (hoc.toBs.grows hgd).grows hGe
  have hBe := hoe.toBs
  have hmc : mc ≤ 1000000 := by rw [← hBc.len, byF_length]; omega
  have hme : me ≤ 1000000 := by rw [← hBe.len, HCL.out]; omega
  refine callG 5 (some 42) 76 #[.tmp 38, .tmp 41] #[32, 32] #[.slice pc mc xc, .slice pe me xe] rfl rfl rfl (by rfl) (by rfl) (by kernel_rfl) Tryz.call76 fun uf hgf hsf => ?_
  refine (rXor uf (hBc.grows hgf) (hBe.grows hgf) hmc hme).mono ?_
  rintro e ug ⟨pg, mg, xg, rfl, hog, hGg⟩
  rw [← HTG.out] at hog
  refine ⟨_, rfl, Grows.trans hsf hGg, ?_⟩
  simp only [Act.put, List.setIfInBounds_toArray, List.set_cons_zero, List.set_cons_succ]
  refine takeG 6 (some 8) (.slice pg mg xg) rfl rfl (by kernel_rfl) (by kernel_rfl) (by kernel_rfl) (fun _ _ _ h => h) (ans_plain (by rfl) (fun w _ => rfl)) ?_
  simp only [Act.put, List.setIfInBounds_toArray, List.set_cons_zero, List.set_cons_succ]
  refine doneG (by kernel_rfl) fun uh hgh hsh => ?_
  have hoh := hog.below hgh (Nat.le_refl _)
  have hsW : Grows W uh := Grows.trans hsa hsh
  have hsf' : w.heap.size ≤ uf.heap.size := Nat.le_trans q0.size (Nat.le_trans (Below.size hsa) (Below.size hsf))
  go_wp2
  go_ret
  exact Gives.mk (hoh.mono hsf') (q0.trans (Below.mono hsW q0.size))

end Go.Proofs.YtjpejheipkfanaaGreatDoor

/-
  The contract of the reference's Same: it tells whether two rows of bytes are equal, and turns nothing. No condition.
-/
namespace Go.Proofs.YtjpejheipkfanaaGreatDoor
open Go.RowKit

theorem bt_inj {l m : List UInt8} (h : l.length = m.length) (k : ∀ i, i < l.length → bt l i = bt m i) : l = m := by
  apply List.ext_getElem h
  intro i h1 h2
  have := k i h1
  unfold bt at this
  simp [List.getD_eq_getElem?_getD, h1, h2] at this
  exact UInt8.toNat_inj.1 (by omega)

theorem same_step {l m : List UInt8} {k : Nat} (H : Hid (∀ j, j < k → bt l j = bt m j)) (h : (bt l k != bt m k) = false) (j : Nat) (hj : j < k + 1) : bt l j = bt m j := by
  by_cases e : j = k
  · subst e; simpa using h
  · exact H.out j (by omega)
theorem same_no {l m : List UInt8} {k : Nat} (h : (bt l k != bt m k) = true) : false = decide (l = m) := by
  symm
  rw [decide_eq_false_iff_not]
  intro e
  subst e
  simp at h
theorem same_yes {l m : List UInt8} {n k : Nat} (H : Hid (l.length = n ∧ m.length = n)) (h : ¬ k < n) (hj : ∀ j, j < k → bt l j = bt m j) : true = decide (l = m) := by
  symm
  rw [decide_eq_true_iff]
  obtain ⟨h1, h2⟩ := H.out
  exact bt_inj (by omega) fun i hi => hj i (by omega)

set_option maxHeartbeats 400000 in
theorem rSame (w : World) {a b : Option Addr} {n c n' c' : Nat} {l m : List UInt8} (ha : Bs w a n c l) (hb : Bs w b n' c' m) :
    Calls Tryz.prog 20 #[.slice a n c, .slice b n' c'] w fun e w' => e = .returned (.bool (decide (l = m))) ∧ ∃ k, w' = w.drewN k := by
  have h1 := ha.max
  have h2 := hb.max
  by_cases hn : n = n'
  · subst hn
    by_cases h0 : n = 0
    · subst h0
      have e : decide (l = m) = true := by
        have e1 := ha.len
        have e2 := hb.len
        simp at e1 e2
        simp [e1, e2]
      rw [e]
      clear e ha hb
      go_enter Tryz.func20, Tryz.ntmps20
      go_wp2
      refine wp_loop_rounds 1 ?_; rw [rounds_succ]; go_wp2
      go_ret
      exact ⟨rfl, 0, rfl⟩
    · obtain ⟨x, o, rfl, hx, hc⟩ := ha.at (by omega)
      obtain ⟨y, q, rfl, hy, hd⟩ := hb.at (by omega)
      have e1 := ha.len
      have e2 := hb.len
      have H : Hid (l.length = n ∧ m.length = n) := ⟨e1, e2⟩
      clear e1 e2 ha hb
      go_enter Tryz.func20, Tryz.ntmps20
      go_wp2
      go_loopw [5] (fun i wr => ∃ k : Nat, k ≤ n ∧ i = .int .i64 k ∧ (∃ d, wr = w.drewN d) ∧ ∀ j, j < k → bt l j = bt m j) (fun i _ => n - (intOf i).toNat)
      case atStart => exact ⟨0, Nat.zero_le _, rfl, ⟨0, rfl⟩, fun j hj => by omega⟩
      case round =>
        obtain ⟨k, hk, rfl, ⟨d, rfl⟩, hj⟩ := hrel
        by_cases hlt : k < n
        · have c1 := hc k hlt
          have c2 := hd k hlt
          have H2 : Hid (∀ j, j < k → bt l j = bt m j) := hj
          clear hj hc hd
          by_cases hq : bt l k = bt m k
          · have hq' : (bt l k != bt m k) = false := by simp [hq]
            clear hq
            go_wp2
            go_quiet (fail)
            go_wp2
            go_roundw
            case rel => exact ⟨k + 1, by omega, by go_num, ⟨_, rfl⟩, fun j hj => same_step H2 hq' j hj⟩
            case measure => simp [intOf]; omega
          · have hq' : (bt l k != bt m k) = true := by simp [hq]
            clear hq
            go_wp2
            go_quiet (fail)
            go_wp2
            go_ret
            exact ⟨ret_bool (same_no hq'), _, World.drewN_drewN _ _ _⟩
        · go_wp2
          go_ret
          exact ⟨ret_bool (same_yes H hlt hj), d, rfl⟩
  · have hq' : ((n : Int) != (n' : Int)) = true := by simp; omega
    have e : decide (l = m) = false := by
      have e1 := ha.len
      have e2 := hb.len
      simp
      intro h
      rw [h] at e1
      omega
    rw [e]
    clear e ha hb
    go_enter Tryz.func20, Tryz.ntmps20
    go_wp2
    go_ret
    exact ⟨rfl, 0, rfl⟩
end Go.Proofs.YtjpejheipkfanaaGreatDoor

/-
  Two like rows held against each other. No condition; no statement of the seat is proved here.
-/
namespace Go.Proofs.YtjpejheipkfanaaGreatDoor
open Go.RowKit

theorem sameT (w : World) {a b : Option Addr} {n c n' c' : Nat} {l : List UInt8} (ha : Bs w a n c l) (hb : Bs w b n' c' l) : Calls Tryz.prog 20 #[.slice a n c, .slice b n' c'] w fun e w' => e = .returned (.bool true) ∧ Below w.heap.size w w' := by
  have := rSame w ha hb
  rw [decide_eq_true rfl] at this
  refine this.mono ?_
  rintro e w' ⟨rfl, k, rfl⟩
  exact ⟨rfl, below_drewN' w k⟩

end Go.Proofs.YtjpejheipkfanaaGreatDoor

/-
  The contracts of layer 6's reference's Seal and Open. Conditions: the key's parts lie where its slices lead; rows of at most 900 bytes.
-/
namespace Go.Proofs.YtjpejheipkfanaaGreatDoor
open Go.RowKit

theorem rSealNot (w : World) {v : Value} {a1 a2 a3 an ae at' : Option Addr} {c1 c2 c3 n cn ne ce nt ct : Nat} (hv : v = kv a1 a2 a3 c1 c2 c3) (hn : ¬ n = 12) :
    Calls Tryz.prog 42 #[v, .slice an n cn, .slice ae ne ce, .slice at' nt ct] w fun e w' => e = .returned (.tuple #[.slice none 0 0, .int .i64 17]) ∧ Below w.heap.size w w' := by
  have h1 : ((n : Int) != 12) = true := by simp; omega
  subst hv
  unfold kv
  go_enter Tryz.func42, Tryz.ntmps42
  go_wp2
  go_ret2
  exact ⟨rfl, below_alloc _ _⟩
/-- What Seal and Open leave: bytes in new memory. -/
def GivesC (w : World) (l : List UInt8) (e : Ending) (w' : World) : Prop := ∃ a m c, e = .returned (.tuple #[.slice a m c, .int .i64 0]) ∧ Own w' w.heap.size (.slice a m c) l ∧ Below w.heap.size w w'

set_option maxRecDepth 100000 in
set_option maxHeartbeats 2000000 in
theorem rSeal (w : World) {K nonce be t : List UInt8} {a1 a2 a3 an ae at' : Option Addr} {c1 c2 c3 cn ne ce nt ct : Nat} (hk : KeyR w K a1 a2 a3 c1 c2 c3) (hK : K.length = 240) (hn : Bs w an 12 cn nonce) (hE : Bs w ae ne ce be) (hT : Bs w at' nt ct t) (hze : ne ≤ 900) (hzt : nt ≤ 900) :
    Calls Tryz.prog 42 #[kv a1 a2 a3 c1 c2 c3, .slice an 12 cn, .slice ae ne ce, .slice at' nt ct] w (GivesC w (sealL K nonce be t)) := by
  have HNL : Hid (nonce.length = 12) := hn.len
  have HSL : Hid ((strL K nonce t).length = nt) := by show _ = _; rw [strL_length hK HNL.out, hT.len]
  have HTL : Hid ((tagL K nonce be (strL K nonce t)).length = 16) := tagL_length hK HNL.out _ _
  have HS : Hid (sealL K nonce be t = strL K nonce t ++ tagL K nonce be (strL K nonce t)) := rfl
  obtain ⟨Z, hZ⟩ : ∃ Z, Z = sealL K nonce be t := ⟨_, rfl⟩
  rw [← hZ] at HS ⊢
  clear hZ
  obtain ⟨W, hW⟩ : ∃ W, W = w.alloc (.cells (kc a1 a2 a3 c1 c2 c3).toArray 92) := ⟨_, rfl⟩
  have d0 : Blk W w.heap.size (kc a1 a2 a3 c1 c2 c3) 92 := by rw [hW]; exact Blk.new w _ _
  have q0 : Below w.heap.size w W := by rw [hW]; exact below_alloc w _
  have HW : Hid (W = w.alloc (.cells #[.slice a1 256 c1, .slice a2 60 c2, .slice a3 128 c3] 92)) := hW
  clear hW
  have kW := hk.below q0
  have nW := hn.below q0 (Nat.le_refl _)
  have eW := hE.below q0 (Nat.le_refl _)
  have tW := hT.below q0 (Nat.le_refl _)
  unfold kv
  go_enter Tryz.func42, Tryz.ntmps42
  go_wp2_with fail
  rw [← HW.out]
  refine (rStream W kW hK nW tW (by omega)).mono ?_
  rintro e u1 ⟨p1, m1, x1, rfl, ho1, hG1⟩
  have hB1 := ho1.toBs
  have hm1 : m1 = nt := by rw [← hB1.len]; exact HSL.out
  subst hm1
  generalize strL K nonce t = s at *
  have d1 := d0.grows hG1
  have e0 := d1.cell 0
  have e1 := d1.cell 1
  have e2 := d1.cell 2
  simp only [kc, List.getElem?_cons_zero, List.getElem?_cons_succ] at e0 e1 e2
  go_wp2_with fail
  refine (rTag u1 (kW.below hG1) hK (nW.grows hG1) (eW.grows hG1) hB1 hze hzt).mono ?_
  rintro e u2 ⟨p2, m2, x2, rfl, ho2, hG2⟩
  have hr : s.length + (tagL K nonce be s).length ≤ 1000000000 := by rw [HSL.out, HTL.out]; omega
  go_wp2_with (at_builtin; go_must (refine wpList_app u2 rfl (.tmp 18) (.tmp 23) rfl W.heap.size _ _ rfl (ho1.below hG2 (Nat.le_refl _)) p2 m2 x2 _ rfl ho2.toBs hr (Nat.le_trans (Below.size hG1) (Below.size hG2)) ?_); intro v3 u3 ho3 hb3)
  obtain ⟨p3, m3, x3, rfl, _⟩ := ho3.bs3
  rw [← HS.out] at ho3
  have g3 : Below W.heap.size W u3 := Below.trans (Grows.trans hG1 hG2) hb3
  go_ret2
  exact ⟨p3, m3, x3, rfl, ho3.mono q0.size, q0.trans (g3.mono q0.size)⟩

/-- 'b[:k]', 'b[k:]' in a region. -/
theorem ans_hi {ops : Array Oper} {S : World → Prop} {oi : Oper} {a : Act} (x y : Operand) (ho : oi.op = .slice 32 x none (some y) none) (hw : Region.wanted oi (yielded ops a.tmps) = true) (u v r : Value) (hx : a.eval x = u) (hy : a.eval y = v) (hr : ∀ w, Sem.run Tryz.prog (Instr.slice 32 u none (some v) none) w = .ok r w) : Ans Tryz.prog ops S oi r a := by
  refine ans_plain hw fun w _ => ?_
  unfold execOp
  simp only [ho, hx, hy, Option.map]
  go_simp
theorem ans_lo {ops : Array Oper} {S : World → Prop} {oi : Oper} {a : Act} (x y : Operand) (ho : oi.op = .slice 32 x (some y) none none) (hw : Region.wanted oi (yielded ops a.tmps) = true) (u v r : Value) (hx : a.eval x = u) (hy : a.eval y = v) (hr : ∀ w, Sem.run Tryz.prog (Instr.slice 32 u (some v) none none) w = .ok r w) : Ans Tryz.prog ops S oi r a := by
  refine ans_plain hw fun w _ => ?_
  unfold execOp
  simp only [ho, hx, hy, Option.map]
  go_simp

theorem rOpenNot (w : World) {v : Value} {a1 a2 a3 an ae as' : Option Addr} {c1 c2 c3 n cn ne ce ns cs' : Nat} (hv : v = kv a1 a2 a3 c1 c2 c3) (hn : ¬ n = 12) :
    Calls Tryz.prog 46 #[v, .slice an n cn, .slice ae ne ce, .slice as' ns cs'] w fun e w' => e = .returned (.tuple #[.slice none 0 0, .int .i64 17]) ∧ Below w.heap.size w w' := by
  have h1 : ((n : Int) != 12) = true := by simp; omega
  subst hv
  unfold kv
  go_enter Tryz.func46, Tryz.ntmps46
  go_wp2
  go_ret2
  exact ⟨rfl, below_alloc _ _⟩
theorem rOpenShort (w : World) {v : Value} {a1 a2 a3 an ae as' : Option Addr} {c1 c2 c3 cn ne ce ns cs' : Nat} (hv : v = kv a1 a2 a3 c1 c2 c3) (hs : ns < 16) :
    Calls Tryz.prog 46 #[v, .slice an 12 cn, .slice ae ne ce, .slice as' ns cs'] w fun e w' => e = .returned (.tuple #[.slice none 0 0, .int .i64 3]) ∧ Below w.heap.size w w' := by
  have h1 : (ns : Int) - 16 < 0 := by omega
  have h2 : IntKind.i64.wrap ((ns : Int) - 16) = (ns : Int) - 16 := by rw [IntKind.wrap_i64]; omega
  subst hv
  unfold kv
  go_enter Tryz.func46, Tryz.ntmps46
  go_wp2
  go_ret2
  exact ⟨rfl, below_alloc _ _⟩
/-- What Open leaves of a row that has a tag. -/
def OpensC (w : World) (ok : Bool) (l : List UInt8) (e : Ending) (w' : World) : Prop := if ok then GivesC w l e w' else e = .returned (.tuple #[.slice none 0 0, .int .i64 6]) ∧ Below w.heap.size w w'

set_option maxRecDepth 100000 in
set_option maxHeartbeats 2000000 in
theorem rOpen (w : World) {K nonce be s : List UInt8} {a1 a2 a3 an ae as' : Option Addr} {c1 c2 c3 cn ne ce ns cs' : Nat} (hk : KeyR w K a1 a2 a3 c1 c2 c3) (hK : K.length = 240) (hn : Bs w an 12 cn nonce) (hE : Bs w ae ne ce be) (hS : Bs w as' ns cs' s) (hze : ne ≤ 900) (hzs : ns ≤ 900) (h16 : 16 ≤ ns) :
    Calls Tryz.prog 46 #[kv a1 a2 a3 c1 c2 c3, .slice an 12 cn, .slice ae ne ce, .slice as' ns cs'] w (OpensC w (decide (tagL K nonce be (s.take (ns - 16)) = s.drop (ns - 16))) (strL K nonce (s.take (ns - 16)))) := by
  have HNL : Hid (nonce.length = 12) := hn.len
  have HSL : Hid (s.length = ns) := hS.len
  have h1 : ((12 : Int) != 12) = false := by decide
  obtain ⟨m, hm⟩ : ∃ m, m = ns - 16 := ⟨_, rfl⟩
  have i1 : (ns : Int) - 16 = (m : Int) := by omega
  have i2 : (0 : Int) ≤ (m : Int) := by omega
  have i3 : (m : Int) ≤ (ns : Int) := by omega
  rw [← hm]
  have HM : Hid (m = ns - 16) := hm
  clear hm
  have hmn : m ≤ ns := by have := HM.out; omega
  obtain ⟨hhi, hhB⟩ := hS.cutHigh m hmn
  obtain ⟨p', x', hlo, hlB, _⟩ := hS.cutLow m hmn
  obtain ⟨W, hW⟩ : ∃ W, W = w.alloc (.cells (kc a1 a2 a3 c1 c2 c3).toArray 92) := ⟨_, rfl⟩
  have d0 : Blk W w.heap.size (kc a1 a2 a3 c1 c2 c3) 92 := by rw [hW]; exact Blk.new w _ _
  have q0 : Below w.heap.size w W := by rw [hW]; exact below_alloc w _
  have HW : Hid (W = w.alloc (.cells #[.slice a1 256 c1, .slice a2 60 c2, .slice a3 128 c3] 92)) := hW
  clear hW
  have kW := hk.below q0
  have nW := hn.below q0 (Nat.le_refl _)
  have eW := hE.below q0 (Nat.le_refl _)
  have sW := hS.below q0 (Nat.le_refl _)
  have hsH := hhB W sW
  have hsL := hlB W sW
  obtain ⟨A, hA⟩ : ∃ A, A = s.take m := ⟨_, rfl⟩
  obtain ⟨C, hC⟩ : ∃ C, C = s.drop m := ⟨_, rfl⟩
  rw [← hA] at hsH ⊢
  rw [← hC] at hsL ⊢
  clear hA hC hhB hlB
  obtain ⟨b, hb⟩ : ∃ b, b = decide (tagL K nonce be A = C) := ⟨_, rfl⟩
  unfold kv
  go_enter Tryz.func46, Tryz.ntmps46
  go_upto_region 6 with fail
  rw [← HW.out]
  refine regionG (S := Grows W) (by kernel_rfl) (Below.refl _ W).drew ?_
  refine takeG 0 (some 19) (kv a1 a2 a3 c1 c2 c3) rfl rfl (by kernel_rfl) (by kernel_rfl) (by kernel_rfl) (fun _ _ _ h => h) (ans_key (.tmp 4) rfl (by rfl) w.heap.size rfl (fun w h => d0.grows h)) ?_
  simp only [Act.put, List.setIfInBounds_toArray, List.set_cons_zero, List.set_cons_succ]
  refine takeG 1 (some 20) (.slice an 12 cn) rfl rfl (by kernel_rfl) (by kernel_rfl) (by kernel_rfl) (fun _ _ _ h => h) (ans_plain (by rfl) (fun w _ => rfl)) ?_
  simp only [Act.put, List.setIfInBounds_toArray, List.set_cons_zero, List.set_cons_succ]
  refine takeG 2 (some 21) (.slice ae ne ce) rfl rfl (by kernel_rfl) (by kernel_rfl) (by kernel_rfl) (fun _ _ _ h => h) (ans_plain (by rfl) (fun w _ => rfl)) ?_
  simp only [Act.put, List.setIfInBounds_toArray, List.set_cons_zero, List.set_cons_succ]
  refine takeG 3 (some 22) (.slice as' ns cs') rfl rfl (by kernel_rfl) (by kernel_rfl) (by kernel_rfl) (fun _ _ _ h => h) (ans_plain (by rfl) (fun w _ => rfl)) ?_
  simp only [Act.put, List.setIfInBounds_toArray, List.set_cons_zero, List.set_cons_succ]
  refine takeG 4 (some 23) (.int .i64 (m : Int)) rfl rfl (by kernel_rfl) (by kernel_rfl) (by kernel_rfl) (fun _ _ _ h => h) (ans_plain (by rfl) (fun w _ => rfl)) ?_
  simp only [Act.put, List.setIfInBounds_toArray, List.set_cons_zero, List.set_cons_succ]
  refine takeG 5 (some 24) (.slice as' m cs') rfl rfl (by kernel_rfl) (by kernel_rfl) (by kernel_rfl) (fun _ _ _ h => h) (ans_hi (.tmp 22) (.tmp 23) rfl (by rfl) _ _ _ rfl rfl hhi) ?_
  simp only [Act.put, List.setIfInBounds_toArray, List.set_cons_zero, List.set_cons_succ]
  refine takeG 7 (some 26) (.slice as' ns cs') rfl rfl (by kernel_rfl) (by kernel_rfl) (by kernel_rfl) (fun _ _ _ h => h) (ans_plain (by rfl) (fun w _ => rfl)) ?_
  simp only [Act.put, List.setIfInBounds_toArray, List.set_cons_zero, List.set_cons_succ]
  refine takeG 8 (some 27) (.int .i64 (m : Int)) rfl rfl (by kernel_rfl) (by kernel_rfl) (by kernel_rfl) (fun _ _ _ h => h) (ans_plain (by rfl) (fun w _ => rfl)) ?_
  simp only [Act.put, List.setIfInBounds_toArray, List.set_cons_zero, List.set_cons_succ]
  refine takeG 9 (some 28) (.slice p' (ns - m) x') rfl rfl (by kernel_rfl) (by kernel_rfl) (by kernel_rfl) (fun _ _ _ h => h) (ans_lo (.tmp 26) (.tmp 27) rfl (by rfl) _ _ _ rfl rfl hlo) ?_
  simp only [Act.put, List.setIfInBounds_toArray, List.set_cons_zero, List.set_cons_succ]
  refine callG 6 (some 25) 58 #[.tmp 19, .tmp 20, .tmp 21, .tmp 24] #[92, 32, 32, 32] #[kv a1 a2 a3 c1 c2 c3, .slice an 12 cn, .slice ae ne ce, .slice as' m cs'] rfl rfl rfl (by rfl) (by rfl) (by kernel_rfl) Tryz.call58 fun u1 hg1 hs1 => ?_
  refine (rTag u1 (kW.below hs1) hK (nW.grows hs1) (eW.grows hs1) (hsH.grows hs1) hze (by omega)).mono ?_
  rintro e u2 ⟨p2, m2, x2, rfl, ho2, hG2⟩
  refine ⟨_, rfl, Grows.trans hs1 hG2, ?_⟩
  simp only [Act.put, List.setIfInBounds_toArray, List.set_cons_zero, List.set_cons_succ]
  refine callG 10 (some 29) 20 #[.tmp 25, .tmp 28] #[32, 32] #[.slice p2 m2 x2, .slice p' (ns - m) x'] rfl rfl rfl (by rfl) (by rfl) (by kernel_rfl) Tryz.call20 fun u3 hg3 hs3 => ?_
  refine (rSame u3 (ho2.toBs.grows hg3) (hsL.grows hs3)).mono ?_
  rintro e u4 ⟨rfl, kk, rfl⟩
  rw [← hb]
  refine ⟨_, rfl, Grows.trans hs3 (below_drewN' u3 kk), ?_⟩
  simp only [Act.put, List.setIfInBounds_toArray, List.set_cons_zero, List.set_cons_succ]
  refine takeG 11 (some 30) (.bool (!b)) rfl rfl (by kernel_rfl) (by kernel_rfl) (by kernel_rfl) (fun _ _ _ h => h) (ans_plain (by rfl) (fun w _ => by unfold execOp; go_simp)) ?_
  simp only [Act.put, List.setIfInBounds_toArray, List.set_cons_zero, List.set_cons_succ]
  refine doneG (by kernel_rfl) fun u5 hg5 hs5 => ?_
  have d5 := d0.grows hs5
  cases b with
  | false =>
    go_wp2_with fail
    go_ret2
    unfold OpensC
    rw [← hb, if_neg (by decide)]
    exact ⟨rfl, q0.trans (Below.mono hs5 q0.size)⟩
  | true =>
    go_wp2_with fail
    refine regionG (S := Grows u5) (by kernel_rfl) (Below.refl _ u5).drew ?_
    refine takeG 0 (some 31) (kv a1 a2 a3 c1 c2 c3) rfl rfl (by kernel_rfl) (by kernel_rfl) (by kernel_rfl) (fun _ _ _ h => h) (ans_key (.tmp 4) rfl (by rfl) w.heap.size rfl (fun w h => d5.grows h)) ?_
    simp only [Act.put, List.setIfInBounds_toArray, List.set_cons_zero, List.set_cons_succ]
    refine takeG 1 (some 32) (.slice an 12 cn) rfl rfl (by kernel_rfl) (by kernel_rfl) (by kernel_rfl) (fun _ _ _ h => h) (ans_plain (by rfl) (fun w _ => rfl)) ?_
    simp only [Act.put, List.setIfInBounds_toArray, List.set_cons_zero, List.set_cons_succ]
    refine takeG 2 (some 33) (.slice as' ns cs') rfl rfl (by kernel_rfl) (by kernel_rfl) (by kernel_rfl) (fun _ _ _ h => h) (ans_plain (by rfl) (fun w _ => rfl)) ?_
    simp only [Act.put, List.setIfInBounds_toArray, List.set_cons_zero, List.set_cons_succ]
    refine takeG 3 (some 34) (.int .i64 (m : Int)) rfl rfl (by kernel_rfl) (by kernel_rfl) (by kernel_rfl) (fun _ _ _ h => h) (ans_plain (by rfl) (fun w _ => rfl)) ?_
    simp only [Act.put, List.setIfInBounds_toArray, List.set_cons_zero, List.set_cons_succ]
    refine takeG 4 (some 35) (.slice as' m cs') rfl rfl (by kernel_rfl) (by kernel_rfl) (by kernel_rfl) (fun _ _ _ h => h) (ans_hi (.tmp 33) (.tmp 34) rfl (by rfl) _ _ _ rfl rfl hhi) ?_
    simp only [Act.put, List.setIfInBounds_toArray, List.set_cons_zero, List.set_cons_succ]
    refine callG 5 (some 36) 57 #[.tmp 31, .tmp 32, .tmp 35] #[92, 32, 32] #[kv a1 a2 a3 c1 c2 c3, .slice an 12 cn, .slice as' m cs'] rfl rfl rfl (by rfl) (by rfl) (by kernel_rfl) Tryz.call57 fun u6 hg6 hs6 => ?_
    have g6 : Grows W u6 := Grows.trans hs5 hs6
    refine (rStream u6 (kW.below g6) hK (nW.grows g6) (hsH.grows g6) (by omega)).mono ?_
    rintro e u7 ⟨p7, m7, x7, rfl, ho7, hG7⟩
    refine ⟨_, rfl, Grows.trans hs6 hG7, ?_⟩
    simp only [Act.put, List.setIfInBounds_toArray, List.set_cons_zero, List.set_cons_succ]
    refine takeG 6 (some 8) (.slice p7 m7 x7) rfl rfl (by kernel_rfl) (by kernel_rfl) (by kernel_rfl) (fun _ _ _ h => h) (ans_plain (by rfl) (fun w _ => rfl)) ?_
    simp only [Act.put, List.setIfInBounds_toArray, List.set_cons_zero, List.set_cons_succ]
    refine takeG 7 (some 9) (.int .i64 0) rfl rfl (by kernel_rfl) (by kernel_rfl) (by kernel_rfl) (fun _ _ _ h => h) (ans_plain (by rfl) (fun w _ => rfl)) ?_
    simp only [Act.put, List.setIfInBounds_toArray, List.set_cons_zero, List.set_cons_succ]
    refine doneG (by kernel_rfl) fun u8 hg8 hs8 => ?_
    have g8 : Grows W u8 := Grows.trans hs5 hs8
    have hl8 : w.heap.size ≤ u6.heap.size := Nat.le_trans q0.size (Below.size g6)
    go_wp2_with fail
    go_ret2
    unfold OpensC
    rw [← hb, if_pos rfl]
    exact ⟨p7, m7, x7, rfl, (ho7.below hg8 (Nat.le_refl _)).mono hl8, q0.trans (Below.mono g8 q0.size)⟩

end Go.Proofs.YtjpejheipkfanaaGreatDoor

/-
  The contract of layer 6's reference's New: a key's box, words and element. Condition: a key of 32 bytes.
-/
namespace Go.Proofs.YtjpejheipkfanaaGreatDoor
open Go.RowKit

/-- A store of one cell, the one that may come up. -/
theorem opStB {ops : Array Oper} {Q : Exit → Act → World → Prop} {i : Nat} {oi : Oper} (hi : ops[i]? = some oi) (hd : oi.dst = none) (hg : oi.guard = none) (x y : Operand) (ho : oi.op = .store 90 x y) {K : Act → World → Prop} {a : Act} {w : World} (g o : Nat) (v u : Value) (hx : a.eval x = .pointer (some ⟨g, o, none⟩)) (hy : a.eval y = v) (p : Option Addr) (n c : Nat) (hv : v = .slice p n c) (hc : w.cell? ⟨g, o, none⟩ = some u) (hf : w.frozen? ⟨g, o, none⟩ = false) (k : K a (w.setCell ⟨g, o, none⟩ v)) : wpOp Tryz.prog ops Q i K a w := by
  have hk : Hid _ := k
  subst hv
  clear k
  unfold wpOp
  simp only [hi]
  rw [if_pos (by simp [Region.wanted, hg])]
  left
  unfold Oper.wp execOp
  simp only [ho, hx, hy]
  go_simp
  exact hk.out
/-- Bytes, words and bools outlast a store into a variable that holds three slices. -/
theorem notK {w : World} {g : Nat} {s1 s2 s3 : Value} {t : TypeId} (hb : Blk w g [s1, s2, s3] t) (h1 : ∃ p n c, s1 = .slice p n c) (h2 : ∃ p n c, s2 = .slice p n c) (h3 : ∃ p n c, s3 = .slice p n c) {o : Nat} {v : Value} (hc : w.cell? ⟨g, o, none⟩ = some v) : ∃ p n c, v = .slice p n c := by
  rw [hb.cell] at hc
  match o, hc with
  | 0, hc => simp at hc; rw [← hc]; exact h1
  | 1, hc => simp at hc; rw [← hc]; exact h2
  | 2, hc => simp at hc; rw [← hc]; exact h3
theorem Bs.setK {w : World} {g : Nat} {s1 s2 s3 : Value} {t : TypeId} (hb : Blk w g [s1, s2, s3] t) (h1 : ∃ p n c, s1 = .slice p n c) (h2 : ∃ p n c, s2 = .slice p n c) (h3 : ∃ p n c, s3 = .slice p n c) (o : Nat) (u : Value) {a : Option Addr} {n c : Nat} {l : List UInt8} (h : Bs w a n c l) : Bs (w.setCell ⟨g, o, none⟩ u) a n c l := by
  refine ⟨h.1, h.2.1, h.2.2.1, h.2.2.2.1, fun i hi => ?_⟩
  obtain ⟨b, o', ha, hc⟩ := h.2.2.2.2 i hi
  have hne : b ≠ g := fun e => by
    subst e
    obtain ⟨p, n, c, e⟩ := notK hb h1 h2 h3 hc
    simp at e
  refine ⟨b, o', ha, ?_⟩
  rw [World.cell?_of_block (w := w) (a := ⟨b, o' + i, none⟩) (Below.heap_setCell _ _ _ _ hne)]
  exact hc
theorem Bo.setK {w : World} {g : Nat} {s1 s2 s3 : Value} {t : TypeId} (hb : Blk w g [s1, s2, s3] t) (h1 : ∃ p n c, s1 = .slice p n c) (h2 : ∃ p n c, s2 = .slice p n c) (h3 : ∃ p n c, s3 = .slice p n c) (o : Nat) (u : Value) {a : Option Addr} {n c : Nat} {l : List Bool} (h : Bo w a n c l) : Bo (w.setCell ⟨g, o, none⟩ u) a n c l := by
  refine ⟨h.1, h.2.1, h.2.2.1, h.2.2.2.1, fun i hi => ?_⟩
  obtain ⟨b, o', ha, hc⟩ := h.2.2.2.2 i hi
  have hne : b ≠ g := fun e => by
    subst e
    obtain ⟨p, n, c, e⟩ := notK hb h1 h2 h3 hc
    simp at e
  refine ⟨b, o', ha, ?_⟩
  rw [World.cell?_of_block (w := w) (a := ⟨b, o' + i, none⟩) (Below.heap_setCell _ _ _ _ hne)]
  exact hc
theorem Bss.setK {w : World} {g : Nat} {s1 s2 s3 : Value} {t : TypeId} (hb : Blk w g [s1, s2, s3] t) (h1 : ∃ p n c, s1 = .slice p n c) (h2 : ∃ p n c, s2 = .slice p n c) (h3 : ∃ p n c, s3 = .slice p n c) (o : Nat) (u : Value) {a : Option Addr} {n c : Nat} {ls : List (List UInt8)} (hn : 3 < n) (h : Bss w a n c ls) : Bss (w.setCell ⟨g, o, none⟩ u) a n c ls := by
  obtain ⟨b0, o0, hab, _, hcs⟩ := h.at (by omega)
  have hne : b0 ≠ g := fun e => by
    subst e
    obtain ⟨p, m, q, hc, _⟩ := hcs (n - 1) (by omega)
    rw [hb.cell, List.getElem?_eq_none (by simp; omega)] at hc
    simp at hc
  refine ⟨h.1, h.2.1, h.2.2.1, fun i hi => ?_⟩
  obtain ⟨p, m, q, hc, hB⟩ := hcs i hi
  refine ⟨b0, o0, p, m, q, hab, ?_, Bs.setK hb h1 h2 h3 o u hB⟩
  rw [World.cell?_of_block (w := w) (a := ⟨b0, o0 + i, none⟩) (Below.heap_setCell _ _ _ _ hne)]
  exact hc
/-- What New leaves. -/
def HasK (w : World) (K : List UInt8) (e : Ending) (w' : World) : Prop := ∃ a1 a2 a3 c1 c2 c3, e = .returned (kv a1 a2 a3 c1 c2 c3) ∧ KeyR w' K a1 a2 a3 c1 c2 c3 ∧ Below w.heap.size w w'

set_option maxRecDepth 100000 in
set_option maxHeartbeats 4000000 in
theorem rNewK (w : World) {a : Option Addr} {c : Nat} {key : List UInt8} (ha : Bs w a 32 c key) : Calls Tryz.prog 43 #[.slice a 32 c] w (HasK w (keyF key)) := by
  have HKL : Hid ((keyF key).length = 240) := keyF_length ha.len
  have CW : Hid (∀ w p q x y, Bs w p 256 q boxT → Bs w x 32 y key → Calls Tryz.prog 60 #[.slice p 256 q, .slice x 32 y] w fun e w' => ∃ p q, e = .returned (.slice p 60 q) ∧ Bss w' p 60 q (wdsL (keyF key)) ∧ Below w.heap.size w w') := fun w p q x y h h' => rWordsA w h h'
  have HH : Hid (hKey (keyF key) = feB (aesL (keyF key) (List.replicate 16 0))) := rfl
  have HAL : Hid ((aesL (keyF key) (List.replicate 16 0)).length = 16) := blkS_length HKL.out (by simp) (Nat.le_refl _)
  have CB : Hid (∀ w p q x y z t, Bs w p 256 q boxT → Bss w x 60 y (wdsL (keyF key)) → Bs w z 16 t (List.replicate 16 0) → Calls Tryz.prog 62 #[.slice p 256 q, .slice x 60 y, .slice z 16 t] w (Gives w (aesL (keyF key) (List.replicate 16 0)))) := fun w p q x y z t h h' h2 => rBlock w h HKL.out h' h2
  generalize aesL (keyF key) (List.replicate 16 0) = Z at *
  obtain ⟨K, hK⟩ : ∃ K, K = keyF key := ⟨_, rfl⟩
  rw [← hK] at CW HH CB ⊢
  clear hK HKL
  go_enter Tryz.func43, Tryz.ntmps43
  go_wp2_with fail
  refine (rBoxes _).mono ?_
  rintro e u1 ⟨p1, m1, x1, rfl, ho1, hb1⟩
  have hB1 := ho1.toBs
  have hm1 : m1 = 256 := by rw [← hB1.len]; exact boxT_length
  subst hm1
  have q1 := (below_alloc w (.cells #[.slice none 0 0, .slice none 0 0, .slice none 0 0] 92)).trans (hb1.mono (by simp))
  have r1 : Blk u1 w.heap.size [.slice none 0 0, .slice none 0 0, .slice none 0 0] 92 := (Blk.new w _ _).below hb1 (by simp)
  clear hb1 ho1
  go_upto_region 2 with fail
  obtain ⟨U, hU⟩ : ∃ U, U = u1.alloc (.cells #[.slice p1 256 x1, .slice none 0 0, .slice none 0 0] 92) := ⟨_, rfl⟩
  rw [← hU]
  have dU : Blk U u1.heap.size [.slice p1 256 x1, .slice none 0 0, .slice none 0 0] 92 := by rw [hU]; exact Blk.new u1 _ _
  have gU : Grows u1 U := by rw [hU]; exact Grows.alloc _ _
  clear hU
  have e0 := dU.cell 0
  simp only [List.getElem?_cons_zero] at e0
  go_wp2_with (go_at_call 60; go_must (refine (CW.out U _ _ _ _ (hB1.grows gU) (ha.below (q1.trans (Below.mono gU q1.size)) (Nat.le_refl _))).mono ?_); rintro e u2 ⟨p2, x2, rfl, hW2, hb2⟩; have d2 := dU.below hb2 dU.lt; have e1 := d2.cell 1; have f1 := d2.free 1; simp only [List.getElem?_cons_zero, List.getElem?_cons_succ] at e1)
  obtain ⟨V, hV⟩ : ∃ V, V = u2.setCell ⟨u1.heap.size, 1, none⟩ (.slice p2 60 x2) := ⟨_, rfl⟩
  rw [← hV]
  have hg3 : w.heap.size ≤ u1.heap.size := q1.size
  have hG2 : Below u1.heap.size u1 u2 := Below.trans gU (Below.mono hb2 (Below.size gU))
  have dV : Blk V u1.heap.size [.slice p1 256 x1, .slice p2 60 x2, .slice none 0 0] 92 := by rw [hV]; exact d2.setC 1 _
  have bV : Bs V p1 256 x1 boxT := by rw [hV]; exact Bs.setK d2 ⟨_, _, _, rfl⟩ ⟨_, _, _, rfl⟩ ⟨_, _, _, rfl⟩ 1 _ ((hB1.grows gU).below hb2 (Nat.le_refl _))
  have wV : Bss V p2 60 x2 (wdsL K) := by rw [hV]; exact Bss.setK d2 ⟨_, _, _, rfl⟩ ⟨_, _, _, rfl⟩ ⟨_, _, _, rfl⟩ 1 _ (by omega) hW2
  have gV : Below u1.heap.size u1 V := by rw [hV]; exact hG2.setCell (Nat.le_refl _) _
  have rV : Blk V w.heap.size [.slice none 0 0, .slice none 0 0, .slice none 0 0] 92 := by rw [hV]; exact (r1.below hG2 r1.lt).setO (Nat.ne_of_lt r1.lt) _
  clear hV d2 dU hW2 hb2 hG2 e0 e1 f1 gU r1 CW
  refine regionG (S := fun w' => w'.cell? ⟨u1.heap.size, 0, none⟩ = some (.slice p1 256 x1) ∧ w'.cell? ⟨u1.heap.size, 1, none⟩ = some (.slice p2 60 x2)) (by kernel_rfl) ⟨dV.cell 0, dV.cell 1⟩ ?_
  refine takeG 0 (some 11) (.pointer (some ⟨u1.heap.size, 0, none⟩)) rfl rfl (by kernel_rfl) (by kernel_rfl) (by kernel_rfl) (fun _ _ _ h => h) (ans_at (.tmp 3) 0 (by decide) rfl (by rfl) u1.heap.size rfl) ?_
  simp only [Act.put, List.setIfInBounds_toArray, List.set_cons_zero, List.set_cons_succ]
  refine takeG 1 (some 12) (.slice p1 256 x1) rfl rfl (by kernel_rfl) (by kernel_rfl) (by kernel_rfl) (fun _ _ _ h => h) (ans_c8 (.tmp 11) rfl (by rfl) u1.heap.size 0 _ rfl (fun w h => h.1)) ?_
  simp only [Act.put, List.setIfInBounds_toArray, List.set_cons_zero, List.set_cons_succ]
  refine takeG 2 (some 13) (.pointer (some ⟨u1.heap.size, 1, none⟩)) rfl rfl (by kernel_rfl) (by kernel_rfl) (by kernel_rfl) (fun _ _ _ h => h) (ans_at (.tmp 3) 1 (by decide) rfl (by rfl) u1.heap.size rfl) ?_
  simp only [Act.put, List.setIfInBounds_toArray, List.set_cons_zero, List.set_cons_succ]
  refine takeG 3 (some 14) (.slice p2 60 x2) rfl rfl (by kernel_rfl) (by kernel_rfl) (by kernel_rfl) (fun _ _ _ h => h) (ans_cS (.tmp 13) rfl (by rfl) u1.heap.size 1 _ rfl (fun w h => h.2)) ?_
  simp only [Act.put, List.setIfInBounds_toArray, List.set_cons_zero, List.set_cons_succ]
  have hVl := dV.lt
  have keep : ∀ u, Grows V u → u.cell? ⟨u1.heap.size, 0, none⟩ = some (.slice p1 256 x1) ∧ u.cell? ⟨u1.heap.size, 1, none⟩ = some (.slice p2 60 x2) := fun u h => ⟨(dV.grows h).cell 0, (dV.grows h).cell 1⟩
  refine oneG 4 (by kernel_rfl) fun u3 hg3' hs3 => ?_
  have g3 : Grows V u3 := Grows.trans (Below.refl _ V).drew hg3'
  refine opMk8 (some 15) rfl rfl rfl (.const (.int .i64 16)) (.const (.int .i64 16)) rfl 16 rfl rfl (by decide) fun u4 hZ hG4 => ⟨keep _ (Grows.trans g3 hG4), ?_⟩
  have g4 : Grows V u4 := Grows.trans g3 hG4
  simp only [Act.put, List.setIfInBounds_toArray, List.set_cons_zero, List.set_cons_succ]
  refine callG 5 (some 16) 62 #[.tmp 12, .tmp 14, .tmp 15] #[32, 63, 32] #[.slice p1 256 x1, .slice p2 60 x2, .slice (some ⟨u3.heap.size, 0, none⟩) 16 16] rfl rfl rfl (by rfl) (by rfl) (by kernel_rfl) Tryz.call62 fun u5 hg5 hs5 => ?_
  have g5 : Grows V u5 := Grows.trans g4 hg5
  refine (CB.out u5 _ _ _ _ _ _ (bV.grows g5) (wV.below g5 (Nat.le_refl _)) (hZ.toBs.grows hg5)).mono ?_
  rintro e u6 ⟨p6, m6, x6, rfl, ho6, hG6⟩
  have g6 : Grows V u6 := Grows.trans g5 hG6
  have hB6 := ho6.toBs
  have hm6 : m6 = 16 := by rw [← hB6.len]; exact HAL.out
  subst hm6
  refine ⟨_, rfl, keep _ g6, ?_⟩
  simp only [Act.put, List.setIfInBounds_toArray, List.set_cons_zero, List.set_cons_succ]
  refine callG 6 (some 17) 61 #[.tmp 16] #[32] #[.slice p6 16 x6] rfl rfl rfl (by rfl) (by rfl) (by kernel_rfl) Tryz.call61 fun u7 hg7 hs7 => ?_
  refine (rBits u7 (hB6.grows hg7) (by omega)).mono ?_
  rintro e u8 ⟨p8, x8, rfl, hB8, _, hG8⟩
  rw [fb_length, ← HH.out] at hB8
  rw [fb_length]
  have g8 : Grows V u8 := Grows.trans (Grows.trans g6 hg7) hG8
  refine ⟨_, rfl, keep _ g8, ?_⟩
  simp only [Act.put, List.setIfInBounds_toArray, List.set_cons_zero, List.set_cons_succ]
  refine takeG 7 (some 18) (.pointer (some ⟨u1.heap.size, 2, none⟩)) rfl rfl (by kernel_rfl) (by kernel_rfl) (by kernel_rfl) (fun _ _ _ h => h) (ans_at (.tmp 3) 2 (by decide) rfl (by rfl) u1.heap.size rfl) ?_
  simp only [Act.put, List.setIfInBounds_toArray, List.set_cons_zero, List.set_cons_succ]
  refine oneG 8 (by kernel_rfl) fun u9 hg9 hs9 => ?_
  have g9 : Grows V u9 := Grows.trans g8 hg9
  have d9 := dV.grows g9
  refine opStB rfl rfl rfl (.tmp 18) (.tmp 17) rfl u1.heap.size 2 (.slice p8 128 x8) _ rfl rfl p8 128 x8 rfl (d9.cell 2) (d9.free 2) ?_
  obtain ⟨ua, hua⟩ : ∃ ua, ua = u9.setCell ⟨u1.heap.size, 2, none⟩ (.slice p8 128 x8) := ⟨_, rfl⟩
  rw [← hua]
  have da : Blk ua u1.heap.size [.slice p1 256 x1, .slice p2 60 x2, .slice p8 128 x8] 92 := by rw [hua]; exact d9.setC 2 _
  have ba : Bs ua p1 256 x1 boxT := by rw [hua]; exact Bs.setK d9 ⟨_, _, _, rfl⟩ ⟨_, _, _, rfl⟩ ⟨_, _, _, rfl⟩ 2 _ (bV.grows g9)
  have wa : Bss ua p2 60 x2 (wdsL K) := by rw [hua]; exact Bss.setK d9 ⟨_, _, _, rfl⟩ ⟨_, _, _, rfl⟩ ⟨_, _, _, rfl⟩ 2 _ (by omega) (wV.below g9 (Nat.le_refl _))
  have la : Bo ua p8 128 x8 (fb (hKey K)) := by rw [hua]; exact Bo.setK d9 ⟨_, _, _, rfl⟩ ⟨_, _, _, rfl⟩ ⟨_, _, _, rfl⟩ 2 _ (hB8.below hg9 (Nat.le_refl _))
  have ra : Blk ua w.heap.size [.slice none 0 0, .slice none 0 0, .slice none 0 0] 92 := by rw [hua]; exact (rV.grows g9).setO (by have := q1.size; have := rV.lt; intro e; have h1 := (rV.grows g9).cell 0; rw [e, d9.cell 0] at h1; simp at h1) _
  have ga : Below u1.heap.size u1 ua := by rw [hua]; exact (gV.trans (Below.mono g9 (Nat.le_of_lt hVl))).setCell (Nat.le_refl _) _
  clear hua
  refine ⟨⟨da.cell 0, da.cell 1⟩, ?_⟩
  refine doneG (by kernel_rfl) fun ub hgb hsb => ?_
  have db := da.grows hgb
  have rb := ra.grows hgb
  have c0 := db.cell 0
  have c1 := db.cell 1
  have c2 := db.cell 2
  have k0 := rb.cell 0
  have k1 := rb.cell 1
  have k2 := rb.cell 2
  have f0 := rb.free 0
  have f1 := rb.free 1
  have f2 := rb.free 2
  simp only [List.getElem?_cons_zero, List.getElem?_cons_succ] at c0 c1 c2 k0 k1 k2
  have B : Hid (Blk (((ub.setCell ⟨w.heap.size, 0, none⟩ (.slice p1 256 x1)).setCell ⟨w.heap.size, 1, none⟩ (.slice p2 60 x2)).setCell ⟨w.heap.size, 2, none⟩ (.slice p8 128 x8)) w.heap.size (kc p1 p2 p8 x1 x2 x8) 92) := ((rb.setC 0 _).setC 1 _).setC 2 _
  have hS : ∀ {p n c}, ∃ q m d, Value.slice p n c = .slice q m d := ⟨_, _, _, rfl⟩
  have X : Hid (KeyR (((ub.setCell ⟨w.heap.size, 0, none⟩ (.slice p1 256 x1)).setCell ⟨w.heap.size, 1, none⟩ (.slice p2 60 x2)).setCell ⟨w.heap.size, 2, none⟩ (.slice p8 128 x8)) K p1 p2 p8 x1 x2 x8) :=
    ⟨Bs.setK ((rb.setC 0 _).setC 1 _) hS hS hS 2 _ (Bs.setK (rb.setC 0 _) hS hS hS 1 _ (Bs.setK rb hS hS hS 0 _ (ba.grows hgb))), Bss.setK ((rb.setC 0 _).setC 1 _) hS hS hS 2 _ (by omega) (Bss.setK (rb.setC 0 _) hS hS hS 1 _ (by omega) (Bss.setK rb hS hS hS 0 _ (by omega) (wa.below hgb (Nat.le_refl _)))), Bo.setK ((rb.setC 0 _).setC 1 _) hS hS hS 2 _ (Bo.setK (rb.setC 0 _) hS hS hS 1 _ (Bo.setK rb hS hS hS 0 _ (la.below hgb (Nat.le_refl _))))⟩
  have qb : Below w.heap.size w ub := (q1.trans (Below.mono ga q1.size)).trans (Below.mono hgb (Nat.le_trans q1.size (Below.size ga)))
  go_wp2_with fail
  exact bodyPost_ret (v := kv p1 p2 p8 x1 x2 x8) (results_cell_row Tryz.results43 _ _ w.heap.size 92 (kc p1 p2 p8 x1 x2 x8).toArray (0, 0) _ rfl B.out Tryz.underlying92 rfl (by kernel_rfl)) rfl ⟨p1, p2, p8, x1, x2, x8, rfl, X.out, ((qb.setCell (Nat.le_refl _) _).setCell (Nat.le_refl _) _).setCell (Nat.le_refl _) _⟩

end Go.Proofs.YtjpejheipkfanaaGreatDoor

/-
  The contract of the program's Same. No condition.
-/
namespace Go.Proofs.YtjpejheipkfanaaGreatDoor
open Go.RowKit

theorem orx {t a b : Int} (h0 : 0 ≤ t) (h1 : t ≤ 255) (a0 : 0 ≤ a) (a1 : a ≤ 255) (b0 : 0 ≤ b) (b1 : b ≤ 255) :
    0 ≤ bits .or .u8 t (bits .xor .u8 a b) ∧ bits .or .u8 t (bits .xor .u8 a b) ≤ 255 ∧ (bits .or .u8 t (bits .xor .u8 a b) = 0 ↔ t = 0 ∧ a = b) := by
  have hx := u8_xor a b a0 (by omega) b0 (by omega)
  have hlt : a.toNat ^^^ b.toNat < 2 ^ 8 := Nat.xor_lt_two_pow (by omega) (by omega)
  rw [hx, u8_or t _ h0 (by omega) (by omega) (by omega), Int.toNat_natCast]
  have hlt2 : t.toNat ||| (a.toNat ^^^ b.toNat) < 2 ^ 8 := Nat.or_lt_two_pow (by omega) hlt
  refine ⟨by omega, by omega, ?_⟩
  constructor
  · intro h
    have h : t.toNat ||| (a.toNat ^^^ b.toNat) = 0 := by omega
    rw [Nat.or_eq_zero_iff] at h
    have e := congrArg (· ^^^ b.toNat) h.2
    simp only [Nat.xor_assoc, Nat.xor_self, Nat.xor_zero, Nat.zero_xor] at e
    omega
  · rintro ⟨rfl, rfl⟩
    simp

theorem osame_step {l m : List UInt8} {k : Nat} {t : Int} (h : Hid (t = 0 ↔ ∀ j, j < k → bt l j = bt m j))
    (O : Hid (0 ≤ bits .or .u8 t (bits .xor .u8 (bt l k) (bt m k)) ∧ bits .or .u8 t (bits .xor .u8 (bt l k) (bt m k)) ≤ 255 ∧ (bits .or .u8 t (bits .xor .u8 (bt l k) (bt m k)) = 0 ↔ t = 0 ∧ bt l k = bt m k))) :
    Hid (bits .or .u8 t (bits .xor .u8 (bt l k) (bt m k)) = 0 ↔ ∀ j, j < k + 1 → bt l j = bt m j) := by
  show _ ↔ _
  rw [O.out.2.2, h.out]
  constructor
  · rintro ⟨h1, h2⟩ j hj
    by_cases e : j = k
    · subst e; exact h2
    · exact h1 j (by omega)
  · intro h1
    exact ⟨fun j hj => h1 j (by omega), h1 k (by omega)⟩
theorem osame_end {l m : List UInt8} {n k : Nat} {t : Int} (H : Hid (l.length = n ∧ m.length = n)) (h : ¬ k < n) (hj : Hid (t = 0 ↔ ∀ j, j < k → bt l j = bt m j)) : (t == 0) = decide (l = m) := by
  obtain ⟨h1, h2⟩ := H.out
  rw [Bool.eq_iff_iff, beq_iff_eq, decide_eq_true_iff, hj.out]
  constructor
  · intro h3
    exact bt_inj (by omega) fun i hi => h3 i (by omega)
  · rintro rfl j _
    rfl

set_option maxHeartbeats 400000 in
theorem oSame (w : World) {a b : Option Addr} {n c n' c' : Nat} {l m : List UInt8} (ha : Bs w a n c l) (hb : Bs w b n' c' m) :
    Calls Tryz.prog 71 #[.slice a n c, .slice b n' c'] w fun e w' => e = .returned (.bool (decide (l = m))) ∧ w = w' := by
  have h1 := ha.max
  have h2 := hb.max
  by_cases hn : n = n'
  · subst hn
    by_cases h0 : n = 0
    · subst h0
      have e : decide (l = m) = true := by
        have e1 := ha.len
        have e2 := hb.len
        simp at e1 e2
        simp [e1, e2]
      rw [e]
      clear e ha hb
      go_enter Tryz.func71, Tryz.ntmps71
      go_wp2
      refine wp_loop_rounds 1 ?_; rw [rounds_succ]; go_wp2
      go_ret
      exact ⟨rfl, rfl⟩
    · obtain ⟨x, o, rfl, hx, hc⟩ := ha.at (by omega)
      obtain ⟨y, q, rfl, hy, hd⟩ := hb.at (by omega)
      have e1 := ha.len
      have e2 := hb.len
      have H : Hid (l.length = n ∧ m.length = n) := ⟨e1, e2⟩
      clear e1 e2 ha hb
      go_enter Tryz.func71, Tryz.ntmps71
      go_wp2
      go_loop [5, 15] (fun u i => ∃ (k : Nat) (t : Int), k ≤ n ∧ i = .int .i64 k ∧ u = .int .u8 t ∧ 0 ≤ t ∧ t ≤ 255 ∧ Hid (t = 0 ↔ ∀ j, j < k → bt l j = bt m j)) (fun _ i => n - (intOf i).toNat)
      case atStart => exact ⟨0, 0, Nat.zero_le _, rfl, rfl, by omega, by omega, ⟨fun _ j hj => by omega, fun _ => rfl⟩⟩
      case round =>
        obtain ⟨k, t, hk, rfl, rfl, t0, t1, hj⟩ := hrel
        by_cases hlt : k < n
        · have c1 := hc k hlt
          have c2 := hd k hlt
          have O : Hid (_ ∧ _ ∧ _) := orx t0 t1 (bt_lo l k) (bt_hi l k) (bt_lo m k) (bt_hi m k)
          clear hc hd
          go_wp2
          go_round
          case rel => exact ⟨k + 1, _, by omega, by go_num, rfl, O.out.1, O.out.2.1, osame_step hj O⟩
          case measure => simp [intOf]; omega
        · go_wp2
          go_ret
          exact ⟨ret_bool (osame_end H hlt hj), rfl⟩
  · have hq' : ((n : Int) != (n' : Int)) = true := by simp; omega
    have e : decide (l = m) = false := by
      have e1 := ha.len
      have e2 := hb.len
      simp
      intro h
      rw [h] at e1
      omega
    rw [e]
    clear e ha hb
    go_enter Tryz.func71, Tryz.ntmps71
    go_wp2
    go_ret
    exact ⟨rfl, rfl⟩

end Go.Proofs.YtjpejheipkfanaaGreatDoor
