/-
  6 texts in one. No statement of the seat is proved here.
-/
import Derived.Test.YtjpejheipkfanaaDoorG14
import Derived.Deep.RegionLaw
import Derived.BigRegion
/-
  The contract of layer 6's reference's New: a key's box, words and element. Condition: a key of 32 bytes.
-/
namespace Go.Proofs.YtjpejheipkfanaaDoor
open Go.RowKit

/-- Bytes, words and bools outlast a store into a variable that holds three slices. -/
theorem notK {w : World} {g : Nat} {s1 s2 s3 : Value} {t : TypeId} (hb : Blk w g [s1, s2, s3] t) (h1 : ∃ p n c, s1 = .slice p n c) (h2 : ∃ p n c, s2 = .slice p n c) (h3 : ∃ p n c, s3 = .slice p n c) {o : Nat} {v : Value} (hc : w.cell? ⟨g, o, none⟩ = some v) : ∃ p n c, v = .slice p n c := by
  rw [hb.cell] at hc
  match o, hc with
  | 0, hc => simp at hc; rw [← hc]; exact h1
  | 1, hc => simp at hc; rw [← hc]; exact h2
  | 2, hc => simp at hc; rw [← hc]; exact h3
theorem Bs.setK {w : World} {g : Nat} {s1 s2 s3 : Value} {t : TypeId} (hb : Blk w g [s1, s2, s3] t) (h1 : ∃ p n c, s1 = .slice p n c) (h2 : ∃ p n c, s2 = .slice p n c) (h3 : ∃ p n c, s3 = .slice p n c) (o : Nat) (u : Value) {a : Option Addr} {n c : Nat} {l : List UInt8} (h : Bs w a n c l) : Bs (w.setCell ⟨g, o, none⟩ u) a n c l := by
  refine ⟨h.1, h.2.1, h.2.2.1, h.2.2.2.1, fun i hi => ?_⟩
  obtain ⟨b, o', ha, hc⟩ := h.2.2.2.2 i hi
  have hne : b ≠ g := fun e => by
    subst e
    obtain ⟨p, n, c, e⟩ := notK hb h1 h2 h3 hc
    simp at e
  refine ⟨b, o', ha, ?_⟩
  rw [World.cell?_of_block (w := w) (a := ⟨b, o' + i, none⟩) (Below.heap_setCell _ _ _ _ hne)]
  exact hc
theorem Bo.setK {w : World} {g : Nat} {s1 s2 s3 : Value} {t : TypeId} (hb : Blk w g [s1, s2, s3] t) (h1 : ∃ p n c, s1 = .slice p n c) (h2 : ∃ p n c, s2 = .slice p n c) (h3 : ∃ p n c, s3 = .slice p n c) (o : Nat) (u : Value) {a : Option Addr} {n c : Nat} {l : List Bool} (h : Bo w a n c l) : Bo (w.setCell ⟨g, o, none⟩ u) a n c l := by
  refine ⟨h.1, h.2.1, h.2.2.1, h.2.2.2.1, fun i hi => ?_⟩
  obtain ⟨b, o', ha, hc⟩ := h.2.2.2.2 i hi
  have hne : b ≠ g := fun e => by
    subst e
    obtain ⟨p, n, c, e⟩ := notK hb h1 h2 h3 hc
    simp at e
  refine ⟨b, o', ha, ?_⟩
  rw [World.cell?_of_block (w := w) (a := ⟨b, o' + i, none⟩) (Below.heap_setCell _ _ _ _ hne)]
  exact hc
theorem Bss.setK {w : World} {g : Nat} {s1 s2 s3 : Value} {t : TypeId} (hb : Blk w g [s1, s2, s3] t) (h1 : ∃ p n c, s1 = .slice p n c) (h2 : ∃ p n c, s2 = .slice p n c) (h3 : ∃ p n c, s3 = .slice p n c) (o : Nat) (u : Value) {a : Option Addr} {n c : Nat} {ls : List (List UInt8)} (hn : 3 < n) (h : Bss w a n c ls) : Bss (w.setCell ⟨g, o, none⟩ u) a n c ls := by
  obtain ⟨b0, o0, hab, _, hcs⟩ := h.at (by omega)
  have hne : b0 ≠ g := fun e => by
    subst e
    obtain ⟨p, m, q, hc, _⟩ := hcs (n - 1) (by omega)
    rw [hb.cell, List.getElem?_eq_none (by simp; omega)] at hc
    simp at hc
  refine ⟨h.1, h.2.1, h.2.2.1, fun i hi => ?_⟩
  obtain ⟨p, m, q, hc, hB⟩ := hcs i hi
  refine ⟨b0, o0, p, m, q, hab, ?_, Bs.setK hb h1 h2 h3 o u hB⟩
  rw [World.cell?_of_block (w := w) (a := ⟨b0, o0 + i, none⟩) (Below.heap_setCell _ _ _ _ hne)]
  exact hc
/-- What New leaves. -/
def HasK (w : World) (K : List UInt8) (e : Ending) (w' : World) : Prop := ∃ a1 a2 a3 c1 c2 c3, e = .returned (kv a1 a2 a3 c1 c2 c3) ∧ KeyR w' K a1 a2 a3 c1 c2 c3 ∧ Below w.heap.size w w'

end Go.Proofs.YtjpejheipkfanaaDoor

/-
  The contract of the program's Same. No condition.
-/
namespace Go.Proofs.YtjpejheipkfanaaDoor
open Go.RowKit

theorem orx {t a b : Int} (h0 : 0 ≤ t) (h1 : t ≤ 255) (a0 : 0 ≤ a) (a1 : a ≤ 255) (b0 : 0 ≤ b) (b1 : b ≤ 255) :
    0 ≤ bits .or .u8 t (bits .xor .u8 a b) ∧ bits .or .u8 t (bits .xor .u8 a b) ≤ 255 ∧ (bits .or .u8 t (bits .xor .u8 a b) = 0 ↔ t = 0 ∧ a = b) := by
  have hx := u8_xor a b a0 (by omega) b0 (by omega)
  have hlt : a.toNat ^^^ b.toNat < 2 ^ 8 := Nat.xor_lt_two_pow (by omega) (by omega)
  rw [hx, u8_or t _ h0 (by omega) (by omega) (by omega), Int.toNat_natCast]
  have hlt2 : t.toNat ||| (a.toNat ^^^ b.toNat) < 2 ^ 8 := Nat.or_lt_two_pow (by omega) hlt
  refine ⟨by omega, by omega, ?_⟩
  constructor
  · intro h
    have h : t.toNat ||| (a.toNat ^^^ b.toNat) = 0 := by omega
    rw [Nat.or_eq_zero_iff] at h
    have e := congrArg (· ^^^ b.toNat) h.2
    simp only [Nat.xor_assoc, Nat.xor_self, Nat.xor_zero, Nat.zero_xor] at e
    omega
  · rintro ⟨rfl, rfl⟩
    simp

theorem osame_step {l m : List UInt8} {k : Nat} {t : Int} (h : Hid (t = 0 ↔ ∀ j, j < k → bt l j = bt m j))
    (O : Hid (0 ≤ bits .or .u8 t (bits .xor .u8 (bt l k) (bt m k)) ∧ bits .or .u8 t (bits .xor .u8 (bt l k) (bt m k)) ≤ 255 ∧ (bits .or .u8 t (bits .xor .u8 (bt l k) (bt m k)) = 0 ↔ t = 0 ∧ bt l k = bt m k))) :
    Hid (bits .or .u8 t (bits .xor .u8 (bt l k) (bt m k)) = 0 ↔ ∀ j, j < k + 1 → bt l j = bt m j) := by
  show _ ↔ _
  rw [O.out.2.2, h.out]
  constructor
  · rintro ⟨h1, h2⟩ j hj
    by_cases e : j = k
    · subst e; exact h2
    · exact h1 j (by omega)
  · intro h1
    exact ⟨fun j hj => h1 j (by omega), h1 k (by omega)⟩
theorem osame_end {l m : List UInt8} {n k : Nat} {t : Int} (H : Hid (l.length = n ∧ m.length = n)) (h : ¬ k < n) (hj : Hid (t = 0 ↔ ∀ j, j < k → bt l j = bt m j)) : (t == 0) = decide (l = m) := by
  obtain ⟨h1, h2⟩ := H.out
  rw [Bool.eq_iff_iff, beq_iff_eq, decide_eq_true_iff, hj.out]
  constructor
  · intro h3
    exact bt_inj (by omega) fun i hi => h3 i (by omega)
  · rintro rfl j _
    rfl

set_option maxHeartbeats 400000 in
theorem oSame (w : World) {a b : Option Addr} {n c n' c' : Nat} {l m : List UInt8} (ha : Bs w a n c l) (hb : Bs w b n' c' m) :
    Calls Tryd.prog 15 #[.slice a n c, .slice b n' c'] w fun e w' => e = .returned (.bool (decide (l = m))) ∧ w = w' := by
  have h1 := ha.max
  have h2 := hb.max
  by_cases hn : n = n'
  · subst hn
    by_cases h0 : n = 0
    · subst h0
      have e : decide (l = m) = true := by
        have e1 := ha.len
        have e2 := hb.len
        simp at e1 e2
        simp [e1, e2]
      rw [e]
      clear e ha hb
      go_enter Tryd.func15, Tryd.ntmps15
      go_wp2
      refine wp_loop_rounds 1 ?_; rw [rounds_succ]; go_wp2
      go_ret
      exact ⟨rfl, rfl⟩
    · obtain ⟨x, o, rfl, hx, hc⟩ := ha.at (by omega)
      obtain ⟨y, q, rfl, hy, hd⟩ := hb.at (by omega)
      have e1 := ha.len
      have e2 := hb.len
      have H : Hid (l.length = n ∧ m.length = n) := ⟨e1, e2⟩
      clear e1 e2 ha hb
      go_enter Tryd.func15, Tryd.ntmps15
      go_wp2
      go_loop [5, 15] (fun u i => ∃ (k : Nat) (t : Int), k ≤ n ∧ i = .int .i64 k ∧ u = .int .u8 t ∧ 0 ≤ t ∧ t ≤ 255 ∧ Hid (t = 0 ↔ ∀ j, j < k → bt l j = bt m j)) (fun _ i => n - (intOf i).toNat)
      case atStart => exact ⟨0, 0, Nat.zero_le _, rfl, rfl, by omega, by omega, ⟨fun _ j hj => by omega, fun _ => rfl⟩⟩
      case round =>
        obtain ⟨k, t, hk, rfl, rfl, t0, t1, hj⟩ := hrel
        by_cases hlt : k < n
        · have c1 := hc k hlt
          have c2 := hd k hlt
          have O : Hid (_ ∧ _ ∧ _) := orx t0 t1 (bt_lo l k) (bt_hi l k) (bt_lo m k) (bt_hi m k)
          clear hc hd
          go_wp2
          go_round
          case rel => exact ⟨k + 1, _, by omega, by go_num, rfl, O.out.1, O.out.2.1, osame_step hj O⟩
          case measure => simp [intOf]; omega
        · go_wp2
          go_ret
          exact ⟨ret_bool (osame_end H hlt hj), rfl⟩
  · have hq' : ((n : Int) != (n' : Int)) = true := by simp; omega
    have e : decide (l = m) = false := by
      have e1 := ha.len
      have e2 := hb.len
      simp
      intro h
      rw [h] at e1
      omega
    rw [e]
    clear e ha hb
    go_enter Tryd.func15, Tryd.ntmps15
    go_wp2
    go_ret
    exact ⟨rfl, rfl⟩

end Go.Proofs.YtjpejheipkfanaaDoor

/-
  The contracts of layer 6's New, Seal and Open. Conditions: the key lies where the pointer leads; what stands beside, and texts, of at most 300 bytes.
-/
namespace Go.Proofs.YtjpejheipkfanaaDoor
open Go.RowKit

theorem oGSealNot (w : World) {r : Nat} {K : List UInt8} {an ae at' : Option Addr} {n cn ne ce nt ct : Nat} (_hG : Gc w r K) (hn : ¬ n = 12) :
    Calls Tryd.prog 40 #[.pointer (some ⟨r, 0, none⟩), .slice an n cn, .slice ae ne ce, .slice at' nt ct] w fun e w' => e = .returned (.tuple #[.slice none 0 0, .int .i64 17]) ∧ Below w.heap.size w w' := by
  have h1 : ((n : Int) != 12) = true := by simp; omega
  go_enter Tryd.func40, Tryd.ntmps40
  go_wp2
  go_ret2
  exact ⟨rfl, Below.refl _ _⟩
theorem oGOpenNot (w : World) {r : Nat} {K : List UInt8} {an ae at' : Option Addr} {n cn ne ce nt ct : Nat} (_hG : Gc w r K) (hn : ¬ n = 12) :
    Calls Tryd.prog 41 #[.pointer (some ⟨r, 0, none⟩), .slice an n cn, .slice ae ne ce, .slice at' nt ct] w fun e w' => e = .returned (.tuple #[.slice none 0 0, .int .i64 17]) ∧ Below w.heap.size w w' := by
  have h1 : ((n : Int) != 12) = true := by simp; omega
  go_enter Tryd.func41, Tryd.ntmps41
  go_wp2
  go_ret2
  exact ⟨rfl, Below.refl _ _⟩
theorem oGOpenShort (w : World) {r : Nat} {K : List UInt8} {an ae at' : Option Addr} {cn ne ce nt ct : Nat} (_hG : Gc w r K) (hn : nt < 16) :
    Calls Tryd.prog 41 #[.pointer (some ⟨r, 0, none⟩), .slice an 12 cn, .slice ae ne ce, .slice at' nt ct] w fun e w' => e = .returned (.tuple #[.slice none 0 0, .int .i64 3]) ∧ Below w.heap.size w w' := by
  have h1 : ((12 : Int) != 12) = false := by decide
  have h2 : (nt : Int) < 16 := by omega
  go_enter Tryd.func41, Tryd.ntmps41
  go_wp2
  go_ret2
  exact ⟨rfl, Below.refl _ _⟩

set_option maxRecDepth 100000 in
set_option maxHeartbeats 2000000 in
theorem oGSeal (w : World) {r : Nat} {K nonce be t : List UInt8} {an ae at' : Option Addr} {cn ne ce nt ct : Nat} (hG : Gc w r K) (hK : K.length = 240) (hn : Bs w an 12 cn nonce) (hE : Bs w ae ne ce be) (hT : Bs w at' nt ct t) (hze : ne ≤ 300) (hzt : nt ≤ 300) :
    Calls Tryd.prog 40 #[.pointer (some ⟨r, 0, none⟩), .slice an 12 cn, .slice ae ne ce, .slice at' nt ct] w (GivesC w (sealL K nonce be t)) := by
  have HNL : Hid (nonce.length = 12) := hn.len
  have HSL : Hid ((strL K nonce t).length = nt) := by show _ = _; rw [strL_length hK HNL.out, hT.len]
  have HTL : Hid ((tagL K nonce be (strL K nonce t)).length = 16) := tagL_length hK HNL.out _ _
  have HS : Hid (sealL K nonce be t = strL K nonce t ++ tagL K nonce be (strL K nonce t)) := rfl
  have h1 : ((12 : Int) != 12) = false := by decide
  obtain ⟨Z, hZ⟩ : ∃ Z, Z = sealL K nonce be t := ⟨_, rfl⟩
  rw [← hZ] at HS ⊢
  clear hZ
  go_enter Tryd.func40, Tryd.ntmps40
  go_wp2_with fail
  refine (oHidden w hG hK hn hT (by omega)).mono ?_
  rintro e u1 ⟨p1, m1, x1, rfl, ho1, hG1⟩
  have hB1 := ho1.toBs
  have hm1 : m1 = nt := by rw [← hB1.len]; exact HSL.out
  subst hm1
  generalize strL K nonce t = s at *
  go_wp2_with fail
  refine (oTagG u1 (hG.below hG1) hK (hn.below hG1 (Nat.le_refl _)) (hE.below hG1 (Nat.le_refl _)) hB1 (by omega) (by omega)).mono ?_
  rintro e u2 ⟨p2, m2, x2, rfl, ho2, hG2⟩
  have hm2 : m2 = 16 := by rw [← ho2.toBs.len]; exact HTL.out
  subst hm2
  go_wp2_with fail
  refine (oJoin2 u2 (hB1.below hG2 (Nat.le_refl _)) ho2.toBs (by omega)).mono ?_
  rintro e u3 ⟨p3, m3, x3, rfl, ho3, hb3⟩
  rw [← HS.out] at ho3
  have q2 : Below w.heap.size w u2 := hG1.trans (hG2.mono hG1.size)
  go_wp2_with fail
  go_ret2
  exact ⟨p3, m3, x3, rfl, ho3.mono q2.size, q2.trans (hb3.mono q2.size)⟩

set_option maxRecDepth 100000 in
set_option maxHeartbeats 2000000 in
theorem oGOpen (w : World) {r : Nat} {K nonce be s : List UInt8} {an ae as' : Option Addr} {cn ne ce ns cs' : Nat} (hG : Gc w r K) (hK : K.length = 240) (hn : Bs w an 12 cn nonce) (hE : Bs w ae ne ce be) (hS : Bs w as' ns cs' s) (hze : ne ≤ 300) (hzs : ns ≤ 300) (h16 : 16 ≤ ns) :
    Calls Tryd.prog 41 #[.pointer (some ⟨r, 0, none⟩), .slice an 12 cn, .slice ae ne ce, .slice as' ns cs'] w (OpensC w (decide (tagL K nonce be (s.take (ns - 16)) = s.drop (ns - 16))) (strL K nonce (s.take (ns - 16)))) := by
  have HNL : Hid (nonce.length = 12) := hn.len
  have h1 : ((12 : Int) != 12) = false := by decide
  obtain ⟨m, hm⟩ : ∃ m, m = ns - 16 := ⟨_, rfl⟩
  have i0 : ¬ (ns : Int) < 16 := by omega
  have i1 : (ns : Int) - 16 = (m : Int) := by omega
  have i2 : (0 : Int) ≤ (m : Int) := by omega
  have i3 : (m : Int) ≤ (ns : Int) := by omega
  rw [← hm]
  have HM : Hid (m = ns - 16) := hm
  clear hm
  have hmn : m ≤ ns := by have := HM.out; omega
  obtain ⟨hhi, hhB⟩ := hS.cutHigh m hmn
  obtain ⟨p', x', hlo, hlB, _⟩ := hS.cutLow m hmn
  have hsH := hhB w hS
  have hsL := hlB w hS
  obtain ⟨A, hA⟩ : ∃ A, A = s.take m := ⟨_, rfl⟩
  obtain ⟨C, hC⟩ : ∃ C, C = s.drop m := ⟨_, rfl⟩
  rw [← hA] at hsH ⊢
  rw [← hC] at hsL ⊢
  clear hA hC hhB hlB
  obtain ⟨b, hb⟩ : ∃ b, b = decide (C = tagL K nonce be A) := ⟨_, rfl⟩
  have hb' : decide (tagL K nonce be A = C) = b := by rw [hb]; exact decide_eq_decide.2 eq_comm
  have HB : Hid (decide (tagL K nonce be A = C) = b) := hb'
  clear hb'
  go_enter Tryd.func41, Tryd.ntmps41
  go_wp2_with fail
  refine regionG (S := Grows w) (by kernel_rfl) (Below.refl _ w).drew ?_
  refine takeG 0 (some 20) (.slice as' ns cs') rfl rfl (by kernel_rfl) (by kernel_rfl) (by kernel_rfl) (fun _ _ _ h => h) (ans_plain (by rfl) (fun w _ => rfl)) ?_
  simp only [Act.put, List.setIfInBounds_toArray, List.set_cons_zero, List.set_cons_succ]
  refine takeG 1 (some 21) (.int .i64 (m : Int)) rfl rfl (by kernel_rfl) (by kernel_rfl) (by kernel_rfl) (fun _ _ _ h => h) (ans_plain (by rfl) (fun w _ => rfl)) ?_
  simp only [Act.put, List.setIfInBounds_toArray, List.set_cons_zero, List.set_cons_succ]
  refine takeG 2 (some 22) (.slice p' (ns - m) x') rfl rfl (by kernel_rfl) (by kernel_rfl) (by kernel_rfl) (fun _ _ _ h => h) (ans_lo (.tmp 20) (.tmp 21) rfl (by rfl) _ _ _ rfl rfl hlo) ?_
  simp only [Act.put, List.setIfInBounds_toArray, List.set_cons_zero, List.set_cons_succ]
  refine takeG 3 (some 23) (.pointer (some ⟨r, 0, none⟩)) rfl rfl (by kernel_rfl) (by kernel_rfl) (by kernel_rfl) (fun _ _ _ h => h) (ans_plain (by rfl) (fun w _ => rfl)) ?_
  simp only [Act.put, List.setIfInBounds_toArray, List.set_cons_zero, List.set_cons_succ]
  refine takeG 4 (some 24) (.slice an 12 cn) rfl rfl (by kernel_rfl) (by kernel_rfl) (by kernel_rfl) (fun _ _ _ h => h) (ans_plain (by rfl) (fun w _ => rfl)) ?_
  simp only [Act.put, List.setIfInBounds_toArray, List.set_cons_zero, List.set_cons_succ]
  refine takeG 5 (some 25) (.slice ae ne ce) rfl rfl (by kernel_rfl) (by kernel_rfl) (by kernel_rfl) (fun _ _ _ h => h) (ans_plain (by rfl) (fun w _ => rfl)) ?_
  simp only [Act.put, List.setIfInBounds_toArray, List.set_cons_zero, List.set_cons_succ]
  refine takeG 6 (some 26) (.slice as' ns cs') rfl rfl (by kernel_rfl) (by kernel_rfl) (by kernel_rfl) (fun _ _ _ h => h) (ans_plain (by rfl) (fun w _ => rfl)) ?_
  simp only [Act.put, List.setIfInBounds_toArray, List.set_cons_zero, List.set_cons_succ]
  refine takeG 7 (some 27) (.int .i64 (m : Int)) rfl rfl (by kernel_rfl) (by kernel_rfl) (by kernel_rfl) (fun _ _ _ h => h) (ans_plain (by rfl) (fun w _ => rfl)) ?_
  simp only [Act.put, List.setIfInBounds_toArray, List.set_cons_zero, List.set_cons_succ]
  refine takeG 8 (some 28) (.slice as' m cs') rfl rfl (by kernel_rfl) (by kernel_rfl) (by kernel_rfl) (fun _ _ _ h => h) (ans_hi (.tmp 26) (.tmp 27) rfl (by rfl) _ _ _ rfl rfl hhi) ?_
  simp only [Act.put, List.setIfInBounds_toArray, List.set_cons_zero, List.set_cons_succ]
  refine callG 9 (some 29) 51 #[.tmp 23, .tmp 24, .tmp 25, .tmp 28] #[81, 22, 22, 22] #[.pointer (some ⟨r, 0, none⟩), .slice an 12 cn, .slice ae ne ce, .slice as' m cs'] rfl rfl rfl (by rfl) (by rfl) (by kernel_rfl) Tryd.call51 fun u1 hg1 hs1 => ?_
  refine (oTagG u1 (hG.below hs1) hK (hn.grows hs1) (hE.grows hs1) (hsH.grows hs1) (by omega) (by omega)).mono ?_
  rintro e u2 ⟨p2, m2, x2, rfl, ho2, hG2⟩
  refine ⟨_, rfl, Grows.trans hs1 hG2, ?_⟩
  simp only [Act.put, List.setIfInBounds_toArray, List.set_cons_zero, List.set_cons_succ]
  refine callG 10 (some 30) 15 #[.tmp 22, .tmp 29] #[22, 22] #[.slice p' (ns - m) x', .slice p2 m2 x2] rfl rfl rfl (by rfl) (by rfl) (by kernel_rfl) Tryd.call15 fun u3 hg3 hs3 => ?_
  refine (oSame u3 (hsL.grows hs3) (ho2.toBs.grows hg3)).mono ?_
  rintro e u4 ⟨rfl, rfl⟩
  rw [← hb]
  refine ⟨_, rfl, hs3, ?_⟩
  simp only [Act.put, List.setIfInBounds_toArray, List.set_cons_zero, List.set_cons_succ]
  refine takeG 11 (some 31) (.bool (!b)) rfl rfl (by kernel_rfl) (by kernel_rfl) (by kernel_rfl) (fun _ _ _ h => h) (ans_plain (by rfl) (fun w _ => by unfold execOp; go_simp)) ?_
  simp only [Act.put, List.setIfInBounds_toArray, List.set_cons_zero, List.set_cons_succ]
  refine doneG (by kernel_rfl) fun u5 hg5 hs5 => ?_
  cases b with
  | false =>
    go_wp2_with fail
    go_ret2
    unfold OpensC
    rw [HB.out, if_neg (by decide)]
    exact ⟨rfl, hs5⟩
  | true =>
    go_wp2_with fail
    refine (oHidden u5 (hG.below hs5) hK (hn.grows hs5) (hsH.grows hs5) (by omega)).mono ?_
    rintro e u7 ⟨p7, m7, x7, rfl, ho7, hG7⟩
    go_wp2_with fail
    go_ret2
    unfold OpensC
    rw [HB.out, if_pos rfl]
    exact ⟨p7, m7, x7, rfl, ho7.mono (Below.size hs5), Grows.trans hs5 hG7⟩

end Go.Proofs.YtjpejheipkfanaaDoor

/-
  The builtin copy of bytes into the middle of a block that is known whole; the contract of layer 11's program's Noise: bytes of a number, in memory of the call's own. Conditions: the number fits 64 bits; at most 3000 bytes.
-/
namespace Go.Proofs.YtjpejheipkfanaaDoor
open Go.RowKit

/-- A row of the call's own that has no room left is a block. -/
theorem Own.blkF {w : World} {base g m : Nat} {l : List UInt8} (h : Own w base (.slice (some ⟨g, 0, none⟩) m m) l) (hl : l.length = m) : Blk w g (cs l) 5 := by
  obtain ⟨h1, h2⟩ := h
  rcases h2 with ⟨h2, _⟩ | ⟨g', cap, cur, hv, hg, hh, hn, hm, hc, ht⟩
  · simp at h2
  · simp only [Value.slice.injEq, Option.some.injEq, Addr.mk.injEq] at hv
    obtain ⟨⟨rfl, _, _⟩, e1, rfl⟩ := hv
    unfold Blk
    rw [hh]
    have e : cur = (cs l).toArray := by
      rw [← ht, List.take_of_length_le (by rw [Array.length_toList]; omega)]
    rw [e]
theorem Own.ofBlk {w : World} {base g m : Nat} {l : List UInt8} (h : Blk w g (cs l) 5) (hb : base ≤ g) (hl : l.length = m) (hm : m ≤ 1000000) : Own w base (.slice (some ⟨g, 0, none⟩) m m) l := by
  subst hl
  refine ⟨by rw [cs_length, Nat.mul_one], Or.inr ⟨g, l.length, (cs l).toArray, rfl, hb, h, Nat.le_refl _, by unfold maxLen; omega, by simp [cs_length], ?_⟩⟩
  rw [List.take_of_length_le (by simp [cs_length])]

/-- 'copy(x[i:], b)' into a block that is known whole: as many as there are in both, and how many. -/
theorem wpList_cpo {ops : Array Oper} {rest : List Oper} {o : Oper} {a : Act} {Q : Exit → Act → World → Prop} (w : World) (hgd : o.guard = none) (d s : Operand)
    (ho : o.op = .call { callee := .builtin .copy, args := #[d, s], argTypes := #[22, 22] }) (g off dl dc : Nat) (hd : a.eval d = .slice (some ⟨g, off, none⟩) dl dc)
    (sp : Option Addr) (m c : Nat) (hs : a.eval s = .slice sp m c) (l : List UInt8) (hb : Bs w sp m c l) (vs : List Value) (t : TypeId) (blk : Blk w g vs t) (hfit : off + dl ≤ vs.length) (k : Nat) (hk : k = min m dl)
    (h : ∀ w', Blk w' g (vs.take off ++ cs (l.take k) ++ vs.drop (off + k)) t → w.grownBy w' (some g) → wpList Tryd.prog ops Q rest (a.put o.dst (.int .i64 (k : Int))) w') : wpList Tryd.prog ops Q (o :: rest) a w := by
  have hl := hb.len
  obtain ⟨i0, hi, hz0, hz1, hz2⟩ := info_parts info5
  have hsz : (Tryd.prog.info? 5).map (·.size) = some 1 := by rw [hi]; simp [hz1]
  by_cases h0 : k = 0
  · subst h0
    refine wpList_copy_nothing hgd d s 22 22 ho 5 Tryd.underlying22 hsz _ sp dl dc m c hd hs hk.symm ?_
    exact h w (by simpa [cs] using blk) (World.grownBy.refl _ _)
  · obtain ⟨b, o', rfl, _, _⟩ := hb.at (by omega)
    have hcl : (cs (l.take k)).length = k := by rw [cs_length, List.length_take, hl]; omega
    refine wpList_copy_own hgd d s 22 22 ho 5 Tryd.underlying22 hsz g off dl dc ⟨b, o', none⟩ m c hd hs vs.toArray t blk (cs (l.take k)) (by rw [hcl]; exact hk) (fun j v hj => hb.news j v (cs_sub' hj)) (by rw [hcl]; simp; omega) cs_one ?_
    rw [hcl]
    refine h _ ?_ ⟨rfl, rfl, rfl, by simp [World.setRow], fun j _ hj => setRow_other w g j _ (by simpa using hj)⟩
    unfold Blk
    rw [setRow_heap w g _ _ t (0, 0) blk, List.append_assoc]

theorem noiseL_small (n : Nat) {j : Nat} (h : j ≤ 8) : noiseL n j = (putL n 8).take j := by
  unfold noiseL
  rw [List.take_append_of_le_length (by rw [putL_length]; exact h)]
theorem noiseL_step (n : Nat) {j : Nat} (h : 8 ≤ j) : noiseL n (j + 1) = noiseL n j ++ [lcgB n (j - 8)] := by
  unfold noiseL
  rw [show j + 1 - 8 = (j - 8) + 1 from by omega, lcgL_succ, ← List.append_assoc]
  rw [List.take_of_length_le (by simp [putL_length, lcgL_length]; omega), List.take_of_length_le (by simp [putL_length, lcgL_length]; omega)]
theorem noise_set (n : Nat) {j m : Nat} (h : 8 ≤ j) (hm : j < m) : (noiseL n j ++ List.replicate (m - j) 0).set j (lcgB n (j - 8)) = noiseL n (j + 1) ++ List.replicate (m - (j + 1)) 0 := by
  rw [noiseL_step n h, List.set_append_right _ _ (by rw [noiseL_length]; exact Nat.le_refl _), noiseL_length, Nat.sub_self, show m - j = (m - (j + 1)) + 1 from by omega, List.replicate_succ, List.set_cons_zero, List.append_assoc]
  rfl
theorem noise_start (n m : Nat) : (cs (List.replicate m 0)).take 0 ++ cs ((putL n 8).take (min 8 m)) ++ (cs (List.replicate m 0)).drop (0 + min 8 m) = cs (noiseL n (min 8 m) ++ List.replicate (m - min 8 m) 0) := by
  rw [noiseL_small n (Nat.min_le_left _ _), cs_append, List.take_zero, List.nil_append, Nat.zero_add]
  congr 1
  simp [cs, List.drop_replicate]
theorem lcg_int (x : Nat) : IntKind.u64.wrap (IntKind.u64.wrap ((x : Int) * 6364136223846793005) + 1442695040888963407) = (lcg x : Nat) := by
  rw [IntKind.wrap_u64, IntKind.wrap_u64]
  unfold lcg
  omega
theorem lcg_byte {x : Nat} (h : x < 18446744073709551616) : ((UInt8.ofNat (x / 72057594037927936)).toNat : Int) = (x : Int) / 72057594037927936 := by
  rw [UInt8.toNat_ofNat']
  omega

set_option maxHeartbeats 1000000 in
theorem oNoise (n s : Int) (w : World) (hs : s ≤ 3000) (hn0 : 0 ≤ n) (hn : n ≤ 18446744073709551615) (hlo : -9223372036854775808 ≤ s) :
    Calls Tryd.prog 34 #[.int .u64 n, .int .i64 s] w (Gives w (noiseL n.toNat s.toNat)) := by
  by_cases h1 : s < 1
  · have e : s.toNat = 0 := by omega
    rw [e, show noiseL n.toNat 0 = [] from rfl]
    clear e
    go_enter Tryd.func34, Tryd.ntmps34
    go_wp2_with fail
    go_ret
    exact Gives.mk (Own.nil _ _) (Below.refl _ _)
  · obtain ⟨m, rfl⟩ : ∃ m : Nat, s = m := ⟨s.toNat, by omega⟩
    obtain ⟨n, rfl⟩ : ∃ q : Nat, n = q := ⟨n.toNat, by omega⟩
    rw [Int.toNat_natCast, Int.toNat_natCast]
    have h2 : ¬ (2147483647 : Int) < m := by omega
    go_enter Tryd.func34, Tryd.ntmps34
    go_wp2_with (at_make; refine wpList_mkn _ rfl _ _ rfl w.heap.size m _ rfl rfl rfl (by omega) (Nat.le_refl _) ?_; intro g w1 hg hgl hown hbel)
    have hB : Blk w1 g (cs (List.replicate m 0)) 5 := hown.blkF (by simp)
    refine (oPut (n : Int) 8 w1 (by omega) (by omega) (by omega) (by omega)).mono ?_
    rintro e w2 ⟨a2, m2, c2, rfl, o2, hb2⟩
    have hB2 := hB.below hb2 hB.lt
    have hp := o2.toBs
    have hm2 : m2 = 8 := by have := hp.len; rw [Int.toNat_natCast, putL_length] at this; omega
    subst hm2
    rw [Int.toNat_natCast] at hp
    have hk2 : Below w.heap.size w w2 := hbel.trans (hb2.mono hbel.size)
    clear o2 hb2 hB hown hbel
    go_wp2_with ((with_reducible refine at_cp ?_); (refine wpList_cpo _ rfl _ _ rfl g 0 m m rfl a2 8 c2 rfl _ hp _ _ hB2 (by simp [cs_length]) (min 8 m) rfl ?_); intro w3 hB3 hg3)
    have HL : Hid (min 8 m ≤ m ∧ (min 8 m = 8 ∨ min 8 m = m)) := by refine ⟨?_, ?_⟩ <;> omega
    rw [show Int.toNat 8 = 8 from rfl, noise_start] at hB3
    have hO3 : Own w3 w.heap.size (.slice (some ⟨g, 0, none⟩) m m) (noiseL n (min 8 m) ++ List.replicate (m - min 8 m) 0) := Own.ofBlk hB3 hg (by rw [List.length_append, noiseL_length, List.length_replicate]; omega) (by omega)
    have hk3 : Below w.heap.size w w3 := below_of_but hk2 hg3 hg hk2.size
    have hx0 : lcgI n (min 8 m - 8) = n := by rw [show min 8 m - 8 = 0 from by omega]; rfl
    generalize min 8 m = j0 at *
    clear hB2 hp hk2 hB3 hg3
    go_loopw [6, 7] (fun x i wr => ∃ j : Nat, j0 ≤ j ∧ j ≤ m ∧ i = .int .i64 (j : Int) ∧ x = .int .u64 ((lcgI n (j - 8) : Nat) : Int) ∧ Own wr w.heap.size (.slice (some ⟨g, 0, none⟩) m m) (noiseL n j ++ List.replicate (m - j) 0) ∧ Below w.heap.size w wr) (fun _ i _ => m - (intOf i).toNat)
    case atStart => exact ⟨j0, Nat.le_refl _, HL.out.1, rfl, by rw [hx0], hO3, hk3⟩
    case round =>
      obtain ⟨j, hj0, hj, rfl, rfl, ho, hb⟩ := hrel
      clear hO3 hk3 hx0
      by_cases hlt : j < m
      · have h8 : 8 ≤ j := by have := HL.out; omega
        have hlen : (noiseL n j ++ List.replicate (m - j) (0 : UInt8)).length = m := by rw [List.length_append, noiseL_length, List.length_replicate]; omega
        obtain ⟨v0, hcell⟩ := ho.cell hlen j hlt
        have hfr := ho.free hlen j
        have ho2 := ho.set hlen j (lcgB n (j - 8))
        have hb2 := hb.setCell (p := ⟨g, j, none⟩) hg (.int .u8 ((lcgB n (j - 8)).toNat : Int))
        rw [noise_set n h8 hlt] at ho2
        obtain ⟨x, hx⟩ : ∃ x, x = lcgI n (j - 8) := ⟨_, rfl⟩
        have hy : lcg x = lcgI n (j + 1 - 8) := by rw [hx, show j + 1 - 8 = (j - 8) + 1 from by omega]; rfl
        have hu : ((lcgB n (j - 8)).toNat : Int) = (lcg x : Int) / 72057594037927936 := by rw [← lcg_byte (lcg_lt x), hx]; rfl
        rw [hu] at ho2 hb2
        rw [← hx]
        have hw := lcg_int x
        have hxl : x < 18446744073709551616 := by rw [hx]; exact lcgI_lt (by omega) _
        have hyl : lcg x < 18446744073709551616 := lcg_lt x
        have HY : Hid (lcg x = lcgI n (j + 1 - 8)) := hy
        clear hx hu hy
        generalize lcg x = y at *
        have HO : Hid (Own (wr.setCell ⟨g, j, none⟩ (.int .u8 ((y : Int) / 72057594037927936))) w.heap.size (.slice (some ⟨g, 0, none⟩) m m) (noiseL n (j + 1) ++ List.replicate (m - (j + 1)) 0)) := ho2
        have HB : Hid (Below w.heap.size w (wr.setCell ⟨g, j, none⟩ (.int .u8 ((y : Int) / 72057594037927936)))) := hb2
        clear ho2 hb2 hlen ho hb
        go_wp2_with fail
        go_roundw
        case rel => exact ⟨j + 1, by omega, by omega, by go_num, by rw [HY.out], HO.out, HB.out⟩
        case measure => simp [intOf]; omega
      · have hjm : j = m := by omega
        subst hjm
        have HO : Hid (Own wr w.heap.size (.slice (some ⟨g, 0, none⟩) j j) (noiseL n j)) := by have := ho; rwa [Nat.sub_self, List.replicate_zero, List.append_nil] at this
        clear ho
        go_wp2_with fail
        go_ret
        exact Gives.mk HO.out hb

end Go.Proofs.YtjpejheipkfanaaDoor

/-
  Contracts of layer 12's program: what stands in the book, what comes of sealing, what opens for real. Conditions: bytes of at most a million, texts of at most 300.
-/
namespace Go.Proofs.YtjpejheipkfanaaDoor
open Go.RowKit
set_option linter.unusedVariables false

theorem resCT12 {fn : Func} {p t : Tmp} {ty : TypeId} (h : fn.results = #[.cell p ty, .tmp t]) (tmps : Array Value) (w : World) (g : Nat) (cs : Array Value) (hp : tmps.getD p undef = .pointer (some ⟨g, 0, none⟩)) (hl : (loadVar ty ⟨g, 0, none⟩).run Tryd.prog w = .ok (.agg cs) w) (x : Value) (hx : tmps.getD t undef = x) : (results fn tmps).run Tryd.prog w = .ok (.tuple #[.agg cs, x]) w := by
  have hp' : tmps[p]?.getD undef = .pointer (some ⟨g, 0, none⟩) := by simpa using hp
  have hx' : tmps[t]?.getD undef = x := by simpa using hx
  simp [results, h, hp', hx', asAddr, hl]

set_option maxRecDepth 100000 in
set_option maxHeartbeats 2000000 in
theorem oFindG (w : World) {r : Nat} {S : SeaS} {M : SeaM} {g : KeyO → Option Value} (hB : Blk w r (seC S M) 55) (hM : Mks kvO okKO w M.m2 g) {k n b s b1 t1 : List UInt8} {tk : Bool} (fk : fitW k) (fn : fitW n) (fb : fitW b) (fs : fitW s) (hX : (g (k, n, b, s)).getD zct = .agg #[sv b1, sv t1]) (hTk : (g (k, n, b, s)).isSome = tk) :
    Calls Tryd.prog 29 #[.pointer (some ⟨r, 2, none⟩), kvO (k, n, b, s)] w fun e w' => e = .returned (.tuple #[.agg #[sv b1, sv t1], .bool tk]) ∧ Below w.heap.size w w' := by
  have hl := hB.lt
  have HB : Hid (Blk w r (seC S M) 55) := hB
  have H2 : Hid (Mks kvO okKO w M.m2 g) := hM
  clear hB hM
  have OKO : Hid (okKO (k, n, b, s)) := ⟨fk, fn, fb, fs⟩
  unfold kvO
  go_enter Tryd.func29, Tryd.ntmps29
  go_wp2_with fail
  obtain ⟨x3, h3⟩ : ∃ x, x = w.heap.size := ⟨_, rfl⟩
  obtain ⟨x4, h4⟩ : ∃ x, x = w.heap.size + 1 := ⟨_, rfl⟩
  have B3 : Hid (Blk ((w.alloc (.cells #[sv k, sv n, sv b, sv s] 67)).alloc (.cells #[.string ⟨#[]⟩, .string ⟨#[]⟩] 63)) x3 [sv k, sv n, sv b, sv s] 67) := by
    rw [h3]
    exact (Blk.new w _ _).old _
  have B4 : Hid (Blk ((w.alloc (.cells #[sv k, sv n, sv b, sv s] 67)).alloc (.cells #[.string ⟨#[]⟩, .string ⟨#[]⟩] 63)) x4 [.string ⟨#[]⟩, .string ⟨#[]⟩] 63) := by
    have := Blk.new (w.alloc (.cells #[sv k, sv n, sv b, sv s] 67)) #[.string ⟨#[]⟩, .string ⟨#[]⟩] 63
    rw [show (w.alloc (.cells #[sv k, sv n, sv b, sv s] 67)).heap.size = x4 from by rw [h4]; simp] at this
    exact this
  have KP : Hid (Below w.heap.size w ((w.alloc (.cells #[sv k, sv n, sv b, sv s] 67)).alloc (.cells #[.string ⟨#[]⟩, .string ⟨#[]⟩] 63))) := (below_alloc w _).trans ((below_alloc _ _).mono (below_alloc w _).size)
  have HX4 : Hid (w.heap.size ≤ x4) := by
    show _ ≤ _
    omega
  rw [← h4, ← h3]
  clear h3 h4
  generalize (w.alloc (.cells #[sv k, sv n, sv b, sv s] 67)).alloc (.cells #[.string ⟨#[]⟩, .string ⟨#[]⟩] 63) = w3 at *
  have M2 : Hid (Mks kvO okKO w3 M.m2 g) := H2.out.same (KP.out.block _ H2.out.lt)
  have BR : Hid (Blk w3 r (seC S M) 55) := HB.out.below KP.out HB.out.lt
  refine regionG (S := Grows w3) (by kernel_rfl) (Below.refl _ w3).drew ?_
  have F4 : ∀ u, Grows w3 u → u.cell? ⟨r, 4, none⟩ = some (.map (some M.m2)) := fun u hu => (BR.out.grows hu).cell 4
  refine takeG 0 (some 9) (.pointer (some ⟨r, 2, none⟩)) rfl rfl (by kernel_rfl) (by kernel_rfl) (by kernel_rfl) (fun _ _ _ h => h) (ans_plain (by rfl) (fun w _ => rfl)) ?_
  simp only [Act.put, List.setIfInBounds_toArray, List.set_cons_zero, List.set_cons_succ]
  refine takeG 1 (some 10) (.pointer (some ⟨r, 2, none⟩)) rfl rfl (by kernel_rfl) (by kernel_rfl) (by kernel_rfl) (fun _ _ _ h => h) (ans_plain (by rfl) (fun w _ => by unfold execOp; go_simp)) ?_
  simp only [Act.put, List.setIfInBounds_toArray, List.set_cons_zero, List.set_cons_succ]
  refine takeG 2 (some 11) (.pointer (some ⟨r, 4, none⟩)) rfl rfl (by kernel_rfl) (by kernel_rfl) (by kernel_rfl) (fun _ _ _ h => h) (ans_plain (by rfl) (fun w _ => by unfold execOp; go_simp)) ?_
  simp only [Act.put, List.setIfInBounds_toArray, List.set_cons_zero, List.set_cons_succ]
  refine takeG 3 (some 12) (.map (some M.m2)) rfl rfl (by kernel_rfl) (by kernel_rfl) (by kernel_rfl) (fun _ _ _ h => h) (ans_plain (by rfl) (fun w h => by have hc := F4 w h; unfold execOp; go_simp)) ?_
  simp only [Act.put, List.setIfInBounds_toArray, List.set_cons_zero, List.set_cons_succ]
  refine takeG 4 (some 13) (.agg #[sv k, sv n, sv b, sv s]) rfl rfl (by kernel_rfl) (by kernel_rfl) (by kernel_rfl) (fun _ _ _ h => h) (ans_row 67 (.tmp 3) _ 4 rfl (by rfl) x3 0 rfl [sv k, sv n, sv b, sv s] (fun u hu => (B3.out.grows hu).whole) Tryd.underlying67 rfl rfl sizeOp) ?_
  simp only [Act.put, List.setIfInBounds_toArray, List.set_cons_zero, List.set_cons_succ]
  refine takeG 5 (some 14) (.tuple #[(g (k, n, b, s)).getD zct, .bool (g (k, n, b, s)).isSome]) rfl rfl (by kernel_rfl) (by kernel_rfl) (by kernel_rfl) (fun _ _ _ h => h) (ans_lookK (.tmp 12) (.tmp 13) 48 67 63 rfl (by rfl) keysO Tryd.underlying48 zct zeroCt M.m2 g rfl (k, n, b, s) OKO.out rfl (fun u hu => M2.out.same (Below.block hu _ M2.out.lt))) ?_
  simp only [Act.put, List.setIfInBounds_toArray, List.set_cons_zero, List.set_cons_succ]
  rw [hX, hTk]
  clear hX hTk F4
  refine takeG 6 (some 8) (.tuple #[.agg #[sv b1, sv t1], .bool tk]) rfl rfl (by kernel_rfl) (by kernel_rfl) (by kernel_rfl) (fun _ _ _ h => h) (ans_plain (by rfl) (fun w _ => rfl)) ?_
  simp only [Act.put, List.setIfInBounds_toArray, List.set_cons_zero, List.set_cons_succ]
  refine takeG 7 (some 15) (.agg #[sv b1, sv t1]) rfl rfl (by kernel_rfl) (by kernel_rfl) (by kernel_rfl) (fun _ _ _ h => h) (ans_plain (by rfl) (fun w _ => by unfold execOp; go_simp)) ?_
  simp only [Act.put, List.setIfInBounds_toArray, List.set_cons_zero, List.set_cons_succ]
  refine takeG 8 (some 16) (.bool tk) rfl rfl (by kernel_rfl) (by kernel_rfl) (by kernel_rfl) (fun _ _ _ h => h) (ans_plain (by rfl) (fun w _ => by unfold execOp; go_simp)) ?_
  simp only [Act.put, List.setIfInBounds_toArray, List.set_cons_zero, List.set_cons_succ]
  refine alloc1 (fun _ _ h h' => Grows.trans h h') 9 6 (makesCt rfl) (by kernel_rfl) fun x9 w4 hg4 hs4 B9 hx9 => ?_
  simp only [Act.put, List.setIfInBounds_toArray, List.set_cons_zero, List.set_cons_succ]
  refine oneG 10 (by kernel_rfl) fun w5 hg5 hs5 => ?_
  refine opStR 10 63 (.tmp 6) (.tmp 15) 2 rfl rfl rfl rfl x9 _ [sv b1, sv t1] 63 (B9.grows hg5) rfl rfl (two_one _ _) sizeCt rfl rfl fun w6 B9' k6 => ?_
  have hx93 : w3.heap.size ≤ x9 := hx9
  have hs6 : Grows w3 w6 := Below.trans hs5 (k6.below (B := w3.heap.size) (Below.size hs5) (fun j hj e => by omega))
  refine ⟨hs6, ?_⟩
  refine takeG 11 (some 7) (.bool tk) rfl rfl (by kernel_rfl) (by kernel_rfl) (by kernel_rfl) (fun _ _ _ h => h) (ans_plain (by rfl) (fun w _ => rfl)) ?_
  simp only [Act.put, List.setIfInBounds_toArray, List.set_cons_zero, List.set_cons_succ]
  refine doneG (by kernel_rfl) fun w7 hg7 hs7 => ?_
  have B97 : Blk w7 x9 [sv b1, sv t1] 63 := B9'.grows hg7
  have B47 := B4.out.grows hs7
  have c90 : w7.cell? ⟨x9, 0, none⟩ = some (sv b1) := B97.cell 0
  have c91 : w7.cell? ⟨x9, 1, none⟩ = some (sv t1) := B97.cell 1
  have l9 := B97.lt
  have c40 : w7.cell? ⟨x4, 0, none⟩ = some (.string ⟨#[]⟩) := B47.cell 0
  have c41 : w7.cell? ⟨x4, 1, none⟩ = some (.string ⟨#[]⟩) := B47.cell 1
  have l4 := B47.lt
  have f40 := B47.free 0
  have f41 := B47.free 1
  have BF : Hid (Blk ((w7.setCell ⟨x4, 0, none⟩ (sv b1)).setCell ⟨x4, 1, none⟩ (sv t1)) x4 [sv b1, sv t1] 63) := (B47.setC 0 (sv b1)).setC 1 (sv t1)
  have KF : Hid (Below w.heap.size w ((w7.setCell ⟨x4, 0, none⟩ (sv b1)).setCell ⟨x4, 1, none⟩ (sv t1))) := ((KP.out.trans (Below.mono hs7 KP.out.size)).setCell (p := ⟨x4, 0, none⟩) HX4.out _).setCell (p := ⟨x4, 1, none⟩) HX4.out _
  clear B9' B9 hg4 hs4 hg5 hs5 k6 hs6 hg7 hs7 M2 B3 B4 KP H2 HB hx9 hx93 B97 B47 BR
  unfold sv at c90 c91
  go_wp2_with fail
  refine bodyPost_ret (v := .tuple #[.agg #[sv b1, sv t1], .bool tk]) (resCT12 Tryd.results29 _ _ x4 _ rfl (run_loadVar_row _ x4 63 63 _ (0, 0) _ BF.out Tryd.underlying63 rfl sizeCt) _ rfl) rfl ?_
  exact ⟨rfl, KF.out⟩
/-- What stands in the book so: the same in whatever world has grown. -/
theorem oFindB (w : World) {U : Nat → Prop} {r : Nat} {S : SeaS} {M : SeaM} (h : Se U w r S M) {k n b s : List UInt8} (fk : fitW k) (fn : fitW n) (fb : fitW b) (fs : fitW s) :
    ∃ b1 t1, fitW t1 ∧ (S.ideal = true → ∀ t, S.known k n b s = some t → t1 = t) ∧ ∀ u, Grows w u → Calls Tryd.prog 29 #[.pointer (some ⟨r, 2, none⟩), kvO (k, n, b, s)] u fun e w' => e = .returned (.tuple #[.agg #[sv b1, sv t1], .bool (S.known k n b s).isSome]) ∧ Below u.heap.size u w' := by
  obtain ⟨g, hg2, hgT⟩ := h.texts
  have hgo := hgT (k, n, b, s)
  dsimp only at hgo
  cases hk : S.known k n b s with
  | none =>
    rw [hk] at hgo
    exact ⟨[], [], Nat.zero_le _, fun _ t ht => (by cases ht), fun u hu => oFindG u (h.blk.grows hu) (hg2.same (Below.block hu _ hg2.lt)) fk fn fb fs (by rw [hgo]; rfl) (by rw [hgo]; rfl)⟩
  | some t =>
    rw [hk] at hgo
    obtain ⟨t', h1, h2, h3⟩ := hgo
    exact ⟨b, t', h2, fun hi t0 ht0 => by rw [← Option.some.inj ht0]; exact h3 hi, fun u hu => oFindG u (h.blk.grows hu) (hg2.same (Below.block hu _ hg2.lt)) fk fn fb fs (by rw [h1]; rfl) (by rw [h1]; rfl)⟩

/-- What comes of sealing: bytes, and what the sealer is then. -/
def Mades (U : Nat → Prop) (r : Nat) (S' : SeaS) (M : SeaM) (l : List UInt8) (w : World) (e : Ending) (w' : World) : Prop := ∃ a m c, e = .returned (.tuple #[.slice a m c, .int .i64 0]) ∧ Own w' w.heap.size (.slice a m c) l ∧ Se U w' r S' M ∧ Kp U w w'

set_option maxHeartbeats 1000000 in
theorem oMade (w : World) {U : Nat → Prop} {r : Nat} {S : SeaS} {M : SeaM} (h : Se U w r S M) {k n b t : List UInt8} {ak an ab at' : Option Addr} {ck cn nb cb nt ct : Nat} (hk : Bs w ak 32 ck k) (hn : Bs w an 12 cn n) (hb : Bs w ab nb cb b) (ht : Bs w at' nt ct t) (zb : nb ≤ 300) (zt : nt ≤ 300) (hc : S.count + S.book.length + 2 ≤ 1000000) :
    Calls Tryd.prog 27 #[.pointer (some ⟨r, 0, none⟩), .slice ak 32 ck, .slice an 12 cn, .slice ab nb cb, .slice at' nt ct] w (Mades U r { S with count := S.next } M (S.made k n b t) w) := by
  have hi0 : w.cell? ⟨r, 0, none⟩ = some (.bool S.ideal) := h.blk.cell 0
  have hl := h.blk.lt
  have HS : Hid (Se U w r S M) := h
  rcases Bool.eq_false_or_eq_true S.ideal with hi | hi
  · have hz := ht.len
    have HM : Hid (S.made k n b t = noiseL (S.count + 1) (nt + 16) ∧ S.next = S.count + 1) := ⟨by unfold SeaS.made; rw [if_pos hi, hz], by unfold SeaS.next; rw [if_pos hi]⟩
    rw [hi] at hi0
    clear h hz hi hk hn hb ht
    go_enter Tryd.func27, Tryd.ntmps27
    go_wp2_with fail
    refine (oSNext w HS.out (by omega)).mono ?_
    rintro e w1 ⟨rfl, hS1, hk1⟩
    go_wp2_with fail
    refine (oNoise ((S.count + 1 : Nat) : Int) ((nt : Int) + 16) w1 (by omega) (by omega) (by omega) (by omega)).mono ?_
    rintro e w2 ⟨a2, m2, c2, rfl, o2, hb2⟩
    go_wp2_with fail
    go_ret2
    refine ⟨a2, m2, c2, rfl, ?_, ?_, ?_⟩
    · rw [HM.out.1]
      have e1 : (((S.count + 1 : Nat) : Int)).toNat = S.count + 1 := by omega
      have e2 : ((nt : Int) + 16).toNat = nt + 16 := by omega
      rw [e1, e2] at o2
      exact o2.mono hk1.size
    · rw [HM.out.2]
      exact hS1.grow hb2
    · exact (hk1.mono fun j _ e => by rw [e]; exact HS.out.inR).trans (Kp.of_below hb2)
  · obtain ⟨g, hg1, hg2, hg3⟩ := h.tab hi
    have ht0 : w.cell? ⟨r, 1, none⟩ = some (.pointer (some ⟨g, 0, none⟩)) := by
      have := h.blk.cell 1
      rw [show (seC S M)[1]? = some (.pointer M.tb) from rfl, hg1] at this
      exact this
    have HM : Hid (S.made k n b t = sealL (keyF k) n b t ∧ S.next = S.count) := ⟨by unfold SeaS.made; rw [if_neg (by rw [hi]; decide)], by unfold SeaS.next; rw [if_neg (by rw [hi]; decide)]⟩
    have HKL : Hid ((keyF k).length = 240) := keyF_length hk.len
    have CN : Hid (Calls Tryd.prog 39 #[.pointer (some ⟨g, 0, none⟩), .slice ak 32 ck] w fun e w' => ∃ r, e = .returned (.tuple #[.pointer (some ⟨r, 0, none⟩), .int .i64 0]) ∧ Gc w' r (keyF k) ∧ Below w.heap.size w w') := oGNew w g hg3.tab hk
    have HN : Hid (Bs w an 12 cn n) := hn
    have HB : Hid (Bs w ab nb cb b) := hb
    have HT : Hid (Bs w at' nt ct t) := ht
    rw [hi] at hi0
    clear h hi hk hn hb ht hg1 hg2 hg3
    go_enter Tryd.func27, Tryd.ntmps27
    go_wp2_with fail
    refine CN.out.mono ?_
    rintro e w1 ⟨r1, rfl, hG1, hb1⟩
    go_wp2_with fail
    refine (oGSeal w1 hG1 HKL.out (HN.out.below hb1 (Nat.le_refl _)) (HB.out.below hb1 (Nat.le_refl _)) (HT.out.below hb1 (Nat.le_refl _)) (by omega) (by omega)).mono ?_
    rintro e w2 ⟨a2, m2, c2, rfl, o2, hb2⟩
    go_wp2_with fail
    go_ret2
    refine ⟨a2, m2, c2, rfl, ?_, ?_, ?_⟩
    · rw [HM.out.1]
      exact o2.mono hb1.size
    · rw [HM.out.2]
      exact (HS.out.grow hb1).grow hb2
    · exact (Kp.of_below hb1).trans (Kp.of_below hb2)
/-- What opens for real. -/
def Openeds (l : Option (List UInt8)) (w : World) (e : Ending) (w' : World) : Prop := ∃ a m c, e = .returned (.tuple #[.slice a m c, .bool l.isSome]) ∧ Own w' w.heap.size (.slice a m c) (l.getD []) ∧ Below w.heap.size w w'

set_option maxHeartbeats 1000000 in
theorem oOpened (w : World) {U : Nat → Prop} {r : Nat} {S : SeaS} {M : SeaM} (h : Se U w r S M) (hi : S.ideal = false) {k n b s : List UInt8} {ak an ab as' : Option Addr} {ck cn nb cb ns cs' : Nat} (hk : Bs w ak 32 ck k) (hn : Bs w an 12 cn n) (hb : Bs w ab nb cb b) (hs : Bs w as' ns cs' s) (zb : nb ≤ 300) (zs : ns ≤ 300) :
    Calls Tryd.prog 30 #[.pointer (some ⟨r, 0, none⟩), .slice ak 32 ck, .slice an 12 cn, .slice ab nb cb, .slice as' ns cs'] w (Openeds (opensL k n b s) w) := by
  have hl := h.blk.lt
  obtain ⟨g, hg1, hg2, hg3⟩ := h.tab hi
  have ht0 : w.cell? ⟨r, 1, none⟩ = some (.pointer (some ⟨g, 0, none⟩)) := by
    have := h.blk.cell 1
    rw [show (seC S M)[1]? = some (.pointer M.tb) from rfl, hg1] at this
    exact this
  have HKL : Hid ((keyF k).length = 240) := keyF_length hk.len
  have CN : Hid (Calls Tryd.prog 39 #[.pointer (some ⟨g, 0, none⟩), .slice ak 32 ck] w fun e w' => ∃ r, e = .returned (.tuple #[.pointer (some ⟨r, 0, none⟩), .int .i64 0]) ∧ Gc w' r (keyF k) ∧ Below w.heap.size w w') := oGNew w g hg3.tab hk
  have HN : Hid (Bs w an 12 cn n) := hn
  have HB : Hid (Bs w ab nb cb b) := hb
  have HS : Hid (Bs w as' ns cs' s) := hs
  have hz := hs.len
  clear h hi hk hn hb hs hg1 hg2 hg3
  by_cases h16 : ns < 16
  · have HO : Hid (opensL k n b s = none) := by
      show _ = _
      unfold opensL
      rw [if_neg (by omega)]
    clear hz
    go_enter Tryd.func30, Tryd.ntmps30
    go_wp2_with fail
    refine CN.out.mono ?_
    rintro e w1 ⟨r1, rfl, hG1, hb1⟩
    go_wp2_with fail
    refine (oGOpenShort w1 hG1 h16).mono ?_
    rintro e w2 ⟨rfl, hb2⟩
    go_wp2_with fail
    go_ret2
    exact ⟨none, 0, 0, by rw [HO.out]; rfl, by rw [HO.out]; exact Own.nil _ _, hb1.trans (hb2.mono hb1.size)⟩
  · obtain ⟨ok, hok⟩ : ∃ ok, ok = decide (tagL (keyF k) n b (s.take (ns - 16)) = s.drop (ns - 16)) := ⟨_, rfl⟩
    obtain ⟨l, hll⟩ : ∃ l, l = strL (keyF k) n (s.take (ns - 16)) := ⟨_, rfl⟩
    have HO : Hid (opensL k n b s = if ok then some l else none) := by
      show _ = _
      unfold opensL
      rw [if_pos (by omega), hz, ← hll]
      by_cases hc : tagL (keyF k) n b (s.take (ns - 16)) = s.drop (ns - 16)
      · rw [if_pos hc, hok, decide_eq_true hc]
        rfl
      · rw [if_neg hc, hok, decide_eq_false hc]
        rfl
    have CO : Hid (∀ w1 r1, Gc w1 r1 (keyF k) → Below w.heap.size w w1 → Calls Tryd.prog 41 #[.pointer (some ⟨r1, 0, none⟩), .slice an 12 cn, .slice ab nb cb, .slice as' ns cs'] w1 (OpensC w1 ok l)) := fun w1 r1 hG hb1 => by
      rw [hok, hll]
      exact oGOpen w1 hG HKL.out (HN.out.below hb1 (Nat.le_refl _)) (HB.out.below hb1 (Nat.le_refl _)) (HS.out.below hb1 (Nat.le_refl _)) zb zs (by omega)
    clear hz hok hll
    go_enter Tryd.func30, Tryd.ntmps30
    go_wp2_with fail
    refine CN.out.mono ?_
    rintro e w1 ⟨r1, rfl, hG1, hb1⟩
    go_wp2_with fail
    refine (CO.out w1 r1 hG1 hb1).mono ?_
    cases ok with
    | true =>
      rintro e w2 ⟨a2, m2, c2, rfl, o2, hb2⟩
      go_wp2_with fail
      go_ret2
      exact ⟨a2, m2, c2, by rw [HO.out]; rfl, by rw [HO.out]; exact o2.mono hb1.size, hb1.trans (hb2.mono hb1.size)⟩
    | false =>
      rintro e w2 ⟨rfl, hb2⟩
      go_wp2_with fail
      go_ret2
      exact ⟨none, 0, 0, by rw [HO.out]; rfl, by rw [HO.out]; exact Own.nil _ _, hb1.trans (hb2.mono hb1.size)⟩

end Go.Proofs.YtjpejheipkfanaaDoor

/-
  Contracts of layer 12's program's Seal and Open. Conditions: what stands beside and texts of at most 300 bytes; a book that is not too long.
-/
namespace Go.Proofs.YtjpejheipkfanaaDoor
open Go.RowKit
set_option linter.unusedVariables false

theorem builtPl (k n : ByteArray) : Tryd.prog.built 61 [(0, .string k), (1, .string n)] = some #[.string k, .string n] := by kernel_rfl
theorem builtCt (k n : ByteArray) : Tryd.prog.built 63 [(0, .string k), (1, .string n)] = some #[.string k, .string n] := by kernel_rfl
theorem Own.kp {w w' : World} {base : Nat} {v : Value} {l : List UInt8} (h : Own w base v l) {F : Nat → Prop} (k : Kp F w w') (hF : ∀ j, F j → j < base) : Own w' base v l := by
  obtain ⟨h1, h2⟩ := h
  refine ⟨h1, ?_⟩
  rcases h2 with h2 | ⟨g, cap, cur, hv, hg, hh, r⟩
  · exact Or.inl h2
  · exact Or.inr ⟨g, cap, cur, hv, hg, by rw [k.block g (Array.getElem?_eq_some_iff.1 hh).1 fun e => by have := hF g e; omega]; exact hh, r⟩
theorem Own.ba {w : World} {base : Nat} {p : Option Addr} {m q : Nat} {l : List UInt8} (h : Own w base (.slice p m q) l) : BA (fun j => base ≤ j) w p m q l := (h.b5 (A := fun j => base ≤ j) fun j hj _ => hj).ba
theorem SeaS.tells_seal {S : SeaS} (h : S.Ok) (k n b t : List UInt8) : (S.reused || S.tells k n b t) = (S.reused || S.other k n b t) := (h.first_tells k n b t).symm
theorem SeaS.made_fit {S : SeaS} {k n b t : List UInt8} (hk : k.length = 32) (hn : n.length = 12) (ht : t.length ≤ 300) : fitW (S.made k n b t) := by
  unfold fitW SeaS.made
  split
  · rw [noiseL_length]
    omega
  · rw [sealL_length (keyF_length hk) hn]
    omega
theorem SeaS.Ok.made_new {S : SeaS} (h : S.Ok) (k n b t : List UInt8) (hi : S.ideal = true) : S.known k n b (S.made k n b t) = none := by
  have : S.made k n b t = noiseL (S.count + 1) (t.length + 16) := by unfold SeaS.made; rw [if_pos hi]
  rw [this]
  exact h.fresh hi k n b t.length

theorem oSSealNot (w : World) {r : Nat} {ak an ab at' : Option Addr} {nk ck nn cn nb cb nt ct : Nat} (zk : nk ≤ 1000000) (zn : nn ≤ 1000000) (hn : ¬ (nk = 32 ∧ nn = 12)) :
    Calls Tryd.prog 10 #[.pointer (some ⟨r, 0, none⟩), .slice ak nk ck, .slice an nn cn, .slice ab nb cb, .slice at' nt ct] w fun e w' => e = .returned (.tuple #[.slice none 0 0, .int .i64 17]) ∧ w = w' := by
  have CF := oFit w ak an nk ck nn cn zk zn
  rw [decide_eq_false hn] at CF
  have CF' : Hid (Calls Tryd.prog 26 #[.slice ak nk ck, .slice an nn cn] w fun e w' => e = .returned (.bool false) ∧ w = w') := CF
  clear CF
  go_enter Tryd.func10, Tryd.ntmps10
  go_wp2_with fail
  refine CF'.out.mono ?_
  rintro e w1 ⟨rfl, rfl⟩
  go_wp2_with fail
  go_ret2
  exact ⟨rfl, rfl⟩
theorem oSOpenNot (w : World) {r : Nat} {ak an ab at' : Option Addr} {nk ck nn cn nb cb nt ct : Nat} (zk : nk ≤ 1000000) (zn : nn ≤ 1000000) (hn : ¬ (nk = 32 ∧ nn = 12)) :
    Calls Tryd.prog 12 #[.pointer (some ⟨r, 0, none⟩), .slice ak nk ck, .slice an nn cn, .slice ab nb cb, .slice at' nt ct] w fun e w' => e = .returned (.tuple #[.slice none 0 0, .int .i64 17]) ∧ w = w' := by
  have CF := oFit w ak an nk ck nn cn zk zn
  rw [decide_eq_false hn] at CF
  have CF' : Hid (Calls Tryd.prog 26 #[.slice ak nk ck, .slice an nn cn] w fun e w' => e = .returned (.bool false) ∧ w = w') := CF
  clear CF
  go_enter Tryd.func12, Tryd.ntmps12
  go_wp2_with fail
  refine CF'.out.mono ?_
  rintro e w1 ⟨rfl, rfl⟩
  go_wp2_with fail
  go_ret2
  exact ⟨rfl, rfl⟩

set_option maxRecDepth 100000 in
set_option maxHeartbeats 2000000 in
theorem oSSeal (w : World) {U : Nat → Prop} {r : Nat} {S : SeaS} {M : SeaM} (h : Se U w r S M) (hok : S.Ok) {k n b t : List UInt8} {ak an ab at' : Option Addr} {ck cn nb cb nt ct : Nat} (bk : BA (fun j => ¬ U j) w ak 32 ck k) (bn : BA (fun j => ¬ U j) w an 12 cn n) (bb : BA (fun j => ¬ U j) w ab nb cb b) (bt' : BA (fun j => ¬ U j) w at' nt ct t) (zb : nb ≤ 300) (zt : nt ≤ 300) (hc : S.count + S.book.length + 3 ≤ 1000000) :
    Calls Tryd.prog 10 #[.pointer (some ⟨r, 0, none⟩), .slice ak 32 ck, .slice an 12 cn, .slice ab nb cb, .slice at' nt ct] w (Mades U r (S.seal k n b t) M (S.made k n b t) w) := by
  have HS : Hid (Se U w r S M) := h
  have CF : Hid (Calls Tryd.prog 26 #[.slice ak 32 ck, .slice an 12 cn] w fun e w' => e = .returned (.bool true) ∧ w = w') := oFit w ak an 32 ck 12 cn (by omega) (by omega)
  have CM : Hid (Calls Tryd.prog 27 #[.pointer (some ⟨r, 0, none⟩), .slice ak 32 ck, .slice an 12 cn, .slice ab nb cb, .slice at' nt ct] w (Mades U r { S with count := S.next } M (S.made k n b t) w)) := oMade w h bk.1 bn.1 bb.1 bt'.1 zb zt (by omega)
  have HK : Hid (BA (fun j => ¬ U j) w ak 32 ck k) := bk
  have HN : Hid (BA (fun j => ¬ U j) w an 12 cn n) := bn
  have HB : Hid (BA (fun j => ¬ U j) w ab nb cb b) := bb
  have HT : Hid (BA (fun j => ¬ U j) w at' nt ct t) := bt'
  have FM : Hid (fitW (S.made k n b t) ∧ fitW k ∧ fitW n ∧ fitW b ∧ fitW t) := by
    have l1 := bk.1.len
    have l2 := bn.1.len
    have l3 := bb.1.len
    have l4 := bt'.1.len
    refine ⟨SeaS.made_fit l1 l2 (by omega), ?_, ?_, ?_, ?_⟩ <;> (unfold fitW; omega)
  have HF : Hid (S.ideal = true → S.known k n b (S.made k n b t) = none) := hok.made_new k n b t
  have HR : Hid ((S.reused || S.tells k n b t) = (S.reused || S.other k n b t)) := SeaS.tells_seal hok k n b t
  have hnx : S.next ≤ S.count + 1 := by unfold SeaS.next; split <;> omega
  clear h bk bn bb bt'
  go_enter Tryd.func10, Tryd.ntmps10
  go_wp2_with fail
  refine CF.out.mono ?_
  rintro e w1 ⟨rfl, rfl⟩
  go_wp2_with fail
  refine CM.out.mono ?_
  rintro e w1 ⟨as', ms, cs', rfl, os, hS1, kp1⟩
  have K1 : Hid (Bs w1 ak 32 ck k) := (HK.out.keep kp1.size fun j hj hu => kp1.block j hj hu).1
  have N1 : Hid (Bs w1 an 12 cn n) := (HN.out.keep kp1.size fun j hj hu => kp1.block j hj hu).1
  have B1 : Hid (Bs w1 ab nb cb b) := (HB.out.keep kp1.size fun j hj hu => kp1.block j hj hu).1
  have T1 : Hid (Bs w1 at' nt ct t) := (HT.out.keep kp1.size fun j hj hu => kp1.block j hj hu).1
  have O1 : Hid (Own w1 w.heap.size (.slice as' ms cs') (S.made k n b t)) := os
  have S1 : Hid (Se U w1 r { S with count := S.next } M) := hS1
  have KP1 : Hid (Kp U w w1) := kp1
  have lr := hS1.blk.lt
  clear os hS1 kp1 CM CF HK HN HB HT
  go_wp2_with fail
  refine regionE 14 (S := Grows w1) (by kernel_rfl) (Below.refl _ w1).drew ?_
  refine takeT 0 (some 30) (.pointer (some ⟨r, 0, none⟩)) rfl rfl (by kernel_rfl) (fun _ _ _ h => h) (ans_plain (by rfl) (fun w _ => rfl)) ?_
  simp only [Act.put, List.setIfInBounds_toArray, List.set_cons_zero, List.set_cons_succ]
  refine takeT 1 (some 31) (.pointer (some ⟨r, 0, none⟩)) rfl rfl (by kernel_rfl) (fun _ _ _ h => h) (ans_plain (by rfl) (fun w _ => by unfold execOp; go_simp)) ?_
  simp only [Act.put, List.setIfInBounds_toArray, List.set_cons_zero, List.set_cons_succ]
  refine takeT 2 (some 32) (.pointer (some ⟨r, 2, none⟩)) rfl rfl (by kernel_rfl) (fun _ _ _ h => h) (ans_plain (by rfl) (fun w _ => by unfold execOp; go_simp)) ?_
  simp only [Act.put, List.setIfInBounds_toArray, List.set_cons_zero, List.set_cons_succ]
  refine takeT 3 (some 33) (.slice ak 32 ck) rfl rfl (by kernel_rfl) (fun _ _ _ h => h) (ans_plain (by rfl) (fun w _ => rfl)) ?_
  simp only [Act.put, List.setIfInBounds_toArray, List.set_cons_zero, List.set_cons_succ]
  refine takeT 4 (some 34) (sv k) rfl rfl (by kernel_rfl) (fun _ _ _ h => h) (ans_str (.tmp 33) rfl (by rfl) ak 32 ck k rfl (fun u hu => K1.out.below hu (Nat.le_refl _))) ?_
  simp only [Act.put, List.setIfInBounds_toArray, List.set_cons_zero, List.set_cons_succ]
  refine takeT 5 (some 35) (.slice an 12 cn) rfl rfl (by kernel_rfl) (fun _ _ _ h => h) (ans_plain (by rfl) (fun w _ => rfl)) ?_
  simp only [Act.put, List.setIfInBounds_toArray, List.set_cons_zero, List.set_cons_succ]
  refine takeT 6 (some 36) (sv n) rfl rfl (by kernel_rfl) (fun _ _ _ h => h) (ans_str (.tmp 35) rfl (by rfl) an 12 cn n rfl (fun u hu => N1.out.below hu (Nat.le_refl _))) ?_
  simp only [Act.put, List.setIfInBounds_toArray, List.set_cons_zero, List.set_cons_succ]
  refine takeT 7 (some 37) (.agg #[sv k, sv n]) rfl rfl (by kernel_rfl) (fun _ _ _ h => h) (ans_bdK 61 [(0, .tmp 34), (1, .tmp 36)] [(0, sv k), (1, sv n)] _ rfl (by rfl) rfl (builtPl _ _)) ?_
  simp only [Act.put, List.setIfInBounds_toArray, List.set_cons_zero, List.set_cons_succ]
  refine takeT 8 (some 38) (.slice ab nb cb) rfl rfl (by kernel_rfl) (fun _ _ _ h => h) (ans_plain (by rfl) (fun w _ => rfl)) ?_
  simp only [Act.put, List.setIfInBounds_toArray, List.set_cons_zero, List.set_cons_succ]
  refine takeT 9 (some 39) (sv b) rfl rfl (by kernel_rfl) (fun _ _ _ h => h) (ans_str (.tmp 38) rfl (by rfl) ab nb cb b rfl (fun u hu => B1.out.below hu (Nat.le_refl _))) ?_
  simp only [Act.put, List.setIfInBounds_toArray, List.set_cons_zero, List.set_cons_succ]
  refine takeT 10 (some 40) (.slice at' nt ct) rfl rfl (by kernel_rfl) (fun _ _ _ h => h) (ans_plain (by rfl) (fun w _ => rfl)) ?_
  simp only [Act.put, List.setIfInBounds_toArray, List.set_cons_zero, List.set_cons_succ]
  refine takeT 11 (some 41) (sv t) rfl rfl (by kernel_rfl) (fun _ _ _ h => h) (ans_str (.tmp 40) rfl (by rfl) at' nt ct t rfl (fun u hu => T1.out.below hu (Nat.le_refl _))) ?_
  simp only [Act.put, List.setIfInBounds_toArray, List.set_cons_zero, List.set_cons_succ]
  refine takeT 12 (some 42) (.agg #[sv b, sv t]) rfl rfl (by kernel_rfl) (fun _ _ _ h => h) (ans_bdK 63 [(0, .tmp 39), (1, .tmp 41)] [(0, sv b), (1, sv t)] _ rfl (by rfl) rfl (builtCt _ _)) ?_
  simp only [Act.put, List.setIfInBounds_toArray, List.set_cons_zero, List.set_cons_succ]
  refine takeT 13 (some 43) (.slice as' ms cs') rfl rfl (by kernel_rfl) (fun _ _ _ h => h) (ans_plain (by rfl) (fun w _ => rfl)) ?_
  simp only [Act.put, List.setIfInBounds_toArray, List.set_cons_zero, List.set_cons_succ]
  refine lastC 14 (some 44) 28 #[.tmp 32, .tmp 37, .tmp 42, .tmp 43] #[50, 61, 63, 22] #[.pointer (some ⟨r, 2, none⟩), kvP (k, n), ctv b t, .slice as' ms cs'] rfl rfl rfl (by rfl) (by rfl) (by kernel_rfl) (by kernel_rfl) (by kernel_rfl) (by kernel_rfl) Tryd.call28 fun w2 hg2 hs2 => ?_
  refine (oAddB w2 (S1.out.grow hs2) (O1.out.toBs.below hs2 (Nat.le_refl _)) FM.out.2.1 FM.out.2.2.1 FM.out.2.2.2.1 FM.out.2.2.2.2 FM.out.1 HF.out (by dsimp only; omega)).mono ?_
  rintro e w3 ⟨rfl, hS3, kp3⟩
  refine ⟨_, rfl, fun w4 hg4 => ?_⟩
  simp only [Act.put, List.setIfInBounds_toArray, List.set_cons_zero, List.set_cons_succ]
  have hlt := HS.out.lt
  have KP4 : Hid (Kp U w w4) := ((KP1.out.trans (Kp.of_below hs2)).trans kp3).trans (Kp.of_below hg4)
  have O4 : Hid (Own w4 w.heap.size (.slice as' ms cs') (S.made k n b t)) := ((O1.out.below hs2 (Nat.le_refl _)).kp kp3 hlt).below hg4 (Nat.le_refl _)
  have S4 : Hid (Se U w4 r (({ S with count := S.next } : SeaS).add k n b t (S.made k n b t)) M) := hS3.grow hg4
  have HE : Hid (({ S with count := S.next } : SeaS).tells k n b t = S.tells k n b t) := rfl
  have hbk := S4.out.blk
  have c5 : w4.cell? ⟨r, 5, none⟩ = some (.bool S.reused) := hbk.cell 5
  have f5 := hbk.free 5
  have l4 := hbk.lt
  have B5' : Hid (Blk w4 r (seC (({ S with count := S.next } : SeaS).add k n b t (S.made k n b t)) M) 55) := hbk
  rw [HE.out]
  clear hS3 kp3 hg4 hs2 hg2 K1 N1 B1 T1 O1 S1 KP1 lr hbk HE hlt
  cases htl : S.tells k n b t with
  | true =>
    have hk5 : Kp (fun j => j = r) w4 (w4.setCell ⟨r, 5, none⟩ (.bool true)) := Kp.of_grown (but_set w4 r 5 _)
    have hes : S.seal k n b t = { ({ S with count := S.next } : SeaS).add k n b t (S.made k n b t) with reused := true } := by
      rw [S.seal_add, ← HR.out, htl, Bool.or_true]
    have S5 : Hid (Se U (w4.setCell ⟨r, 5, none⟩ (.bool true)) r (S.seal k n b t) M) := by
      rw [hes]
      refine S4.out.put hk5 ?_ rfl rfl rfl S4.out.bound
      exact B5'.out.setC 5 (.bool true)
    have O5 : Hid (Own (w4.setCell ⟨r, 5, none⟩ (.bool true)) w.heap.size (.slice as' ms cs') (S.made k n b t)) := O4.out.kp hk5 fun j hj => by rw [hj]; exact HS.out.lt r HS.out.inR
    have KP5 : Hid (Kp U w (w4.setCell ⟨r, 5, none⟩ (.bool true))) := KP4.out.trans (hk5.mono fun j _ e => by rw [e]; exact HS.out.inR)
    clear hk5 hes htl
    go_wp2_with fail
    go_ret2
    exact ⟨as', ms, cs', rfl, O5.out, S5.out, KP5.out⟩
  | false =>
    have hes : S.seal k n b t = ({ S with count := S.next } : SeaS).add k n b t (S.made k n b t) := by
      rw [S.seal_add, ← HR.out, htl, Bool.or_false]
      rfl
    have S5 : Hid (Se U w4 r (S.seal k n b t) M) := by
      show Se _ _ _ _ _
      rw [hes]
      exact S4.out
    clear hes htl
    go_wp2_with fail
    go_ret2
    exact ⟨as', ms, cs', rfl, O4.out, S5.out, KP4.out⟩

end Go.Proofs.YtjpejheipkfanaaDoor
