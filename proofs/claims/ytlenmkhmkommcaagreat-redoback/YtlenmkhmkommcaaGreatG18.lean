/-
  8 texts in one. No statement of the seat is proved here.
-/
import Derived.Test.YtlenmkhmkommcaaGreatG17
import Derived.Deep.RegionLaw
import Derived.BigRegion
/-
  The contract of layer 6's reference's stream: a text under the blocks of a nonce. Conditions: the key's parts lie where its slices lead; a nonce of 12 bytes; a text of at most 1000.
-/
namespace Go.Proofs.YtlenmkhmkommcaaGreat
open Go.RowKit

theorem Bs.grownBy {w w' : World} {row : Option Nat} {a : Option Addr} {n c : Nat} {l : List UInt8} (h : Bs w a n c l) (hg : w.grownBy w' row) (hr : ∀ x, a = some x → row ≠ some x.block) : Bs w' a n c l := by
  refine ⟨h.1, h.2.1, h.2.2.1, h.2.2.2.1, fun i hi => ?_⟩
  obtain ⟨b, o, ha, hc⟩ := h.2.2.2.2 i hi
  exact ⟨b, o, ha, hg.cell hc (fun e => hr _ ha e.symm)⟩
end Go.Proofs.YtlenmkhmkommcaaGreat

/-
  A key of the reference in a region that draws its order: its parts, and all of it, out of its variable. No condition; no statement of the seat is proved here.
-/
namespace Go.Proofs.YtlenmkhmkommcaaGreat
open Go.RowKit

/-- All of a key. -/
def kc (a1 a2 a3 : Option Addr) (c1 c2 c3 : Nat) : List Value := [.slice a1 256 c1, .slice a2 60 c2, .slice a3 128 c3]
end Go.Proofs.YtlenmkhmkommcaaGreat

/-
  The contract of the reference's Xor. Condition: rows of at most 1000000 bytes.
-/
namespace Go.Proofs.YtlenmkhmkommcaaGreat
open Go.RowKit

end Go.Proofs.YtlenmkhmkommcaaGreat

/-
  The contract of layer 6's reference's Tag. Conditions: the key's parts lie where its slices lead; a nonce of 12 bytes; what stands beside, and what is sealed, of at most 900 bytes.
-/
namespace Go.Proofs.YtlenmkhmkommcaaGreat
open Go.RowKit

end Go.Proofs.YtlenmkhmkommcaaGreat

/-
  The contracts of layer 6's reference's Seal and Open. Conditions: the key's parts lie where its slices lead; rows of at most 900 bytes.
-/
namespace Go.Proofs.YtlenmkhmkommcaaGreat
open Go.RowKit

/-- What Seal and Open leave: bytes in new memory. -/
def GivesC (w : World) (l : List UInt8) (e : Ending) (w' : World) : Prop := ∃ a m c, e = .returned (.tuple #[.slice a m c, .int .i64 0]) ∧ Own w' w.heap.size (.slice a m c) l ∧ Below w.heap.size w w'

/-- 'b[:k]', 'b[k:]' in a region. -/
theorem ans_hi {ops : Array Oper} {S : World → Prop} {oi : Oper} {a : Act} (x y : Operand) (ho : oi.op = .slice 26 x none (some y) none) (hw : Region.wanted oi (yielded ops a.tmps) = true) (u v r : Value) (hx : a.eval x = u) (hy : a.eval y = v) (hr : ∀ w, Sem.run Tryz.prog (Instr.slice 26 u none (some v) none) w = .ok r w) : Ans Tryz.prog ops S oi r a := by
  refine ans_plain hw fun w _ => ?_
  unfold execOp
  simp only [ho, hx, hy, Option.map]
  go_simp
theorem ans_lo {ops : Array Oper} {S : World → Prop} {oi : Oper} {a : Act} (x y : Operand) (ho : oi.op = .slice 26 x (some y) none none) (hw : Region.wanted oi (yielded ops a.tmps) = true) (u v r : Value) (hx : a.eval x = u) (hy : a.eval y = v) (hr : ∀ w, Sem.run Tryz.prog (Instr.slice 26 u (some v) none none) w = .ok r w) : Ans Tryz.prog ops S oi r a := by
  refine ans_plain hw fun w _ => ?_
  unfold execOp
  simp only [ho, hx, hy, Option.map]
  go_simp

/-- What Open leaves of a row that has a tag. -/
def OpensC (w : World) (ok : Bool) (l : List UInt8) (e : Ending) (w' : World) : Prop := if ok then GivesC w l e w' else e = .returned (.tuple #[.slice none 0 0, .int .i64 6]) ∧ Below w.heap.size w w'

end Go.Proofs.YtlenmkhmkommcaaGreat

/-
  The contract of layer 6's reference's New: a key's box, words and element. Condition: a key of 32 bytes.
-/
namespace Go.Proofs.YtlenmkhmkommcaaGreat
open Go.RowKit

/-- What New leaves. -/
def HasK (w : World) (K : List UInt8) (e : Ending) (w' : World) : Prop := ∃ a1 a2 a3 c1 c2 c3, e = .returned (kv a1 a2 a3 c1 c2 c3) ∧ KeyR w' K a1 a2 a3 c1 c2 c3 ∧ Below w.heap.size w w'

end Go.Proofs.YtlenmkhmkommcaaGreat

/-
  The contract of the program's Same. No condition.
-/
namespace Go.Proofs.YtlenmkhmkommcaaGreat
open Go.RowKit

theorem orx {t a b : Int} (h0 : 0 ≤ t) (h1 : t ≤ 255) (a0 : 0 ≤ a) (a1 : a ≤ 255) (b0 : 0 ≤ b) (b1 : b ≤ 255) :
    0 ≤ bits .or .u8 t (bits .xor .u8 a b) ∧ bits .or .u8 t (bits .xor .u8 a b) ≤ 255 ∧ (bits .or .u8 t (bits .xor .u8 a b) = 0 ↔ t = 0 ∧ a = b) := by
  have hx := u8_xor a b a0 (by omega) b0 (by omega)
  have hlt : a.toNat ^^^ b.toNat < 2 ^ 8 := Nat.xor_lt_two_pow (by omega) (by omega)
  rw [hx, u8_or t _ h0 (by omega) (by omega) (by omega), Int.toNat_natCast]
  have hlt2 : t.toNat ||| (a.toNat ^^^ b.toNat) < 2 ^ 8 := Nat.or_lt_two_pow (by omega) hlt
  refine ⟨by omega, by omega, ?_⟩
  constructor
  · intro h
    have h : t.toNat ||| (a.toNat ^^^ b.toNat) = 0 := by omega
    rw [Nat.or_eq_zero_iff] at h
    have e := congrArg (· ^^^ b.toNat) h.2
    simp only [Nat.xor_assoc, Nat.xor_self, Nat.xor_zero, Nat.zero_xor] at e
    omega
  · rintro ⟨rfl, rfl⟩
    simp

theorem osame_step {l m : List UInt8} {k : Nat} {t : Int} (h : Hid (t = 0 ↔ ∀ j, j < k → bt l j = bt m j))
    (O : Hid (0 ≤ bits .or .u8 t (bits .xor .u8 (bt l k) (bt m k)) ∧ bits .or .u8 t (bits .xor .u8 (bt l k) (bt m k)) ≤ 255 ∧ (bits .or .u8 t (bits .xor .u8 (bt l k) (bt m k)) = 0 ↔ t = 0 ∧ bt l k = bt m k))) :
    Hid (bits .or .u8 t (bits .xor .u8 (bt l k) (bt m k)) = 0 ↔ ∀ j, j < k + 1 → bt l j = bt m j) := by
  show _ ↔ _
  rw [O.out.2.2, h.out]
  constructor
  · rintro ⟨h1, h2⟩ j hj
    by_cases e : j = k
    · subst e; exact h2
    · exact h1 j (by omega)
  · intro h1
    exact ⟨fun j hj => h1 j (by omega), h1 k (by omega)⟩
theorem osame_end {l m : List UInt8} {n k : Nat} {t : Int} (H : Hid (l.length = n ∧ m.length = n)) (h : ¬ k < n) (hj : Hid (t = 0 ↔ ∀ j, j < k → bt l j = bt m j)) : (t == 0) = decide (l = m) := by
  obtain ⟨h1, h2⟩ := H.out
  rw [Bool.eq_iff_iff, beq_iff_eq, decide_eq_true_iff, hj.out]
  constructor
  · intro h3
    exact bt_inj (by omega) fun i hi => h3 i (by omega)
  · rintro rfl j _
    rfl

set_option maxHeartbeats 400000 in
theorem oSame (w : World) {a b : Option Addr} {n c n' c' : Nat} {l m : List UInt8} (ha : Bs w a n c l) (hb : Bs w b n' c' m) :
    Calls Tryz.prog 140 #[.slice a n c, .slice b n' c'] w fun e w' => e = .returned (.bool (decide (l = m))) ∧ w = w' := by
  have h1 := ha.max
  have h2 := hb.max
  by_cases hn : n = n'
  · subst hn
    by_cases h0 : n = 0
    · subst h0
      have e : decide (l = m) = true := by
        have e1 := ha.len
        have e2 := hb.len
        simp at e1 e2
        simp [e1, e2]
      rw [e]
      clear e ha hb
      go_enter Tryz.func140, Tryz.ntmps140
      go_wp2
      refine wp_loop_rounds 1 ?_; rw [rounds_succ]; go_wp2
      go_ret
      exact ⟨rfl, rfl⟩
    · obtain ⟨x, o, rfl, hx, hc⟩ := ha.at (by omega)
      obtain ⟨y, q, rfl, hy, hd⟩ := hb.at (by omega)
      have e1 := ha.len
      have e2 := hb.len
      have H : Hid (l.length = n ∧ m.length = n) := ⟨e1, e2⟩
      clear e1 e2 ha hb
      go_enter Tryz.func140, Tryz.ntmps140
      go_wp2
      go_loop [5, 15] (fun u i => ∃ (k : Nat) (t : Int), k ≤ n ∧ i = .int .i64 k ∧ u = .int .u8 t ∧ 0 ≤ t ∧ t ≤ 255 ∧ Hid (t = 0 ↔ ∀ j, j < k → bt l j = bt m j)) (fun _ i => n - (intOf i).toNat)
      case atStart => exact ⟨0, 0, Nat.zero_le _, rfl, rfl, by omega, by omega, ⟨fun _ j hj => by omega, fun _ => rfl⟩⟩
      case round =>
        obtain ⟨k, t, hk, rfl, rfl, t0, t1, hj⟩ := hrel
        by_cases hlt : k < n
        · have c1 := hc k hlt
          have c2 := hd k hlt
          have O : Hid (_ ∧ _ ∧ _) := orx t0 t1 (bt_lo l k) (bt_hi l k) (bt_lo m k) (bt_hi m k)
          clear hc hd
          go_wp2
          go_round
          case rel => exact ⟨k + 1, _, by omega, by go_num, rfl, O.out.1, O.out.2.1, osame_step hj O⟩
          case measure => simp [intOf]; omega
        · go_wp2
          go_ret
          exact ⟨ret_bool (osame_end H hlt hj), rfl⟩
  · have hq' : ((n : Int) != (n' : Int)) = true := by simp; omega
    have e : decide (l = m) = false := by
      have e1 := ha.len
      have e2 := hb.len
      simp
      intro h
      rw [h] at e1
      omega
    rw [e]
    clear e ha hb
    go_enter Tryz.func140, Tryz.ntmps140
    go_wp2
    go_ret
    exact ⟨rfl, rfl⟩

end Go.Proofs.YtlenmkhmkommcaaGreat

/-
  The contracts of layer 6's New, Seal and Open. Conditions: the key lies where the pointer leads; what stands beside, and texts, of at most 600 bytes.
-/
namespace Go.Proofs.YtlenmkhmkommcaaGreat
open Go.RowKit

theorem oGOpenShort (w : World) {r : Nat} {K : List UInt8} {an ae at' : Option Addr} {cn ne ce nt ct : Nat} (_hG : Gc w r K) (hn : nt < 16) :
    Calls Tryz.prog 119 #[.pointer (some ⟨r, 0, none⟩), .slice an 12 cn, .slice ae ne ce, .slice at' nt ct] w fun e w' => e = .returned (.tuple #[.slice none 0 0, .int .i64 3]) ∧ Below w.heap.size w w' := by
  have h1 : ((12 : Int) != 12) = false := by decide
  have h2 : (nt : Int) < 16 := by omega
  go_enter Tryz.func119, Tryz.ntmps119
  go_wp2
  go_ret2
  exact ⟨rfl, Below.refl _ _⟩

set_option maxRecDepth 100000 in
set_option maxHeartbeats 2000000 in
theorem oGSeal (w : World) {r : Nat} {K nonce be t : List UInt8} {an ae at' : Option Addr} {cn ne ce nt ct : Nat} (hG : Gc w r K) (hK : K.length = 240) (hn : Bs w an 12 cn nonce) (hE : Bs w ae ne ce be) (hT : Bs w at' nt ct t) (hze : ne ≤ 600) (hzt : nt ≤ 600) :
    Calls Tryz.prog 112 #[.pointer (some ⟨r, 0, none⟩), .slice an 12 cn, .slice ae ne ce, .slice at' nt ct] w (GivesC w (sealL K nonce be t)) := by
  have HNL : Hid (nonce.length = 12) := hn.len
  have HSL : Hid ((strL K nonce t).length = nt) := by show _ = _; rw [strL_length hK HNL.out, hT.len]
  have HTL : Hid ((tagL K nonce be (strL K nonce t)).length = 16) := tagL_length hK HNL.out _ _
  have HS : Hid (sealL K nonce be t = strL K nonce t ++ tagL K nonce be (strL K nonce t)) := rfl
  have h1 : ((12 : Int) != 12) = false := by decide
  obtain ⟨Z, hZ⟩ : ∃ Z, Z = sealL K nonce be t := ⟨_, rfl⟩
  rw [← hZ] at HS ⊢
  clear hZ
  go_enter Tryz.func112, Tryz.ntmps112
  go_wp2_with fail
  refine (oHidden w hG hK hn hT (by omega)).mono ?_
  rintro e u1 ⟨p1, m1, x1, rfl, ho1, hG1⟩
  have hB1 := ho1.toBs
  have hm1 : m1 = nt := by rw [← hB1.len]; exact HSL.out
  subst hm1
  generalize strL K nonce t = s at *
  go_wp2_with fail
  refine (oTagG u1 (hG.below hG1) hK (hn.below hG1 (Nat.le_refl _)) (hE.below hG1 (Nat.le_refl _)) hB1 (by omega) (by omega)).mono ?_
  rintro e u2 ⟨p2, m2, x2, rfl, ho2, hG2⟩
  have hm2 : m2 = 16 := by rw [← ho2.toBs.len]; exact HTL.out
  subst hm2
  go_wp2_with fail
  refine (oJoin2 u2 (hB1.below hG2 (Nat.le_refl _)) ho2.toBs (by omega)).mono ?_
  rintro e u3 ⟨p3, m3, x3, rfl, ho3, hb3⟩
  rw [← HS.out] at ho3
  have q2 : Below w.heap.size w u2 := hG1.trans (hG2.mono hG1.size)
  go_wp2_with fail
  go_ret2
  exact ⟨p3, m3, x3, rfl, ho3.mono q2.size, q2.trans (hb3.mono q2.size)⟩

set_option maxRecDepth 100000 in
set_option maxHeartbeats 2000000 in
theorem oGOpen (w : World) {r : Nat} {K nonce be s : List UInt8} {an ae as' : Option Addr} {cn ne ce ns cs' : Nat} (hG : Gc w r K) (hK : K.length = 240) (hn : Bs w an 12 cn nonce) (hE : Bs w ae ne ce be) (hS : Bs w as' ns cs' s) (hze : ne ≤ 600) (hzs : ns ≤ 600) (h16 : 16 ≤ ns) :
    Calls Tryz.prog 119 #[.pointer (some ⟨r, 0, none⟩), .slice an 12 cn, .slice ae ne ce, .slice as' ns cs'] w (OpensC w (decide (tagL K nonce be (s.take (ns - 16)) = s.drop (ns - 16))) (strL K nonce (s.take (ns - 16)))) := by
  have HNL : Hid (nonce.length = 12) := hn.len
  have h1 : ((12 : Int) != 12) = false := by decide
  obtain ⟨m, hm⟩ : ∃ m, m = ns - 16 := ⟨_, rfl⟩
  have i0 : ¬ (ns : Int) < 16 := by omega
  have i1 : (ns : Int) - 16 = (m : Int) := by omega
  have i2 : (0 : Int) ≤ (m : Int) := by omega
  have i3 : (m : Int) ≤ (ns : Int) := by omega
  rw [← hm]
  have HM : Hid (m = ns - 16) := hm
  clear hm
  have hmn : m ≤ ns := by have := HM.out; omega
  obtain ⟨hhi, hhB⟩ := hS.cutHigh m hmn
  obtain ⟨p', x', hlo, hlB, _⟩ := hS.cutLow m hmn
  have hsH := hhB w hS
  have hsL := hlB w hS
  obtain ⟨A, hA⟩ : ∃ A, A = s.take m := ⟨_, rfl⟩
  obtain ⟨C, hC⟩ : ∃ C, C = s.drop m := ⟨_, rfl⟩
  rw [← hA] at hsH ⊢
  rw [← hC] at hsL ⊢
  clear hA hC hhB hlB
  obtain ⟨b, hb⟩ : ∃ b, b = decide (C = tagL K nonce be A) := ⟨_, rfl⟩
  have hb' : decide (tagL K nonce be A = C) = b := by rw [hb]; exact decide_eq_decide.2 eq_comm
  have HB : Hid (decide (tagL K nonce be A = C) = b) := hb'
  clear hb'
  go_enter Tryz.func119, Tryz.ntmps119
  go_wp2_with fail
  refine regionG (S := Grows w) (by kernel_rfl) (Below.refl _ w).drew ?_
  refine takeG 0 (some 20) (.slice as' ns cs') rfl rfl (by kernel_rfl) (by kernel_rfl) (by kernel_rfl) (fun _ _ _ h => h) (ans_plain (by rfl) (fun w _ => rfl)) ?_
  simp only [Act.put, List.setIfInBounds_toArray, List.set_cons_zero, List.set_cons_succ]
  refine takeG 1 (some 21) (.int .i64 (m : Int)) rfl rfl (by kernel_rfl) (by kernel_rfl) (by kernel_rfl) (fun _ _ _ h => h) (ans_plain (by rfl) (fun w _ => rfl)) ?_
  simp only [Act.put, List.setIfInBounds_toArray, List.set_cons_zero, List.set_cons_succ]
  refine takeG 2 (some 22) (.slice p' (ns - m) x') rfl rfl (by kernel_rfl) (by kernel_rfl) (by kernel_rfl) (fun _ _ _ h => h) (ans_lo (.tmp 20) (.tmp 21) rfl (by rfl) _ _ _ rfl rfl hlo) ?_
  simp only [Act.put, List.setIfInBounds_toArray, List.set_cons_zero, List.set_cons_succ]
  refine takeG 3 (some 23) (.pointer (some ⟨r, 0, none⟩)) rfl rfl (by kernel_rfl) (by kernel_rfl) (by kernel_rfl) (fun _ _ _ h => h) (ans_plain (by rfl) (fun w _ => rfl)) ?_
  simp only [Act.put, List.setIfInBounds_toArray, List.set_cons_zero, List.set_cons_succ]
  refine takeG 4 (some 24) (.slice an 12 cn) rfl rfl (by kernel_rfl) (by kernel_rfl) (by kernel_rfl) (fun _ _ _ h => h) (ans_plain (by rfl) (fun w _ => rfl)) ?_
  simp only [Act.put, List.setIfInBounds_toArray, List.set_cons_zero, List.set_cons_succ]
  refine takeG 5 (some 25) (.slice ae ne ce) rfl rfl (by kernel_rfl) (by kernel_rfl) (by kernel_rfl) (fun _ _ _ h => h) (ans_plain (by rfl) (fun w _ => rfl)) ?_
  simp only [Act.put, List.setIfInBounds_toArray, List.set_cons_zero, List.set_cons_succ]
  refine takeG 6 (some 26) (.slice as' ns cs') rfl rfl (by kernel_rfl) (by kernel_rfl) (by kernel_rfl) (fun _ _ _ h => h) (ans_plain (by rfl) (fun w _ => rfl)) ?_
  simp only [Act.put, List.setIfInBounds_toArray, List.set_cons_zero, List.set_cons_succ]
  refine takeG 7 (some 27) (.int .i64 (m : Int)) rfl rfl (by kernel_rfl) (by kernel_rfl) (by kernel_rfl) (fun _ _ _ h => h) (ans_plain (by rfl) (fun w _ => rfl)) ?_
  simp only [Act.put, List.setIfInBounds_toArray, List.set_cons_zero, List.set_cons_succ]
  refine takeG 8 (some 28) (.slice as' m cs') rfl rfl (by kernel_rfl) (by kernel_rfl) (by kernel_rfl) (fun _ _ _ h => h) (ans_hi (.tmp 26) (.tmp 27) rfl (by rfl) _ _ _ rfl rfl hhi) ?_
  simp only [Act.put, List.setIfInBounds_toArray, List.set_cons_zero, List.set_cons_succ]
  refine callG 9 (some 29) 136 #[.tmp 23, .tmp 24, .tmp 25, .tmp 28] #[187, 26, 26, 26] #[.pointer (some ⟨r, 0, none⟩), .slice an 12 cn, .slice ae ne ce, .slice as' m cs'] rfl rfl rfl (by rfl) (by rfl) (by kernel_rfl) Tryz.call136 fun u1 hg1 hs1 => ?_
  refine (oTagG u1 (hG.below hs1) hK (hn.grows hs1) (hE.grows hs1) (hsH.grows hs1) (by omega) (by omega)).mono ?_
  rintro e u2 ⟨p2, m2, x2, rfl, ho2, hG2⟩
  refine ⟨_, rfl, Grows.trans hs1 hG2, ?_⟩
  simp only [Act.put, List.setIfInBounds_toArray, List.set_cons_zero, List.set_cons_succ]
  refine callG 10 (some 30) 140 #[.tmp 22, .tmp 29] #[26, 26] #[.slice p' (ns - m) x', .slice p2 m2 x2] rfl rfl rfl (by rfl) (by rfl) (by kernel_rfl) Tryz.call140 fun u3 hg3 hs3 => ?_
  refine (oSame u3 (hsL.grows hs3) (ho2.toBs.grows hg3)).mono ?_
  rintro e u4 ⟨rfl, rfl⟩
  rw [← hb]
  refine ⟨_, rfl, hs3, ?_⟩
  simp only [Act.put, List.setIfInBounds_toArray, List.set_cons_zero, List.set_cons_succ]
  refine takeG 11 (some 31) (.bool (!b)) rfl rfl (by kernel_rfl) (by kernel_rfl) (by kernel_rfl) (fun _ _ _ h => h) (ans_plain (by rfl) (fun w _ => by unfold execOp; go_simp)) ?_
  simp only [Act.put, List.setIfInBounds_toArray, List.set_cons_zero, List.set_cons_succ]
  refine doneG (by kernel_rfl) fun u5 hg5 hs5 => ?_
  cases b with
  | false =>
    go_wp2_with fail
    go_ret2
    unfold OpensC
    rw [HB.out, if_neg (by decide)]
    exact ⟨rfl, hs5⟩
  | true =>
    go_wp2_with fail
    refine (oHidden u5 (hG.below hs5) hK (hn.grows hs5) (hsH.grows hs5) (by omega)).mono ?_
    rintro e u7 ⟨p7, m7, x7, rfl, ho7, hG7⟩
    go_wp2_with fail
    go_ret2
    unfold OpensC
    rw [HB.out, if_pos rfl]
    exact ⟨p7, m7, x7, rfl, ho7.mono (Below.size hs5), Grows.trans hs5 hG7⟩

end Go.Proofs.YtlenmkhmkommcaaGreat
