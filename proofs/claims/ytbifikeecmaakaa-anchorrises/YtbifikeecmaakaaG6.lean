/-
  3 texts in one. No statement of the seat is proved here.
-/
import Derived.Test.YtbifikeecmaakaaG5
import Derived.Deep.RegionLaw
import Derived.BigRegion
/-
  The contract of the program's Xor: two rows of bytes, one by one exclusive-ored. Condition: rows of at most 1000000 bytes.
-/
namespace Go.Proofs.Ytbifikeecmaakaa
open Go.RowKit

theorem xor_room {l m : List UInt8} {k q : Nat} (h1 : q ≤ l.length) (h2 : q ≤ m.length) (hk : k ≤ q) : (xorL (l.take k) (m.take k) ++ List.replicate (q - k) 0).length = q := by
  unfold xorL
  simp
  omega
theorem xor_step {l m : List UInt8} {k q : Nat} (h1 : q ≤ l.length) (h2 : q ≤ m.length) (hk : k < q) {x : UInt8} (e : xorL (l.take (k + 1)) (m.take (k + 1)) = xorL (l.take k) (m.take k) ++ [x]) :
    (xorL (l.take k) (m.take k) ++ List.replicate (q - k) 0).set k x = xorL (l.take (k + 1)) (m.take (k + 1)) ++ List.replicate (q - (k + 1)) 0 := by
  have hl : (xorL (l.take k) (m.take k)).length = k := by unfold xorL; simp; omega
  rw [e, List.set_append_right _ _ (by omega), hl]
  obtain ⟨d, rfl⟩ : ∃ d, q = k + 1 + d := ⟨q - (k + 1), by omega⟩
  rw [show k + 1 + d - k = d + 1 from by omega, show k + 1 + d - (k + 1) = d from by omega, List.replicate_succ]
  simp
theorem xor_end {l m : List UInt8} {n n' k : Nat} (h1 : l.length = n) (h2 : m.length = n') (hk : k = min n n') : xorL (l.take k) (m.take k) ++ List.replicate (min n n' - k) 0 = xorL l m := by
  subst hk
  subst h1
  subst h2
  unfold xorL
  rw [Nat.sub_self]
  simp only [List.replicate_zero, List.append_nil]
  rw [← List.take_zipWith, List.take_of_length_le (by simp)]

theorem xor_own {w : World} {base r k q : Nat} {v : Value} {A C : List UInt8} (e : A ++ List.replicate (q - k) 0 = C) (hq : q = r) (h : Own w base v (A ++ List.replicate (r - k) 0)) : Own w base v C := by
  subst hq
  rw [← e]
  exact h
theorem xor_nil {w : World} {base n n' r : Nat} {v : Value} {l m : List UInt8} (H : Hid (l.length = n ∧ m.length = n')) (h : min n n' = 0) (hr : r = 0) (ho : Own w base v (List.replicate r 0)) : Own w base v (xorL l m) := by
  have e : xorL l m = [] := by
    unfold xorL
    apply List.length_eq_zero_iff.1
    rw [List.length_zipWith, H.out.1, H.out.2]
    exact h
  subst hr
  rw [e]
  exact ho

end Go.Proofs.Ytbifikeecmaakaa

/-
  The contract of the program's Same. No condition.
-/
namespace Go.Proofs.Ytbifikeecmaakaa
open Go.RowKit

theorem orx {t a b : Int} (h0 : 0 ≤ t) (h1 : t ≤ 255) (a0 : 0 ≤ a) (a1 : a ≤ 255) (b0 : 0 ≤ b) (b1 : b ≤ 255) :
    0 ≤ bits .or .u8 t (bits .xor .u8 a b) ∧ bits .or .u8 t (bits .xor .u8 a b) ≤ 255 ∧ (bits .or .u8 t (bits .xor .u8 a b) = 0 ↔ t = 0 ∧ a = b) := by
  have hx := u8_xor a b a0 (by omega) b0 (by omega)
  have hlt : a.toNat ^^^ b.toNat < 2 ^ 8 := Nat.xor_lt_two_pow (by omega) (by omega)
  rw [hx, u8_or t _ h0 (by omega) (by omega) (by omega), Int.toNat_natCast]
  have hlt2 : t.toNat ||| (a.toNat ^^^ b.toNat) < 2 ^ 8 := Nat.or_lt_two_pow (by omega) hlt
  refine ⟨by omega, by omega, ?_⟩
  constructor
  · intro h
    have h : t.toNat ||| (a.toNat ^^^ b.toNat) = 0 := by omega
    rw [Nat.or_eq_zero_iff] at h
    have e := congrArg (· ^^^ b.toNat) h.2
    simp only [Nat.xor_assoc, Nat.xor_self, Nat.xor_zero, Nat.zero_xor] at e
    omega
  · rintro ⟨rfl, rfl⟩
    simp

theorem osame_step {l m : List UInt8} {k : Nat} {t : Int} (h : Hid (t = 0 ↔ ∀ j, j < k → bt l j = bt m j))
    (O : Hid (0 ≤ bits .or .u8 t (bits .xor .u8 (bt l k) (bt m k)) ∧ bits .or .u8 t (bits .xor .u8 (bt l k) (bt m k)) ≤ 255 ∧ (bits .or .u8 t (bits .xor .u8 (bt l k) (bt m k)) = 0 ↔ t = 0 ∧ bt l k = bt m k))) :
    Hid (bits .or .u8 t (bits .xor .u8 (bt l k) (bt m k)) = 0 ↔ ∀ j, j < k + 1 → bt l j = bt m j) := by
  show _ ↔ _
  rw [O.out.2.2, h.out]
  constructor
  · rintro ⟨h1, h2⟩ j hj
    by_cases e : j = k
    · subst e; exact h2
    · exact h1 j (by omega)
  · intro h1
    exact ⟨fun j hj => h1 j (by omega), h1 k (by omega)⟩
theorem osame_end {l m : List UInt8} {n k : Nat} {t : Int} (H : Hid (l.length = n ∧ m.length = n)) (h : ¬ k < n) (hj : Hid (t = 0 ↔ ∀ j, j < k → bt l j = bt m j)) : (t == 0) = decide (l = m) := by
  obtain ⟨h1, h2⟩ := H.out
  rw [Bool.eq_iff_iff, beq_iff_eq, decide_eq_true_iff, hj.out]
  constructor
  · intro h3
    exact bt_inj (by omega) fun i hi => h3 i (by omega)
  · rintro rfl j _
    rfl

set_option maxHeartbeats 400000 in
theorem oSame (w : World) {a b : Option Addr} {n c n' c' : Nat} {l m : List UInt8} (ha : Bs w a n c l) (hb : Bs w b n' c' m) :
    Calls Try.prog 52 #[.slice a n c, .slice b n' c'] w fun e w' => e = .returned (.bool (decide (l = m))) ∧ w = w' := by
  have h1 := ha.max
  have h2 := hb.max
  by_cases hn : n = n'
  · subst hn
    by_cases h0 : n = 0
    · subst h0
      have e : decide (l = m) = true := by
        have e1 := ha.len
        have e2 := hb.len
        simp at e1 e2
        simp [e1, e2]
      rw [e]
      clear e ha hb
      go_enter Try.func52, Try.ntmps52
      go_wp2
      refine wp_loop_rounds 1 ?_; rw [rounds_succ]; go_wp2
      go_ret
      exact ⟨rfl, rfl⟩
    · obtain ⟨x, o, rfl, hx, hc⟩ := ha.at (by omega)
      obtain ⟨y, q, rfl, hy, hd⟩ := hb.at (by omega)
      have e1 := ha.len
      have e2 := hb.len
      have H : Hid (l.length = n ∧ m.length = n) := ⟨e1, e2⟩
      clear e1 e2 ha hb
      go_enter Try.func52, Try.ntmps52
      go_wp2
      go_loop [5, 15] (fun u i => ∃ (k : Nat) (t : Int), k ≤ n ∧ i = .int .i64 k ∧ u = .int .u8 t ∧ 0 ≤ t ∧ t ≤ 255 ∧ Hid (t = 0 ↔ ∀ j, j < k → bt l j = bt m j)) (fun _ i => n - (intOf i).toNat)
      case atStart => exact ⟨0, 0, Nat.zero_le _, rfl, rfl, by omega, by omega, ⟨fun _ j hj => by omega, fun _ => rfl⟩⟩
      case round =>
        obtain ⟨k, t, hk, rfl, rfl, t0, t1, hj⟩ := hrel
        by_cases hlt : k < n
        · have c1 := hc k hlt
          have c2 := hd k hlt
          have O : Hid (_ ∧ _ ∧ _) := orx t0 t1 (bt_lo l k) (bt_hi l k) (bt_lo m k) (bt_hi m k)
          clear hc hd
          go_wp2
          go_round
          case rel => exact ⟨k + 1, _, by omega, by go_num, rfl, O.out.1, O.out.2.1, osame_step hj O⟩
          case measure => simp [intOf]; omega
        · go_wp2
          go_ret
          exact ⟨ret_bool (osame_end H hlt hj), rfl⟩
  · have hq' : ((n : Int) != (n' : Int)) = true := by simp; omega
    have e : decide (l = m) = false := by
      have e1 := ha.len
      have e2 := hb.len
      simp
      intro h
      rw [h] at e1
      omega
    rw [e]
    clear e ha hb
    go_enter Try.func52, Try.ntmps52
    go_wp2
    go_ret
    exact ⟨rfl, rfl⟩

end Go.Proofs.Ytbifikeecmaakaa

/-
  The contract of the reference's Xor. Condition: rows of at most 1000000 bytes.
-/
namespace Go.Proofs.Ytbifikeecmaakaa
open Go.RowKit

theorem xors_own {w : World} {base : Nat} {v : Value} {A B : List UInt8} (e : A = B) (h : Own w base v A) : Own w base v B := by
  rw [← e]
  exact h
theorem xor_take_end {l m : List UInt8} {n n' k : Nat} (H : Hid (l.length = n ∧ m.length = n')) (h : ¬ (k < n ∧ k < n')) : xorL (l.take k) (m.take k) = xorL l m := by
  unfold xorL
  rw [← List.take_zipWith, List.take_of_length_le]
  rw [List.length_zipWith, H.out.1, H.out.2]
  omega

end Go.Proofs.Ytbifikeecmaakaa
