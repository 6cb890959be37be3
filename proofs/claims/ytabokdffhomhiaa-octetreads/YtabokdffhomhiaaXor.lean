/-
  The contracts of the program's Same and Xor, and of the reference's Xor. Condition: rows of at most 1000000 bytes where bytes are made.
-/
import Derived.Test.YtabokdffhomhiaaParts2
import Derived.Deep.RegionLaw
import Derived.BigRegion
namespace Go.Proofs.Ytabokdffhomhiaa
open Go.RowKit

/-- append as one step of a region that draws its order. -/
theorem step_app {ops : Array Oper} {o : Oper} {a : Act} {w : World} {K : Act → World → Prop} {Q : Exit → Act → World → Prop} {E : Prop} (hgd : o.guard = none) (s x : Operand)
    (ho : o.op = Op.call { callee := Callee.builtin Builtin.append, args := #[s, x], argTypes := #[23, 23] }) (base : Nat) (v : Value) (l : List UInt8) (hs : a.eval s = v) (hown : Own w base v l)
    (ad : Addr) (m c : Nat) (news : List UInt8) (hx : a.eval x = .slice (some ad) m c) (hb : Bs w (some ad) m c news) (hz : l.length + news.length ≤ 1000000000) (hbase : base ≤ w.heap.size)
    (h : ∀ v' w', Own w' base v' (l ++ news) → Below base w w' → K (a.put o.dst v') w') : if Region.wanted o (yielded ops a.tmps) = true then Oper.wp Try.prog o a w K Q else E := by
  have hw : Region.wanted o (yielded ops a.tmps) = true := by simp [Region.wanted, hgd]
  rw [if_pos hw]
  obtain ⟨i0, hi, hz0, hz1, hz2⟩ := info_parts info5
  have hl := hb.len
  refine wp_append_own w s x 23 ho base 5 i0 (.int .u8 0) 1 1 Try.underlying23 hi hz0 hz1 hz2 rfl (by decide) v _ _ hs hown ad m c (cs news) hx (by rw [cs_length]; omega) hb.news cs_one (by unfold maxLen; omega) (by omega) hbase ?_
  intro v' w' ho' hg _
  refine h v' w' ?_ ((Below.refl _ _).grown hg hbase (Own.size hown))
  unfold Own
  rw [cs_append, List.length_append, hl]
  exact ho'

theorem Bs.drew {w : World} {a : Option Addr} {n c : Nat} {l : List UInt8} (h : Bs w a n c l) : Bs w.drew a n c l := h

def xorL (l m : List UInt8) : List UInt8 := List.zipWith (· ^^^ ·) l m

theorem xor_bt {l m : List UInt8} {k : Nat} (h1 : k < l.length) (h2 : k < m.length) : bits .xor .u8 (bt l k) (bt m k) = ((l[k] ^^^ m[k]).toNat : Int) := by
  rw [bt_of_lt h1, bt_of_lt h2, u8_xor_nat _ _ (UInt8.toNat_lt _) (UInt8.toNat_lt _), UInt8.toNat_xor]
theorem xor_eq {l m : List UInt8} {k : Nat} (h1 : k < l.length) (h2 : k < m.length) : ∃ x : UInt8, bits .xor .u8 (bt l k) (bt m k) = (x.toNat : Int) ∧ xorL (l.take (k + 1)) (m.take (k + 1)) = xorL (l.take k) (m.take k) ++ [x] := by
  refine ⟨l[k] ^^^ m[k], xor_bt h1 h2, ?_⟩
  unfold xorL
  rw [take_snoc h1, take_snoc h2, List.zipWith_append (by simp; omega)]
  rfl

theorem orx {t a b : Int} (h0 : 0 ≤ t) (h1 : t ≤ 255) (a0 : 0 ≤ a) (a1 : a ≤ 255) (b0 : 0 ≤ b) (b1 : b ≤ 255) :
    0 ≤ bits .or .u8 t (bits .xor .u8 a b) ∧ bits .or .u8 t (bits .xor .u8 a b) ≤ 255 ∧ (bits .or .u8 t (bits .xor .u8 a b) = 0 ↔ t = 0 ∧ a = b) := by
  have hx := u8_xor a b a0 (by omega) b0 (by omega)
  have hlt : a.toNat ^^^ b.toNat < 2 ^ 8 := Nat.xor_lt_two_pow (by omega) (by omega)
  rw [hx, u8_or t _ h0 (by omega) (by omega) (by omega), Int.toNat_natCast]
  have hlt2 : t.toNat ||| (a.toNat ^^^ b.toNat) < 2 ^ 8 := Nat.or_lt_two_pow (by omega) hlt
  refine ⟨by omega, by omega, ?_⟩
  constructor
  · intro h
    have h : t.toNat ||| (a.toNat ^^^ b.toNat) = 0 := by omega
    rw [Nat.or_eq_zero_iff] at h
    have e := congrArg (· ^^^ b.toNat) h.2
    simp only [Nat.xor_assoc, Nat.xor_self, Nat.xor_zero, Nat.zero_xor] at e
    omega
  · rintro ⟨rfl, rfl⟩
    simp

theorem osame_step {l m : List UInt8} {k : Nat} {t : Int} (h : Hid (t = 0 ↔ ∀ j, j < k → bt l j = bt m j))
    (O : Hid (0 ≤ bits .or .u8 t (bits .xor .u8 (bt l k) (bt m k)) ∧ bits .or .u8 t (bits .xor .u8 (bt l k) (bt m k)) ≤ 255 ∧ (bits .or .u8 t (bits .xor .u8 (bt l k) (bt m k)) = 0 ↔ t = 0 ∧ bt l k = bt m k))) :
    Hid (bits .or .u8 t (bits .xor .u8 (bt l k) (bt m k)) = 0 ↔ ∀ j, j < k + 1 → bt l j = bt m j) := by
  show _ ↔ _
  rw [O.out.2.2, h.out]
  constructor
  · rintro ⟨h1, h2⟩ j hj
    by_cases e : j = k
    · subst e; exact h2
    · exact h1 j (by omega)
  · intro h1
    exact ⟨fun j hj => h1 j (by omega), h1 k (by omega)⟩
theorem osame_end {l m : List UInt8} {n k : Nat} {t : Int} (H : Hid (l.length = n ∧ m.length = n)) (h : ¬ k < n) (hj : Hid (t = 0 ↔ ∀ j, j < k → bt l j = bt m j)) : (t == 0) = decide (l = m) := by
  obtain ⟨h1, h2⟩ := H.out
  rw [Bool.eq_iff_iff, beq_iff_eq, decide_eq_true_iff, hj.out]
  constructor
  · intro h3
    exact bt_inj (by omega) fun i hi => h3 i (by omega)
  · rintro rfl j _
    rfl

set_option maxHeartbeats 400000 in
theorem oSame (w : World) {a b : Option Addr} {n c n' c' : Nat} {l m : List UInt8} (ha : Bs w a n c l) (hb : Bs w b n' c' m) :
    Calls Try.prog 19 #[.slice a n c, .slice b n' c'] w fun e w' => e = .returned (.bool (decide (l = m))) ∧ w = w' := by
  have h1 := ha.max
  have h2 := hb.max
  by_cases hn : n = n'
  · subst hn
    by_cases h0 : n = 0
    · subst h0
      have e : decide (l = m) = true := by
        have e1 := ha.len
        have e2 := hb.len
        simp at e1 e2
        simp [e1, e2]
      rw [e]
      clear e ha hb
      go_enter Try.func19, Try.ntmps19
      go_wp2
      refine wp_loop_rounds 1 ?_; rw [rounds_succ]; go_wp2
      go_ret
      exact ⟨rfl, rfl⟩
    · obtain ⟨x, o, rfl, hx, hc⟩ := ha.at (by omega)
      obtain ⟨y, q, rfl, hy, hd⟩ := hb.at (by omega)
      have e1 := ha.len
      have e2 := hb.len
      have H : Hid (l.length = n ∧ m.length = n) := ⟨e1, e2⟩
      clear e1 e2 ha hb
      go_enter Try.func19, Try.ntmps19
      go_wp2
      go_loop [5, 15] (fun u i => ∃ (k : Nat) (t : Int), k ≤ n ∧ i = .int .i64 k ∧ u = .int .u8 t ∧ 0 ≤ t ∧ t ≤ 255 ∧ Hid (t = 0 ↔ ∀ j, j < k → bt l j = bt m j)) (fun _ i => n - (intOf i).toNat)
      case atStart => exact ⟨0, 0, Nat.zero_le _, rfl, rfl, by omega, by omega, ⟨fun _ j hj => by omega, fun _ => rfl⟩⟩
      case round =>
        obtain ⟨k, t, hk, rfl, rfl, t0, t1, hj⟩ := hrel
        by_cases hlt : k < n
        · have c1 := hc k hlt
          have c2 := hd k hlt
          have O : Hid (_ ∧ _ ∧ _) := orx t0 t1 (bt_lo l k) (bt_hi l k) (bt_lo m k) (bt_hi m k)
          clear hc hd
          go_wp2
          go_round
          case rel => exact ⟨k + 1, _, by omega, by go_num, rfl, O.out.1, O.out.2.1, osame_step hj O⟩
          case measure => simp [intOf]; omega
        · go_wp2
          go_ret
          exact ⟨ret_bool (osame_end H hlt hj), rfl⟩
  · have hq' : ((n : Int) != (n' : Int)) = true := by simp; omega
    have e : decide (l = m) = false := by
      have e1 := ha.len
      have e2 := hb.len
      simp
      intro h
      rw [h] at e1
      omega
    rw [e]
    clear e ha hb
    go_enter Try.func19, Try.ntmps19
    go_wp2
    go_ret
    exact ⟨rfl, rfl⟩

theorem xor_room {l m : List UInt8} {k q : Nat} (h1 : q ≤ l.length) (h2 : q ≤ m.length) (hk : k ≤ q) : (xorL (l.take k) (m.take k) ++ List.replicate (q - k) 0).length = q := by
  unfold xorL
  simp
  omega
theorem xor_step {l m : List UInt8} {k q : Nat} (h1 : q ≤ l.length) (h2 : q ≤ m.length) (hk : k < q) {x : UInt8} (e : xorL (l.take (k + 1)) (m.take (k + 1)) = xorL (l.take k) (m.take k) ++ [x]) :
    (xorL (l.take k) (m.take k) ++ List.replicate (q - k) 0).set k x = xorL (l.take (k + 1)) (m.take (k + 1)) ++ List.replicate (q - (k + 1)) 0 := by
  have hl : (xorL (l.take k) (m.take k)).length = k := by unfold xorL; simp; omega
  rw [e, List.set_append_right _ _ (by omega), hl]
  obtain ⟨d, rfl⟩ : ∃ d, q = k + 1 + d := ⟨q - (k + 1), by omega⟩
  rw [show k + 1 + d - k = d + 1 from by omega, show k + 1 + d - (k + 1) = d from by omega, List.replicate_succ]
  simp
theorem xor_end {l m : List UInt8} {n n' k : Nat} (h1 : l.length = n) (h2 : m.length = n') (hk : k = min n n') : xorL (l.take k) (m.take k) ++ List.replicate (min n n' - k) 0 = xorL l m := by
  subst hk
  subst h1
  subst h2
  unfold xorL
  rw [Nat.sub_self]
  simp only [List.replicate_zero, List.append_nil]
  rw [← List.take_zipWith, List.take_of_length_le (by simp)]

theorem xor_own {w : World} {base r k q : Nat} {v : Value} {A C : List UInt8} (e : A ++ List.replicate (q - k) 0 = C) (hq : q = r) (h : Own w base v (A ++ List.replicate (r - k) 0)) : Own w base v C := by
  subst hq
  rw [← e]
  exact h
theorem xor_nil {w : World} {base n n' r : Nat} {v : Value} {l m : List UInt8} (H : Hid (l.length = n ∧ m.length = n')) (h : min n n' = 0) (hr : r = 0) (ho : Own w base v (List.replicate r 0)) : Own w base v (xorL l m) := by
  have e : xorL l m = [] := by
    unfold xorL
    apply List.length_eq_zero_iff.1
    rw [List.length_zipWith, H.out.1, H.out.2]
    exact h
  subst hr
  rw [e]
  exact ho

set_option maxHeartbeats 400000 in
theorem oXor (w : World) {a b : Option Addr} {n c n' c' : Nat} {l m : List UInt8} (ha : Bs w a n c l) (hb : Bs w b n' c' m) (hz : n ≤ 1000000) (hz' : n' ≤ 1000000) :
    Calls Try.prog 21 #[.slice a n c, .slice b n' c'] w (Gives w (xorL l m)) := by
  by_cases h0 : n = 0 ∨ n' = 0
  · have H : Hid (l.length = n ∧ m.length = n') := ⟨ha.len, hb.len⟩
    clear ha hb
    by_cases hm : n' < n
    · have hmk : min n n' = 0 := by omega
      go_enter Try.func21, Try.ntmps21
      go_wp2_with (at_make; refine wpList_mkn _ rfl _ _ rfl w.heap.size n' _ rfl rfl rfl (by omega) (Nat.le_refl _) ?_; intro g w1 hg hgl hown hbel)
      refine wp_loop_rounds 1 ?_; rw [rounds_succ]; go_wp2
      go_ret
      have e0 : n' = 0 := by omega
      exact Gives.mk (xor_nil H hmk e0 hown) hbel
    · have hmk : min n n' = 0 := by omega
      go_enter Try.func21, Try.ntmps21
      go_wp2_with (at_make; refine wpList_mkn _ rfl _ _ rfl w.heap.size n _ rfl rfl rfl (by omega) (Nat.le_refl _) ?_; intro g w1 hg hgl hown hbel)
      refine wp_loop_rounds 1 ?_; rw [rounds_succ]; go_wp2
      go_ret
      have e0 : n = 0 := by omega
      exact Gives.mk (xor_nil H hmk e0 hown) hbel
  · obtain ⟨x, o, rfl, hx, hc⟩ := ha.at (by omega)
    obtain ⟨y, q, rfl, hy, hd⟩ := hb.at (by omega)
    have H : Hid (l.length = n ∧ m.length = n') := ⟨ha.len, hb.len⟩
    clear ha hb
    by_cases hm : n' < n
    · have hmk : min n n' = n' := by omega
      go_enter Try.func21, Try.ntmps21
      go_wp2_with (at_make; refine wpList_mkn _ rfl _ _ rfl w.heap.size n' _ rfl rfl rfl (by omega) (Nat.le_refl _) ?_; intro g w1 hg hgl hown hbel)
      go_loopw [15] (fun i wr => ∃ k : Nat, k ≤ n' ∧ i = .int .i64 k ∧ Own wr w.heap.size (.slice (some ⟨g, 0, none⟩) n' n') (xorL (l.take k) (m.take k) ++ List.replicate (n' - k) 0) ∧ Below w.heap.size w wr) (fun i _ => n' - (intOf i).toNat)
      case atStart => exact ⟨0, Nat.zero_le _, rfl, by simpa [xorL] using hown, hbel⟩
      case round =>
        obtain ⟨k, hk, rfl, ho, hb⟩ := hrel
        clear hown hbel
        by_cases hlt : k < n'
        · have c1 : wr.cell? ⟨x, o + k, none⟩ = some (.int .u8 (bt l k)) := by rw [hb.cell (p := ⟨x, o + k, none⟩) hx]; exact hc k (by omega)
          have c2 : wr.cell? ⟨y, q + k, none⟩ = some (.int .u8 (bt m k)) := by rw [hb.cell (p := ⟨y, q + k, none⟩) hy]; exact hd k (by omega)
          have hlen := xor_room (l := l) (m := m) (k := k) (q := n') (by rw [H.out.1]; omega) (by rw [H.out.2]; omega) (by omega)
          obtain ⟨v0, c3⟩ := ho.cell hlen k (by omega)
          have hfr := ho.free hlen k
          obtain ⟨z, hz1, hz2⟩ := xor_eq (l := l) (m := m) (k := k) (by rw [H.out.1]; omega) (by rw [H.out.2]; omega)
          have ho2 := ho.set hlen k z
          have hb2 := hb.setCell (p := ⟨g, k, none⟩) hg (.int .u8 (z.toNat : Int))
          rw [xor_step (by rw [H.out.1]; omega) (by rw [H.out.2]; omega) hlt hz2, ← hz1] at ho2
          rw [← hz1] at hb2
          have HO : Hid (Own (wr.setCell ⟨g, k, none⟩ (.int .u8 (bits .xor .u8 (bt l k) (bt m k)))) w.heap.size (.slice (some ⟨g, 0, none⟩) n' n') (xorL (l.take (k + 1)) (m.take (k + 1)) ++ List.replicate (n' - (k + 1)) 0)) := ho2
          have HB : Hid (Below w.heap.size w (wr.setCell ⟨g, k, none⟩ (.int .u8 (bits .xor .u8 (bt l k) (bt m k))))) := hb2
          have k1 : (k : Int) < n := by omega
          have k2 : (k : Int) < n' := by omega
          clear ho2 hb2 hlen ho hb hc hd hz1 hz2
          go_wp2
          go_region
          all_goals go_wp2
          all_goals go_roundw
          case rel => exact ⟨k + 1, by omega, by go_num, HO.out, HB.out.drew⟩
          case measure => simp [intOf]; omega
        · go_wp2
          go_ret
          exact Gives.mk (xor_own (xor_end H.out.1 H.out.2 (by omega)) hmk ho) hb
    · have hmk : min n n' = n := by omega
      go_enter Try.func21, Try.ntmps21
      go_wp2_with (at_make; refine wpList_mkn _ rfl _ _ rfl w.heap.size n _ rfl rfl rfl (by omega) (Nat.le_refl _) ?_; intro g w1 hg hgl hown hbel)
      go_loopw [15] (fun i wr => ∃ k : Nat, k ≤ n ∧ i = .int .i64 k ∧ Own wr w.heap.size (.slice (some ⟨g, 0, none⟩) n n) (xorL (l.take k) (m.take k) ++ List.replicate (n - k) 0) ∧ Below w.heap.size w wr) (fun i _ => n - (intOf i).toNat)
      case atStart => exact ⟨0, Nat.zero_le _, rfl, by simpa [xorL] using hown, hbel⟩
      case round =>
        obtain ⟨k, hk, rfl, ho, hb⟩ := hrel
        clear hown hbel
        by_cases hlt : k < n
        · have c1 : wr.cell? ⟨x, o + k, none⟩ = some (.int .u8 (bt l k)) := by rw [hb.cell (p := ⟨x, o + k, none⟩) hx]; exact hc k (by omega)
          have c2 : wr.cell? ⟨y, q + k, none⟩ = some (.int .u8 (bt m k)) := by rw [hb.cell (p := ⟨y, q + k, none⟩) hy]; exact hd k (by omega)
          have hlen := xor_room (l := l) (m := m) (k := k) (q := n) (by rw [H.out.1]; omega) (by rw [H.out.2]; omega) (by omega)
          obtain ⟨v0, c3⟩ := ho.cell hlen k (by omega)
          have hfr := ho.free hlen k
          obtain ⟨z, hz1, hz2⟩ := xor_eq (l := l) (m := m) (k := k) (by rw [H.out.1]; omega) (by rw [H.out.2]; omega)
          have ho2 := ho.set hlen k z
          have hb2 := hb.setCell (p := ⟨g, k, none⟩) hg (.int .u8 (z.toNat : Int))
          rw [xor_step (by rw [H.out.1]; omega) (by rw [H.out.2]; omega) hlt hz2, ← hz1] at ho2
          rw [← hz1] at hb2
          have HO : Hid (Own (wr.setCell ⟨g, k, none⟩ (.int .u8 (bits .xor .u8 (bt l k) (bt m k)))) w.heap.size (.slice (some ⟨g, 0, none⟩) n n) (xorL (l.take (k + 1)) (m.take (k + 1)) ++ List.replicate (n - (k + 1)) 0)) := ho2
          have HB : Hid (Below w.heap.size w (wr.setCell ⟨g, k, none⟩ (.int .u8 (bits .xor .u8 (bt l k) (bt m k))))) := hb2
          have k1 : (k : Int) < n := by omega
          have k2 : (k : Int) < n' := by omega
          clear ho2 hb2 hlen ho hb hc hd hz1 hz2
          go_wp2
          go_region
          all_goals go_wp2
          all_goals go_roundw
          case rel => exact ⟨k + 1, by omega, by go_num, HO.out, HB.out.drew⟩
          case measure => simp [intOf]; omega
        · go_wp2
          go_ret
          exact Gives.mk (xor_own (xor_end H.out.1 H.out.2 (by omega)) hmk ho) hb

theorem xors_own {w : World} {base : Nat} {v : Value} {A B : List UInt8} (e : A = B) (h : Own w base v A) : Own w base v B := by
  rw [← e]
  exact h
theorem xor_take_end {l m : List UInt8} {n n' k : Nat} (H : Hid (l.length = n ∧ m.length = n')) (h : ¬ (k < n ∧ k < n')) : xorL (l.take k) (m.take k) = xorL l m := by
  unfold xorL
  rw [← List.take_zipWith, List.take_of_length_le]
  rw [List.length_zipWith, H.out.1, H.out.2]
  omega

set_option maxHeartbeats 400000 in
theorem rXor (w : World) {a b : Option Addr} {n c n' c' : Nat} {l m : List UInt8} (ha : Bs w a n c l) (hb : Bs w b n' c' m) (hz : n ≤ 1000000) (hz' : n' ≤ 1000000) :
    Calls Try.prog 22 #[.slice a n c, .slice b n' c'] w (Gives w (xorL l m)) := by
  by_cases h0 : n = 0 ∨ n' = 0
  · have H : Hid (l.length = n ∧ m.length = n') := ⟨ha.len, hb.len⟩
    clear ha hb
    have e := xor_take_end (k := 0) H (by omega)
    by_cases hn : (0 : Int) < n
    · have hn' : ¬ (0 : Int) < n' := by omega
      go_enter Try.func22, Try.ntmps22
      go_wp2_with fail
      refine wp_loop_rounds 1 ?_; rw [rounds_succ]; go_wp2
      go_ret
      exact Gives.mk (xors_own e (Own.nil _ _)) (Below.refl _ _)
    · go_enter Try.func22, Try.ntmps22
      go_wp2_with fail
      refine wp_loop_rounds 1 ?_; rw [rounds_succ]; go_wp2
      go_ret
      exact Gives.mk (xors_own e (Own.nil _ _)) (Below.refl _ _)
  · obtain ⟨x, o, rfl, hx, hc⟩ := ha.at (by omega)
    obtain ⟨y, q, rfl, hy, hd⟩ := hb.at (by omega)
    have H : Hid (l.length = n ∧ m.length = n') := ⟨ha.len, hb.len⟩
    clear ha hb
    go_enter Try.func22, Try.ntmps22
    go_wp2_with fail
    go_loopw [5, 6] (fun v i wr => ∃ k : Nat, k ≤ n ∧ k ≤ n' ∧ i = .int .i64 k ∧ Own wr w.heap.size v (xorL (l.take k) (m.take k)) ∧ Below w.heap.size w wr) (fun _ i _ => n - (intOf i).toNat)
    case atStart => exact ⟨0, Nat.zero_le _, Nat.zero_le _, rfl, Own.nil _ _, Below.refl _ _⟩
    case round =>
      obtain ⟨k, hk, hk', rfl, ho, hb⟩ := hrel
      by_cases hlt : k < n ∧ k < n'
      · obtain ⟨k1, k2⟩ := hlt
        have c1 : wr.cell? ⟨x, o + k, none⟩ = some (.int .u8 (bt l k)) := by rw [hb.cell (p := ⟨x, o + k, none⟩) hx]; exact hc k (by omega)
        have c2 : wr.cell? ⟨y, q + k, none⟩ = some (.int .u8 (bt m k)) := by rw [hb.cell (p := ⟨y, q + k, none⟩) hy]; exact hd k (by omega)
        obtain ⟨z, hz1, hz2⟩ := xor_eq (l := l) (m := m) (k := k) (by rw [H.out.1]; omega) (by rw [H.out.2]; omega)
        have hzlt := UInt8.toNat_lt z
        have b1 : 0 ≤ bits .xor .u8 (bt l k) (bt m k) := by rw [hz1]; omega
        have b2 : bits .xor .u8 (bt l k) (bt m k) ≤ 255 := by rw [hz1]; omega
        have hZ : Hid (UInt8.ofNat (bits .xor .u8 (bt l k) (bt m k)).toNat = z) := by
          show _ = _
          rw [hz1]
          simp
        have HZ : Hid (xorL (l.take (k + 1)) (m.take (k + 1)) = xorL (l.take k) (m.take k) ++ [z]) := hz2
        have hr : (xorL (l.take k) (m.take k)).length + [UInt8.ofNat (bits .xor .u8 (bt l k) (bt m k)).toNat].length ≤ 1000000000 := by
          unfold xorL
          simp
          omega
        have hs : w.heap.size ≤ wr.heap.size := hb.size
        clear hz1 hz2 hzlt
        go_wp2
        go_region_law (refine step_app rfl (.tmp 19) (.tmp 29) rfl w.heap.size _ _ rfl (ho.below (below_alloc _ _).drew (Nat.le_refl _)) _ 1 1 [UInt8.ofNat (bits .xor .u8 (bt l k) (bt m k)).toNat] rfl (Bs.one _ _ b1 b2).drew hr (by simp; omega) ?_; intro v2 w2 ho2 hb2)
        all_goals
          go_wp2
          go_roundw
          case rel => exact ⟨k + 1, by omega, by omega, by go_num, xors_own (by rw [hZ.out, HZ.out]) ho2, (hb.trans ((below_alloc _ _).drew.mono hs)).trans hb2⟩
          case measure => simp [intOf]; omega
      · have e := xor_take_end H hlt
        by_cases hn : (k : Int) < n
        · have hn' : ¬ (k : Int) < n' := by omega
          go_wp2
          go_ret
          exact Gives.mk (xors_own e ho) hb
        · go_wp2
          go_ret
          exact Gives.mk (xors_own e ho) hb
end Go.Proofs.Ytabokdffhomhiaa
