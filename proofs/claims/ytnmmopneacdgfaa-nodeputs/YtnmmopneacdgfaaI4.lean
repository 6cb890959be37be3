/-
  8 texts in one. No statement of the seat is proved here.
-/
import Derived.Test.YtnmmopneacdgfaaI3
import Derived.Lib.BytesEntry
import Derived.Laws.Externs
/-
  The contract of the program's Get: the number of a row of bytes, the highest first, of the last eight. No condition.
-/
namespace Go.Proofs.Ytnmmopneacdgfaa
open Go.RowKit

set_option maxHeartbeats 400000 in
theorem oGet (w : World) {a : Option Addr} {n c : Nat} {l : List UInt8} (ha : Bs w a n c l) :
    Calls Try.prog 85 #[.slice a n c] w fun e w' => e = .returned (.int .u64 (getN l)) ∧ w = w' := by
  have h1 := ha.max
  by_cases h0 : n = 0
  · subst h0
    have e : l = [] := List.length_eq_zero_iff.1 ha.len
    subst e
    clear ha
    go_enter Try.func85, Try.ntmps85
    go_wp2
    refine wp_loop_rounds 1 ?_; rw [rounds_succ]; go_wp2
    go_ret
    exact ⟨rfl, rfl⟩
  · obtain ⟨x, o, rfl, hx, hc⟩ := ha.at (by omega)
    have H : Hid (l.length = n) := ha.len
    clear ha
    go_enter Try.func85, Try.ntmps85
    go_wp2
    go_loop [3, 8] (fun t i => ∃ k : Nat, k ≤ n ∧ i = .int .i64 k ∧ t = .int .u64 (getN (l.take k))) (fun _ i => n - (intOf i).toNat)
    case atStart => exact ⟨0, Nat.zero_le _, rfl, rfl⟩
    case round =>
      obtain ⟨k, hk, rfl, rfl⟩ := hrel
      by_cases hlt : k < n
      · have c1 := hc k hlt
        have b1 := bt_lo l k
        have b2 := bt_hi l k
        clear hc
        go_wp2
        go_round
        case rel => exact ⟨k + 1, by omega, by go_num, by rw [get_step_or (by rw [H.out]; exact hlt)]⟩
        case measure => simp [intOf]; omega
      · go_wp2
        go_ret
        exact ⟨ret_int (get_end H hlt), rfl⟩
end Go.Proofs.Ytnmmopneacdgfaa

/-
  The contract of the reference's Get: the number of a row of bytes, the highest first, of the last eight. No condition.
-/
namespace Go.Proofs.Ytnmmopneacdgfaa
open Go.RowKit

set_option maxHeartbeats 400000 in
theorem rGet (w : World) {a : Option Addr} {n c : Nat} {l : List UInt8} (ha : Bs w a n c l) :
    Calls Try.prog 40 #[.slice a n c] w fun e w' => e = .returned (.int .u64 (getN l)) ∧ w = w' := by
  have h1 := ha.max
  by_cases h0 : n = 0
  · subst h0
    have e : l = [] := List.length_eq_zero_iff.1 ha.len
    subst e
    clear ha
    go_enter Try.func40, Try.ntmps40
    go_wp2
    refine wp_loop_rounds 1 ?_; rw [rounds_succ]; go_wp2
    go_ret
    exact ⟨rfl, rfl⟩
  · obtain ⟨x, o, rfl, hx, hc⟩ := ha.at (by omega)
    have H : Hid (l.length = n) := ha.len
    clear ha
    go_enter Try.func40, Try.ntmps40
    go_wp2
    go_loop [3, 4] (fun t i => ∃ k : Nat, k ≤ n ∧ i = .int .i64 k ∧ t = .int .u64 (getN (l.take k))) (fun _ i => n - (intOf i).toNat)
    case atStart => exact ⟨0, Nat.zero_le _, rfl, rfl⟩
    case round =>
      obtain ⟨k, hk, rfl, rfl⟩ := hrel
      by_cases hlt : k < n
      · have c1 := hc k hlt
        have b1 := bt_lo l k
        have b2 := bt_hi l k
        clear hc
        go_wp2
        go_round
        case rel => exact ⟨k + 1, by omega, by go_num, by rw [get_step (by rw [H.out]; exact hlt)]⟩
        case measure => simp [intOf]; omega
      · go_wp2
        go_ret
        exact ⟨ret_int (get_end H hlt), rfl⟩

end Go.Proofs.Ytnmmopneacdgfaa

/-
  The contracts of the program's reader: Read, Bytes, Number, Text, Fail, Left, Code, End. Condition: at most 100000 bytes.
-/
namespace Go.Proofs.Ytnmmopneacdgfaa
open Go.RowKit

/-- What is left and the code behind a read of n bytes, and what was read. -/
def rdBytes (l : List UInt8) (c n : Int) : List UInt8 × Int × List UInt8 :=
  if c ≠ 0 then (l, c, []) else if n < 0 ∨ (l.length : Int) < n then (l, 3, []) else (l.drop n.toNat, 0, l.take n.toNat)

/-- .. behind a read of a text. -/
def rdText (l : List UInt8) (c size most : Int) : List UInt8 × Int × List UInt8 :=
  let s := rdBytes l c size
  if max most 0 < (getN s.2.2 : Int) then (s.1, if s.2.1 = 0 then 4 else s.2.1, []) else rdBytes s.1 s.2.1 (getN s.2.2)

/-- What a call that reads leaves: bytes in new memory, the reader turned, all else as it was. -/
def Reads (w : World) (r : Nat) (s : List UInt8 × Int × List UInt8) (e : Ending) (w' : World) : Prop :=
  ∃ a m q, e = .returned (.slice a m q) ∧ Own w' w.heap.size (.slice a m q) s.2.2 ∧ Rd w' r s.1 s.2.1 ∧ w.grownBy w' (some r)

set_option maxHeartbeats 400000 in
theorem oFail (w : World) (r : Nat) {l : List UInt8} {c : Int} (h : Rd w r l c) (d : Int) :
    Calls Try.prog 38 #[.pointer (some ⟨r, 0, none⟩), .int .i64 d] w fun e w' => e = .returned (.tuple #[]) ∧ Rd w' r l (if c = 0 then d else c) ∧ w.grownBy w' (some r) := by
  have h' := h
  obtain ⟨a, n, q, h1, h2, h3, h4, h5, h6⟩ := h
  by_cases hc : c = 0
  · subst hc
    have hr := h'.setCode d
    clear h' h5
    go_enter Try.func38, Try.ntmps38
    go_wp2
    go_end0
    exact ⟨rfl, hr, but_set _ _ _ _⟩
  · have hc' : (c == 0) = false := by simp [hc]
    rw [if_neg hc]
    clear h5
    go_enter Try.func38, Try.ntmps38
    go_wp2
    go_end0
    exact ⟨rfl, h', World.grownBy.refl _ _⟩

set_option maxHeartbeats 400000 in
theorem oCode (w : World) (r : Nat) {l : List UInt8} {c : Int} (h : Rd w r l c) :
    Calls Try.prog 39 #[.pointer (some ⟨r, 0, none⟩)] w fun e w' => e = .returned (.int .i64 c) ∧ w' = w := by
  obtain ⟨a, n, q, h1, h2, h3, h4, h5, h6⟩ := h
  clear h5
  go_enter Try.func39, Try.ntmps39
  go_wp2
  go_ret
  exact ⟨rfl, rfl⟩

set_option maxHeartbeats 400000 in
theorem oLeft (w : World) (r : Nat) {l : List UInt8} {c : Int} (h : Rd w r l c) :
    Calls Try.prog 37 #[.pointer (some ⟨r, 0, none⟩)] w fun e w' => e = .returned (.int .i64 (l.length : Nat)) ∧ w' = w := by
  obtain ⟨a, n, q, h1, h2, h3, h4, h5, h6⟩ := h
  rw [h5.len]
  clear h5
  go_enter Try.func37, Try.ntmps37
  go_wp2
  go_ret
  exact ⟨rfl, rfl⟩

/-- A slice of one slice of bytes, as it stands in a call with one part. -/
theorem Bss.one {w : World} {a : Option Addr} {n c : Nat} {l : List UInt8} (h : Bs w a n c l) : Bss (w.alloc (.cells #[.slice a n c] 26)) (some ⟨w.heap.size, 0, none⟩) 1 1 [l] := by
  refine ⟨rfl, Nat.le_refl _, by unfold maxLen; omega, fun i hi => ?_⟩
  obtain rfl : i = 0 := by omega
  refine ⟨w.heap.size, 0, a, n, c, rfl, ?_, h.below (below_alloc _ _) (Nat.le_refl _)⟩
  simp

theorem free_new (w : World) (arr : Array Value) (t : TypeId) (i : Nat) : (w.alloc (.cells arr t)).frozen? ⟨w.heap.size, i, none⟩ = false := by
  unfold World.frozen?
  rw [show (w.alloc (.cells arr t)).heap[w.heap.size]? = some (.cells arr t) from by show (w.heap.push _)[w.heap.size]? = _; simp]
  simp
theorem Rd.new {w : World} {base : Nat} {a : Option Addr} {m c : Nat} {l : List UInt8} (h : Own w base (.slice a m c) l) (t : TypeId) : Rd (w.alloc (.cells #[.slice a m c, .int .i64 0] t)) w.heap.size l 0 := by
  refine ⟨a, m, c, by simp, by simp, free_new _ _ _ _, free_new _ _ _ _, h.toBs.below (below_alloc _ _) (Nat.le_refl _), ?_⟩
  intro x hx
  subst hx
  have := (World.ownsRow.lt h x.block rfl).2
  omega
theorem own_flat {w : World} {base : Nat} {v : Value} {l : List UInt8} (h : Own w base v [l].flatten) : Own w base v l := by simpa using h

set_option maxHeartbeats 400000 in
theorem oRead (w : World) {a : Option Addr} {n c : Nat} {l : List UInt8} (h : Bs w a n c l) (hz : n ≤ 100000) :
    Calls Try.prog 33 #[.slice a n c] w fun e w' => ∃ r, e = .returned (.pointer (some ⟨r, 0, none⟩)) ∧ w.heap.size ≤ r ∧ Rd w' r l 0 ∧ Below w.heap.size w w' := by
  have hJ := oJoin _ (Bss.one h) (by simp [tot, h.len]; omega)
  have HJ : Hid (Calls Try.prog 25 #[.slice (some ⟨w.heap.size, 0, none⟩) 1 1] (w.alloc (.cells #[.slice a n c] 26)) (Gives (w.alloc (.cells #[.slice a n c] 26)) [l].flatten)) := hJ
  clear hJ h
  go_enter Try.func33, Try.ntmps33
  go_wp2_with (go_at_call 25; refine HJ.out.mono ?_; rintro e w1 ⟨a1, m1, c1, rfl, ho1, hb1⟩)
  go_ret
  exact ⟨w1.heap.size, rfl, Nat.le_trans (by simp) hb1.size, Rd.new (own_flat ho1) _, ((below_alloc _ _).trans (hb1.mono (by simp))).alloc (Nat.le_trans (by simp) hb1.size) _⟩

set_option maxHeartbeats 1000000 in
theorem oBytes (w : World) (r : Nat) {l : List UInt8} {c : Int} (h : Rd w r l c) (n : Int) (hz : l.length ≤ 100000) (hn : -9223372036854775808 ≤ n) (hn' : n ≤ 9223372036854775807) :
    Calls Try.prog 36 #[.pointer (some ⟨r, 0, none⟩), .int .i64 n] w (Reads w r (rdBytes l c n)) := by
  have h' := h
  obtain ⟨a, m, q, h1, h2, h3, h4, h5, h6⟩ := h
  have hl := h5.len
  have hmax := h5.max
  by_cases hc : c = 0
  · subst hc
    by_cases hb : n < 0 ∨ (m : Int) < n
    · have e : rdBytes l 0 n = (l, 3, []) := by unfold rdBytes; rw [if_neg (by simp), if_pos (by omega)]
      rw [e]
      have hF := oFail w r h' 3
      have HF : Hid (Calls Try.prog 38 #[.pointer (some ⟨r, 0, none⟩), .int .i64 3] w fun e w' => e = .returned (.tuple #[]) ∧ Rd w' r l 3 ∧ w.grownBy w' (some r)) := hF
      clear hF e h' h5 hl
      rcases hb with hb | hb
      · go_enter Try.func36, Try.ntmps36
        go_wp2_with (go_at_call 38; refine HF.out.mono ?_; rintro e w1 ⟨rfl, hr, hg⟩)
        go_ret
        exact ⟨none, 0, 0, rfl, Own.nil _ _, hr, hg⟩
      · have hb' : ¬ n < 0 := by omega
        go_enter Try.func36, Try.ntmps36
        go_wp2_with (go_at_call 38; refine HF.out.mono ?_; rintro e w1 ⟨rfl, hr, hg⟩)
        go_ret
        exact ⟨none, 0, 0, rfl, Own.nil _ _, hr, hg⟩
    · obtain ⟨k, rfl⟩ : ∃ k : Nat, n = k := ⟨n.toNat, by omega⟩
      have hk : k ≤ m := by omega
      have e : rdBytes l 0 k = (l.drop k, 0, l.take k) := by unfold rdBytes; rw [if_neg (by simp), if_neg (by omega)]; simp
      rw [e]
      obtain ⟨s1, s2⟩ := h5.cutHigh k hk
      obtain ⟨a2, q2, t1, t2, t3⟩ := h5.cutLow k hk
      have hJ := oJoin _ (Bss.one (s2 w h5)) (by simp [tot]; omega)
      have HJ : Hid (Calls Try.prog 25 #[.slice (some ⟨w.heap.size, 0, none⟩) 1 1] (w.alloc (.cells #[.slice a k q] 26)) (Gives (w.alloc (.cells #[.slice a k q] 26)) [l.take k].flatten)) := hJ
      have T2 : Hid (∀ w, Bs w a m q l → Bs w a2 (m - k) q2 (l.drop k)) := t2
      have T3 : Hid (∀ x, a2 = some x → ∃ y, a = some y ∧ x.block = y.block) := t3
      have hW : Hid (∀ w1, Below (w.alloc (.cells #[.slice a k q] 26)).heap.size (w.alloc (.cells #[.slice a k q] 26)) w1 → Below w.heap.size w w1) := fun w1 hb1 => (below_alloc _ _).trans (hb1.mono (by simp))
      have h0 : ¬ (k : Int) < 0 := by omega
      have h00 : ¬ (m : Int) < k := by omega
      have hlt := h'.lt
      have H' : Hid (Rd w r l 0) := h'
      have H5 : Hid (Bs w a m q l) := h5
      clear hJ t2 t3 s2 e h5 h' hl hb
      go_enter Try.func36, Try.ntmps36
      go_wp2_with (go_at_call 25; refine HJ.out.mono ?_; rintro e w1 ⟨a1, m1, c1, rfl, ho1, hb1⟩; have g0 := (hW.out w1 hb1).cell (p := ⟨r, 0, none⟩) hlt; have g1 := (hW.out w1 hb1).frozen (p := ⟨r, 0, none⟩) hlt; rw [h1] at g0; rw [h3] at g1)
      go_ret
      have hb := hW.out w1 hb1
      exact ⟨a1, m1, c1, rfl, ownsRow_setCell_below ((own_flat ho1).mono (by simp)) (by simpa using hlt) _, (H'.out.below hb (Nat.le_refl _)).setRest (T2.out w1 (H5.out.below hb (Nat.le_refl _))) (fun x hx => by obtain ⟨y, hy, e⟩ := T3.out x hx; rw [e]; exact h6 y hy), but_trans (but_of_below hb) (but_set _ _ _ _)⟩
  · have hc' : (c == 0) = false := by simp [hc]
    have e : rdBytes l c n = (l, c, []) := by unfold rdBytes; rw [if_pos hc]
    rw [e]
    clear h5 e hl
    go_enter Try.func36, Try.ntmps36
    go_wp2
    go_ret
    exact ⟨none, 0, 0, rfl, Own.nil _ _, h', World.grownBy.refl _ _⟩

set_option maxHeartbeats 400000 in
theorem oNumber (w : World) (r : Nat) {l : List UInt8} {c : Int} (h : Rd w r l c) (n : Int) (hz : l.length ≤ 100000) (hn : -9223372036854775808 ≤ n) (hn' : n ≤ 9223372036854775807) :
    Calls Try.prog 72 #[.pointer (some ⟨r, 0, none⟩), .int .i64 n] w fun e w' => e = .returned (.int .u64 (getN (rdBytes l c n).2.2 : Nat)) ∧ Rd w' r (rdBytes l c n).1 (rdBytes l c n).2.1 ∧ w.grownBy w' (some r) := by
  have hB : Hid (Calls Try.prog 36 #[.pointer (some ⟨r, 0, none⟩), .int .i64 n] w (Reads w r (rdBytes l c n))) := oBytes w r h n hz hn hn'
  clear h
  generalize rdBytes l c n = s at *
  go_enter Try.func72, Try.ntmps72
  go_wp2_with (first | (go_at_call 36; refine hB.out.mono ?_; rintro e w1 ⟨a1, m1, c1, rfl, ho1, hr1, hg1⟩) | (go_at_call 85; refine (oGet _ ho1.toBs).mono ?_; rintro e w2 ⟨rfl, rfl⟩))
  go_ret
  exact ⟨rfl, hr1, hg1⟩

theorem rdBytes_len (l : List UInt8) (c n : Int) (h : l.length ≤ 100000) : (rdBytes l c n).1.length ≤ 100000 := by
  unfold rdBytes
  split
  · exact h
  · split
    · exact h
    · simp; omega

end Go.Proofs.Ytnmmopneacdgfaa

/-
  Plain mathematics of a reader: what is left, the code, what is read; reading what was put ahead. No condition; no statement of the seat is proved here.
-/
namespace Go.Proofs.Ytnmmopneacdgfaa
open Go.RowKit

/-- Reading: what is left, and the code. -/
abbrev RdS := List UInt8 × Int
def rN (s : RdS) (k : Int) : RdS := ((rdBytes s.1 s.2 k).1, (rdBytes s.1 s.2 k).2.1)
def rB (s : RdS) (k : Int) : List UInt8 := (rdBytes s.1 s.2 k).2.2
def rV (s : RdS) (k : Int) : Nat := getN (rB s k)
def cap62 (n : Nat) : Int := if 4611686018427387904 < n then 4611686018427387904 else (n : Int)
/-- Reading what was put ahead. -/
theorem rB_app (x y : List UInt8) : rB (x ++ y, 0) (x.length : Nat) = x ∧ rN (x ++ y, 0) (x.length : Nat) = (y, 0) := by
  unfold rB rN rdBytes
  dsimp only
  rw [if_neg (by simp), if_neg (by rw [List.length_append]; omega)]
  simp
theorem rB_app' {x y : List UInt8} {n : Nat} (h : x.length = n) : rB (x ++ y, 0) (n : Nat) = x ∧ rN (x ++ y, 0) (n : Nat) = (y, 0) := by
  subst h
  exact rB_app x y
theorem rV_put {n s : Nat} {y : List UInt8} (hs : n < 256 ^ s) (hz : n < 18446744073709551616) : rV (putL n s ++ y, 0) (s : Nat) = n ∧ rN (putL n s ++ y, 0) (s : Nat) = (y, 0) := by
  obtain ⟨h1, h2⟩ := rB_app' (y := y) (putL_length s n)
  refine ⟨?_, h2⟩
  unfold rV
  rw [h1, getN_putL, Nat.mod_eq_of_lt hs, Nat.mod_eq_of_lt hz]
theorem cap62_small {n : Nat} (h : n ≤ 1099511627777) : cap62 n = (n : Int) := by unfold cap62; rw [if_neg (by omega)]
theorem rN_len {s : RdS} (h : s.1.length ≤ 100000) (k : Int) : (rN s k).1.length ≤ 100000 := rdBytes_len s.1 s.2 k h
theorem cap62_le (n : Nat) : 0 ≤ cap62 n ∧ cap62 n ≤ 4611686018427387904 := by
  unfold cap62
  split <;> omega
/-- Fewer bytes, smaller numbers. -/
theorem getN_small : ∀ (l : List UInt8), l.length ≤ 2 → getN l ≤ 65535 ∧ (l.length ≤ 1 → getN l ≤ 255)
  | [], _ => ⟨by decide, fun _ => by decide⟩
  | [x], _ => by
    have := UInt8.toNat_lt x
    have e : getN [x] = x.toNat := by
      show (0 * 256 + x.toNat) % 18446744073709551616 = x.toNat
      omega
    rw [e]
    exact ⟨by omega, fun _ => by omega⟩
  | [x, y], _ => by
    have h1 := UInt8.toNat_lt x
    have h2 := UInt8.toNat_lt y
    have e : getN [x, y] = x.toNat * 256 + y.toNat := by
      show ((0 * 256 + x.toNat) % 18446744073709551616 * 256 + y.toNat) % 18446744073709551616 = _
      omega
    rw [e]
    exact ⟨by omega, fun h => by simp at h⟩
  | _ :: _ :: _ :: _, h => by simp at h
theorem rB_len (s : RdS) (k : Nat) : (rB s (k : Nat)).length ≤ k := by
  unfold rB rdBytes
  split
  · simp
  · split
    · simp
    · simp; omega
theorem rV2 (s : RdS) : rV s 2 ≤ 65535 := (getN_small _ (rB_len s 2)).1
theorem rV1 (s : RdS) : rV s 1 ≤ 255 := (getN_small _ (Nat.le_trans (show (rB s 1).length ≤ 1 from rB_len s 1) (by decide))).2 (rB_len s 1)


end Go.Proofs.Ytnmmopneacdgfaa

/-
  Two rows of bytes held against each other: the library's Compare; plain mathematics of that order. No condition; no statement of the seat is proved here.
-/
namespace Go.Proofs.Ytnmmopneacdgfaa
open Go.RowKit

theorem cb_neg : ∀ a b : List UInt8, Lib.compareBytes b a = - Lib.compareBytes a b
  | [], [] => rfl
  | [], _ :: _ => rfl
  | _ :: _, [] => rfl
  | x :: a, y :: b => by
    have ih := cb_neg a b
    simp only [Lib.compareBytes, UInt8.lt_iff_toNat_lt]
    by_cases h1 : x.toNat < y.toNat
    · rw [if_neg (by omega), if_pos h1, if_pos h1]
      rfl
    · by_cases h2 : y.toNat < x.toNat
      · rw [if_pos h2, if_neg h1, if_pos h2]
      · rw [if_neg h2, if_neg h1, if_neg h1, if_neg h2]
        exact ih
/-- Of three rows. -/
theorem cb_three : ∀ a b c : List UInt8, (Lib.compareBytes a b ≤ 0 → Lib.compareBytes b c ≤ 0 → Lib.compareBytes a c ≤ 0) ∧ (Lib.compareBytes a b < 0 → Lib.compareBytes b c ≤ 0 → Lib.compareBytes a c < 0)
  | [], b, [] => by cases b <;> simp [Lib.compareBytes]
  | [], b, _ :: _ => by cases b <;> simp [Lib.compareBytes]
  | _ :: _, [], _ => by simp [Lib.compareBytes]
  | _ :: _, _ :: _, [] => by simp [Lib.compareBytes]
  | x :: a, y :: b, z :: c => by
    obtain ⟨i1, i2⟩ := cb_three a b c
    simp only [Lib.compareBytes, UInt8.lt_iff_toNat_lt]
    by_cases h1 : x.toNat < y.toNat
    · rw [if_pos h1]
      by_cases h3 : y.toNat < z.toNat
      · rw [if_pos h3, if_pos (by omega)]
        exact ⟨fun _ _ => by decide, fun _ _ => by decide⟩
      · rw [if_neg h3]
        by_cases h4 : z.toNat < y.toNat
        · rw [if_pos h4]
          exact ⟨fun _ h => absurd h (by decide), fun _ h => absurd h (by decide)⟩
        · rw [if_neg h4, if_pos (by omega)]
          exact ⟨fun _ _ => by decide, fun _ _ => by decide⟩
    · rw [if_neg h1]
      by_cases h2 : y.toNat < x.toNat
      · rw [if_pos h2]
        exact ⟨fun h => absurd h (by decide), fun h => absurd h (by decide)⟩
      · rw [if_neg h2]
        by_cases h3 : y.toNat < z.toNat
        · rw [if_pos h3, if_pos (by omega)]
          exact ⟨fun _ _ => by decide, fun _ _ => by decide⟩
        · rw [if_neg h3]
          by_cases h4 : z.toNat < y.toNat
          · rw [if_pos h4]
            exact ⟨fun _ h => absurd h (by decide), fun _ h => absurd h (by decide)⟩
          · rw [if_neg h4, if_neg (by omega), if_neg (by omega)]
            exact ⟨i1, i2⟩

theorem bytes_run {w : World} {a : Option Addr} {n c : Nat} {l : List UInt8} (h : Bs w a n c l) : Sem.run Try.prog (Extern.Bytes.bytesOf (.slice a n c)) w = .ok ⟨l.toArray⟩ w := by
  have hl := h.len
  have hc := h.cap
  cases a with
  | none =>
    have h0 := h.2.2.2.1 rfl
    have e : l = [] := List.length_eq_zero_iff.1 (by omega)
    subst e
    rfl
  | some ad =>
    have hr := Lib.run_loadBytesX (P := Try.prog) w (l.map fun x => (x.toNat : Int)) ad .empty (fun j x hj => by
      rw [List.getElem?_map] at hj
      cases hx : l[j]? with
      | none => rw [hx] at hj; simp at hj
      | some u =>
        rw [hx] at hj
        simp only [Option.map_some, Option.some.injEq] at hj
        subst hj
        have hjl := (List.getElem?_eq_some_iff.1 hx).1
        obtain ⟨b, o, ha, hcell⟩ := h.2.2.2.2 j (by omega)
        obtain rfl := Option.some.inj ha
        have e : (Addr.add ⟨b, o, none⟩ j) = ⟨b, o + j, none⟩ := by
          unfold Addr.add
          split
          · subst_vars; rfl
          · rfl
        rw [e, hcell]
        unfold bt
        rw [List.getD_eq_getElem?_getD, hx]
        rfl)
    rw [List.length_map, hl] at hr
    have e2 : Lib.bytesOf (l.map fun x => (x.toNat : Int)) = l := by
      unfold Lib.bytesOf
      rw [List.map_map]
      conv => rhs; rw [← List.map_id l]
      congr 1
      funext x
      simp
    rw [e2] at hr
    have e3 : (⟨ByteArray.empty.data ++ l.toArray⟩ : ByteArray) = ⟨l.toArray⟩ := by
      apply ByteArray.ext
      show (#[] : Array UInt8) ++ l.toArray = l.toArray
      simp
    rw [e3] at hr
    exact hr
theorem run_compare (w : World) {a b : Option Addr} {n c n' c' : Nat} {l m : List UInt8} (ha : Bs w a n c l) (hb : Bs w b n' c' m) :
    Sem.run Try.prog (callFunc 82 #[.slice a n c, .slice b n' c']) w = .ok (.value (.int .i64 (Lib.compareBytes l m))) w := by
  rw [run_callFunc_extern Try.func82 (by kernel_rfl) (by kernel_rfl) (by kernel_rfl) (e := Extern.BytealgCompare.compare) (by kernel_rfl)]
  change Result.andThen (Sem.run Try.prog (do pure (goInt (Extern.BytealgCompare.cmp (← Extern.Bytes.bytesOf (.slice a n c)) (← Extern.Bytes.bytesOf (.slice b n' c'))))) w) _ = _
  simp only [Sem.run_bind, bytes_run ha, bytes_run hb, Result.andThen, Sem.run_pure]
  rw [Lib.cmp_eq]
  rfl
theorem oCompare (w : World) {a b : Option Addr} {n c n' c' : Nat} {l m : List UInt8} (ha : Bs w a n c l) (hb : Bs w b n' c' m) :
    Calls Try.prog 60 #[.slice a n c, .slice b n' c'] w fun e w' => e = .returned (.int .i64 (Lib.compareBytes l m)) ∧ w' = w := by
  have hr := run_compare w ha hb
  generalize Lib.compareBytes l m = r at *
  go_enter Try.func60, Try.ntmps60
  go_wp2_with fail
  go_ret
  exact ⟨rfl, rfl⟩

end Go.Proofs.Ytnmmopneacdgfaa

/-
  Plain mathematics of layer 18: nodes, what is wrong with them, their bytes, which node a page is. No condition; no statement of the seat is proved here.
-/
namespace Go.Proofs.Ytnmmopneacdgfaa
open Go.RowKit

structure PairS where
  key : List UInt8
  value : List UInt8
structure KidS where
  key : List UInt8
  page : Int
  epoch : Int
structure NodeS where
  leaf : Bool
  pairs : List PairS
  kids : List KidS
def zeroN : NodeS := ⟨false, [], []⟩
def psz (p : PairS) : Nat := 2 + p.key.length + p.value.length
def ksz (k : KidS) : Nat := 11 + k.key.length
def totL {α : Type} (f : α → Nat) : List α → Nat
  | [] => 0
  | x :: l => f x + totL f l
theorem totL_app {α : Type} (f : α → Nat) : ∀ l m : List α, totL f (l ++ m) = totL f l + totL f m
  | [], m => by simp [totL]
  | x :: l, m => by
    show f x + totL f (l ++ m) = f x + totL f l + totL f m
    rw [totL_app f l m, Nat.add_assoc]
theorem totL_snoc {α : Type} (f : α → Nat) {l : List α} {k : Nat} {x : α} (h : l[k]? = some x) : totL f (l.take (k + 1)) = totL f (l.take k) + f x := by
  rw [List.take_add_one, h, totL_app]
  rfl
theorem totL_parts {α : Type} (f : α → Nat) (l : List α) (k : Nat) : totL f (l.take k) + totL f (l.drop k) = totL f l := by
  rw [← totL_app, List.take_append_drop]
theorem totL_le {α : Type} (f : α → Nat) {b : Nat} : ∀ {l : List α}, (∀ x ∈ l, f x ≤ b) → totL f l ≤ l.length * b
  | [], _ => by simp [totL]
  | x :: l, h => by
    have h1 := h x (by simp)
    have h2 := totL_le f (l := l) fun y hy => h y (by simp [hy])
    show f x + totL f l ≤ (l.length + 1) * b
    rw [Nat.succ_mul]
    omega
def sizeN (n : NodeS) : Nat := 3 + totL psz n.pairs + totL ksz n.kids
/-- A node whose numbers are small enough to be reckoned with. -/
structure Lit (n : NodeS) : Prop where
  ps : n.pairs.length ≤ 100000
  ks : n.kids.length ≤ 100000
  p : ∀ x ∈ n.pairs, x.key.length ≤ 1000 ∧ x.value.length ≤ 1000
  k : ∀ x ∈ n.kids, x.key.length ≤ 1000
theorem Lit.totP {n : NodeS} (h : Lit n) : totL psz n.pairs ≤ 300000000 := by
  have := totL_le psz (b := 3000) (l := n.pairs) fun x hx => by have := h.p x hx; unfold psz; omega
  have := h.ps
  omega
theorem Lit.totK {n : NodeS} (h : Lit n) : totL ksz n.kids ≤ 300000000 := by
  have := totL_le ksz (b := 3000) (l := n.kids) fun x hx => by have := h.k x hx; unfold ksz; omega
  have := h.ks
  omega

def chkP (p : PairS) : Int := if 64 < p.key.length ∨ 160 < p.value.length then 17 else 0
def chkD (k : KidS) : Int := if 64 < k.key.length then 17 else if 0 ≤ k.page ∧ k.page ≤ 4095 ∧ 0 ≤ k.epoch ∧ k.epoch ≤ 1099511627776 then 0 else 2
def firstC {α : Type} (f : α → Int) : List α → Int
  | [] => 0
  | x :: l => if f x = 0 then firstC f l else f x
theorem drop_at {α : Type} {l : List α} {k : Nat} {x : α} (h : l[k]? = some x) : l.drop k = x :: l.drop (k + 1) := by
  have hk : k < l.length := (List.getElem?_eq_some_iff.1 h).1
  rw [List.drop_eq_getElem_cons hk]
  rw [List.getElem?_eq_getElem hk] at h
  rw [Option.some.inj h]
theorem firstC_drop {α : Type} (f : α → Int) {l : List α} {k : Nat} {x : α} (h : l[k]? = some x) : firstC f (l.drop k) = if f x = 0 then firstC f (l.drop (k + 1)) else f x := by
  rw [drop_at h]
  rfl
theorem firstC_all {α : Type} {f : α → Int} : ∀ {l : List α}, firstC f l = 0 → ∀ x ∈ l, f x = 0
  | [], _, x, hx => by cases hx
  | y :: l, h, x, hx => by
    unfold firstC at h
    split at h
    · rename_i hy
      rcases List.mem_cons.1 hx with rfl | hx
      · exact hy
      · exact firstC_all h x hx
    · rename_i hy
      exact absurd h hy
theorem chkP_ok {p : PairS} (h : chkP p = 0) : p.key.length ≤ 64 ∧ p.value.length ≤ 160 := by
  unfold chkP at h
  split at h
  · cases h
  · omega
theorem chkD_ok {k : KidS} (h : chkD k = 0) : k.key.length ≤ 64 ∧ 0 ≤ k.page ∧ k.page ≤ 4095 ∧ 0 ≤ k.epoch ∧ k.epoch ≤ 1099511627776 := by
  unfold chkD at h
  split at h
  · cases h
  · split at h
    · rename_i h1 h2
      exact ⟨by omega, h2⟩
    · cases h
/-- Do keys rise? -/
def riseB {α : Type} (key : α → List UInt8) : List α → Bool
  | [] => true
  | a :: l => (match l with
    | [] => true
    | b :: _ => decide (Lib.compareBytes (key a) (key b) < 0)) && riseB key l
theorem riseB_drop {α : Type} (key : α → List UInt8) {l : List α} {k : Nat} {x y : α} (h : l[k]? = some x) (h' : l[k + 1]? = some y) : riseB key (l.drop k) = (decide (Lib.compareBytes (key x) (key y) < 0) && riseB key (l.drop (k + 1))) := by
  rw [drop_at h, drop_at h']
  rfl
theorem riseB_short {α : Type} (key : α → List UInt8) {l : List α} {k : Nat} (h : l.length ≤ k + 1) : riseB key (l.drop k) = true := by
  have hl : (l.drop k).length ≤ 1 := by simp; omega
  generalize l.drop k = m at *
  match m, hl with
  | [], _ => rfl
  | [a], _ => rfl
def keyP (p : PairS) : List UInt8 := p.key
def keyD (k : KidS) : List UInt8 := k.key
theorem rise_two {α : Type} {key : α → List UInt8} : ∀ {l : List α}, riseB key l = true → ∀ {i j : Nat} {x y : α}, i < j → l[i]? = some x → l[j]? = some y → Lib.compareBytes (key x) (key y) < 0
  | [], _, i, j, x, y, _, hx, _ => by simp at hx
  | a :: l, h, i + 1, j, x, y, hij, hx, hy => by
    obtain ⟨j, rfl⟩ : ∃ t, j = t + 1 := ⟨j - 1, by omega⟩
    have h2 : riseB key l = true := by
      unfold riseB at h
      rw [Bool.and_eq_true] at h
      exact h.2
    exact rise_two h2 (i := i) (j := j) (by omega) (by simpa using hx) (by simpa using hy)
  | a :: l, h, 0, j, x, y, hij, hx, hy => by
    obtain ⟨j, rfl⟩ : ∃ t, j = t + 1 := ⟨j - 1, by omega⟩
    simp at hx
    subst hx
    match l, h with
    | [], _ => simp at hy
    | b :: l, h =>
      unfold riseB at h
      rw [Bool.and_eq_true] at h
      have h1 : Lib.compareBytes (key a) (key b) < 0 := of_decide_eq_true h.1
      cases j with
      | zero =>
        simp at hy
        subst hy
        exact h1
      | succ j =>
        have h3 := rise_two h.2 (i := 0) (j := j + 1) (by omega) rfl hy
        exact (cb_three _ _ _).2 h1 (by omega)
/-- Is it right that it has pairs, or kids? -/
def kindOk (n : NodeS) : Prop := (n.leaf = true → n.kids.length = 0) ∧ (n.leaf = false → n.pairs.length = 0)
instance (n : NodeS) : Decidable (kindOk n) := by unfold kindOk; infer_instance
def chkN (n : NodeS) : Int :=
  if kindOk n then
    if firstC chkP n.pairs = 0 then
      if firstC chkD n.kids = 0 then
        if riseB keyP n.pairs = true ∧ riseB keyD n.kids = true then
          if sizeN n ≤ 496 then 0 else 16
        else 4
      else firstC chkD n.kids
    else firstC chkP n.pairs
  else 4
/-- A node that is right, but perhaps full. -/
structure Fine (n : NodeS) : Prop where
  kind : kindOk n
  p : firstC chkP n.pairs = 0
  k : firstC chkD n.kids = 0
  rp : riseB keyP n.pairs = true
  rk : riseB keyD n.kids = true
theorem chkN_fine {n : NodeS} (h : Fine n) : chkN n = if sizeN n ≤ 496 then 0 else 16 := by
  unfold chkN
  rw [if_pos h.kind, if_pos h.p, if_pos h.k, if_pos ⟨h.rp, h.rk⟩]
theorem chkP_cases (p : PairS) : chkP p = 0 ∨ chkP p = 17 := by
  unfold chkP
  split
  · exact Or.inr rfl
  · exact Or.inl rfl
theorem chkD_cases (k : KidS) : chkD k = 0 ∨ chkD k = 2 ∨ chkD k = 17 := by
  unfold chkD
  split
  · exact Or.inr (Or.inr rfl)
  · split
    · exact Or.inl rfl
    · exact Or.inr (Or.inl rfl)
theorem firstP_cases : ∀ l, firstC chkP l = 0 ∨ firstC chkP l = 17
  | [] => Or.inl rfl
  | x :: l => by
    unfold firstC
    split
    · exact firstP_cases l
    · exact chkP_cases x
theorem firstD_cases : ∀ l, firstC chkD l = 0 ∨ firstC chkD l = 2 ∨ firstC chkD l = 17
  | [] => Or.inl rfl
  | x :: l => by
    unfold firstC
    split
    · exact firstD_cases l
    · exact chkD_cases x
theorem fine_of {n : NodeS} (h : chkN n = 0 ∨ chkN n = 16) : Fine n := by
  unfold chkN at h
  split at h
  · rename_i h1
    split at h
    · rename_i h2
      split at h
      · rename_i h3
        split at h
        · rename_i h4
          exact ⟨h1, h2, h3, h4.1, h4.2⟩
        · omega
      · have := firstD_cases n.kids
        omega
    · have := firstP_cases n.pairs
      omega
  · omega
theorem chkN_ok {n : NodeS} (h : chkN n = 0) : Fine n ∧ sizeN n ≤ 496 := by
  have hf := fine_of (Or.inl h)
  rw [chkN_fine hf] at h
  split at h
  · exact ⟨hf, ‹_›⟩
  · cases h
theorem chkN_cases (n : NodeS) : chkN n = 0 ∨ chkN n = 2 ∨ chkN n = 4 ∨ chkN n = 16 ∨ chkN n = 17 := by
  have h1 := firstP_cases n.pairs
  have h2 := firstD_cases n.kids
  unfold chkN
  split
  · split
    · split
      · split
        · split <;> simp
        · simp
      · omega
    · omega
  · simp

/-- Bytes. -/
def pairL (p : PairS) : List UInt8 := putL p.key.length 1 ++ putL p.value.length 1 ++ p.key ++ p.value
def kidL (k : KidS) : List UInt8 := putL k.key.length 1 ++ putL k.page.toNat 2 ++ putL k.epoch.toNat 8 ++ k.key
def flatL {α : Type} (f : α → List UInt8) (l : List α) : List UInt8 := (l.map f).flatten
theorem flatL_snoc {α : Type} (f : α → List UInt8) {l : List α} {k : Nat} {x : α} (h : l[k]? = some x) : flatL f (l.take (k + 1)) = flatL f (l.take k) ++ f x := by
  unfold flatL
  rw [List.take_add_one, h, List.map_append, List.flatten_append]
  simp
theorem flatL_len {α : Type} {f : α → List UInt8} {g : α → Nat} (h : ∀ x, (f x).length = g x) : ∀ l, (flatL f l).length = totL g l
  | [] => rfl
  | x :: l => by
    show ((f x :: l.map f).flatten).length = g x + totL g l
    rw [List.flatten_cons, List.length_append, h x]
    have := flatL_len h l
    unfold flatL at this
    omega
theorem pairL_len (p : PairS) : (pairL p).length = psz p := by
  unfold pairL psz
  simp only [List.length_append, putL_length]
theorem kidL_len (k : KidS) : (kidL k).length = ksz k := by
  unfold kidL ksz
  simp only [List.length_append, putL_length]
def kindL (n : NodeS) : List UInt8 := putL (if n.leaf then 1 else 0) 1
def nodeL (n : NodeS) : List UInt8 := kindL n ++ putL (n.pairs.length + n.kids.length) 2 ++ flatL pairL n.pairs ++ flatL kidL n.kids ++ List.replicate (496 - sizeN n) 0
theorem nodeL_len {n : NodeS} (h : sizeN n ≤ 496) : (nodeL n).length = 496 := by
  unfold nodeL kindL
  simp only [List.length_append, putL_length, List.length_replicate, flatL_len pairL_len, flatL_len kidL_len]
  unfold sizeN at *
  omega
def putN (n : NodeS) : List UInt8 := if chkN n = 0 then nodeL n else []

/-- Reading. -/
def pairR (s : RdS) : PairS := ⟨rB (rN (rN s 1) 1) (rV s 1 : Nat), rB (rN (rN (rN s 1) 1) (rV s 1 : Nat)) (rV (rN s 1) 1 : Nat)⟩
def restP (s : RdS) : RdS := rN (rN (rN (rN s 1) 1) (rV s 1 : Nat)) (rV (rN s 1) 1 : Nat)
def kidR (s : RdS) : KidS := ⟨rB (rN (rN (rN s 1) 2) 8) (rV s 1 : Nat), (rV (rN s 1) 2 : Nat), cap62 (rV (rN (rN s 1) 2) 8)⟩
def restD (s : RdS) : RdS := rN (rN (rN (rN s 1) 2) 8) (rV s 1 : Nat)
def itR (nx : RdS → RdS) : Nat → RdS → RdS
  | 0, s => s
  | n + 1, s => nx (itR nx n s)
def sevK {α : Type} (one : RdS → α) (nx : RdS → RdS) : Nat → RdS → List α
  | 0, _ => []
  | n + 1, s => sevK one nx n s ++ [one (itR nx n s)]
def cntR (nx : RdS → RdS) : Nat → RdS → Nat
  | 0, _ => 0
  | n + 1, s => if s.2 = 0 then cntR nx n (nx s) + 1 else 0
theorem itR_succ (nx : RdS → RdS) : ∀ n s, itR nx (n + 1) s = itR nx n (nx s)
  | 0, _ => rfl
  | n + 1, s => by
    show nx (itR nx (n + 1) s) = nx (itR nx n (nx s))
    rw [itR_succ nx n s]
theorem sevK_succ {α : Type} (one : RdS → α) (nx : RdS → RdS) : ∀ n s, sevK one nx (n + 1) s = one s :: sevK one nx n (nx s)
  | 0, _ => rfl
  | n + 1, s => by
    show sevK one nx (n + 1) s ++ [one (itR nx (n + 1) s)] = one s :: (sevK one nx n (nx s) ++ [one (itR nx n (nx s))])
    rw [sevK_succ one nx n s, itR_succ]
    rfl
theorem sevK_len {α : Type} (one : RdS → α) (nx : RdS → RdS) : ∀ n s, (sevK one nx n s).length = n
  | 0, _ => rfl
  | n + 1, s => by
    show (sevK one nx n s ++ [one (itR nx n s)]).length = n + 1
    rw [List.length_append, sevK_len one nx n s]
    rfl
theorem cntR_le (nx : RdS → RdS) : ∀ n s, cntR nx n s ≤ n
  | 0, _ => Nat.le_refl _
  | n + 1, s => by
    unfold cntR
    split
    · have := cntR_le nx n (nx s)
      omega
    · omega
/-- Where the reading of several stops. -/
theorem cntR_stop (nx : RdS → RdS) : ∀ {n k : Nat} {s : RdS}, k ≤ n → (∀ i, i < k → (itR nx i s).2 = 0) → (k = n ∨ (itR nx k s).2 ≠ 0) → cntR nx n s = k
  | 0, k, s, hk, _, _ => by
    obtain rfl : k = 0 := by omega
    rfl
  | n + 1, 0, s, _, _, h => by
    unfold cntR
    rw [if_neg (by rcases h with h | h; cases h; exact h)]
  | n + 1, k + 1, s, hk, hz, h => by
    unfold cntR
    have h0 : s.2 = 0 := hz 0 (by omega)
    rw [if_pos h0]
    rw [cntR_stop nx (n := n) (k := k) (s := nx s) (by omega) (fun i hi => by have := hz (i + 1) (by omega); rwa [itR_succ] at this) (by rw [itR_succ] at h; omega)]
def leafR (b : List UInt8) : Bool := decide (rV (b, 0) 1 = 1)
def cntB (b : List UInt8) : Nat := rV (rN (b, 0) 1) 2
def bodyR (b : List UInt8) : RdS := rN (rN (b, 0) 1) 2
/-- The node that stands in a page, and what is left. -/
def nodR (b : List UInt8) : NodeS := if leafR b = true then ⟨true, sevK pairR restP (cntR restP (cntB b) (bodyR b)) (bodyR b), []⟩ else ⟨false, [], sevK kidR restD (cntR restD (cntB b) (bodyR b)) (bodyR b)⟩
def nodT (b : List UInt8) : RdS := if leafR b = true then itR restP (cntR restP (cntB b) (bodyR b)) (bodyR b) else itR restD (cntR restD (cntB b) (bodyR b)) (bodyR b)
def zeroB (l : List UInt8) : Bool := l.all (fun x => x == 0)
/-- The node that a page is, and what is wrong. -/
def getNd (b : List UInt8) : NodeS × Int :=
  if b.length = 496 then
    if rV (b, 0) 1 ≤ 1 then
      if (nodT b).2 = 0 then
        if zeroB (nodT b).1 = true then
          if chkN (nodR b) = 0 then (nodR b, 0) else (zeroN, chkN (nodR b))
        else (zeroN, 4)
      else (zeroN, (nodT b).2)
    else (zeroN, 4)
  else (zeroN, 17)

end Go.Proofs.Ytnmmopneacdgfaa

/-
  Plain mathematics of layer 18: there and back: a node that may be is read as it was; a page that is a node's is that node's page. No condition; no statement of the seat is proved here.
-/
namespace Go.Proofs.Ytnmmopneacdgfaa
open Go.RowKit
set_option linter.unusedVariables false

/-- A reading that a list of things was put ahead of. -/
theorem sev_back {α : Type} {one : RdS → α} {nx : RdS → RdS} {f : α → List UInt8} {p : α → Prop} (h : ∀ x y, p x → one (f x ++ y, 0) = x ∧ nx (f x ++ y, 0) = (y, 0)) : ∀ (l : List α) (y : List UInt8), (∀ x ∈ l, p x) → sevK one nx l.length (flatL f l ++ y, 0) = l ∧ itR nx l.length (flatL f l ++ y, 0) = (y, 0) ∧ cntR nx l.length (flatL f l ++ y, 0) = l.length
  | [], y, _ => ⟨rfl, rfl, rfl⟩
  | x :: l, y, hp => by
    have e : flatL f (x :: l) ++ y = f x ++ (flatL f l ++ y) := by
      unfold flatL
      rw [List.map_cons, List.flatten_cons, List.append_assoc]
    obtain ⟨h1, h2⟩ := h x (flatL f l ++ y) (hp x (by simp))
    obtain ⟨i1, i2, i3⟩ := sev_back h l y fun z hz => hp z (by simp [hz])
    rw [e]
    refine ⟨?_, ?_, ?_⟩
    · show sevK one nx (l.length + 1) _ = _
      rw [sevK_succ, h1, h2, i1]
    · show itR nx (l.length + 1) _ = _
      rw [itR_succ, h2, i2]
    · show cntR nx (l.length + 1) _ = _
      unfold cntR
      rw [if_pos rfl, h2, i3]
      rfl
theorem pair_back (x : PairS) (y : List UInt8) (h : x.key.length ≤ 255 ∧ x.value.length ≤ 255) : pairR (pairL x ++ y, 0) = x ∧ restP (pairL x ++ y, 0) = (y, 0) := by
  have e : pairL x ++ y = putL x.key.length 1 ++ (putL x.value.length 1 ++ (x.key ++ (x.value ++ y))) := by
    unfold pairL
    simp only [List.append_assoc]
  obtain ⟨a1, a2⟩ := rV_put (n := x.key.length) (s := 1) (y := putL x.value.length 1 ++ (x.key ++ (x.value ++ y))) (by omega) (by omega)
  obtain ⟨b1, b2⟩ := rV_put (n := x.value.length) (s := 1) (y := x.key ++ (x.value ++ y)) (by omega) (by omega)
  obtain ⟨c1, c2⟩ := rB_app x.key (x.value ++ y)
  obtain ⟨d1, d2⟩ := rB_app x.value y
  rw [e]
  unfold pairR restP
  have a1' : rV (putL x.key.length 1 ++ (putL x.value.length 1 ++ (x.key ++ (x.value ++ y))), 0) 1 = x.key.length := a1
  have a2' : rN (putL x.key.length 1 ++ (putL x.value.length 1 ++ (x.key ++ (x.value ++ y))), 0) 1 = (putL x.value.length 1 ++ (x.key ++ (x.value ++ y)), 0) := a2
  have b1' : rV (putL x.value.length 1 ++ (x.key ++ (x.value ++ y)), 0) 1 = x.value.length := b1
  have b2' : rN (putL x.value.length 1 ++ (x.key ++ (x.value ++ y)), 0) 1 = (x.key ++ (x.value ++ y), 0) := b2
  rw [a1', a2', b1', b2', c1, c2, d1, d2]
  exact ⟨rfl, rfl⟩
theorem kid_back (x : KidS) (y : List UInt8) (h : x.key.length ≤ 255 ∧ 0 ≤ x.page ∧ x.page ≤ 65535 ∧ 0 ≤ x.epoch ∧ x.epoch ≤ 1099511627776) : kidR (kidL x ++ y, 0) = x ∧ restD (kidL x ++ y, 0) = (y, 0) := by
  obtain ⟨key, page, epoch⟩ := x
  obtain ⟨pg, rfl⟩ : ∃ n : Nat, page = n := ⟨page.toNat, by simp at h; omega⟩
  obtain ⟨ep, rfl⟩ : ∃ n : Nat, epoch = n := ⟨epoch.toNat, by simp at h; omega⟩
  dsimp only at h
  have e : kidL ⟨key, (pg : Int), (ep : Int)⟩ ++ y = putL key.length 1 ++ (putL pg 2 ++ (putL ep 8 ++ (key ++ y))) := by
    unfold kidL
    simp only [List.append_assoc, Int.toNat_natCast]
  obtain ⟨a1, a2⟩ := rV_put (n := key.length) (s := 1) (y := putL pg 2 ++ (putL ep 8 ++ (key ++ y))) (by omega) (by omega)
  obtain ⟨b1, b2⟩ := rV_put (n := pg) (s := 2) (y := putL ep 8 ++ (key ++ y)) (by omega) (by omega)
  obtain ⟨c1, c2⟩ := rV_put (n := ep) (s := 8) (y := key ++ y) (by omega) (by omega)
  obtain ⟨d1, d2⟩ := rB_app key y
  rw [e]
  unfold kidR restD
  have a1' : rV (putL key.length 1 ++ (putL pg 2 ++ (putL ep 8 ++ (key ++ y))), 0) 1 = key.length := a1
  have a2' : rN (putL key.length 1 ++ (putL pg 2 ++ (putL ep 8 ++ (key ++ y))), 0) 1 = (putL pg 2 ++ (putL ep 8 ++ (key ++ y)), 0) := a2
  have b1' : rV (putL pg 2 ++ (putL ep 8 ++ (key ++ y)), 0) 2 = pg := b1
  have b2' : rN (putL pg 2 ++ (putL ep 8 ++ (key ++ y)), 0) 2 = (putL ep 8 ++ (key ++ y), 0) := b2
  have c1' : rV (putL ep 8 ++ (key ++ y), 0) 8 = ep := c1
  have c2' : rN (putL ep 8 ++ (key ++ y), 0) 8 = (key ++ y, 0) := c2
  rw [a1', a2', b1', b2', c1', c2', d1, d2, cap62_small (by omega)]
  exact ⟨rfl, rfl⟩
theorem zeroB_rep (n : Nat) : zeroB (List.replicate n 0) = true := by
  unfold zeroB
  rw [List.all_eq_true]
  intro x hx
  rw [List.eq_of_mem_replicate hx]
  rfl
theorem totL_ge {α : Type} {f : α → Nat} {b : Nat} : ∀ {l : List α}, (∀ x ∈ l, b ≤ f x) → l.length * b ≤ totL f l
  | [], _ => by simp [totL]
  | x :: l, h => by
    have h1 := h x (by simp)
    have h2 := totL_ge (f := f) (b := b) (l := l) fun y hy => h y (by simp [hy])
    show (l.length + 1) * b ≤ f x + totL f l
    rw [Nat.succ_mul]
    omega
theorem Fine.lens {n : NodeS} (h : Fine n) (hs : sizeN n ≤ 496) : n.pairs.length + n.kids.length ≤ 496 := by
  have h1 := totL_ge (f := psz) (b := 1) (l := n.pairs) fun x _ => by unfold psz; omega
  have h2 := totL_ge (f := ksz) (b := 1) (l := n.kids) fun x _ => by unfold ksz; omega
  unfold sizeN at hs
  omega
/-- THERE AND BACK. -/
theorem node_back {n : NodeS} (h : chkN n = 0) : getNd (nodeL n) = (n, 0) := by
  obtain ⟨hf, hs⟩ := chkN_ok h
  have hl := nodeL_len hs
  have hc := hf.lens hs
  obtain ⟨lf, ps, ks⟩ := n
  dsimp only at hc
  have hk1 := hf.kind.1
  have hk2 := hf.kind.2
  dsimp only at hk1 hk2
  have hz : ∃ Z, List.replicate (496 - sizeN ⟨lf, ps, ks⟩) 0 = Z ∧ zeroB Z = true := ⟨_, rfl, zeroB_rep _⟩
  obtain ⟨Z, hZ, hzz⟩ := hz
  have e : nodeL ⟨lf, ps, ks⟩ = putL (if lf then 1 else 0) 1 ++ (putL (ps.length + ks.length) 2 ++ (flatL pairL ps ++ (flatL kidL ks ++ Z))) := by
    unfold nodeL kindL
    rw [hZ]
    simp only [List.append_assoc]
  have hkd : (if lf then 1 else 0 : Nat) ≤ 1 := by cases lf <;> simp
  obtain ⟨a1, a2⟩ := rV_put (n := (if lf then 1 else 0)) (s := 1) (y := putL (ps.length + ks.length) 2 ++ (flatL pairL ps ++ (flatL kidL ks ++ Z))) (by omega) (by omega)
  obtain ⟨b1, b2⟩ := rV_put (n := ps.length + ks.length) (s := 2) (y := flatL pairL ps ++ (flatL kidL ks ++ Z)) (by omega) (by omega)
  have a1' : rV (nodeL ⟨lf, ps, ks⟩, 0) 1 = (if lf then 1 else 0) := by rw [e]; exact a1
  have a2' : rN (nodeL ⟨lf, ps, ks⟩, 0) 1 = (putL (ps.length + ks.length) 2 ++ (flatL pairL ps ++ (flatL kidL ks ++ Z)), 0) := by rw [e]; exact a2
  have hcB : cntB (nodeL ⟨lf, ps, ks⟩) = ps.length + ks.length := by unfold cntB; rw [a2']; exact b1
  have hbR : bodyR (nodeL ⟨lf, ps, ks⟩) = (flatL pairL ps ++ (flatL kidL ks ++ Z), 0) := by unfold bodyR; rw [a2']; exact b2
  have hNT : nodR (nodeL ⟨lf, ps, ks⟩) = ⟨lf, ps, ks⟩ ∧ nodT (nodeL ⟨lf, ps, ks⟩) = (Z, 0) := by
    unfold nodR nodT leafR
    rw [a1', hcB, hbR]
    cases lf with
    | true =>
      obtain rfl : ks = [] := List.length_eq_zero_iff.1 (hk1 rfl)
      obtain ⟨i1, i2, i3⟩ := sev_back (p := fun x : PairS => x.key.length ≤ 255 ∧ x.value.length ≤ 255) (fun x y hx => pair_back x y hx) ps Z (fun x hx => by have := chkP_ok (firstC_all hf.p x hx); omega)
      have e0 : flatL pairL ps ++ (flatL kidL [] ++ Z) = flatL pairL ps ++ Z := rfl
      rw [if_pos (by simp), if_pos (by simp), e0]
      show (⟨true, sevK pairR restP (cntR restP (ps.length + 0) _) _, []⟩ : NodeS) = _ ∧ itR restP (cntR restP (ps.length + 0) _) _ = _
      rw [Nat.add_zero, i3, i1, i2]
      exact ⟨rfl, rfl⟩
    | false =>
      obtain rfl : ps = [] := List.length_eq_zero_iff.1 (hk2 rfl)
      obtain ⟨i1, i2, i3⟩ := sev_back (p := fun x : KidS => x.key.length ≤ 255 ∧ 0 ≤ x.page ∧ x.page ≤ 65535 ∧ 0 ≤ x.epoch ∧ x.epoch ≤ 1099511627776) (fun x y hx => kid_back x y hx) ks Z (fun x hx => by have := chkD_ok (firstC_all hf.k x hx); omega)
      have e0 : flatL pairL [] ++ (flatL kidL ks ++ Z) = flatL kidL ks ++ Z := rfl
      rw [if_neg (by simp), if_neg (by simp), e0]
      show (⟨false, [], sevK kidR restD (cntR restD (0 + ks.length) _) _⟩ : NodeS) = _ ∧ itR restD (cntR restD (0 + ks.length) _) _ = _
      rw [Nat.zero_add, i3, i1, i2]
      exact ⟨rfl, rfl⟩
  unfold getNd
  rw [if_pos hl, a1', if_pos hkd, hNT.1, hNT.2, if_pos rfl, if_pos hzz, if_pos h]

end Go.Proofs.Ytnmmopneacdgfaa

/-
  What was made last, and what outlasts it. No condition; no statement of the seat is proved here.
-/
namespace Go.Proofs.Ytnmmopneacdgfaa
open Go.RowKit


theorem Own.but {w w' : World} {base r : Nat} {v : Value} {l : List UInt8} (h : Own w base v l) (hg : w.grownBy w' (some r)) (hr : r < base) : Own w' base v l := by
  refine World.ownsRow.kept h hg (Or.inr ?_)
  intro e
  have := (World.ownsRow.lt h r e).1
  omega

end Go.Proofs.Ytnmmopneacdgfaa
