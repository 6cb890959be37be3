/-
  3 texts in one. No statement of the seat is proved here.
-/
import Derived.Test.YtbifikeecmaakaaG8

/-
  The contract of the program's Get: the number of a row of bytes, the highest first, of the last eight. No condition.
-/
namespace Go.Proofs.Ytbifikeecmaakaa
open Go.RowKit

set_option maxHeartbeats 400000 in
theorem oGet (w : World) {a : Option Addr} {n c : Nat} {l : List UInt8} (ha : Bs w a n c l) :
    Calls Try.prog 72 #[.slice a n c] w fun e w' => e = .returned (.int .u64 (getN l)) ∧ w = w' := by
  have h1 := ha.max
  by_cases h0 : n = 0
  · subst h0
    have e : l = [] := List.length_eq_zero_iff.1 ha.len
    subst e
    clear ha
    go_enter Try.func72, Try.ntmps72
    go_wp2
    refine wp_loop_rounds 1 ?_; rw [rounds_succ]; go_wp2
    go_ret
    exact ⟨rfl, rfl⟩
  · obtain ⟨x, o, rfl, hx, hc⟩ := ha.at (by omega)
    have H : Hid (l.length = n) := ha.len
    clear ha
    go_enter Try.func72, Try.ntmps72
    go_wp2
    go_loop [3, 8] (fun t i => ∃ k : Nat, k ≤ n ∧ i = .int .i64 k ∧ t = .int .u64 (getN (l.take k))) (fun _ i => n - (intOf i).toNat)
    case atStart => exact ⟨0, Nat.zero_le _, rfl, rfl⟩
    case round =>
      obtain ⟨k, hk, rfl, rfl⟩ := hrel
      by_cases hlt : k < n
      · have c1 := hc k hlt
        have b1 := bt_lo l k
        have b2 := bt_hi l k
        clear hc
        go_wp2
        go_round
        case rel => exact ⟨k + 1, by omega, by go_num, by rw [get_step_or (by rw [H.out]; exact hlt)]⟩
        case measure => simp [intOf]; omega
      · go_wp2
        go_ret
        exact ⟨ret_int (get_end H hlt), rfl⟩
end Go.Proofs.Ytbifikeecmaakaa

/-
  The contract of the reference's Get: the number of a row of bytes, the highest first, of the last eight. No condition.
-/
namespace Go.Proofs.Ytbifikeecmaakaa
open Go.RowKit

set_option maxHeartbeats 400000 in
theorem rGet (w : World) {a : Option Addr} {n c : Nat} {l : List UInt8} (ha : Bs w a n c l) :
    Calls Try.prog 67 #[.slice a n c] w fun e w' => e = .returned (.int .u64 (getN l)) ∧ w = w' := by
  have h1 := ha.max
  by_cases h0 : n = 0
  · subst h0
    have e : l = [] := List.length_eq_zero_iff.1 ha.len
    subst e
    clear ha
    go_enter Try.func67, Try.ntmps67
    go_wp2
    refine wp_loop_rounds 1 ?_; rw [rounds_succ]; go_wp2
    go_ret
    exact ⟨rfl, rfl⟩
  · obtain ⟨x, o, rfl, hx, hc⟩ := ha.at (by omega)
    have H : Hid (l.length = n) := ha.len
    clear ha
    go_enter Try.func67, Try.ntmps67
    go_wp2
    go_loop [3, 4] (fun t i => ∃ k : Nat, k ≤ n ∧ i = .int .i64 k ∧ t = .int .u64 (getN (l.take k))) (fun _ i => n - (intOf i).toNat)
    case atStart => exact ⟨0, Nat.zero_le _, rfl, rfl⟩
    case round =>
      obtain ⟨k, hk, rfl, rfl⟩ := hrel
      by_cases hlt : k < n
      · have c1 := hc k hlt
        have b1 := bt_lo l k
        have b2 := bt_hi l k
        clear hc
        go_wp2
        go_round
        case rel => exact ⟨k + 1, by omega, by go_num, by rw [get_step (by rw [H.out]; exact hlt)]⟩
        case measure => simp [intOf]; omega
      · go_wp2
        go_ret
        exact ⟨ret_int (get_end H hlt), rfl⟩

end Go.Proofs.Ytbifikeecmaakaa

/-
  The contracts of the program's reader: Read, Bytes, Number, Text, Fail, Left, Code, End. Condition: at most 100000 bytes.
-/
namespace Go.Proofs.Ytbifikeecmaakaa
open Go.RowKit

/-- What is left and the code behind a read of n bytes, and what was read. -/
def rdBytes (l : List UInt8) (c n : Int) : List UInt8 × Int × List UInt8 :=
  if c ≠ 0 then (l, c, []) else if n < 0 ∨ (l.length : Int) < n then (l, 3, []) else (l.drop n.toNat, 0, l.take n.toNat)

/-- .. behind a read of a text. -/
def rdText (l : List UInt8) (c size most : Int) : List UInt8 × Int × List UInt8 :=
  let s := rdBytes l c size
  if max most 0 < (getN s.2.2 : Int) then (s.1, if s.2.1 = 0 then 4 else s.2.1, []) else rdBytes s.1 s.2.1 (getN s.2.2)

/-- What a call that reads leaves: bytes in new memory, the reader turned, all else as it was. -/
def Reads (w : World) (r : Nat) (s : List UInt8 × Int × List UInt8) (e : Ending) (w' : World) : Prop :=
  ∃ a m q, e = .returned (.slice a m q) ∧ Own w' w.heap.size (.slice a m q) s.2.2 ∧ Rd w' r s.1 s.2.1 ∧ w.grownBy w' (some r)

set_option maxHeartbeats 400000 in
theorem oFail (w : World) (r : Nat) {l : List UInt8} {c : Int} (h : Rd w r l c) (d : Int) :
    Calls Try.prog 62 #[.pointer (some ⟨r, 0, none⟩), .int .i64 d] w fun e w' => e = .returned (.tuple #[]) ∧ Rd w' r l (if c = 0 then d else c) ∧ w.grownBy w' (some r) := by
  have h' := h
  obtain ⟨a, n, q, h1, h2, h3, h4, h5, h6⟩ := h
  by_cases hc : c = 0
  · subst hc
    have hr := h'.setCode d
    clear h' h5
    go_enter Try.func62, Try.ntmps62
    go_wp2
    go_end0
    exact ⟨rfl, hr, but_set _ _ _ _⟩
  · have hc' : (c == 0) = false := by simp [hc]
    rw [if_neg hc]
    clear h5
    go_enter Try.func62, Try.ntmps62
    go_wp2
    go_end0
    exact ⟨rfl, h', World.grownBy.refl _ _⟩

set_option maxHeartbeats 400000 in
theorem oCode (w : World) (r : Nat) {l : List UInt8} {c : Int} (h : Rd w r l c) :
    Calls Try.prog 45 #[.pointer (some ⟨r, 0, none⟩)] w fun e w' => e = .returned (.int .i64 c) ∧ w' = w := by
  obtain ⟨a, n, q, h1, h2, h3, h4, h5, h6⟩ := h
  clear h5
  go_enter Try.func45, Try.ntmps45
  go_wp2
  go_ret
  exact ⟨rfl, rfl⟩

/-- A slice of one slice of bytes, as it stands in a call with one part. -/
theorem Bss.one {w : World} {a : Option Addr} {n c : Nat} {l : List UInt8} (h : Bs w a n c l) : Bss (w.alloc (.cells #[.slice a n c] 22)) (some ⟨w.heap.size, 0, none⟩) 1 1 [l] := by
  refine ⟨rfl, Nat.le_refl _, by unfold maxLen; omega, fun i hi => ?_⟩
  obtain rfl : i = 0 := by omega
  refine ⟨w.heap.size, 0, a, n, c, rfl, ?_, h.below (below_alloc _ _) (Nat.le_refl _)⟩
  simp

theorem free_new (w : World) (arr : Array Value) (t : TypeId) (i : Nat) : (w.alloc (.cells arr t)).frozen? ⟨w.heap.size, i, none⟩ = false := by
  unfold World.frozen?
  rw [show (w.alloc (.cells arr t)).heap[w.heap.size]? = some (.cells arr t) from by show (w.heap.push _)[w.heap.size]? = _; simp]
  simp
theorem Rd.new {w : World} {base : Nat} {a : Option Addr} {m c : Nat} {l : List UInt8} (h : Own w base (.slice a m c) l) (t : TypeId) : Rd (w.alloc (.cells #[.slice a m c, .int .i64 0] t)) w.heap.size l 0 := by
  refine ⟨a, m, c, by simp, by simp, free_new _ _ _ _, free_new _ _ _ _, h.toBs.below (below_alloc _ _) (Nat.le_refl _), ?_⟩
  intro x hx
  subst hx
  have := (World.ownsRow.lt h x.block rfl).2
  omega
theorem own_flat {w : World} {base : Nat} {v : Value} {l : List UInt8} (h : Own w base v [l].flatten) : Own w base v l := by simpa using h

set_option maxHeartbeats 400000 in
theorem oRead (w : World) {a : Option Addr} {n c : Nat} {l : List UInt8} (h : Bs w a n c l) (hz : n ≤ 100000) :
    Calls Try.prog 42 #[.slice a n c] w fun e w' => ∃ r, e = .returned (.pointer (some ⟨r, 0, none⟩)) ∧ w.heap.size ≤ r ∧ Rd w' r l 0 ∧ Below w.heap.size w w' := by
  have hJ := oJoin _ (Bss.one h) (by simp [tot, h.len]; omega)
  have HJ : Hid (Calls Try.prog 40 #[.slice (some ⟨w.heap.size, 0, none⟩) 1 1] (w.alloc (.cells #[.slice a n c] 22)) (Gives (w.alloc (.cells #[.slice a n c] 22)) [l].flatten)) := hJ
  clear hJ h
  go_enter Try.func42, Try.ntmps42
  go_wp2_with (go_at_call 40; refine HJ.out.mono ?_; rintro e w1 ⟨a1, m1, c1, rfl, ho1, hb1⟩)
  go_ret
  exact ⟨w1.heap.size, rfl, Nat.le_trans (by simp) hb1.size, Rd.new (own_flat ho1) _, ((below_alloc _ _).trans (hb1.mono (by simp))).alloc (Nat.le_trans (by simp) hb1.size) _⟩

set_option maxHeartbeats 1000000 in
theorem oBytes (w : World) (r : Nat) {l : List UInt8} {c : Int} (h : Rd w r l c) (n : Int) (hz : l.length ≤ 100000) (hn : -9223372036854775808 ≤ n) (hn' : n ≤ 9223372036854775807) :
    Calls Try.prog 43 #[.pointer (some ⟨r, 0, none⟩), .int .i64 n] w (Reads w r (rdBytes l c n)) := by
  have h' := h
  obtain ⟨a, m, q, h1, h2, h3, h4, h5, h6⟩ := h
  have hl := h5.len
  have hmax := h5.max
  by_cases hc : c = 0
  · subst hc
    by_cases hb : n < 0 ∨ (m : Int) < n
    · have e : rdBytes l 0 n = (l, 3, []) := by unfold rdBytes; rw [if_neg (by simp), if_pos (by omega)]
      rw [e]
      have hF := oFail w r h' 3
      have HF : Hid (Calls Try.prog 62 #[.pointer (some ⟨r, 0, none⟩), .int .i64 3] w fun e w' => e = .returned (.tuple #[]) ∧ Rd w' r l 3 ∧ w.grownBy w' (some r)) := hF
      clear hF e h' h5 hl
      rcases hb with hb | hb
      · go_enter Try.func43, Try.ntmps43
        go_wp2_with (go_at_call 62; refine HF.out.mono ?_; rintro e w1 ⟨rfl, hr, hg⟩)
        go_ret
        exact ⟨none, 0, 0, rfl, Own.nil _ _, hr, hg⟩
      · have hb' : ¬ n < 0 := by omega
        go_enter Try.func43, Try.ntmps43
        go_wp2_with (go_at_call 62; refine HF.out.mono ?_; rintro e w1 ⟨rfl, hr, hg⟩)
        go_ret
        exact ⟨none, 0, 0, rfl, Own.nil _ _, hr, hg⟩
    · obtain ⟨k, rfl⟩ : ∃ k : Nat, n = k := ⟨n.toNat, by omega⟩
      have hk : k ≤ m := by omega
      have e : rdBytes l 0 k = (l.drop k, 0, l.take k) := by unfold rdBytes; rw [if_neg (by simp), if_neg (by omega)]; simp
      rw [e]
      obtain ⟨s1, s2⟩ := h5.cutHigh k hk
      obtain ⟨a2, q2, t1, t2, t3⟩ := h5.cutLow k hk
      have hJ := oJoin _ (Bss.one (s2 w h5)) (by simp [tot]; omega)
      have HJ : Hid (Calls Try.prog 40 #[.slice (some ⟨w.heap.size, 0, none⟩) 1 1] (w.alloc (.cells #[.slice a k q] 22)) (Gives (w.alloc (.cells #[.slice a k q] 22)) [l.take k].flatten)) := hJ
      have T2 : Hid (∀ w, Bs w a m q l → Bs w a2 (m - k) q2 (l.drop k)) := t2
      have T3 : Hid (∀ x, a2 = some x → ∃ y, a = some y ∧ x.block = y.block) := t3
      have hW : Hid (∀ w1, Below (w.alloc (.cells #[.slice a k q] 22)).heap.size (w.alloc (.cells #[.slice a k q] 22)) w1 → Below w.heap.size w w1) := fun w1 hb1 => (below_alloc _ _).trans (hb1.mono (by simp))
      have h0 : ¬ (k : Int) < 0 := by omega
      have h00 : ¬ (m : Int) < k := by omega
      have hlt := h'.lt
      have H' : Hid (Rd w r l 0) := h'
      have H5 : Hid (Bs w a m q l) := h5
      clear hJ t2 t3 s2 e h5 h' hl hb
      go_enter Try.func43, Try.ntmps43
      go_wp2_with (go_at_call 40; refine HJ.out.mono ?_; rintro e w1 ⟨a1, m1, c1, rfl, ho1, hb1⟩; have g0 := (hW.out w1 hb1).cell (p := ⟨r, 0, none⟩) hlt; have g1 := (hW.out w1 hb1).frozen (p := ⟨r, 0, none⟩) hlt; rw [h1] at g0; rw [h3] at g1)
      go_ret
      have hb := hW.out w1 hb1
      exact ⟨a1, m1, c1, rfl, ownsRow_setCell_below ((own_flat ho1).mono (by simp)) (by simpa using hlt) _, (H'.out.below hb (Nat.le_refl _)).setRest (T2.out w1 (H5.out.below hb (Nat.le_refl _))) (fun x hx => by obtain ⟨y, hy, e⟩ := T3.out x hx; rw [e]; exact h6 y hy), but_trans (but_of_below hb) (but_set _ _ _ _)⟩
  · have hc' : (c == 0) = false := by simp [hc]
    have e : rdBytes l c n = (l, c, []) := by unfold rdBytes; rw [if_pos hc]
    rw [e]
    clear h5 e hl
    go_enter Try.func43, Try.ntmps43
    go_wp2
    go_ret
    exact ⟨none, 0, 0, rfl, Own.nil _ _, h', World.grownBy.refl _ _⟩

set_option maxHeartbeats 400000 in
theorem oNumber (w : World) (r : Nat) {l : List UInt8} {c : Int} (h : Rd w r l c) (n : Int) (hz : l.length ≤ 100000) (hn : -9223372036854775808 ≤ n) (hn' : n ≤ 9223372036854775807) :
    Calls Try.prog 64 #[.pointer (some ⟨r, 0, none⟩), .int .i64 n] w fun e w' => e = .returned (.int .u64 (getN (rdBytes l c n).2.2 : Nat)) ∧ Rd w' r (rdBytes l c n).1 (rdBytes l c n).2.1 ∧ w.grownBy w' (some r) := by
  have hB : Hid (Calls Try.prog 43 #[.pointer (some ⟨r, 0, none⟩), .int .i64 n] w (Reads w r (rdBytes l c n))) := oBytes w r h n hz hn hn'
  clear h
  generalize rdBytes l c n = s at *
  go_enter Try.func64, Try.ntmps64
  go_wp2_with (first | (go_at_call 43; refine hB.out.mono ?_; rintro e w1 ⟨a1, m1, c1, rfl, ho1, hr1, hg1⟩) | (go_at_call 72; refine (oGet _ ho1.toBs).mono ?_; rintro e w2 ⟨rfl, rfl⟩))
  go_ret
  exact ⟨rfl, hr1, hg1⟩

theorem rdBytes_len (l : List UInt8) (c n : Int) (h : l.length ≤ 100000) : (rdBytes l c n).1.length ≤ 100000 := by
  unfold rdBytes
  split
  · exact h
  · split
    · exact h
    · simp; omega

end Go.Proofs.Ytbifikeecmaakaa
