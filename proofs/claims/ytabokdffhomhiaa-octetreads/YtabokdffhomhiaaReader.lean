/-
  The contracts of the program's reader: Read, Bytes, Number, Text, Fail, Left, Code, End. Condition: at most 100000 bytes.
-/
import Derived.Test.YtabokdffhomhiaaCuts
import Derived.Test.YtabokdffhomhiaaGet
namespace Go.Proofs.Ytabokdffhomhiaa
open Go.RowKit

/-- What is left and the code behind a read of n bytes, and what was read. -/
def rdBytes (l : List UInt8) (c n : Int) : List UInt8 × Int × List UInt8 :=
  if c ≠ 0 then (l, c, []) else if n < 0 ∨ (l.length : Int) < n then (l, 3, []) else (l.drop n.toNat, 0, l.take n.toNat)

/-- .. behind a read of a text. -/
def rdText (l : List UInt8) (c size most : Int) : List UInt8 × Int × List UInt8 :=
  let s := rdBytes l c size
  if max most 0 < (getN s.2.2 : Int) then (s.1, if s.2.1 = 0 then 4 else s.2.1, []) else rdBytes s.1 s.2.1 (getN s.2.2)

/-- What a call that reads leaves: bytes in new memory, the reader turned, all else as it was. -/
def Reads (w : World) (r : Nat) (s : List UInt8 × Int × List UInt8) (e : Ending) (w' : World) : Prop :=
  ∃ a m q, e = .returned (.slice a m q) ∧ Own w' w.heap.size (.slice a m q) s.2.2 ∧ Rd w' r s.1 s.2.1 ∧ w.grownBy w' (some r)

set_option maxHeartbeats 400000 in
theorem oFail (w : World) (r : Nat) {l : List UInt8} {c : Int} (h : Rd w r l c) (d : Int) :
    Calls Try.prog 32 #[.pointer (some ⟨r, 0, none⟩), .int .i64 d] w fun e w' => e = .returned (.tuple #[]) ∧ Rd w' r l (if c = 0 then d else c) ∧ w.grownBy w' (some r) := by
  have h' := h
  obtain ⟨a, n, q, h1, h2, h3, h4, h5, h6⟩ := h
  by_cases hc : c = 0
  · subst hc
    have hr := h'.setCode d
    clear h' h5
    go_enter Try.func32, Try.ntmps32
    go_wp2
    go_end0
    exact ⟨rfl, hr, but_set _ _ _ _⟩
  · have hc' : (c == 0) = false := by simp [hc]
    rw [if_neg hc]
    clear h5
    go_enter Try.func32, Try.ntmps32
    go_wp2
    go_end0
    exact ⟨rfl, h', World.grownBy.refl _ _⟩

set_option maxHeartbeats 400000 in
theorem oCode (w : World) (r : Nat) {l : List UInt8} {c : Int} (h : Rd w r l c) :
    Calls Try.prog 33 #[.pointer (some ⟨r, 0, none⟩)] w fun e w' => e = .returned (.int .i64 c) ∧ w' = w := by
  obtain ⟨a, n, q, h1, h2, h3, h4, h5, h6⟩ := h
  clear h5
  go_enter Try.func33, Try.ntmps33
  go_wp2
  go_ret
  exact ⟨rfl, rfl⟩

set_option maxHeartbeats 400000 in
theorem oLeft (w : World) (r : Nat) {l : List UInt8} {c : Int} (h : Rd w r l c) :
    Calls Try.prog 34 #[.pointer (some ⟨r, 0, none⟩)] w fun e w' => e = .returned (.int .i64 (l.length : Nat)) ∧ w' = w := by
  obtain ⟨a, n, q, h1, h2, h3, h4, h5, h6⟩ := h
  rw [h5.len]
  clear h5
  go_enter Try.func34, Try.ntmps34
  go_wp2
  go_ret
  exact ⟨rfl, rfl⟩

set_option maxHeartbeats 400000 in
theorem oEnd (w : World) (r : Nat) {l : List UInt8} {c : Int} (h : Rd w r l c) :
    Calls Try.prog 35 #[.pointer (some ⟨r, 0, none⟩)] w fun e w' => e = .returned (.int .i64 (if c = 0 ∧ 0 < l.length then 4 else c)) ∧ w' = w := by
  obtain ⟨a, n, q, h1, h2, h3, h4, h5, h6⟩ := h
  rw [h5.len]
  clear h5
  by_cases hc : c = 0
  · subst hc
    by_cases hn : 0 < n
    · rw [if_pos ⟨rfl, hn⟩]
      go_enter Try.func35, Try.ntmps35
      go_wp2
      go_ret
      exact ⟨rfl, rfl⟩
    · rw [if_neg (by omega)]
      have hn' : ¬ (0 : Int) < n := by omega
      go_enter Try.func35, Try.ntmps35
      go_wp2
      go_ret
      exact ⟨rfl, rfl⟩
  · have hc' : (c == 0) = false := by simp [hc]
    rw [if_neg (by omega)]
    go_enter Try.func35, Try.ntmps35
    go_wp2
    go_ret
    exact ⟨rfl, rfl⟩

/-- A slice of one slice of bytes, as it stands in a call with one part. -/
theorem Bss.one {w : World} {a : Option Addr} {n c : Nat} {l : List UInt8} (h : Bs w a n c l) : Bss (w.alloc (.cells #[.slice a n c] 23)) (some ⟨w.heap.size, 0, none⟩) 1 1 [l] := by
  refine ⟨rfl, Nat.le_refl _, by unfold maxLen; omega, fun i hi => ?_⟩
  obtain rfl : i = 0 := by omega
  refine ⟨w.heap.size, 0, a, n, c, rfl, ?_, h.below (below_alloc _ _) (Nat.le_refl _)⟩
  simp

theorem free_new (w : World) (arr : Array Value) (t : TypeId) (i : Nat) : (w.alloc (.cells arr t)).frozen? ⟨w.heap.size, i, none⟩ = false := by
  unfold World.frozen?
  rw [show (w.alloc (.cells arr t)).heap[w.heap.size]? = some (.cells arr t) from by show (w.heap.push _)[w.heap.size]? = _; simp]
  simp
theorem Rd.new {w : World} {base : Nat} {a : Option Addr} {m c : Nat} {l : List UInt8} (h : Own w base (.slice a m c) l) (t : TypeId) : Rd (w.alloc (.cells #[.slice a m c, .int .i64 0] t)) w.heap.size l 0 := by
  refine ⟨a, m, c, by simp, by simp, free_new _ _ _ _, free_new _ _ _ _, h.toBs.below (below_alloc _ _) (Nat.le_refl _), ?_⟩
  intro x hx
  subst hx
  have := (World.ownsRow.lt h x.block rfl).2
  omega
theorem own_flat {w : World} {base : Nat} {v : Value} {l : List UInt8} (h : Own w base v [l].flatten) : Own w base v l := by simpa using h

set_option maxHeartbeats 400000 in
theorem oRead (w : World) {a : Option Addr} {n c : Nat} {l : List UInt8} (h : Bs w a n c l) (hz : n ≤ 100000) :
    Calls Try.prog 25 #[.slice a n c] w fun e w' => ∃ r, e = .returned (.pointer (some ⟨r, 0, none⟩)) ∧ w.heap.size ≤ r ∧ Rd w' r l 0 ∧ Below w.heap.size w w' := by
  have hJ := oJoin _ (Bss.one h) (by simp [tot, h.len]; omega)
  have HJ : Hid (Calls Try.prog 15 #[.slice (some ⟨w.heap.size, 0, none⟩) 1 1] (w.alloc (.cells #[.slice a n c] 23)) (Gives (w.alloc (.cells #[.slice a n c] 23)) [l].flatten)) := hJ
  clear hJ h
  go_enter Try.func25, Try.ntmps25
  go_wp2_with (go_at_call 15; refine HJ.out.mono ?_; rintro e w1 ⟨a1, m1, c1, rfl, ho1, hb1⟩)
  go_ret
  exact ⟨w1.heap.size, rfl, Nat.le_trans (by simp) hb1.size, Rd.new (own_flat ho1) _, ((below_alloc _ _).trans (hb1.mono (by simp))).alloc (Nat.le_trans (by simp) hb1.size) _⟩

set_option maxHeartbeats 1000000 in
theorem oBytes (w : World) (r : Nat) {l : List UInt8} {c : Int} (h : Rd w r l c) (n : Int) (hz : l.length ≤ 100000) (hn : -9223372036854775808 ≤ n) (hn' : n ≤ 9223372036854775807) :
    Calls Try.prog 29 #[.pointer (some ⟨r, 0, none⟩), .int .i64 n] w (Reads w r (rdBytes l c n)) := by
  have h' := h
  obtain ⟨a, m, q, h1, h2, h3, h4, h5, h6⟩ := h
  have hl := h5.len
  have hmax := h5.max
  by_cases hc : c = 0
  · subst hc
    by_cases hb : n < 0 ∨ (m : Int) < n
    · have e : rdBytes l 0 n = (l, 3, []) := by unfold rdBytes; rw [if_neg (by simp), if_pos (by omega)]
      rw [e]
      have hF := oFail w r h' 3
      have HF : Hid (Calls Try.prog 32 #[.pointer (some ⟨r, 0, none⟩), .int .i64 3] w fun e w' => e = .returned (.tuple #[]) ∧ Rd w' r l 3 ∧ w.grownBy w' (some r)) := hF
      clear hF e h' h5 hl
      rcases hb with hb | hb
      · go_enter Try.func29, Try.ntmps29
        go_wp2_with (go_at_call 32; refine HF.out.mono ?_; rintro e w1 ⟨rfl, hr, hg⟩)
        go_ret
        exact ⟨none, 0, 0, rfl, Own.nil _ _, hr, hg⟩
      · have hb' : ¬ n < 0 := by omega
        go_enter Try.func29, Try.ntmps29
        go_wp2_with (go_at_call 32; refine HF.out.mono ?_; rintro e w1 ⟨rfl, hr, hg⟩)
        go_ret
        exact ⟨none, 0, 0, rfl, Own.nil _ _, hr, hg⟩
    · obtain ⟨k, rfl⟩ : ∃ k : Nat, n = k := ⟨n.toNat, by omega⟩
      have hk : k ≤ m := by omega
      have e : rdBytes l 0 k = (l.drop k, 0, l.take k) := by unfold rdBytes; rw [if_neg (by simp), if_neg (by omega)]; simp
      rw [e]
      obtain ⟨s1, s2⟩ := h5.cutHigh k hk
      obtain ⟨a2, q2, t1, t2, t3⟩ := h5.cutLow k hk
      have hJ := oJoin _ (Bss.one (s2 w h5)) (by simp [tot]; omega)
      have HJ : Hid (Calls Try.prog 15 #[.slice (some ⟨w.heap.size, 0, none⟩) 1 1] (w.alloc (.cells #[.slice a k q] 23)) (Gives (w.alloc (.cells #[.slice a k q] 23)) [l.take k].flatten)) := hJ
      have T2 : Hid (∀ w, Bs w a m q l → Bs w a2 (m - k) q2 (l.drop k)) := t2
      have T3 : Hid (∀ x, a2 = some x → ∃ y, a = some y ∧ x.block = y.block) := t3
      have hW : Hid (∀ w1, Below (w.alloc (.cells #[.slice a k q] 23)).heap.size (w.alloc (.cells #[.slice a k q] 23)) w1 → Below w.heap.size w w1) := fun w1 hb1 => (below_alloc _ _).trans (hb1.mono (by simp))
      have h0 : ¬ (k : Int) < 0 := by omega
      have h00 : ¬ (m : Int) < k := by omega
      have hlt := h'.lt
      have H' : Hid (Rd w r l 0) := h'
      have H5 : Hid (Bs w a m q l) := h5
      clear hJ t2 t3 s2 e h5 h' hl hb
      go_enter Try.func29, Try.ntmps29
      go_wp2_with (go_at_call 15; refine HJ.out.mono ?_; rintro e w1 ⟨a1, m1, c1, rfl, ho1, hb1⟩; have g0 := (hW.out w1 hb1).cell (p := ⟨r, 0, none⟩) hlt; have g1 := (hW.out w1 hb1).frozen (p := ⟨r, 0, none⟩) hlt; rw [h1] at g0; rw [h3] at g1)
      go_ret
      have hb := hW.out w1 hb1
      exact ⟨a1, m1, c1, rfl, ownsRow_setCell_below ((own_flat ho1).mono (by simp)) (by simpa using hlt) _, (H'.out.below hb (Nat.le_refl _)).setRest (T2.out w1 (H5.out.below hb (Nat.le_refl _))) (fun x hx => by obtain ⟨y, hy, e⟩ := T3.out x hx; rw [e]; exact h6 y hy), but_trans (but_of_below hb) (but_set _ _ _ _)⟩
  · have hc' : (c == 0) = false := by simp [hc]
    have e : rdBytes l c n = (l, c, []) := by unfold rdBytes; rw [if_pos hc]
    rw [e]
    clear h5 e hl
    go_enter Try.func29, Try.ntmps29
    go_wp2
    go_ret
    exact ⟨none, 0, 0, rfl, Own.nil _ _, h', World.grownBy.refl _ _⟩

set_option maxHeartbeats 400000 in
theorem oNumber (w : World) (r : Nat) {l : List UInt8} {c : Int} (h : Rd w r l c) (n : Int) (hz : l.length ≤ 100000) (hn : -9223372036854775808 ≤ n) (hn' : n ≤ 9223372036854775807) :
    Calls Try.prog 27 #[.pointer (some ⟨r, 0, none⟩), .int .i64 n] w fun e w' => e = .returned (.int .u64 (getN (rdBytes l c n).2.2 : Nat)) ∧ Rd w' r (rdBytes l c n).1 (rdBytes l c n).2.1 ∧ w.grownBy w' (some r) := by
  have hB : Hid (Calls Try.prog 29 #[.pointer (some ⟨r, 0, none⟩), .int .i64 n] w (Reads w r (rdBytes l c n))) := oBytes w r h n hz hn hn'
  clear h
  generalize rdBytes l c n = s at *
  go_enter Try.func27, Try.ntmps27
  go_wp2_with (first | (go_at_call 29; refine hB.out.mono ?_; rintro e w1 ⟨a1, m1, c1, rfl, ho1, hr1, hg1⟩) | (go_at_call 12; refine (oGet _ ho1.toBs).mono ?_; rintro e w2 ⟨rfl, rfl⟩))
  go_ret
  exact ⟨rfl, hr1, hg1⟩

theorem rdBytes_len (l : List UInt8) (c n : Int) (h : l.length ≤ 100000) : (rdBytes l c n).1.length ≤ 100000 := by
  unfold rdBytes
  split
  · exact h
  · split
    · exact h
    · simp; omega

set_option maxHeartbeats 1000000 in
theorem oText (w : World) (r : Nat) {l : List UInt8} {c : Int} (h : Rd w r l c) (n most : Int) (hz : l.length ≤ 100000) (hn : -9223372036854775808 ≤ n) (hn' : n ≤ 9223372036854775807) (hm : -9223372036854775808 ≤ most) (hm' : most ≤ 9223372036854775807) :
    Calls Try.prog 31 #[.pointer (some ⟨r, 0, none⟩), .int .i64 n, .int .i64 most] w (Reads w r (rdText l c n most)) := by
  have hB := oNumber w r h n hz hn hn'
  have hlen := rdBytes_len l c n hz
  clear h
  unfold rdText
  dsimp only
  generalize rdBytes l c n = s at *
  obtain ⟨l1, c1, b⟩ := s
  dsimp only at *
  have hg := getN_lt b
  generalize getN b = g at *
  have HB : Hid (Calls Try.prog 27 #[.pointer (some ⟨r, 0, none⟩), .int .i64 n] w fun e w' => e = .returned (.int .u64 g) ∧ Rd w' r l1 c1 ∧ w.grownBy w' (some r)) := hB
  have hF := fun w1 (h1 : Rd w1 r l1 c1) => oFail w1 r h1 4
  generalize (if c1 = 0 then (4 : Int) else c1) = c2 at *
  have hF : Hid (∀ w1, Rd w1 r l1 c1 → Calls Try.prog 32 #[.pointer (some ⟨r, 0, none⟩), .int .i64 4] w1 fun e w' => e = .returned (.tuple #[]) ∧ Rd w' r l1 c2 ∧ w1.grownBy w' (some r)) := hF
  have hR : Hid (∀ w1, Rd w1 r l1 c1 → (g : Int) ≤ 9223372036854775807 → Calls Try.prog 29 #[.pointer (some ⟨r, 0, none⟩), .int .i64 g] w1 (Reads w1 r (rdBytes l1 c1 g))) := fun w1 h1 h2 => oBytes w1 r h1 g hlen (by omega) h2
  clear hB
  by_cases h0 : most < 0
  · by_cases hgt : (0 : Int) < g
    · rw [if_pos (by omega)]
      go_enter Try.func31, Try.ntmps31
      go_wp2_with (first | (go_at_call 27; refine HB.out.mono ?_; rintro e w1 ⟨rfl, hr1, hg1⟩) | (go_at_call 32; refine (hF.out _ hr1).mono ?_; rintro e w2 ⟨rfl, hr2, hg2⟩))
      go_ret
      exact ⟨none, 0, 0, rfl, Own.nil _ _, hr2, but_trans hg1 hg2⟩
    · rw [if_neg (by omega)]
      go_enter Try.func31, Try.ntmps31
      go_wp2_with (first | (go_at_call 27; refine HB.out.mono ?_; rintro e w1 ⟨rfl, hr1, hg1⟩) | (go_at_call 29; refine (hR.out _ hr1 (by omega)).mono ?_; rintro e w2 ⟨a2, m2, c2, rfl, ho2, hr2, hg2⟩))
      go_ret
      exact ⟨a2, m2, c2, rfl, ho2.mono hg1.size, hr2, but_trans hg1 hg2⟩
  · by_cases hgt : most < (g : Int)
    · rw [if_pos (by omega)]
      go_enter Try.func31, Try.ntmps31
      go_wp2_with (first | (go_at_call 27; refine HB.out.mono ?_; rintro e w1 ⟨rfl, hr1, hg1⟩) | (go_at_call 32; refine (hF.out _ hr1).mono ?_; rintro e w2 ⟨rfl, hr2, hg2⟩))
      go_ret
      exact ⟨none, 0, 0, rfl, Own.nil _ _, hr2, but_trans hg1 hg2⟩
    · rw [if_neg (by omega)]
      go_enter Try.func31, Try.ntmps31
      go_wp2_with (first | (go_at_call 27; refine HB.out.mono ?_; rintro e w1 ⟨rfl, hr1, hg1⟩) | (go_at_call 29; refine (hR.out _ hr1 (by omega)).mono ?_; rintro e w2 ⟨a2, m2, c2, rfl, ho2, hr2, hg2⟩))
      go_ret
      exact ⟨a2, m2, c2, rfl, ho2.mono hg1.size, hr2, but_trans hg1 hg2⟩
end Go.Proofs.Ytabokdffhomhiaa
