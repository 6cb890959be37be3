/-
  The contracts of the reference's reader: fail, Bytes, Number, Text, End. Condition: at most 100000 bytes.
-/
import Derived.Test.YtabokdffhomhiaaWorks
namespace Go.Proofs.Ytabokdffhomhiaa
open Go.RowKit

set_option maxHeartbeats 400000 in
theorem rFail (w : World) (a : Option Addr) (n q : Nat) (c d : Int) :
    Calls Try.prog 38 #[.agg #[.slice a n q, .int .i64 c], .int .i64 d] w fun e w' => e = .returned (.agg #[.slice a n q, .int .i64 (if c = 0 then d else c)]) ∧ Below w.heap.size w w' := by
  by_cases hc : c = 0
  · subst hc
    rw [if_pos rfl]
    go_enter Try.func38, Try.ntmps38
    go_wp2
    exact bodyPost_ret (v := .agg #[.slice a n q, .int .i64 d]) (by simp [results, Try.results38, go_sem]) rfl ⟨rfl, below3 _ _ _ _⟩
  · have hc' : (c == 0) = false := by simp [hc]
    rw [if_neg hc]
    go_enter Try.func38, Try.ntmps38
    go_wp2
    exact bodyPost_ret (v := .agg #[.slice a n q, .int .i64 c]) (by simp [results, Try.results38, go_sem]) rfl ⟨rfl, below3 _ _ _ _⟩

set_option maxHeartbeats 400000 in
theorem rEnd (w : World) (a : Option Addr) (n q : Nat) (c : Int) :
    Calls Try.prog 36 #[.agg #[.slice a n q, .int .i64 c]] w fun e w' => e = .returned (.int .i64 (if c = 0 ∧ 0 < n then 4 else c)) ∧ Below w.heap.size w w' := by
  by_cases hc : c = 0
  · subst hc
    by_cases hn : 0 < n
    · rw [if_pos ⟨rfl, hn⟩]
      go_enter Try.func36, Try.ntmps36
      go_wp2
      go_ret
      exact ⟨rfl, below_alloc _ _⟩
    · rw [if_neg (by omega)]
      have hn' : ¬ (0 : Int) < n := by omega
      go_enter Try.func36, Try.ntmps36
      go_wp2
      go_ret
      exact ⟨rfl, below_alloc _ _⟩
  · have hc' : (c == 0) = false := by simp [hc]
    rw [if_neg (by omega)]
    go_enter Try.func36, Try.ntmps36
    go_wp2
    go_ret
    exact ⟨rfl, below_alloc _ _⟩

/-- A box of two cells, behind what a callee made. -/
theorem box_facts {w : World} {o : Obj} {x y : Value} {t : TypeId} {w1 : World} (hb : Below ((w.alloc o).alloc (.cells #[x, y] t)).heap.size ((w.alloc o).alloc (.cells #[x, y] t)) w1) :
    w1.cell? ⟨w.heap.size + 1, 0, none⟩ = some x ∧ w1.cell? ⟨w.heap.size + 1, 1, none⟩ = some y ∧ w1.frozen? ⟨w.heap.size + 1, 0, none⟩ = false ∧ w1.frozen? ⟨w.heap.size + 1, 1, none⟩ = false ∧ w.heap.size + 1 < w1.heap.size := by
  have hz := hb.size
  rw [size2] at hz hb
  have e : (w.alloc o).heap.size = w.heap.size + 1 := by simp
  refine ⟨?_, ?_, ?_, ?_, by omega⟩
  · rw [hb.cell (p := ⟨w.heap.size + 1, 0, none⟩) (by simp), ← e, cell_new]; rfl
  · rw [hb.cell (p := ⟨w.heap.size + 1, 1, none⟩) (by simp), ← e, cell_new]; rfl
  · rw [hb.frozen (p := ⟨w.heap.size + 1, 0, none⟩) (by simp), ← e, free_new]
  · rw [hb.frozen (p := ⟨w.heap.size + 1, 1, none⟩) (by simp), ← e, free_new]
theorem box_below {w : World} {o p : Obj} {w1 : World} (hb : Below ((w.alloc o).alloc p).heap.size ((w.alloc o).alloc p) w1) (u v : Value) : Below w.heap.size w ((w1.setCell ⟨w.heap.size + 1, 0, none⟩ u).setCell ⟨w.heap.size + 1, 1, none⟩ v) :=
  ((((below2 w o p).trans (hb.mono (by rw [size2]; omega))).setCell (p := ⟨w.heap.size + 1, 0, none⟩) (by simp) _).setCell (p := ⟨w.heap.size + 1, 1, none⟩) (by simp) _)

theorem box_read {w1 : World} {b : Nat} {x y : Value} (g0 : w1.cell? ⟨b, 0, none⟩ = some x) (g1 : w1.cell? ⟨b, 1, none⟩ = some y) (u v : Value) :
    ((w1.setCell ⟨b, 0, none⟩ u).setCell ⟨b, 1, none⟩ v).cell? ⟨b, 0, none⟩ = some u ∧ ((w1.setCell ⟨b, 0, none⟩ u).setCell ⟨b, 1, none⟩ v).cell? ⟨b, 1, none⟩ = some v := by
  have h0 := cell_set (i := 0) (v := u) g0
  have h1 := cell_set (i := 0) (v := u) g1
  have h2 := cell_set (i := 1) (v := v) h0
  have h3 := cell_set (i := 1) (v := v) h1
  exact ⟨by simpa using h2, by simpa using h3⟩

theorem box_past {w1 : World} {b i j k : Nat} {x u v : Value} (h : ((w1.setCell ⟨b, i, none⟩ u).setCell ⟨b, j, none⟩ v).cell? ⟨b, k, none⟩ = some x) (o : Obj) (_hb : b < w1.heap.size) :
    ((((w1.setCell ⟨b, i, none⟩ u).setCell ⟨b, j, none⟩ v).alloc o).drew).cell? ⟨b, k, none⟩ = some x := by
  rw [((below_alloc ((w1.setCell ⟨b, i, none⟩ u).setCell ⟨b, j, none⟩ v) o).drew).cell (p := ⟨b, k, none⟩) (lt_of_cell h)]
  exact h

/-- What a read of the reference's leaves. -/
def RefReads (w : World) (a : Option Addr) (n q : Nat) (l : List UInt8) (s : List UInt8 × Int × List UInt8) (e : Ending) (w' : World) : Prop :=
  ∃ a' n' q' a2 n2 q2, e = .returned (.tuple #[.agg #[.slice a' n' q', .int .i64 s.2.1], .slice a2 n2 q2]) ∧ (∀ W, Bs W a n q l → Bs W a' n' q' s.1 ∧ Bs W a2 n2 q2 s.2.2) ∧ Below w.heap.size w w'

set_option maxHeartbeats 1000000 in
theorem rBytes (w : World) {a : Option Addr} {n q : Nat} {l : List UInt8} (hb : Bs w a n q l) (c k : Int) (hk : -9223372036854775808 ≤ k) (hk' : k ≤ 9223372036854775807) :
    Calls Try.prog 28 #[.agg #[.slice a n q, .int .i64 c], .int .i64 k] w (RefReads w a n q l (rdBytes l c k)) := by
  have hl := hb.len
  have hmax := hb.max
  by_cases hc : c = 0
  · subst hc
    by_cases hn : k < 0 ∨ (n : Int) < k
    · have e : rdBytes l 0 k = (l, 3, []) := by unfold rdBytes; rw [if_neg (by simp), if_pos (by omega)]
      rw [e]
      have hF : Hid (∀ w1, Calls Try.prog 38 #[.agg #[.slice a n q, .int .i64 0], .int .i64 3] w1 fun e w' => e = .returned (.agg #[.slice a n q, .int .i64 3]) ∧ Below w1.heap.size w1 w') := fun w1 => rFail w1 a n q 0 3
      clear e
      rcases hn with hn | hn
      · go_enter Try.func28, Try.ntmps28
        go_wp2_with (go_at_call 38; refine (hF.out _).mono ?_; rintro e w1 ⟨rfl, hb1⟩; obtain ⟨g0, g1, f0, f1, g2⟩ := box_facts hb1)
        obtain ⟨r0, r1⟩ := box_read g0 g1 (.slice a n q) (.int .i64 3)
        exact bodyPost_ret (v := .tuple #[.agg #[.slice a n q, .int .i64 3], .slice none 0 0]) (by simp [results, Try.results28, go_sem, r0, r1]) rfl ⟨a, n, q, none, 0, 0, rfl, fun W h => ⟨h, Bs.nil W⟩, box_below hb1 _ _⟩
      · have hn' : ¬ k < 0 := by omega
        go_enter Try.func28, Try.ntmps28
        go_wp2_with (go_at_call 38; refine (hF.out _).mono ?_; rintro e w1 ⟨rfl, hb1⟩; obtain ⟨g0, g1, f0, f1, g2⟩ := box_facts hb1)
        obtain ⟨r0, r1⟩ := box_read g0 g1 (.slice a n q) (.int .i64 3)
        exact bodyPost_ret (v := .tuple #[.agg #[.slice a n q, .int .i64 3], .slice none 0 0]) (by simp [results, Try.results28, go_sem, r0, r1]) rfl ⟨a, n, q, none, 0, 0, rfl, fun W h => ⟨h, Bs.nil W⟩, box_below hb1 _ _⟩
    · obtain ⟨m, rfl⟩ : ∃ m : Nat, k = m := ⟨k.toNat, by omega⟩
      have hm : m ≤ n := by omega
      have e : rdBytes l 0 m = (l.drop m, 0, l.take m) := by unfold rdBytes; rw [if_neg (by simp), if_neg (by omega)]; simp
      rw [e]
      obtain ⟨s1, s2⟩ := hb.cutHigh m hm
      obtain ⟨a2, q2, t1, t2, t3⟩ := hb.cutLow m hm
      have T : Hid (∀ W, Bs W a n q l → Bs W a2 (n - m) q2 (l.drop m) ∧ Bs W a m q (l.take m)) := fun W h => ⟨t2 W h, s2 W h⟩
      have h0 : ¬ (m : Int) < 0 := by omega
      have h00 : ¬ (n : Int) < m := by omega
      clear t2 t3 s2 e hb hl hn
      go_enter Try.func28, Try.ntmps28
      go_wp2_with fail
      go_region
      all_goals go_wp2
      exact bodyPost_ret (v := .tuple #[.agg #[.slice a2 (n - m) q2, .int .i64 0], .slice a m q]) (by simp [results, Try.results28, go_sem]) rfl ⟨a2, n - m, q2, a, m, q, rfl, T.out, (below2 _ _ _).drew⟩
  · have hc' : (c == 0) = false := by simp [hc]
    have e : rdBytes l c k = (l, c, []) := by unfold rdBytes; rw [if_pos hc]
    rw [e]
    clear e
    go_enter Try.func28, Try.ntmps28
    go_wp2_with fail
    refine bodyPost_ret (v := .tuple #[.agg #[.slice a n q, .int .i64 c], .slice none 0 0]) (by simp [results, Try.results28, go_sem]) rfl ⟨a, n, q, none, 0, 0, rfl, fun W h => ⟨h, Bs.nil W⟩, ?_⟩
    exact below2 _ _ _

set_option maxHeartbeats 1000000 in
theorem rNumber (w : World) {a : Option Addr} {n q : Nat} {l : List UInt8} (hb : Bs w a n q l) (c k : Int) (hk : -9223372036854775808 ≤ k) (hk' : k ≤ 9223372036854775807) :
    Calls Try.prog 26 #[.agg #[.slice a n q, .int .i64 c], .int .i64 k] w fun e w' => ∃ a' n' q', e = .returned (.tuple #[.agg #[.slice a' n' q', .int .i64 (rdBytes l c k).2.1], .int .u64 (getN (rdBytes l c k).2.2 : Nat)]) ∧ (∀ W, Bs W a n q l → Bs W a' n' q' (rdBytes l c k).1) ∧ Below w.heap.size w w' := by
  have hB : Hid (∀ w1, Below w.heap.size w w1 → Calls Try.prog 28 #[.agg #[.slice a n q, .int .i64 c], .int .i64 k] w1 (RefReads w1 a n q l (rdBytes l c k))) := fun w1 h1 => rBytes w1 (hb.below h1 (Nat.le_refl _)) c k hk hk'
  have HB : Hid (Bs w a n q l) := hb
  clear hb
  generalize rdBytes l c k = s at *
  go_enter Try.func26, Try.ntmps26
  go_wp2_with fail
  refine (hB.out _ (below2 _ _ _)).mono ?_
  rintro e w1 ⟨a', n', q', a2, n2, q2, rfl, hT, hb1⟩
  obtain ⟨g0, g1, f0, f1, g2⟩ := box_facts hb1
  have b1 : Hid (Below w.heap.size w w1) := (below2 _ _ _).trans (hb1.mono (by rw [size2]; omega))
  have HT : Hid (∀ W, Bs W a n q l → Bs W a' n' q' s.1 ∧ Bs W a2 n2 q2 s.2.2) := hT
  clear hT hB
  have hG : Hid (∀ o, Bs (w1.alloc o).drew a2 n2 q2 s.2.2) := fun o => (HT.out _ (HB.out.below ((b1.out.alloc b1.out.size o).drew) (Nat.le_refl _))).2
  go_wp2_with fail
  go_region_with (go_at_call 13; refine (rGet _ (hG.out _)).mono ?_; rintro e w2 ⟨rfl, rfl⟩)
  all_goals go_wp2
  all_goals
    obtain ⟨r0, r1⟩ := box_read g0 g1 (.slice a' n' q') (.int .i64 s.2.1)
    refine bodyPost_ret (v := .tuple #[.agg #[.slice a' n' q', .int .i64 s.2.1], .int .u64 (getN s.2.2 : Nat)]) (by simp [results, Try.results26, go_sem, Act.put, box_past r0 _ g2, box_past r1 _ g2]) rfl ⟨a', n', q', rfl, fun W h => (HT.out W h).1, ?_⟩
    exact (((b1.out.setCell (p := ⟨w.heap.size + 1, 0, none⟩) (by simp) _).setCell (p := ⟨w.heap.size + 1, 1, none⟩) (by simp) _).alloc (by simpa using b1.out.size) _).drew
end Go.Proofs.Ytabokdffhomhiaa
