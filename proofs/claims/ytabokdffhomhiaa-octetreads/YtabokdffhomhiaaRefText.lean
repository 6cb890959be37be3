/-
  The contract of the reference's Text. No condition but that the numbers fit their kinds.
-/
import Derived.Test.YtabokdffhomhiaaRefReader
namespace Go.Proofs.Ytabokdffhomhiaa
open Go.RowKit

theorem box_later {w1 w2 : World} {b : Nat} {x y : Value} (hb : Below w1.heap.size w1 w2) (g0 : w1.cell? ⟨b, 0, none⟩ = some x) (g1 : w1.cell? ⟨b, 1, none⟩ = some y) (f0 : w1.frozen? ⟨b, 0, none⟩ = false) (f1 : w1.frozen? ⟨b, 1, none⟩ = false) :
    w2.cell? ⟨b, 0, none⟩ = some x ∧ w2.cell? ⟨b, 1, none⟩ = some y ∧ w2.frozen? ⟨b, 0, none⟩ = false ∧ w2.frozen? ⟨b, 1, none⟩ = false ∧ b < w2.heap.size := by
  have hlt : b < w1.heap.size := lt_of_cell g0
  refine ⟨?_, ?_, ?_, ?_, Nat.lt_of_lt_of_le hlt hb.size⟩
  · rw [hb.cell (p := ⟨b, 0, none⟩) hlt]; exact g0
  · rw [hb.cell (p := ⟨b, 1, none⟩) hlt]; exact g1
  · rw [hb.frozen (p := ⟨b, 0, none⟩) hlt]; exact f0
  · rw [hb.frozen (p := ⟨b, 1, none⟩) hlt]; exact f1

theorem rdBytes_none {l : List UInt8} {c n : Int} (h : (rdBytes l c n).2.1 ≠ 0) : (rdBytes l c n).2.2 = [] := by
  unfold rdBytes at *
  by_cases h1 : c ≠ 0
  · rw [if_pos h1]
  · rw [if_neg h1] at h ⊢
    by_cases h2 : n < 0 ∨ (l.length : Int) < n
    · rw [if_pos h2]
    · rw [if_neg h2] at h
      simp at h

theorem past_alloc {w u v : World} {o : Obj} (h : Below w.heap.size w u) (k : Below (u.alloc o).heap.size (u.alloc o) v) : Below u.heap.size u v ∧ Below w.heap.size w v := by
  have h1 : Below u.heap.size u v := (below_alloc _ _).trans (k.mono (by simp))
  exact ⟨h1, h.trans (h1.mono h.size)⟩

theorem box_past' {w : World} {p : Addr} {x : Value} (h : w.cell? p = some x) (o : Obj) : (w.alloc o).cell? p = some x := by
  rw [(below_alloc w o).cell (p := p) (lt_of_cell h)]
  exact h

set_option maxHeartbeats 4000000 in
theorem rText (w : World) {a : Option Addr} {n q : Nat} {l : List UInt8} (hb : Bs w a n q l) (c k most : Int) (hk : -9223372036854775808 ≤ k) (hk' : k ≤ 9223372036854775807) (hm : -9223372036854775808 ≤ most) (hm' : most ≤ 9223372036854775807) :
    Calls Try.prog 30 #[.agg #[.slice a n q, .int .i64 c], .int .i64 k, .int .i64 most] w (RefReads w a n q l (rdText l c k most)) := by
  have hN := fun w1 (h1 : Below w.heap.size w w1) => rNumber w1 (hb.below h1 (Nat.le_refl _)) c k hk hk'
  have hno := @rdBytes_none l c k
  have HB : Hid (Bs w a n q l) := hb
  clear hb
  unfold rdText
  dsimp only
  generalize rdBytes l c k = s at *
  obtain ⟨l1, c1, b⟩ := s
  dsimp only at *
  have hg := getN_lt b
  have hgn : c1 ≠ 0 → getN b = 0 := fun h => by rw [hno h]; rfl
  generalize getN b = g at *
  have HN : Hid (∀ w1, Below w.heap.size w w1 → Calls Try.prog 26 #[.agg #[.slice a n q, .int .i64 c], .int .i64 k] w1 fun e w' => ∃ a' n' q', e = .returned (.tuple #[.agg #[.slice a' n' q', .int .i64 c1], .int .u64 g]) ∧ (∀ W, Bs W a n q l → Bs W a' n' q' l1) ∧ Below w1.heap.size w1 w') := hN
  clear hN hno
  by_cases hc : c1 = 0
  · subst hc
    rw [if_pos rfl]
    clear hgn
    by_cases h0 : most < 0
    · by_cases hgt : (0 : Int) < g
      · rw [if_pos (by omega)]
        go_enter Try.func30, Try.ntmps30
        go_wp2_with fail
        refine (HN.out _ (below2 _ _ _)).mono ?_
        rintro e w1 ⟨a', n', q', rfl, hT, hb1⟩
        obtain ⟨g0, g1, f0, f1, g2⟩ := box_facts hb1
        have b1 : Hid (Below w.heap.size w w1) := (below2 _ _ _).trans (hb1.mono (by rw [size2]; omega))
        have HT : Hid (∀ W, Bs W a n q l → Bs W a' n' q' l1) := hT
        clear hT HN hb1
        go_wp2_with fail
        refine (rFail _ a' n' q' 0 4).mono ?_
        rintro e w2 ⟨rfl, hb2⟩
        rw [if_pos rfl]
        obtain ⟨p1, p2⟩ := past_alloc b1.out hb2
        obtain ⟨g0', g1', f0', f1', g2'⟩ := box_later p1 g0 g1 f0 f1
        clear g0 g1 f0 f1 g2 hb2
        go_wp2_with fail
        obtain ⟨r0, r1⟩ := box_read g0' g1' (.slice a' n' q') (.int .i64 4)
        refine bodyPost_ret (v := .tuple #[.agg #[.slice a' n' q', .int .i64 4], .slice none 0 0]) (by simp [results, Try.results30, go_sem, r0, r1]) rfl ⟨a', n', q', none, 0, 0, rfl, fun W h => ⟨HT.out W h, Bs.nil W⟩, ?_⟩
        exact (p2.setCell (p := ⟨w.heap.size + 1, 0, none⟩) (by simp) _).setCell (p := ⟨w.heap.size + 1, 1, none⟩) (by simp) _
      · rw [if_neg (by omega)]
        go_enter Try.func30, Try.ntmps30
        go_wp2_with fail
        refine (HN.out _ (below2 _ _ _)).mono ?_
        rintro e w1 ⟨a', n', q', rfl, hT, hb1⟩
        obtain ⟨g0, g1, f0, f1, g2⟩ := box_facts hb1
        have b1 : Hid (Below w.heap.size w w1) := (below2 _ _ _).trans (hb1.mono (by rw [size2]; omega))
        have HT : Hid (∀ W, Bs W a n q l → Bs W a' n' q' l1) := hT
        clear hT HN hb1
        go_wp2_with fail
        refine (rBytes _ (HT.out _ (HB.out.below (b1.out.alloc b1.out.size _) (Nat.le_refl _))) 0 g (by omega) (by omega)).mono ?_
        rintro e w2 ⟨a3, n3, q3, a4, n4, q4, rfl, hT2, hb2⟩
        obtain ⟨p1, p2⟩ := past_alloc b1.out hb2
        obtain ⟨g0', g1', f0', f1', g2'⟩ := box_later p1 g0 g1 f0 f1
        have HT2 : Hid (∀ W, Bs W a' n' q' l1 → Bs W a3 n3 q3 (rdBytes l1 0 g).1 ∧ Bs W a4 n4 q4 (rdBytes l1 0 g).2.2) := hT2
        clear g0 g1 f0 f1 g2 hb2 hT2
        generalize rdBytes l1 0 g = s at *
        go_wp2_with fail
        obtain ⟨r0, r1⟩ := box_read g0' g1' (.slice a3 n3 q3) (.int .i64 s.2.1)
        refine bodyPost_ret (v := .tuple #[.agg #[.slice a3 n3 q3, .int .i64 s.2.1], .slice a4 n4 q4]) (by simp [results, Try.results30, go_sem, r0, r1]) rfl ⟨a3, n3, q3, a4, n4, q4, rfl, fun W h => HT2.out W (HT.out W h), ?_⟩
        exact (p2.setCell (p := ⟨w.heap.size + 1, 0, none⟩) (by simp) _).setCell (p := ⟨w.heap.size + 1, 1, none⟩) (by simp) _
    · by_cases hgt : most < (g : Int)
      · rw [if_pos (by omega)]
        go_enter Try.func30, Try.ntmps30
        go_wp2_with fail
        refine (HN.out _ (below2 _ _ _)).mono ?_
        rintro e w1 ⟨a', n', q', rfl, hT, hb1⟩
        obtain ⟨g0, g1, f0, f1, g2⟩ := box_facts hb1
        have b1 : Hid (Below w.heap.size w w1) := (below2 _ _ _).trans (hb1.mono (by rw [size2]; omega))
        have HT : Hid (∀ W, Bs W a n q l → Bs W a' n' q' l1) := hT
        clear hT HN hb1
        go_wp2_with fail
        refine (rFail _ a' n' q' 0 4).mono ?_
        rintro e w2 ⟨rfl, hb2⟩
        rw [if_pos rfl]
        obtain ⟨p1, p2⟩ := past_alloc b1.out hb2
        obtain ⟨g0', g1', f0', f1', g2'⟩ := box_later p1 g0 g1 f0 f1
        clear g0 g1 f0 f1 g2 hb2
        go_wp2_with fail
        obtain ⟨r0, r1⟩ := box_read g0' g1' (.slice a' n' q') (.int .i64 4)
        refine bodyPost_ret (v := .tuple #[.agg #[.slice a' n' q', .int .i64 4], .slice none 0 0]) (by simp [results, Try.results30, go_sem, r0, r1]) rfl ⟨a', n', q', none, 0, 0, rfl, fun W h => ⟨HT.out W h, Bs.nil W⟩, ?_⟩
        exact (p2.setCell (p := ⟨w.heap.size + 1, 0, none⟩) (by simp) _).setCell (p := ⟨w.heap.size + 1, 1, none⟩) (by simp) _
      · rw [if_neg (by omega)]
        go_enter Try.func30, Try.ntmps30
        go_wp2_with fail
        refine (HN.out _ (below2 _ _ _)).mono ?_
        rintro e w1 ⟨a', n', q', rfl, hT, hb1⟩
        obtain ⟨g0, g1, f0, f1, g2⟩ := box_facts hb1
        have b1 : Hid (Below w.heap.size w w1) := (below2 _ _ _).trans (hb1.mono (by rw [size2]; omega))
        have HT : Hid (∀ W, Bs W a n q l → Bs W a' n' q' l1) := hT
        clear hT HN hb1
        go_wp2_with fail
        refine (rBytes _ (HT.out _ (HB.out.below (b1.out.alloc b1.out.size _) (Nat.le_refl _))) 0 g (by omega) (by omega)).mono ?_
        rintro e w2 ⟨a3, n3, q3, a4, n4, q4, rfl, hT2, hb2⟩
        obtain ⟨p1, p2⟩ := past_alloc b1.out hb2
        obtain ⟨g0', g1', f0', f1', g2'⟩ := box_later p1 g0 g1 f0 f1
        have HT2 : Hid (∀ W, Bs W a' n' q' l1 → Bs W a3 n3 q3 (rdBytes l1 0 g).1 ∧ Bs W a4 n4 q4 (rdBytes l1 0 g).2.2) := hT2
        clear g0 g1 f0 f1 g2 hb2 hT2
        generalize rdBytes l1 0 g = s at *
        go_wp2_with fail
        obtain ⟨r0, r1⟩ := box_read g0' g1' (.slice a3 n3 q3) (.int .i64 s.2.1)
        refine bodyPost_ret (v := .tuple #[.agg #[.slice a3 n3 q3, .int .i64 s.2.1], .slice a4 n4 q4]) (by simp [results, Try.results30, go_sem, r0, r1]) rfl ⟨a3, n3, q3, a4, n4, q4, rfl, fun W h => HT2.out W (HT.out W h), ?_⟩
        exact (p2.setCell (p := ⟨w.heap.size + 1, 0, none⟩) (by simp) _).setCell (p := ⟨w.heap.size + 1, 1, none⟩) (by simp) _
  · have hc' : (c1 == 0) = false := by simp [hc]
    have hg0 := hgn hc
    subst hg0
    rw [if_neg (by omega)]
    have e : rdBytes l1 c1 (0 : Nat) = (l1, c1, []) := by unfold rdBytes; rw [if_pos hc]
    rw [e]
    clear e hgn hg
    by_cases h0 : most < 0
    · go_enter Try.func30, Try.ntmps30
      go_wp2_with fail
      refine (HN.out _ (below2 _ _ _)).mono ?_
      rintro e w1 ⟨a', n', q', rfl, hT, hb1⟩
      obtain ⟨g0, g1, f0, f1, g2⟩ := box_facts hb1
      have b1 : Hid (Below w.heap.size w w1) := (below2 _ _ _).trans (hb1.mono (by rw [size2]; omega))
      have HT : Hid (∀ W, Bs W a n q l → Bs W a' n' q' l1) := hT
      clear hT HN hb1
      go_wp2_with fail
      obtain ⟨r0, r1⟩ := box_read g0 g1 (.slice a' n' q') (.int .i64 c1)
      refine bodyPost_ret (v := .tuple #[.agg #[.slice a' n' q', .int .i64 c1], .slice none 0 0]) (by simp [results, Try.results30, go_sem, box_past' r0, box_past' r1]) rfl ⟨a', n', q', none, 0, 0, rfl, fun W h => ⟨HT.out W h, Bs.nil W⟩, ?_⟩
      exact ((b1.out.setCell (p := ⟨w.heap.size + 1, 0, none⟩) (by simp) _).setCell (p := ⟨w.heap.size + 1, 1, none⟩) (by simp) _).alloc (by simpa using b1.out.size) _
    · go_enter Try.func30, Try.ntmps30
      go_wp2_with fail
      refine (HN.out _ (below2 _ _ _)).mono ?_
      rintro e w1 ⟨a', n', q', rfl, hT, hb1⟩
      obtain ⟨g0, g1, f0, f1, g2⟩ := box_facts hb1
      have b1 : Hid (Below w.heap.size w w1) := (below2 _ _ _).trans (hb1.mono (by rw [size2]; omega))
      have HT : Hid (∀ W, Bs W a n q l → Bs W a' n' q' l1) := hT
      clear hT HN hb1
      go_wp2_with fail
      obtain ⟨r0, r1⟩ := box_read g0 g1 (.slice a' n' q') (.int .i64 c1)
      refine bodyPost_ret (v := .tuple #[.agg #[.slice a' n' q', .int .i64 c1], .slice none 0 0]) (by simp [results, Try.results30, go_sem, box_past' r0, box_past' r1]) rfl ⟨a', n', q', none, 0, 0, rfl, fun W h => ⟨HT.out W h, Bs.nil W⟩, ?_⟩
      exact ((b1.out.setCell (p := ⟨w.heap.size + 1, 0, none⟩) (by simp) _).setCell (p := ⟨w.heap.size + 1, 1, none⟩) (by simp) _).alloc (by simpa using b1.out.size) _
end Go.Proofs.Ytabokdffhomhiaa
