/-
  3 texts in one. No statement of the seat is proved here.
-/
import Derived.Test.YtbifikeecmaakaaG31
import Derived.Deep.CutBlock
/-
  The contracts of the reference's reader: fail, Bytes, Number, Text, End. Condition: at most 100000 bytes.
-/
namespace Go.Proofs.Ytbifikeecmaakaa
open Go.RowKit

set_option maxHeartbeats 400000 in
theorem rFail (w : World) (a : Option Addr) (n q : Nat) (c d : Int) :
    Calls Try.prog 65 #[.agg #[.slice a n q, .int .i64 c], .int .i64 d] w fun e w' => e = .returned (.agg #[.slice a n q, .int .i64 (if c = 0 then d else c)]) ∧ Below w.heap.size w w' := by
  by_cases hc : c = 0
  · subst hc
    rw [if_pos rfl]
    go_enter Try.func65, Try.ntmps65
    go_wp2
    exact bodyPost_ret (v := .agg #[.slice a n q, .int .i64 d]) (by simp [results, Try.results65, go_sem]) rfl ⟨rfl, below3 _ _ _ _⟩
  · have hc' : (c == 0) = false := by simp [hc]
    rw [if_neg hc]
    go_enter Try.func65, Try.ntmps65
    go_wp2
    exact bodyPost_ret (v := .agg #[.slice a n q, .int .i64 c]) (by simp [results, Try.results65, go_sem]) rfl ⟨rfl, below3 _ _ _ _⟩

/-- A box of two cells, behind what a callee made. -/
theorem box_facts {w : World} {o : Obj} {x y : Value} {t : TypeId} {w1 : World} (hb : Below ((w.alloc o).alloc (.cells #[x, y] t)).heap.size ((w.alloc o).alloc (.cells #[x, y] t)) w1) :
    w1.cell? ⟨w.heap.size + 1, 0, none⟩ = some x ∧ w1.cell? ⟨w.heap.size + 1, 1, none⟩ = some y ∧ w1.frozen? ⟨w.heap.size + 1, 0, none⟩ = false ∧ w1.frozen? ⟨w.heap.size + 1, 1, none⟩ = false ∧ w.heap.size + 1 < w1.heap.size := by
  have hz := hb.size
  rw [size2] at hz hb
  have e : (w.alloc o).heap.size = w.heap.size + 1 := by simp
  refine ⟨?_, ?_, ?_, ?_, by omega⟩
  · rw [hb.cell (p := ⟨w.heap.size + 1, 0, none⟩) (by simp), ← e, cell_new]; rfl
  · rw [hb.cell (p := ⟨w.heap.size + 1, 1, none⟩) (by simp), ← e, cell_new]; rfl
  · rw [hb.frozen (p := ⟨w.heap.size + 1, 0, none⟩) (by simp), ← e, free_new]
  · rw [hb.frozen (p := ⟨w.heap.size + 1, 1, none⟩) (by simp), ← e, free_new]
theorem box_below {w : World} {o p : Obj} {w1 : World} (hb : Below ((w.alloc o).alloc p).heap.size ((w.alloc o).alloc p) w1) (u v : Value) : Below w.heap.size w ((w1.setCell ⟨w.heap.size + 1, 0, none⟩ u).setCell ⟨w.heap.size + 1, 1, none⟩ v) :=
  ((((below2 w o p).trans (hb.mono (by rw [size2]; omega))).setCell (p := ⟨w.heap.size + 1, 0, none⟩) (by simp) _).setCell (p := ⟨w.heap.size + 1, 1, none⟩) (by simp) _)

theorem box_read {w1 : World} {b : Nat} {x y : Value} (g0 : w1.cell? ⟨b, 0, none⟩ = some x) (g1 : w1.cell? ⟨b, 1, none⟩ = some y) (u v : Value) :
    ((w1.setCell ⟨b, 0, none⟩ u).setCell ⟨b, 1, none⟩ v).cell? ⟨b, 0, none⟩ = some u ∧ ((w1.setCell ⟨b, 0, none⟩ u).setCell ⟨b, 1, none⟩ v).cell? ⟨b, 1, none⟩ = some v := by
  have h0 := cell_set (i := 0) (v := u) g0
  have h1 := cell_set (i := 0) (v := u) g1
  have h2 := cell_set (i := 1) (v := v) h0
  have h3 := cell_set (i := 1) (v := v) h1
  exact ⟨by simpa using h2, by simpa using h3⟩

theorem box_past {w1 : World} {b i j k : Nat} {x u v : Value} (h : ((w1.setCell ⟨b, i, none⟩ u).setCell ⟨b, j, none⟩ v).cell? ⟨b, k, none⟩ = some x) (o : Obj) (_hb : b < w1.heap.size) :
    ((((w1.setCell ⟨b, i, none⟩ u).setCell ⟨b, j, none⟩ v).alloc o).drew).cell? ⟨b, k, none⟩ = some x := by
  rw [((below_alloc ((w1.setCell ⟨b, i, none⟩ u).setCell ⟨b, j, none⟩ v) o).drew).cell (p := ⟨b, k, none⟩) (lt_of_cell h)]
  exact h

/-- What a read of the reference's leaves. -/
def RefReads (w : World) (a : Option Addr) (n q : Nat) (l : List UInt8) (s : List UInt8 × Int × List UInt8) (e : Ending) (w' : World) : Prop :=
  ∃ a' n' q' a2 n2 q2, e = .returned (.tuple #[.agg #[.slice a' n' q', .int .i64 s.2.1], .slice a2 n2 q2]) ∧ (∀ W, Bs W a n q l → Bs W a' n' q' s.1 ∧ Bs W a2 n2 q2 s.2.2) ∧ Below w.heap.size w w'

set_option maxHeartbeats 1000000 in
theorem rBytes (w : World) {a : Option Addr} {n q : Nat} {l : List UInt8} (hb : Bs w a n q l) (c k : Int) (hk : -9223372036854775808 ≤ k) (hk' : k ≤ 9223372036854775807) :
    Calls Try.prog 46 #[.agg #[.slice a n q, .int .i64 c], .int .i64 k] w (RefReads w a n q l (rdBytes l c k)) := by
  have hl := hb.len
  have hmax := hb.max
  by_cases hc : c = 0
  · subst hc
    by_cases hn : k < 0 ∨ (n : Int) < k
    · have e : rdBytes l 0 k = (l, 3, []) := by unfold rdBytes; rw [if_neg (by simp), if_pos (by omega)]
      rw [e]
      have hF : Hid (∀ w1, Calls Try.prog 65 #[.agg #[.slice a n q, .int .i64 0], .int .i64 3] w1 fun e w' => e = .returned (.agg #[.slice a n q, .int .i64 3]) ∧ Below w1.heap.size w1 w') := fun w1 => rFail w1 a n q 0 3
      clear e
      rcases hn with hn | hn
      · go_enter Try.func46, Try.ntmps46
        go_wp2_with (go_at_call 65; refine (hF.out _).mono ?_; rintro e w1 ⟨rfl, hb1⟩; obtain ⟨g0, g1, f0, f1, g2⟩ := box_facts hb1)
        obtain ⟨r0, r1⟩ := box_read g0 g1 (.slice a n q) (.int .i64 3)
        exact bodyPost_ret (v := .tuple #[.agg #[.slice a n q, .int .i64 3], .slice none 0 0]) (by simp [results, Try.results46, go_sem, r0, r1]) rfl ⟨a, n, q, none, 0, 0, rfl, fun W h => ⟨h, Bs.nil W⟩, box_below hb1 _ _⟩
      · have hn' : ¬ k < 0 := by omega
        go_enter Try.func46, Try.ntmps46
        go_wp2_with (go_at_call 65; refine (hF.out _).mono ?_; rintro e w1 ⟨rfl, hb1⟩; obtain ⟨g0, g1, f0, f1, g2⟩ := box_facts hb1)
        obtain ⟨r0, r1⟩ := box_read g0 g1 (.slice a n q) (.int .i64 3)
        exact bodyPost_ret (v := .tuple #[.agg #[.slice a n q, .int .i64 3], .slice none 0 0]) (by simp [results, Try.results46, go_sem, r0, r1]) rfl ⟨a, n, q, none, 0, 0, rfl, fun W h => ⟨h, Bs.nil W⟩, box_below hb1 _ _⟩
    · obtain ⟨m, rfl⟩ : ∃ m : Nat, k = m := ⟨k.toNat, by omega⟩
      have hm : m ≤ n := by omega
      have e : rdBytes l 0 m = (l.drop m, 0, l.take m) := by unfold rdBytes; rw [if_neg (by simp), if_neg (by omega)]; simp
      rw [e]
      obtain ⟨s1, s2⟩ := hb.cutHigh m hm
      obtain ⟨a2, q2, t1, t2, t3⟩ := hb.cutLow m hm
      have T : Hid (∀ W, Bs W a n q l → Bs W a2 (n - m) q2 (l.drop m) ∧ Bs W a m q (l.take m)) := fun W h => ⟨t2 W h, s2 W h⟩
      have h0 : ¬ (m : Int) < 0 := by omega
      have h00 : ¬ (n : Int) < m := by omega
      clear t2 t3 s2 e hb hl hn
      go_enter Try.func46, Try.ntmps46
      go_wp2_with fail
      go_region
      all_goals go_wp2
      exact bodyPost_ret (v := .tuple #[.agg #[.slice a2 (n - m) q2, .int .i64 0], .slice a m q]) (by simp [results, Try.results46, go_sem]) rfl ⟨a2, n - m, q2, a, m, q, rfl, T.out, (below2 _ _ _).drew⟩
  · have hc' : (c == 0) = false := by simp [hc]
    have e : rdBytes l c k = (l, c, []) := by unfold rdBytes; rw [if_pos hc]
    rw [e]
    clear e
    go_enter Try.func46, Try.ntmps46
    go_wp2_with fail
    refine bodyPost_ret (v := .tuple #[.agg #[.slice a n q, .int .i64 c], .slice none 0 0]) (by simp [results, Try.results46, go_sem]) rfl ⟨a, n, q, none, 0, 0, rfl, fun W h => ⟨h, Bs.nil W⟩, ?_⟩
    exact below2 _ _ _

set_option maxHeartbeats 1000000 in
theorem rNumber (w : World) {a : Option Addr} {n q : Nat} {l : List UInt8} (hb : Bs w a n q l) (c k : Int) (hk : -9223372036854775808 ≤ k) (hk' : k ≤ 9223372036854775807) :
    Calls Try.prog 48 #[.agg #[.slice a n q, .int .i64 c], .int .i64 k] w fun e w' => ∃ a' n' q', e = .returned (.tuple #[.agg #[.slice a' n' q', .int .i64 (rdBytes l c k).2.1], .int .u64 (getN (rdBytes l c k).2.2 : Nat)]) ∧ (∀ W, Bs W a n q l → Bs W a' n' q' (rdBytes l c k).1) ∧ Below w.heap.size w w' := by
  have hB : Hid (∀ w1, Below w.heap.size w w1 → Calls Try.prog 46 #[.agg #[.slice a n q, .int .i64 c], .int .i64 k] w1 (RefReads w1 a n q l (rdBytes l c k))) := fun w1 h1 => rBytes w1 (hb.below h1 (Nat.le_refl _)) c k hk hk'
  have HB : Hid (Bs w a n q l) := hb
  clear hb
  generalize rdBytes l c k = s at *
  go_enter Try.func48, Try.ntmps48
  go_wp2_with fail
  refine (hB.out _ (below2 _ _ _)).mono ?_
  rintro e w1 ⟨a', n', q', a2, n2, q2, rfl, hT, hb1⟩
  obtain ⟨g0, g1, f0, f1, g2⟩ := box_facts hb1
  have b1 : Hid (Below w.heap.size w w1) := (below2 _ _ _).trans (hb1.mono (by rw [size2]; omega))
  have HT : Hid (∀ W, Bs W a n q l → Bs W a' n' q' s.1 ∧ Bs W a2 n2 q2 s.2.2) := hT
  clear hT hB
  have hG : Hid (∀ o, Bs (w1.alloc o).drew a2 n2 q2 s.2.2) := fun o => (HT.out _ (HB.out.below ((b1.out.alloc b1.out.size o).drew) (Nat.le_refl _))).2
  go_wp2_with fail
  go_region_with (go_at_call 67; refine (rGet _ (hG.out _)).mono ?_; rintro e w2 ⟨rfl, rfl⟩)
  all_goals go_wp2
  all_goals
    obtain ⟨r0, r1⟩ := box_read g0 g1 (.slice a' n' q') (.int .i64 s.2.1)
    refine bodyPost_ret (v := .tuple #[.agg #[.slice a' n' q', .int .i64 s.2.1], .int .u64 (getN s.2.2 : Nat)]) (by simp [results, Try.results48, go_sem, Act.put, box_past r0 _ g2, box_past r1 _ g2]) rfl ⟨a', n', q', rfl, fun W h => (HT.out W h).1, ?_⟩
    exact (((b1.out.setCell (p := ⟨w.heap.size + 1, 0, none⟩) (by simp) _).setCell (p := ⟨w.heap.size + 1, 1, none⟩) (by simp) _).alloc (by simpa using b1.out.size) _).drew
end Go.Proofs.Ytbifikeecmaakaa

/-
  The contracts of layer 14's reference's number and numbers; where the bytes lie that a reader hands on. Condition: none.
-/
namespace Go.Proofs.Ytbifikeecmaakaa
open Go.RowKit

/-- A heap in which block b alone holds something. -/
def onlyB (w : World) (b : Nat) : World := { w with heap := (Array.replicate b (Obj.cells #[] 5)).push (w.heap.getD b (Obj.cells #[] 5)) }
theorem onlyB_self (w : World) {b : Nat} (hb : b < w.heap.size) : (onlyB w b).heap[b]? = w.heap[b]? := by
  have e : (Array.replicate b (Obj.cells #[] 5)).size = b := by simp
  show ((Array.replicate b (Obj.cells #[] 5)).push (w.heap.getD b (Obj.cells #[] 5)))[b]? = _
  rw [Array.getElem?_push, if_pos e.symm]
  simp [hb]
theorem onlyB_other (w : World) {b k i : Nat} (hk : k ≠ b) : (onlyB w b).cell? ⟨k, i, none⟩ = none := by
  unfold World.cell? onlyB
  by_cases h : k < b
  · simp [Array.getElem?_push, h, Nat.ne_of_lt h]
  · have : b + 1 ≤ k := by omega
    simp [Array.getElem?_push, hk, show ¬ k < b from h]
/-- Where bytes lie that are some of others in every memory. -/
theorem Bs.blockOf {a a2 : Option Addr} {n q n2 q2 : Nat} {l l2 : List UInt8} (h : ∀ W, Bs W a n q l → Bs W a2 n2 q2 l2) {w : World} (hw : Bs w a n q l) (hn : 0 < n2) : ∃ x y, a2 = some x ∧ a = some y ∧ x.block = y.block ∧ y.block < w.heap.size := by
  by_cases h0 : 0 < n
  · obtain ⟨b, o, ha, hlt, hc⟩ := hw.at h0
    have hB : Bs (onlyB w b) a n q l := by
      refine ⟨hw.1, hw.2.1, hw.2.2.1, hw.2.2.2.1, fun i hi => ⟨b, o, ha, ?_⟩⟩
      have e : (onlyB w b).cell? ⟨b, o + i, none⟩ = w.cell? ⟨b, o + i, none⟩ := World.cell?_of_block (onlyB_self w hlt)
      rw [e]
      exact hc i hi
    obtain ⟨b2, o2, ha2, hc2⟩ := (h _ hB).2.2.2.2 0 hn
    refine ⟨⟨b2, o2, none⟩, ⟨b, o, none⟩, ha2, ha, ?_, hlt⟩
    by_cases e : b2 = b
    · exact e
    · rw [onlyB_other w e] at hc2
      cases hc2
  · obtain rfl : n = 0 := by omega
    have hB : Bs ({ w with heap := #[] } : World) a 0 q l := ⟨hw.1, hw.2.1, hw.2.2.1, hw.2.2.2.1, fun i hi => by omega⟩
    obtain ⟨b2, o2, ha2, hc2⟩ := (h _ hB).2.2.2.2 0 hn
    have := lt_of_cell hc2
    simp at this
theorem BA.part {A : Nat → Prop} {a a2 : Option Addr} {n q n2 q2 : Nat} {l l2 : List UInt8} (h : ∀ W, Bs W a n q l → Bs W a2 n2 q2 l2) {w : World} (hw : BA A w a n q l) (h0 : n2 = 0 ∨ 0 < n) : BA A w a2 n2 q2 l2 := by
  refine ⟨h w hw.1, fun hn => ?_⟩
  obtain ⟨x, y, hx, hy, e, _⟩ := Bs.blockOf h hw.1 hn
  obtain ⟨z, hz, hA, hlt⟩ := hw.2 (by omega)
  rw [hy] at hz
  obtain rfl := Option.some.inj hz
  exact ⟨x, hx, by rw [e]; exact hA, by rw [e]; exact hlt⟩

/-- The reference's reader. -/
def rrC (a : Option Addr) (n q : Nat) (c : Int) : List Value := [.slice a n q, .int .i64 c]
theorem rr_one (a : Option Addr) (n q : Nat) (c : Int) : ∀ v ∈ rrC a n q c, v.oneCell' = true := by
  intro v hv
  simp only [rrC, List.mem_cons, List.not_mem_nil, or_false] at hv
  rcases hv with rfl | rfl <;> rfl
theorem sizeRR : (Try.prog.info? 90).map (·.size) = some 2 := by kernel_rfl
/-- What number hands back. -/
def NumR (w : World) (a : Option Addr) (n q : Nat) (s : RdS) (e : Ending) (w' : World) : Prop := ∃ a' n' q', e = .returned (.tuple #[.agg (rrC a' n' q' (rN s 8).2).toArray, .int .i64 (cap62 (rV s 8))]) ∧ (∀ W, Bs W a n q s.1 → Bs W a' n' q' (rN s 8).1) ∧ Below w.heap.size w w'
set_option maxRecDepth 100000 in
set_option maxHeartbeats 4000000 in
theorem rNumA (w : World) {a : Option Addr} {n q : Nat} {s : RdS} (hb : Bs w a n q s.1) : Calls Try.prog 66 #[.agg (rrC a n q s.2).toArray] w (NumR w a n q s) := by
  obtain ⟨W0, hW0⟩ : ∃ W0, W0 = (w.alloc (.cells (rrC a n q s.2).toArray 90)).alloc (.cells #[.slice none 0 0, .int .i64 0] 90) := ⟨_, rfl⟩
  have z0 : Blk W0 w.heap.size (rrC a n q s.2) 90 := by rw [hW0]; exact (Blk.newAt w _ _ w.heap.size rfl _ rfl).old _
  have z1 : Blk W0 (w.heap.size + 1) (rrC none 0 0 0) 90 := by rw [hW0]; exact Blk.newAt (w.alloc _) _ _ (w.heap.size + 1) (by simp) _ rfl
  have k0 : Below w.heap.size w W0 := by rw [hW0]; exact below2 _ _ _
  have C : Hid (Calls Try.prog 48 #[.agg (rrC a n q s.2).toArray, .int .i64 8] W0 fun e w' => ∃ a' n' q', e = .returned (.tuple #[.agg (rrC a' n' q' (rN s 8).2).toArray, .int .u64 (rV s 8 : Nat)]) ∧ (∀ W, Bs W a n q s.1 → Bs W a' n' q' (rN s 8).1) ∧ Below W0.heap.size W0 w') := rNumber W0 (hb.below k0 (Nat.le_refl _)) s.2 8 (by decide) (by decide)
  have hlt : rV s 8 < 18446744073709551616 := getN_lt _
  unfold NumR cap62
  clear hb
  generalize rV s 8 = g at *
  generalize rN s 8 = s' at *
  obtain ⟨rv, hrv⟩ : ∃ rv : Int, rv = if 4611686018427387904 < g then 4611686018427387904 else (g : Int) := ⟨_, rfl⟩
  rw [← hrv]
  have HR : Hid (rv = if 4611686018427387904 < g then 4611686018427387904 else (g : Int)) := hrv
  clear hrv
  go_enter Try.func66, Try.ntmps66
  go_wp2_with ((with_reducible refine at_ld 90 ?_); (refine ld 90 (.tmp 1) 2 sizeRR _ Try.underlying90 rfl w.heap.size 0 (rrC a n q s.2) rfl (by rw [← hW0]; exact z0.whole) rfl ?_))
  rw [← hW0]
  clear hW0
  refine C.out.mono ?_
  rintro e w1 ⟨a', n', q', rfl, hT, hb1⟩
  have y1 := z1.below hb1 z1.lt
  have k1 : Below w.heap.size w w1 := k0.trans (hb1.mono k0.size)
  have HT : Hid (∀ W, Bs W a n q s.1 → Bs W a' n' q' s'.1) := hT
  obtain ⟨gr, hgr⟩ : ∃ gr, gr = w1.heap.size := ⟨_, rfl⟩
  have zr : Blk (w1.alloc (.cells #[.slice none 0 0, .int .i64 0] 90)) gr (rrC none 0 0 0) 90 := Blk.newAt w1 _ _ gr hgr.symm _ rfl
  have kr : Below w1.heap.size w1 (w1.alloc (.cells #[.slice none 0 0, .int .i64 0] 90)) := below_alloc _ _
  clear C hT hb1 z0 z1 k0
  by_cases h2 : 4611686018427387904 < g
  · have HV : Hid (rv = 4611686018427387904) := by show _ = _; rw [HR.out, if_pos h2]
    clear HR
    have i3 : (4611686018427387904 : Int) < (g : Int) := by omega
    go_wp2_with (first
      | ((with_reducible refine at_st 90 ?_); (first | ((refine st' 90 (.tmp 4) (.tmp 9) 2 sizeRR w1.heap.size 0 (rrC a' n' q' s'.2) rfl (rr_one _ _ _ _) (by rw [← hgr]; exact zr.there 0 2 (by simp [rrC])) rfl rfl ?_); intro w2 hw2; have b2 : Blk w2 gr (rrC a' n' q' s'.2) 90 := (by rw [hw2, ← hgr]; exact zr.setsW _ rfl); have k2 : Below w1.heap.size w1 w2 := (by rw [hw2]; exact below_sets (Nat.le_refl _) _ kr 0); have y2 := y1.below k2 y1.lt; clear hw2) | ((refine st' 90 (.tmp 2) (.tmp 13) 2 sizeRR (w.heap.size + 1) 0 (rrC a' n' q' s'.2) rfl (rr_one _ _ _ _) (y2.there 0 2 (by simp [rrC])) rfl rfl ?_); intro w3 hw3; have b3 : Blk w3 (w.heap.size + 1) (rrC a' n' q' s'.2) 90 := (by rw [hw3]; exact y2.setsW _ rfl); have k3 : Below w.heap.size w w3 := (by rw [hw3]; exact below_sets (by omega) _ (k1.trans (k2.mono k1.size)) 0); clear hw3)))
      | ((with_reducible refine at_ld 90 ?_); (refine ld 90 (.tmp 4) 2 sizeRR _ Try.underlying90 rfl w1.heap.size 0 (rrC a' n' q' s'.2) rfl (by rw [← hgr]; exact b2.whole) rfl ?_)))
    exact bodyPost_ret (v := .tuple #[.agg (rrC a' n' q' s'.2).toArray, .int .i64 4611686018427387904]) (resCT Try.results66 _ _ (w.heap.size + 1) _ rfl (run_loadVar_row w3 (w.heap.size + 1) 90 90 _ (0, 0) _ b3 Try.underlying90 rfl sizeRR) _ rfl) rfl ⟨a', n', q', by rw [HV.out], HT.out, k3⟩
  · have HV : Hid (rv = (g : Int)) := by show _ = _; rw [HR.out, if_neg h2]
    clear HR
    have i3 : ¬ (4611686018427387904 : Int) < (g : Int) := by omega
    have wn : IntKind.i64.wrap (g : Int) = (g : Int) := by rw [IntKind.wrap_i64]; omega
    go_wp2_with (first
      | ((with_reducible refine at_st 90 ?_); (first | ((refine st' 90 (.tmp 4) (.tmp 9) 2 sizeRR w1.heap.size 0 (rrC a' n' q' s'.2) rfl (rr_one _ _ _ _) (by rw [← hgr]; exact zr.there 0 2 (by simp [rrC])) rfl rfl ?_); intro w2 hw2; have b2 : Blk w2 gr (rrC a' n' q' s'.2) 90 := (by rw [hw2, ← hgr]; exact zr.setsW _ rfl); have k2 : Below w1.heap.size w1 w2 := (by rw [hw2]; exact below_sets (Nat.le_refl _) _ kr 0); have y2 := y1.below k2 y1.lt; clear hw2) | ((refine st' 90 (.tmp 2) (.tmp 14) 2 sizeRR (w.heap.size + 1) 0 (rrC a' n' q' s'.2) rfl (rr_one _ _ _ _) (y2.there 0 2 (by simp [rrC])) rfl rfl ?_); intro w3 hw3; have b3 : Blk w3 (w.heap.size + 1) (rrC a' n' q' s'.2) 90 := (by rw [hw3]; exact y2.setsW _ rfl); have k3 : Below w.heap.size w w3 := (by rw [hw3]; exact below_sets (by omega) _ (k1.trans (k2.mono k1.size)) 0); clear hw3)))
      | ((with_reducible refine at_ld 90 ?_); (refine ld 90 (.tmp 4) 2 sizeRR _ Try.underlying90 rfl w1.heap.size 0 (rrC a' n' q' s'.2) rfl (by rw [← hgr]; exact b2.whole) rfl ?_)))
    exact bodyPost_ret (v := .tuple #[.agg (rrC a' n' q' s'.2).toArray, .int .i64 (g : Int)]) (resCT Try.results66 _ _ (w.heap.size + 1) _ rfl (run_loadVar_row w3 (w.heap.size + 1) 90 90 _ (0, 0) _ b3 Try.underlying90 rfl sizeRR) _ rfl) rfl ⟨a', n', q', by rw [HV.out], HT.out, k3⟩

end Go.Proofs.Ytbifikeecmaakaa

/-
  The contract of layer 14's reference's numbers. Condition: none.
-/
namespace Go.Proofs.Ytbifikeecmaakaa
open Go.RowKit

def elI (_ : World) (n : Int) (vs : List Value) : Prop := vs = [.int .i64 n]
theorem infoInt : (Try.prog.info? 3).map (fun i => (i.zero, i.size, i.bytes)) = some (some (.int .i64 0), 1, 8) := by kernel_rfl
theorem elI.row (w : World) (n : Int) : Row elI 1 w n [.int .i64 n] := ⟨rfl, by intro u hu; simp at hu; subst hu; rfl, rfl⟩
def numsR (s : RdS) (k : Nat) : List Int := (List.range k).map (numR s)
theorem numsR_succ (s : RdS) (k : Nat) : numsR s (k + 1) = numsR s k ++ [numR s k] := by
  unfold numsR
  rw [List.range_succ, List.map_append]
  rfl
/-- Behind some of numbers' rounds. -/
structure NmI (w : World) (a : Option Addr) (n q : Nat) (s : RdS) (k : Nat) (a' : Option Addr) (n' q' : Nat) (v : Value) (wr : World) : Prop where
  t : ∀ W, Bs W a n q s.1 → Bs W a' n' q' (rNs k s).1
  b1 : Blk wr (w.heap.size + 1) (rrC none 0 0 0) 90
  b2 : Blk wr (w.heap.size + 2) (rrC a' n' q' (rNs k s).2) 90
  ow : OwS elI 1 3 wr (w.heap.size + 3) v (numsR s k)
  be : Below w.heap.size w wr
/-- What numbers hands back. -/
def NumsR (w : World) (a : Option Addr) (n q : Nat) (s : RdS) (e : Ending) (w' : World) : Prop := ∃ a' n' q' la lc, e = .returned (.tuple #[.agg (rrC a' n' q' (rNs 6 s).2).toArray, .slice la 6 lc]) ∧ (∀ W, Bs W a n q s.1 → Bs W a' n' q' (rNs 6 s).1) ∧ Sl elI 1 (fun j => w.heap.size ≤ j) w' la 6 lc (numsR s 6) ∧ Below w.heap.size w w'
theorem neR3 : 90 ≠ 3 := by decide
theorem Blk.off {w w' : World} {base : Nat} {v : Value} {l : List Int} (h : OwS elI 1 3 w base v l) (hg : w.grownBy w' v.ownBlock) {g : Nat} {vs : List Value} {t : TypeId} (hb : Blk w g vs t) (hlt : g < base) : Blk w' g vs t := by
  unfold Blk
  rw [hg.block g hb.lt (fun e => by have := (h.lt g e.symm).1; omega)]
  exact hb

set_option maxRecDepth 100000 in
set_option maxHeartbeats 8000000 in
theorem rNumbersA (w : World) {a : Option Addr} {n q : Nat} {s : RdS} (hb : Bs w a n q s.1) : Calls Try.prog 47 #[.agg (rrC a n q s.2).toArray] w (NumsR w a n q s) := by
  have HB : Hid (Bs w a n q s.1) := hb
  clear hb
  obtain ⟨W0, hW0⟩ : ∃ W0, W0 = (w.alloc (.cells (rrC a n q s.2).toArray 90)).alloc (.cells #[.slice none 0 0, .int .i64 0] 90) := ⟨_, rfl⟩
  have z0 : Blk W0 w.heap.size (rrC a n q s.2) 90 := by rw [hW0]; exact (Blk.newAt w _ _ w.heap.size rfl _ rfl).old _
  have z1 : Blk W0 (w.heap.size + 1) (rrC none 0 0 0) 90 := by rw [hW0]; exact Blk.newAt (w.alloc _) _ _ (w.heap.size + 1) (by simp) _ rfl
  have k0 : Below w.heap.size w W0 := by rw [hW0]; exact below2 _ _ _
  have s0 : W0.heap.size = w.heap.size + 2 := by rw [hW0]; simp
  have z2 : Blk (W0.alloc (.cells #[.slice none 0 0, .int .i64 0] 90)) (w.heap.size + 2) (rrC none 0 0 0) 90 := Blk.newAt W0 _ _ (w.heap.size + 2) s0 _ rfl
  have k2 : Below W0.heap.size W0 (W0.alloc (.cells #[.slice none 0 0, .int .i64 0] 90)) := below_alloc _ _
  go_enter Try.func47, Try.ntmps47
  go_upto_region 1 with fail
  rw [← hW0]
  clear hW0
  go_wp2_with (first
    | ((with_reducible refine at_ld 90 ?_); (refine ld 90 (.tmp 1) 2 sizeRR _ Try.underlying90 rfl w.heap.size 0 (rrC a n q s.2) rfl z0.whole rfl ?_))
    | ((with_reducible refine at_st 90 ?_); (refine st' 90 (.tmp 4) (.tmp 9) 2 sizeRR (w.heap.size + 2) 0 (rrC a n q s.2) rfl (rr_one _ _ _ _) (z2.there 0 2 (by simp [rrC])) rfl rfl ?_); intro w1 hw1; have b2 : Blk w1 (w.heap.size + 2) (rrC a n q s.2) 90 := (by rw [hw1]; exact z2.setsW _ rfl); have k1 : Below W0.heap.size W0 w1 := (by rw [hw1]; exact below_sets (by omega) _ k2 0); clear hw1))
  have I0 : Hid (NmI w a n q s 0 a n q (.slice none 0 0) w1) := ⟨fun W h => h, z1.below k1 z1.lt, b2, OwS.nil _ _ _ _ _, k0.trans (k1.mono k0.size)⟩
  clear z0 z1 z2 k0 k1 k2 b2 s0
  go_loopw [5, 6] (fun v i wr => ∃ (k : Nat) (a' : Option Addr) (n' q' : Nat) (la : Option Addr) (ln lc : Nat), k ≤ 6 ∧ i = .int .i64 (k : Int) ∧ v = .slice la ln lc ∧ Hid (NmI w a n q s k a' n' q' (.slice la ln lc) wr)) (fun _ i _ => 6 - (intOf i).toNat)
  case atStart => exact ⟨0, a, n, q, none, 0, 0, Nat.zero_le _, rfl, rfl, I0⟩
  case round =>
    clear I0
    obtain ⟨k, a', n', q', la, ln, lc, hk, rfl, rfl, HI⟩ := hrel
    have b2 := HI.out.b2
    by_cases hlt : k < 6
    · have i0 : (k : Int) < 6 := by omega
      have C : Hid (Calls Try.prog 66 #[.agg (rrC a' n' q' (rNs k s).2).toArray] wr (NumR wr a' n' q' (rNs k s))) := rNumA wr (HI.out.t wr (HB.out.below HI.out.be (Nat.le_refl _)))
      have HX : Hid (numR s k = cap62 (rV (rNs k s) 8)) := rfl
      have HY : Hid (rNs (k + 1) s = rN (rNs k s) 8) := rfl
      have hsn := numsR_succ s k
      have hll : (numsR s k).length = k := by simp [numsR]
      go_wp2_with ((with_reducible refine at_ld 90 ?_); (refine ld 90 (.tmp 4) 2 sizeRR _ Try.underlying90 rfl (w.heap.size + 2) 0 (rrC a' n' q' (rNs k s).2) rfl b2.whole rfl ?_))
      refine C.out.mono ?_
      rintro e w4 ⟨a4, n4, q4, rfl, hT4, hb4⟩
      rw [← HX.out, ← HY.out]
      rw [← HY.out] at hT4
      generalize numR s k = nn at *
      have y1 := HI.out.b1.below hb4 HI.out.b1.lt
      have y2 := b2.below hb4 b2.lt
      have o4 : OwS elI 1 3 w4 (w.heap.size + 3) (.slice la ln lc) (numsR s k) := OwS.keep HI.out.ow (fun _ _ h => h) (fun j hj => hb4.block j (HI.out.ow.lt j hj).2)
      have f4 : Below w.heap.size w w4 := HI.out.be.trans (hb4.mono HI.out.be.size)
      have HT : Hid (∀ W, Bs W a n q s.1 → Bs W a4 n4 q4 (rNs (k + 1) s).1) := fun W h => hT4 W (HI.out.t W h)
      obtain ⟨gr, hgr⟩ : ∃ gr, gr = w4.heap.size := ⟨_, rfl⟩
      have zr : Blk (w4.alloc (.cells #[.slice none 0 0, .int .i64 0] 90)) gr (rrC none 0 0 0) 90 := Blk.newAt w4 _ _ gr hgr.symm _ rfl
      have kr : Below w4.heap.size w4 (w4.alloc (.cells #[.slice none 0 0, .int .i64 0] 90)) := below_alloc _ _
      clear C hT4 hb4 HI b2 HX HY
      obtain ⟨s4, hs4⟩ : ∃ s4, s4 = rNs (k + 1) s := ⟨_, rfl⟩
      rw [← hs4] at HT ⊢
      have HS4 : Hid (s4 = rNs (k + 1) s) := hs4
      clear hs4
      go_wp2_with (first
        | ((with_reducible refine at_st 90 ?_); (first
          | ((refine st' 90 (.tmp 7) (.tmp 17) 2 sizeRR w4.heap.size 0 (rrC a4 n4 q4 s4.2) rfl (rr_one _ _ _ _) (by rw [← hgr]; exact zr.there 0 2 (by simp [rrC])) rfl rfl ?_); intro w5 hw5; have d5 : Blk w5 gr (rrC a4 n4 q4 s4.2) 90 := (by rw [hw5, ← hgr]; exact zr.setsW _ rfl); have k5 : Below w4.heap.size w4 w5 := (by rw [hw5]; exact below_sets (Nat.le_refl _) _ kr 0); have x1 := y1.below k5 y1.lt; have x2 := y2.below k5 y2.lt; have o5 : OwS elI 1 3 w5 (w.heap.size + 3) (.slice la ln lc) (numsR s k) := OwS.keep o4 (fun _ _ h => h) (fun j hj => k5.block j (o4.lt j hj).2); have f5 : Below w.heap.size w w5 := f4.trans (k5.mono f4.size); clear hw5 k5)
          | ((refine st' 90 (.tmp 4) (.tmp 19) 2 sizeRR (w.heap.size + 2) 0 (rrC a4 n4 q4 s4.2) rfl (rr_one _ _ _ _) (x2.there 0 2 (by simp [rrC])) rfl rfl ?_); intro w6 hw6; have v2 : Blk w6 (w.heap.size + 2) (rrC a4 n4 q4 s4.2) 90 := (by rw [hw6]; exact x2.setsW _ rfl); have g6 : w5.grownBy w6 (some (w.heap.size + 2)) := (by rw [hw6]; exact but_cells' _ _ _ _); have v1 : Blk w6 (w.heap.size + 1) (rrC none 0 0 0) 90 := (by rw [hw6]; exact x1.setsO (by omega) _ 0); have f6 : Below w.heap.size w w6 := (by rw [hw6]; exact below_sets (by omega) _ f5 0); have o6 : OwS elI 1 3 (w6.alloc (.cells #[.int .i64 nn] 3)) (w.heap.size + 3) (.slice la ln lc) (numsR s k) := OwS.keep (OwS.keep (w' := w6) o5 (fun _ _ h => h) (fun j hj => g6.block j (o5.lt j hj).2 (fun e => by have := Option.some.inj e; have := (o5.lt j hj).1; omega))) (fun _ _ h => h) (fun j hj => (below_alloc w6 _).block j (by have := (o5.lt j hj).2; have := g6.size; omega)); have bl : Blk (w6.alloc (.cells #[.int .i64 nn] 3)) w6.heap.size [.int .i64 nn] 3 := Blk.newAt w6 _ _ w6.heap.size rfl _ rfl; have src : Sl elI 1 (fun _ => True) (w6.alloc (.cells #[.int .i64 nn] 3)) (some ⟨w6.heap.size, 0, none⟩) 1 1 [nn] := Sl.one bl (elI.row _ nn) trivial; have hbs : w.heap.size + 3 ≤ (w6.alloc (.cells #[.int .i64 nn] 3)).heap.size := (by have := v2.lt; simp; omega); clear hw6)))
        | ((with_reducible refine at_ld 90 ?_); (refine ld 90 (.tmp 7) 2 sizeRR _ Try.underlying90 rfl w4.heap.size 0 (rrC a4 n4 q4 s4.2) rfl (by rw [← hgr]; exact d5.whole) rfl ?_))
        | (at_builtin; refine wpList_slapp elI 1 8 84 3 _ Try.underlying84 infoInt rfl (by decide) (by decide) (w6.alloc (.cells #[.int .i64 nn] 3)) rfl (.tmp 20) (.tmp 22) rfl (w.heap.size + 3) (.slice la ln lc) (numsR s k) rfl o6 (fun _ => True) (some ⟨w6.heap.size, 0, none⟩) 1 1 [nn] rfl src (by rw [hll]; simp; omega) hbs (fun _ _ _ _ h => h) ?_; intro v8 w8 o8 g8; obtain ⟨a8, m8, c8, rfl, hm8⟩ := o8.shape))
      rw [← hsn] at o8
      have I8 : Hid (NmI w a n q s (k + 1) a4 n4 q4 (.slice a8 m8 c8) w8) := by
        refine ⟨by rw [← HS4.out]; exact HT.out, Blk.off o6 g8 (v1.old _) (by omega), ?_, o8, (f6.alloc f6.size _).grown g8 (Nat.le_trans f6.size (below_alloc w6 _).size) (fun j hj => by have := (o6.lt j hj).1; omega)⟩
        rw [← HS4.out]
        exact Blk.off o6 g8 (v2.old _) (by omega)
      clear o8 g8 o6 v1 v2 f6 g6 src hbs bl o5 x1 x2 f5 d5 HT HS4 zr kr y1 y2 o4 f4 hgr hsn hll
      go_roundw
      case rel => exact ⟨k + 1, a4, n4, q4, a8, m8, c8, by omega, by go_num, rfl, I8⟩
      case measure => simp [intOf]; omega
    · have i0 : ¬ (k : Int) < 6 := by omega
      obtain rfl : k = 6 := by omega
      have b1 := HI.out.b1
      have hln : ln = 6 := by
        obtain ⟨_, _, _, e, hh⟩ := HI.out.ow.shape
        simp only [Value.slice.injEq] at e
        have : (numsR s 6).length = 6 := by simp [numsR]
        omega
      subst hln
      have HF : Hid (Below w.heap.size w wr) := HI.out.be
      go_wp2_with (first
        | ((with_reducible refine at_ld 90 ?_); (refine ld 90 (.tmp 4) 2 sizeRR _ Try.underlying90 rfl (w.heap.size + 2) 0 (rrC a' n' q' (rNs 6 s).2) rfl b2.whole rfl ?_))
        | ((with_reducible refine at_st 90 ?_); (refine st' 90 (.tmp 2) (.tmp 24) 2 sizeRR (w.heap.size + 1) 0 (rrC a' n' q' (rNs 6 s).2) rfl (rr_one _ _ _ _) (b1.there 0 2 (by simp [rrC])) rfl rfl ?_); intro w8 hw8; have b8 : Blk w8 (w.heap.size + 1) (rrC a' n' q' (rNs 6 s).2) 90 := (by rw [hw8]; exact b1.setsW _ rfl); have g8 : wr.grownBy w8 (some (w.heap.size + 1)) := (by rw [hw8]; exact but_cells' _ _ _ _); have k8 : Below w.heap.size w w8 := (by rw [hw8]; exact below_sets (by omega) _ HF.out 0); clear hw8))
      have o8 : OwS elI 1 3 w8 (w.heap.size + 3) (.slice la 6 lc) (numsR s 6) := OwS.keep HI.out.ow (fun _ _ h => h) (fun j hj => g8.block j (HI.out.ow.lt j hj).2 (fun e => by have := Option.some.inj e; have := (HI.out.ow.lt j hj).1; omega))
      exact bodyPost_ret (v := .tuple #[.agg (rrC a' n' q' (rNs 6 s).2).toArray, .slice la 6 lc]) (resCT Try.results47 _ _ (w.heap.size + 1) _ rfl (run_loadVar_row w8 (w.heap.size + 1) 90 90 _ (0, 0) _ b8 Try.underlying90 rfl sizeRR) _ rfl) rfl ⟨a', n', q', la, lc, rfl, HI.out.t, o8.sl3 (fun j hj _ => by omega), k8⟩

end Go.Proofs.Ytbifikeecmaakaa
