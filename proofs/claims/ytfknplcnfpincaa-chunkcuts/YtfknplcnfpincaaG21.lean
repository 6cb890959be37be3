/-
  5 texts in one. No statement of the seat is proved here.
-/
import Derived.Test.YtfknplcnfpincaaG20
import Derived.Deep.Matrix
/-
  Contracts of layer 13's reference: Count, Cover, Piece, beside, padded, Cut. Conditions: sizes of at most 4000000; what a text is of at most 60 bytes; pieces of at most 100000 bytes in all.
-/
namespace Go.Proofs.Ytfknplcnfpincaa
open Go.RowKit
set_option linter.unusedVariables false

theorem cnt_least {n k : Nat} (h1 : 1 ≤ k) (h : n ≤ 496 * k) : cnt n ≤ k := by unfold cnt; split <;> omega
set_option maxHeartbeats 400000 in
theorem rCount (w : World) (n : Nat) (hn : n ≤ 4000000) : Calls Try.prog 22 #[.int .i64 (n : Int)] w fun e w' => e = .returned (.int .i64 (cnt n : Int)) ∧ w = w' := by
  have hcl := cnt_small hn
  have HCV : Hid (n ≤ 496 * cnt n) := cnt_cover n
  have HP : Hid (1 ≤ cnt n) := cnt_pos n
  have HLS : Hid (∀ k, 1 ≤ k → n ≤ 496 * k → cnt n ≤ k) := fun k => cnt_least
  obtain ⟨C, hC⟩ : ∃ C, C = cnt n := ⟨_, rfl⟩
  rw [← hC] at hcl HCV HP HLS ⊢
  clear hC
  go_enter Try.func22, Try.ntmps22
  go_wp2_with fail
  go_loopw [3] (fun v wr => ∃ k : Nat, 1 ≤ k ∧ k ≤ C ∧ v = .int .i64 (k : Int) ∧ w = wr) (fun v _ => C - (intOf v).toNat)
  case atStart => exact ⟨1, Nat.le_refl _, HP.out, rfl, rfl⟩
  case round =>
    obtain ⟨k, hk1, hk, rfl, rfl⟩ := hrel
    obtain ⟨P, hP⟩ : ∃ P, P = 496 * k := ⟨_, rfl⟩
    have hm : (k : Int) * 496 = (P : Int) := by omega
    have hPl : P ≤ 5000000 := by omega
    by_cases hlt : P < n
    · have i0 : (P : Int) < (n : Int) := by omega
      have hkC : k + 1 ≤ C := by have := HCV.out; omega
      clear hP
      go_wp2_with fail
      go_roundw
      case rel => exact ⟨k + 1, by omega, hkC, by go_num, (by first | rfl | trivial)⟩
      case measure => simp [intOf]; omega
    · have i0 : ¬ (P : Int) < (n : Int) := by omega
      obtain rfl : k = C := by have := HLS.out k hk1 (by omega); omega
      clear hP
      go_wp2_with fail
      go_ret
      exact ⟨rfl, rfl⟩

set_option maxHeartbeats 400000 in
theorem rCover (w : World) (n : Nat) (f t : Int) (hn : n ≤ 4000000) (f0 : -9223372036854775808 ≤ f) (f1 : f ≤ 9223372036854775807) (t0 : -9223372036854775808 ≤ t) (t1 : t ≤ 9223372036854775807) :
    (¬ (0 ≤ f ∧ f < t ∧ t ≤ n) → Calls Try.prog 16 #[.int .i64 (n : Int), .int .i64 f, .int .i64 t] w fun e w' => e = .returned (.tuple #[.int .i64 0, .int .i64 0]) ∧ w = w') ∧
    (∀ a b : Nat, f = a → t = b → a < b → b ≤ n → Calls Try.prog 16 #[.int .i64 (n : Int), .int .i64 f, .int .i64 t] w fun e w' => e = .returned (.tuple #[.int .i64 (cov0 a : Int), .int .i64 (covN a b : Int)]) ∧ w = w') := by
  constructor
  · intro hc
    by_cases h1 : f < 0
    · go_enter Try.func16, Try.ntmps16
      go_wp2_with fail
      go_ret2
      exact ⟨rfl, rfl⟩
    · by_cases h2 : t ≤ f
      · go_enter Try.func16, Try.ntmps16
        go_wp2_with fail
        go_ret2
        exact ⟨rfl, rfl⟩
      · have h3 : (n : Int) < t := by omega
        go_enter Try.func16, Try.ntmps16
        go_wp2_with fail
        go_ret2
        exact ⟨rfl, rfl⟩
  · rintro a b rfl rfl hab hbn
    obtain ⟨x, hx⟩ : ∃ x, x = a / 496 := ⟨_, rfl⟩
    obtain ⟨c, hc⟩ : ∃ c, b = c + 1 := ⟨b - 1, by omega⟩
    obtain ⟨y, hy⟩ : ∃ y, y = c / 496 := ⟨_, rfl⟩
    obtain ⟨d, hd⟩ : ∃ d, y = x + d := ⟨y - x, by omega⟩
    have h1 : ¬ (a : Int) < 0 := by omega
    have h2 : ¬ (b : Int) ≤ (a : Int) := by omega
    have h3 : ¬ (n : Int) < (b : Int) := by omega
    have h4 : (a : Int).tdiv 496 = (x : Int) := by rw [hx]; exact tdiv_nat a 496
    have h5 : (b : Int) - 1 = (c : Int) := by omega
    have h6 : (c : Int).tdiv 496 = (y : Int) := by rw [hy]; exact tdiv_nat c 496
    have h7 : (y : Int) - (x : Int) = (d : Int) := by omega
    have hxl : x ≤ 10000 := by omega
    have hyl : y ≤ 10000 := by omega
    have hcl : c ≤ 4000000 := by omega
    have hdl : d ≤ 10000 := by omega
    have HA : Hid (cov0 a = x ∧ covN a b = d + 1) := ⟨hx.symm, by unfold covN; rw [hc, Nat.add_sub_cancel, ← hy, ← hx]; omega⟩
    clear hx hc hy hd
    go_enter Try.func16, Try.ntmps16
    go_wp2_with fail
    go_ret2
    exact ⟨by rw [HA.out.1, HA.out.2]; rfl, rfl⟩

set_option maxHeartbeats 400000 in
theorem rPiece {w0 : World} {a : Option Addr} {n c : Nat} {t : List UInt8} (h : Bs w0 a n c t) (hn : n ≤ 4000000) (i : Nat) (hi' : i < cnt n) :
    ∃ a' c', (∀ u, Calls Try.prog 32 #[.slice a n c, .int .i64 (i : Int)] u fun e w' => e = .returned (.slice a' (plen n i) c') ∧ u = w') ∧ ∀ A u, BA A u a n c t → BA A u a' (plen n i) c' (piece t i) := by
  have hin := cnt_below hi'
  obtain ⟨L, hL⟩ : ∃ L, L = 496 * i := ⟨_, rfl⟩
  have hL2 : L = lo n i := by unfold lo; omega
  obtain ⟨H, hH⟩ : ∃ H, H = hi n i := ⟨_, rfl⟩
  have hPL : H - L = plen n i := by rw [hL2, hH]; exact lo_hi n i
  have htl := h.len
  have hPC : (t.drop L).take (H - L) = piece t i := by
    have := piece_cut t i
    rw [htl, ← hL2, ← hH] at this
    exact this
  have hLH : L ≤ H := by rw [hL2, hH]; exact lo_le n i
  have hHn : H ≤ n := by rw [hH]; exact hi_le n i
  obtain ⟨a', c', hcut, hcb⟩ := BA.cut2 h L H hLH hHn
  rw [hPC] at hcb
  rw [hPL] at hcut hcb
  refine ⟨a', c', fun u => ?_, hcb⟩
  have hm : (496 : Int) * (i : Int) = (L : Int) := by omega
  have hcl := cnt_small hn
  have hil : i ≤ 10000 := by omega
  obtain ⟨P, hP⟩ : ∃ P, P = plen n i := ⟨_, rfl⟩
  rw [← hP] at hcut ⊢
  obtain ⟨E, hE⟩ : ∃ E, E = L + 496 := ⟨_, rfl⟩
  have he : (L : Int) + 496 = (E : Int) := by omega
  have hEl : E ≤ 5000000 := by omega
  have hLl : L ≤ 5000000 := by omega
  have hHE : H = min E n := by rw [hH, hE, hL]; rfl
  clear hcb hPC hPL hL2 hH hL h htl hin hi' hP hE
  by_cases hc : n < E
  · obtain rfl : H = n := by omega
    have j0 : (H : Int) < (E : Int) := by omega
    have j1 : ¬ (H : Int) < (L : Int) := by omega
    clear hHE
    go_enter Try.func32, Try.ntmps32
    go_wp2_with fail
    go_ret
    exact ⟨rfl, rfl⟩
  · obtain rfl : H = E := by omega
    have j0 : ¬ (n : Int) < (H : Int) := by omega
    have j1 : ¬ (H : Int) < (L : Int) := by omega
    clear hHE
    go_enter Try.func32, Try.ntmps32
    go_wp2_with fail
    go_ret
    exact ⟨rfl, rfl⟩

set_option maxHeartbeats 1000000 in
theorem rBeside (w : World) {a : Option Addr} {m c : Nat} {l : List UInt8} (h : Bs w a m c l) (hm : m ≤ 60) (i : Nat) (hi' : i ≤ 4000000) (last : Bool) :
    Calls Try.prog 31 #[.slice a m c, .int .i64 (i : Int), .bool last] w (Gives w (bes l i last)) := by
  have HW : Hid (Bs w a m c l) := h
  have hll : l.length ≤ 60 := by rw [h.len]; exact hm
  clear h
  have H5G : Hid (∀ w4 x3 x a4 m4 c4 (y : UInt8), Bs w4 (some ⟨x3, 0, none⟩) 5 5 [99, 104, 117, 110, 107] → Below w.heap.size w w4 → Bs w4 a4 m4 c4 (putL i 4) → Bs w4 (some ⟨x, 0, none⟩) 1 1 [y] → Bss (w4.alloc (.cells #[.slice (some ⟨x3, 0, none⟩) 5 5, .slice a m c, .slice a4 m4 c4, .slice (some ⟨x, 0, none⟩) 1 1] 22)) (some ⟨w4.heap.size, 0, none⟩) 4 4 [[99, 104, 117, 110, 107], l, putL i 4, [y]]) := fun w4 x3 x a4 m4 c4 y h1 h2 h3 h4 => Bss.four h1 (HW.out.below h2 (Nat.le_refl _)) h3 h4
  cases last with
  | true =>
    have B1 : Blk ((w.alloc (.cells #[.int .u8 0] 5)).alloc (.cells #[.int .u8 1] 5)) (w.heap.size + 1) [.int .u8 (((1 : UInt8).toNat : Nat) : Int)] 5 := by
      have := Blk.new (w.alloc (.cells #[.int .u8 0] 5)) #[.int .u8 1] 5
      rwa [show (w.alloc (.cells #[.int .u8 0] 5)).heap.size = w.heap.size + 1 from by simp] at this
    have b1 : Below w.heap.size w ((w.alloc (.cells #[.int .u8 0] 5)).alloc (.cells #[.int .u8 1] 5)) := below2 w _ _
    go_enter Try.func31, Try.ntmps31
    go_upto_region 4 with fail
    obtain ⟨x, hx⟩ : ∃ x, x = w.heap.size + 1 := ⟨_, rfl⟩
    rw [← hx] at B1 ⊢
    clear hx
    generalize (w.alloc (.cells #[.int .u8 0] 5)).alloc (.cells #[.int .u8 1] 5) = w1 at *
    have kc := fun (w : World) (C : Array Value) (n c : Nat) => Lib.run_convert_bytes_const (P := Try.prog) w 22 5 C n c Try.underlying22 Try.underlying5
    have X3 : Hid (Bs (w1.alloc (.cells #[.int .u8 99, .int .u8 104, .int .u8 117, .int .u8 110, .int .u8 107] 5 (5, 6))) (some ⟨w1.heap.size, 0, none⟩) 5 5 [99, 104, 117, 110, 107]) := Bs.marked w1 [99, 104, 117, 110, 107] _ (5, 6) rfl (by decide)
    have b3 : Hid (Below w1.heap.size w1 (w1.alloc (.cells #[.int .u8 99, .int .u8 104, .int .u8 117, .int .u8 110, .int .u8 107] 5 (5, 6)))) := below_alloc w1 _
    have B2 : Hid (Blk w1 x [.int .u8 (((1 : UInt8).toNat : Nat) : Int)] 5) := B1
    have b2 : Hid (Below w.heap.size w w1) := b1
    clear B1 b1
    go_wp2_with fail
    clear kc
    generalize w1.alloc (.cells #[.int .u8 99, .int .u8 104, .int .u8 117, .int .u8 110, .int .u8 107] 5 (5, 6)) = w3 at *
    obtain ⟨x3, hx3⟩ : ∃ x, x = w1.heap.size := ⟨_, rfl⟩
    rw [← hx3] at X3 ⊢
    have Q3 : Hid (Below w.heap.size w w3) := b2.out.trans (b3.out.mono b2.out.size)
    have L3 : Hid (Bs w3 (some ⟨x, 0, none⟩) 1 1 [1]) := (Bs.ofBlk1 (B2.out)).below b3.out (Nat.le_refl _)
    clear hx3 b2 b3 B2
    refine (rPut 4 (i : Int) 4 w3 (by omega) (by omega) (by omega) (by omega) (by omega)).mono ?_
    rintro e w4 ⟨a4, m4, c4, rfl, o4, hb4⟩
    have P4 : Hid (Bs w4 a4 m4 c4 (putL i 4)) := o4.toBs
    have Q4 : Hid (Below w.heap.size w w4) := Q3.out.trans (hb4.mono Q3.out.size)
    have X4 : Hid (Bs w4 (some ⟨x3, 0, none⟩) 5 5 [99, 104, 117, 110, 107]) := X3.out.below hb4 (Nat.le_refl _)
    have L4 : Hid (Bs w4 (some ⟨x, 0, none⟩) 1 1 [1]) := L3.out.below hb4 (Nat.le_refl _)
    clear o4 hb4 X3 L3 Q3
    have H5 : Hid (Bss (w4.alloc (.cells #[.slice (some ⟨x3, 0, none⟩) 5 5, .slice a m c, .slice a4 m4 c4, .slice (some ⟨x, 0, none⟩) 1 1] 22)) (some ⟨w4.heap.size, 0, none⟩) 4 4 [[99, 104, 117, 110, 107], l, putL i 4, [1]]) := H5G.out w4 x3 x a4 m4 c4 1 X4.out Q4.out P4.out L4.out
    have b5 : Hid (Below w4.heap.size w4 (w4.alloc (.cells #[.slice (some ⟨x3, 0, none⟩) 5 5, .slice a m c, .slice a4 m4 c4, .slice (some ⟨x, 0, none⟩) 1 1] 22))) := below_alloc w4 _
    go_wp2_with fail
    generalize w4.alloc (.cells #[.slice (some ⟨x3, 0, none⟩) 5 5, .slice a m c, .slice a4 m4 c4, .slice (some ⟨x, 0, none⟩) 1 1] 22) = w5 at *
    refine (rPack w5 H5.out (bes_tot hll i [1] rfl) (by omega)).mono ?_
    rintro e w6 ⟨a6, m6, c6, rfl, o6, hb6⟩
    have Q5 := Q4.out.trans (b5.out.mono Q4.out.size)
    have Q6 := Q5.trans (hb6.mono Q5.size)
    have O6 := o6.mono Q5.size
    clear H5 b5 X4 L4 P4 Q4 o6 hb6
    go_wp2_with fail
    go_ret
    exact ⟨a6, m6, c6, rfl, O6, Q6⟩
  | false =>
    have B1 : Blk (w.alloc (.cells #[.int .u8 0] 5)) w.heap.size [.int .u8 (((0 : UInt8).toNat : Nat) : Int)] 5 := Blk.new w _ _
    have b1 : Below w.heap.size w (w.alloc (.cells #[.int .u8 0] 5)) := below_alloc w _
    go_enter Try.func31, Try.ntmps31
    go_upto_region 4 with fail
    obtain ⟨x, hx⟩ : ∃ x, x = w.heap.size := ⟨_, rfl⟩
    rw [← hx] at B1 ⊢
    clear hx
    generalize w.alloc (.cells #[.int .u8 0] 5) = w1 at *
    have kc := fun (w : World) (C : Array Value) (n c : Nat) => Lib.run_convert_bytes_const (P := Try.prog) w 22 5 C n c Try.underlying22 Try.underlying5
    have X3 : Hid (Bs (w1.alloc (.cells #[.int .u8 99, .int .u8 104, .int .u8 117, .int .u8 110, .int .u8 107] 5 (5, 6))) (some ⟨w1.heap.size, 0, none⟩) 5 5 [99, 104, 117, 110, 107]) := Bs.marked w1 [99, 104, 117, 110, 107] _ (5, 6) rfl (by decide)
    have b3 : Hid (Below w1.heap.size w1 (w1.alloc (.cells #[.int .u8 99, .int .u8 104, .int .u8 117, .int .u8 110, .int .u8 107] 5 (5, 6)))) := below_alloc w1 _
    have B2 : Hid (Blk w1 x [.int .u8 (((0 : UInt8).toNat : Nat) : Int)] 5) := B1
    have b2 : Hid (Below w.heap.size w w1) := b1
    clear B1 b1
    go_wp2_with fail
    clear kc
    generalize w1.alloc (.cells #[.int .u8 99, .int .u8 104, .int .u8 117, .int .u8 110, .int .u8 107] 5 (5, 6)) = w3 at *
    obtain ⟨x3, hx3⟩ : ∃ x, x = w1.heap.size := ⟨_, rfl⟩
    rw [← hx3] at X3 ⊢
    have Q3 : Hid (Below w.heap.size w w3) := b2.out.trans (b3.out.mono b2.out.size)
    have L3 : Hid (Bs w3 (some ⟨x, 0, none⟩) 1 1 [0]) := (Bs.ofBlk1 (B2.out)).below b3.out (Nat.le_refl _)
    clear hx3 b2 b3 B2
    refine (rPut 4 (i : Int) 4 w3 (by omega) (by omega) (by omega) (by omega) (by omega)).mono ?_
    rintro e w4 ⟨a4, m4, c4, rfl, o4, hb4⟩
    have P4 : Hid (Bs w4 a4 m4 c4 (putL i 4)) := o4.toBs
    have Q4 : Hid (Below w.heap.size w w4) := Q3.out.trans (hb4.mono Q3.out.size)
    have X4 : Hid (Bs w4 (some ⟨x3, 0, none⟩) 5 5 [99, 104, 117, 110, 107]) := X3.out.below hb4 (Nat.le_refl _)
    have L4 : Hid (Bs w4 (some ⟨x, 0, none⟩) 1 1 [0]) := L3.out.below hb4 (Nat.le_refl _)
    clear o4 hb4 X3 L3 Q3
    have H5 : Hid (Bss (w4.alloc (.cells #[.slice (some ⟨x3, 0, none⟩) 5 5, .slice a m c, .slice a4 m4 c4, .slice (some ⟨x, 0, none⟩) 1 1] 22)) (some ⟨w4.heap.size, 0, none⟩) 4 4 [[99, 104, 117, 110, 107], l, putL i 4, [0]]) := H5G.out w4 x3 x a4 m4 c4 0 X4.out Q4.out P4.out L4.out
    have b5 : Hid (Below w4.heap.size w4 (w4.alloc (.cells #[.slice (some ⟨x3, 0, none⟩) 5 5, .slice a m c, .slice a4 m4 c4, .slice (some ⟨x, 0, none⟩) 1 1] 22))) := below_alloc w4 _
    go_wp2_with fail
    generalize w4.alloc (.cells #[.slice (some ⟨x3, 0, none⟩) 5 5, .slice a m c, .slice a4 m4 c4, .slice (some ⟨x, 0, none⟩) 1 1] 22) = w5 at *
    refine (rPack w5 H5.out (bes_tot hll i [0] rfl) (by omega)).mono ?_
    rintro e w6 ⟨a6, m6, c6, rfl, o6, hb6⟩
    have Q5 := Q4.out.trans (b5.out.mono Q4.out.size)
    have Q6 := Q5.trans (hb6.mono Q5.size)
    have O6 := o6.mono Q5.size
    clear H5 b5 X4 L4 P4 Q4 o6 hb6
    go_wp2_with fail
    go_ret
    exact ⟨a6, m6, c6, rfl, O6, Q6⟩

/-- A slice's length. -/
def lenV13 : Value → Nat | .slice _ n _ => n | _ => 0
set_option maxRecDepth 100000 in
set_option maxHeartbeats 1000000 in
theorem rPadded (w : World) {a : Option Addr} {m c : Nat} {l : List UInt8} (h : Bs w a m c l) (hm : m ≤ 512) : Calls Try.prog 33 #[.slice a m c] w (Gives w (pad l)) := by
  have hl := h.len
  have HL : Hid (l.length = m) := hl
  have HB : Hid (Bs w a m c l) := h
  clear h hl
  go_enter Try.func33, Try.ntmps33
  go_wp2_with (at_builtin; refine wpList_app w rfl (.tmp 4) (.tmp 5) rfl w.heap.size (.slice none 0 0) [] rfl (Own.nil _ _) a m c l rfl HB.out (by rw [HL.out]; simp; omega) (Nat.le_refl _) ?_; intro v1 w1 o1 hb1; have O1 : Hid (Own w1 w.heap.size v1 ([] ++ l)) := o1; clear o1)
  obtain ⟨a1, c1, hv1, _⟩ := O1.out.bs
  subst hv1
  have O2 : Hid (Own w1 w.heap.size (.slice a1 m c1) (l ++ List.replicate 0 0)) := by show Own _ _ _ _; have := O1.out; rw [List.nil_append, HL.out] at this; simpa using this
  rw [List.nil_append, HL.out]
  clear O1
  go_loopw [3] (fun v wr => ∃ (k : Nat) (oa : Option Addr) (on oc : Nat), m + k ≤ 512 ∧ Hid (on = m + k) ∧ v = .slice oa on oc ∧ Hid (Own wr w.heap.size (.slice oa on oc) (l ++ List.replicate k 0)) ∧ Below w.heap.size w wr) (fun v _ => 512 - lenV13 v)
  case atStart => exact ⟨0, a1, m, c1, hm, rfl, rfl, O2, hb1⟩
  case round =>
    obtain ⟨k, oa, on, oc, hk, hon, rfl, ho, hb⟩ := hrel
    by_cases hlt : on < 512
    · have i0 : (on : Int) < 512 := by omega
      have X2 : Bs (wr.alloc (.cells #[.int .u8 0] 5)) (some ⟨wr.heap.size, 0, none⟩) 1 1 [0] := Bs.made wr [0] _ rfl (by decide)
      have ho2 : Own (wr.alloc (.cells #[.int .u8 0] 5)) w.heap.size (.slice oa on oc) (l ++ List.replicate k 0) := ho.out.below (below_alloc wr _) (Nat.le_refl _)
      have hb2 : Below w.heap.size w (wr.alloc (.cells #[.int .u8 0] 5)) := hb.trans ((below_alloc wr _).mono hb.size)
      have HX : Hid (Bs (wr.alloc (.cells #[.int .u8 0] 5)) (some ⟨wr.heap.size, 0, none⟩) 1 1 [0]) := X2
      have HO2 : Hid (Own (wr.alloc (.cells #[.int .u8 0] 5)) w.heap.size (.slice oa on oc) (l ++ List.replicate k 0)) := ho2
      have HB2 : Hid (Below w.heap.size w (wr.alloc (.cells #[.int .u8 0] 5))) := hb2
      have hsz : w.heap.size ≤ (wr.alloc (.cells #[.int .u8 0] 5)).heap.size := hb2.size
      have HR : Hid ((l ++ List.replicate k (0 : UInt8)).length + [(0 : UInt8)].length ≤ 1000000000) := by show _ ≤ _; simp [HL.out]; omega
      have HSZ : Hid (w.heap.size ≤ (wr.alloc (.cells #[.int .u8 0] 5)).heap.size) := hsz
      clear X2 ho2 hb2 ho hsz
      go_wp2_with (at_builtin; refine wpList_app (wr.alloc (.cells #[.int .u8 0] 5)) rfl (.tmp 10) (.tmp 11) rfl w.heap.size (.slice oa on oc) _ rfl HO2.out (some ⟨wr.heap.size, 0, none⟩) 1 1 [0] rfl HX.out HR.out HSZ.out ?_; intro v3 w3 o3 hb3; have O3 : Hid (Own w3 w.heap.size v3 (l ++ List.replicate (k + 1) 0)) := (by rw [List.append_assoc, ← List.replicate_succ'] at o3; exact o3); clear o3)
      obtain ⟨oa3, oc3, hv3, _⟩ := O3.out.bs
      subst hv3
      have hl3 : (l ++ List.replicate (k + 1) (0 : UInt8)).length = on + 1 := by have := hon.out; simp [HL.out]; omega
      rw [hl3] at O3 ⊢
      go_roundw
      case rel => exact ⟨k + 1, oa3, on + 1, oc3, by have := hon.out; omega, by show _ = _; have := hon.out; omega, rfl, O3, HB2.out.trans hb3⟩
      case measure => simp [lenV13]; omega
    · have i0 : ¬ (on : Int) < 512 := by omega
      have HE : Hid (l ++ List.replicate k 0 = pad l) := by
        show _ = _
        unfold pad
        rw [HL.out, show 512 - m = k from by have := hon.out; omega]
      go_wp2_with fail
      go_ret
      exact Gives.mk (HE.out ▸ ho.out) hb

set_option maxRecDepth 100000 in
set_option maxHeartbeats 1000000 in
theorem rCut (w : World) {a : Option Addr} {m c : Nat} {ls : List (List UInt8)} (ha : Bss w a m c ls) (hz : tot ls ≤ 100000) (first : Nat) (h1 : first ≤ 1000) (f t : Int) (f0 : -2000000000 ≤ f) (f1 : f ≤ 2000000000) (t0 : -2000000000 ≤ t) (t1 : t ≤ 2000000000) :
    Calls Try.prog 21 #[.slice a m c, .int .i64 (first : Int), .int .i64 f, .int .i64 t] w fun e w' => ∃ a m c, e = .returned (.slice a m c) ∧ Bs w' a m c (cutL ls first f t) ∧ Below w.heap.size w w' := by
  have CJ : Hid (Calls Try.prog 36 #[.slice a m c] w (Gives w ls.flatten)) := rJoin w ha hz
  have hfl : ls.flatten.length ≤ 100000 := by rw [tot_flatten]; exact hz
  obtain ⟨G, hG⟩ : ∃ G, G = 496 * first := ⟨_, rfl⟩
  have hmul : (first : Int) * 496 = (G : Int) := by omega
  have hGl : G ≤ 500000 := by omega
  obtain ⟨A, hA⟩ : ∃ A, A = f - (G : Int) := ⟨_, rfl⟩
  obtain ⟨B, hB⟩ : ∃ B, B = t - (G : Int) := ⟨_, rfl⟩
  have sA : f - (G : Int) = A := hA.symm
  have sB : t - (G : Int) = B := hB.symm
  have a0 : -3000000000 ≤ A := by omega
  have a1 : A ≤ 3000000000 := by omega
  have b0 : -3000000000 ≤ B := by omega
  have b1 : B ≤ 3000000000 := by omega
  have HNO : Hid (A < 0 ∨ B < A ∨ (ls.flatten.length : Int) < B → cutL ls first f t = []) := fun h => cutL_none (by omega)
  have HYES : Hid (∀ x y : Nat, A = x → B = y → x ≤ y → y ≤ ls.flatten.length → cutL ls first f t = (ls.flatten.drop x).take (y - x)) := fun x y hx hy hxy hl => cutL_some (by omega) (by omega) (by omega)
  obtain ⟨X, hX⟩ : ∃ X, X = ls.flatten := ⟨_, rfl⟩
  rw [← hX] at CJ HNO HYES hfl
  clear ha hz hG hX hA hB
  go_enter Try.func21, Try.ntmps21
  go_wp2_with fail
  refine CJ.out.mono ?_
  rintro e w1 ⟨a1', m1, c1, rfl, o1, hb1⟩
  have B1 : Hid (Bs w1 a1' m1 c1 X) := o1.toBs
  have hm1 : X.length = m1 := B1.out.len
  rw [hm1] at HNO hfl
  rw [hm1] at HYES
  clear o1 CJ hm1
  by_cases k1 : A < 0
  · have HE : Hid (cutL ls first f t = []) := HNO.out (Or.inl k1)
    clear HNO HYES
    go_wp2_with fail
    go_ret
    rw [HE.out]
    exact ⟨_, _, _, rfl, Bs.nil _, hb1⟩
  by_cases k2 : B < A
  · have HE : Hid (cutL ls first f t = []) := HNO.out (Or.inr (Or.inl k2))
    clear HNO HYES
    go_wp2_with fail
    go_ret
    rw [HE.out]
    exact ⟨_, _, _, rfl, Bs.nil _, hb1⟩
  by_cases k3 : (m1 : Int) < B
  · have HE : Hid (cutL ls first f t = []) := HNO.out (Or.inr (Or.inr k3))
    clear HNO HYES
    go_wp2_with fail
    go_ret
    rw [HE.out]
    exact ⟨_, _, _, rfl, Bs.nil _, hb1⟩
  obtain ⟨x, hx⟩ : ∃ x : Nat, A = x := ⟨A.toNat, by omega⟩
  obtain ⟨y, hy⟩ : ∃ y : Nat, B = y := ⟨B.toNat, by omega⟩
  have HE : Hid (cutL ls first f t = (X.drop x).take (y - x)) := HYES.out x y hx hy (by omega) (by omega)
  subst hx hy
  obtain ⟨pa, pc, hcut, hcb⟩ := Bs.cut2 B1.out x y (by omega) (by omega)
  have R1 : Hid (Bs w1 pa (y - x) pc ((X.drop x).take (y - x))) := hcb w1 B1.out
  obtain ⟨R, hR⟩ : ∃ R, R = y - x := ⟨_, rfl⟩
  rw [← hR] at R1 hcut HE
  clear HNO HYES hR hcb
  go_wp2_with fail
  go_ret
  rw [HE.out]
  exact ⟨_, _, _, rfl, R1.out, hb1⟩

end Go.Proofs.Ytfknplcnfpincaa

/-
  How an argument that is a slice of bytes is opened into a plain list. No condition; no statement of the seat is proved here.
-/
namespace Go.Proofs.Ytfknplcnfpincaa
open Go.RowKit Go.ChangeShapes Go.WideShapes Go.ChangeAt

theorem Bs.of_trod {H : Type} {enc : TypeId × Value → H} {W : World} {base : Nat} {held : Bool} {fuel : Nat} {a : Option Addr} {n c : Nat} {x : DataW H × List MemPlace}
    (h : DataW.trod enc Try.prog W base (fun _ => true) held fuel 22 [.slice a n c] = some x) : ∃ l, Bs W a n c l := by
  rcases open_ints Try.underlying22 Try.underlying5 (by kernel_rfl) h with ⟨hcs, _⟩ | ⟨x, l, c, zs, hcs, _, hl, hm, hz, _, hcell, hwz⟩
  · simp at hcs
    obtain ⟨rfl, rfl, rfl⟩ := hcs
    exact ⟨[], Bs.nil W⟩
  · simp at hcs
    obtain ⟨rfl, rfl, rfl⟩ := hcs
    exact Bs.of_row (zs := zs) (Or.inr ⟨_, rfl, hl, hm, by simpa using hz, hcell, hwz⟩)

end Go.Proofs.Ytfknplcnfpincaa

/-
  How an argument that is a slice of slices of bytes is opened into plain lists. No condition; no statement of the seat is proved here.
-/
namespace Go.Proofs.Ytfknplcnfpincaa
open Go.RowKit Go.ChangeShapes Go.WideShapes Go.ChangeAt

theorem Bss.of_trod {H : Type} {enc : TypeId × Value → H} {W : World} {base : Nat} {held : Bool} {fuel : Nat} {a : Option Addr} {n c : Nat} {x : DataW H × List MemPlace}
    (h : DataW.trod enc Try.prog W base (fun _ => true) held fuel 28 [.slice a n c] = some x) : ∃ ls, Bss W a n c ls := by
  rcases Deep.open_int_rows Try.underlying28 Try.underlying22 Try.underlying5 (by kernel_rfl) (by kernel_rfl) h with ⟨hcs, _⟩ | ⟨y, len, cap, A, L, C, Z, hcs, _, hl, hm, _, hrow⟩
  · simp at hcs
    obtain ⟨rfl, rfl, rfl⟩ := hcs
    exact ⟨[], rfl, Nat.le_refl _, Nat.zero_le _, fun i hi => by omega⟩
  · simp at hcs
    obtain ⟨rfl, rfl, rfl⟩ := hcs
    have hex : ∀ r, r < n → ∃ l, Bs W (A r) (L r) (C r) l := by
      intro r hr
      obtain ⟨_, h1, h2, h3, h4, h5, h6⟩ := hrow r (by omega)
      cases hA : A r with
      | none =>
        have := h5 hA
        exact Bs.of_row (zs := []) (Or.inl ⟨rfl, by omega, this, rfl⟩)
      | some x =>
        exact Bs.of_row (zs := Z r) (Or.inr ⟨x, rfl, h1, h2, h3, fun i hi => (h6 x hA).2 i (by omega), h4⟩)
    obtain ⟨f, hf⟩ := Deep.choose_lt hex
    refine ⟨(List.range n).map f, by simp, hl, hm, fun i hi => ?_⟩
    obtain ⟨b, o, s⟩ := y
    have hs : s = none := by
      have h0 := (hrow 0 (by omega)).1
      simpa [Addr.add] using World.cell?_spot h0
    subst hs
    refine ⟨b, o, A i, L i, C i, rfl, ?_, ?_⟩
    · have := (hrow i (by omega)).1
      rw [add_none] at this
      exact this
    · have e : ((List.range n).map f).getD i [] = f i := by simp [List.getD_eq_getElem?_getD, hi]
      rw [e]
      exact hf i hi
end Go.Proofs.Ytfknplcnfpincaa

/-
  Layer 12's reference's sealer in memory ('RS'); contracts of its Nonce and known. Conditions: a book of at most a thousand things.
-/
namespace Go.Proofs.Ytfknplcnfpincaa
open Go.RowKit
set_option linter.unusedVariables false

def elE (A : Nat → Prop) (w : World) (e : Ent) (vs : List Value) : Prop := ∃ p0 m0 q0 p1 m1 q1 p2 m2 q2 p3 m3 q3 p4 m4 q4, vs = [.slice p0 m0 q0, .slice p1 m1 q1, .slice p2 m2 q2, .slice p3 m3 q3, .slice p4 m4 q4] ∧ BA A w p0 m0 q0 e.key ∧ BA A w p1 m1 q1 e.nonce ∧ BA A w p2 m2 q2 e.beside ∧ BA A w p3 m3 q3 e.text ∧ BA A w p4 m4 q4 e.sealed
def elD (A : Nat → Prop) (w : World) (c : Kid) (vs : List Value) : Prop := ∃ p0 m0 q0 p1 m1 q1 p2 m2 q2, vs = [.slice p0 m0 q0, .slice p1 m1 q1, .slice p2 m2 q2] ∧ BA A w p0 m0 q0 c.up ∧ BA A w p1 m1 q1 c.what ∧ BA A w p2 m2 q2 (noiseL c.num 32)
theorem elE.keep {A : Nat → Prop} {w w' : World} (hs : w.heap.size ≤ w'.heap.size) (hk : ∀ j, j < w.heap.size → A j → w'.heap[j]? = w.heap[j]?) : ∀ c vs, elE A w c vs → elE A w' c vs := by
  rintro c vs ⟨p0, m0, q0, p1, m1, q1, p2, m2, q2, p3, m3, q3, p4, m4, q4, e, h0, h1, h2, h3, h4⟩
  exact ⟨p0, m0, q0, p1, m1, q1, p2, m2, q2, p3, m3, q3, p4, m4, q4, e, h0.keep hs hk, h1.keep hs hk, h2.keep hs hk, h3.keep hs hk, h4.keep hs hk⟩
theorem elD.keep {A : Nat → Prop} {w w' : World} (hs : w.heap.size ≤ w'.heap.size) (hk : ∀ j, j < w.heap.size → A j → w'.heap[j]? = w.heap[j]?) : ∀ c vs, elD A w c vs → elD A w' c vs := by
  rintro c vs ⟨p0, m0, q0, p1, m1, q1, p2, m2, q2, e, h0, h1, h2⟩
  exact ⟨p0, m0, q0, p1, m1, q1, p2, m2, q2, e, h0.keep hs hk, h1.keep hs hk, h2.keep hs hk⟩
/-- The two slices of the reference's sealer. -/
structure Du where
  ba : Option Addr
  bn : Nat
  bc : Nat
  ca : Option Addr
  cn : Nat
  cc : Nat
/-- Its cells. -/
def rsC (S : SeaS) (d : Du) : List Value := [.bool S.ideal, .slice d.ba d.bn d.bc, .slice d.ca d.cn d.cc, .int .u64 (S.count : Int), .bool S.reused, .bool S.forged]
def rsV (S : SeaS) (d : Du) : Value := .agg (rsC S d).toArray
theorem rsC_one (S : SeaS) (d : Du) : ∀ v ∈ rsC S d, v.oneCell' = true := by
  intro v hv
  simp only [rsC, List.mem_cons, List.not_mem_nil, or_false] at hv
  rcases hv with rfl | rfl | rfl | rfl | rfl | rfl <;> rfl
/-- The reference's sealer. -/
structure RS (A : Nat → Prop) (w : World) (S : SeaS) (d : Du) : Prop where
  book : Sl (elE A) 5 A w d.ba d.bn d.bc S.book
  kids : Sl (elD A) 3 A w d.ca d.cn d.cc S.kids
theorem RS.keep {A : Nat → Prop} {w w' : World} {S : SeaS} {d : Du} (h : RS A w S d) (hs : w.heap.size ≤ w'.heap.size) (hk : ∀ j, j < w.heap.size → A j → w'.heap[j]? = w.heap[j]?) : RS A w' S d :=
  ⟨h.book.keep hs (elE.keep hs hk) hk, h.kids.keep hs (elD.keep hs hk) hk⟩
theorem RS.grow {A : Nat → Prop} {w w' : World} {S : SeaS} {d : Du} (h : RS A w S d) (hb : Below w.heap.size w w') : RS A w' S d := h.keep hb.size fun j hj _ => hb.block j hj
theorem RS.kp {A F : Nat → Prop} {w w' : World} {S : SeaS} {d : Du} (h : RS A w S d) (k : Kp F w w') (hA : ∀ j, A j → ¬ F j) : RS A w' S d := h.keep k.size fun j hj ha => k.block j hj (hA j ha)
theorem sizeRS : (Try.prog.info? 37).map (·.size) = some 6 := by kernel_rfl
theorem sizeEn5 : (Try.prog.info? 87).map (·.size) = some 5 := by kernel_rfl
theorem sizeCh : (Try.prog.info? 174).map (·.size) = some 3 := by kernel_rfl

set_option maxHeartbeats 1000000 in
theorem rNonce12 (w : World) (h l : Nat) (hh : h ≤ 18446744073709551615) (hl : l ≤ 4294967295) :
    Calls Try.prog 30 #[.int .u64 (h : Int), .int .u32 (l : Int)] w (Gives w (nonL h l)) := by
  have hl2 : (l : Int) ≤ 4294967295 := by omega
  go_enter Try.func30, Try.ntmps30
  go_wp2_with fail
  refine (rPut 8 (h : Int) 8 w (by omega) (by omega) (by omega) (by omega) (by omega)).mono ?_
  rintro e w1 ⟨a1, m1, c1, rfl, o1, hb1⟩
  go_wp2_with fail
  refine (rPut 4 (l : Int) 4 w1 (by omega) (by omega) (by omega) (by omega) (by omega)).mono ?_
  rintro e w2 ⟨a2, m2, c2, rfl, o2, hb2⟩
  have q2 := hb1.trans (hb2.mono hb1.size)
  have O1 : Own w2 w.heap.size (.slice a1 m1 c1) (putL (h : Int).toNat (8 : Int).toNat) := o1.below hb2 (Nat.le_refl _)
  have O2 := o2.toBs
  go_wp2_with (at_builtin; refine wpList_app _ rfl (.tmp 6) (.tmp 9) rfl w.heap.size _ _ rfl O1 _ _ _ _ rfl O2 (by simp [putL_length]) q2.size ?_; intro v3 w3 o3 hb3)
  go_ret
  rw [Int.toNat_natCast, Int.toNat_natCast] at o3
  exact Gives.mk o3 (q2.trans hb3)

/-- What known answers. -/
def Knows (A : Nat → Prop) (o : Option (List UInt8)) (w : World) (e : Ending) (w' : World) : Prop := ∃ a m c, e = .returned (.tuple #[.slice a m c, .bool o.isSome]) ∧ BA A w' a m c (o.getD []) ∧ Below w.heap.size w w'
theorem known_step {S : SeaS} {k n b s : List UInt8} {i : Nat} {e : Ent} (hi : S.book[i]? = some e) (hn : ∀ x ∈ S.book.take i, x.is k n b s = false) (he : e.is k n b s = true) : S.known k n b s = some e.text := by
  have hs : S.book = S.book.take i ++ e :: S.book.drop (i + 1) := by
    have hlt := (List.getElem?_eq_some_iff.1 hi).1
    rw [← (List.getElem?_eq_some_iff.1 hi).2, List.getElem_cons_drop hlt, List.take_append_drop]
  unfold SeaS.known
  rw [hs, List.find?_append, List.find?_eq_none.2 (fun x hx => by rw [hn x hx]; decide), Option.none_or, List.find?_cons, he]
  rfl
theorem known_none {S : SeaS} {k n b s : List UInt8} (hn : ∀ x ∈ S.book, x.is k n b s = false) : S.known k n b s = none := by
  unfold SeaS.known
  rw [List.find?_eq_none.2 (fun x hx => by rw [hn x hx]; decide)]
  rfl
theorem take_all {α : Type} {P : α → Prop} {l : List α} {i : Nat} {x : α} (hi : l[i]? = some x) (h : ∀ y ∈ l.take i, P y) (hx : P x) : ∀ y ∈ l.take (i + 1), P y := by
  intro y hy
  rw [List.take_add_one, hi] at hy
  rcases List.mem_append.1 hy with hy | hy
  · exact h y hy
  · simp at hy
    subst hy
    exact hx

end Go.Proofs.Ytfknplcnfpincaa

/-
  The contract of layer 12's reference's known: the text of the first thing in the book that is so. Condition: a book of at most a thousand things.
-/
namespace Go.Proofs.Ytfknplcnfpincaa
open Go.RowKit
set_option linter.unusedVariables false

theorem sameD (w : World) {a b : Option Addr} {n c n' c' : Nat} {l m : List UInt8} (ha : Bs w a n c l) (hb : Bs w b n' c' m) : Calls Try.prog 19 #[.slice a n c, .slice b n' c'] w fun e w' => e = .returned (.bool (decide (l = m))) ∧ Below w.heap.size w w' :=
  (rSame w ha hb).mono (by
    rintro e w' ⟨rfl, k', rfl⟩
    exact ⟨rfl, below_drewN' _ _⟩)

end Go.Proofs.Ytfknplcnfpincaa
