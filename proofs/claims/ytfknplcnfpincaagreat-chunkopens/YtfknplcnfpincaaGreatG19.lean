/-
  3 texts in one. No statement of the seat is proved here.
-/
import Derived.Test.YtfknplcnfpincaaGreatG18

/-
  Contracts of layer 13's reference: Count, Cover, Piece, beside, padded, Cut. Conditions: sizes of at most 4000000; what a text is of at most 60 bytes; pieces of at most 100000 bytes in all.
-/
namespace Go.Proofs.YtfknplcnfpincaaGreat
open Go.RowKit
set_option linter.unusedVariables false

theorem cnt_least {n k : Nat} (h1 : 1 ≤ k) (h : n ≤ 496 * k) : cnt n ≤ k := by unfold cnt; split <;> omega
set_option maxHeartbeats 400000 in
theorem rCount (w : World) (n : Nat) (hn : n ≤ 4000000) : Calls Tryz.prog 24 #[.int .i64 (n : Int)] w fun e w' => e = .returned (.int .i64 (cnt n : Int)) ∧ w = w' := by
  have hcl := cnt_small hn
  have HCV : Hid (n ≤ 496 * cnt n) := cnt_cover n
  have HP : Hid (1 ≤ cnt n) := cnt_pos n
  have HLS : Hid (∀ k, 1 ≤ k → n ≤ 496 * k → cnt n ≤ k) := fun k => cnt_least
  obtain ⟨C, hC⟩ : ∃ C, C = cnt n := ⟨_, rfl⟩
  rw [← hC] at hcl HCV HP HLS ⊢
  clear hC
  go_enter Tryz.func24, Tryz.ntmps24
  go_wp2_with fail
  go_loopw [3] (fun v wr => ∃ k : Nat, 1 ≤ k ∧ k ≤ C ∧ v = .int .i64 (k : Int) ∧ w = wr) (fun v _ => C - (intOf v).toNat)
  case atStart => exact ⟨1, Nat.le_refl _, HP.out, rfl, rfl⟩
  case round =>
    obtain ⟨k, hk1, hk, rfl, rfl⟩ := hrel
    obtain ⟨P, hP⟩ : ∃ P, P = 496 * k := ⟨_, rfl⟩
    have hm : (k : Int) * 496 = (P : Int) := by omega
    have hPl : P ≤ 5000000 := by omega
    by_cases hlt : P < n
    · have i0 : (P : Int) < (n : Int) := by omega
      have hkC : k + 1 ≤ C := by have := HCV.out; omega
      clear hP
      go_wp2_with fail
      go_roundw
      case rel => exact ⟨k + 1, by omega, hkC, by go_num, (by first | rfl | trivial)⟩
      case measure => simp [intOf]; omega
    · have i0 : ¬ (P : Int) < (n : Int) := by omega
      obtain rfl : k = C := by have := HLS.out k hk1 (by omega); omega
      clear hP
      go_wp2_with fail
      go_ret
      exact ⟨rfl, rfl⟩

set_option maxHeartbeats 400000 in
theorem rPiece {w0 : World} {a : Option Addr} {n c : Nat} {t : List UInt8} (h : Bs w0 a n c t) (hn : n ≤ 4000000) (i : Nat) (hi' : i < cnt n) :
    ∃ a' c', (∀ u, Calls Tryz.prog 28 #[.slice a n c, .int .i64 (i : Int)] u fun e w' => e = .returned (.slice a' (plen n i) c') ∧ u = w') ∧ ∀ A u, BA A u a n c t → BA A u a' (plen n i) c' (piece t i) := by
  have hin := cnt_below hi'
  obtain ⟨L, hL⟩ : ∃ L, L = 496 * i := ⟨_, rfl⟩
  have hL2 : L = lo n i := by unfold lo; omega
  obtain ⟨H, hH⟩ : ∃ H, H = hi n i := ⟨_, rfl⟩
  have hPL : H - L = plen n i := by rw [hL2, hH]; exact lo_hi n i
  have htl := h.len
  have hPC : (t.drop L).take (H - L) = piece t i := by
    have := piece_cut t i
    rw [htl, ← hL2, ← hH] at this
    exact this
  have hLH : L ≤ H := by rw [hL2, hH]; exact lo_le n i
  have hHn : H ≤ n := by rw [hH]; exact hi_le n i
  obtain ⟨a', c', hcut, hcb⟩ := BA.cut2 h L H hLH hHn
  rw [hPC] at hcb
  rw [hPL] at hcut hcb
  refine ⟨a', c', fun u => ?_, hcb⟩
  have hm : (496 : Int) * (i : Int) = (L : Int) := by omega
  have hcl := cnt_small hn
  have hil : i ≤ 10000 := by omega
  obtain ⟨P, hP⟩ : ∃ P, P = plen n i := ⟨_, rfl⟩
  rw [← hP] at hcut ⊢
  obtain ⟨E, hE⟩ : ∃ E, E = L + 496 := ⟨_, rfl⟩
  have he : (L : Int) + 496 = (E : Int) := by omega
  have hEl : E ≤ 5000000 := by omega
  have hLl : L ≤ 5000000 := by omega
  have hHE : H = min E n := by rw [hH, hE, hL]; rfl
  clear hcb hPC hPL hL2 hH hL h htl hin hi' hP hE
  by_cases hc : n < E
  · obtain rfl : H = n := by omega
    have j0 : (H : Int) < (E : Int) := by omega
    have j1 : ¬ (H : Int) < (L : Int) := by omega
    clear hHE
    go_enter Tryz.func28, Tryz.ntmps28
    go_wp2_with fail
    go_ret
    exact ⟨rfl, rfl⟩
  · obtain rfl : H = E := by omega
    have j0 : ¬ (n : Int) < (H : Int) := by omega
    have j1 : ¬ (H : Int) < (L : Int) := by omega
    clear hHE
    go_enter Tryz.func28, Tryz.ntmps28
    go_wp2_with fail
    go_ret
    exact ⟨rfl, rfl⟩

set_option maxHeartbeats 1000000 in
theorem rBeside (w : World) {a : Option Addr} {m c : Nat} {l : List UInt8} (h : Bs w a m c l) (hm : m ≤ 60) (i : Nat) (hi' : i ≤ 4000000) (last : Bool) :
    Calls Tryz.prog 27 #[.slice a m c, .int .i64 (i : Int), .bool last] w (Gives w (bes l i last)) := by
  have HW : Hid (Bs w a m c l) := h
  have hll : l.length ≤ 60 := by rw [h.len]; exact hm
  clear h
  have H5G : Hid (∀ w4 x3 x a4 m4 c4 (y : UInt8), Bs w4 (some ⟨x3, 0, none⟩) 5 5 [99, 104, 117, 110, 107] → Below w.heap.size w w4 → Bs w4 a4 m4 c4 (putL i 4) → Bs w4 (some ⟨x, 0, none⟩) 1 1 [y] → Bss (w4.alloc (.cells #[.slice (some ⟨x3, 0, none⟩) 5 5, .slice a m c, .slice a4 m4 c4, .slice (some ⟨x, 0, none⟩) 1 1] 22)) (some ⟨w4.heap.size, 0, none⟩) 4 4 [[99, 104, 117, 110, 107], l, putL i 4, [y]]) := fun w4 x3 x a4 m4 c4 y h1 h2 h3 h4 => Bss.four h1 (HW.out.below h2 (Nat.le_refl _)) h3 h4
  cases last with
  | true =>
    have B1 : Blk ((w.alloc (.cells #[.int .u8 0] 5)).alloc (.cells #[.int .u8 1] 5)) (w.heap.size + 1) [.int .u8 (((1 : UInt8).toNat : Nat) : Int)] 5 := by
      have := Blk.new (w.alloc (.cells #[.int .u8 0] 5)) #[.int .u8 1] 5
      rwa [show (w.alloc (.cells #[.int .u8 0] 5)).heap.size = w.heap.size + 1 from by simp] at this
    have b1 : Below w.heap.size w ((w.alloc (.cells #[.int .u8 0] 5)).alloc (.cells #[.int .u8 1] 5)) := below2 w _ _
    go_enter Tryz.func27, Tryz.ntmps27
    go_upto_region 4 with fail
    obtain ⟨x, hx⟩ : ∃ x, x = w.heap.size + 1 := ⟨_, rfl⟩
    rw [← hx] at B1 ⊢
    clear hx
    generalize (w.alloc (.cells #[.int .u8 0] 5)).alloc (.cells #[.int .u8 1] 5) = w1 at *
    have kc := fun (w : World) (C : Array Value) (n c : Nat) => Lib.run_convert_bytes_const (P := Tryz.prog) w 22 5 C n c Tryz.underlying22 Tryz.underlying5
    have X3 : Hid (Bs (w1.alloc (.cells #[.int .u8 99, .int .u8 104, .int .u8 117, .int .u8 110, .int .u8 107] 5 (5, 6))) (some ⟨w1.heap.size, 0, none⟩) 5 5 [99, 104, 117, 110, 107]) := Bs.marked w1 [99, 104, 117, 110, 107] _ (5, 6) rfl (by decide)
    have b3 : Hid (Below w1.heap.size w1 (w1.alloc (.cells #[.int .u8 99, .int .u8 104, .int .u8 117, .int .u8 110, .int .u8 107] 5 (5, 6)))) := below_alloc w1 _
    have B2 : Hid (Blk w1 x [.int .u8 (((1 : UInt8).toNat : Nat) : Int)] 5) := B1
    have b2 : Hid (Below w.heap.size w w1) := b1
    clear B1 b1
    go_wp2_with fail
    clear kc
    generalize w1.alloc (.cells #[.int .u8 99, .int .u8 104, .int .u8 117, .int .u8 110, .int .u8 107] 5 (5, 6)) = w3 at *
    obtain ⟨x3, hx3⟩ : ∃ x, x = w1.heap.size := ⟨_, rfl⟩
    rw [← hx3] at X3 ⊢
    have Q3 : Hid (Below w.heap.size w w3) := b2.out.trans (b3.out.mono b2.out.size)
    have L3 : Hid (Bs w3 (some ⟨x, 0, none⟩) 1 1 [1]) := (Bs.ofBlk1 (B2.out)).below b3.out (Nat.le_refl _)
    clear hx3 b2 b3 B2
    refine (rPut 4 (i : Int) 4 w3 (by omega) (by omega) (by omega) (by omega) (by omega)).mono ?_
    rintro e w4 ⟨a4, m4, c4, rfl, o4, hb4⟩
    have P4 : Hid (Bs w4 a4 m4 c4 (putL i 4)) := o4.toBs
    have Q4 : Hid (Below w.heap.size w w4) := Q3.out.trans (hb4.mono Q3.out.size)
    have X4 : Hid (Bs w4 (some ⟨x3, 0, none⟩) 5 5 [99, 104, 117, 110, 107]) := X3.out.below hb4 (Nat.le_refl _)
    have L4 : Hid (Bs w4 (some ⟨x, 0, none⟩) 1 1 [1]) := L3.out.below hb4 (Nat.le_refl _)
    clear o4 hb4 X3 L3 Q3
    have H5 : Hid (Bss (w4.alloc (.cells #[.slice (some ⟨x3, 0, none⟩) 5 5, .slice a m c, .slice a4 m4 c4, .slice (some ⟨x, 0, none⟩) 1 1] 22)) (some ⟨w4.heap.size, 0, none⟩) 4 4 [[99, 104, 117, 110, 107], l, putL i 4, [1]]) := H5G.out w4 x3 x a4 m4 c4 1 X4.out Q4.out P4.out L4.out
    have b5 : Hid (Below w4.heap.size w4 (w4.alloc (.cells #[.slice (some ⟨x3, 0, none⟩) 5 5, .slice a m c, .slice a4 m4 c4, .slice (some ⟨x, 0, none⟩) 1 1] 22))) := below_alloc w4 _
    go_wp2_with fail
    generalize w4.alloc (.cells #[.slice (some ⟨x3, 0, none⟩) 5 5, .slice a m c, .slice a4 m4 c4, .slice (some ⟨x, 0, none⟩) 1 1] 22) = w5 at *
    refine (rPack w5 H5.out (bes_tot hll i [1] rfl) (by omega)).mono ?_
    rintro e w6 ⟨a6, m6, c6, rfl, o6, hb6⟩
    have Q5 := Q4.out.trans (b5.out.mono Q4.out.size)
    have Q6 := Q5.trans (hb6.mono Q5.size)
    have O6 := o6.mono Q5.size
    clear H5 b5 X4 L4 P4 Q4 o6 hb6
    go_wp2_with fail
    go_ret
    exact ⟨a6, m6, c6, rfl, O6, Q6⟩
  | false =>
    have B1 : Blk (w.alloc (.cells #[.int .u8 0] 5)) w.heap.size [.int .u8 (((0 : UInt8).toNat : Nat) : Int)] 5 := Blk.new w _ _
    have b1 : Below w.heap.size w (w.alloc (.cells #[.int .u8 0] 5)) := below_alloc w _
    go_enter Tryz.func27, Tryz.ntmps27
    go_upto_region 4 with fail
    obtain ⟨x, hx⟩ : ∃ x, x = w.heap.size := ⟨_, rfl⟩
    rw [← hx] at B1 ⊢
    clear hx
    generalize w.alloc (.cells #[.int .u8 0] 5) = w1 at *
    have kc := fun (w : World) (C : Array Value) (n c : Nat) => Lib.run_convert_bytes_const (P := Tryz.prog) w 22 5 C n c Tryz.underlying22 Tryz.underlying5
    have X3 : Hid (Bs (w1.alloc (.cells #[.int .u8 99, .int .u8 104, .int .u8 117, .int .u8 110, .int .u8 107] 5 (5, 6))) (some ⟨w1.heap.size, 0, none⟩) 5 5 [99, 104, 117, 110, 107]) := Bs.marked w1 [99, 104, 117, 110, 107] _ (5, 6) rfl (by decide)
    have b3 : Hid (Below w1.heap.size w1 (w1.alloc (.cells #[.int .u8 99, .int .u8 104, .int .u8 117, .int .u8 110, .int .u8 107] 5 (5, 6)))) := below_alloc w1 _
    have B2 : Hid (Blk w1 x [.int .u8 (((0 : UInt8).toNat : Nat) : Int)] 5) := B1
    have b2 : Hid (Below w.heap.size w w1) := b1
    clear B1 b1
    go_wp2_with fail
    clear kc
    generalize w1.alloc (.cells #[.int .u8 99, .int .u8 104, .int .u8 117, .int .u8 110, .int .u8 107] 5 (5, 6)) = w3 at *
    obtain ⟨x3, hx3⟩ : ∃ x, x = w1.heap.size := ⟨_, rfl⟩
    rw [← hx3] at X3 ⊢
    have Q3 : Hid (Below w.heap.size w w3) := b2.out.trans (b3.out.mono b2.out.size)
    have L3 : Hid (Bs w3 (some ⟨x, 0, none⟩) 1 1 [0]) := (Bs.ofBlk1 (B2.out)).below b3.out (Nat.le_refl _)
    clear hx3 b2 b3 B2
    refine (rPut 4 (i : Int) 4 w3 (by omega) (by omega) (by omega) (by omega) (by omega)).mono ?_
    rintro e w4 ⟨a4, m4, c4, rfl, o4, hb4⟩
    have P4 : Hid (Bs w4 a4 m4 c4 (putL i 4)) := o4.toBs
    have Q4 : Hid (Below w.heap.size w w4) := Q3.out.trans (hb4.mono Q3.out.size)
    have X4 : Hid (Bs w4 (some ⟨x3, 0, none⟩) 5 5 [99, 104, 117, 110, 107]) := X3.out.below hb4 (Nat.le_refl _)
    have L4 : Hid (Bs w4 (some ⟨x, 0, none⟩) 1 1 [0]) := L3.out.below hb4 (Nat.le_refl _)
    clear o4 hb4 X3 L3 Q3
    have H5 : Hid (Bss (w4.alloc (.cells #[.slice (some ⟨x3, 0, none⟩) 5 5, .slice a m c, .slice a4 m4 c4, .slice (some ⟨x, 0, none⟩) 1 1] 22)) (some ⟨w4.heap.size, 0, none⟩) 4 4 [[99, 104, 117, 110, 107], l, putL i 4, [0]]) := H5G.out w4 x3 x a4 m4 c4 0 X4.out Q4.out P4.out L4.out
    have b5 : Hid (Below w4.heap.size w4 (w4.alloc (.cells #[.slice (some ⟨x3, 0, none⟩) 5 5, .slice a m c, .slice a4 m4 c4, .slice (some ⟨x, 0, none⟩) 1 1] 22))) := below_alloc w4 _
    go_wp2_with fail
    generalize w4.alloc (.cells #[.slice (some ⟨x3, 0, none⟩) 5 5, .slice a m c, .slice a4 m4 c4, .slice (some ⟨x, 0, none⟩) 1 1] 22) = w5 at *
    refine (rPack w5 H5.out (bes_tot hll i [0] rfl) (by omega)).mono ?_
    rintro e w6 ⟨a6, m6, c6, rfl, o6, hb6⟩
    have Q5 := Q4.out.trans (b5.out.mono Q4.out.size)
    have Q6 := Q5.trans (hb6.mono Q5.size)
    have O6 := o6.mono Q5.size
    clear H5 b5 X4 L4 P4 Q4 o6 hb6
    go_wp2_with fail
    go_ret
    exact ⟨a6, m6, c6, rfl, O6, Q6⟩

/-- A slice's length. -/
def lenV13 : Value → Nat | .slice _ n _ => n | _ => 0
set_option maxRecDepth 100000 in
set_option maxHeartbeats 1000000 in
theorem rPadded (w : World) {a : Option Addr} {m c : Nat} {l : List UInt8} (h : Bs w a m c l) (hm : m ≤ 512) : Calls Tryz.prog 29 #[.slice a m c] w (Gives w (pad l)) := by
  have hl := h.len
  have HL : Hid (l.length = m) := hl
  have HB : Hid (Bs w a m c l) := h
  clear h hl
  go_enter Tryz.func29, Tryz.ntmps29
  go_wp2_with (at_builtin; refine wpList_app w rfl (.tmp 4) (.tmp 5) rfl w.heap.size (.slice none 0 0) [] rfl (Own.nil _ _) a m c l rfl HB.out (by rw [HL.out]; simp; omega) (Nat.le_refl _) ?_; intro v1 w1 o1 hb1; have O1 : Hid (Own w1 w.heap.size v1 ([] ++ l)) := o1; clear o1)
  obtain ⟨a1, c1, hv1, _⟩ := O1.out.bs
  subst hv1
  have O2 : Hid (Own w1 w.heap.size (.slice a1 m c1) (l ++ List.replicate 0 0)) := by show Own _ _ _ _; have := O1.out; rw [List.nil_append, HL.out] at this; simpa using this
  rw [List.nil_append, HL.out]
  clear O1
  go_loopw [3] (fun v wr => ∃ (k : Nat) (oa : Option Addr) (on oc : Nat), m + k ≤ 512 ∧ Hid (on = m + k) ∧ v = .slice oa on oc ∧ Hid (Own wr w.heap.size (.slice oa on oc) (l ++ List.replicate k 0)) ∧ Below w.heap.size w wr) (fun v _ => 512 - lenV13 v)
  case atStart => exact ⟨0, a1, m, c1, hm, rfl, rfl, O2, hb1⟩
  case round =>
    obtain ⟨k, oa, on, oc, hk, hon, rfl, ho, hb⟩ := hrel
    by_cases hlt : on < 512
    · have i0 : (on : Int) < 512 := by omega
      have X2 : Bs (wr.alloc (.cells #[.int .u8 0] 5)) (some ⟨wr.heap.size, 0, none⟩) 1 1 [0] := Bs.made wr [0] _ rfl (by decide)
      have ho2 : Own (wr.alloc (.cells #[.int .u8 0] 5)) w.heap.size (.slice oa on oc) (l ++ List.replicate k 0) := ho.out.below (below_alloc wr _) (Nat.le_refl _)
      have hb2 : Below w.heap.size w (wr.alloc (.cells #[.int .u8 0] 5)) := hb.trans ((below_alloc wr _).mono hb.size)
      have HX : Hid (Bs (wr.alloc (.cells #[.int .u8 0] 5)) (some ⟨wr.heap.size, 0, none⟩) 1 1 [0]) := X2
      have HO2 : Hid (Own (wr.alloc (.cells #[.int .u8 0] 5)) w.heap.size (.slice oa on oc) (l ++ List.replicate k 0)) := ho2
      have HB2 : Hid (Below w.heap.size w (wr.alloc (.cells #[.int .u8 0] 5))) := hb2
      have hsz : w.heap.size ≤ (wr.alloc (.cells #[.int .u8 0] 5)).heap.size := hb2.size
      have HR : Hid ((l ++ List.replicate k (0 : UInt8)).length + [(0 : UInt8)].length ≤ 1000000000) := by show _ ≤ _; simp [HL.out]; omega
      have HSZ : Hid (w.heap.size ≤ (wr.alloc (.cells #[.int .u8 0] 5)).heap.size) := hsz
      clear X2 ho2 hb2 ho hsz
      go_wp2_with (at_builtin; refine wpList_app (wr.alloc (.cells #[.int .u8 0] 5)) rfl (.tmp 10) (.tmp 11) rfl w.heap.size (.slice oa on oc) _ rfl HO2.out (some ⟨wr.heap.size, 0, none⟩) 1 1 [0] rfl HX.out HR.out HSZ.out ?_; intro v3 w3 o3 hb3; have O3 : Hid (Own w3 w.heap.size v3 (l ++ List.replicate (k + 1) 0)) := (by rw [List.append_assoc, ← List.replicate_succ'] at o3; exact o3); clear o3)
      obtain ⟨oa3, oc3, hv3, _⟩ := O3.out.bs
      subst hv3
      have hl3 : (l ++ List.replicate (k + 1) (0 : UInt8)).length = on + 1 := by have := hon.out; simp [HL.out]; omega
      rw [hl3] at O3 ⊢
      go_roundw
      case rel => exact ⟨k + 1, oa3, on + 1, oc3, by have := hon.out; omega, by show _ = _; have := hon.out; omega, rfl, O3, HB2.out.trans hb3⟩
      case measure => simp [lenV13]; omega
    · have i0 : ¬ (on : Int) < 512 := by omega
      have HE : Hid (l ++ List.replicate k 0 = pad l) := by
        show _ = _
        unfold pad
        rw [HL.out, show 512 - m = k from by have := hon.out; omega]
      go_wp2_with fail
      go_ret
      exact Gives.mk (HE.out ▸ ho.out) hb

end Go.Proofs.YtfknplcnfpincaaGreat

/-
  Layer 12's reference's sealer in memory ('RS'); contracts of its Nonce and known. Conditions: a book of at most a thousand things.
-/
namespace Go.Proofs.YtfknplcnfpincaaGreat
open Go.RowKit
set_option linter.unusedVariables false

def elE (A : Nat → Prop) (w : World) (e : Ent) (vs : List Value) : Prop := ∃ p0 m0 q0 p1 m1 q1 p2 m2 q2 p3 m3 q3 p4 m4 q4, vs = [.slice p0 m0 q0, .slice p1 m1 q1, .slice p2 m2 q2, .slice p3 m3 q3, .slice p4 m4 q4] ∧ BA A w p0 m0 q0 e.key ∧ BA A w p1 m1 q1 e.nonce ∧ BA A w p2 m2 q2 e.beside ∧ BA A w p3 m3 q3 e.text ∧ BA A w p4 m4 q4 e.sealed
def elD (A : Nat → Prop) (w : World) (c : Kid) (vs : List Value) : Prop := ∃ p0 m0 q0 p1 m1 q1 p2 m2 q2, vs = [.slice p0 m0 q0, .slice p1 m1 q1, .slice p2 m2 q2] ∧ BA A w p0 m0 q0 c.up ∧ BA A w p1 m1 q1 c.what ∧ BA A w p2 m2 q2 (noiseL c.num 32)
theorem elE.keep {A : Nat → Prop} {w w' : World} (hs : w.heap.size ≤ w'.heap.size) (hk : ∀ j, j < w.heap.size → A j → w'.heap[j]? = w.heap[j]?) : ∀ c vs, elE A w c vs → elE A w' c vs := by
  rintro c vs ⟨p0, m0, q0, p1, m1, q1, p2, m2, q2, p3, m3, q3, p4, m4, q4, e, h0, h1, h2, h3, h4⟩
  exact ⟨p0, m0, q0, p1, m1, q1, p2, m2, q2, p3, m3, q3, p4, m4, q4, e, h0.keep hs hk, h1.keep hs hk, h2.keep hs hk, h3.keep hs hk, h4.keep hs hk⟩
theorem elD.keep {A : Nat → Prop} {w w' : World} (hs : w.heap.size ≤ w'.heap.size) (hk : ∀ j, j < w.heap.size → A j → w'.heap[j]? = w.heap[j]?) : ∀ c vs, elD A w c vs → elD A w' c vs := by
  rintro c vs ⟨p0, m0, q0, p1, m1, q1, p2, m2, q2, e, h0, h1, h2⟩
  exact ⟨p0, m0, q0, p1, m1, q1, p2, m2, q2, e, h0.keep hs hk, h1.keep hs hk, h2.keep hs hk⟩
/-- The two slices of the reference's sealer. -/
structure Du where
  ba : Option Addr
  bn : Nat
  bc : Nat
  ca : Option Addr
  cn : Nat
  cc : Nat
/-- Its cells. -/
def rsC (S : SeaS) (d : Du) : List Value := [.bool S.ideal, .slice d.ba d.bn d.bc, .slice d.ca d.cn d.cc, .int .u64 (S.count : Int), .bool S.reused, .bool S.forged]
def rsV (S : SeaS) (d : Du) : Value := .agg (rsC S d).toArray
theorem rsC_one (S : SeaS) (d : Du) : ∀ v ∈ rsC S d, v.oneCell' = true := by
  intro v hv
  simp only [rsC, List.mem_cons, List.not_mem_nil, or_false] at hv
  rcases hv with rfl | rfl | rfl | rfl | rfl | rfl <;> rfl
/-- The reference's sealer. -/
structure RS (A : Nat → Prop) (w : World) (S : SeaS) (d : Du) : Prop where
  book : Sl (elE A) 5 A w d.ba d.bn d.bc S.book
  kids : Sl (elD A) 3 A w d.ca d.cn d.cc S.kids
theorem RS.keep {A : Nat → Prop} {w w' : World} {S : SeaS} {d : Du} (h : RS A w S d) (hs : w.heap.size ≤ w'.heap.size) (hk : ∀ j, j < w.heap.size → A j → w'.heap[j]? = w.heap[j]?) : RS A w' S d :=
  ⟨h.book.keep hs (elE.keep hs hk) hk, h.kids.keep hs (elD.keep hs hk) hk⟩
theorem RS.grow {A : Nat → Prop} {w w' : World} {S : SeaS} {d : Du} (h : RS A w S d) (hb : Below w.heap.size w w') : RS A w' S d := h.keep hb.size fun j hj _ => hb.block j hj
theorem RS.kp {A F : Nat → Prop} {w w' : World} {S : SeaS} {d : Du} (h : RS A w S d) (k : Kp F w w') (hA : ∀ j, A j → ¬ F j) : RS A w' S d := h.keep k.size fun j hj ha => k.block j hj (hA j ha)
theorem sizeRS : (Tryz.prog.info? 37).map (·.size) = some 6 := by kernel_rfl
theorem sizeEn5 : (Tryz.prog.info? 84).map (·.size) = some 5 := by kernel_rfl
theorem sizeCh : (Tryz.prog.info? 173).map (·.size) = some 3 := by kernel_rfl

set_option maxHeartbeats 1000000 in
theorem rNonce12 (w : World) (h l : Nat) (hh : h ≤ 18446744073709551615) (hl : l ≤ 4294967295) :
    Calls Tryz.prog 26 #[.int .u64 (h : Int), .int .u32 (l : Int)] w (Gives w (nonL h l)) := by
  have hl2 : (l : Int) ≤ 4294967295 := by omega
  go_enter Tryz.func26, Tryz.ntmps26
  go_wp2_with fail
  refine (rPut 8 (h : Int) 8 w (by omega) (by omega) (by omega) (by omega) (by omega)).mono ?_
  rintro e w1 ⟨a1, m1, c1, rfl, o1, hb1⟩
  go_wp2_with fail
  refine (rPut 4 (l : Int) 4 w1 (by omega) (by omega) (by omega) (by omega) (by omega)).mono ?_
  rintro e w2 ⟨a2, m2, c2, rfl, o2, hb2⟩
  have q2 := hb1.trans (hb2.mono hb1.size)
  have O1 : Own w2 w.heap.size (.slice a1 m1 c1) (putL (h : Int).toNat (8 : Int).toNat) := o1.below hb2 (Nat.le_refl _)
  have O2 := o2.toBs
  go_wp2_with (at_builtin; refine wpList_app _ rfl (.tmp 6) (.tmp 9) rfl w.heap.size _ _ rfl O1 _ _ _ _ rfl O2 (by simp [putL_length]) q2.size ?_; intro v3 w3 o3 hb3)
  go_ret
  rw [Int.toNat_natCast, Int.toNat_natCast] at o3
  exact Gives.mk o3 (q2.trans hb3)

/-- What known answers. -/
def Knows (A : Nat → Prop) (o : Option (List UInt8)) (w : World) (e : Ending) (w' : World) : Prop := ∃ a m c, e = .returned (.tuple #[.slice a m c, .bool o.isSome]) ∧ BA A w' a m c (o.getD []) ∧ Below w.heap.size w w'
theorem known_step {S : SeaS} {k n b s : List UInt8} {i : Nat} {e : Ent} (hi : S.book[i]? = some e) (hn : ∀ x ∈ S.book.take i, x.is k n b s = false) (he : e.is k n b s = true) : S.known k n b s = some e.text := by
  have hs : S.book = S.book.take i ++ e :: S.book.drop (i + 1) := by
    have hlt := (List.getElem?_eq_some_iff.1 hi).1
    rw [← (List.getElem?_eq_some_iff.1 hi).2, List.getElem_cons_drop hlt, List.take_append_drop]
  unfold SeaS.known
  rw [hs, List.find?_append, List.find?_eq_none.2 (fun x hx => by rw [hn x hx]; decide), Option.none_or, List.find?_cons, he]
  rfl
theorem known_none {S : SeaS} {k n b s : List UInt8} (hn : ∀ x ∈ S.book, x.is k n b s = false) : S.known k n b s = none := by
  unfold SeaS.known
  rw [List.find?_eq_none.2 (fun x hx => by rw [hn x hx]; decide)]
  rfl
theorem take_all {α : Type} {P : α → Prop} {l : List α} {i : Nat} {x : α} (hi : l[i]? = some x) (h : ∀ y ∈ l.take i, P y) (hx : P x) : ∀ y ∈ l.take (i + 1), P y := by
  intro y hy
  rw [List.take_add_one, hi] at hy
  rcases List.mem_append.1 hy with hy | hy
  · exact h y hy
  · simp at hy
    subst hy
    exact hx

end Go.Proofs.YtfknplcnfpincaaGreat

/-
  The contract of layer 12's reference's known: the text of the first thing in the book that is so. Condition: a book of at most a thousand things.
-/
namespace Go.Proofs.YtfknplcnfpincaaGreat
open Go.RowKit
set_option linter.unusedVariables false

theorem sameD (w : World) {a b : Option Addr} {n c n' c' : Nat} {l m : List UInt8} (ha : Bs w a n c l) (hb : Bs w b n' c' m) : Calls Tryz.prog 13 #[.slice a n c, .slice b n' c'] w fun e w' => e = .returned (.bool (decide (l = m))) ∧ Below w.heap.size w w' :=
  (rSame w ha hb).mono (by
    rintro e w' ⟨rfl, k', rfl⟩
    exact ⟨rfl, below_drewN' _ _⟩)

set_option maxRecDepth 100000 in
set_option maxHeartbeats 4000000 in
theorem rKnown12 (w : World) {A : Nat → Prop} {S : SeaS} {d : Du} (h : RS A w S d) {k n b s : List UInt8} {ak an ab as' : Option Addr} {nk ck nn cn nb cb ns cs' : Nat} (hk : Bs w ak nk ck k) (hn : Bs w an nn cn n) (hb : Bs w ab nb cb b) (hs : Bs w as' ns cs' s) (hz : S.book.length ≤ 1000) :
    Calls Tryz.prog 50 #[rsV S d, .slice ak nk ck, .slice an nn cn, .slice ab nb cb, .slice as' ns cs'] w (Knows A (S.known k n b s) w) := by
  have HR : Hid (RS A w S d) := h
  have HK : Hid (Bs w ak nk ck k) := hk
  have HN : Hid (Bs w an nn cn n) := hn
  have HB : Hid (Bs w ab nb cb b) := hb
  have HC : Hid (Bs w as' ns cs' s) := hs
  have hbl : S.book.length = d.bn := Sl.len h.book
  have HL : Hid (S.book.length = d.bn) := hbl
  have hbn : d.bn ≤ 1000 := by omega
  clear h hk hn hb hs hbl hz
  obtain ⟨ba, bn, bc, ca, cn', cc⟩ := d
  dsimp only at HL hbn
  unfold rsV rsC
  dsimp only
  go_enter Tryz.func50, Tryz.ntmps50
  go_wp2_with fail
  obtain ⟨x5, hx5⟩ : ∃ x, x = w.heap.size := ⟨_, rfl⟩
  have B5 := Blk.new w #[.bool S.ideal, .slice ba bn bc, .slice ca cn' cc, .int .u64 (S.count : Int), .bool S.reused, .bool S.forged] 37
  have q1 : Below w.heap.size w (w.alloc (.cells #[.bool S.ideal, .slice ba bn bc, .slice ca cn' cc, .int .u64 (S.count : Int), .bool S.reused, .bool S.forged] 37)) := below_alloc w _
  rw [← hx5] at B5 ⊢
  clear hx5
  generalize w.alloc (.cells #[.bool S.ideal, .slice ba bn bc, .slice ca cn' cc, .int .u64 (S.count : Int), .bool S.reused, .bool S.forged] 37) = w1 at *
  have HB5 : Hid (Blk w1 x5 [.bool S.ideal, .slice ba bn bc, .slice ca cn' cc, .int .u64 (S.count : Int), .bool S.reused, .bool S.forged] 37) := B5
  have Q1 : Hid (Below w.heap.size w w1) := q1
  clear B5 q1
  go_loopw [12] (fun i wr => ∃ t : Nat, t ≤ bn ∧ i = .int .i64 (t : Int) ∧ Hid ((∀ x ∈ S.book.take t, x.is k n b s = false) ∧ Below w1.heap.size w1 wr)) (fun i _ => bn - (intOf i).toNat)
  case atStart => exact ⟨0, Nat.zero_le _, rfl, fun x hx => by simp at hx, Below.refl _ _⟩
  case round =>
    obtain ⟨t, ht, rfl, HI⟩ := hrel
    have QR : Hid (Below w.heap.size w wr) := Q1.out.trans (HI.out.2.mono Q1.out.size)
    have BR := HB5.out.below HI.out.2 HB5.out.lt
    have c1 : wr.cell? ⟨x5, 1, none⟩ = some (.slice ba bn bc) := BR.cell 1
    have lx : x5 < wr.heap.size := BR.lt
    clear BR
    by_cases hlt : t < bn
    · have i0 : (t : Int) < (bn : Int) := by omega
      obtain ⟨e, he⟩ : ∃ e, S.book[t]? = some e := ⟨_, List.getElem?_eq_getElem (by rw [HL.out]; exact hlt)⟩
      obtain ⟨bb, oo, vs, hba, hlb, hrg, hvl, p0, m0, q0, p1, m1, q1, p2, m2, q2, p3, m3, q3, p4, m4, q4, rfl, b0, b1, b2, b3, b4⟩ := Sl.at (HR.out.grow QR.out).book he
      dsimp only at hba
      subst hba
      have e0 : wr.cell? ⟨bb, oo + t * 5, none⟩ = some (.slice p0 m0 q0) := hrg 0 _ rfl
      have e1 : wr.cell? ⟨bb, oo + t * 5 + 1, none⟩ = some (.slice p1 m1 q1) := hrg 1 _ rfl
      have e2 : wr.cell? ⟨bb, oo + t * 5 + 2, none⟩ = some (.slice p2 m2 q2) := hrg 2 _ rfl
      have e3 : wr.cell? ⟨bb, oo + t * 5 + 3, none⟩ = some (.slice p3 m3 q3) := hrg 3 _ rfl
      have e4 : wr.cell? ⟨bb, oo + t * 5 + 4, none⟩ = some (.slice p4 m4 q4) := hrg 4 _ rfl
      have hcb : bn ≤ bc := (Sl.cap HR.out.book).1
      have hcm : bc ≤ maxLen := (Sl.cap HR.out.book).2
      have G0 : Hid (BA A wr p0 m0 q0 e.key) := b0
      have G1 : Hid (BA A wr p1 m1 q1 e.nonce) := b1
      have G2 : Hid (BA A wr p2 m2 q2 e.beside) := b2
      have G3 : Hid (BA A wr p3 m3 q3 e.text) := b3
      have G4 : Hid (BA A wr p4 m4 q4 e.sealed) := b4
      have HE : Hid (S.book[t]? = some e) := he
      obtain ⟨D0, hD0⟩ : ∃ D, D = decide (e.key = k) := ⟨_, rfl⟩
      obtain ⟨D1, hD1⟩ : ∃ D, D = decide (e.nonce = n) := ⟨_, rfl⟩
      obtain ⟨D2, hD2⟩ : ∃ D, D = decide (e.beside = b) := ⟨_, rfl⟩
      obtain ⟨D3, hD3⟩ : ∃ D, D = decide (e.sealed = s) := ⟨_, rfl⟩
      have C0 : Hid (∀ u, Below wr.heap.size wr u → Calls Tryz.prog 13 #[.slice p0 m0 q0, .slice ak nk ck] u fun e w' => e = .returned (.bool D0) ∧ Below u.heap.size u w') := fun u hu => by rw [hD0]; exact sameD u (G0.out.below' hu).1 (HK.out.below (QR.out.trans (hu.mono QR.out.size)) (Nat.le_refl _))
      have C1 : Hid (∀ u, Below wr.heap.size wr u → Calls Tryz.prog 13 #[.slice p1 m1 q1, .slice an nn cn] u fun e w' => e = .returned (.bool D1) ∧ Below u.heap.size u w') := fun u hu => by rw [hD1]; exact sameD u (G1.out.below' hu).1 (HN.out.below (QR.out.trans (hu.mono QR.out.size)) (Nat.le_refl _))
      have C2 : Hid (∀ u, Below wr.heap.size wr u → Calls Tryz.prog 13 #[.slice p2 m2 q2, .slice ab nb cb] u fun e w' => e = .returned (.bool D2) ∧ Below u.heap.size u w') := fun u hu => by rw [hD2]; exact sameD u (G2.out.below' hu).1 (HB.out.below (QR.out.trans (hu.mono QR.out.size)) (Nat.le_refl _))
      have C3 : Hid (∀ u, Below wr.heap.size wr u → Calls Tryz.prog 13 #[.slice p4 m4 q4, .slice as' ns cs'] u fun e w' => e = .returned (.bool D3) ∧ Below u.heap.size u w') := fun u hu => by rw [hD3]; exact sameD u (G4.out.below' hu).1 (HC.out.below (QR.out.trans (hu.mono QR.out.size)) (Nat.le_refl _))
      have HD : Hid (e.is k n b s = (D0 && D1 && D2 && D3)) := by show _ = _; rw [hD0, hD1, hD2, hD3]; rfl
      have q2' : Below wr.heap.size wr (wr.alloc (.cells #[.slice p0 m0 q0, .slice p1 m1 q1, .slice p2 m2 q2, .slice p3 m3 q3, .slice p4 m4 q4] 84)) := below_alloc wr _
      have BE := Blk.new wr #[.slice p0 m0 q0, .slice p1 m1 q1, .slice p2 m2 q2, .slice p3 m3 q3, .slice p4 m4 q4] 84
      have Q2 : Hid (Below wr.heap.size wr (wr.alloc (.cells #[.slice p0 m0 q0, .slice p1 m1 q1, .slice p2 m2 q2, .slice p3 m3 q3, .slice p4 m4 q4] 84))) := q2'
      clear b0 b1 b2 b3 b4 hrg he hD0 hD1 hD2 hD3 q2'
      go_wp2_with fail
      obtain ⟨xe, hxe⟩ : ∃ x, x = wr.heap.size := ⟨_, rfl⟩
      rw [← hxe] at BE ⊢
      have HBE : Hid (Blk (wr.alloc (.cells #[.slice p0 m0 q0, .slice p1 m1 q1, .slice p2 m2 q2, .slice p3 m3 q3, .slice p4 m4 q4] 84)) xe [.slice p0 m0 q0, .slice p1 m1 q1, .slice p2 m2 q2, .slice p3 m3 q3, .slice p4 m4 q4] 84) := BE
      clear hxe BE c1 lx e0 e1 e2 e3 e4
      generalize wr.alloc (.cells #[.slice p0 m0 q0, .slice p1 m1 q1, .slice p2 m2 q2, .slice p3 m3 q3, .slice p4 m4 q4] 84) = w2 at *
      refine (C0.out w2 Q2.out).mono ?_
      rintro _ w3 ⟨rfl, hb3⟩
      have Q3 : Hid (Below wr.heap.size wr w3) := Q2.out.trans (hb3.mono Q2.out.size)
      have B3 := HBE.out.below hb3 HBE.out.lt
      have f1 : w3.cell? ⟨xe, 1, none⟩ = some (.slice p1 m1 q1) := B3.cell 1
      have l3 := B3.lt
      have NX : Hid (∀ u, Below wr.heap.size wr u → (D0 && D1 && D2 && D3) = false → (∀ x ∈ S.book.take (t + 1), x.is k n b s = false) ∧ Below w1.heap.size w1 u) := fun u hu hf => ⟨take_all HE.out HI.out.1 (by rw [HD.out, hf]), HI.out.2.trans (hu.mono HI.out.2.size)⟩
      cases D0 with
      | false =>
        clear B3 f1
        go_wp2_with fail
        go_roundw
        case rel => exact ⟨t + 1, by omega, by go_num, NX.out _ Q3.out rfl⟩
        case measure => simp [intOf]; omega
      | true =>
        go_wp2_with fail
        refine (C1.out w3 Q3.out).mono ?_
        rintro _ w4 ⟨rfl, hb4⟩
        have Q4 : Hid (Below wr.heap.size wr w4) := Q3.out.trans (hb4.mono Q3.out.size)
        have B4 := B3.below hb4 B3.lt
        have f2 : w4.cell? ⟨xe, 2, none⟩ = some (.slice p2 m2 q2) := B4.cell 2
        have l4 := B4.lt
        clear f1 B3 l3
        cases D1 with
        | false =>
          clear B4 f2
          go_wp2_with fail
          go_roundw
          case rel => exact ⟨t + 1, by omega, by go_num, NX.out _ Q4.out rfl⟩
          case measure => simp [intOf]; omega
        | true =>
          go_wp2_with fail
          refine (C2.out w4 Q4.out).mono ?_
          rintro _ w5 ⟨rfl, hb5⟩
          have Q5 : Hid (Below wr.heap.size wr w5) := Q4.out.trans (hb5.mono Q4.out.size)
          have B5 := B4.below hb5 B4.lt
          have f3 : w5.cell? ⟨xe, 4, none⟩ = some (.slice p4 m4 q4) := B5.cell 4
          have l5 := B5.lt
          clear f2 B4 l4
          cases D2 with
          | false =>
            clear B5 f3
            go_wp2_with fail
            go_roundw
            case rel => exact ⟨t + 1, by omega, by go_num, NX.out _ Q5.out rfl⟩
            case measure => simp [intOf]; omega
          | true =>
            go_wp2_with fail
            refine (C3.out w5 Q5.out).mono ?_
            rintro _ w6 ⟨rfl, hb6⟩
            have Q6 : Hid (Below wr.heap.size wr w6) := Q5.out.trans (hb6.mono Q5.out.size)
            have B6 := B5.below hb6 B5.lt
            have f4 : w6.cell? ⟨xe, 3, none⟩ = some (.slice p3 m3 q3) := B6.cell 3
            have l6 := B6.lt
            clear f3 B5 l5
            cases D3 with
            | false =>
              clear B6 f4
              go_wp2_with fail
              go_roundw
              case rel => exact ⟨t + 1, by omega, by go_num, NX.out _ Q6.out rfl⟩
              case measure => simp [intOf]; omega
            | true =>
              clear B6
              go_wp2_with fail
              go_ret2
              have hkn := known_step HE.out HI.out.1 HD.out
              exact ⟨p3, m3, q3, by rw [hkn]; rfl, by rw [hkn]; exact G3.out.below' Q6.out, QR.out.trans (Q6.out.mono QR.out.size)⟩
    · have i0 : ¬ (t : Int) < (bn : Int) := by omega
      go_wp2_with fail
      go_ret2
      have hkn : S.known k n b s = none := known_none fun x hx => HI.out.1 x (by rw [List.take_of_length_le (by rw [HL.out]; omega)]; exact hx)
      exact ⟨none, 0, 0, by rw [hkn]; rfl, by rw [hkn]; exact BA.nil _ _, QR.out⟩

end Go.Proofs.YtfknplcnfpincaaGreat
