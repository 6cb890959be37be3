/-
  The contract of a table's Hash: block by block. Condition: the table lies where the pointer leads; at most 1000 bytes.
-/
import Derived.Test.YtfgoomlgmepalaaFieldM
namespace Go.Proofs.Ytfgoomlgmepalaa
open Go.RowKit

/-- How long a slice is. -/
def slLen : Value → Nat | .slice _ n _ => n | _ => 0
theorem feB_take (l : List UInt8) : feB (l.take 16) = feB l := by
  have := feB_pad l 0
  rw [List.replicate_zero, List.append_nil] at this
  exact this

set_option maxRecDepth 100000 in
set_option maxHeartbeats 2000000 in
theorem oHashF (w : World) (g : Nat) (h f : Fe) (hT : Tb w g (pr h)) {pb : Option Addr} {n cb : Nat} {l : List UInt8} (hB : Bs w pb n cb l) (hn : n ≤ 1000) :
    Calls Try.prog 19 #[.pointer (some ⟨g, 0, none⟩), ev f, .slice pb n cb] w fun e w' => e = .returned (ev (hashF h f l)) ∧ Below w.heap.size w w' := by
  have C1 : Hid (∀ w a b, Calls Try.prog 16 #[.agg #[.int .u64 (hN a : Int), .int .u64 (lN a : Int)], .agg #[.int .u64 (hN b : Int), .int .u64 (lN b : Int)]] w fun e w' => e = .returned (.agg #[.int .u64 (hN (a ^^^ b) : Int), .int .u64 (lN (a ^^^ b) : Int)]) ∧ Below w.heap.size w w') := fun w a b => oAddE w a b
  have C2 : Hid (∀ w a, Tb w g (pr h) → Calls Try.prog 15 #[.pointer (some ⟨g, 0, none⟩), .agg #[.int .u64 (hN a : Int), .int .u64 (lN a : Int)]] w fun e w' => e = .returned (.agg #[.int .u64 (hN (fmul a h) : Int), .int .u64 (lN (fmul a h) : Int)]) ∧ Below w.heap.size w w') := fun w a hT => oTimesT w g h a hT
  have hgl := hT.lt
  have HL : Hid (l.length = n) := hB.len
  unfold ev
  go_enter Try.func19, Try.ntmps19
  go_wp2_with fail
  obtain ⟨W, hW⟩ : ∃ W, W = (w.alloc (.cells #[.int .u64 (hN f : Int), .int .u64 (lN f : Int)] 25)).alloc (.cells #[.int .u64 0, .int .u64 0] 25) := ⟨_, rfl⟩
  rw [← hW]
  have b0 : Blk W w.heap.size (ec f) 25 := by rw [hW]; exact (Blk.new w _ _).old _
  have b1 : Blk W (w.heap.size + 1) [.int .u64 0, .int .u64 0] 25 := by rw [hW]; exact Blk.newAt (w.alloc _) _ _ _ (by simp) _ rfl
  have hb0 : Below w.heap.size w W := by rw [hW]; exact below2 w _ _
  clear hW
  go_loopw [2] (fun v wr => ∃ (k m : Nat) (py : Option Addr) (cy : Nat), (m = n - 16 * k ∧ 16 * k < n + 16) ∧ v = .slice py m cy ∧ Bs w py m cy (l.drop (16 * k)) ∧ Blk wr w.heap.size (ec (hsh h f l k)) 25 ∧ Blk wr (w.heap.size + 1) [.int .u64 0, .int .u64 0] 25 ∧ Below w.heap.size w wr) (fun v _ => slLen v)
  case atStart => exact ⟨0, n, pb, cb, ⟨by omega, by omega⟩, rfl, hB, b0, b1, hb0⟩
  case round =>
    clear b0 b1 hb0
    obtain ⟨k, m, py, cy, hkm, rfl, hBy, b0, b1, hb0⟩ := hrel
    have hTr := hT.below hb0 hgl
    by_cases hlt : 0 < m
    · have HN : Hid (hsh h f l (k + 1) = fmul (hsh h f l k ^^^ feB (l.drop (16 * k))) h) := by show _ = _; rw [← feB_take (l.drop (16 * k))]; rfl
      have HK : Hid (m = n - 16 * k ∧ 16 * k < n + 16) := hkm
      have hBr := hBy.below hb0 (Nat.le_refl _)
      obtain ⟨t, ht⟩ : ∃ t, t = min 16 m := ⟨_, rfl⟩
      obtain ⟨a', c', hcut, hcB, _⟩ := hBy.cutLow t (by omega)
      have hB2 := hcB w hBy
      have i0 : (0 : Int) < (m : Int) := by omega
      have i1 : (if (m : Int) < 16 then (m : Int) else 16) = (t : Int) := by split <;> omega
      have HD : Hid ((l.drop (16 * k)).drop t = l.drop (16 * (k + 1))) := by
        show _ = _
        rw [List.drop_drop]
        have := HL.out
        have := HK.out
        by_cases h16 : 16 ≤ m
        · rw [show 16 * k + t = 16 * (k + 1) from by omega]
        · rw [List.drop_eq_nil_of_le (by omega), List.drop_eq_nil_of_le (by omega)]
      have HM : Hid (t = min 16 m) := ht
      obtain ⟨m2, hm2⟩ : ∃ m2, m2 = m - t := ⟨_, rfl⟩
      rw [← hm2] at hcut hB2
      have HM2 : Hid (m2 = m - t) := hm2
      clear hkm ht hcB hm2
      generalize hsh h f l k = y at *
      generalize l.drop (16 * k) = L at *
      have c0 := b0.cell 0
      have c1 := b0.cell 1
      simp only [ec, List.getElem?_cons_zero, List.getElem?_cons_succ] at c0 c1
      go_wp2_with fail
      go_region_with (first
        | (go_at_call 15; refine (C2.out w3 (y ^^^ feB L) T3).mono ?_; rw [← HN.out]; rintro e w4 ⟨rfl, hb4⟩; have d4 := d3.below hb4 d3.lt; have e4 := e3.below hb4 e3.lt; have q4 := q3.trans (hb4.mono q3.size); have r0 := d4.cell 0; have r1 := d4.cell 1; have r2 := d4.free 0; have r3 := d4.free 1; simp only [ec, List.getElem?_cons_zero, List.getElem?_cons_succ] at r0 r1)
        | (go_at_call 16; refine (C1.out w2 y (feB L)).mono ?_; rintro e w3 ⟨rfl, hb3⟩; have T3 := T2.below hb3 T2.lt; have d3 := d2.below hb3 d2.lt; have e3 := e2.below hb3 e2.lt; have q3 := q2.trans (hb3.mono q2.size); have u0 := d3.cell 0; have u1 := d3.cell 1; simp only [ec, List.getElem?_cons_zero, List.getElem?_cons_succ] at u0 u1)
        | (go_at_call 7; refine (oFrom wr.drew hBr.drew).mono ?_; unfold ev; rintro e w2 ⟨rfl, hb2⟩; have T2 := hTr.dr.below hb2 hTr.lt; have d2 := b0.dr.below hb2 b0.lt; have e2 := b1.dr.below hb2 b1.lt; have q2 := hb0.drew.trans (hb2.mono hb0.size); have s0 := d2.cell 0; have s1 := d2.cell 1; simp only [ec, List.getElem?_cons_zero, List.getElem?_cons_succ] at s0 s1))
      all_goals
        go_wp2_with fail
        go_roundw
        case rel =>
          have d5 := (d4.setC 0 (.int .u64 (hN (hsh h f l (k + 1)) : Int))).setC 1 (.int .u64 (lN (hsh h f l (k + 1)) : Int))
          exact ⟨k + 1, m2, a', c', by have := HK.out; have := HM.out; have := HM2.out; omega, rfl, by rw [← HD.out]; exact hB2, d5, (e4.setO (by simp) _).setO (by simp) _, (q4.setCell (Nat.le_refl _) _).setCell (Nat.le_refl _) _⟩
        case measure => have := HM.out; have := HM2.out; simp [slLen]; omega
    · have m0 : m = 0 := by omega
      subst m0
      have HE : Hid (hashF h f l = hsh h f l k) := by
        show _ = _
        unfold hashF
        rw [HL.out]
        congr 1
        omega
      have c0 := b0.cell 0
      have c1 := b0.cell 1
      have e0 := b1.cell 0
      have e1 := b1.cell 1
      have e2 := b1.free 0
      have e3 := b1.free 1
      simp only [ec, List.getElem?_cons_zero, List.getElem?_cons_succ] at c0 c1 e0 e1
      have b2 := (b1.setC 0 (.int .u64 (hN (hsh h f l k) : Int))).setC 1 (.int .u64 (lN (hsh h f l k) : Int))
      have B2 : Hid (Blk _ (w.heap.size + 1) (ec (hsh h f l k)) 25) := b2
      clear b2 hkm
      go_wp2_with fail
      rw [HE.out]
      exact bodyPost_ret (v := ev (hsh h f l k)) (res_el Try.results19 _ _ (w.heap.size + 1) _ rfl B2.out) rfl ⟨rfl, (hb0.setCell (by simp) _).setCell (by simp) _⟩

end Go.Proofs.Ytfgoomlgmepalaa
