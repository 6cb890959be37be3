/-
  The smoke of layer 5. No condition.
-/
import Derived.Test.YtfgoomlgmepalaaFieldH
import Derived.Test.YtfgoomlgmepalaaHexO
import Derived.Deep.DeepCutAuto
namespace Go.Proofs.Ytfgoomlgmepalaa
open Go.RowKit

/-- Two elements in two variables, cell by cell. -/
def Els (w : World) (g : Nat) (a : Fe) (k : Nat) (b : Fe) : Prop :=
  w.cell? ⟨g, 0, none⟩ = some (.int .u64 (hN a : Int)) ∧ w.cell? ⟨g, 1, none⟩ = some (.int .u64 (lN a : Int)) ∧ w.cell? ⟨k, 0, none⟩ = some (.int .u64 (hN b : Int)) ∧ w.cell? ⟨k, 1, none⟩ = some (.int .u64 (lN b : Int))
theorem Els.of {w : World} {g k : Nat} {a b : Fe} {t : TypeId} (d : Blk w g (ec a) t) (e : Blk w k (ec b) t) : Els w g a k b :=
  ⟨d.cell 0, d.cell 1, e.cell 0, e.cell 1⟩
theorem Els.below {w w' : World} {g k : Nat} {a b : Fe} (h : Els w g a k b) {B : Nat} (hb : Below B w w') (hg : g < B) (hk : k < B) : Els w' g a k b :=
  ⟨(hb.cell (p := ⟨g, 0, none⟩) hg).trans h.1, (hb.cell (p := ⟨g, 1, none⟩) hg).trans h.2.1, (hb.cell (p := ⟨k, 0, none⟩) hk).trans h.2.2.1, (hb.cell (p := ⟨k, 1, none⟩) hk).trans h.2.2.2⟩
theorem Els.dr {w : World} {g k : Nat} {a b : Fe} (h : Els w g a k b) : Els w.drew g a k b := h

def wH : List UInt8 := [1, 2, 3, 4, 5, 6, 7, 8, 9, 10, 11, 12, 13, 14, 15, 16]
theorem one_feB : feB [128] = 1 := by decide +kernel
theorem wH_not : ¬ feB wH = 0 := by
  have : (feB wH).getLsbD 7 = true := by decide +kernel
  intro e
  rw [e] at this
  simp at this
theorem one_hex : hexL (byF 1) = [56, 48, 48, 48, 48, 48, 48, 48, 48, 48, 48, 48, 48, 48, 48, 48, 48, 48, 48, 48, 48, 48, 48, 48, 48, 48, 48, 48, 48, 48, 48, 48] := by decide +kernel
theorem one_hash (h : Fe) : hashF h 0 [128] = h := by
  show fmul (0 ^^^ feB [128]) h = h
  rw [one_feB, BitVec.xor_comm, fx_zero, one_fmul]

set_option maxRecDepth 100000 in
set_option maxHeartbeats 4000000 in
theorem lWorksF (w : World) : Calls Try.prog 18 #[] w fun e w' => e = .returned (.bool true) ∧ Below w.heap.size w w' := by
  obtain ⟨H, hH⟩ : ∃ H, H = feB wH := ⟨_, rfl⟩
  have hH0 : decide (H = 0) = false := by rw [hH]; exact decide_eq_false wH_not
  obtain ⟨u, hu⟩ : ∃ u, u = (1 : Fe) := ⟨_, rfl⟩
  have F1 : Hid (∀ w a c, Bs w a 1 c [128] → Calls Try.prog 7 #[.slice a 1 c] w fun e w' => e = .returned (.agg #[.int .u64 (hN u : Int), .int .u64 (lN u : Int)]) ∧ Below w.heap.size w w') := fun w a c h => by
    have := oFrom w h
    rw [one_feB, ← hu] at this
    exact this
  have F2 : Hid (∀ (w : World) (o : Obj), Calls Try.prog 7 #[.slice (some ⟨w.heap.size + 1, 0, none⟩) 16 16] ((w.alloc o).alloc (.cells #[.int .u8 1, .int .u8 2, .int .u8 3, .int .u8 4, .int .u8 5, .int .u8 6, .int .u8 7, .int .u8 8, .int .u8 9, .int .u8 10, .int .u8 11, .int .u8 12, .int .u8 13, .int .u8 14, .int .u8 15, .int .u8 16] 5)) fun e w' => e = .returned (.agg #[.int .u64 (hN H : Int), .int .u64 (lN H : Int)]) ∧ Below (w.heap.size + 1) (w.alloc o) w') := fun w o => by
    have hB := Bs.made (w.alloc o) wH #[.int .u8 1, .int .u8 2, .int .u8 3, .int .u8 4, .int .u8 5, .int .u8 6, .int .u8 7, .int .u8 8, .int .u8 9, .int .u8 10, .int .u8 11, .int .u8 12, .int .u8 13, .int .u8 14, .int .u8 15, .int .u8 16] rfl (by decide)
    rw [World.size_alloc] at hB
    have := oFrom _ hB
    rw [← hH] at this
    refine this.mono ?_
    rintro e w' ⟨rfl, hb⟩
    have hq := (below_alloc (w.alloc o) (.cells #[.int .u8 1, .int .u8 2, .int .u8 3, .int .u8 4, .int .u8 5, .int .u8 6, .int .u8 7, .int .u8 8, .int .u8 9, .int .u8 10, .int .u8 11, .int .u8 12, .int .u8 13, .int .u8 14, .int .u8 15, .int .u8 16] 5)).trans (hb.mono (by simp))
    rw [World.size_alloc] at hq
    exact ⟨rfl, hq⟩
  have F3 : Hid (∀ w, Calls Try.prog 11 #[.agg #[.int .u64 (hN H : Int), .int .u64 (lN H : Int)]] w fun e w' => ∃ g, e = .returned (.pointer (some ⟨g, 0, none⟩)) ∧ w.heap.size ≤ g ∧ Tb w' g (pr H) ∧ Below w.heap.size w w') := fun w => oBuildF w H
  have C1 : Hid (∀ w, Calls Try.prog 13 #[.agg #[.int .u64 (hN u : Int), .int .u64 (lN u : Int)], .agg #[.int .u64 (hN H : Int), .int .u64 (lN H : Int)]] w fun e w' => e = .returned (.agg #[.int .u64 (hN H : Int), .int .u64 (lN H : Int)]) ∧ Below w.heap.size w w') := fun w => by
    have := oTimesE w u H
    rw [show fmul u H = H from by rw [hu, one_fmul]] at this
    exact this
  have C2 : Hid (∀ w g, Tb w g (pr H) → Calls Try.prog 15 #[.pointer (some ⟨g, 0, none⟩), .agg #[.int .u64 (hN u : Int), .int .u64 (lN u : Int)]] w fun e w' => e = .returned (.agg #[.int .u64 (hN H : Int), .int .u64 (lN H : Int)]) ∧ Below w.heap.size w w') := fun w g hT => by
    have := oTimesT w g H u hT
    rw [show fmul u H = H from by rw [hu, one_fmul]] at this
    exact this
  have C3 : Hid (∀ w, Calls Try.prog 14 #[.agg #[.int .u64 (hN u : Int), .int .u64 (lN u : Int)]] w (Gives w (byF u))) := fun w => oBytesE w u
  have HX : Hid (hexL (byF u) = [56, 48, 48, 48, 48, 48, 48, 48, 48, 48, 48, 48, 48, 48, 48, 48, 48, 48, 48, 48, 48, 48, 48, 48, 48, 48, 48, 48, 48, 48, 48, 48]) := by show _ = _; rw [hu]; exact one_hex
  have HBL : Hid ((byF u).length = 16) := byF_length u
  have C5 : Hid (∀ w, Calls Try.prog 16 #[.agg #[.int .u64 (hN H : Int), .int .u64 (lN H : Int)], .agg #[.int .u64 (hN H : Int), .int .u64 (lN H : Int)]] w fun e w' => e = .returned (.agg #[.int .u64 0, .int .u64 0]) ∧ Below w.heap.size w w') := fun w => by
    have := oAddE w H H
    rw [fx_self, ev_zero] at this
    exact this
  have C6 : Hid (∀ w, Calls Try.prog 21 #[.agg #[.int .u64 0, .int .u64 0]] w fun e w' => e = .returned (.bool true) ∧ Below w.heap.size w w') := fun w => by
    have := oZeroE w 0
    rw [ev_zero, decide_eq_true rfl] at this
    exact this
  have C7 : Hid (∀ w, Calls Try.prog 21 #[.agg #[.int .u64 (hN H : Int), .int .u64 (lN H : Int)]] w fun e w' => e = .returned (.bool false) ∧ Below w.heap.size w w') := fun w => by
    have := oZeroE w H
    rw [hH0] at this
    exact this
  have C8 : Hid (∀ (w : World) (g : Nat), Tb w g (pr H) → Calls Try.prog 19 #[.pointer (some ⟨g, 0, none⟩), .agg #[.int .u64 0, .int .u64 0], .slice (some ⟨w.heap.size, 0, none⟩) 1 1] (w.alloc (.cells #[.int .u8 128] 5)) fun e w' => e = .returned (.agg #[.int .u64 (hN H : Int), .int .u64 (lN H : Int)]) ∧ Below w.heap.size w w') := fun w g hT => by
    have := oHashF (w.alloc (.cells #[.int .u8 128] 5)) g H 0 (hT.below (below_alloc _ _) hT.lt) (Bs.made w [128] #[.int .u8 128] rfl (by simp)) (by decide)
    rw [ev_zero, one_hash] at this
    refine this.mono ?_
    rintro e w' ⟨rfl, hb⟩
    exact ⟨rfl, (below_alloc _ _).trans (hb.mono (by simp))⟩
  clear hH hH0 hu
  go_enter Try.func18, Try.ntmps18
  go_wp2_with fail
  refine (F1.out _ _ _ (Bs.made w [128] _ rfl (by decide))).mono ?_
  rintro e w1 ⟨rfl, hb1⟩
  have q1 := (below_alloc w (.cells #[.int .u8 128] 5)).trans (hb1.mono (by simp))
  clear hb1
  go_wp2_with fail
  refine (F2.out w1 _).mono ?_
  rintro e w2 ⟨rfl, hb2⟩
  have d2 : Blk w2 w1.heap.size (ec u) 25 := (Blk.new w1 _ _).below hb2 (by omega)
  have q2 := q1.trans (((below_alloc w1 _).trans (hb2.mono (by omega))).mono q1.size)
  have hl2 := d2.lt
  clear hb2
  go_wp2_with fail
  refine (F3.out _).mono ?_
  rintro e w3 ⟨g, rfl, hg, T3, hb3⟩
  have d3 : Blk w3 w1.heap.size (ec u) 25 := (d2.old _).below hb3 (by simp; omega)
  have e3 : Blk w3 w2.heap.size (ec H) 25 := (Blk.new w2 _ _).below hb3 (by simp)
  have q3 := q2.trans (((below_alloc w2 _).trans (hb3.mono (by simp))).mono q2.size)
  have K3 := Els.of d3 e3
  have j1 := d3.lt
  have j2 := e3.lt
  clear hb3 d2 d3 e3
  go_wp2_with fail
  go_region_held3 (fun w' => w'.cell? ⟨w1.heap.size, 0, none⟩ = some (.int .u64 (hN u : Int)) ∧ w'.cell? ⟨w1.heap.size, 1, none⟩ = some (.int .u64 (lN u : Int)) ∧ w'.cell? ⟨w2.heap.size, 0, none⟩ = some (.int .u64 (hN H : Int)) ∧ w'.cell? ⟨w2.heap.size, 1, none⟩ = some (.int .u64 (lN H : Int)))
    (first | (exact Kc) | (exact Kb) | (exact Ka) | (exact K9) | (exact K8) | (exact K7) | (exact K6) | (exact K5) | (exact K4) | (exact K3) | go_keep)
    (first
    | (go_at_call 19; refine (C8.out wa g Ta).mono ?_; rintro e wc ⟨rfl, hbc⟩; have Kc := Ka.below hbc ja1 ja2; have qc := qa.trans (hbc.mono qa.size))
    | (go_at_call 21; refine (C7.out w9).mono ?_; rintro e wa ⟨rfl, hba⟩; have Ka := K9.below hba j91 j92; have Ta := T9.below hba T9.lt; have qa := q9.trans (hba.mono q9.size); have ja1 := Nat.lt_of_lt_of_le j91 hba.size; have ja2 := Nat.lt_of_lt_of_le j92 hba.size; have Kb := Ka.below (below_alloc wa (.cells #[.int .u8 128] 5)) ja1 ja2)
    | (go_at_call 21; refine (C6.out w8).mono ?_; rintro e w9 ⟨rfl, hb9⟩; have K9 := K8.below hb9 j81 j82; have T9 := T8.below hb9 T8.lt; have q9 := q8.trans (hb9.mono q8.size); have j91 := Nat.lt_of_lt_of_le j81 hb9.size; have j92 := Nat.lt_of_lt_of_le j82 hb9.size)
    | (go_at_call 16; refine (C5.out w7).mono ?_; rintro e w8 ⟨rfl, hb8⟩; have K8 := K7.below hb8 j71 j72; have T8 := T7.below hb8 T7.lt; have q8 := q7.trans (hb8.mono q7.size); have j81 := Nat.lt_of_lt_of_le j71 hb8.size; have j82 := Nat.lt_of_lt_of_le j72 hb8.size)
    | (go_at_call 27; refine (oHex w6 ho6.toBs (by have := ho6.toBs.len; have := HBL.out; omega)).mono ?_; rintro e w7 ⟨rfl, hb7⟩; rw [HX.out]; have K7 := K6.below hb7 j61 j62; have T7 := T6.below hb7 T6.lt; have q7 := q6.trans (hb7.mono q6.size); have j71 := Nat.lt_of_lt_of_le j61 hb7.size; have j72 := Nat.lt_of_lt_of_le j62 hb7.size)
    | (go_at_call 14; refine (C3.out w5).mono ?_; rintro e w6 ⟨a6, m6, c6, rfl, ho6, hb6⟩; have K6 := K5.below hb6 j51 j52; have T6 := T5.below hb6 T5.lt; have q6 := q5.trans (hb6.mono q5.size); have j61 := Nat.lt_of_lt_of_le j51 hb6.size; have j62 := Nat.lt_of_lt_of_le j52 hb6.size)
    | (go_at_call 15; refine (C2.out w4 g T4).mono ?_; rintro e w5 ⟨rfl, hb5⟩; have K5 := K4.below hb5 j41 j42; have T5 := T4.below hb5 T4.lt; have q5 := q4.trans (hb5.mono q4.size); have j51 := Nat.lt_of_lt_of_le j41 hb5.size; have j52 := Nat.lt_of_lt_of_le j42 hb5.size)
    | (go_at_call 13; refine (C1.out w3.drew).mono ?_; rintro e w4 ⟨rfl, hb4⟩; have K4 := K3.dr.below hb4 j1 j2; have T4 := T3.dr.below hb4 T3.lt; have q4 := q3.drew.trans (hb4.mono q3.size); have j41 := Nat.lt_of_lt_of_le j1 hb4.size; have j42 := Nat.lt_of_lt_of_le j2 hb4.size))
  go_wp2
  go_ret
  exact ⟨rfl, qc⟩

end Go.Proofs.Ytfgoomlgmepalaa
