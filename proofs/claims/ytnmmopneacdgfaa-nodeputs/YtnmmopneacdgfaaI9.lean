/-
  8 texts in one. No statement of the seat is proved here.
-/
import Derived.Test.YtnmmopneacdgfaaI8
import Derived.Deep.DeepCutAuto
import Derived.Deep.CutBlock
import Derived.Deep.MidRow
/-
  Contracts of layer 18's program: what is wrong with a node. Condition: a node of at most a hundred thousand things, keys and values of at most a thousand bytes.
-/
namespace Go.Proofs.Ytnmmopneacdgfaa
open Go.RowKit
set_option linter.unusedVariables false
set_option maxRecDepth 100000 in
set_option maxHeartbeats 4000000 in
theorem oCheckN (w : World) {A : Nat → Prop} {n : NodeS} {p q : Tri} (h : Nd A w n p q) (hl : Lit n) : Calls Try.prog 14 #[ndv n p q] w fun e w' => e = .returned (.int .i64 (chkN n)) ∧ Below w.heap.size w w' := by
  have hps := hl.ps
  have hks := hl.ks
  have l1 := h.lp
  have l2 := h.lk
  obtain ⟨lf, ps, ks⟩ := n
  obtain ⟨pa, pn, pc⟩ := p
  obtain ⟨qa, qn, qc⟩ := q
  dsimp only at *
  obtain ⟨V, hV⟩ : ∃ V, V = w.alloc (.cells (List.toArray [.bool lf, .slice pa pn pc, .slice qa qn qc]) 25) := ⟨_, rfl⟩
  have bV : Blk V w.heap.size [.bool lf, .slice pa pn pc, .slice qa qn qc] 25 := by rw [hV]; exact Blk.newAt w _ _ w.heap.size rfl _ rfl
  have kW : Below w.heap.size w V := by rw [hV]; exact below_alloc _ _
  have X0 : V.cell? ⟨w.heap.size, 0, none⟩ = some (.bool lf) := bV.cell 0
  have X1 : ∀ u, Grows V u → u.cell? ⟨w.heap.size, 1, none⟩ = some (.slice pa pn pc) := fun u hu => (bV.below hu bV.lt).cell 1
  have X2 : ∀ u, Grows V u → u.cell? ⟨w.heap.size, 2, none⟩ = some (.slice qa qn qc) := fun u hu => (bV.below hu bV.lt).cell 2
  have c1 : V.cell? ⟨w.heap.size, 1, none⟩ = some (.slice pa pn pc) := X1 V (Grows.refl V)
  have c2 : V.cell? ⟨w.heap.size, 2, none⟩ = some (.slice qa qn qc) := X2 V (Grows.refl V)
  have g0 : Grows V V := Grows.refl V
  have C1 : Hid (∀ u, Grows V u → Calls Try.prog 43 #[.slice pa pn pc, .func (.func 44) #[] #[]] u fun e w' => e = .returned (.int .i64 (firstC chkP ps)) ∧ Below u.heap.size u w') := fun u hu => oFstP u (h.ps.below (kW.trans (Below.mono hu kW.size))) (by omega)
  have C2 : Hid (∀ u, Grows V u → Calls Try.prog 45 #[.slice qa qn qc, .func (.func 46) #[] #[]] u fun e w' => e = .returned (.int .i64 (firstC chkD ks)) ∧ Below u.heap.size u w') := fun u hu => oFstK u (h.ks.below (kW.trans (Below.mono hu kW.size))) (by omega)
  have C3 : Hid (∀ u, Grows V u → Calls Try.prog 47 #[.slice pa pn pc, .func (.func 48) #[] #[]] u fun e w' => e = .returned (.bool (riseB keyP ps)) ∧ Below u.heap.size u w') := fun u hu => oRiseP u (h.ps.below (kW.trans (Below.mono hu kW.size))) (by omega)
  have C4 : Hid (∀ u, Grows V u → Calls Try.prog 49 #[.slice qa qn qc, .func (.func 50) #[] #[]] u fun e w' => e = .returned (.bool (riseB keyD ks)) ∧ Below u.heap.size u w') := fun u hu => oRiseK u (h.ks.below (kW.trans (Below.mono hu kW.size))) (by omega)
  have C5 : Hid (∀ u, Grows V u → Calls Try.prog 16 #[ndv ⟨lf, ps, ks⟩ ⟨pa, pn, pc⟩ ⟨qa, qn, qc⟩] u fun e w' => e = .returned (.int .i64 (sizeN ⟨lf, ps, ks⟩ : Nat)) ∧ Below u.heap.size u w') := fun u hu => oSizeN u (h.below (kW.trans (Below.mono hu kW.size))) hl
  unfold ndv ndc at *
  unfold chkN
  dsimp only at *
  clear h hl
  generalize firstC chkP ps = K1 at *
  generalize firstC chkD ks = K2 at *
  generalize riseB keyP ps = R1 at *
  generalize riseB keyD ks = R2 at *
  generalize sizeN ⟨lf, ps, ks⟩ = Z at *
  cases lf with
  | true =>
    by_cases t0 : qn = 0
    · have b0 : ¬ (0 : Int) < (qn : Int) := by omega
      rw [if_pos (show kindOk _ from ⟨(fun _ => by show ks.length = 0; omega), fun hh => by cases hh⟩)]
      obtain ⟨CV, hCV⟩ : ∃ c, (if K1 = 0 then if K2 = 0 then if R1 = true ∧ R2 = true then if Z ≤ 496 then (0 : Int) else 16 else 4 else K2 else K1) = c := ⟨_, rfl⟩
      rw [hCV]
      have HCV : Hid ((if K1 = 0 then if K2 = 0 then if R1 = true ∧ R2 = true then if Z ≤ 496 then (0 : Int) else 16 else 4 else K2 else K1) = CV) := hCV
      clear hCV
      subst t0
      go_enter Try.func14, Try.ntmps14
      go_upto_region 1 with fail
      rw [← hV]
      clear hV
      go_wp2_with fail
      refine (C1.out V g0).mono ?_
      rintro e V1 ⟨rfl, hb1⟩
      have g1 : Grows V V1 := Grows.trans g0 hb1
      have c11 : V1.cell? ⟨w.heap.size, 1, none⟩ = some (.slice pa pn pc) := X1 V1 g1
      have c21 : V1.cell? ⟨w.heap.size, 2, none⟩ = some (.slice qa 0 qc) := X2 V1 g1
      by_cases t1 : K1 = 0
      · have b1 : (K1 == 0) = true := by simp [t1]
        go_wp2_with fail
        refine (C2.out V1 g1).mono ?_
        rintro e V2 ⟨rfl, hb2⟩
        have g2 : Grows V V2 := Grows.trans g1 hb2
        have c12 : V2.cell? ⟨w.heap.size, 1, none⟩ = some (.slice pa pn pc) := X1 V2 g2
        have c22 : V2.cell? ⟨w.heap.size, 2, none⟩ = some (.slice qa 0 qc) := X2 V2 g2
        by_cases t2 : K2 = 0
        · have b2 : (K2 == 0) = true := by simp [t2]
          go_wp2_with fail
          refine (C3.out V2 g2).mono ?_
          rintro e V3 ⟨rfl, hb3⟩
          have g3 : Grows V V3 := Grows.trans g2 hb3
          have c13 : V3.cell? ⟨w.heap.size, 1, none⟩ = some (.slice pa pn pc) := X1 V3 g3
          have c23 : V3.cell? ⟨w.heap.size, 2, none⟩ = some (.slice qa 0 qc) := X2 V3 g3
          cases R1 with
          | true =>
            go_wp2_with fail
            refine (C4.out V3 g3).mono ?_
            rintro e V4 ⟨rfl, hb4⟩
            have g4 : Grows V V4 := Grows.trans g3 hb4
            have c14 : V4.cell? ⟨w.heap.size, 1, none⟩ = some (.slice pa pn pc) := X1 V4 g4
            have c24 : V4.cell? ⟨w.heap.size, 2, none⟩ = some (.slice qa 0 qc) := X2 V4 g4
            cases R2 with
            | true =>
              go_wp2_with ((with_reducible refine at_ld 25 ?_); (refine ld 25 (.tmp 1) 3 sizeNd _ Try.underlying25 rfl w.heap.size 0 [.bool true, .slice pa pn pc, .slice qa 0 qc] rfl (bV.below g4 bV.lt).whole rfl ?_))
              refine (C5.out V4 g4).mono ?_
              rintro e V5 ⟨rfl, hb5⟩
              have g5 : Grows V V5 := Grows.trans g4 hb5
              by_cases t5 : Z ≤ 496
              · have b5 : ¬ (496 : Int) < (Z : Int) := by omega
                go_wp2_with fail
                go_ret
                exact ⟨ret_int (by rw [← HCV.out, if_pos t1, if_pos t2, if_pos (by simp), if_pos t5]), kW.trans (Below.mono g5 kW.size)⟩
              · have b5 : (496 : Int) < (Z : Int) := by omega
                go_wp2_with fail
                go_ret
                exact ⟨ret_int (by rw [← HCV.out, if_pos t1, if_pos t2, if_pos (by simp), if_neg t5]), kW.trans (Below.mono g5 kW.size)⟩
            | false =>
              go_wp2_with fail
              go_ret
              exact ⟨ret_int (by rw [← HCV.out, if_pos t1, if_pos t2, if_neg (by simp)]), kW.trans (Below.mono g4 kW.size)⟩
          | false =>
            go_wp2_with fail
            go_ret
            exact ⟨ret_int (by rw [← HCV.out, if_pos t1, if_pos t2, if_neg (by simp)]), kW.trans (Below.mono g3 kW.size)⟩
        · have b2 : (K2 == 0) = false := by simp [t2]
          go_wp2_with fail
          go_ret
          exact ⟨ret_int (by rw [← HCV.out, if_pos t1, if_neg t2]), kW.trans (Below.mono g2 kW.size)⟩
      · have b1 : (K1 == 0) = false := by simp [t1]
        go_wp2_with fail
        go_ret
        exact ⟨ret_int (by rw [← HCV.out, if_neg t1]), kW.trans (Below.mono g1 kW.size)⟩
    · have b0 : (0 : Int) < (qn : Int) := by omega
      rw [if_neg (fun hh : kindOk _ => by have := hh.1 rfl; dsimp only at this; omega)]
      clear t0
      go_enter Try.func14, Try.ntmps14
      go_upto_region 1 with fail
      rw [← hV]
      clear hV
      go_wp2_with fail
      go_ret
      exact ⟨rfl, kW⟩
  | false =>
    by_cases t0 : pn = 0
    · have b0 : ¬ (0 : Int) < (pn : Int) := by omega
      rw [if_pos (show kindOk _ from ⟨(fun hh => by cases hh), fun _ => by show ps.length = 0; omega⟩)]
      obtain ⟨CV, hCV⟩ : ∃ c, (if K1 = 0 then if K2 = 0 then if R1 = true ∧ R2 = true then if Z ≤ 496 then (0 : Int) else 16 else 4 else K2 else K1) = c := ⟨_, rfl⟩
      rw [hCV]
      have HCV : Hid ((if K1 = 0 then if K2 = 0 then if R1 = true ∧ R2 = true then if Z ≤ 496 then (0 : Int) else 16 else 4 else K2 else K1) = CV) := hCV
      clear hCV
      subst t0
      go_enter Try.func14, Try.ntmps14
      go_upto_region 1 with fail
      rw [← hV]
      clear hV
      go_wp2_with fail
      refine (C1.out V g0).mono ?_
      rintro e V1 ⟨rfl, hb1⟩
      have g1 : Grows V V1 := Grows.trans g0 hb1
      have c11 : V1.cell? ⟨w.heap.size, 1, none⟩ = some (.slice pa 0 pc) := X1 V1 g1
      have c21 : V1.cell? ⟨w.heap.size, 2, none⟩ = some (.slice qa qn qc) := X2 V1 g1
      by_cases t1 : K1 = 0
      · have b1 : (K1 == 0) = true := by simp [t1]
        go_wp2_with fail
        refine (C2.out V1 g1).mono ?_
        rintro e V2 ⟨rfl, hb2⟩
        have g2 : Grows V V2 := Grows.trans g1 hb2
        have c12 : V2.cell? ⟨w.heap.size, 1, none⟩ = some (.slice pa 0 pc) := X1 V2 g2
        have c22 : V2.cell? ⟨w.heap.size, 2, none⟩ = some (.slice qa qn qc) := X2 V2 g2
        by_cases t2 : K2 = 0
        · have b2 : (K2 == 0) = true := by simp [t2]
          go_wp2_with fail
          refine (C3.out V2 g2).mono ?_
          rintro e V3 ⟨rfl, hb3⟩
          have g3 : Grows V V3 := Grows.trans g2 hb3
          have c13 : V3.cell? ⟨w.heap.size, 1, none⟩ = some (.slice pa 0 pc) := X1 V3 g3
          have c23 : V3.cell? ⟨w.heap.size, 2, none⟩ = some (.slice qa qn qc) := X2 V3 g3
          cases R1 with
          | true =>
            go_wp2_with fail
            refine (C4.out V3 g3).mono ?_
            rintro e V4 ⟨rfl, hb4⟩
            have g4 : Grows V V4 := Grows.trans g3 hb4
            have c14 : V4.cell? ⟨w.heap.size, 1, none⟩ = some (.slice pa 0 pc) := X1 V4 g4
            have c24 : V4.cell? ⟨w.heap.size, 2, none⟩ = some (.slice qa qn qc) := X2 V4 g4
            cases R2 with
            | true =>
              go_wp2_with ((with_reducible refine at_ld 25 ?_); (refine ld 25 (.tmp 1) 3 sizeNd _ Try.underlying25 rfl w.heap.size 0 [.bool false, .slice pa 0 pc, .slice qa qn qc] rfl (bV.below g4 bV.lt).whole rfl ?_))
              refine (C5.out V4 g4).mono ?_
              rintro e V5 ⟨rfl, hb5⟩
              have g5 : Grows V V5 := Grows.trans g4 hb5
              by_cases t5 : Z ≤ 496
              · have b5 : ¬ (496 : Int) < (Z : Int) := by omega
                go_wp2_with fail
                go_ret
                exact ⟨ret_int (by rw [← HCV.out, if_pos t1, if_pos t2, if_pos (by simp), if_pos t5]), kW.trans (Below.mono g5 kW.size)⟩
              · have b5 : (496 : Int) < (Z : Int) := by omega
                go_wp2_with fail
                go_ret
                exact ⟨ret_int (by rw [← HCV.out, if_pos t1, if_pos t2, if_pos (by simp), if_neg t5]), kW.trans (Below.mono g5 kW.size)⟩
            | false =>
              go_wp2_with fail
              go_ret
              exact ⟨ret_int (by rw [← HCV.out, if_pos t1, if_pos t2, if_neg (by simp)]), kW.trans (Below.mono g4 kW.size)⟩
          | false =>
            go_wp2_with fail
            go_ret
            exact ⟨ret_int (by rw [← HCV.out, if_pos t1, if_pos t2, if_neg (by simp)]), kW.trans (Below.mono g3 kW.size)⟩
        · have b2 : (K2 == 0) = false := by simp [t2]
          go_wp2_with fail
          go_ret
          exact ⟨ret_int (by rw [← HCV.out, if_pos t1, if_neg t2]), kW.trans (Below.mono g2 kW.size)⟩
      · have b1 : (K1 == 0) = false := by simp [t1]
        go_wp2_with fail
        go_ret
        exact ⟨ret_int (by rw [← HCV.out, if_neg t1]), kW.trans (Below.mono g1 kW.size)⟩
    · have b0 : (0 : Int) < (pn : Int) := by omega
      rw [if_neg (fun hh : kindOk _ => by have := hh.2 rfl; dsimp only at this; omega)]
      clear t0
      go_enter Try.func14, Try.ntmps14
      go_upto_region 1 with fail
      rw [← hV]
      clear hV
      go_wp2_with fail
      go_ret
      exact ⟨rfl, kW⟩

end Go.Proofs.Ytnmmopneacdgfaa

/-
  The contracts of layer 8's reference. Conditions: fewer than 2^40 steps, numbers of the language.
-/
namespace Go.Proofs.Ytnmmopneacdgfaa
open Go.RowKit

end Go.Proofs.Ytnmmopneacdgfaa

/-
  Blocks of memory that are known whole ('Blk'): a variable of a call's own. What is read of them, and what stores make of them; whole arrays loaded and stored. No condition; no statement of the seat is proved here.
-/
namespace Go.Proofs.Ytnmmopneacdgfaa
open Go.RowKit

/-- A row of bytes as an array value. -/
def bv (l : List UInt8) : Value := .agg (cs l).toArray

/-- The bytes that lie in a block from o on, as a slice. -/
theorem Blk.bs {w : World} {g : Nat} {vs : List Value} {t : TypeId} (h : Blk w g vs t) (o c : Nat) (l : List UInt8) (hl : ∀ j v, (cs l)[j]? = some v → vs[o + j]? = some v) (hc : l.length ≤ c) (hm : c ≤ 1000000) : Bs w (some ⟨g, o, none⟩) l.length c l := by
  refine ⟨rfl, hc, by unfold maxLen; omega, by simp, fun i hi => ⟨g, o, rfl, ?_⟩⟩
  rw [h.cell]
  exact hl i _ (cs_get hi)

end Go.Proofs.Ytnmmopneacdgfaa

/-
  Slices of bytes in a world that has only grown. No condition; no statement of the seat is proved here.
-/
namespace Go.Proofs.Ytnmmopneacdgfaa
open Go.RowKit

theorem Bs.grows {w w' : World} {a : Option Addr} {n c : Nat} {l : List UInt8} (h : Bs w a n c l) (hg : Grows w w') : Bs w' a n c l := h.below hg (Nat.le_refl _)

end Go.Proofs.Ytnmmopneacdgfaa

/-
  'make' of bytes in a region that draws its order. No condition; no statement of the seat is proved here.
-/
namespace Go.Proofs.Ytnmmopneacdgfaa
open Go.RowKit

/-- 'make([]byte, n)', the one that may come up. -/
theorem opMk8 {ops : Array Oper} {Q : Exit → Act → World → Prop} {i : Nat} {oi : Oper} (d : Option Tmp) (hi : ops[i]? = some oi) (hd : oi.dst = d) (hg : oi.guard = none) (l c : Operand) (ho : oi.op = Op.makeSlice 26 l c) {K : Act → World → Prop} {a : Act} {w : World} (n : Nat) (hl : a.eval l = .int .i64 (n : Int)) (hc : a.eval c = .int .i64 (n : Int)) (hz : n ≤ 2147483647)
    (k : ∀ w', Own w' w.heap.size (.slice (some ⟨w.heap.size, 0, none⟩) n n) (List.replicate n 0) → Grows w w' → K (a.put d (.slice (some ⟨w.heap.size, 0, none⟩) n n)) w') : wpOp Try.prog ops Q i K a w := by
  subst hd
  obtain ⟨i0, hi0, hz0, hz1, hz2⟩ := info_parts info5
  obtain ⟨w', hrun, r1, r2⟩ := run_make_full (P := Try.prog) w w.heap.size 26 5 i0 (.int .u8 0) 1 Try.underlying26 hi0 hz0 hz1 .i64 .i64 n (by rw [hz2]; omega) (by unfold maxLen; omega) (Nat.le_refl _)
  have e : (madeCells (Value.int .u8 0).cells (n * 1)).toList = cs (List.replicate n 0) := by
    rw [show (Value.int .u8 0).cells = #[.int .u8 0] from rfl, toList_madeCells_one]
    simp [cs]
  rw [e] at r1
  have hO : Own w' w.heap.size (.slice (some ⟨w.heap.size, 0, none⟩) n n) (List.replicate n 0) := by
    unfold Own
    rw [List.length_replicate]
    exact r1
  have hk := k w' hO ((Below.refl _ _).grown r2 (Nat.le_refl _) (by simp))
  unfold wpOp
  simp only [hi]
  rw [if_pos (by simp [Region.wanted, hg])]
  left
  unfold Oper.wp
  simp [execOp, ho, hl, hc, hrun, Result.andThen]
  rw [Oper.upon_value]
  exact hk

end Go.Proofs.Ytnmmopneacdgfaa

/-
  The contracts of layer 10's reference's New and Read. Conditions: none.
-/
namespace Go.Proofs.Ytnmmopneacdgfaa
open Go.RowKit

end Go.Proofs.Ytnmmopneacdgfaa

/-
  The contract of layer 10's reference's Write. Conditions: fewer than 2^40 steps.
-/
namespace Go.Proofs.Ytnmmopneacdgfaa
open Go.RowKit

/-- A struct and a value handed back. -/
theorem resCT {fn : Func} {p t : Tmp} {ty : TypeId} (h : fn.results = #[.cell p ty, .tmp t]) (tmps : Array Value) (w : World) (g : Nat) (cs : Array Value) (hp : tmps.getD p undef = .pointer (some ⟨g, 0, none⟩)) (hl : (loadVar ty ⟨g, 0, none⟩).run Try.prog w = .ok (.agg cs) w) (x : Value) (hx : tmps.getD t undef = x) : (results fn tmps).run Try.prog w = .ok (.tuple #[.agg cs, x]) w := by
  have hp' : tmps[p]?.getD undef = .pointer (some ⟨g, 0, none⟩) := by simpa using hp
  have hx' : tmps[t]?.getD undef = x := by simpa using hx
  simp [results, h, hp', hx', asAddr, hl]
end Go.Proofs.Ytnmmopneacdgfaa

/-
  The contract of layer 18's program: Get. Condition: at most 100000 bytes.
-/
namespace Go.Proofs.Ytnmmopneacdgfaa
open Go.RowKit
set_option linter.unusedVariables false
theorem below_turn {w w1 w2 : World} {r : Nat} (h : Below w.heap.size w w1) (k : w1.grownBy w2 (some r)) (hr : w.heap.size ≤ r) : Below w.heap.size w w2 := below_of_but h k hr h.size
theorem Nd.turn {A : Nat → Prop} {w w' : World} {n : NodeS} {p q : Tri} {r : Nat} (h : Nd A w n p q) (k : w.grownBy w' (some r)) (hr : ¬ A r) : Nd A w' n p q := h.keep k.size fun j hj ha => k.block j hj (fun e => hr (by rw [← Option.some.inj e]; exact ha))
theorem rdAll (tl : List UInt8) (tc : Int) : (rdBytes tl tc (tl.length : Nat)).2.2 = (if tc = 0 then tl else []) ∧ (rdBytes tl tc (tl.length : Nat)).2.1 = tc := by
  by_cases e : tc = 0
  · subst e
    simp [rdBytes, show ¬ (tl.length : Int) < 0 from by omega]
  · simp [rdBytes, e]
theorem zeroB_nil : zeroB [] = true := rfl
/-- What Get hands back. -/
def GotG (w : World) (x : NodeS × Int) (e : Ending) (w' : World) : Prop := ∃ p q, e = .returned (.tuple #[ndv x.1 p q, .int .i64 x.2]) ∧ Nd (fun j => w.heap.size ≤ j) w' x.1 p q ∧ Below w.heap.size w w'
set_option maxRecDepth 100000 in
set_option maxHeartbeats 4000000 in
theorem oGetN (w : World) {a : Option Addr} {n c : Nat} {b : List UInt8} (h : Bs w a n c b) (hn : n ≤ 100000) : Calls Try.prog 11 #[.slice a n c] w (GotG w (getNd b)) := by
  have hl := h.len
  obtain ⟨W0, hW0⟩ : ∃ W0, W0 = w.alloc (.cells #[.bool false, .slice none 0 0, .slice none 0 0] 25) := ⟨_, rfl⟩
  have z0 : Blk W0 w.heap.size [.bool false, .slice none 0 0, .slice none 0 0] 25 := by rw [hW0]; exact Blk.newAt w _ _ w.heap.size rfl _ rfl
  have k0 : Below w.heap.size w W0 := by rw [hW0]; exact below_alloc _ _
  have s0 : W0.heap.size = w.heap.size + 1 := by rw [hW0]; simp
  have CR : Hid (Calls Try.prog 33 #[.slice a n c] W0 fun e w' => ∃ r, e = .returned (.pointer (some ⟨r, 0, none⟩)) ∧ W0.heap.size ≤ r ∧ Rd w' r b 0 ∧ Below W0.heap.size W0 w') := oRead W0 (h.below k0 (Nat.le_refl _)) hn
  have CA : Hid (∀ u r, Rd u r b 0 → Calls Try.prog 34 #[.pointer (some ⟨r, 0, none⟩)] u (GotN u r (rdNd b).1 (rdNd b).2)) := fun u r hu => oReadN u r hu (by omega)
  have HG := getNd_eq b
  have HL := rdNd_lit b
  have hzt : b.length ≤ 100000 → (rdNd b).2.1.length ≤ 100000 := fun hz => by
    unfold rdNd
    split
    · unfold nodT
      split
      · exact itR_len (fun _ => restP_len) (rN_len (rN_len (s := (b, 0)) hz 1) 2) _
      · exact itR_len (fun _ => restD_len) (rN_len (rN_len (s := (b, 0)) hz 1) 2) _
    · exact rN_len (s := (b, 0)) hz 1
  have hz := hzt (by omega)
  rw [hl] at HG
  generalize getNd b = out at *
  generalize rdNd b = R at *
  obtain ⟨N, tl, tc⟩ := R
  dsimp only at *
  clear h hzt hl
  by_cases hn4 : n = 496
  · subst hn4
    rw [if_pos rfl] at HG
    have HGh : Hid _ := HG
    clear HG
    go_enter Try.func11, Try.ntmps11
    go_upto_region 1 with fail
    rw [← hW0]
    clear hW0
    go_wp2_with fail
    refine CR.out.mono ?_
    rintro e w1 ⟨r, rfl, hr1, rd1, hb1⟩
    have z1 := z0.below hb1 z0.lt
    have k1 : Below w.heap.size w w1 := k0.trans (hb1.mono k0.size)
    clear CR z0 k0 hb1
    go_wp2_with fail
    refine (CA.out w1 r rd1).mono ?_
    rintro e w2 ⟨p2, q2, rfl, nd2, rd2, g2⟩
    have k2 : Below w.heap.size w w2 := below_turn k1 g2 (by omega)
    have z2 := z1.turn g2 (by omega)
    have nd2b : Nd (fun j => w.heap.size < j ∧ j ≠ r) w2 N p2 q2 := nd2.mono fun j _ hj => ⟨by have := k1.size; have := z1.lt; omega, by have := rd1.lt; omega⟩
    clear CA rd1 z1 k1 g2 nd2
    obtain ⟨g, hg⟩ : ∃ g, g = w2.heap.size := ⟨_, rfl⟩
    have zg : Blk (w2.alloc (.cells #[.bool false, .slice none 0 0, .slice none 0 0] 25)) g [.bool false, .slice none 0 0, .slice none 0 0] 25 := Blk.newAt w2 _ _ g hg.symm _ rfl
    have kg : Below w2.heap.size w2 (w2.alloc (.cells #[.bool false, .slice none 0 0, .slice none 0 0] 25)) := below_alloc _ _
    have hgr : g ≠ r := by have := rd2.lt; omega
    have hgw : g ≠ w.heap.size := by have := z2.lt; omega
    unfold ndv
    go_wp2_with ((with_reducible refine at_st 25 ?_); (refine st' 25 (.tmp 5) (.tmp 15) 3 sizeNd w2.heap.size 0 (ndc N p2 q2) rfl (ndc_one _ _ _) (by rw [← hg]; exact zg.there 0 3 (by simp)) rfl rfl ?_); intro w4 hw4; have b4 : Blk w4 g (ndc N p2 q2) 25 := (by rw [hw4, ← hg]; exact zg.setsW _ rfl); have k4 : Below w2.heap.size w2 w4 := (by rw [hw4]; exact below_sets (Nat.le_refl _) _ kg 0); clear hw4)
    have HG2 : Hid (g = w2.heap.size) := hg
    have nd4 := nd2b.below k4
    have rd4 := rd2.below k4 (Nat.le_refl _)
    have z4 := z2.below k4 z2.lt
    have kw4 : Below w.heap.size w w4 := k2.trans (k4.mono k2.size)
    have CL : Hid (Calls Try.prog 37 #[.pointer (some ⟨r, 0, none⟩)] w4 fun e w' => e = .returned (.int .i64 (tl.length : Nat)) ∧ w' = w4) := oLeft w4 r rd4
    have CB : Hid (Calls Try.prog 36 #[.pointer (some ⟨r, 0, none⟩), .int .i64 (tl.length : Nat)] w4 (Reads w4 r (rdBytes tl tc (tl.length : Nat)))) := oBytes w4 r rd4 (tl.length : Nat) hz (by omega) (by omega)
    have hzz := rdAll tl tc
    generalize rdBytes tl tc (tl.length : Nat) = Y at *
    obtain ⟨Yl, Yc, Yb⟩ := Y
    dsimp only at hzz
    obtain ⟨e1, e2⟩ := hzz
    have e3 := e2.symm
    clear e2
    subst e1 e3
    have HBX : Hid _ := HGh
    generalize tl.length = len at *
    clear zg kg k4 nd2b rd2 z2 k2 rd4
    refine CL.out.mono ?_
    rintro e w5 ⟨rfl, rfl⟩
    go_wp2_with fail
    refine CB.out.mono ?_
    rintro e w6 ⟨a6, m6, c6, rfl, o6, rd6, g6⟩
    have k6 : Below w.heap.size w w6 := below_turn kw4 g6 (by omega)
    have z6 := z4.turn g6 (by omega)
    have b6 := b4.turn g6 hgr
    have nd6 := nd4.turn g6 (fun hh => hh.2 rfl)
    have CN := oNoughtsN w6 o6.toBs
    clear CL CB z4 b4 nd4 kw4 g6 o6 hg
    by_cases h0 : tc = 0
    · subst h0
      rw [if_pos rfl] at CN HGh
      by_cases h1 : zeroB tl = true
      · rw [h1] at CN
        rw [if_pos h1] at HGh
        have CC : Hid (∀ u, u = w6 → Calls Try.prog 14 #[.agg (ndc N p2 q2).toArray] u fun e w' => e = .returned (.int .i64 (chkN N)) ∧ Below u.heap.size u w') := fun u hu => by subst hu; exact oCheckN u nd6 HL
        have CO := oCode w6 r rd6
        generalize chkN N = cd at *
        clear h1
        go_wp2_with fail
        refine CN.mono ?_
        rintro e w7 ⟨rfl, rfl⟩
        go_wp2_with fail
        refine CO.mono ?_
        rintro e w8 ⟨rfl, rfl⟩
        clear CO CN
        go_wp2_with ((with_reducible refine at_ld 25 ?_); (refine ld 25 (.tmp 5) 3 sizeNd _ Try.underlying25 rfl w2.heap.size 0 (ndc N p2 q2) rfl (by rw [← HG2.out]; exact b6.whole) rfl ?_))
        refine (CC.out _ rfl).mono ?_
        rintro e w9 ⟨rfl, hb9⟩
        have nd9 := nd6.below hb9
        have z9 := z6.below hb9 z6.lt
        have b9 := b6.below hb9 b6.lt
        have k9 : Below w.heap.size w w9 := k6.trans (hb9.mono k6.size)
        clear CC b6 nd6 rd6 z6 hb9
        by_cases hc : cd = 0
        · subst hc
          have HO : Hid (out = (N, 0)) := by show _ = _; rw [HGh.out]; simp
          clear HGh HBX
          go_wp2_with (first | ((with_reducible refine at_ld 25 ?_); (refine ld 25 (.tmp 5) 3 sizeNd _ Try.underlying25 rfl w2.heap.size 0 (ndc N p2 q2) rfl (by rw [← HG2.out]; exact b9.whole) rfl ?_)) | ((with_reducible refine at_st 25 ?_); (refine st' 25 (.tmp 2) (.tmp 36) 3 sizeNd w.heap.size 0 (ndc N p2 q2) rfl (ndc_one _ _ _) (z9.there 0 3 (by simp)) rfl rfl ?_); intro w8 hw8; have b8 : Blk w8 w.heap.size (ndc N p2 q2) 25 := (by rw [hw8]; exact z9.setsW _ rfl); have k8 : Below w.heap.size w w8 := (by rw [hw8]; exact below_sets (Nat.le_refl _) _ k9 0); have g8 : w9.grownBy w8 (some w.heap.size) := (by rw [hw8]; exact but_cells' _ _ _ _); clear hw8))
          have nd8 : Nd (fun j => w.heap.size < j ∧ j ≠ r) w8 N p2 q2 := nd9.turn g8 (fun hh => by have := hh.1; omega)
          refine bodyPost_ret (v := .tuple #[ndv N p2 q2, .int .i64 0]) (resCT Try.results11 _ _ w.heap.size _ rfl (run_loadVar_row w8 w.heap.size 25 25 _ (0, 0) _ b8 Try.underlying25 rfl sizeNd) _ rfl) rfl ?_
          rw [HO.out]
          exact ⟨p2, q2, rfl, nd8.mono (fun j _ hj => Nat.le_of_lt hj.1), k8⟩
        · have bc : (cd == 0) = false := by simp [hc]
          have HO : Hid (out = (zeroN, cd)) := by show _ = _; rw [HGh.out]; simp [hc]
          clear HGh HBX hc nd9
          go_wp2_with ((with_reducible refine at_st 25 ?_); (refine st' 25 (.tmp 2) (.tmp 34) 3 sizeNd w.heap.size 0 [.bool false, .slice none 0 0, .slice none 0 0] rfl (by intro u hu; simp only [List.mem_cons, List.not_mem_nil, or_false] at hu; rcases hu with rfl | rfl | rfl <;> rfl) (z9.there 0 3 (by simp)) rfl rfl ?_); intro w8 hw8; have b8 : Blk w8 w.heap.size [.bool false, .slice none 0 0, .slice none 0 0] 25 := (by rw [hw8]; exact z9.setsW _ rfl); have k8 : Below w.heap.size w w8 := (by rw [hw8]; exact below_sets (Nat.le_refl _) _ k9 0); clear hw8)
          refine bodyPost_ret (v := .tuple #[ndv zeroN T0 T0, .int .i64 cd]) (resCT Try.results11 _ _ w.heap.size _ rfl (run_loadVar_row w8 w.heap.size 25 25 _ (0, 0) _ b8 Try.underlying25 rfl sizeNd) _ rfl) rfl ?_
          rw [HO.out]
          exact ⟨T0, T0, rfl, Nd.zero _ _, k8⟩
      · have h1f : zeroB tl = false := by simpa using h1
        rw [h1f] at CN
        rw [if_neg h1] at HGh
        have CF := oFail w6 r rd6 4
        rw [if_pos rfl] at CF
        clear h1 h1f
        go_wp2_with fail
        refine CN.mono ?_
        rintro e w7 ⟨rfl, rfl⟩
        go_wp2_with fail
        refine CF.mono ?_
        rintro e w9 ⟨rfl, rd9, g9⟩
        have k9 : Below w.heap.size w w9 := below_turn k6 g9 (by omega)
        have z9 := z6.turn g9 (by omega)
        have CO := oCode w9 r rd9
        clear CN CF z6 b6 nd6 rd6 k6 g9
        go_wp2_with fail
        refine CO.mono ?_
        rintro e w8 ⟨rfl, rfl⟩
        clear CO rd9
        have HO : Hid (out = (zeroN, 4)) := by show _ = _; rw [HGh.out, if_neg (by decide)]
        clear HGh HBX
        go_wp2_with ((with_reducible refine at_st 25 ?_); (refine st' 25 (.tmp 2) (.tmp 28) 3 sizeNd w.heap.size 0 [.bool false, .slice none 0 0, .slice none 0 0] rfl (by intro u hu; simp only [List.mem_cons, List.not_mem_nil, or_false] at hu; rcases hu with rfl | rfl | rfl <;> rfl) (z9.there 0 3 (by simp)) rfl rfl ?_); intro w8 hw8; have b8 : Blk w8 w.heap.size [.bool false, .slice none 0 0, .slice none 0 0] 25 := (by rw [hw8]; exact z9.setsW _ rfl); have k8 : Below w.heap.size w w8 := (by rw [hw8]; exact below_sets (Nat.le_refl _) _ k9 0); clear hw8)
        refine bodyPost_ret (v := .tuple #[ndv zeroN T0 T0, .int .i64 4]) (resCT Try.results11 _ _ w.heap.size _ rfl (run_loadVar_row w8 w.heap.size 25 25 _ (0, 0) _ b8 Try.underlying25 rfl sizeNd) _ rfl) rfl ?_
        rw [HO.out]
        exact ⟨T0, T0, rfl, Nd.zero _ _, k8⟩
    · rw [if_neg h0] at CN HGh
      rw [zeroB_nil] at CN
      have CO := oCode w6 r rd6
      have bt : (tc == 0) = false := by simp [h0]
      have HO : Hid (out = (zeroN, tc)) := by show _ = _; rw [HGh.out, if_neg h0]
      clear HGh HBX
      go_wp2_with fail
      refine CN.mono ?_
      rintro e w7 ⟨rfl, rfl⟩
      go_wp2_with fail
      refine CO.mono ?_
      rintro e w8 ⟨rfl, rfl⟩
      clear CO CN b6 nd6 rd6
      go_wp2_with ((with_reducible refine at_st 25 ?_); (refine st' 25 (.tmp 2) (.tmp 28) 3 sizeNd w.heap.size 0 [.bool false, .slice none 0 0, .slice none 0 0] rfl (by intro u hu; simp only [List.mem_cons, List.not_mem_nil, or_false] at hu; rcases hu with rfl | rfl | rfl <;> rfl) (z6.there 0 3 (by simp)) rfl rfl ?_); intro w8 hw8; have b8 : Blk w8 w.heap.size [.bool false, .slice none 0 0, .slice none 0 0] 25 := (by rw [hw8]; exact z6.setsW _ rfl); have k8 : Below w.heap.size w w8 := (by rw [hw8]; exact below_sets (Nat.le_refl _) _ k6 0); clear hw8)
      refine bodyPost_ret (v := .tuple #[ndv zeroN T0 T0, .int .i64 tc]) (resCT Try.results11 _ _ w.heap.size _ rfl (run_loadVar_row w8 w.heap.size 25 25 _ (0, 0) _ b8 Try.underlying25 rfl sizeNd) _ rfl) rfl ?_
      rw [HO.out]
      exact ⟨T0, T0, rfl, Nd.zero _ _, k8⟩
  · have hnf : ((n : Int) == 496) = false := by simp; omega
    rw [if_neg hn4] at HG
    have HO : Hid (out = (zeroN, 17)) := HG
    clear HG hn4 CR CA HL
    go_enter Try.func11, Try.ntmps11
    go_upto_region 1 with fail
    rw [← hW0]
    clear hW0
    go_wp2_with ((with_reducible refine at_st 25 ?_); (refine st' 25 (.tmp 2) (.tmp 11) 3 sizeNd w.heap.size 0 [.bool false, .slice none 0 0, .slice none 0 0] rfl (by intro u hu; simp only [List.mem_cons, List.not_mem_nil, or_false] at hu; rcases hu with rfl | rfl | rfl <;> rfl) (z0.there 0 3 (by simp)) rfl rfl ?_); intro w8 hw8; have b8 : Blk w8 w.heap.size [.bool false, .slice none 0 0, .slice none 0 0] 25 := (by rw [hw8]; exact z0.setsW _ rfl); have k8 : Below w.heap.size w w8 := (by rw [hw8]; exact below_sets (Nat.le_refl _) _ k0 0); clear hw8)
    refine bodyPost_ret (v := .tuple #[ndv zeroN T0 T0, .int .i64 17]) (resCT Try.results11 _ _ w.heap.size _ rfl (run_loadVar_row w8 w.heap.size 25 25 _ (0, 0) _ b8 Try.underlying25 rfl sizeNd) _ rfl) rfl ?_
    rw [HO.out]
    exact ⟨T0, T0, rfl, Nd.zero _ _, k8⟩

end Go.Proofs.Ytnmmopneacdgfaa
