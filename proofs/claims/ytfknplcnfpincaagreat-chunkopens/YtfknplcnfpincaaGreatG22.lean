/-
  1 texts in one. No statement of the seat is proved here.
-/
import Derived.Test.YtfknplcnfpincaaGreatG21

/-
  The contract of layer 13's reference's Seal. Conditions: a text of at most 2000 bytes, what it is of at most 60; a book of at most 900 things.
-/
namespace Go.Proofs.YtfknplcnfpincaaGreat
open Go.RowKit
set_option linter.unusedVariables false

/-- A variable made, wherever it comes. -/
theorem opMake {P : Program} {ops : Array Oper} {Q : Exit → Act → World → Prop} {md : Region.Mode} {S : World → Prop} (hS : ∀ w w', S w → Grows w w' → S w') {cells : Array Value} {t : TypeId} {i : Nat} {d : Tmp} (m : Makes P ops i d cells t) {fuel : Nat} {L : Array Bool} {a : Act} {w : World} (hs : S w)
    (h : ∀ g w', Grows w w' → S w' → Blk w' g cells.toList t → w.heap.size ≤ g → wpAnyG P md ops Q S fuel L (a.put (some d) (.pointer (some ⟨g, 0, none⟩))) w') : wpOp P ops Q i (fun a' w'' => S w'' ∧ wpAnyG P md ops Q S fuel L a' w'') a w :=
  m.op ⟨hS _ _ hs (below_alloc _ _), h _ _ (below_alloc _ _) (hS _ _ hs (below_alloc _ _)) (Blk.new w _ _) (Nat.le_refl _)⟩
/-- What stands behind one piece. -/
def MidR (A : Nat → Prop) (wr wx : World) (g : Nat) (S' : SeaS) (d' : Du) (sa : Option Addr) (sn sc : Nat) (l : List UInt8) : Prop := Blk wx g (rsC S' d') 37 ∧ RS A wx S' d' ∧ BA A wx sa sn sc l ∧ Below wr.heap.size wr wx
/-- What Seal answers. -/
def SealsRC (A : Nat → Prop) (S' : SeaS) (ls : List (List UInt8)) (w : World) (e : Ending) (w' : World) : Prop := ∃ d' a n c, e = .returned (.tuple #[rsV S' d', .slice a n c, .int .i64 0]) ∧ RS A w' S' d' ∧ BB A w' a n c ls ∧ Below w.heap.size w w'
/-- A of blocks, but for two. -/
def But2 (A : Nat → Prop) (x y : Nat) : Nat → Prop := fun j => A j ∧ j ≠ x ∧ j ≠ y
/-- And but for the block of a slice. -/
def ButS (A : Nat → Prop) (v : Value) : Nat → Prop := fun j => A j ∧ v.ownBlock ≠ some j
theorem last_int {j C C1 : Nat} (h : C = C1 + 1) : ((j : Int) == (C1 : Int)) = decide (j + 1 = C) := by
  subst h
  rw [Bool.eq_iff_iff, beq_iff_eq, decide_eq_true_iff]
  omega

set_option maxRecDepth 100000 in
set_option maxHeartbeats 8000000 in
theorem rSeal13 (w : World) {A : Nat → Prop} (hA : ∀ j, w.heap.size ≤ j → A j) {S : SeaS} {d : Du} (h : RS A w S d) {k what t : List UInt8} {ak aw at' : Option Addr} {ck nw cw nt ct : Nat} (bk : BA A w ak 32 ck k) (bw : BA A w aw nw cw what) (bt' : BA A w at' nt ct t) (zw : nw ≤ 60) (zt : nt ≤ 2000) (hz : S.book.length ≤ 900) (hq : S.count ≤ 900000) :
    Calls Tryz.prog 9 #[rsV S d, .slice ak 32 ck, .slice aw nw cw, .slice at' nt ct] w (SealsRC A (chS S k what t (cnt nt) (cnt nt)) (chB S k what t (cnt nt) (cnt nt)) w) := by
  have HAA : Hid (∀ j, w.heap.size ≤ j → A j) := hA
  have HR : Hid (RS A w S d) := h
  have HK : Hid (BA A w ak 32 ck k) := bk
  have HW : Hid (BA A w aw nw cw what) := bw
  have HT : Hid (BA A w at' nt ct t) := bt'
  have HTL : Hid (t.length = nt) := bt'.1.len
  have HWL : Hid (what.length = nw) := bw.1.len
  have HKL : Hid (k.length = 32) := bk.1.len
  have HZ : Hid (S.book.length ≤ 900) := hz
  have HQ : Hid (S.count ≤ 900000) := hq
  have CC : Hid (∀ u, Calls Tryz.prog 24 #[.int .i64 (nt : Int)] u fun e w' => e = .returned (.int .i64 (cnt nt : Int)) ∧ u = w') := fun u => rCount u nt (by omega)
  have HPC : Hid (∀ i, i < cnt nt → ∃ a' c', (∀ u, Calls Tryz.prog 28 #[.slice at' nt ct, .int .i64 (i : Int)] u fun e w' => e = .returned (.slice a' (plen nt i) c') ∧ u = w') ∧ ∀ A u, BA A u at' nt ct t → BA A u a' (plen nt i) c' (piece t i)) := fun i hi => rPiece bt'.1 (by omega) i hi
  have HC5 : Hid (cnt nt ≤ 5) := by show _ ≤ _; unfold cnt; split <;> omega
  have HC1 : Hid (1 ≤ cnt nt) := cnt_pos nt
  obtain ⟨C, hC⟩ : ∃ C, C = cnt nt := ⟨_, rfl⟩
  rw [← hC] at CC HC5 HPC HC1 ⊢
  have hCl : C ≤ 5 := HC5.out
  obtain ⟨C1, hC1⟩ : ∃ C1, C = C1 + 1 := ⟨C - 1, by have := HC1.out; omega⟩
  have HC2 : Hid (C = C1 + 1) := hC1
  have hwr : IntKind.i64.wrap ((C : Int) - 1) = (C1 : Int) := by rw [IntKind.wrap_i64]; omega
  clear h bk bw bt' hC hz hq hA hC1
  have B8 : Hid (Blk (((w.alloc (.cells #[.bool S.ideal, .slice d.ba d.bn d.bc, .slice d.ca d.cn d.cc, .int .u64 (S.count : Int), .bool S.reused, .bool S.forged] 37)).alloc (.cells #[.bool false, .slice none 0 0, .slice none 0 0, .int .u64 0, .bool false, .bool false] 37)).alloc (.cells #[.bool S.ideal, .slice d.ba d.bn d.bc, .slice d.ca d.cn d.cc, .int .u64 (S.count : Int), .bool S.reused, .bool S.forged] 37)) (w.heap.size + 1) [.bool false, .slice none 0 0, .slice none 0 0, .int .u64 0, .bool false, .bool false] 37) := by
    have := (Blk.new (w.alloc (.cells #[.bool S.ideal, .slice d.ba d.bn d.bc, .slice d.ca d.cn d.cc, .int .u64 (S.count : Int), .bool S.reused, .bool S.forged] 37)) #[.bool false, .slice none 0 0, .slice none 0 0, .int .u64 0, .bool false, .bool false] 37).old (.cells #[.bool S.ideal, .slice d.ba d.bn d.bc, .slice d.ca d.cn d.cc, .int .u64 (S.count : Int), .bool S.reused, .bool S.forged] 37)
    rwa [show (w.alloc (.cells #[.bool S.ideal, .slice d.ba d.bn d.bc, .slice d.ca d.cn d.cc, .int .u64 (S.count : Int), .bool S.reused, .bool S.forged] 37)).heap.size = w.heap.size + 1 from by simp] at this
  have B11 : Hid (Blk (((w.alloc (.cells #[.bool S.ideal, .slice d.ba d.bn d.bc, .slice d.ca d.cn d.cc, .int .u64 (S.count : Int), .bool S.reused, .bool S.forged] 37)).alloc (.cells #[.bool false, .slice none 0 0, .slice none 0 0, .int .u64 0, .bool false, .bool false] 37)).alloc (.cells #[.bool S.ideal, .slice d.ba d.bn d.bc, .slice d.ca d.cn d.cc, .int .u64 (S.count : Int), .bool S.reused, .bool S.forged] 37)) (w.heap.size + 2) (rsC S d) 37) := by
    have := Blk.new ((w.alloc (.cells #[.bool S.ideal, .slice d.ba d.bn d.bc, .slice d.ca d.cn d.cc, .int .u64 (S.count : Int), .bool S.reused, .bool S.forged] 37)).alloc (.cells #[.bool false, .slice none 0 0, .slice none 0 0, .int .u64 0, .bool false, .bool false] 37)) #[.bool S.ideal, .slice d.ba d.bn d.bc, .slice d.ca d.cn d.cc, .int .u64 (S.count : Int), .bool S.reused, .bool S.forged] 37
    rwa [size2] at this
  have QW : Hid (Below w.heap.size w (((w.alloc (.cells #[.bool S.ideal, .slice d.ba d.bn d.bc, .slice d.ca d.cn d.cc, .int .u64 (S.count : Int), .bool S.reused, .bool S.forged] 37)).alloc (.cells #[.bool false, .slice none 0 0, .slice none 0 0, .int .u64 0, .bool false, .bool false] 37)).alloc (.cells #[.bool S.ideal, .slice d.ba d.bn d.bc, .slice d.ca d.cn d.cc, .int .u64 (S.count : Int), .bool S.reused, .bool S.forged] 37))) := below3 w _ _ _
  have SZ : Hid ((((w.alloc (.cells #[.bool S.ideal, .slice d.ba d.bn d.bc, .slice d.ca d.cn d.cc, .int .u64 (S.count : Int), .bool S.reused, .bool S.forged] 37)).alloc (.cells #[.bool false, .slice none 0 0, .slice none 0 0, .int .u64 0, .bool false, .bool false] 37)).alloc (.cells #[.bool S.ideal, .slice d.ba d.bn d.bc, .slice d.ca d.cn d.cc, .int .u64 (S.count : Int), .bool S.reused, .bool S.forged] 37)).heap.size = w.heap.size + 3) := by show _ = _; simp
  show Calls Tryz.prog _ #[.agg #[.bool S.ideal, .slice d.ba d.bn d.bc, .slice d.ca d.cn d.cc, .int .u64 (S.count : Int), .bool S.reused, .bool S.forged], _, _, _] w _
  go_enter Tryz.func9, Tryz.ntmps9
  go_wp2_with fail
  obtain ⟨x8, h8⟩ : ∃ x, x = w.heap.size + 1 := ⟨_, rfl⟩
  obtain ⟨x11, h11⟩ : ∃ x, x = w.heap.size + 2 := ⟨_, rfl⟩
  first | rw [show w.heap.size + 1 + 1 = w.heap.size + 2 from rfl] | skip
  rw [← h8] at B8
  rw [← h11] at B11
  rw [← h11, ← h8]
  have HX : Hid (x8 = w.heap.size + 1 ∧ x11 = w.heap.size + 2) := ⟨h8, h11⟩
  clear h8 h11
  generalize ((w.alloc (.cells #[.bool S.ideal, .slice d.ba d.bn d.bc, .slice d.ca d.cn d.cc, .int .u64 (S.count : Int), .bool S.reused, .bool S.forged] 37)).alloc (.cells #[.bool false, .slice none 0 0, .slice none 0 0, .int .u64 0, .bool false, .bool false] 37)).alloc (.cells #[.bool S.ideal, .slice d.ba d.bn d.bc, .slice d.ca d.cn d.cc, .int .u64 (S.count : Int), .bool S.reused, .bool S.forged] 37) = w1 at *
  refine (CC.out w1).mono ?_
  rintro e w2 ⟨rfl, rfl⟩
  have HB0 : Hid (w1.heap.size = w.heap.size + 3) := SZ
  clear SZ CC
  go_wp2_with fail
  go_loopw [13, 14] (fun bl i wr => ∃ (j : Nat) (oa : Option Addr) (on oc : Nat) (d1 : Du), j ≤ C ∧ i = .int .i64 (j : Int) ∧ bl = .slice oa on oc ∧ Hid (OwS (elB (But2 A x8 x11)) 1 22 wr w1.heap.size (.slice oa on oc) (chB S k what t C j)) ∧ Hid (RS (ButS (But2 A x8 x11) (.slice oa on oc)) wr (chS S k what t C j) d1) ∧ Hid (Blk wr x11 (rsC (chS S k what t C j) d1) 37) ∧ Hid (Blk wr x8 [.bool false, .slice none 0 0, .slice none 0 0, .int .u64 0, .bool false, .bool false] 37) ∧ Hid (Below w.heap.size w wr ∧ w1.heap.size ≤ wr.heap.size)) (fun _ i _ => C - (intOf i).toNat)
  case atStart => exact ⟨0, none, 0, 0, d, Nat.zero_le _, rfl, rfl, OwS.nil _ _ _ _ _, (HR.out.mono fun j hj ha => ⟨⟨ha, by have := HX.out; omega, by have := HX.out; omega⟩, by simp [Value.ownBlock]⟩).grow QW.out, B11, B8, QW.out, Nat.le_refl _⟩
  case round =>
    obtain ⟨j, oa, on, oc, d1, hj, rfl, rfl, O1, R1, X1, Y1, Q1⟩ := hrel
    clear B8 B11
    by_cases hlt : j < C
    · have i0 : (j : Int) < (C : Int) := by omega
      have hmono : ∀ u, w.heap.size ≤ u → True := fun _ _ => trivial
      obtain ⟨A2, hA2⟩ : ∃ A2, A2 = But2 A x8 x11 := ⟨_, rfl⟩
      rw [← hA2] at R1 O1
      have HB2 : Hid (A2 = But2 A x8 x11) := hA2
      obtain ⟨A1, hA1⟩ : ∃ A1, A1 = ButS A2 (.slice oa on oc) := ⟨_, rfl⟩
      rw [← hA1] at R1
      have HB1 : Hid (A1 = ButS A2 (.slice oa on oc)) := hA1
      have HN2 : Hid (∀ i, wr.heap.size ≤ i → A2 i) := fun i hi => by rw [hA2]; exact ⟨HAA.out i (by have := Q1.out.1.size; omega), by have := X1.out.lt; have := Y1.out.lt; omega, by have := X1.out.lt; omega⟩
      have HN1 : Hid (∀ i, wr.heap.size ≤ i → A1 i) := fun i hi => by rw [hA1]; exact ⟨HN2.out i hi, fun e => by have := (O1.out.lt i e).2; omega⟩
      have HL1 : Hid (∀ i, i < w.heap.size → A i → A1 i) := fun i hi ha => by rw [hA1, hA2]; exact ⟨⟨ha, by have := HX.out; omega, by have := HX.out; omega⟩, fun e => by have := (O1.out.lt i e).1; have := HB0.out; omega⟩
      have H11 : Hid (∀ i, A1 i → i ≠ x11) := fun i hi => by rw [hA1, hA2] at hi; exact hi.1.2.2
      have H211 : Hid (∀ i, A2 i → i ≠ x11) := fun i hi => by rw [hA2] at hi; exact hi.2.2
      clear hA1 hA2
      have K1 : Hid (BA A1 wr ak 32 ck k) := (HK.out.mono' HL1.out).below' Q1.out.1
      have WH1 : Hid (BA A1 wr aw nw cw what) := (HW.out.mono' HL1.out).below' Q1.out.1
      obtain ⟨a', c', hpc, hpb⟩ := HPC.out j hlt
      have T1 : Hid (BA A1 wr a' (plen nt j) c' (piece t j)) := (hpb _ _ (HT.out.mono' HL1.out)).below' Q1.out.1 |> fun h => h
      have CPC : Hid (∀ u, Calls Tryz.prog 28 #[.slice at' nt ct, .int .i64 (j : Int)] u fun e w' => e = .returned (.slice a' (plen nt j) c') ∧ u = w') := hpc
      have hp6 := plen_le nt j
      obtain ⟨P, hP⟩ : ∃ P, P = plen nt j := ⟨_, rfl⟩
      rw [← hP] at T1 CPC hp6
      have hw3 : IntKind.u32.wrap (j : Int) = (j : Int) := by rw [IntKind.wrap_u32]; omega
      obtain ⟨lb, hlb⟩ : ∃ lb, ((j : Int) == (C1 : Int)) = lb := ⟨_, rfl⟩
      have HLB : Hid (lb = decide (j + 1 = C)) := by show _ = _; rw [← hlb]; exact last_int HC2.out
      obtain ⟨Sj, hSj⟩ : ∃ Sj, Sj = chS S k what t C j := ⟨_, rfl⟩
      have HSJ : Hid (Sj = chS S k what t C j) := hSj
      rw [← hSj] at R1 X1
      have ZB : Hid (Sj.book.length ≤ 1000) := by show _ ≤ _; rw [hSj, chS_len]; have := HZ.out; omega
      have ZQ : Hid (Sj.count ≤ 1000000) := by show _ ≤ _; rw [hSj]; have := chS_count S k what t C j; have := HQ.out; omega
      clear hpc hpb hP hSj
      go_upto_region 9 with fail
      go_cut [15, 16, 17] from 26 to 60 (fun pv bv cv wx => ∃ (g : Nat) (sa : Option Addr) (sn sc : Nat) (d2 : Du), pv = .pointer (some ⟨g, 0, none⟩) ∧ bv = .slice sa sn sc ∧ cv = .int .i64 0 ∧ Hid (MidR A1 wr wx g (chS S k what t C (j + 1)) d2 sa sn sc (chM S k what t C j)))
      case first =>
        refine regionG (S := Grows wr) (by kernel_rfl) (Below.refl _ wr).drew ?_
        refine takeG 0 (some 32) (rsV Sj d1) rfl rfl (by kernel_rfl) (by kernel_rfl) (by kernel_rfl) (fun _ _ _ h => h) (ans_row 37 (.tmp 11) _ 6 rfl (by rfl) x11 0 rfl (rsC Sj d1) (fun u h => (X1.out.below h X1.out.lt).whole) Tryz.underlying37 rfl rfl sizeRS) ?_
        simp only [Act.put, List.setIfInBounds_toArray, List.set_cons_zero, List.set_cons_succ]
        refine takeG 1 (some 33) (.slice ak 32 ck) rfl rfl (by kernel_rfl) (by kernel_rfl) (by kernel_rfl) (fun _ _ _ h => h) (ans_plain (by rfl) (fun w _ => rfl)) ?_
        simp only [Act.put, List.setIfInBounds_toArray, List.set_cons_zero, List.set_cons_succ]
        refine takeG 2 (some 34) (.int .i64 (j : Int)) rfl rfl (by kernel_rfl) (by kernel_rfl) (by kernel_rfl) (fun _ _ _ h => h) (ans_plain (by rfl) (fun w _ => rfl)) ?_
        simp only [Act.put, List.setIfInBounds_toArray, List.set_cons_zero, List.set_cons_succ]
        refine takeG 3 (some 35) (.int .u32 (j : Int)) rfl rfl (by kernel_rfl) (by kernel_rfl) (by kernel_rfl) (fun _ _ _ h => h) (ans_plain (by rfl) (fun w _ => by unfold execOp; go_simp)) ?_
        simp only [Act.put, List.setIfInBounds_toArray, List.set_cons_zero, List.set_cons_succ]
        refine takeG 5 (some 37) (.slice aw nw cw) rfl rfl (by kernel_rfl) (by kernel_rfl) (by kernel_rfl) (fun _ _ _ h => h) (ans_plain (by rfl) (fun w _ => rfl)) ?_
        simp only [Act.put, List.setIfInBounds_toArray, List.set_cons_zero, List.set_cons_succ]
        refine takeG 6 (some 38) (.int .i64 (j : Int)) rfl rfl (by kernel_rfl) (by kernel_rfl) (by kernel_rfl) (fun _ _ _ h => h) (ans_plain (by rfl) (fun w _ => rfl)) ?_
        simp only [Act.put, List.setIfInBounds_toArray, List.set_cons_zero, List.set_cons_succ]
        refine takeG 7 (some 39) (.int .i64 (j : Int)) rfl rfl (by kernel_rfl) (by kernel_rfl) (by kernel_rfl) (fun _ _ _ h => h) (ans_plain (by rfl) (fun w _ => rfl)) ?_
        simp only [Act.put, List.setIfInBounds_toArray, List.set_cons_zero, List.set_cons_succ]
        refine takeG 8 (some 40) (.int .i64 (C : Int)) rfl rfl (by kernel_rfl) (by kernel_rfl) (by kernel_rfl) (fun _ _ _ h => h) (ans_plain (by rfl) (fun w _ => rfl)) ?_
        simp only [Act.put, List.setIfInBounds_toArray, List.set_cons_zero, List.set_cons_succ]
        refine takeG 9 (some 41) (.int .i64 (C1 : Int)) rfl rfl (by kernel_rfl) (by kernel_rfl) (by kernel_rfl) (fun _ _ _ h => h) (ans_plain (by rfl) (fun w _ => by unfold execOp; go_simp)) ?_
        simp only [Act.put, List.setIfInBounds_toArray, List.set_cons_zero, List.set_cons_succ]
        refine takeG 10 (some 42) (.bool lb) rfl rfl (by kernel_rfl) (by kernel_rfl) (by kernel_rfl) (fun _ _ _ h => h) (ans_plain (by rfl) (fun w _ => by unfold execOp; go_simp)) ?_
        simp only [Act.put, List.setIfInBounds_toArray, List.set_cons_zero, List.set_cons_succ]
        refine takeG 12 (some 44) (.slice at' nt ct) rfl rfl (by kernel_rfl) (by kernel_rfl) (by kernel_rfl) (fun _ _ _ h => h) (ans_plain (by rfl) (fun w _ => rfl)) ?_
        simp only [Act.put, List.setIfInBounds_toArray, List.set_cons_zero, List.set_cons_succ]
        refine takeG 13 (some 45) (.int .i64 (j : Int)) rfl rfl (by kernel_rfl) (by kernel_rfl) (by kernel_rfl) (fun _ _ _ h => h) (ans_plain (by rfl) (fun w _ => rfl)) ?_
        simp only [Act.put, List.setIfInBounds_toArray, List.set_cons_zero, List.set_cons_succ]
        refine fork2G 4 20 (by kernel_rfl) (fun v1 hv1 sv1 => ?_) (fun v2 hv2 sv2 => ?_)
        · refine opCallW 4 (some 36) 26 #[.const (.int .u64 0), .tmp 35] #[35, 68] #[.int .u64 0, .int .u32 (j : Int)] rfl rfl rfl (by rfl) (by rfl) Tryz.call26 ?_
          refine (rNonce12 v1 0 j (by omega) (by omega)).mono ?_
          rintro e v3 ⟨an, mn, cn, rfl, on, hbn⟩
          have lmn := on.toBs.len
          rw [nonL_length] at lmn
          subst lmn
          have Nn := on.both (A := A1) fun i hi => HN1.out i (Nat.le_trans (Below.size sv1) hi)
          refine ⟨_, rfl, Grows.trans sv1 hbn, ?_⟩
          simp only [Act.put, List.setIfInBounds_toArray, List.set_cons_zero, List.set_cons_succ]
          refine fork2G 11 20 (by kernel_rfl) (fun v4 hv4 sv4 => ?_) (fun v5 hv5 sv5 => ?_)
          · have Nn := Nn.below' hv4
            refine opCallW 11 (some 43) 27 #[.tmp 37, .tmp 38, .tmp 42] #[22, 3, 4] #[.slice aw nw cw, .int .i64 (j : Int), .bool lb] rfl rfl rfl (by rfl) (by rfl) Tryz.call27 ?_
            refine (rBeside v4 (WH1.out.below' sv4).1 (by omega) j (by omega) lb).mono ?_
            rintro e v6 ⟨ab, mb, cb, rfl, ob, hbb⟩
            have lmb := ob.toBs.len
            rw [bes_length, HWL.out] at lmb
            have Bd := ob.both (A := A1) fun i hi => HN1.out i (Nat.le_trans (Below.size sv4) hi)
            have Nn := Nn.below' hbb
            refine ⟨_, rfl, Grows.trans sv4 hbb, ?_⟩
            simp only [Act.put, List.setIfInBounds_toArray, List.set_cons_zero, List.set_cons_succ]
            refine takeG 14 (some 46) (.slice a' P c') rfl rfl (by kernel_rfl) (by kernel_rfl) (by kernel_rfl) (fun _ _ _ h => h) (ans_fn 28 #[.tmp 44, .tmp 45] #[22, 3] #[.slice at' nt ct, .int .i64 (j : Int)] rfl (by rfl) (by rfl) Tryz.call28 fun u h => (CPC.out u).mono fun e w' ⟨he, hw⟩ => ⟨he, by rw [hw]; exact Below.refl _ _⟩) ?_
            simp only [Act.put, List.setIfInBounds_toArray, List.set_cons_zero, List.set_cons_succ]
            refine fork2G 15 20 (by kernel_rfl) (fun v7 hv7 sv7 => ?_) (fun v8 hv8 sv8 => ?_)
            · have Nn := Nn.below' hv7
              have Bd := Bd.below' hv7
              refine opCallW 15 (some 47) 25 #[.tmp 32, .tmp 33, .tmp 36, .tmp 43, .tmp 46] #[37, 22, 22, 22, 22] #[rsV Sj d1, .slice ak 32 ck, .slice an 12 cn, .slice ab mb cb, .slice a' P c'] rfl rfl rfl (by rfl) (by rfl) Tryz.call25 ?_
              refine (rSeal12 v7 (A := A1) (fun i hi => HN1.out i (Nat.le_trans (Below.size sv7) hi)) (R1.out.grow sv7) (K1.out.below' sv7) Nn Bd (T1.out.below' sv7) (by omega) (by omega) ZB.out ZQ.out).mono ?_
              rintro e v9 ⟨d2, sa, sn, sc, rfl, R2, Z2, hb2⟩
              obtain ⟨S2, hS2⟩ : ∃ S2, S2 = Sj.seal k (nonL 0 j) (bes what j lb) (piece t j) := ⟨_, rfl⟩
              rw [← hS2] at R2 ⊢
              refine ⟨_, rfl, Grows.trans sv7 hb2, ?_⟩
              simp only [Act.put, List.setIfInBounds_toArray, List.set_cons_zero, List.set_cons_succ]
              refine takeG 16 (some 31) (.tuple #[rsV S2 d2, .slice sa sn sc, .int .i64 0]) rfl rfl (by kernel_rfl) (by kernel_rfl) (by kernel_rfl) (fun _ _ _ h => h) (ans_plain (by rfl) (fun w _ => rfl)) ?_
              simp only [Act.put, List.setIfInBounds_toArray, List.set_cons_zero, List.set_cons_succ]
              refine takeG 17 (some 48) (rsV S2 d2) rfl rfl (by kernel_rfl) (by kernel_rfl) (by kernel_rfl) (fun _ _ _ h => h) (ans_plain (by rfl) (fun w _ => by unfold execOp; go_simp)) ?_
              simp only [Act.put, List.setIfInBounds_toArray, List.set_cons_zero, List.set_cons_succ]
              refine takeG 18 (some 49) (.slice sa sn sc) rfl rfl (by kernel_rfl) (by kernel_rfl) (by kernel_rfl) (fun _ _ _ h => h) (ans_plain (by rfl) (fun w _ => by unfold execOp; go_simp)) ?_
              simp only [Act.put, List.setIfInBounds_toArray, List.set_cons_zero, List.set_cons_succ]
              refine takeG 19 (some 50) (.int .i64 0) rfl rfl (by kernel_rfl) (by kernel_rfl) (by kernel_rfl) (fun _ _ _ h => h) (ans_plain (by rfl) (fun w _ => by unfold execOp; go_simp)) ?_
              simp only [Act.put, List.setIfInBounds_toArray, List.set_cons_zero, List.set_cons_succ]
              refine alloc1 (fun _ _ h h2 => Grows.trans h h2) 20 15 ⟨_, rfl, rfl, rfl, fun ρ w => rfl⟩ (by kernel_rfl) fun g v10 hv10 sv10 Bg hgx => ?_
              have R2 := (R2.off hgx).grow hv10
              have Z2 := (Z2.off hgx).below' hv10
              have hgw : wr.heap.size ≤ g := Nat.le_trans (Below.size (Grows.trans sv7 hb2)) hgx
              simp only [Act.put, List.setIfInBounds_toArray, List.set_cons_zero, List.set_cons_succ]
              refine oneG 21 (by kernel_rfl) fun v11 hv11 sv11 => ?_
              have R2 := R2.grow hv11
              have Z2 := Z2.below' hv11
              have Bg := Bg.below hv11 Bg.lt
              refine opStR 21 37 (.tmp 15) (.tmp 48) 6 rfl rfl rfl rfl g _ (rsC S2 d2) 37 Bg rfl rfl (rsC_one _ _) sizeRS rfl rfl fun v12 b9 k9 => ?_
              have hs9 : Grows wr v12 := Below.trans sv11 (k9.below (B := wr.heap.size) (Below.size sv11) (fun i hi e => by omega))
              have R2 := R2.kp k9 fun i hi e => hi.2 e
              have Z2 := Z2.kp k9 fun i hi e => hi.2 e
              refine ⟨hs9, ?_⟩
              refine takeG 22 (some 16) (.slice sa sn sc) rfl rfl (by kernel_rfl) (by kernel_rfl) (by kernel_rfl) (fun _ _ _ h => h) (ans_plain (by rfl) (fun w _ => rfl)) ?_
              simp only [Act.put, List.setIfInBounds_toArray, List.set_cons_zero, List.set_cons_succ]
              refine takeG 23 (some 17) (.int .i64 0) rfl rfl (by kernel_rfl) (by kernel_rfl) (by kernel_rfl) (fun _ _ _ h => h) (ans_plain (by rfl) (fun w _ => rfl)) ?_
              simp only [Act.put, List.setIfInBounds_toArray, List.set_cons_zero, List.set_cons_succ]
              refine doneG (by kernel_rfl) fun v13 hgz hsz => ?_
              have M9 : Hid (MidR A1 wr v13 g (chS S k what t C (j + 1)) d2 sa sn sc (chM S k what t C j)) := by
                have e1 : S2 = chS S k what t C (j + 1) := by rw [hS2, HLB.out, HSJ.out]; rfl
                have e2 : Sj.made k (nonL 0 j) (bes what j lb) (piece t j) = chM S k what t C j := by rw [HLB.out, HSJ.out]; rfl
                rw [← e1, ← e2]
                exact ⟨b9.below hgz b9.lt, (R2.mono fun i _ hi => hi.1).grow hgz, (Z2.mono' fun i _ hi => hi.1).below' hgz, hsz⟩
              clear R2 Z2 b9 k9 hs9 hgz hsz
              go_wp2_with fail
              go_meet
              case rel => exact ⟨g, sa, sn, sc, d2, rfl, rfl, rfl, M9⟩
            · have Nn := Nn.below' hv8
              have Bd := Bd.below' hv8
              refine opMake (fun _ _ h h2 => Grows.trans h h2) ⟨_, rfl, rfl, rfl, fun ρ w => rfl⟩ sv8 fun g v14 hv14 sv14 Bg hgx => ?_
              have Nn := Nn.off hgx
              have Bd := Bd.off hgx
              have Nn := Nn.below' hv14
              have Bd := Bd.below' hv14
              have hgw : wr.heap.size ≤ g := Nat.le_trans (Below.size sv8) hgx
              simp only [Act.put, List.setIfInBounds_toArray, List.set_cons_zero, List.set_cons_succ]
              refine callG 15 (some 47) 25 #[.tmp 32, .tmp 33, .tmp 36, .tmp 43, .tmp 46] #[37, 22, 22, 22, 22] #[rsV Sj d1, .slice ak 32 ck, .slice an 12 cn, .slice ab mb cb, .slice a' P c'] rfl rfl rfl (by rfl) (by rfl) (by kernel_rfl) Tryz.call25 fun v15 hv15 sv15 => ?_
              have Nn := Nn.below' hv15
              have Bd := Bd.below' hv15
              have Bg := Bg.below hv15 Bg.lt
              refine (rSeal12 v15 (A := (Off A1 g)) (fun i hi => ⟨HN1.out i (Nat.le_trans (Below.size sv15) hi), by have := Bg.lt; omega⟩) ((R1.out.off hgw).grow sv15) ((K1.out.off hgw).below' sv15) Nn Bd ((T1.out.off hgw).below' sv15) (by omega) (by omega) ZB.out ZQ.out).mono ?_
              rintro e v16 ⟨d2, sa, sn, sc, rfl, R2, Z2, hb2⟩
              obtain ⟨S2, hS2⟩ : ∃ S2, S2 = Sj.seal k (nonL 0 j) (bes what j lb) (piece t j) := ⟨_, rfl⟩
              rw [← hS2] at R2 ⊢
              have Bg := Bg.below hb2 Bg.lt
              refine ⟨_, rfl, Grows.trans sv15 hb2, ?_⟩
              simp only [Act.put, List.setIfInBounds_toArray, List.set_cons_zero, List.set_cons_succ]
              refine takeG 16 (some 31) (.tuple #[rsV S2 d2, .slice sa sn sc, .int .i64 0]) rfl rfl (by kernel_rfl) (by kernel_rfl) (by kernel_rfl) (fun _ _ _ h => h) (ans_plain (by rfl) (fun w _ => rfl)) ?_
              simp only [Act.put, List.setIfInBounds_toArray, List.set_cons_zero, List.set_cons_succ]
              refine takeG 17 (some 48) (rsV S2 d2) rfl rfl (by kernel_rfl) (by kernel_rfl) (by kernel_rfl) (fun _ _ _ h => h) (ans_plain (by rfl) (fun w _ => by unfold execOp; go_simp)) ?_
              simp only [Act.put, List.setIfInBounds_toArray, List.set_cons_zero, List.set_cons_succ]
              refine takeG 18 (some 49) (.slice sa sn sc) rfl rfl (by kernel_rfl) (by kernel_rfl) (by kernel_rfl) (fun _ _ _ h => h) (ans_plain (by rfl) (fun w _ => by unfold execOp; go_simp)) ?_
              simp only [Act.put, List.setIfInBounds_toArray, List.set_cons_zero, List.set_cons_succ]
              refine takeG 19 (some 50) (.int .i64 0) rfl rfl (by kernel_rfl) (by kernel_rfl) (by kernel_rfl) (fun _ _ _ h => h) (ans_plain (by rfl) (fun w _ => by unfold execOp; go_simp)) ?_
              simp only [Act.put, List.setIfInBounds_toArray, List.set_cons_zero, List.set_cons_succ]
              refine oneG 21 (by kernel_rfl) fun v17 hv17 sv17 => ?_
              have R2 := R2.grow hv17
              have Z2 := Z2.below' hv17
              have Bg := Bg.below hv17 Bg.lt
              refine opStR 21 37 (.tmp 15) (.tmp 48) 6 rfl rfl rfl rfl g _ (rsC S2 d2) 37 Bg rfl rfl (rsC_one _ _) sizeRS rfl rfl fun v18 b9 k9 => ?_
              have hs9 : Grows wr v18 := Below.trans sv17 (k9.below (B := wr.heap.size) (Below.size sv17) (fun i hi e => by omega))
              have R2 := R2.kp k9 fun i hi e => hi.2 e
              have Z2 := Z2.kp k9 fun i hi e => hi.2 e
              refine ⟨hs9, ?_⟩
              refine takeG 22 (some 16) (.slice sa sn sc) rfl rfl (by kernel_rfl) (by kernel_rfl) (by kernel_rfl) (fun _ _ _ h => h) (ans_plain (by rfl) (fun w _ => rfl)) ?_
              simp only [Act.put, List.setIfInBounds_toArray, List.set_cons_zero, List.set_cons_succ]
              refine takeG 23 (some 17) (.int .i64 0) rfl rfl (by kernel_rfl) (by kernel_rfl) (by kernel_rfl) (fun _ _ _ h => h) (ans_plain (by rfl) (fun w _ => rfl)) ?_
              simp only [Act.put, List.setIfInBounds_toArray, List.set_cons_zero, List.set_cons_succ]
              refine doneG (by kernel_rfl) fun v19 hgz hsz => ?_
              have M9 : Hid (MidR A1 wr v19 g (chS S k what t C (j + 1)) d2 sa sn sc (chM S k what t C j)) := by
                have e1 : S2 = chS S k what t C (j + 1) := by rw [hS2, HLB.out, HSJ.out]; rfl
                have e2 : Sj.made k (nonL 0 j) (bes what j lb) (piece t j) = chM S k what t C j := by rw [HLB.out, HSJ.out]; rfl
                rw [← e1, ← e2]
                exact ⟨b9.below hgz b9.lt, (R2.mono fun i _ hi => hi.1).grow hgz, (Z2.mono' fun i _ hi => hi.1).below' hgz, hsz⟩
              clear R2 Z2 b9 k9 hs9 hgz hsz
              go_wp2_with fail
              go_meet
              case rel => exact ⟨g, sa, sn, sc, d2, rfl, rfl, rfl, M9⟩
          · have Nn := Nn.below' hv5
            refine opMake (fun _ _ h h2 => Grows.trans h h2) ⟨_, rfl, rfl, rfl, fun ρ w => rfl⟩ sv5 fun g v20 hv20 sv20 Bg hgx => ?_
            have Nn := Nn.off hgx
            have Nn := Nn.below' hv20
            have hgw : wr.heap.size ≤ g := Nat.le_trans (Below.size sv5) hgx
            simp only [Act.put, List.setIfInBounds_toArray, List.set_cons_zero, List.set_cons_succ]
            refine callG 11 (some 43) 27 #[.tmp 37, .tmp 38, .tmp 42] #[22, 3, 4] #[.slice aw nw cw, .int .i64 (j : Int), .bool lb] rfl rfl rfl (by rfl) (by rfl) (by kernel_rfl) Tryz.call27 fun v21 hv21 sv21 => ?_
            have Nn := Nn.below' hv21
            have Bg := Bg.below hv21 Bg.lt
            refine (rBeside v21 ((WH1.out.off hgw).below' sv21).1 (by omega) j (by omega) lb).mono ?_
            rintro e v22 ⟨ab, mb, cb, rfl, ob, hbb⟩
            have lmb := ob.toBs.len
            rw [bes_length, HWL.out] at lmb
            have Bd := (ob.both (A := Off A1 g) fun i hi => ⟨HN1.out i (Nat.le_trans (Below.size sv21) hi), by have := Bg.lt; omega⟩)
            have Nn := Nn.below' hbb
            have Bg := Bg.below hbb Bg.lt
            refine ⟨_, rfl, Grows.trans sv21 hbb, ?_⟩
            simp only [Act.put, List.setIfInBounds_toArray, List.set_cons_zero, List.set_cons_succ]
            refine takeG 14 (some 46) (.slice a' P c') rfl rfl (by kernel_rfl) (by kernel_rfl) (by kernel_rfl) (fun _ _ _ h => h) (ans_fn 28 #[.tmp 44, .tmp 45] #[22, 3] #[.slice at' nt ct, .int .i64 (j : Int)] rfl (by rfl) (by rfl) Tryz.call28 fun u h => (CPC.out u).mono fun e w' ⟨he, hw⟩ => ⟨he, by rw [hw]; exact Below.refl _ _⟩) ?_
            simp only [Act.put, List.setIfInBounds_toArray, List.set_cons_zero, List.set_cons_succ]
            refine callG 15 (some 47) 25 #[.tmp 32, .tmp 33, .tmp 36, .tmp 43, .tmp 46] #[37, 22, 22, 22, 22] #[rsV Sj d1, .slice ak 32 ck, .slice an 12 cn, .slice ab mb cb, .slice a' P c'] rfl rfl rfl (by rfl) (by rfl) (by kernel_rfl) Tryz.call25 fun v23 hv23 sv23 => ?_
            have Nn := Nn.below' hv23
            have Bd := Bd.below' hv23
            have Bg := Bg.below hv23 Bg.lt
            refine (rSeal12 v23 (A := (Off A1 g)) (fun i hi => ⟨HN1.out i (Nat.le_trans (Below.size sv23) hi), by have := Bg.lt; omega⟩) ((R1.out.off hgw).grow sv23) ((K1.out.off hgw).below' sv23) Nn Bd ((T1.out.off hgw).below' sv23) (by omega) (by omega) ZB.out ZQ.out).mono ?_
            rintro e v24 ⟨d2, sa, sn, sc, rfl, R2, Z2, hb2⟩
            obtain ⟨S2, hS2⟩ : ∃ S2, S2 = Sj.seal k (nonL 0 j) (bes what j lb) (piece t j) := ⟨_, rfl⟩
            rw [← hS2] at R2 ⊢
            have Bg := Bg.below hb2 Bg.lt
            refine ⟨_, rfl, Grows.trans sv23 hb2, ?_⟩
            simp only [Act.put, List.setIfInBounds_toArray, List.set_cons_zero, List.set_cons_succ]
            refine takeG 16 (some 31) (.tuple #[rsV S2 d2, .slice sa sn sc, .int .i64 0]) rfl rfl (by kernel_rfl) (by kernel_rfl) (by kernel_rfl) (fun _ _ _ h => h) (ans_plain (by rfl) (fun w _ => rfl)) ?_
            simp only [Act.put, List.setIfInBounds_toArray, List.set_cons_zero, List.set_cons_succ]
            refine takeG 17 (some 48) (rsV S2 d2) rfl rfl (by kernel_rfl) (by kernel_rfl) (by kernel_rfl) (fun _ _ _ h => h) (ans_plain (by rfl) (fun w _ => by unfold execOp; go_simp)) ?_
            simp only [Act.put, List.setIfInBounds_toArray, List.set_cons_zero, List.set_cons_succ]
            refine takeG 18 (some 49) (.slice sa sn sc) rfl rfl (by kernel_rfl) (by kernel_rfl) (by kernel_rfl) (fun _ _ _ h => h) (ans_plain (by rfl) (fun w _ => by unfold execOp; go_simp)) ?_
            simp only [Act.put, List.setIfInBounds_toArray, List.set_cons_zero, List.set_cons_succ]
            refine takeG 19 (some 50) (.int .i64 0) rfl rfl (by kernel_rfl) (by kernel_rfl) (by kernel_rfl) (fun _ _ _ h => h) (ans_plain (by rfl) (fun w _ => by unfold execOp; go_simp)) ?_
            simp only [Act.put, List.setIfInBounds_toArray, List.set_cons_zero, List.set_cons_succ]
            refine oneG 21 (by kernel_rfl) fun v25 hv25 sv25 => ?_
            have R2 := R2.grow hv25
            have Z2 := Z2.below' hv25
            have Bg := Bg.below hv25 Bg.lt
            refine opStR 21 37 (.tmp 15) (.tmp 48) 6 rfl rfl rfl rfl g _ (rsC S2 d2) 37 Bg rfl rfl (rsC_one _ _) sizeRS rfl rfl fun v26 b9 k9 => ?_
            have hs9 : Grows wr v26 := Below.trans sv25 (k9.below (B := wr.heap.size) (Below.size sv25) (fun i hi e => by omega))
            have R2 := R2.kp k9 fun i hi e => hi.2 e
            have Z2 := Z2.kp k9 fun i hi e => hi.2 e
            refine ⟨hs9, ?_⟩
            refine takeG 22 (some 16) (.slice sa sn sc) rfl rfl (by kernel_rfl) (by kernel_rfl) (by kernel_rfl) (fun _ _ _ h => h) (ans_plain (by rfl) (fun w _ => rfl)) ?_
            simp only [Act.put, List.setIfInBounds_toArray, List.set_cons_zero, List.set_cons_succ]
            refine takeG 23 (some 17) (.int .i64 0) rfl rfl (by kernel_rfl) (by kernel_rfl) (by kernel_rfl) (fun _ _ _ h => h) (ans_plain (by rfl) (fun w _ => rfl)) ?_
            simp only [Act.put, List.setIfInBounds_toArray, List.set_cons_zero, List.set_cons_succ]
            refine doneG (by kernel_rfl) fun v27 hgz hsz => ?_
            have M9 : Hid (MidR A1 wr v27 g (chS S k what t C (j + 1)) d2 sa sn sc (chM S k what t C j)) := by
              have e1 : S2 = chS S k what t C (j + 1) := by rw [hS2, HLB.out, HSJ.out]; rfl
              have e2 : Sj.made k (nonL 0 j) (bes what j lb) (piece t j) = chM S k what t C j := by rw [HLB.out, HSJ.out]; rfl
              rw [← e1, ← e2]
              exact ⟨b9.below hgz b9.lt, (R2.mono fun i _ hi => hi.1).grow hgz, (Z2.mono' fun i _ hi => hi.1).below' hgz, hsz⟩
            clear R2 Z2 b9 k9 hs9 hgz hsz
            go_wp2_with fail
            go_meet
            case rel => exact ⟨g, sa, sn, sc, d2, rfl, rfl, rfl, M9⟩
        · refine opMake (fun _ _ h h2 => Grows.trans h h2) ⟨_, rfl, rfl, rfl, fun ρ w => rfl⟩ sv2 fun g v28 hv28 sv28 Bg hgx => ?_
          have hgw : wr.heap.size ≤ g := Nat.le_trans (Below.size sv2) hgx
          simp only [Act.put, List.setIfInBounds_toArray, List.set_cons_zero, List.set_cons_succ]
          refine callG 4 (some 36) 26 #[.const (.int .u64 0), .tmp 35] #[35, 68] #[.int .u64 0, .int .u32 (j : Int)] rfl rfl rfl (by rfl) (by rfl) (by kernel_rfl) Tryz.call26 fun v29 hv29 sv29 => ?_
          have Bg := Bg.below hv29 Bg.lt
          refine (rNonce12 v29 0 j (by omega) (by omega)).mono ?_
          rintro e v30 ⟨an, mn, cn, rfl, on, hbn⟩
          have lmn := on.toBs.len
          rw [nonL_length] at lmn
          subst lmn
          have Nn := (on.both (A := Off A1 g) fun i hi => ⟨HN1.out i (Nat.le_trans (Below.size sv29) hi), by have := Bg.lt; omega⟩)
          have Bg := Bg.below hbn Bg.lt
          refine ⟨_, rfl, Grows.trans sv29 hbn, ?_⟩
          simp only [Act.put, List.setIfInBounds_toArray, List.set_cons_zero, List.set_cons_succ]
          refine callG 11 (some 43) 27 #[.tmp 37, .tmp 38, .tmp 42] #[22, 3, 4] #[.slice aw nw cw, .int .i64 (j : Int), .bool lb] rfl rfl rfl (by rfl) (by rfl) (by kernel_rfl) Tryz.call27 fun v31 hv31 sv31 => ?_
          have Nn := Nn.below' hv31
          have Bg := Bg.below hv31 Bg.lt
          refine (rBeside v31 ((WH1.out.off hgw).below' sv31).1 (by omega) j (by omega) lb).mono ?_
          rintro e v32 ⟨ab, mb, cb, rfl, ob, hbb⟩
          have lmb := ob.toBs.len
          rw [bes_length, HWL.out] at lmb
          have Bd := (ob.both (A := Off A1 g) fun i hi => ⟨HN1.out i (Nat.le_trans (Below.size sv31) hi), by have := Bg.lt; omega⟩)
          have Nn := Nn.below' hbb
          have Bg := Bg.below hbb Bg.lt
          refine ⟨_, rfl, Grows.trans sv31 hbb, ?_⟩
          simp only [Act.put, List.setIfInBounds_toArray, List.set_cons_zero, List.set_cons_succ]
          refine takeG 14 (some 46) (.slice a' P c') rfl rfl (by kernel_rfl) (by kernel_rfl) (by kernel_rfl) (fun _ _ _ h => h) (ans_fn 28 #[.tmp 44, .tmp 45] #[22, 3] #[.slice at' nt ct, .int .i64 (j : Int)] rfl (by rfl) (by rfl) Tryz.call28 fun u h => (CPC.out u).mono fun e w' ⟨he, hw⟩ => ⟨he, by rw [hw]; exact Below.refl _ _⟩) ?_
          simp only [Act.put, List.setIfInBounds_toArray, List.set_cons_zero, List.set_cons_succ]
          refine callG 15 (some 47) 25 #[.tmp 32, .tmp 33, .tmp 36, .tmp 43, .tmp 46] #[37, 22, 22, 22, 22] #[rsV Sj d1, .slice ak 32 ck, .slice an 12 cn, .slice ab mb cb, .slice a' P c'] rfl rfl rfl (by rfl) (by rfl) (by kernel_rfl) Tryz.call25 fun v33 hv33 sv33 => ?_
          have Nn := Nn.below' hv33
          have Bd := Bd.below' hv33
          have Bg := Bg.below hv33 Bg.lt
          refine (rSeal12 v33 (A := (Off A1 g)) (fun i hi => ⟨HN1.out i (Nat.le_trans (Below.size sv33) hi), by have := Bg.lt; omega⟩) ((R1.out.off hgw).grow sv33) ((K1.out.off hgw).below' sv33) Nn Bd ((T1.out.off hgw).below' sv33) (by omega) (by omega) ZB.out ZQ.out).mono ?_
          rintro e v34 ⟨d2, sa, sn, sc, rfl, R2, Z2, hb2⟩
          obtain ⟨S2, hS2⟩ : ∃ S2, S2 = Sj.seal k (nonL 0 j) (bes what j lb) (piece t j) := ⟨_, rfl⟩
          rw [← hS2] at R2 ⊢
          have Bg := Bg.below hb2 Bg.lt
          refine ⟨_, rfl, Grows.trans sv33 hb2, ?_⟩
          simp only [Act.put, List.setIfInBounds_toArray, List.set_cons_zero, List.set_cons_succ]
          refine takeG 16 (some 31) (.tuple #[rsV S2 d2, .slice sa sn sc, .int .i64 0]) rfl rfl (by kernel_rfl) (by kernel_rfl) (by kernel_rfl) (fun _ _ _ h => h) (ans_plain (by rfl) (fun w _ => rfl)) ?_
          simp only [Act.put, List.setIfInBounds_toArray, List.set_cons_zero, List.set_cons_succ]
          refine takeG 17 (some 48) (rsV S2 d2) rfl rfl (by kernel_rfl) (by kernel_rfl) (by kernel_rfl) (fun _ _ _ h => h) (ans_plain (by rfl) (fun w _ => by unfold execOp; go_simp)) ?_
          simp only [Act.put, List.setIfInBounds_toArray, List.set_cons_zero, List.set_cons_succ]
          refine takeG 18 (some 49) (.slice sa sn sc) rfl rfl (by kernel_rfl) (by kernel_rfl) (by kernel_rfl) (fun _ _ _ h => h) (ans_plain (by rfl) (fun w _ => by unfold execOp; go_simp)) ?_
          simp only [Act.put, List.setIfInBounds_toArray, List.set_cons_zero, List.set_cons_succ]
          refine takeG 19 (some 50) (.int .i64 0) rfl rfl (by kernel_rfl) (by kernel_rfl) (by kernel_rfl) (fun _ _ _ h => h) (ans_plain (by rfl) (fun w _ => by unfold execOp; go_simp)) ?_
          simp only [Act.put, List.setIfInBounds_toArray, List.set_cons_zero, List.set_cons_succ]
          refine oneG 21 (by kernel_rfl) fun v35 hv35 sv35 => ?_
          have R2 := R2.grow hv35
          have Z2 := Z2.below' hv35
          have Bg := Bg.below hv35 Bg.lt
          refine opStR 21 37 (.tmp 15) (.tmp 48) 6 rfl rfl rfl rfl g _ (rsC S2 d2) 37 Bg rfl rfl (rsC_one _ _) sizeRS rfl rfl fun v36 b9 k9 => ?_
          have hs9 : Grows wr v36 := Below.trans sv35 (k9.below (B := wr.heap.size) (Below.size sv35) (fun i hi e => by omega))
          have R2 := R2.kp k9 fun i hi e => hi.2 e
          have Z2 := Z2.kp k9 fun i hi e => hi.2 e
          refine ⟨hs9, ?_⟩
          refine takeG 22 (some 16) (.slice sa sn sc) rfl rfl (by kernel_rfl) (by kernel_rfl) (by kernel_rfl) (fun _ _ _ h => h) (ans_plain (by rfl) (fun w _ => rfl)) ?_
          simp only [Act.put, List.setIfInBounds_toArray, List.set_cons_zero, List.set_cons_succ]
          refine takeG 23 (some 17) (.int .i64 0) rfl rfl (by kernel_rfl) (by kernel_rfl) (by kernel_rfl) (fun _ _ _ h => h) (ans_plain (by rfl) (fun w _ => rfl)) ?_
          simp only [Act.put, List.setIfInBounds_toArray, List.set_cons_zero, List.set_cons_succ]
          refine doneG (by kernel_rfl) fun v37 hgz hsz => ?_
          have M9 : Hid (MidR A1 wr v37 g (chS S k what t C (j + 1)) d2 sa sn sc (chM S k what t C j)) := by
            have e1 : S2 = chS S k what t C (j + 1) := by rw [hS2, HLB.out, HSJ.out]; rfl
            have e2 : Sj.made k (nonL 0 j) (bes what j lb) (piece t j) = chM S k what t C j := by rw [HLB.out, HSJ.out]; rfl
            rw [← e1, ← e2]
            exact ⟨b9.below hgz b9.lt, (R2.mono fun i _ hi => hi.1).grow hgz, (Z2.mono' fun i _ hi => hi.1).below' hgz, hsz⟩
          clear R2 Z2 b9 k9 hs9 hgz hsz
          go_wp2_with fail
          go_meet
          case rel => exact ⟨g, sa, sn, sc, d2, rfl, rfl, rfl, M9⟩
      case rest =>
        obtain ⟨g, sa, sn, sc, d2, rfl, rfl, rfl, M9⟩ := hcut
        have XC : Hid (Blk wc x11 (rsC Sj d1) 37) := X1.out.below M9.out.2.2.2 X1.out.lt
        have YC : Hid (Blk wc x8 [.bool false, .slice none 0 0, .slice none 0 0, .int .u64 0, .bool false, .bool false] 37) := Y1.out.below M9.out.2.2.2 Y1.out.lt
        have OC : Hid (OwS (elB A2) 1 22 wc w1.heap.size (.slice oa on oc) (chB S k what t C j)) := OwB.below O1.out M9.out.2.2.2
        have HSC : Hid (sc = sc) := rfl
        have zsn : sn ≤ 512 := by
          have h1 := M9.out.2.2.1.1.len
          rw [chM_length HKL.out] at h1
          have := plen_le t.length j
          omega
        have QC : Hid (Below w.heap.size w wc ∧ w1.heap.size ≤ wc.heap.size) := ⟨Q1.out.1.trans (M9.out.2.2.2.mono Q1.out.1.size), Nat.le_trans Q1.out.2 M9.out.2.2.2.size⟩
        have hx81 : x8 ≠ x11 := by have := HX.out; omega
        have hwb : x11 < w1.heap.size := by have := HX.out; have := HB0.out; omega
        clear X1 Y1 O1 Q1 R1 K1 WH1 T1 CPC
        go_wp2_with (first
          | ((with_reducible refine at_ld 37 ?_); (refine ld 37 (.tmp 15) 6 sizeRS _ Tryz.underlying37 rfl g 0 (rsC (chS S k what t C (j + 1)) d2) rfl M9.out.1.whole rfl ?_))
          | ((with_reducible refine at_st 37 ?_); (refine st' 37 (.tmp 11) (.tmp 55) 6 sizeRS x11 0 (rsC (chS S k what t C (j + 1)) d2) rfl (rsC_one _ _) (XC.out.there 0 6 (by simp [rsC])) rfl rfl ?_); intro w8 hw8
             have X8 : Hid (Blk w8 x11 (rsC (chS S k what t C (j + 1)) d2) 37) := by rw [hw8]; exact XC.out.setsW _ rfl
             have K8 : Hid (Kp (fun j => j = x11) wc w8) := by rw [hw8]; exact Kp.sets wc x11 _ 0
             clear hw8))
        have Y8 : Hid (Blk w8 x8 [.bool false, .slice none 0 0, .slice none 0 0, .int .u64 0, .bool false, .bool false] 37) := K8.out.blk YC.out hx81
        have R8 : Hid (RS A1 w8 (chS S k what t C (j + 1)) d2) := M9.out.2.1.kp K8.out fun i hi e => H11.out i hi e
        have Z8 : Hid (BA A1 w8 sa sn sc (chM S k what t C j)) := M9.out.2.2.1.kp K8.out fun i hi e => H11.out i hi e
        have O8 : Hid (OwS (elB A2) 1 22 w8 w1.heap.size (.slice oa on oc) (chB S k what t C j)) := OwB.kp OC.out K8.out (fun i e => by omega) fun i hi e => H211.out i hi e
        have Q8 : Hid (Below w.heap.size w w8 ∧ w1.heap.size ≤ w8.heap.size) := ⟨Kp.new QC.out.1 K8.out fun i e => by have := HX.out; omega, Nat.le_trans QC.out.2 K8.out.size⟩
        clear M9 XC YC OC QC
        refine (rPadded w8 Z8.out.1 zsn).mono ?_
        rintro e w9 ⟨pa, pn, pc, rfl, oP, hbP⟩
        have PA : Hid (B5 A2 w9 pa pn pc (pad (chM S k what t C j))) := oP.b5 fun i hi _ => by
          rw [HB2.out]
          exact ⟨HAA.out i (by have := Q8.out.1.size; omega), by have := Y8.out.lt; omega, by have := X8.out.lt; omega⟩
        have X9 : Hid (Blk w9 x11 (rsC (chS S k what t C (j + 1)) d2) 37) := X8.out.below hbP X8.out.lt
        have Y9 : Hid (Blk w9 x8 [.bool false, .slice none 0 0, .slice none 0 0, .int .u64 0, .bool false, .bool false] 37) := Y8.out.below hbP Y8.out.lt
        have R9 : Hid (RS A1 w9 (chS S k what t C (j + 1)) d2) := R8.out.grow hbP
        have O9 : Hid (OwS (elB A2) 1 22 w9 w1.heap.size (.slice oa on oc) (chB S k what t C j)) := OwB.below O8.out hbP
        have Q9 : Hid (Below w.heap.size w w9 ∧ w1.heap.size ≤ w9.heap.size) := ⟨Q8.out.1.trans (hbP.mono Q8.out.1.size), Nat.le_trans Q8.out.2 hbP.size⟩
        clear X8 Y8 R8 Z8 O8 Q8 oP hbP K8
        have bA : Below w9.heap.size w9 (w9.alloc (.cells #[.slice pa pn pc] 22)) := below_alloc w9 _
        have SA : Hid ((w9.alloc (.cells #[.slice pa pn pc] 22)).rangeAt w9.heap.size 0 [.slice pa pn pc] ∧ Row (elB A2) 1 (w9.alloc (.cells #[.slice pa pn pc] 22)) (pad (chM S k what t C j)) [.slice pa pn pc]) := ⟨(Blk.new w9 #[.slice pa pn pc] 22).whole, rfl, one_one, pa, pn, pc, rfl, PA.out.below bA⟩
        have OA : Hid (OwS (elB A2) 1 22 (w9.alloc (.cells #[.slice pa pn pc] 22)) w1.heap.size (.slice oa on oc) (chB S k what t C j)) := OwB.below O9.out bA
        have QA : Hid (Below w9.heap.size w9 (w9.alloc (.cells #[.slice pa pn pc] 22))) := bA
        have HLA : Hid ((chB S k what t C j).length + 1 ≤ 1000000) := by show _ ≤ _; rw [chB_length]; omega
        have HSA : Hid (w1.heap.size ≤ (w9.alloc (.cells #[.slice pa pn pc] 22)).heap.size) := Nat.le_trans Q9.out.2 bA.size
        have HEL : Hid (∀ w' x vs, (w9.alloc (.cells #[.slice pa pn pc] 22)).grownBy w' (Value.slice oa on oc).ownBlock → elB A2 (w9.alloc (.cells #[.slice pa pn pc] 22)) x vs → elB A2 w' x vs) := fun w' x vs hg he => elB.grown hg (fun i cur f hi => OwS.not5 OA.out neB5 i cur f hi) x vs he
        have HOB : Hid (∀ i, (Value.slice oa on oc).ownBlock = some i → w1.heap.size ≤ i) := fun i hi => (OA.out.lt i hi).1
        clear bA
        go_wp2_with (at_builtin; refine wpList_app1At (elB A2) 1 24 28 22 (.slice none 0 0) Tryz.underlying28 infoBy rfl (by omega) (by omega) (w9.alloc (.cells #[.slice pa pn pc] 22)) rfl (.tmp 56) (.tmp 59) rfl w1.heap.size (.slice oa on oc) (chB S k what t C j) rfl OA.out w9.heap.size 1 (pad (chM S k what t C j)) [.slice pa pn pc] rfl SA.out.1 SA.out.2 HLA.out HSA.out HEL.out ?_; intro v10 w10 o10 hg10 hp10; have O10 : Hid (OwS (elB A2) 1 22 w10 w1.heap.size v10 (chB S k what t C (j + 1))) := (by rw [chB_succ]; exact o10); have G10 : Hid ((w9.alloc (.cells #[.slice pa pn pc] 22)).grownBy w10 (Value.slice oa on oc).ownBlock) := hg10; have P10 : Hid (v10.ownBlock = (Value.slice oa on oc).ownBlock ∨ v10.ownBlock = some (w9.alloc (.cells #[.slice pa pn pc] 22)).heap.size) := hp10; clear o10 hg10 hp10)
        obtain ⟨oa2, on2, oc2, hv, _⟩ := O10.out.shape
        subst hv
        have hkA : Below w1.heap.size (w9.alloc (.cells #[.slice pa pn pc] 22)) w10 := (Below.refl _ _).grown G10.out HSA.out HOB.out
        have hk9 : Below w1.heap.size w9 w10 := (QA.out.mono Q9.out.2).trans hkA
        have X10 : Hid (Blk w10 x11 (rsC (chS S k what t C (j + 1)) d2) 37) := X9.out.below hk9 hwb
        have Y10 : Hid (Blk w10 x8 [.bool false, .slice none 0 0, .slice none 0 0, .int .u64 0, .bool false, .bool false] 37) := Y9.out.below hk9 (by have := HX.out; omega)
        have R10 : Hid (RS (ButS A2 (.slice oa2 on2 oc2)) w10 (chS S k what t C (j + 1)) d2) := by
          have h1 : RS (fun i => A1 i ∧ (Value.slice oa2 on2 oc2).ownBlock ≠ some i) (w9.alloc (.cells #[.slice pa pn pc] 22)) (chS S k what t C (j + 1)) d2 := (R9.out.grow QA.out).mono fun i hi ha => ⟨ha, fun e => by
            rcases P10.out with h | h
            · rw [h] at e
              rw [HB1.out] at ha
              exact ha.2 e
            · rw [h] at e
              have := Option.some.inj e
              omega⟩
          refine (h1.keep G10.out.size fun i hi ha => G10.out.block i hi fun e => ?_).mono fun i _ ha => ⟨?_, ha.2⟩
          · have h2 := ha.1
            rw [HB1.out] at h2
            exact h2.2 e.symm
          · have h2 := ha.1
            rw [HB1.out] at h2
            exact h2.1
        have Q10 : Hid (Below w.heap.size w w10 ∧ w1.heap.size ≤ w10.heap.size) := ⟨Q9.out.1.trans (hk9.mono (by have := HB0.out; omega)), Nat.le_trans Q9.out.2 hk9.size⟩
        clear hkA hk9 X9 Y9 R9 O9 Q9 SA OA QA HLA HSA HEL HOB G10 P10 PA
        rw [HB2.out] at O10 R10
        go_wp2_with fail
        go_roundw
        case rel => exact ⟨j + 1, oa2, on2, oc2, d2, by omega, by go_num, rfl, O10, R10, X10, Y10, Q10⟩
        case measure => simp [intOf]; omega
    · have i0 : ¬ (j : Int) < (C : Int) := by omega
      obtain rfl : j = C := by omega
      have hx81 : x8 ≠ x11 := by have := HX.out; omega
      go_wp2_with (first
        | ((with_reducible refine at_ld 37 ?_); (refine ld 37 (.tmp 11) 6 sizeRS _ Tryz.underlying37 rfl x11 0 (rsC (chS S k what t j j) d1) rfl X1.out.whole rfl ?_))
        | ((with_reducible refine at_st 37 ?_); (refine st' 37 (.tmp 8) (.tmp 61) 6 sizeRS x8 0 (rsC (chS S k what t j j) d1) rfl (rsC_one _ _) (Y1.out.there 0 6 (by simp)) rfl rfl ?_); intro w8 hw8
           have Y8 : Hid (Blk w8 x8 (rsC (chS S k what t j j) d1) 37) := by rw [hw8]; exact Y1.out.setsW _ rfl
           have K8 : Hid (Kp (fun j => j = x8) wr w8) := by rw [hw8]; exact Kp.sets wr x8 _ 0
           clear hw8))
      refine bodyPost_ret (v := .tuple #[.agg (rsC (chS S k what t j j) d1).toArray, .slice oa on oc, .int .i64 0]) (resCTT12 Tryz.results9 _ _ x8 _ rfl (run_loadVar_row _ x8 37 37 _ (0, 0) _ Y8.out Tryz.underlying37 rfl sizeRS) _ _ rfl rfl) rfl ?_
      refine ⟨d1, oa, on, oc, rfl, (R1.out.kp K8.out fun i hi e => hi.1.2.1 e).mono fun i _ hi => hi.1.1, ?_, Kp.new Q1.out.1 K8.out fun i e => by have := HX.out; omega⟩
      have O8 := OwB.kp O1.out K8.out (fun i e => by have := HX.out; have := HB0.out; omega) fun i hi e => hi.2.1 e
      exact (OwS.sl3 (OwB.mono O8 fun i _ hi => hi.1) fun i hi _ => HAA.out i (by have := HB0.out; omega))

end Go.Proofs.YtfknplcnfpincaaGreat
