/-
  The contracts of layer 10's reference's New and Read. Conditions: none.
-/
import Derived.Test.YteilnckkmmgpcaaCelL
import Derived.Test.YteilnckkmmgpcaaPowR
import Derived.Test.YteilnckkmmgpcaaGrowT
import Derived.Test.YteilnckkmmgpcaaMk8
import Derived.Deep.CutBlock
namespace Go.Proofs.Yteilnckkmmgpcaa
open Go.RowKit

theorem size35 : (Try.prog.info? 35).map (·.size) = some 6 := by kernel_rfl
theorem size32 : (Try.prog.info? 32).map (·.size) = some 4 := by kernel_rfl
theorem infoBy : (Try.prog.info? 38).map (fun i => (i.zero, i.size, i.bytes)) = some (some (.slice none 0 0), 1, 24) := by kernel_rfl
theorem neB5 : 38 ≠ 5 := by decide
theorem neC5 : 35 ≠ 5 := by decide

set_option maxRecDepth 100000 in
set_option maxHeartbeats 1000000 in
theorem rCRead (w : World) {A : Nat → Prop} {C : CelS} {q : Tri} (h : RC A w C q) {m : Nat} (hf : C.fit m) (at_ : Int) (hat : i64 at_) :
    Calls Try.prog 12 #[cv C q, .int .i64 at_] w fun e w' => ∃ p k c, e = .returned (.tuple #[.slice p k c, .int .i64 (C.read at_).2]) ∧ B5 A w' p k c (C.read at_).1 ∧ Below w.heap.size w w' := by
  obtain ⟨⟨ps, pf, pd, pg⟩, l, n⟩ := C
  obtain ⟨la, ln, lc⟩ := q
  unfold cv cc CelS.read
  dsimp only
  by_cases h1 : at_ < 0 ∨ 3 < at_
  · rw [if_pos h1]
    clear hf
    by_cases i1 : at_ < 0
    · go_enter Try.func12, Try.ntmps12
      go_wp2_with fail
      exact bodyPost_ret (v := .tuple #[.slice none 0 0, .int .i64 2]) (by simp [results, Try.results12, go_sem]) rfl ⟨none, 0, 0, rfl, B5.nil _ _, below_alloc _ _⟩
    · have i2 : 3 < at_ := by omega
      go_enter Try.func12, Try.ntmps12
      go_wp2_with fail
      exact bodyPost_ret (v := .tuple #[.slice none 0 0, .int .i64 2]) (by simp [results, Try.results12, go_sem]) rfl ⟨none, 0, 0, rfl, B5.nil _ _, below_alloc _ _⟩
  · rw [if_neg h1]
    have i1 : ¬ at_ < 0 := by omega
    have i2 : ¬ 3 < at_ := by omega
    cases pg with
    | true =>
      rw [if_pos rfl]
      clear hf
      go_enter Try.func12, Try.ntmps12
      go_wp2_with fail
      exact bodyPost_ret (v := .tuple #[.slice none 0 0, .int .i64 5]) (by simp [results, Try.results12, go_sem]) rfl ⟨none, 0, 0, rfl, B5.nil _ _, below_alloc _ _⟩
    | false =>
      rw [if_neg (by simp)]
      obtain ⟨k, rfl⟩ : ∃ k : Nat, at_ = (k : Int) := ⟨at_.toNat, by omega⟩
      obtain ⟨e1, e2⟩ := hf.sec (k := k) (by omega)
      dsimp only at e1 e2
      rw [Int.toNat_natCast]
      have hl : l.length = ln := Sl.len h
      have hl4 : l.length = 4 := hf.l
      have hcap := Sl.cap h
      unfold maxLen at hcap
      obtain ⟨b, o, p, mm, qq, rfl, hb, hc, h5⟩ := Sl.bytes h e1
      have i3 : (k : Int) < (ln : Int) := by omega
      clear h h1 hat hf
      go_enter Try.func12, Try.ntmps12
      go_wp2_with fail
      exact bodyPost_ret (v := .tuple #[.slice p mm qq, .int .i64 0]) (by simp [results, Try.results12, go_sem]) rfl ⟨p, mm, qq, rfl, h5.below (below_alloc _ _), below_alloc _ _⟩


/-- A literal of one slice, the one that may come up. -/
theorem opBS1 {ops : Array Oper} {Q : Exit → Act → World → Prop} {i : Nat} {oi : Oper} (d : Option Tmp) (hi : ops[i]? = some oi) (hd : oi.dst = d) (hg : oi.guard = none) (x : Operand) (ho : oi.op = .buildSlice 33 1 #[(0, x)]) {K : Act → World → Prop} {a : Act} {w : World} (s : Option Addr) (n c : Nat) (hx : a.eval x = .slice s n c)
    (k : K (a.put d (.slice (some ⟨w.heap.size, 0, none⟩) 1 1)) (w.alloc (.cells #[.slice s n c] 38))) : wpOp Try.prog ops Q i K a w := by
  subst hd
  have hK : Hid _ := k
  clear k
  unfold wpOp
  simp only [hi]
  rw [if_pos (by simp [Region.wanted, hg])]
  left
  unfold Oper.wp execOp
  simp only [ho, List.map_toArray, List.map_cons, List.map_nil, hx]
  go_simp
  exact hK.out
/-- A slice of slices stored into a field, the one that may come up. -/
theorem opStS {ops : Array Oper} {Q : Exit → Act → World → Prop} {i : Nat} {oi : Oper} (hi : ops[i]? = some oi) (hd : oi.dst = none) (hg : oi.guard = none) (x y : Operand) (ho : oi.op = .store 33 x y) {K : Act → World → Prop} {a : Act} {w : World} (g o : Nat) (hx : a.eval x = .pointer (some ⟨g, o, none⟩)) (s : Option Addr) (n c : Nat) (hy : a.eval y = .slice s n c) (vs : List Value) (t : TypeId) (hb : Blk w g vs t) (ho2 : o < vs.length)
    (k : K a (w.setCell ⟨g, o, none⟩ (.slice s n c))) : wpOp Try.prog ops Q i K a w := by
  have hc := hb.cell o
  rw [List.getElem?_eq_getElem ho2] at hc
  have hf := hb.free o
  have hl := hb.lt
  have hK : Hid _ := k
  clear k
  unfold wpOp
  simp only [hi]
  rw [if_pos (by simp [Region.wanted, hg])]
  left
  unfold Oper.wp execOp
  simp only [ho, hx, hy]
  go_simp
  exact hK.out
theorem Blk.not5' {w : World} {g : Nat} {vs : List Value} {t : TypeId} (h : Blk w g vs t) (ht : t ≠ 5) : ∀ cur f, w.heap[g]? ≠ some (.cells cur 5 f) := fun cur f hh => by
  rw [show w.heap[g]? = _ from h] at hh
  simp only [Option.some.injEq, Obj.cells.injEq] at hh
  exact ht hh.2.1
theorem but_cells' (g : Nat) : ∀ (us : List Value) (w : World) (o : Nat), w.grownBy (w.setCells g o us) (some g)
  | [], _, _ => World.grownBy.refl _ _
  | u :: us, w, o => but_trans (but_set w g o u) (but_cells' g us _ (o + 1))
theorem OwB.grown {A : Nat → Prop} {e : TypeId} {w w' : World} {base r : Nat} {v : Value} {l : List (List UInt8)} (h : OwS (elB A) 1 e w base v l) (g : w.grownBy w' (some r)) (hr : r < base) (h5 : ∀ cur f, w.heap[r]? ≠ some (.cells cur 5 f)) : OwS (elB A) 1 e w' base v l :=
  h.keep (elB.grown g (fun j cur f hj => by obtain rfl := Option.some.inj hj; exact h5 cur f)) (fun j hj => g.block j (h.lt j hj).2 (fun e => by have := (h.lt j hj).1; have := Option.some.inj e; omega))
theorem OwB.below {A : Nat → Prop} {e : TypeId} {w w' : World} {base : Nat} {v : Value} {l : List (List UInt8)} (h : OwS (elB A) 1 e w base v l) (g : Below w.heap.size w w') : OwS (elB A) 1 e w' base v l :=
  h.keep (elB.keep fun j hj _ => g.block j hj) (fun j hj => g.block j (h.lt j hj).2)

set_option maxRecDepth 100000 in
set_option maxHeartbeats 4000000 in
theorem rCNew (w : World) {A : Nat → Prop} (hA : ∀ j, w.heap.size ≤ j → A j) (P : PowS) :
    Calls Try.prog 9 #[pv P] w fun e w' => ∃ q, e = .returned (cv (CelS.new P) q) ∧ RC A w' (CelS.new P) q ∧ Below w.heap.size w w' := by
  obtain ⟨ps, pf, pd, pg⟩ := P
  unfold pv
  dsimp only
  obtain ⟨B, hB⟩ : ∃ B : Nat → Prop, B = fun j => w.heap.size + 3 ≤ j := ⟨_, rfl⟩
  have HB : Hid (∀ j, B j ↔ w.heap.size + 3 ≤ j) := fun j => by rw [hB]
  clear hB
  have b0 : Blk (((w.alloc (.cells #[.int .i64 (ps : Int), .int .i64 pf, .bool pd, .bool pg] 32)).alloc (.cells #[.int .i64 0, .int .i64 0, .bool false, .bool false, .slice none 0 0, .int .i64 0] 35)).alloc (.cells #[.int .i64 (ps : Int), .int .i64 pf, .bool pd, .bool pg, .slice none 0 0, .int .i64 0] 35)) (w.heap.size + 1 + 1) [.int .i64 (ps : Int), .int .i64 pf, .bool pd, .bool pg, .slice none 0 0, .int .i64 0] 35 := Blk.newAt ((w.alloc _).alloc _) _ _ (w.heap.size + 1 + 1) (by simp) _ rfl
  have z0 : Blk (((w.alloc (.cells #[.int .i64 (ps : Int), .int .i64 pf, .bool pd, .bool pg] 32)).alloc (.cells #[.int .i64 0, .int .i64 0, .bool false, .bool false, .slice none 0 0, .int .i64 0] 35)).alloc (.cells #[.int .i64 (ps : Int), .int .i64 pf, .bool pd, .bool pg, .slice none 0 0, .int .i64 0] 35)) (w.heap.size + 1) [.int .i64 0, .int .i64 0, .bool false, .bool false, .slice none 0 0, .int .i64 0] 35 := (Blk.newAt (w.alloc _) _ _ (w.heap.size + 1) (by simp) _ rfl).old _
  have k0 : Below w.heap.size w (((w.alloc (.cells #[.int .i64 (ps : Int), .int .i64 pf, .bool pd, .bool pg] 32)).alloc (.cells #[.int .i64 0, .int .i64 0, .bool false, .bool false, .slice none 0 0, .int .i64 0] 35)).alloc (.cells #[.int .i64 (ps : Int), .int .i64 pf, .bool pd, .bool pg, .slice none 0 0, .int .i64 0] 35)) := below3 _ _ _ _
  have s0 : w.heap.size + 3 ≤ ((((w.alloc (.cells #[.int .i64 (ps : Int), .int .i64 pf, .bool pd, .bool pg] 32)).alloc (.cells #[.int .i64 0, .int .i64 0, .bool false, .bool false, .slice none 0 0, .int .i64 0] 35)).alloc (.cells #[.int .i64 (ps : Int), .int .i64 pf, .bool pd, .bool pg, .slice none 0 0, .int .i64 0] 35))).heap.size := by simp
  go_enter Try.func9, Try.ntmps9
  go_wp2_with fail
  go_loopw [4] (fun i wr => ∃ (k : Nat) (a : Option Addr) (n c : Nat), k ≤ 4 ∧ i = .int .i64 (k : Int) ∧ n = k ∧ Hid (OwS (elB B) 1 38 wr (w.heap.size + 3) (.slice a n c) (List.replicate k z1k)) ∧ Blk wr (w.heap.size + 1 + 1) [.int .i64 (ps : Int), .int .i64 pf, .bool pd, .bool pg, .slice a n c, .int .i64 0] 35 ∧ Blk wr (w.heap.size + 1) [.int .i64 0, .int .i64 0, .bool false, .bool false, .slice none 0 0, .int .i64 0] 35 ∧ Below w.heap.size w wr ∧ w.heap.size + 3 ≤ wr.heap.size) (fun i _ => 4 - (intOf i).toNat)
  case atStart => exact ⟨0, none, 0, 0, by omega, rfl, rfl, OwS.nil _ _ _ _ _, b0, z0, k0, s0⟩
  case round =>
    clear b0 z0 k0 s0
    obtain ⟨k, a, n, c, hk, rfl, rfl, HO, bX, bZ, kb, hs⟩ := hrel
    by_cases hlt : n < 4
    · have i0 : (n : Int) < 4 := by omega
      have F4 : ∀ u, Below (w.heap.size + 3) wr u → u.cell? ⟨w.heap.size + 1 + 1, 4, none⟩ = some (.slice a n c) := fun u h => (bX.below h (by omega)).cell 4
      have hlX := bX.lt
      go_wp2_with fail
      refine regionE 6 (S := Below (w.heap.size + 3) wr) (by kernel_rfl) (Below.refl _ wr).drew ?_
      refine takeT 0 (some 11) (.pointer (some ⟨w.heap.size + 1 + 1, 4, none⟩)) rfl rfl (by kernel_rfl) (fun _ _ _ h => h) (ans_plain (by rfl) (fun w _ => by unfold execOp; go_simp)) ?_
      simp only [Act.put, List.setIfInBounds_toArray, List.set_cons_zero, List.set_cons_succ]
      refine takeT 1 (some 12) (.slice a n c) rfl rfl (by kernel_rfl) (fun _ _ _ h => h) (ans_plain (by rfl) (fun u h => by have hc := F4 u h; unfold execOp; go_simp)) ?_
      simp only [Act.put, List.setIfInBounds_toArray, List.set_cons_zero, List.set_cons_succ]
      refine oneE 2 (by kernel_rfl) (by kernel_rfl) fun u1 hg1 hs1 => ?_
      have hw1 : Grows wr u1 := Grows.trans (Below.refl _ wr).drew hg1
      refine opMk8 (some 13) rfl rfl rfl _ _ rfl 1024 rfl rfl (by omega) fun u2 hO hg2 => ?_
      have hw2 : Grows wr u2 := Grows.trans hw1 hg2
      refine ⟨Below.mono hw2 hs, ?_⟩
      simp only [Act.put, List.setIfInBounds_toArray, List.set_cons_zero, List.set_cons_succ]
      refine oneE 3 (by kernel_rfl) (by kernel_rfl) fun u3 hg3 hs3 => ?_
      have hw3 : Grows wr u3 := Grows.trans hw2 hg3
      have b5 : B5 B u3 (some ⟨u1.heap.size, 0, none⟩) 1024 1024 z1k := (hO.b5 (A := B) (fun j hj _ => (HB.out j).2 (by have := Below.size hw1; omega))).below hg3
      refine opBS1 (some 14) rfl rfl rfl _ rfl (some ⟨u1.heap.size, 0, none⟩) 1024 1024 rfl ?_
      have hw4 : Grows wr (u3.alloc (.cells #[.slice (some ⟨u1.heap.size, 0, none⟩) 1024 1024] 38)) := Grows.trans hw3 (below_alloc _ _)
      have bl : Blk (u3.alloc (.cells #[.slice (some ⟨u1.heap.size, 0, none⟩) 1024 1024] 38)) u3.heap.size [.slice (some ⟨u1.heap.size, 0, none⟩) 1024 1024] 38 := Blk.newAt u3 _ _ u3.heap.size rfl _ rfl
      have b54 := b5.below (below_alloc u3 (.cells #[.slice (some ⟨u1.heap.size, 0, none⟩) 1024 1024] 38))
      refine ⟨Below.mono hw4 hs, ?_⟩
      generalize u3.alloc (.cells #[.slice (some ⟨u1.heap.size, 0, none⟩) 1024 1024] 38) = u4 at *
      simp only [Act.put, List.setIfInBounds_toArray, List.set_cons_zero, List.set_cons_succ]
      refine oneE 4 (by kernel_rfl) (by kernel_rfl) fun u5 hg5 hs5 => ?_
      have hw5 : Grows wr u5 := Grows.trans hw4 hg5
      have bl5 := bl.below hg5 bl.lt
      have b55 := b54.below hg5
      have ow5 := OwB.below HO.out hw5
      refine opApp1 (elB B) 1 24 33 38 _ Try.underlying33 infoBy rfl (by decide) (by decide) u5 rfl rfl (some 15) rfl (.tmp 12) (.tmp 14) rfl (w.heap.size + 3) (.slice a n c) (List.replicate n z1k) rfl ow5 u3.heap.size 1 z1k [.slice (some ⟨u1.heap.size, 0, none⟩) 1024 1024] rfl bl5.whole ⟨rfl, by intro v hv; simp at hv; subst hv; rfl, _, _, _, rfl, b55⟩ (by simp; omega) (Nat.le_trans hs (Below.size hw5)) (fun w' x vs hg hx => elB.grown hg (ow5.not5 neB5) x vs hx) fun v' u6 ho6 hg6 => ?_
      obtain ⟨a6, n6, c6, rfl, hn6⟩ := ho6.shape
      have hb6 : Below (w.heap.size + 3) u5 u6 := (Below.refl _ _).grown hg6 (Nat.le_trans hs (Below.size hw5)) (fun j hj => (ow5.lt j hj).1)
      have hwb6 : Below (w.heap.size + 3) wr u6 := (Below.mono hw5 hs).trans hb6
      refine ⟨hwb6, ?_⟩
      simp only [Act.put, List.setIfInBounds_toArray, List.set_cons_zero, List.set_cons_succ]
      refine takeT 5 (some 16) (.pointer (some ⟨w.heap.size + 1 + 1, 4, none⟩)) rfl rfl (by kernel_rfl) (fun _ _ _ h => h) (ans_plain (by rfl) (fun w _ => by unfold execOp; go_simp)) ?_
      simp only [Act.put, List.setIfInBounds_toArray, List.set_cons_zero, List.set_cons_succ]
      refine lastE (by kernel_rfl) (by kernel_rfl) (by kernel_rfl) (by kernel_rfl) fun u7 hg7 hs7 => ?_
      have bX7 := bX.below hs7 (by omega)
      have bZ7 := bZ.below hs7 (by omega)
      have ow7 := OwB.below ho6 hg7
      refine opStS rfl rfl rfl _ _ rfl (w.heap.size + 1 + 1) 4 rfl a6 n6 c6 rfl _ _ bX7 (by simp) (fun u8 hg8 => ?_)
      have hset := but_set u7 (w.heap.size + 1 + 1) 4 (.slice a6 n6 c6)
      have bX8 := (bX7.setC 4 (.slice a6 n6 c6)).below hg8 (bX7.setC 4 (.slice a6 n6 c6)).lt
      have bZ7s : Blk (u7.setCell ⟨w.heap.size + 1 + 1, 4, none⟩ (.slice a6 n6 c6)) (w.heap.size + 1) [.int .i64 0, .int .i64 0, .bool false, .bool false, .slice none 0 0, .int .i64 0] 35 := bZ7.setO (by simp) _
      have bZ8 := bZ7s.below hg8 bZ7s.lt
      have ow8 := OwB.below (OwB.grown ow7 hset (by omega) (bX7.not5' neC5)) hg8
      have e8 : List.replicate n z1k ++ [z1k] = List.replicate (n + 1) z1k := (List.replicate_succ' ..).symm
      rw [e8] at ow8 hn6
      rw [List.length_replicate] at hn6
      have k7 : Below w.heap.size w u7 := kb.trans (Below.mono hs7 (by omega))
      have k7s : Below w.heap.size w (u7.setCell ⟨w.heap.size + 1 + 1, 4, none⟩ (.slice a6 n6 c6)) := k7.setCell (by show w.heap.size ≤ w.heap.size + 1 + 1; omega) _
      have k8 := k7s.trans (Below.mono hg8 k7s.size)
      have s8 : w.heap.size + 3 ≤ u8.heap.size := Nat.le_trans hs (Nat.le_trans (Below.size hs7) (Nat.le_trans (by simp [World.setCell]) (Below.size hg8)))
      have HO8 : Hid (OwS (elB B) 1 38 u8 (w.heap.size + 3) (.slice a6 n6 c6) (List.replicate (n + 1) z1k)) := ow8
      clear bX bZ HO kb F4 hs1 hs3 hs5 hs7 hg1 hg2 hg3 hg5 hg7 hg8 hg6 hw1 hw2 hw3 hw4 hw5 hwb6 hb6 ow5 ow7 ow8 ho6 hO b5 b54 b55 bl bl5 bX7 bZ7 bZ7s k7 k7s hset
      go_wp2_with fail
      go_roundw
      case rel => exact ⟨n + 1, a6, n6, c6, by omega, by go_num, hn6.symm, HO8, bX8, bZ8, k8, s8⟩
      case measure => simp [intOf]; omega
    · have i0 : ¬ (n : Int) < 4 := by omega
      obtain rfl : n = 4 := by omega
      have kcc : cc (CelS.new ⟨ps, pf, pd, pg⟩) ⟨a, 4, c⟩ = [.int .i64 (ps : Int), .int .i64 pf, .bool pd, .bool pg, .slice a ((4 : Nat)) c, .int .i64 0] := rfl
      rw [← kcc] at bX
      clear kcc
      go_wp2_with (first | ((with_reducible refine at_ld 35 ?_); (refine ld 35 (.tmp 3) 6 size35 _ Try.underlying35 rfl (w.heap.size + 1 + 1) 0 (cc (CelS.new ⟨ps, pf, pd, pg⟩) ⟨a, 4, c⟩) rfl bX.whole rfl ?_)) | ((with_reducible refine at_st 35 ?_); (refine st' 35 (.tmp 2) (.tmp 17) 6 size35 (w.heap.size + 1) 0 (cc (CelS.new ⟨ps, pf, pd, pg⟩) ⟨a, 4, c⟩) rfl (cc_one _ _) (bZ.there 0 6 (by simp)) rfl rfl ?_); intro w8 hw8))
      have b8 : Blk w8 (w.heap.size + 1) (cc (CelS.new ⟨ps, pf, pd, pg⟩) ⟨a, 4, c⟩) 35 := by rw [hw8]; exact bZ.setsW _ rfl
      have k8 : Below w.heap.size w w8 := by rw [hw8]; exact below_sets (by omega) _ kb 0
      have g8 : wr.grownBy w8 (some (w.heap.size + 1)) := by rw [hw8]; exact but_cells' _ _ _ _
      have o8 := OwB.grown HO.out g8 (by omega) (bZ.not5' neC5)
      have hrd : RC A w8 (CelS.new ⟨ps, pf, pd, pg⟩) ⟨a, 4, c⟩ := RC.mono (A := B) (o8.sl3 (fun j hj _ => (HB.out j).2 hj)) fun j _ hj => hA j (by have := (HB.out j).1 hj; omega)
      rw [← hw8]
      exact bodyPost_ret (v := cv (CelS.new ⟨ps, pf, pd, pg⟩) ⟨a, 4, c⟩) (results_cell_row Try.results9 _ _ (w.heap.size + 1) 35 (cc (CelS.new ⟨ps, pf, pd, pg⟩) ⟨a, 4, c⟩).toArray (0, 0) _ rfl b8 Try.underlying35 rfl size35) rfl ⟨_, rfl, hrd, k8⟩

end Go.Proofs.Yteilnckkmmgpcaa
