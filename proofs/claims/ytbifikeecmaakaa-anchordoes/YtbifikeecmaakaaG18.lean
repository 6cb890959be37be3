/-
  3 texts in one. No statement of the seat is proved here.
-/
import Derived.Test.YtbifikeecmaakaaG17
import Derived.Deep.CutBlock
import Derived.Defers
import Derived.Recover
import Derived.Lib.SlBytesConst
/-
  The contracts of layer 8's reference. Conditions: fewer than 2^40 steps, numbers of the language.
-/
namespace Go.Proofs.Ytbifikeecmaakaa
open Go.RowKit

set_option maxRecDepth 100000 in
theorem rPNew (w : World) : Calls Try.prog 24 #[] w fun e w' => e = .returned (pv PowS.new) ∧ Below w.heap.size w w' := by
  go_enter Try.func24, Try.ntmps24
  go_wp2_with fail
  exact bodyPost_ret (v := pv PowS.new) (by simp [results, Try.results24, go_sem, pv, PowS.new]) rfl ⟨rfl, below_alloc _ _⟩

set_option maxRecDepth 100000 in
theorem rPBack (w : World) (S : PowS) : Calls Try.prog 36 #[pv S] w fun e w' => e = .returned (pv S.back) ∧ Below w.heap.size w w' := by
  obtain ⟨n, f, d, g⟩ := S
  unfold pv PowS.back
  dsimp only
  go_enter Try.func36, Try.ntmps36
  go_wp2_with fail
  exact bodyPost_ret (v := .agg #[.int .i64 (n : Int), .int .i64 (-1), .bool false, .bool false]) (by simp [results, Try.results36, go_sem]) rfl ⟨rfl, below2 _ _ _⟩

set_option maxRecDepth 100000 in
theorem rPFuse (w : World) (S : PowS) (m : Int) (b : Bool) : Calls Try.prog 34 #[pv S, .int .i64 m, .bool b] w fun e w' => e = .returned (pv (S.set m b)) ∧ Below w.heap.size w w' := by
  obtain ⟨n, f, d, g⟩ := S
  unfold pv PowS.set
  dsimp only
  by_cases hm : m < 0
  · rw [if_pos hm]
    go_enter Try.func34, Try.ntmps34
    go_wp2_with fail
    exact bodyPost_ret (v := .agg #[.int .i64 (n : Int), .int .i64 (-1), .bool b, .bool g]) (by simp [results, Try.results34, go_sem]) rfl ⟨rfl, below3 _ _ _ _⟩
  · rw [if_neg hm]
    go_enter Try.func34, Try.ntmps34
    go_wp2_with fail
    exact bodyPost_ret (v := .agg #[.int .i64 (n : Int), .int .i64 m, .bool b, .bool g]) (by simp [results, Try.results34, go_sem]) rfl ⟨rfl, below3 _ _ _ _⟩

set_option maxRecDepth 100000 in
set_option maxHeartbeats 1000000 in
theorem rPStep (w : World) (S : PowS) {m : Nat} (h : S.fit m) (hm : m ≤ 1099511627776) : Calls Try.prog 70 #[pv S] w fun e w' => e = .returned (.tuple #[pv S.next, .bool S.ok, .bool S.does]) ∧ Below w.heap.size w w' := by
  obtain ⟨n, f, d, g⟩ := S
  obtain ⟨h1, h2, h3⟩ := h
  dsimp only at h1 h2 h3
  unfold pv PowS.next PowS.ok PowS.does
  dsimp only
  cases g with
  | true =>
    clear h1 h2 h3
    go_enter Try.func70, Try.ntmps70
    go_wp2_with fail
    exact bodyPost_ret (v := .tuple #[.agg #[.int .i64 (n : Int), .int .i64 f, .bool d, .bool true], .bool false, .bool false]) (by simp [results, Try.results70, go_sem]) rfl ⟨rfl, below2 _ _ _⟩
  | false =>
    by_cases hf : f < 0
    · have e0 : decide (f = 0) = false := decide_eq_false (by omega)
      rw [if_neg (by simp), if_pos hf, e0]
      clear h2 h3
      go_enter Try.func70, Try.ntmps70
      go_wp2_with fail
      exact bodyPost_ret (v := .tuple #[.agg #[.int .i64 ((n + 1 : Nat) : Int), .int .i64 f, .bool d, .bool false], .bool true, .bool true]) (by simp [results, Try.results70, go_sem]) rfl ⟨rfl, below3 _ _ _ _⟩
    · rw [if_neg (by simp), if_neg hf]
      by_cases h0 : f = 0
      · subst h0
        clear hf h2 h3
        go_enter Try.func70, Try.ntmps70
        go_wp2_with fail
        go_region
        all_goals
          go_wp2_with fail
          exact bodyPost_ret (v := .tuple #[.agg #[.int .i64 ((n + 1 : Nat) : Int), .int .i64 (-1), .bool d, .bool true], .bool false, .bool d]) (by simp [results, Try.results70, go_sem]) rfl ⟨by simp, (below3 _ _ _ _).drew⟩
      · have e0 : decide (f = 0) = false := decide_eq_false h0
        have e1 : (f == 0) = false := by simp [h0]
        rw [e0]
        clear h2
        go_enter Try.func70, Try.ntmps70
        go_wp2_with fail
        exact bodyPost_ret (v := .tuple #[.agg #[.int .i64 ((n + 1 : Nat) : Int), .int .i64 (f - 1), .bool d, .bool false], .bool true, .bool true]) (by simp [results, Try.results70, go_sem]) rfl ⟨rfl, below3 _ _ _ _⟩

end Go.Proofs.Ytbifikeecmaakaa

/-
  The contracts of layer 8's program. Conditions: fewer than 2^40 steps, numbers of the language; what a step does returns, and leaves the power's block alone.
-/
namespace Go.Proofs.Ytbifikeecmaakaa
open Go.RowKit

/-- The power in block r: down, fused, ahead, done; steps. Where it has gone, the fuse is of no matter. -/
def Pw (w : World) (r : Nat) (S : PowS) : Prop := ∃ (b : Bool) (a : Int), (-9223372036854775808 ≤ a ∧ a ≤ 9223372036854775807) ∧ (S.down = false → b = decide (0 ≤ S.fuse) ∧ (0 ≤ S.fuse → a = S.fuse)) ∧ Blk w r [.bool S.down, .bool b, .int .i64 a, .bool S.done, .int .i64 (S.steps : Int)] 107
theorem Pw.lt {w : World} {r : Nat} {S : PowS} (h : Pw w r S) : r < w.heap.size := by
  obtain ⟨b, a, _, _, hb⟩ := h
  exact hb.lt
theorem Pw.same {w w' : World} {r : Nat} {S : PowS} (h : Pw w r S) (e : w'.heap[r]? = w.heap[r]?) : Pw w' r S := by
  obtain ⟨b, a, h1, h2, hb⟩ := h
  refine ⟨b, a, h1, h2, ?_⟩
  unfold Blk
  rw [e]
  exact hb

theorem kp_set (w : World) (r i : Nat) (v : Value) : Kp (fun k => k = r) w (w.setCell ⟨r, i, none⟩ v) := Kp.of_grown (but_set w r i v)
set_option maxRecDepth 100000 in
theorem oPNew (w : World) : Calls Try.prog 19 #[] w fun e w' => ∃ r, e = .returned (.pointer (some ⟨r, 0, none⟩)) ∧ w.heap.size ≤ r ∧ Pw w' r PowS.new ∧ Below w.heap.size w w' := by
  go_enter Try.func19, Try.ntmps19
  go_wp2_with fail
  go_ret
  refine ⟨w.heap.size, rfl, Nat.le_refl _, ⟨false, 0, by decide, fun _ => ⟨rfl, fun h => absurd h (by decide)⟩, Blk.new w _ _⟩, below_alloc _ _⟩
set_option maxRecDepth 100000 in
theorem oPDown (w : World) {r : Nat} {S : PowS} (h : Pw w r S) : Calls Try.prog 73 #[.pointer (some ⟨r, 0, none⟩)] w fun e w' => e = .returned (.bool S.down) ∧ w' = w := by
  obtain ⟨b, a, h1, h2, hb⟩ := h
  obtain ⟨n, F, d, g⟩ := S
  dsimp only at hb ⊢
  clear h2
  have hl := hb.lt
  have c0 := hb.cell 0
  simp only [List.getElem?_cons_zero] at c0
  go_enter Try.func73, Try.ntmps73
  go_wp2_with fail
  go_ret
  exact ⟨rfl, rfl⟩
set_option maxRecDepth 100000 in
theorem oPFuse (w : World) {r : Nat} {S : PowS} (h : Pw w r S) (n : Int) (d : Bool) (hn : -9223372036854775808 ≤ n ∧ n ≤ 9223372036854775807) : Calls Try.prog 33 #[.pointer (some ⟨r, 0, none⟩), .int .i64 n, .bool d] w fun e w' => e = .returned (.tuple #[]) ∧ Pw w' r (S.set n d) ∧ Kp (fun k => k = r) w w' := by
  obtain ⟨b, a, h1, h2, hb⟩ := h
  obtain ⟨m, F, d0, g⟩ := S
  dsimp only at hb h2
  clear h2
  have hl := hb.lt
  have c0 := hb.cell 0
  have c1 := hb.cell 1
  have c2 := hb.cell 2
  have c3 := hb.cell 3
  have z0 := hb.free 0
  have z1 := hb.free 1
  have z2 := hb.free 2
  have z3 := hb.free 3
  simp only [List.getElem?_cons_zero, List.getElem?_cons_succ] at c0 c1 c2 c3
  go_enter Try.func33, Try.ntmps33
  go_wp2_with fail
  go_end0
  refine ⟨rfl, ⟨decide (0 ≤ n), n, hn, fun _ => ?_, (((hb.setC 0 _).setC 1 _).setC 2 _).setC 3 _⟩, ?_⟩
  · unfold PowS.set
    dsimp only
    by_cases h0 : n < 0
    · rw [if_pos h0, decide_eq_false (by omega)]
      exact ⟨rfl, fun h => absurd h (by omega)⟩
    · rw [if_neg h0]
      exact ⟨rfl, fun _ => rfl⟩
  · exact (((kp_set w r 0 _).trans (kp_set _ r 1 _)).trans (kp_set _ r 2 _)).trans (kp_set _ r 3 _)
set_option maxRecDepth 100000 in
theorem oPBack (w : World) {r : Nat} {S : PowS} (h : Pw w r S) : Calls Try.prog 35 #[.pointer (some ⟨r, 0, none⟩)] w fun e w' => e = .returned (.tuple #[]) ∧ Pw w' r S.back ∧ Kp (fun k => k = r) w w' := by
  obtain ⟨b, a, h1, h2, hb⟩ := h
  obtain ⟨m, F, d0, g⟩ := S
  dsimp only at hb h2
  clear h2
  have hl := hb.lt
  have c0 := hb.cell 0
  have c1 := hb.cell 1
  have c2 := hb.cell 2
  have c3 := hb.cell 3
  have z0 := hb.free 0
  have z1 := hb.free 1
  have z2 := hb.free 2
  have z3 := hb.free 3
  simp only [List.getElem?_cons_zero, List.getElem?_cons_succ] at c0 c1 c2 c3
  go_enter Try.func35, Try.ntmps35
  go_wp2_with fail
  go_end0
  refine ⟨rfl, ⟨false, 0, by decide, fun _ => ⟨rfl, fun h => absurd h (by show ¬ (0 : Int) ≤ -1; omega)⟩, (((hb.setC 0 _).setC 1 _).setC 2 _).setC 3 _⟩, ?_⟩
  exact (((kp_set w r 0 _).trans (kp_set _ r 1 _)).trans (kp_set _ r 2 _)).trans (kp_set _ r 3 _)
/-- The fuse burns by a step. -/
theorem oBurn (w : World) {r : Nat} {b d : Bool} {a n : Int} (ha : -9223372036854775808 ≤ a ∧ a ≤ 9223372036854775807) (hb : Blk w r [.bool false, .bool b, .int .i64 a, .bool d, .int .i64 n] 107) :
    Calls Try.prog 77 #[.pointer (some ⟨r, 0, none⟩)] w fun e w' => e = .returned (.bool (b && decide (a ≤ 0))) ∧ Blk w' r [.bool (b && decide (a ≤ 0)), .bool b, .int .i64 (if b && decide (0 < a) then a - 1 else a), .bool d, .int .i64 n] 107 ∧ Kp (fun k => k = r) w w' := by
  have hl := hb.lt
  have c0 := hb.cell 0
  have c1 := hb.cell 1
  have c2 := hb.cell 2
  have z0 := hb.free 0
  have z2 := hb.free 2
  simp only [List.getElem?_cons_zero, List.getElem?_cons_succ] at c0 c1 c2
  cases b with
  | false =>
    go_enter Try.func77, Try.ntmps77
    go_wp2_with fail
    go_ret
    exact ⟨rfl, hb, Kp.refl _ _⟩
  | true =>
    by_cases h0 : 0 < a
    · rw [decide_eq_false (by omega), decide_eq_true h0]
      go_enter Try.func77, Try.ntmps77
      go_wp2_with fail
      go_ret
      exact ⟨rfl, hb.setC 2 _, kp_set w r 2 _⟩
    · rw [decide_eq_true (show a ≤ 0 by omega), decide_eq_false h0]
      go_enter Try.func77, Try.ntmps77
      go_wp2_with fail
      go_ret
      exact ⟨rfl, hb.setC 0 _, kp_set w r 0 _⟩
/-- What is deferred behind what a step does: no panic is there. -/
theorem dIdle (w : World) : CallsD Try.prog 79 #[] .returning w fun e u' w' => e = .returned (.tuple #[]) ∧ u' = .returning ∧ w' = w := by
  refine callsD_of_wpS Try.func79 rfl fun c₀ cs hu => ?_
  apply wpS_region
  simp [wpOpsS, go_sem, recoverD, hu, Try.ntmps79]
  cases c₀
  simp_all [bodyPostS, results, Try.results79]
/-- What a step does is called. -/
theorem oDo (w : World) (F : Nat) (caps : Array Value) (eF : ∀ args w, (callFunc F args).run Try.prog w = .ok (.enter F args) w) (R : World → Prop) (hdo : Calls Try.prog F caps w fun e w2 => e = .returned (.tuple #[]) ∧ R w2) :
    Calls Try.prog 78 #[.func (.func F) #[] caps] w fun e w2 => e = .returned (.tuple #[]) ∧ R w2 := by
  go_enter_defers Try.func78, Try.ntmps78
  go_wp2_with fail
  refine hdo.mono ?_
  rintro e w2 ⟨rfl, hR⟩
  go_wp2_with fail
  refine leaves_cons (f := 79) (args := #[]) (by simp) (by simp [go_sem]) ?_
  refine (dIdle w2).mono ?_
  rintro e u' w'' ⟨rfl, rfl, rfl⟩
  simp [Leaves, settle, results, Try.results78, go_sem]
  exact hR
/-- What a step did. -/
def DoesP (S : PowS) (r : Nat) (R : World → World → Prop) (w w' : World) : Prop := if S.does then ∃ w1 w2, Kp (fun k => k = r) w w1 ∧ R w1 w2 ∧ Kp (fun k => k = r) w2 w' else Kp (fun k => k = r) w w'
set_option maxRecDepth 100000 in
set_option maxHeartbeats 1000000 in
theorem oPStep0 (w : World) {r : Nat} {S : PowS} (h : Pw w r S) {m : Nat} (hfit : S.fit m) (hm : m ≤ 1099511627776) (F : Nat) (caps : Array Value) (eF : ∀ args w, (callFunc F args).run Try.prog w = .ok (.enter F args) w) (R : World → World → Prop)
    (hdo : ∀ w1, Kp (fun k => k = r) w w1 → Calls Try.prog F caps w1 fun e w2 => e = .returned (.tuple #[]) ∧ w2.heap[r]? = w1.heap[r]? ∧ R w1 w2) :
    Calls Try.prog 74 #[.pointer (some ⟨r, 0, none⟩), .func (.func F) #[] caps] w fun e w' => e = .returned (.bool S.ok) ∧ Pw w' r S.next ∧ DoesP S r R w w' := by
  have h' := h
  obtain ⟨b, a, h1, h2, hb⟩ := h
  obtain ⟨n, fu, d, g⟩ := S
  obtain ⟨g1, g2, g3⟩ := hfit
  dsimp only at h2 g1 g2 g3 hb
  have hl := hb.lt
  have c0 := hb.cell 0
  have c4 := hb.cell 4
  have z4 := hb.free 4
  simp only [List.getElem?_cons_zero, List.getElem?_cons_succ] at c0 c4
  cases g with
  | true =>
    clear h1 h2 hb hdo
    go_enter Try.func74, Try.ntmps74
    go_wp2_with fail
    go_ret
    exact ⟨rfl, h', (show Kp (fun k => k = r) w w from Kp.refl _ _)⟩
  | false =>
    obtain ⟨e2, h3⟩ := h2 rfl
    clear h2
    clear h'
    have hb' := hb.setC 4 (.int .i64 ((n : Int) + 1))
    have k1 := kp_set w r 4 (.int .i64 ((n : Int) + 1))
    go_enter Try.func74, Try.ntmps74
    go_wp2_with fail
    generalize w.setCell ⟨r, 4, none⟩ (.int .i64 ((n : Int) + 1)) = W1 at *
    refine (oBurn W1 (d := d) h1 hb').mono ?_
    rintro e w1 ⟨rfl, hb1, k2⟩
    have k12 := k1.trans k2
    have hgo : (b && decide (a ≤ 0)) = decide (fu = 0) := by
      rw [e2]
      by_cases hf : 0 ≤ fu
      · rw [h3 hf, decide_eq_true hf, Bool.true_and]
        by_cases h0 : fu = 0
        · rw [decide_eq_true h0, decide_eq_true (by omega)]
        · rw [decide_eq_false h0, decide_eq_false (by omega)]
      · rw [decide_eq_false hf, decide_eq_false (show ¬ fu = 0 by omega)]
        rfl
    have hp : Pw w1 r (PowS.next ⟨n, fu, d, false⟩) := by
      unfold PowS.next
      rw [if_neg (by simp)]
      by_cases hf : fu < 0
      · rw [decide_eq_false (show ¬ 0 ≤ fu by omega)] at e2
        subst e2
        dsimp only
        rw [if_pos hf]
        exact ⟨false, a, h1, fun _ => ⟨(decide_eq_false (show ¬ 0 ≤ fu by omega)).symm, fun h => absurd h (by dsimp only; omega)⟩, hb1⟩
      · rw [decide_eq_true (show 0 ≤ fu by omega)] at e2
        subst e2
        obtain rfl := h3 (by omega)
        dsimp only
        rw [if_neg hf]
        rw [hgo] at hb1
        by_cases h0 : a = 0
        · subst h0
          exact ⟨true, 0, by omega, fun h => (by cases h), hb1⟩
        · rw [Bool.true_and, if_pos (by simp; omega)] at hb1
          exact ⟨true, a - 1, by omega, fun _ => ⟨(decide_eq_true (show 0 ≤ a - 1 by omega)).symm, fun _ => rfl⟩, hb1⟩
    have c3 := hb1.cell 3
    simp only [List.getElem?_cons_zero, List.getElem?_cons_succ] at c3
    have D := hdo w1 k12
    clear hdo
    rw [hgo]
    have E : Hid (Calls Try.prog 78 #[.func (.func F) #[] caps] w1 fun e w2 => e = .returned (.tuple #[]) ∧ (w2.heap[r]? = w1.heap[r]? ∧ R w1 w2)) := oDo w1 F caps eF (fun w2 => w2.heap[r]? = w1.heap[r]? ∧ R w1 w2) D
    clear D hb hb' hb1 h1 e2 h3 g1 g2 g3 c0 c4 z4 k1 k2 hgo
    cases hz : decide (fu = 0) with
    | false =>
      go_wp2_with fail
      refine E.out.mono ?_
      rintro e w2 ⟨rfl, q1, q2⟩
      go_wp2_with fail
      go_ret
      unfold PowS.ok DoesP PowS.does
      dsimp only
      rw [hz]
      exact ⟨rfl, hp.same q1, w1, w2, k12, q2, Kp.refl _ _⟩
    | true =>
      cases d with
      | false =>
        go_wp2_with fail
        go_ret
        unfold PowS.ok DoesP PowS.does
        dsimp only
        rw [hz]
        exact ⟨rfl, hp, k12⟩
      | true =>
        go_wp2_with fail
        refine E.out.mono ?_
        rintro e w2 ⟨rfl, q1, q2⟩
        go_wp2_with fail
        go_ret
        unfold PowS.ok DoesP PowS.does
        dsimp only
        rw [hz]
        exact ⟨rfl, hp.same q1, w1, w2, k12, q2, Kp.refl _ _⟩
theorem oPStep (w : World) {r : Nat} {S : PowS} (h : Pw w r S) {m : Nat} (hfit : S.fit m) (hm : m ≤ 1099511627776) (F : Nat) (caps : Array Value) (eF : ∀ args w, (callFunc F args).run Try.prog w = .ok (.enter F args) w) (R : World → World → Prop)
    (hdo : ∀ w1, Kp (fun k => k = r) w w1 → Calls Try.prog F caps w1 fun e w2 => e = .returned (.tuple #[]) ∧ w2.heap[r]? = w1.heap[r]? ∧ R w1 w2) :
    Calls Try.prog 74 #[.pointer (some ⟨r, 0, none⟩), .func (.func F) #[] caps] w fun e w' => e = .returned (.bool S.ok) ∧ Pw w' r S.next ∧ (if S.does then ∃ w1 w2, Kp (fun k => k = r) w w1 ∧ R w1 w2 ∧ Kp (fun k => k = r) w2 w' else Kp (fun k => k = r) w w') := oPStep0 w h hfit hm F caps eF R hdo
end Go.Proofs.Ytbifikeecmaakaa

/-
  Slices of one, two and three rows of bytes, made as one; a text's bytes. No condition; no statement of the seat is proved here.
-/
namespace Go.Proofs.Ytbifikeecmaakaa
open Go.RowKit

theorem conv2 (w : World) (o : Obj) (C : Array Value) (n c : Nat) : Sem.run Try.prog (convert 22 22 (.slice (some ⟨w.heap.size + 1, 0, none⟩) n c)) ((w.alloc o).alloc (.cells C 5)) = .ok (.slice (some ⟨w.heap.size + 1, 0, none⟩) n c) ((w.alloc o).alloc (.cells C 5 (C.size, C.size + 1))) := by
  have := Lib.run_convert_bytes_const (P := Try.prog) (w.alloc o) 22 5 C n c Try.underlying22 Try.underlying5
  rw [World.size_alloc] at this
  exact this
theorem Bss.two {w : World} {a1 a2 : Option Addr} {n1 c1 n2 c2 : Nat} {l1 l2 : List UInt8} (h1 : Bs w a1 n1 c1 l1) (h2 : Bs w a2 n2 c2 l2) :
    Bss (w.alloc (.cells #[.slice a1 n1 c1, .slice a2 n2 c2] 22)) (some ⟨w.heap.size, 0, none⟩) 2 2 [l1, l2] := by
  refine ⟨rfl, Nat.le_refl _, by unfold maxLen; omega, fun i hi => ?_⟩
  match i, hi with
  | 0, _ => exact ⟨w.heap.size, 0, a1, n1, c1, rfl, by rw [cell_new]; rfl, h1.below (below_alloc _ _) (Nat.le_refl _)⟩
  | 1, _ => exact ⟨w.heap.size, 0, a2, n2, c2, rfl, by rw [cell_new]; rfl, h2.below (below_alloc _ _) (Nat.le_refl _)⟩
theorem Bss.one1 {w : World} {a1 : Option Addr} {n1 c1 : Nat} {l1 : List UInt8} (h1 : Bs w a1 n1 c1 l1) :
    Bss (w.alloc (.cells #[.slice a1 n1 c1] 22)) (some ⟨w.heap.size, 0, none⟩) 1 1 [l1] := by
  refine ⟨rfl, Nat.le_refl _, by unfold maxLen; omega, fun i hi => ?_⟩
  match i, hi with
  | 0, _ => exact ⟨w.heap.size, 0, a1, n1, c1, rfl, by rw [cell_new]; rfl, h1.below (below_alloc _ _) (Nat.le_refl _)⟩
theorem Bss.three {w : World} {a1 a2 a3 : Option Addr} {n1 c1 n2 c2 n3 c3 : Nat} {l1 l2 l3 : List UInt8} (h1 : Bs w a1 n1 c1 l1) (h2 : Bs w a2 n2 c2 l2) (h3 : Bs w a3 n3 c3 l3) :
    Bss (w.alloc (.cells #[.slice a1 n1 c1, .slice a2 n2 c2, .slice a3 n3 c3] 22)) (some ⟨w.heap.size, 0, none⟩) 3 3 [l1, l2, l3] := by
  refine ⟨rfl, Nat.le_refl _, by unfold maxLen; omega, fun i hi => ?_⟩
  match i, hi with
  | 0, _ => exact ⟨w.heap.size, 0, a1, n1, c1, rfl, by rw [cell_new]; rfl, h1.below (below_alloc _ _) (Nat.le_refl _)⟩
  | 1, _ => exact ⟨w.heap.size, 0, a2, n2, c2, rfl, by rw [cell_new]; rfl, h2.below (below_alloc _ _) (Nat.le_refl _)⟩
  | 2, _ => exact ⟨w.heap.size, 0, a3, n3, c3, rfl, by rw [cell_new]; rfl, h3.below (below_alloc _ _) (Nat.le_refl _)⟩

end Go.Proofs.Ytbifikeecmaakaa
