/-
  The contracts of layer 8's reference. Conditions: fewer than 2^40 steps, numbers of the language.
-/
import Derived.Test.YteilnckkmmgpcaaPowL
import Derived.Deep.CutBlock
namespace Go.Proofs.Yteilnckkmmgpcaa
open Go.RowKit

set_option maxRecDepth 100000 in
theorem rPNew (w : World) : Calls Try.prog 10 #[] w fun e w' => e = .returned (pv PowS.new) ∧ Below w.heap.size w w' := by
  go_enter Try.func10, Try.ntmps10
  go_wp2_with fail
  exact bodyPost_ret (v := pv PowS.new) (by simp [results, Try.results10, go_sem, pv, PowS.new]) rfl ⟨rfl, below_alloc _ _⟩

set_option maxRecDepth 100000 in
theorem rPBack (w : World) (S : PowS) : Calls Try.prog 19 #[pv S] w fun e w' => e = .returned (pv S.back) ∧ Below w.heap.size w w' := by
  obtain ⟨n, f, d, g⟩ := S
  unfold pv PowS.back
  dsimp only
  go_enter Try.func19, Try.ntmps19
  go_wp2_with fail
  exact bodyPost_ret (v := .agg #[.int .i64 (n : Int), .int .i64 (-1), .bool false, .bool false]) (by simp [results, Try.results19, go_sem]) rfl ⟨rfl, below2 _ _ _⟩

set_option maxRecDepth 100000 in
theorem rPFuse (w : World) (S : PowS) (m : Int) (b : Bool) : Calls Try.prog 17 #[pv S, .int .i64 m, .bool b] w fun e w' => e = .returned (pv (S.set m b)) ∧ Below w.heap.size w w' := by
  obtain ⟨n, f, d, g⟩ := S
  unfold pv PowS.set
  dsimp only
  by_cases hm : m < 0
  · rw [if_pos hm]
    go_enter Try.func17, Try.ntmps17
    go_wp2_with fail
    exact bodyPost_ret (v := .agg #[.int .i64 (n : Int), .int .i64 (-1), .bool b, .bool g]) (by simp [results, Try.results17, go_sem]) rfl ⟨rfl, below3 _ _ _ _⟩
  · rw [if_neg hm]
    go_enter Try.func17, Try.ntmps17
    go_wp2_with fail
    exact bodyPost_ret (v := .agg #[.int .i64 (n : Int), .int .i64 m, .bool b, .bool g]) (by simp [results, Try.results17, go_sem]) rfl ⟨rfl, below3 _ _ _ _⟩

set_option maxRecDepth 100000 in
set_option maxHeartbeats 1000000 in
theorem rPStep (w : World) (S : PowS) {m : Nat} (h : S.fit m) (hm : m ≤ 1099511627776) : Calls Try.prog 25 #[pv S] w fun e w' => e = .returned (.tuple #[pv S.next, .bool S.ok, .bool S.does]) ∧ Below w.heap.size w w' := by
  obtain ⟨n, f, d, g⟩ := S
  obtain ⟨h1, h2, h3⟩ := h
  dsimp only at h1 h2 h3
  unfold pv PowS.next PowS.ok PowS.does
  dsimp only
  cases g with
  | true =>
    clear h1 h2 h3
    go_enter Try.func25, Try.ntmps25
    go_wp2_with fail
    exact bodyPost_ret (v := .tuple #[.agg #[.int .i64 (n : Int), .int .i64 f, .bool d, .bool true], .bool false, .bool false]) (by simp [results, Try.results25, go_sem]) rfl ⟨rfl, below2 _ _ _⟩
  | false =>
    by_cases hf : f < 0
    · have e0 : decide (f = 0) = false := decide_eq_false (by omega)
      rw [if_neg (by simp), if_pos hf, e0]
      clear h2 h3
      go_enter Try.func25, Try.ntmps25
      go_wp2_with fail
      exact bodyPost_ret (v := .tuple #[.agg #[.int .i64 ((n + 1 : Nat) : Int), .int .i64 f, .bool d, .bool false], .bool true, .bool true]) (by simp [results, Try.results25, go_sem]) rfl ⟨rfl, below3 _ _ _ _⟩
    · rw [if_neg (by simp), if_neg hf]
      by_cases h0 : f = 0
      · subst h0
        clear hf h2 h3
        go_enter Try.func25, Try.ntmps25
        go_wp2_with fail
        go_region
        all_goals
          go_wp2_with fail
          exact bodyPost_ret (v := .tuple #[.agg #[.int .i64 ((n + 1 : Nat) : Int), .int .i64 (-1), .bool d, .bool true], .bool false, .bool d]) (by simp [results, Try.results25, go_sem]) rfl ⟨by simp, (below3 _ _ _ _).drew⟩
      · have e0 : decide (f = 0) = false := decide_eq_false h0
        have e1 : (f == 0) = false := by simp [h0]
        rw [e0]
        clear h2
        go_enter Try.func25, Try.ntmps25
        go_wp2_with fail
        exact bodyPost_ret (v := .tuple #[.agg #[.int .i64 ((n + 1 : Nat) : Int), .int .i64 (f - 1), .bool d, .bool false], .bool true, .bool true]) (by simp [results, Try.results25, go_sem]) rfl ⟨rfl, below3 _ _ _ _⟩

end Go.Proofs.Yteilnckkmmgpcaa
