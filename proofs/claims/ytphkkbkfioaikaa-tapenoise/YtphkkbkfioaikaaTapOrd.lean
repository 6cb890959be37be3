/-
  The library's SortFunc over places of keys: an order of rows of bytes; places in order tell whether no two keys are the same; no places at all. No condition; no statement of the seat is proved here.
-/
import Derived.Test.YtphkkbkfioaikaaTapLay
import Derived.Test.YtphkkbkfioaikaaTapC
import Derived.Test.YtphkkbkfioaikaaTapL
import Derived.Test.YtphkkbkfioaikaaPowL
namespace Go.Proofs.Ytphkkbkfioaikaa
open Go.RowKit Go.Shelf Go.Sort

/-- A place as a value. -/
def encP {N : Nat} (i : Fin N) : Value := .int .i64 ((i.val : Nat) : Int)
/-- Two places' keys, held against each other. -/
def cfP (l : List (List UInt8)) {N : Nat} (i j : Fin N) : Int := Lib.compareBytes (l.getD i.val []) (l.getD j.val [])
theorem swoP (l : List (List UInt8)) {N : Nat} : SWO (ltOf (cfP l (N := N))) where
  irrefl x := by
    unfold ltOf cfP
    rw [(cb_zero _ _).2 rfl]
    decide
  trans x y z h1 h2 := by
    unfold ltOf cfP at *
    simp only [decide_eq_true_eq] at *
    exact (cb_three _ _ _).2 h1 (by omega)
  ntrans x y z h1 h2 := by
    unfold ltOf cfP at *
    simp only [decide_eq_false_iff_not] at *
    have e1 := cb_neg (l.getD x.val []) (l.getD y.val [])
    have e2 := cb_neg (l.getD y.val []) (l.getD z.val [])
    have e3 := cb_neg (l.getD x.val []) (l.getD z.val [])
    have := (cb_three (l.getD z.val []) (l.getD y.val []) (l.getD x.val [])).1 (by omega) (by omega)
    omega
/-- All places, the first one first. -/
def allP (N : Nat) : Array (Fin N) := (List.finRange N).toArray
theorem allP_size (N : Nat) : (allP N).size = N := by simp [allP]
theorem allP_at {N : Nat} [Inhabited (Fin N)] {j : Nat} (h : j < N) : (allP N)[j]! = ⟨j, h⟩ := by
  rw [getElem!_pos _ j (by rw [allP_size]; exact h)]
  simp [allP]
theorem map_all (l : List (List UInt8)) : (List.finRange l.length).map (fun i => l.getD i.val []) = l := by
  apply List.ext_getElem
  · simp
  · intro i h1 h2
    simp only [List.getElem_map, List.getElem_finRange]
    rw [List.getD_eq_getElem?_getD, List.getElem?_eq_getElem (by simpa using h2)]
    rfl
theorem extract_all {α : Type} (a : Array α) {n : Nat} (h : a.size = n) : a.extract 0 n = a := by
  subst h
  simp
/-- Places in order: keys that are the same stand side by side. -/
theorem apart_sorted {N : Nat} [Inhabited (Fin N)] (l : List (List UInt8)) (hl : l.length = N) (d : Array (Fin N)) (hp : PermIn 0 N (allP N) d) (hs : SortedIn (ltOf (cfP l (N := N))) 0 N d) :
    d.size = N ∧ (∀ i, i + 1 < N → cfP l d[i]! d[i + 1]! = 0 → l.Nodup → False) ∧ ((∀ i, i + 1 < N → cfP l d[i]! d[i + 1]! = 0 → False) → l.Nodup) := by
  subst hl
  obtain ⟨h1, _, h3⟩ := hp
  rw [allP_size] at h1
  have e0 : (d.extract 0 l.length) = d := extract_all d h1
  have e1 : ((allP l.length).extract 0 l.length).toList = List.finRange l.length := by
    rw [extract_all _ (allP_size _)]
    simp [allP]
  rw [e0, e1] at h3
  have hk : (d.toList.map fun i => l.getD i.val []).Perm l := by
    have := h3.map (fun i : Fin l.length => l.getD i.val [])
    rwa [map_all] at this
  have hat : ∀ i (h : i < l.length), (d.toList.map fun i => l.getD i.val [])[i]'(by simp [h1, h]) = l.getD (d[i]!).val [] := fun i h => by
    rw [List.getElem_map, getElem!_pos d i (by omega)]
    simp
  refine ⟨h1, fun i hi hc hn => ?_, fun hall => ?_⟩
  · have hn' := hk.nodup_iff.2 hn
    unfold cfP at hc
    rw [cb_zero] at hc
    have := (List.pairwise_iff_getElem.1 hn') i (i + 1) (by simp [h1]; omega) (by simp [h1]; omega) (by omega)
    rw [hat i (by omega), hat (i + 1) hi] at this
    exact this hc
  · refine hk.nodup_iff.1 (List.pairwise_iff_getElem.2 fun i j hi hj hij => ?_)
    have hj' : j < l.length := by simpa [h1] using hj
    rw [hat i (by omega), hat j hj']
    intro he
    have s1 := hs i (i + 1) (Nat.zero_le _) (by omega) (by omega)
    unfold ltOf cfP at s1
    rw [decide_eq_false_iff_not] at s1
    refine hall i (by omega) ?_
    unfold cfP
    by_cases hj1 : i + 1 = j
    · rw [hj1, he]
      exact (cb_zero _ _).2 rfl
    · have s2 := hs (i + 1) j (Nat.zero_le _) (by omega) hj'
      unfold ltOf cfP at s2
      rw [decide_eq_false_iff_not, ← he] at s2
      have e3 := cb_neg (l.getD (d[i]!).val []) (l.getD (d[i + 1]!).val [])
      omega

/-- The sort writes one block. -/
theorem sort_grown {α : Type} [Inhabited α] (enc : α → Value) (w : World) (g off m : Nat) (dk : Array α) (os : Array Obj) : w.grownBy (sortWorld enc w g off m dk os) (some g) := by
  refine ⟨rfl, rfl, rfl, by simp [sortWorld], fun k hk hne => ?_⟩
  unfold sortWorld
  rw [heap_grow_old _ _ (by simpa using hk)]
  unfold putRow mapBlock
  show (w.heap.modify g _)[k]? = _
  rw [Array.getElem?_modify, if_neg (fun e => hne (by rw [e]))]

/-- No places. -/
theorem oSort0 (w : World) (p : Option Addr) (c : Nat) (fv : Value) : Calls Try.prog 21 #[.slice p 0 c, fv] w fun e w' => e = .returned (.tuple #[]) ∧ w' = w := by
  have hl : Calls Try.prog 27 #[.int .u64 0] w fun e w' => e = .returned (.int .i64 (Lib.bitLen 0 : Nat)) ∧ w' = w := Any.bits_Len (SlLaysF0.n15.bits (P := Try.prog) (ρ := sortR) { sortL with }) 0 w (by omega) (by omega)
  have hi : Calls Try.prog 29 #[.slice p 0 c, .int .i64 0, .int .i64 0, fv] w fun e w' => e = .returned (.tuple #[]) ∧ w' = w := by
    clear hl
    go_enter Try.func29, Try.ntmps29
    go_wp2_with fail
    refine wp_loop_rounds 1 ?_
    rw [rounds_succ]
    go_wp2_with fail
    go_end0
    exact ⟨rfl, rfl⟩
  have hq : ∀ lim : Int, Calls Try.prog 26 #[.slice p 0 c, .int .i64 0, .int .i64 0, .int .i64 lim, fv] w fun e w' => e = .returned (.tuple #[]) ∧ w' = w := fun lim => by
    clear hl
    go_enter Try.func26, Try.ntmps26
    go_wp2_with fail
    refine wp_loop_rounds 1 ?_
    rw [rounds_succ]
    go_wp2_with fail
    refine hi.mono ?_
    rintro e w' ⟨rfl, rfl⟩
    go_wp2_with fail
    refine bodyPost_ret (results_none rfl _ _ _) rfl ?_
    exact ⟨rfl, rfl⟩
  clear hi
  generalize ((Lib.bitLen 0 : Nat) : Int) = r at *
  go_enter Try.func21, Try.ntmps21
  go_wp2_with fail
  refine hl.mono ?_
  rintro e w' ⟨rfl, rfl⟩
  go_wp2_with fail
  refine (hq _).mono ?_
  rintro e w' ⟨rfl, rfl⟩
  go_wp2_with fail
  go_end0
  exact ⟨rfl, rfl⟩

end Go.Proofs.Ytphkkbkfioaikaa
