/-
  Contracts of layer 15's program: how a space lies in memory ('Sp'); what its calls answer that only read: Size, Free, Taken, has, all, find. Conditions: none but that the space may be, and numbers of the language.
-/
import Derived.Test.YtcmbkpdefbaakaaSpaL
import Derived.Test.YtcmbkpdefbaakaaBools
namespace Go.Proofs.Ytcmbkpdefbaakaa
open Go.RowKit

/-- The space S in block s, its blocks in block t. -/
structure Sp (w : World) (s t : Nat) (S : SpS) : Prop where
  ok : S.ok
  ne : ¬ s = t
  m : ∃ z : List Value, Blk w s [.slice (some ⟨t, 0, none⟩) S.l.length (S.l.length + z.length), .int .i64 (S.first : Int)] 51 ∧ Blk w t (bo S.l ++ z) 4 ∧ S.l.length + z.length ≤ maxLen
theorem Sp.keep {F : Nat → Prop} {w w' : World} {s t : Nat} {S : SpS} (h : Sp w s t S) (k : Kp F w w') (h1 : ¬ F s) (h2 : ¬ F t) : Sp w' s t S := by
  obtain ⟨z, b1, b2, b3⟩ := h.m
  exact ⟨h.ok, h.ne, z, k.blk b1 h1, k.blk b2 h2, b3⟩
theorem Sp.grow {w w' : World} {s t : Nat} {S : SpS} (h : Sp w s t S) (k : Below w.heap.size w w') : Sp w' s t S := h.keep (F := fun _ => False) (Kp.of_below k) (fun h => h) (fun h => h)
theorem Sp.lt {w : World} {s t : Nat} {S : SpS} (h : Sp w s t S) : s < w.heap.size := by
  obtain ⟨z, b1, _⟩ := h.m
  exact b1.lt
theorem Sp.lt2 {w : World} {s t : Nat} {S : SpS} (h : Sp w s t S) : t < w.heap.size := by
  obtain ⟨z, _, b2, _⟩ := h.m
  exact b2.lt
theorem Sp.c0 {w : World} {s t : Nat} {S : SpS} (h : Sp w s t S) : ∃ c, w.cell? ⟨s, 0, none⟩ = some (.slice (some ⟨t, 0, none⟩) S.l.length c) := by
  obtain ⟨z, b1, _⟩ := h.m
  exact ⟨_, b1.cell 0⟩
theorem Sp.c1 {w : World} {s t : Nat} {S : SpS} (h : Sp w s t S) : w.cell? ⟨s, 1, none⟩ = some (.int .i64 (S.first : Int)) := by
  obtain ⟨z, b1, _⟩ := h.m
  exact b1.cell 1
theorem Sp.at {w : World} {s t : Nat} {S : SpS} (h : Sp w s t S) {i : Nat} (hi : i < S.l.length) : w.cell? ⟨t, i, none⟩ = some (.bool (S.l.getD i false)) := by
  obtain ⟨z, _, b2, _⟩ := h.m
  rw [b2.cell, List.getElem?_append_left (by rw [bo_length]; exact hi), bo_get hi]
theorem Sp.unf {w : World} {s t : Nat} {S : SpS} (h : Sp w s t S) (i : Nat) : w.frozen? ⟨t, i, none⟩ = false := by
  obtain ⟨z, _, b2, _⟩ := h.m
  exact b2.free i
theorem Sp.bo {w : World} {s t : Nat} {S : SpS} (h : Sp w s t S) : ∃ c, w.cell? ⟨s, 0, none⟩ = some (.slice (some ⟨t, 0, none⟩) S.l.length c) ∧ Bo w (some ⟨t, 0, none⟩) S.l.length c S.l := by
  obtain ⟨z, b1, b2, b3⟩ := h.m
  refine ⟨_, b1.cell 0, rfl, by omega, b3, by simp, fun i hi => ⟨t, 0, rfl, ?_⟩⟩
  rw [Nat.zero_add]
  exact h.at hi
/-- One block's cell is written. -/
theorem Sp.put {w : World} {s t : Nat} {S : SpS} (h : Sp w s t S) {i : Nat} (hi : i < S.l.length) (b : Bool) : Sp (w.setCell ⟨t, i, none⟩ (.bool b)) s t ⟨S.first, S.l.set i b⟩ := by
  obtain ⟨z, b1, b2, b3⟩ := h.m
  refine ⟨⟨?_, ?_, ?_⟩, h.ne, z, ?_, ?_, ?_⟩
  · show 1 ≤ (S.l.set i b).length; rw [List.length_set]; exact h.ok.n1
  · show (S.l.set i b).length ≤ 4096; rw [List.length_set]; exact h.ok.n2
  · show S.first ≤ (S.l.set i b).length; rw [List.length_set]; exact h.ok.f
  · show Blk _ s [.slice _ (S.l.set i b).length ((S.l.set i b).length + z.length), _] _
    rw [List.length_set]
    exact b1.setO (p := ⟨t, i, none⟩) h.ne _
  · show Blk _ t (Go.Proofs.Ytcmbkpdefbaakaa.bo (S.l.set i b) ++ z) 4
    have := b2.setC i (.bool b)
    rw [List.set_append_left _ _ (by rw [bo_length]; exact hi), bo_set] at this
    exact this
  · show (S.l.set i b).length + z.length ≤ maxLen
    rw [List.length_set]
    exact b3

set_option maxRecDepth 100000 in
theorem oZSize (w : World) {s t : Nat} {S : SpS} (h : Sp w s t S) : Calls Try.prog 18 #[.pointer (some ⟨s, 0, none⟩)] w fun e w' => e = .returned (.int .i64 (S.l.length : Int)) ∧ w = w' := by
  have hl := h.lt
  obtain ⟨c, c0⟩ := h.c0
  clear h
  generalize S.l.length = n at *
  go_enter Try.func18, Try.ntmps18
  go_wp2_with fail
  go_ret
  exact ⟨rfl, rfl⟩

set_option maxRecDepth 100000 in
set_option maxHeartbeats 1000000 in
theorem oZFree (w : World) {s t : Nat} {S : SpS} (h : Sp w s t S) : Calls Try.prog 17 #[.pointer (some ⟨s, 0, none⟩)] w fun e w' => e = .returned (.int .i64 (freeL S.l : Int)) ∧ w = w' := by
  have hl := h.lt
  have hl2 := h.lt2
  have h1 := h.ok.n2
  obtain ⟨c, c0⟩ := h.c0
  have H : Hid (∀ i, i < S.l.length → w.cell? ⟨t, i, none⟩ = some (.bool (S.l.getD i false))) := fun i hi => h.at hi
  have HS := oZSize w h
  clear h
  unfold freeL
  generalize hn : S.l.length = n at *
  generalize S.l = l at *
  go_enter Try.func17, Try.ntmps17
  go_wp2_with fail
  refine HS.mono ?_
  rintro e w' ⟨rfl, rfl⟩
  clear HS
  go_wp2_with fail
  go_loop [3, 7] (fun v x => ∃ k : Nat, k ≤ n ∧ x = .int .i64 (k : Int) ∧ v = .int .i64 (freeN l k : Int)) (fun _ x => n - (intOf x).toNat)
  case atStart => exact ⟨0, by omega, rfl, rfl⟩
  case round =>
    obtain ⟨k, hk, rfl, rfl⟩ := hrel
    by_cases hlt : k < n
    · have i1 : (k : Int) < (n : Int) := by omega
      have i0 : (0 : Int) ≤ (k : Int) := by omega
      have hv := freeN_le l k
      have HN : Hid (freeN l (k + 1) = freeN l k + (if l.getD k false then 0 else 1)) := rfl
      have c1 := H.out k hlt
      generalize freeN l k = V at *
      have hV : V ≤ 4096 := by omega
      clear hv
      cases hb : l.getD k false with
      | true =>
        rw [hb] at c1
        rw [hb, if_pos rfl] at HN
        clear hb
        go_wp2_with fail
        go_round
        case rel => exact ⟨k + 1, by omega, by go_num, by rw [HN.out, Nat.add_zero]⟩
        case measure => simp [intOf]; omega
      | false =>
        rw [hb] at c1
        rw [hb, if_neg (by decide)] at HN
        clear hb
        go_wp2_with fail
        go_round
        case rel => exact ⟨k + 1, by omega, by go_num, by rw [HN.out]; go_num⟩
        case measure => simp [intOf]; omega
    · obtain rfl : k = n := by omega
      have i1 : ¬ (k : Int) < (k : Int) := by omega
      go_wp2
      go_ret
      exact ⟨rfl, rfl⟩

set_option maxRecDepth 100000 in
set_option maxHeartbeats 1000000 in
theorem oZTaken (w : World) {s t : Nat} {S : SpS} (h : Sp w s t S) (k : Int) : Calls Try.prog 19 #[.pointer (some ⟨s, 0, none⟩), .int .i64 k] w fun e w' => e = .returned (.bool (S.taken k)) ∧ w = w' := by
  have hl := h.lt
  have hl2 := h.lt2
  obtain ⟨c, c0⟩ := h.c0
  have HS := oZSize w h
  by_cases i0 : k < 0
  · rw [S.taken_out (Or.inl i0)]
    clear HS
    go_enter Try.func19, Try.ntmps19
    go_wp2_with fail
    go_ret
    exact ⟨rfl, rfl⟩
  · by_cases i1 : (S.l.length : Int) ≤ k
    · rw [S.taken_out (Or.inr i1)]
      clear h
      generalize S.l.length = n at *
      go_enter Try.func19, Try.ntmps19
      go_wp2_with fail
      refine HS.mono ?_
      rintro e w' ⟨rfl, rfl⟩
      clear HS
      go_wp2_with fail
      go_ret
      exact ⟨rfl, rfl⟩
    · obtain ⟨j, rfl⟩ : ∃ j : Nat, k = (j : Int) := ⟨k.toNat, by omega⟩
      rw [S.taken_in (by omega)]
      have c1 := h.at (i := j) (by omega)
      clear h
      generalize S.l.length = n at *
      generalize S.l.getD j false = b at *
      have i2 : (j : Int) < (n : Int) := by omega
      have i3 : (0 : Int) ≤ (j : Int) := by omega
      go_enter Try.func19, Try.ntmps19
      go_wp2_with fail
      refine HS.mono ?_
      rintro e w' ⟨rfl, rfl⟩
      clear HS
      go_wp2_with fail
      go_ret
      exact ⟨ret_bool (a := decide (n ≤ j) || b) (by rw [decide_eq_false (by omega)]; rfl), rfl⟩

set_option maxRecDepth 100000 in
set_option maxHeartbeats 1000000 in
theorem oZHas (w : World) {s t : Nat} {S : SpS} (h : Sp w s t S) (a n : Int) (hn : n ≤ 9223372036854775807) : Calls Try.prog 25 #[.pointer (some ⟨s, 0, none⟩), .int .i64 a, .int .i64 n] w fun e w' => e = .returned (.bool (decide (S.has a n))) ∧ w = w' := by
  have hl := h.lt
  have h1 := h.ok.n2
  obtain ⟨c, c0⟩ := h.c0
  have c1 := h.c1
  have HS := oZSize w h
  clear h
  by_cases i0 : 1 ≤ n
  · by_cases i1 : (S.first : Int) ≤ a
    · by_cases i2 : a ≤ (S.l.length : Int) - n
      · rw [decide_eq_true (show S.has a n from ⟨i0, i1, i2⟩)]
        generalize S.l.length = m at *
        generalize (S.first : Int) = f at *
        have i3 : (m : Int) ≤ 4096 := by omega
        go_enter Try.func25, Try.ntmps25
        go_wp2_with fail
        refine HS.mono ?_
        rintro e w' ⟨rfl, rfl⟩
        clear HS
        go_wp2_with fail
        go_ret
        exact ⟨rfl, rfl⟩
      · rw [decide_eq_false (show ¬ S.has a n from fun h => i2 h.2.2)]
        generalize S.l.length = m at *
        generalize (S.first : Int) = f at *
        have i3 : (m : Int) ≤ 4096 := by omega
        go_enter Try.func25, Try.ntmps25
        go_wp2_with fail
        refine HS.mono ?_
        rintro e w' ⟨rfl, rfl⟩
        clear HS
        go_wp2_with fail
        go_ret
        exact ⟨ret_bool (a := decide (a ≤ (m : Int) - n)) (decide_eq_false (by omega)), rfl⟩
    · rw [decide_eq_false (show ¬ S.has a n from fun h => i1 h.2.1)]
      clear HS
      generalize (S.first : Int) = f at *
      go_enter Try.func25, Try.ntmps25
      go_wp2_with fail
      go_ret
      exact ⟨rfl, rfl⟩
  · rw [decide_eq_false (show ¬ S.has a n from fun h => i0 h.1)]
    clear HS
    go_enter Try.func25, Try.ntmps25
    go_wp2_with fail
    go_ret
    exact ⟨rfl, rfl⟩

set_option maxRecDepth 100000 in
set_option maxHeartbeats 1000000 in
theorem oZAll (w : World) {s t : Nat} {S : SpS} (h : Sp w s t S) (a n : Nat) (b : Bool) (han : a + n ≤ S.l.length) : Calls Try.prog 26 #[.pointer (some ⟨s, 0, none⟩), .int .i64 (a : Int), .int .i64 (n : Int), .bool b] w fun e w' => e = .returned (.bool (allB S.l a n b)) ∧ w = w' := by
  have hl := h.lt
  have hl2 := h.lt2
  have h1 := h.ok.n2
  obtain ⟨c, c0⟩ := h.c0
  have H : Hid (∀ i, i < S.l.length → w.cell? ⟨t, i, none⟩ = some (.bool (S.l.getD i false))) := fun i hi => h.at hi
  clear h
  have HL : Hid (a + n ≤ S.l.length) := han
  generalize S.l.length = m at *
  generalize S.l = l at *
  clear han
  go_enter Try.func26, Try.ntmps26
  go_wp2_with fail
  go_loop [11] (fun x => ∃ k : Nat, k ≤ n ∧ x = .int .i64 (k : Int) ∧ allB l a k b = true) (fun x => n - (intOf x).toNat)
  case atStart => exact ⟨0, by omega, rfl, rfl⟩
  case round =>
    obtain ⟨k, hk, rfl, hall⟩ := hrel
    have HA : Hid (allB l a k b = true) := hall
    clear hall
    by_cases hlt : k < n
    · have i1 : (k : Int) < (n : Int) := by omega
      have := HL.out
      obtain ⟨j, hj⟩ : ∃ j, j = a + k := ⟨_, rfl⟩
      have j1 : (a : Int) + (k : Int) = (j : Int) := by omega
      have j2 : (j : Int) < (m : Int) := by omega
      have j0 : (0 : Int) ≤ (j : Int) := by omega
      have j3 : (m : Int) ≤ 4096 := by omega
      have c1 := H.out j (by omega)
      have HE : Hid (allB l a (k + 1) b = (l.getD j false == b)) := by show _ = _; rw [allB_succ, HA.out, Bool.true_and, hj]
      have HM : Hid (k + 1 ≤ n) := hlt
      clear hj this
      generalize l.getD j false = x at *
      cases x <;> cases b
      · go_wp2_with fail
        go_round
        case rel => exact ⟨k + 1, by omega, by go_num, HE.out⟩
        case measure => simp [intOf]; omega
      · have HF : Hid (allB l a n true = false) := allB_mono HM.out HE.out
        go_wp2_with fail
        go_ret
        exact ⟨ret_bool (a := false) HF.out.symm, rfl⟩
      · have HF : Hid (allB l a n false = false) := allB_mono HM.out HE.out
        go_wp2_with fail
        go_ret
        exact ⟨ret_bool (a := false) HF.out.symm, rfl⟩
      · go_wp2_with fail
        go_round
        case rel => exact ⟨k + 1, by omega, by go_num, HE.out⟩
        case measure => simp [intOf]; omega
    · obtain rfl : k = n := by omega
      have i1 : ¬ (k : Int) < (k : Int) := by omega
      go_wp2
      go_ret
      exact ⟨ret_bool (a := true) HA.out.symm, rfl⟩

end Go.Proofs.Ytcmbkpdefbaakaa
