/-
  The contract of layer 7's withoutSigns: a text without the signs behind it, two at most; with it those of the functions of Go's library that it calls, for this one sign. Condition: a text of at most 2000 bytes.
-/
import Derived.Test.YtmnlcmgkhgckcaaSixPA
import Derived.Laws.Strings3
namespace Go.Proofs.Ytmnlcmgkhgckcaa
open Go.RowKit

theorem ba_cut (s : List UInt8) (i j : Nat) : (ByteArray.mk s.toArray).extract i j = ⟨(s.extract i j).toArray⟩ := by
  apply ByteArray.ext
  simp [ByteArray.data_extract]
/-- A text without a sign behind it. -/
def signed (s : List UInt8) : Bool := decide (s.length ≠ 0 ∧ s.getD (s.length - 1) 0 = 61)
def trim1 (s : List UInt8) : List UInt8 := if signed s then s.take (s.length - 1) else s
theorem last_one (s : List UInt8) (h : s.length ≠ 0) : s.extract (s.length - 1) s.length = [s.getD (s.length - 1) 0] := by
  apply List.ext_getElem
  · simp; omega
  · intro i h1 h2
    simp at h2
    subst h2
    simp [List.getD_eq_getElem?_getD, List.getElem?_eq_getElem (show s.length - 1 < s.length from by omega)]
theorem sign_size : (ByteArray.mk #[61]).size = 1 := rfl
theorem sign_list : (ByteArray.mk #[61]).toList = [61] := str_list [61]

set_option maxRecDepth 100000 in
set_option maxHeartbeats 1000000 in
theorem oHasS (w : World) (s : List UInt8) (hz : s.length ≤ 2000) : Calls Try.prog 21 #[.string ⟨s.toArray⟩, .string ⟨#[61]⟩] w fun e w' => e = .returned (.bool (signed s)) ∧ w = w' := by
  have hs := str_size s
  by_cases h0 : s.length = 0
  · have hsg : signed s = false := by unfold signed; simp [h0]
    rw [hsg]
    rw [h0] at hs
    generalize (ByteArray.mk s.toArray) = S at *
    clear hz h0 hsg
    go_enter Try.func21, Try.ntmps21
    go_wp2_with fail
    go_ret
    exact ⟨rfl, rfl⟩
  · have hsg : signed s = ((ByteArray.mk s.toArray).extract (s.length - 1) s.length).toList.beq [61] := by
      rw [ba_cut, last_one s h0, str_list]
      unfold signed
      simp [h0, List.beq]
      rfl
    rw [hsg]
    obtain ⟨m, hm⟩ : ∃ m, m = s.length - 1 := ⟨_, rfl⟩
    have hl : s.length = m + 1 := by omega
    rw [← hm, hl]
    rw [hl] at hs hz
    generalize (ByteArray.mk s.toArray) = S at *
    clear hsg hm h0 hl
    have i1 : ((m + 1 : Nat) : Int) - 1 = (m : Int) := by omega
    have i2 : (1 : Int) ≤ ((m + 1 : Nat) : Int) := by omega
    have i3 : (0 : Int) ≤ (m : Int) := by omega
    go_enter Try.func21, Try.ntmps21
    go_wp2_with fail
    go_ret
    exact ⟨rfl, rfl⟩

theorem signed_len {s : List UInt8} (h : signed s = true) : s.length ≠ 0 := by
  unfold signed at h
  exact (of_decide_eq_true h).1
theorem take_cut (s : List UInt8) (n : Nat) : (ByteArray.mk s.toArray).extract 0 n = ⟨(s.take n).toArray⟩ := by
  rw [ba_cut]
  simp

set_option maxRecDepth 100000 in
set_option maxHeartbeats 1000000 in
theorem oTrimL (w : World) (s : List UInt8) (hz : s.length ≤ 2000) : Calls Try.prog 20 #[.string ⟨s.toArray⟩, .string ⟨#[61]⟩] w fun e w' => e = .returned (.string ⟨(trim1 s).toArray⟩) ∧ w = w' := by
  have hs := str_size s
  have CH : Hid (∀ w, Calls Try.prog 21 #[.string ⟨s.toArray⟩, .string ⟨#[61]⟩] w fun e w' => e = .returned (.bool (signed s)) ∧ w = w') := fun w => oHasS w s hz
  unfold trim1
  by_cases h : signed s = true
  · rw [if_pos h]
    rw [h] at CH
    have h0 := signed_len h
    obtain ⟨m, hm⟩ : ∃ m, m = s.length - 1 := ⟨_, rfl⟩
    have hl : s.length = m + 1 := by omega
    rw [← hm, ← take_cut]
    rw [hl] at hs hz
    generalize (ByteArray.mk s.toArray) = S at *
    clear hm h0 hl h
    have i1 : ((m + 1 : Nat) : Int) - 1 = (m : Int) := by omega
    have i3 : (0 : Int) ≤ (m : Int) := by omega
    go_enter Try.func20, Try.ntmps20
    go_wp2_with (go_at_call 21; go_must (refine (CH.out _).mono ?_); rintro e w2 ⟨rfl, rfl⟩)
    go_ret
    exact ⟨rfl, rfl⟩
  · rw [if_neg h]
    have h2 : signed s = false := by simpa using h
    rw [h2] at CH
    clear h h2
    generalize (ByteArray.mk s.toArray) = S at *
    go_enter Try.func20, Try.ntmps20
    go_wp2_with (go_at_call 21; go_must (refine (CH.out _).mono ?_); rintro e w2 ⟨rfl, rfl⟩)
    go_ret
    exact ⟨rfl, rfl⟩
set_option maxRecDepth 100000 in
theorem oTrimS (w : World) (s : List UInt8) (hz : s.length ≤ 2000) : Calls Try.prog 19 #[.string ⟨s.toArray⟩, .string ⟨#[61]⟩] w fun e w' => e = .returned (.string ⟨(trim1 s).toArray⟩) ∧ w = w' := by
  have CH : Hid (∀ w, Calls Try.prog 20 #[.string ⟨s.toArray⟩, .string ⟨#[61]⟩] w fun e w' => e = .returned (.string ⟨(trim1 s).toArray⟩) ∧ w = w') := fun w => oTrimL w s hz
  go_enter Try.func19, Try.ntmps19
  go_wp2_with (go_at_call 20; go_must (refine (CH.out _).mono ?_); rintro e w2 ⟨rfl, rfl⟩)
  go_ret
  exact ⟨rfl, rfl⟩
theorem trim1_length (s : List UInt8) : (trim1 s).length ≤ s.length := by
  unfold trim1
  split
  · simp
  · exact Nat.le_refl _
theorem getD_take {s : List UInt8} {n i : Nat} (h : i < n) : (s.take n).getD i 0 = s.getD i 0 := by
  rw [List.getD_eq_getElem?_getD, List.getD_eq_getElem?_getD, List.getElem?_take_of_lt h]
/-- Twice: as far as the signs reach. -/
theorem trim2 (s : List UInt8) : trim1 (trim1 s) = s.take (ends s) := by
  unfold ends
  by_cases h0 : s.length = 0
  · have e : s = [] := List.length_eq_zero_iff.1 h0
    subst e
    rfl
  · rw [if_neg h0]
    by_cases h1 : s.getD (s.length - 1) 0 = 61
    · have hs : signed s = true := by unfold signed; exact decide_eq_true ⟨h0, h1⟩
      have e1 : trim1 s = s.take (s.length - 1) := by unfold trim1; rw [if_pos hs]
      have l1 : (s.take (s.length - 1)).length = s.length - 1 := by simp
      rw [e1, if_pos h1]
      by_cases h2 : s.length - 1 = 0
      · rw [if_pos h2, h2]
        rfl
      · rw [if_neg h2]
        have g : (s.take (s.length - 1)).getD ((s.take (s.length - 1)).length - 1) 0 = s.getD (s.length - 2) 0 := by
          rw [l1, getD_take (by omega), show s.length - 1 - 1 = s.length - 2 from by omega]
        by_cases h3 : s.getD (s.length - 2) 0 = 61
        · rw [if_pos h3]
          have hs2 : signed (s.take (s.length - 1)) = true := by unfold signed; exact decide_eq_true ⟨by rw [l1]; exact h2, by rw [g]; exact h3⟩
          unfold trim1
          rw [if_pos hs2, l1, List.take_take]
          congr 1
          omega
        · rw [if_neg h3]
          have hs2 : signed (s.take (s.length - 1)) = false := by unfold signed; exact decide_eq_false (fun h => h3 (by rw [← g]; exact h.2))
          unfold trim1
          rw [hs2]
          rfl
    · have hs : signed s = false := by unfold signed; exact decide_eq_false (fun h => h1 h.2)
      have e1 : trim1 s = s := by unfold trim1; rw [hs]; rfl
      rw [e1, e1, if_neg h1, List.take_of_length_le (Nat.le_refl _)]
set_option maxRecDepth 100000 in
theorem oWithout (w : World) (s : List UInt8) (hz : s.length ≤ 2000) : Calls Try.prog 14 #[.string ⟨s.toArray⟩] w fun e w' => e = .returned (.string ⟨(s.take (ends s)).toArray⟩) ∧ w = w' := by
  rw [← trim2]
  have hl := trim1_length s
  have C1 : Hid (∀ w, Calls Try.prog 19 #[.string ⟨s.toArray⟩, .string ⟨#[61]⟩] w fun e w' => e = .returned (.string ⟨(trim1 s).toArray⟩) ∧ w = w') := fun w => oTrimS w s hz
  generalize trim1 s = t at *
  have C2 : Hid (∀ w, Calls Try.prog 19 #[.string ⟨t.toArray⟩, .string ⟨#[61]⟩] w fun e w' => e = .returned (.string ⟨(trim1 t).toArray⟩) ∧ w = w') := fun w => oTrimS w t (by omega)
  generalize trim1 t = u at *
  go_enter Try.func14, Try.ntmps14
  go_wp2_with fail
  refine (C1.out _).mono ?_
  rintro e w2 ⟨rfl, rfl⟩
  go_wp2_with fail
  refine (C2.out _).mono ?_
  rintro e w2 ⟨rfl, rfl⟩
  go_wp2_with fail
  go_ret
  exact ⟨rfl, rfl⟩

end Go.Proofs.Ytmnlcmgkhgckcaa
