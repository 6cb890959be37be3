/-
  Two rows of bytes held against each other: the library's Compare; plain mathematics of that order. No condition; no statement of the seat is proved here.
-/
import Derived.Test.YtphkkbkfioaikaaPlain
import Derived.Lib.BytesEntry
import Derived.Laws.Externs
namespace Go.Proofs.Ytphkkbkfioaikaa
open Go.RowKit

theorem cb_neg : ∀ a b : List UInt8, Lib.compareBytes b a = - Lib.compareBytes a b
  | [], [] => rfl
  | [], _ :: _ => rfl
  | _ :: _, [] => rfl
  | x :: a, y :: b => by
    have ih := cb_neg a b
    simp only [Lib.compareBytes, UInt8.lt_iff_toNat_lt]
    by_cases h1 : x.toNat < y.toNat
    · rw [if_neg (by omega), if_pos h1, if_pos h1]
      rfl
    · by_cases h2 : y.toNat < x.toNat
      · rw [if_pos h2, if_neg h1, if_pos h2]
      · rw [if_neg h2, if_neg h1, if_neg h1, if_neg h2]
        exact ih
theorem cb_zero : ∀ a b : List UInt8, Lib.compareBytes a b = 0 ↔ a = b
  | [], [] => by simp [Lib.compareBytes]
  | [], _ :: _ => by simp [Lib.compareBytes]
  | _ :: _, [] => by simp [Lib.compareBytes]
  | x :: a, y :: b => by
    have ih := cb_zero a b
    simp only [Lib.compareBytes, UInt8.lt_iff_toNat_lt, List.cons.injEq, ← UInt8.toNat_inj]
    by_cases h1 : x.toNat < y.toNat
    · rw [if_pos h1]
      omega
    · by_cases h2 : y.toNat < x.toNat
      · rw [if_neg h1, if_pos h2]
        omega
      · rw [if_neg h1, if_neg h2, ih]
        constructor
        · exact fun h => ⟨by omega, h⟩
        · exact fun h => h.2
/-- Of three rows. -/
theorem cb_three : ∀ a b c : List UInt8, (Lib.compareBytes a b ≤ 0 → Lib.compareBytes b c ≤ 0 → Lib.compareBytes a c ≤ 0) ∧ (Lib.compareBytes a b < 0 → Lib.compareBytes b c ≤ 0 → Lib.compareBytes a c < 0)
  | [], b, [] => by cases b <;> simp [Lib.compareBytes]
  | [], b, _ :: _ => by cases b <;> simp [Lib.compareBytes]
  | _ :: _, [], _ => by simp [Lib.compareBytes]
  | _ :: _, _ :: _, [] => by simp [Lib.compareBytes]
  | x :: a, y :: b, z :: c => by
    obtain ⟨i1, i2⟩ := cb_three a b c
    simp only [Lib.compareBytes, UInt8.lt_iff_toNat_lt]
    by_cases h1 : x.toNat < y.toNat
    · rw [if_pos h1]
      by_cases h3 : y.toNat < z.toNat
      · rw [if_pos h3, if_pos (by omega)]
        exact ⟨fun _ _ => by decide, fun _ _ => by decide⟩
      · rw [if_neg h3]
        by_cases h4 : z.toNat < y.toNat
        · rw [if_pos h4]
          exact ⟨fun _ h => absurd h (by decide), fun _ h => absurd h (by decide)⟩
        · rw [if_neg h4, if_pos (by omega)]
          exact ⟨fun _ _ => by decide, fun _ _ => by decide⟩
    · rw [if_neg h1]
      by_cases h2 : y.toNat < x.toNat
      · rw [if_pos h2]
        exact ⟨fun h => absurd h (by decide), fun h => absurd h (by decide)⟩
      · rw [if_neg h2]
        by_cases h3 : y.toNat < z.toNat
        · rw [if_pos h3, if_pos (by omega)]
          exact ⟨fun _ _ => by decide, fun _ _ => by decide⟩
        · rw [if_neg h3]
          by_cases h4 : z.toNat < y.toNat
          · rw [if_pos h4]
            exact ⟨fun _ h => absurd h (by decide), fun _ h => absurd h (by decide)⟩
          · rw [if_neg h4, if_neg (by omega), if_neg (by omega)]
            exact ⟨i1, i2⟩

theorem bytes_run {w : World} {a : Option Addr} {n c : Nat} {l : List UInt8} (h : Bs w a n c l) : Sem.run Try.prog (Extern.Bytes.bytesOf (.slice a n c)) w = .ok ⟨l.toArray⟩ w := by
  have hl := h.len
  have hc := h.cap
  cases a with
  | none =>
    have h0 := h.2.2.2.1 rfl
    have e : l = [] := List.length_eq_zero_iff.1 (by omega)
    subst e
    rfl
  | some ad =>
    have hr := Lib.run_loadBytesX (P := Try.prog) w (l.map fun x => (x.toNat : Int)) ad .empty (fun j x hj => by
      rw [List.getElem?_map] at hj
      cases hx : l[j]? with
      | none => rw [hx] at hj; simp at hj
      | some u =>
        rw [hx] at hj
        simp only [Option.map_some, Option.some.injEq] at hj
        subst hj
        have hjl := (List.getElem?_eq_some_iff.1 hx).1
        obtain ⟨b, o, ha, hcell⟩ := h.2.2.2.2 j (by omega)
        obtain rfl := Option.some.inj ha
        have e : (Addr.add ⟨b, o, none⟩ j) = ⟨b, o + j, none⟩ := by
          unfold Addr.add
          split
          · subst_vars; rfl
          · rfl
        rw [e, hcell]
        unfold bt
        rw [List.getD_eq_getElem?_getD, hx]
        rfl)
    rw [List.length_map, hl] at hr
    have e2 : Lib.bytesOf (l.map fun x => (x.toNat : Int)) = l := by
      unfold Lib.bytesOf
      rw [List.map_map]
      conv => rhs; rw [← List.map_id l]
      congr 1
      funext x
      simp
    rw [e2] at hr
    have e3 : (⟨ByteArray.empty.data ++ l.toArray⟩ : ByteArray) = ⟨l.toArray⟩ := by
      apply ByteArray.ext
      show (#[] : Array UInt8) ++ l.toArray = l.toArray
      simp
    rw [e3] at hr
    exact hr
theorem run_compare (w : World) {a b : Option Addr} {n c n' c' : Nat} {l m : List UInt8} (ha : Bs w a n c l) (hb : Bs w b n' c' m) :
    Sem.run Try.prog (callFunc 25 #[.slice a n c, .slice b n' c']) w = .ok (.value (.int .i64 (Lib.compareBytes l m))) w := by
  rw [run_callFunc_extern Try.func25 (by kernel_rfl) (by kernel_rfl) (by kernel_rfl) (e := Extern.BytealgCompare.compare) (by kernel_rfl)]
  change Result.andThen (Sem.run Try.prog (do pure (goInt (Extern.BytealgCompare.cmp (← Extern.Bytes.bytesOf (.slice a n c)) (← Extern.Bytes.bytesOf (.slice b n' c'))))) w) _ = _
  simp only [Sem.run_bind, bytes_run ha, bytes_run hb, Result.andThen, Sem.run_pure]
  rw [Lib.cmp_eq]
  rfl
theorem oCompare (w : World) {a b : Option Addr} {n c n' c' : Nat} {l m : List UInt8} (ha : Bs w a n c l) (hb : Bs w b n' c' m) :
    Calls Try.prog 20 #[.slice a n c, .slice b n' c'] w fun e w' => e = .returned (.int .i64 (Lib.compareBytes l m)) ∧ w' = w := by
  have hr := run_compare w ha hb
  generalize Lib.compareBytes l m = r at *
  go_enter Try.func20, Try.ntmps20
  go_wp2_with fail
  go_ret
  exact ⟨rfl, rfl⟩

end Go.Proofs.Ytphkkbkfioaikaa
