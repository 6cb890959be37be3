/-
  'string(b)' of bytes of the call's own. No condition; no statement of the seat is proved here.
-/
import Derived.Test.YtmnlcmgkhgckcaaStepApp
import Derived.Laws.BytesArg
import Derived.Laws.IdiomStrings
namespace Go.Proofs.Ytmnlcmgkhgckcaa
open Go.RowKit

theorem Own.shape {w : World} {base : Nat} {v : Value} {l : List UInt8} (h : Own w base v l) : ∃ a m c, v = .slice a m c ∧ (a = none ∨ ∃ g, a = some ⟨g, 0, none⟩) := by
  obtain ⟨_, h2⟩ := h
  rcases h2 with ⟨rfl, _⟩ | ⟨g, cap, cur, rfl, _⟩
  · exact ⟨none, 0, 0, rfl, Or.inl rfl⟩
  · exact ⟨_, _, cap, rfl, Or.inr ⟨g, rfl⟩⟩

/-- 'string(b)' of bytes of the call's own. -/
theorem Own.str {w : World} {base : Nat} {a : Option Addr} {m c : Nat} {l : List UInt8} (h : Own w base (.slice a m c) l) : Sem.run Try.prog (convert 22 9 (.slice a m c)) w = .ok (.string ⟨l.toArray⟩) w := by
  have hb := h.toBs
  obtain ⟨a', m', c', e, hs⟩ := h.shape
  simp only [Value.slice.injEq] at e
  obtain ⟨rfl, rfl, rfl⟩ := e
  rcases hs with rfl | ⟨g, rfl⟩
  · have hc := hb.2.2.2.1 rfl
    have hcap := hb.cap
    have e : l = [] := List.length_eq_zero_iff.1 (by rw [hb.len]; omega)
    subst e
    rw [run_convert_bytes_nil w 22 5 Try.underlying22 Try.underlying5 m c 9 Try.underlying9]
    rfl
  · rw [run_convert_bytes_arg w 22 5 Try.underlying22 Try.underlying5 g 0 m c (l.map fun x => (x.toNat : Int)) (by simp [hb.len]) ?_ 9 Try.underlying9]
    · have e : strOfNums (l.map fun x => (x.toNat : Int)) = ⟨l.toArray⟩ := by
        unfold strOfNums
        simp [Function.comp_def]
      rw [e]
    · intro i hi
      obtain ⟨b, o, ha, hc⟩ := hb.2.2.2.2 i hi
      simp at ha
      obtain ⟨rfl, rfl⟩ := ha
      rw [hc]
      have hi' : i < l.length := by rw [hb.len]; exact hi
      rw [bt_of_lt hi']
      simp [List.getD_eq_getElem?_getD, hi']
theorem ret_str {A B : List UInt8} (h : A = B) : Ending.returned (.string ⟨A.toArray⟩) = .returned (.string ⟨B.toArray⟩) := by rw [h]

end Go.Proofs.Ytmnlcmgkhgckcaa
