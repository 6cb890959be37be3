/-
  What the proof of layer 2's statement on parts needs besides. No condition; no statement of the seat is proved here.
-/
import Derived.Test.YtbebhkoegebojaaDoorShaPre
import Derived.Test.YtbebhkoegebojaaDoorShort
import Derived.Stop.BytesEq
namespace Go.Proofs.YtbebhkoegebojaaDoor
open Go.RowKit

theorem Bs.butP {w w' : World} {r : Nat} {a : Option Addr} {n c : Nat} {l : List UInt8} (h : Bs w a n c l) (hg : w.grownBy w' (some r)) (hr : 0 < n → ∀ x, a = some x → x.block ≠ r) : Bs w' a n c l := by
  by_cases hn : 0 < n
  · exact h.but hg (hr hn)
  · exact ⟨h.1, h.2.1, h.2.2.1, h.2.2.2.1, fun i hi => by omega⟩
theorem rSumV (w : World) {base : Nat} {v : Value} {l : List UInt8} (h : Own w base v l) (hz : l.length ≤ 100000) : Calls Tryd.prog 9 #[v] w (Gives w (sumL l)) := by
  obtain ⟨a, c, rfl, hB⟩ := h.bs
  exact rSum w hB hz
theorem oSumV (w : World) (hK : Kon w) (r : Nat) (m : List UInt8) (hS : Sta w r m) (hm : m.length ≤ 1000000) :
    Calls Tryd.prog 13 #[.pointer (some ⟨r, 0, none⟩)] w fun e w' => e = .returned (.agg (cs (sumL m)).toArray) ∧ Below w.heap.size w w' := oSum w hK r m hS hm
theorem oOfV (w : World) (hK : Kon w) {a : Option Addr} {n c : Nat} {ls : List (List UInt8)} (ha : Bss w a n c ls) (hz : tot ls ≤ 100000) :
    Calls Tryd.prog 7 #[.slice a n c] w fun e w' => e = .returned (.agg (cs (sumL ls.flatten)).toArray) ∧ Below w.heap.size w w' := oOf w hK ha hz
theorem eq24 (l : List UInt8) (w : World) : (Op.equalIn 10000 24 (.agg (cs (sumL l)).toArray) (.agg (cs (sumL l)).toArray)).run Tryd.prog w = .ok true w := by
  have := run_equalIn_bytes (P := Tryd.prog) w 9998 24 5 32 Tryd.underlying24 Tryd.underlying5 (fun w => by kernel_rfl) (sumL l) (sumL l) (sumL_length l) (sumL_length l)
  rw [beq_self_eq_true] at this
  exact this
theorem Blk.rng {w : World} {g : Nat} {vs : List Value} {t : TypeId} (h : Blk w g vs t) : w.rangeAt g 0 vs := h.whole

/-- The 32 cells from a place on, where they are all there. -/
noncomputable def row32 (w : World) (b o : Nat) : Option (Array Value) :=
  if ∀ j, j < 32 → (w.cell? ⟨b, o + j, none⟩).isSome = true then some ((List.range 32).map fun j => (w.cell? ⟨b, o + j, none⟩).getD undef).toArray else none
noncomputable def farLd32 (w : World) (b o : Nat) : Result Value := Sem.run Tryd.prog (Instr.loadAt 24 (.pointer (some ⟨b, o, none⟩))) w
theorem ld32_rule (w : World) (b o : Nat) : Sem.run Tryd.prog (Instr.loadAt 24 (.pointer (some ⟨b, o, none⟩))) w = match row32 w b o with | some c => .ok (.agg c) w | none => farLd32 w b o := by
  unfold row32
  split
  · rename_i c hc
    split at hc
    · rename_i h
      simp only [Option.some.injEq] at hc
      subst hc
      refine run_loadAt_mid w b o 24 _ _ (fun j v hv => ?_) Tryd.underlying24 rfl (by rw [size24]; simp)
      have hj : j < 32 := by
        have := (List.getElem?_eq_some_iff.1 hv).1
        simpa using this
      have e := h j hj
      obtain ⟨u, hu⟩ := Option.isSome_iff_exists.1 e
      simp [hj, hu] at hv
      rw [hu, hv]
    · simp at hc
  · rfl
noncomputable def ld24 (x : Value) : Sem Value := Instr.loadAt 24 x
theorem ld24_in (x : Value) : Instr.loadAt 24 x = ld24 x := rfl
theorem ld24_run (w : World) (b o : Nat) : Sem.run Tryd.prog (ld24 (.pointer (some ⟨b, o, none⟩))) w = match row32 w b o with | some c => .ok (.agg c) w | none => farLd32 w b o := ld32_rule w b o
theorem row32_drew (w : World) (b o : Nat) : row32 w.drew b o = row32 w b o := rfl
theorem row32_of {w : World} {b o : Nat} {c : List Value} (h : w.rangeAt b o c) (hc : c.length = 32) : row32 w b o = some c.toArray := by
  have hs : ∀ j, j < 32 → w.cell? ⟨b, o + j, none⟩ = c[j]? := fun j hj => by
    rw [h j c[j] (List.getElem?_eq_getElem (by omega)), List.getElem?_eq_getElem]
  unfold row32
  rw [if_pos (fun j hj => by rw [hs j hj, List.getElem?_eq_getElem (by omega)]; rfl)]
  congr 2
  apply List.ext_getElem
  · simp [hc]
  · intro j h1 h2
    simp only [List.getElem_map, List.getElem_range]
    rw [hs j (by omega), List.getElem?_eq_getElem h2]
    rfl

end Go.Proofs.YtbebhkoegebojaaDoor
