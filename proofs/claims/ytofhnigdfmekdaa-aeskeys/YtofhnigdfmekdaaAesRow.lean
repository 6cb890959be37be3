/-
  Arrays of 16 bytes, loaded and stored whole inside regions that draw their order. No condition; no statement of the seat is proved here.
-/
import Derived.Test.YtofhnigdfmekdaaAesAdd
namespace Go.Proofs.Ytofhnigdfmekdaa
open Go.RowKit

/-- The 16 cells from a place on, where they are all there. -/
def row16 (w : World) (b o : Nat) : Option (Array Value) :=
  if ∀ j, j < 16 → (w.cell? ⟨b, o + j, none⟩).isSome = true then some ((List.range 16).map fun j => (w.cell? ⟨b, o + j, none⟩).getD undef).toArray else none
def farLd16 (P : Program) (w : World) (b o : Nat) : Result Value := Sem.run P (Instr.loadAt 28 (.pointer (some ⟨b, o, none⟩))) w
theorem ld16_rule (w : World) (b o : Nat) : Sem.run Try.prog (Instr.loadAt 28 (.pointer (some ⟨b, o, none⟩))) w = match row16 w b o with | some c => .ok (.agg c) w | none => farLd16 Try.prog w b o := by
  unfold row16
  split
  · rename_i c hc
    split at hc
    · rename_i h
      simp only [Option.some.injEq] at hc
      subst hc
      refine run_loadAt_mid w b o 28 _ _ (fun j v hv => ?_) Try.underlying28 rfl (by rw [sizeK]; simp)
      have hj : j < 16 := by
        have := (List.getElem?_eq_some_iff.1 hv).1
        simpa using this
      have e := h j hj
      obtain ⟨u, hu⟩ := Option.isSome_iff_exists.1 e
      simp [hj, hu] at hv
      rw [hu, hv]
    · simp at hc
  · rfl
def ld16 (x : Value) : Sem Value := Instr.loadAt 28 x
theorem ld16_in (x : Value) : Instr.loadAt 28 x = ld16 x := rfl
theorem ld16_run (w : World) (b o : Nat) : Sem.run Try.prog (ld16 (.pointer (some ⟨b, o, none⟩))) w = match row16 w b o with | some c => .ok (.agg c) w | none => farLd16 Try.prog w b o := ld16_rule w b o
theorem row16_drew (w : World) (b o : Nat) : row16 w.drew b o = row16 w b o := rfl
theorem row16_of {w : World} {b o : Nat} {c : List Value} (h : w.rangeAt b o c) (hc : c.length = 16) : row16 w b o = some c.toArray := by
  have hs : ∀ j, j < 16 → w.cell? ⟨b, o + j, none⟩ = c[j]? := fun j hj => by
    rw [h j c[j] (List.getElem?_eq_getElem (by omega)), List.getElem?_eq_getElem]
  unfold row16
  rw [if_pos (fun j hj => by rw [hs j hj, List.getElem?_eq_getElem (by omega)]; rfl)]
  congr 2
  apply List.ext_getElem
  · simp [hc]
  · intro j h1 h2
    simp only [List.getElem_map, List.getElem_range]
    rw [hs j (by omega), List.getElem?_eq_getElem h2]
    rfl

/-- What a store of a whole array leaves. -/
def sto (w : World) (b o : Nat) (c : Array Value) : World := w.setCells b o c.toList
def okS (w : World) (b o : Nat) (c : Array Value) : Bool := decide ((∀ j : Fin 16, (w.cell? ⟨b, o + j.val, none⟩).isSome = true ∧ w.frozen? ⟨b, o + j.val, none⟩ = false) ∧ c.size = 16 ∧ c.all (·.oneCell') = true)
def farSt16 (P : Program) (w : World) (b o : Nat) (c : Array Value) : Result Unit := Sem.run P (Instr.storeAt 28 (.pointer (some ⟨b, o, none⟩)) (.agg c)) w
def st16 (x y : Value) : Sem Unit := Instr.storeAt 28 x y
theorem st16_in (x y : Value) : Instr.storeAt 28 x y = st16 x y := rfl
theorem st16_run (w : World) (b o : Nat) (c : Array Value) : Sem.run Try.prog (st16 (.pointer (some ⟨b, o, none⟩)) (.agg c)) w = match okS w b o c with | true => .ok () (sto w b o c) | false => farSt16 Try.prog w b o c := by
  split
  · rename_i h
    unfold okS at h
    obtain ⟨h1, h2, h3⟩ := of_decide_eq_true h
    exact run_storeAt_mid w b o 28 c (by rw [h2]; exact fun j hj => h1 ⟨j, hj⟩) (by rw [h2]; exact sizeK) h3
  · rfl
theorem okS_drew (w : World) (b o : Nat) (c : Array Value) : okS w.drew b o c = okS w b o c := rfl
theorem okS_of {w : World} {g : Nat} {l x : List UInt8} {t : TypeId} (b : Blk w g (cs l) t) (hl : l.length = 16) (hx : x.length = 16) : okS w g 0 (cs x).toArray = true := by
  unfold okS
  exact decide_eq_true ⟨fun j => b.there 0 16 (by rw [cs_length, hl]; omega) j.val j.isLt, by simp [cs_length, hx], all_oneCell_toArray cs_one⟩
theorem sto_blk {w : World} {g : Nat} {l x : List UInt8} {t : TypeId} (b : Blk w g (cs l) t) (hl : l.length = 16) (hx : x.length = 16) : Blk (sto w g 0 (cs x).toArray) g (cs x) t := by
  unfold sto
  exact b.setsW (cs x) (by rw [cs_length, cs_length, hl, hx])
theorem sto_other {w : World} {g k : Nat} {us : List Value} {t : TypeId} (b : Blk w k us t) (hk : k ≠ g) (c : Array Value) : Blk (sto w g 0 c) k us t := by
  unfold sto
  exact Blk.setsO hk _ b 0
theorem sto_below {B g : Nat} {a w : World} (hg : B ≤ g) (h : Below B a w) (c : Array Value) : Below B a (sto w g 0 c) := by
  unfold sto
  exact below_sets hg _ h 0

end Go.Proofs.Ytofhnigdfmekdaa
