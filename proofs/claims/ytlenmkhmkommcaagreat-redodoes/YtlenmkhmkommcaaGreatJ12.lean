/-
  8 texts in one. No statement of the seat is proved here.
-/
import Derived.Test.YtlenmkhmkommcaaGreatJ11
import Derived.Deep.RegionWith
import Derived.Deep.RegionHeld3
import Derived.Deep.DrawnRows
/-
  Arrays of 16 bytes: their size, what is cut out of them. No condition; no statement of the seat is proved here.
-/
namespace Go.Proofs.YtlenmkhmkommcaaGreat
open Go.RowKit

theorem sizeK : (Tryz.prog.info? 204).map (·.size) = some 16 := by kernel_rfl
abbrev z16 : Array Value := #[.int .u8 0, .int .u8 0, .int .u8 0, .int .u8 0, .int .u8 0, .int .u8 0, .int .u8 0, .int .u8 0, .int .u8 0, .int .u8 0, .int .u8 0, .int .u8 0, .int .u8 0, .int .u8 0, .int .u8 0, .int .u8 0]
end Go.Proofs.YtlenmkhmkommcaaGreat

/-
  The contracts of 'doubled', 'RotateLeft8' and 'bent'. No condition but that bytes are turned by 1 to 7.
-/
namespace Go.Proofs.YtlenmkhmkommcaaGreat
open Go.RowKit

end Go.Proofs.YtlenmkhmkommcaaGreat

/-
  The contracts of 'powersOfThree' and 'inverses'. No condition.
-/
namespace Go.Proofs.YtlenmkhmkommcaaGreat
open Go.RowKit

/-- So many noughts as cells, a name of its own. -/
def zarr (n : Nat) : Array Value := (cs (List.replicate n 0)).toArray
theorem zeroP : Tryz.zeroCells174 = zarr 255 := by kernel_rfl
theorem zeroB : Tryz.zeroCells138 = zarr 256 := by kernel_rfl
attribute [local go_sem] zeroP zeroB

end Go.Proofs.YtlenmkhmkommcaaGreat

/-
  The box by the powers of three is the box by its definition, at all bytes (reckoned by the kernel). No condition; nothing of the program.
-/
namespace Go.Proofs.YtlenmkhmkommcaaGreat
open Go.RowKit

end Go.Proofs.YtlenmkhmkommcaaGreat

/-
  The contracts of 'Build' and 'Box'. No condition but that the tables lie where the pointer leads.
-/
namespace Go.Proofs.YtlenmkhmkommcaaGreat
open Go.RowKit

/-- The tables, behind so many bytes. -/
def tabs (i j : Nat) : List UInt8 := fill boxT 256 i ++ fill twT 256 j
/-- The tables lie at the head of block g. -/
def Tab (w : World) (g : Nat) : Prop := w.rangeAt g 0 (cs tabT)
theorem Tab.box {w : World} {g : Nat} (h : Tab w g) (x : UInt8) : w.cell? ⟨g, x.toNat, none⟩ = some (.int .u8 ((box x).toNat : Int)) := by
  have hx := b_lt x
  have := h x.toNat _ (cs_get (by rw [tabT_length]; omega))
  rw [Nat.zero_add, tab_box] at this
  exact this
theorem Tab.lt {w : World} {g : Nat} (h : Tab w g) : g < w.heap.size := lt_of_cell (h.box 0)
theorem Tab.below {w w' : World} {g : Nat} (h : Tab w g) {B : Nat} (hb : Below B w w') (hB : g < B) : Tab w' g := fun j v hv => by
  rw [hb.cell (p := ⟨g, 0 + j, none⟩) hB]
  exact h j v hv
theorem Blk.tab {w : World} {g : Nat} {t : TypeId} (h : Blk w g (cs tabT) t) : Tab w g := h.whole

end Go.Proofs.YtlenmkhmkommcaaGreat

/-
  The contracts of 'added' and 'shifted'. Conditions: blocks of 16 bytes; the tables lie where the pointer leads.
-/
namespace Go.Proofs.YtlenmkhmkommcaaGreat
open Go.RowKit
attribute [local go_sem ↓] Go.wp_at_zero Go.wp_at_succ


end Go.Proofs.YtlenmkhmkommcaaGreat

/-
  The contract of 'mixed': a block with each of its columns mixed. Conditions: a block of 16 bytes; the tables lie where the pointer leads.
-/
namespace Go.Proofs.YtlenmkhmkommcaaGreat
open Go.RowKit
attribute [local go_sem ↓] Go.wp_at_zero Go.wp_at_succ

end Go.Proofs.YtlenmkhmkommcaaGreat

/-
  Arrays of 16 bytes, loaded and stored whole inside regions that draw their order. No condition; no statement of the seat is proved here.
-/
namespace Go.Proofs.YtlenmkhmkommcaaGreat
open Go.RowKit

/-- The 16 cells from a place on, where they are all there. -/
def row16 (w : World) (b o : Nat) : Option (Array Value) :=
  if ∀ j, j < 16 → (w.cell? ⟨b, o + j, none⟩).isSome = true then some ((List.range 16).map fun j => (w.cell? ⟨b, o + j, none⟩).getD undef).toArray else none
def farLd16 (P : Program) (w : World) (b o : Nat) : Result Value := Sem.run P (Instr.loadAt 204 (.pointer (some ⟨b, o, none⟩))) w
theorem ld16_rule (w : World) (b o : Nat) : Sem.run Tryz.prog (Instr.loadAt 204 (.pointer (some ⟨b, o, none⟩))) w = match row16 w b o with | some c => .ok (.agg c) w | none => farLd16 Tryz.prog w b o := by
  unfold row16
  split
  · rename_i c hc
    split at hc
    · rename_i h
      simp only [Option.some.injEq] at hc
      subst hc
      refine run_loadAt_mid w b o 204 _ _ (fun j v hv => ?_) Tryz.underlying204 rfl (by rw [sizeK]; simp)
      have hj : j < 16 := by
        have := (List.getElem?_eq_some_iff.1 hv).1
        simpa using this
      have e := h j hj
      obtain ⟨u, hu⟩ := Option.isSome_iff_exists.1 e
      simp [hj, hu] at hv
      rw [hu, hv]
    · simp at hc
  · rfl
def ld16 (x : Value) : Sem Value := Instr.loadAt 204 x
theorem ld16_in (x : Value) : Instr.loadAt 204 x = ld16 x := rfl
theorem ld16_run (w : World) (b o : Nat) : Sem.run Tryz.prog (ld16 (.pointer (some ⟨b, o, none⟩))) w = match row16 w b o with | some c => .ok (.agg c) w | none => farLd16 Tryz.prog w b o := ld16_rule w b o
theorem row16_drew (w : World) (b o : Nat) : row16 w.drew b o = row16 w b o := rfl
/-- What a store of a whole array leaves. -/
def sto (w : World) (b o : Nat) (c : Array Value) : World := w.setCells b o c.toList
def okS (w : World) (b o : Nat) (c : Array Value) : Bool := decide ((∀ j : Fin 16, (w.cell? ⟨b, o + j.val, none⟩).isSome = true ∧ w.frozen? ⟨b, o + j.val, none⟩ = false) ∧ c.size = 16 ∧ c.all (·.oneCell') = true)
def farSt16 (P : Program) (w : World) (b o : Nat) (c : Array Value) : Result Unit := Sem.run P (Instr.storeAt 204 (.pointer (some ⟨b, o, none⟩)) (.agg c)) w
def st16 (x y : Value) : Sem Unit := Instr.storeAt 204 x y
theorem st16_in (x y : Value) : Instr.storeAt 204 x y = st16 x y := rfl
theorem st16_run (w : World) (b o : Nat) (c : Array Value) : Sem.run Tryz.prog (st16 (.pointer (some ⟨b, o, none⟩)) (.agg c)) w = match okS w b o c with | true => .ok () (sto w b o c) | false => farSt16 Tryz.prog w b o c := by
  split
  · rename_i h
    unfold okS at h
    obtain ⟨h1, h2, h3⟩ := of_decide_eq_true h
    exact run_storeAt_mid w b o 204 c (by rw [h2]; exact fun j hj => h1 ⟨j, hj⟩) (by rw [h2]; exact sizeK) h3
  · rfl
theorem okS_drew (w : World) (b o : Nat) (c : Array Value) : okS w.drew b o c = okS w b o c := rfl
end Go.Proofs.YtlenmkhmkommcaaGreat
