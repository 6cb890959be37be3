/-
  Rows of bytes that are filled one by one, as cells. No condition; nothing of the program.
-/
import Derived.Test.YtofhnigdfmekdaaBlk
namespace Go.Proofs.Ytofhnigdfmekdaa
open Go.RowKit

/-- The first k bytes of L, noughts behind, n in all. -/
def fill (L : List UInt8) (n k : Nat) : List UInt8 := L.take k ++ List.replicate (n - k) 0
theorem fill_length {L : List UInt8} {n k : Nat} (hL : L.length = n) (hk : k ≤ n) : (fill L n k).length = n := by simp [fill]; omega
theorem fill_set {L : List UInt8} {n k : Nat} (hL : L.length = n) (hk : k < n) : (fill L n k).set k (L.getD k 0) = fill L n (k + 1) := by
  have hl : (L.take k).length = k := by simp; omega
  unfold fill
  rw [List.set_append_right _ _ (by omega), hl, Nat.sub_self, take_snoc (by omega), List.append_assoc]
  congr 1
  rw [show n - k = (n - (k + 1)) + 1 from by omega, List.replicate_succ, List.set_cons_zero, List.getD_eq_getElem?_getD, List.getElem?_eq_getElem (by omega)]
  rfl
theorem fill_end {L : List UInt8} {n : Nat} (hL : L.length = n) : fill L n n = L := by
  simp [fill, ← hL]
theorem fill_zero (L : List UInt8) (n : Nat) : fill L n 0 = List.replicate n 0 := by simp [fill]
theorem cs_set (l : List UInt8) (k : Nat) (x : UInt8) : (cs l).set k (.int .u8 (x.toNat : Int)) = cs (l.set k x) := by simp [cs, List.map_set]
theorem cs_at {l : List UInt8} {k : Nat} (h : k < l.length) : (cs l)[k]? = some (.int .u8 ((l.getD k 0).toNat : Int)) := cs_get h
theorem Blk.at8 {w : World} {g : Nat} {l : List UInt8} {t : TypeId} (h : Blk w g (cs l) t) {k : Nat} (hk : k < l.length) : w.cell? ⟨g, k, none⟩ = some (.int .u8 ((l.getD k 0).toNat : Int)) := by
  rw [h.cell, cs_at hk]
theorem Blk.set8 {w : World} {g : Nat} {l : List UInt8} {t : TypeId} (h : Blk w g (cs l) t) (k : Nat) (x : UInt8) : Blk (w.setCell ⟨g, k, none⟩ (.int .u8 (x.toNat : Int))) g (cs (l.set k x)) t := by
  have := h.setC k (.int .u8 (x.toNat : Int))
  rw [cs_set] at this
  exact this

end Go.Proofs.Ytofhnigdfmekdaa
