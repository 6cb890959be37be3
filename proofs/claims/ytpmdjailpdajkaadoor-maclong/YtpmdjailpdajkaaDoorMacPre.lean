/-
  What the proofs of layer 3's statements share. No condition; no statement of the seat is proved here.
-/
import Derived.Test.YtpmdjailpdajkaaDoorWorksM
import Derived.Test.YtpmdjailpdajkaaDoorShort
import Derived.Test.YtpmdjailpdajkaaDoorOpen
import Derived.Stop.BytesEq
namespace Go.Proofs.YtpmdjailpdajkaaDoor
open Go.RowKit

theorem eqM (l : List UInt8) (h : l.length = 32) (w : World) : (Op.equalIn 10000 26 (.agg (cs l).toArray) (.agg (cs l).toArray)).run Tryd.prog w = .ok true w := by
  have := run_equalIn_bytes (P := Tryd.prog) w 9998 26 5 32 Tryd.underlying26 Tryd.underlying5 (fun w => by kernel_rfl) l l h h
  rw [beq_self_eq_true] at this
  exact this
theorem rJoinG (w : World) {a : Option Addr} {n c : Nat} {ls : List (List UInt8)} (ha : Bss w a n c ls) (hz : tot ls ≤ 100000) :
    Calls Tryd.prog 12 #[.slice a n c] w fun e w' => ∃ a m c, e = .returned (.slice a m c) ∧ Bs w' a m c ls.flatten ∧ Below w.heap.size w w' := by
  refine (rJoin w ha hz).mono ?_
  rintro e w' ⟨a, m, c, rfl, ho, hb⟩
  exact ⟨a, m, c, rfl, ho.toBs, hb⟩

theorem expOne (w : World) (hK : Kon w) {a b : Option Addr} {n c m q : Nat} {l t : List UInt8} (ha : Bs w a n c l) (hz : n ≤ 90000) (k : Nat) (hk : k ≤ 8160) (hb : Bs w b m q t) (hm : m ≤ 80000) :
    Calls Tryd.prog 14 #[.slice a n c, .int .i64 (k : Int), .slice (some ⟨w.heap.size, 0, none⟩) 1 1] (w.alloc (.cells #[.slice b m q] 22)) fun e w' => ∃ a' c', e = .returned (.slice a' k c') ∧ Bs w' a' k c' (expL l t k) ∧ Below w.heap.size w w' := by
  have hb' := below_alloc w (.cells #[.slice b m q] 22)
  have := oExpandL _ (hK.below hb' hK.lt) (ha.below hb' (Nat.le_refl _)) hz k hk (Bss.one1 hb) (by omega) (by have := hb.len; simp [tot]; omega)
  refine this.mono ?_
  rintro e w' ⟨a', c', rfl, hB, hb2⟩
  rw [show ([t] : List (List UInt8)).flatten = t from by simp] at hB
  exact ⟨a', c', rfl, hB, hb'.trans (hb2.mono hb'.size)⟩

end Go.Proofs.YtpmdjailpdajkaaDoor
