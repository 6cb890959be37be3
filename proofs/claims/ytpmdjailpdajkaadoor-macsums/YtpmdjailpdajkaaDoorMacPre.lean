/-
  What the proofs of layer 3's statements share. No condition; no statement of the seat is proved here.
-/
import Derived.Test.YtpmdjailpdajkaaDoorWorksM
import Derived.Test.YtpmdjailpdajkaaDoorShort
import Derived.Test.YtpmdjailpdajkaaDoorOpen
import Derived.Stop.BytesEq
namespace Go.Proofs.YtpmdjailpdajkaaDoor
open Go.RowKit

theorem eqM (l : List UInt8) (h : l.length = 32) (w : World) : (Op.equalIn 10000 26 (.agg (cs l).toArray) (.agg (cs l).toArray)).run Tryd.prog w = .ok true w := by
  have := run_equalIn_bytes (P := Tryd.prog) w 9998 26 5 32 Tryd.underlying26 Tryd.underlying5 (fun w => by kernel_rfl) l l h h
  rw [beq_self_eq_true] at this
  exact this
theorem rJoinG (w : World) {a : Option Addr} {n c : Nat} {ls : List (List UInt8)} (ha : Bss w a n c ls) (hz : tot ls ≤ 100000) :
    Calls Tryd.prog 12 #[.slice a n c] w fun e w' => ∃ a m c, e = .returned (.slice a m c) ∧ Bs w' a m c ls.flatten ∧ Below w.heap.size w w' := by
  refine (rJoin w ha hz).mono ?_
  rintro e w' ⟨a, m, c, rfl, ho, hb⟩
  exact ⟨a, m, c, rfl, ho.toBs, hb⟩

end Go.Proofs.YtpmdjailpdajkaaDoor
