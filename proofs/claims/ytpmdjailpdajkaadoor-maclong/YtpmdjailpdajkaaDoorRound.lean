/-
  The contract of a round of the program's sums: eight words and a number, the words behind the round. No condition.
-/
import Derived.Test.YtpmdjailpdajkaaDoorTurn
namespace Go.Proofs.YtpmdjailpdajkaaDoor
open Go.RowKit

/-- A row of words as a value. -/
def wv (l : List UInt32) : Value := .agg (ws l).toArray

theorem bgE_turns (w : World) (x : UInt32) : Calls Tryd.prog 45 #[.int .u32 (x.toNat : Int), .int .i64 6, .int .i64 11, .int .i64 25] w fun e w' => e = .returned (.int .u32 ((bgE x).toNat : Int)) ∧ w = w' :=
  oTurns w x 6 11 25 (by omega) (by omega) (by omega) (by omega) (by omega) (by omega)
theorem bgA_turns (w : World) (x : UInt32) : Calls Tryd.prog 45 #[.int .u32 (x.toNat : Int), .int .i64 2, .int .i64 13, .int .i64 22] w fun e w' => e = .returned (.int .u32 ((bgA x).toNat : Int)) ∧ w = w' :=
  oTurns w x 2 13 22 (by omega) (by omega) (by omega) (by omega) (by omega) (by omega)

theorem pick_or (e f g : UInt32) : (e &&& f) ||| ((4294967295 ^^^ e) &&& g) = pck e f g := by
  unfold pck
  apply UInt32.toBitVec_inj.1
  simp only [UInt32.toBitVec_and, UInt32.toBitVec_or, UInt32.toBitVec_xor]
  apply BitVec.eq_of_getLsbD_eq
  intro i hi
  have h1 : (UInt32.toBitVec 4294967295).getLsbD i = true := by
    have : ∀ j : Fin 32, (UInt32.toBitVec 4294967295).getLsbD j.val = true := by decide
    exact this ⟨i, hi⟩
  simp only [BitVec.getLsbD_and, BitVec.getLsbD_or, BitVec.getLsbD_xor, h1]
  cases e.toBitVec.getLsbD i <;> cases f.toBitVec.getLsbD i <;> cases g.toBitVec.getLsbD i <;> rfl

theorem most_or (a b c : UInt32) : (a &&& b) ||| (a &&& c) ||| (b &&& c) = mst a b c := by
  unfold mst
  apply UInt32.toBitVec_inj.1
  simp only [UInt32.toBitVec_and, UInt32.toBitVec_or, UInt32.toBitVec_xor]
  apply BitVec.eq_of_getLsbD_eq
  intro i hi
  simp only [BitVec.getLsbD_and, BitVec.getLsbD_or, BitVec.getLsbD_xor]
  cases a.toBitVec.getLsbD i <;> cases b.toBitVec.getLsbD i <;> cases c.toBitVec.getLsbD i <;> rfl

theorem max32 : IntKind.u32.max = (((4294967295 : UInt32)).toNat : Int) := rfl
theorem pick_code (e f g : UInt32) : bits .or .u32 (bits .and .u32 (e.toNat : Int) (f.toNat : Int)) (bits .and .u32 (bits .xor .u32 IntKind.u32.max (e.toNat : Int)) (g.toNat : Int)) = ((pck e f g).toNat : Int) := by
  rw [max32, w_xor, w_and, w_and, w_or, pick_or]
theorem most_code (a b c : UInt32) : bits .or .u32 (bits .or .u32 (bits .and .u32 (a.toNat : Int) (b.toNat : Int)) (bits .and .u32 (a.toNat : Int) (c.toNat : Int))) (bits .and .u32 (b.toNat : Int) (c.toNat : Int)) = ((mst a b c).toNat : Int) := by
  rw [w_and, w_and, w_and, w_or, w_or, most_or]

theorem round_one (a b c e f g h k : UInt32) : ((h.toNat : Int) + ((bgE e).toNat : Int) + ((pck e f g).toNat : Int) + (k.toNat : Int) + (((bgA a).toNat : Int) + ((mst a b c).toNat : Int))) % 4294967296 = ((tOne e f g h k + (bgA a + mst a b c)).toNat : Int) := by
  simp only [tOne, UInt32.toNat_add]
  omega
theorem round_five (d e f g h k : UInt32) : ((d.toNat : Int) + ((h.toNat : Int) + ((bgE e).toNat : Int) + ((pck e f g).toNat : Int) + (k.toNat : Int))) % 4294967296 = ((d + tOne e f g h k).toNat : Int) := by
  simp only [tOne, UInt32.toNat_add]
  omega

theorem below_drN {B : Nat} {a w : World} (h : Below B a w) (n : Nat) : Below B a (w.drewN n) := ⟨h.os, h.tape, h.output, h.size, h.block⟩

set_option maxHeartbeats 1000000 in
theorem oRound (w : World) (a b c d e f g z k : UInt32) :
    Calls Tryd.prog 40 #[.agg #[.int .u32 (a.toNat : Int), .int .u32 (b.toNat : Int), .int .u32 (c.toNat : Int), .int .u32 (d.toNat : Int), .int .u32 (e.toNat : Int), .int .u32 (f.toNat : Int), .int .u32 (g.toNat : Int), .int .u32 (z.toNat : Int)], .int .u32 (k.toNat : Int)] w
      fun r w' => r = .returned (wv (rnd [a, b, c, d, e, f, g, z] k)) ∧ Below w.heap.size w w' := by
  go_enter Tryd.func40, Tryd.ntmps40
  go_wp2_with fail
  go_quiet (fail)
  go_wp2_with fail
  refine (bgE_turns _ e).mono ?_
  rintro r w1 ⟨rfl, rfl⟩
  go_wp2_with fail
  refine (bgA_turns _ a).mono ?_
  rintro r w1 ⟨rfl, rfl⟩
  go_wp2_with fail
  rw [pick_code, most_code, round_one, round_five]
  refine bodyPost_ret (v := wv (rnd [a, b, c, d, e, f, g, z] k)) (by simp [results, Tryd.results40, go_sem, wv, rnd, ws]) rfl ⟨rfl, ?_⟩
  iterate 8 (refine Below.setCell ?_ (by show w.heap.size ≤ w.heap.size + 1; omega) _)
  exact below_drN (below2 w _ _) _

end Go.Proofs.YtpmdjailpdajkaaDoor
