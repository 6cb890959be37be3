/-
  Elements as the program's values: two words in a struct. The contracts of Add and Zero. No condition.
-/
import Derived.Test.YtfgoomlgmepalaaFieldW
import Derived.Test.YtfgoomlgmepalaaBlk
namespace Go.Proofs.Ytfgoomlgmepalaa
open Go.RowKit

/-- The words as numbers. -/
def hN (a : Fe) : Nat := (hB a).toNat
def lN (a : Fe) : Nat := (lB a).toNat
theorem hN_lt (a : Fe) : hN a < 18446744073709551616 := (hB a).isLt
theorem lN_lt (a : Fe) : lN a < 18446744073709551616 := (lB a).isLt
theorem hN_xor (a b : Fe) : hN (a ^^^ b) = hN a ^^^ hN b := by unfold hN; rw [hB_xor, BitVec.toNat_xor]
theorem lN_xor (a b : Fe) : lN (a ^^^ b) = lN a ^^^ lN b := by unfold lN; rw [lB_xor, BitVec.toNat_xor]
theorem hN_add (a b : Fe) : bits .xor .u64 (hN a : Int) (hN b : Int) = (hN (a ^^^ b) : Int) := by
  rw [u64_xor_nat _ _ (hN_lt a) (hN_lt b), hN_xor]
theorem lN_add (a b : Fe) : bits .xor .u64 (lN a : Int) (lN b : Int) = (lN (a ^^^ b) : Int) := by
  rw [u64_xor_nat _ _ (lN_lt a) (lN_lt b), lN_xor]
theorem N_ext {a b : Fe} (h : hN a = hN b) (l : lN a = lN b) : a = b := words_ext (BitVec.eq_of_toNat_eq h) (BitVec.eq_of_toNat_eq l)

/-- An element as a value. -/
def ev (a : Fe) : Value := .agg #[.int .u64 (hN a : Int), .int .u64 (lN a : Int)]

set_option maxHeartbeats 400000 in
theorem oAddE (w : World) (a b : Fe) : Calls Try.prog 16 #[ev a, ev b] w fun e w' => e = .returned (ev (a ^^^ b)) ∧ Below w.heap.size w w' := by
  unfold ev
  have e1 := hN_add a b
  have e2 := lN_add a b
  generalize hN a = x1 at *
  generalize hN b = x2 at *
  generalize lN a = y1 at *
  generalize lN b = y2 at *
  generalize hN (a ^^^ b) = x3 at *
  generalize lN (a ^^^ b) = y3 at *
  go_enter Try.func16, Try.ntmps16
  go_wp2
  refine bodyPost_ret (v := .agg #[.int .u64 (x3 : Int), .int .u64 (y3 : Int)]) (by simp [results, Try.results16, go_sem]) rfl ⟨rfl, below3 _ _ _ _⟩

theorem ev_zero : ev 0 = .agg #[.int .u64 0, .int .u64 0] := by
  unfold ev hN lN
  rw [hB_zero, lB_zero]
  rfl
theorem zero_iff (a : Fe) : a = 0 ↔ hN a = 0 ∧ lN a = 0 := by
  constructor
  · rintro rfl
    unfold hN lN
    rw [hB_zero, lB_zero]
    exact ⟨rfl, rfl⟩
  · rintro ⟨h, l⟩
    refine N_ext ?_ ?_
    · rw [h]; unfold hN; rw [hB_zero]; rfl
    · rw [l]; unfold lN; rw [lB_zero]; rfl
set_option maxHeartbeats 400000 in
theorem oZeroE (w : World) (a : Fe) : Calls Try.prog 21 #[ev a] w fun e w' => e = .returned (.bool (decide (a = 0))) ∧ Below w.heap.size w w' := by
  unfold ev
  have H : Hid (a = 0 ↔ hN a = 0 ∧ lN a = 0) := zero_iff a
  generalize hN a = x1 at *
  generalize lN a = y1 at *
  obtain ⟨p, hp⟩ : ∃ p, p = decide (a = 0) := ⟨_, rfl⟩
  rw [← hp]
  have HP : Hid (p = decide (a = 0)) := hp
  clear hp
  go_enter Try.func21, Try.ntmps21
  go_wp2
  all_goals
    go_ret
    refine ⟨ret_bool ?_, below_alloc _ _⟩
    rw [HP.out]
    have := H.out
    simp_all

theorem w_xor (x y : BitVec 64) : bits .xor .u64 (x.toNat : Int) (y.toNat : Int) = ((x ^^^ y).toNat : Int) := by
  rw [u64_xor_nat _ _ x.isLt y.isLt, BitVec.toNat_xor]
theorem w_shr (x : BitVec 64) (k : Nat) (d : Int) (hd : d = ((2 ^ k : Nat) : Int)) : (x.toNat : Int) / d = ((x >>> k).toNat : Int) := by
  rw [BitVec.toNat_ushiftRight, Nat.shiftRight_eq_div_pow, hd, Int.natCast_ediv]
theorem w_shl (x : BitVec 64) (k : Nat) (d : Int) (hd : d = ((2 ^ k : Nat) : Int)) : IntKind.u64.wrap ((x.toNat : Int) * d) = ((x <<< k).toNat : Int) := by
  rw [BitVec.toNat_shiftLeft, Nat.shiftLeft_eq, hd, IntKind.wrap_u64, Int.natCast_emod, Int.natCast_mul]
  rfl
theorem rs_h (k : Nat) (dk ds : Int) (hk : dk = ((2 ^ k : Nat) : Int)) (hs : ds = ((2 ^ (64 - k) : Nat) : Int)) (h l : BitVec 64) :
    bits .xor .u64 (bits .xor .u64 (bits .xor .u64 (bits .xor .u64 ((h.toNat : Int) / dk) (IntKind.u64.wrap ((l.toNat : Int) * ds))) (IntKind.u64.wrap ((l.toNat : Int) * ds) / 2)) (IntKind.u64.wrap ((l.toNat : Int) * ds) / 4)) (IntKind.u64.wrap ((l.toNat : Int) * ds) / 128) = ((rsH k h l).toNat : Int) := by
  rw [w_shl l (64 - k) ds hs, w_shr h k dk hk, w_shr _ 1 2 rfl, w_shr _ 2 4 rfl, w_shr _ 7 128 rfl, w_xor, w_xor, w_xor, w_xor]
  rfl
theorem rs_l (k : Nat) (dk ds : Int) (hk : dk = ((2 ^ k : Nat) : Int)) (hs : ds = ((2 ^ (64 - k) : Nat) : Int)) (h l : BitVec 64) :
    bits .xor .u64 ((l.toNat : Int) / dk) (IntKind.u64.wrap ((h.toNat : Int) * ds)) = ((rsL k h l).toNat : Int) := by
  rw [w_shl h (64 - k) ds hs, w_shr l k dk hk, w_xor]
  rfl

set_option maxHeartbeats 1000000 in
theorem oRaise1 (w : World) (a : Fe) : Calls Try.prog 23 #[ev a, .int .i64 1] w fun e w' => e = .returned (ev (txN a 1)) ∧ Below w.heap.size w w' := by
  have e1 := rs_h 1 2 9223372036854775808 rfl rfl (hB a) (lB a)
  have e2 := rs_l 1 2 9223372036854775808 rfl rfl (hB a) (lB a)
  rw [← rsH_1] at e1
  rw [← rsL_1] at e2
  unfold ev hN lN
  generalize (hB a).toNat = x1 at *
  generalize (lB a).toNat = y1 at *
  generalize (hB (txN a 1)).toNat = x3 at *
  generalize (lB (txN a 1)).toNat = y3 at *
  have E1 : Hid (_ = _) := e1
  have E2 : Hid (_ = _) := e2
  clear e1 e2
  go_enter Try.func23, Try.ntmps23
  go_wp2
  go_region
  go_wp2
  rw [E1.out, E2.out]
  refine bodyPost_ret (v := .agg #[.int .u64 (x3 : Int), .int .u64 (y3 : Int)]) (by simp [results, Try.results23, go_sem]) rfl ⟨rfl, (below2 _ _ _).drew⟩
set_option maxHeartbeats 1000000 in
theorem oRaise4 (w : World) (a : Fe) : Calls Try.prog 23 #[ev a, .int .i64 4] w fun e w' => e = .returned (ev (txN a 4)) ∧ Below w.heap.size w w' := by
  have e1 := rs_h 4 16 1152921504606846976 rfl rfl (hB a) (lB a)
  have e2 := rs_l 4 16 1152921504606846976 rfl rfl (hB a) (lB a)
  rw [← rsH_4] at e1
  rw [← rsL_4] at e2
  unfold ev hN lN
  generalize (hB a).toNat = x1 at *
  generalize (lB a).toNat = y1 at *
  generalize (hB (txN a 4)).toNat = x3 at *
  generalize (lB (txN a 4)).toNat = y3 at *
  have E1 : Hid (_ = _) := e1
  have E2 : Hid (_ = _) := e2
  clear e1 e2
  go_enter Try.func23, Try.ntmps23
  go_wp2
  go_region
  go_wp2
  rw [E1.out, E2.out]
  refine bodyPost_ret (v := .agg #[.int .u64 (x3 : Int), .int .u64 (y3 : Int)]) (by simp [results, Try.results23, go_sem]) rfl ⟨rfl, (below2 _ _ _).drew⟩

end Go.Proofs.Ytfgoomlgmepalaa
