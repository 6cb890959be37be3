/-
  The contract of 'masked': a block, each byte exclusive-ored. No condition.
-/
import Derived.Test.YtpmdjailpdajkaaDoorCopy
import Derived.Test.YtpmdjailpdajkaaDoorMacs
namespace Go.Proofs.YtpmdjailpdajkaaDoor
open Go.RowKit

theorem all48 (g : Nat) (w : World) : Sem.run Tryd.prog (Instr.sliceAt 41 (.pointer (some ⟨g, 0, none⟩)) none none none) w = .ok (.slice (some ⟨g, 0, none⟩) 64 64) w := by
  rw [run_sliceAt_array_all w 41 _ und48, el48]
  simp only [Result.andThen, slicedAt, len48]
  rfl

theorem Own.bs3 {w : World} {base : Nat} {v : Value} {l : List UInt8} (h : Own w base v l) : ∃ a m c, v = .slice a m c ∧ Bs w a m c l := by
  obtain ⟨a, c, rfl, hb⟩ := h.bs
  exact ⟨a, _, c, rfl, hb⟩

/-- What stands in the variable behind k bytes. -/
def mixX (b : List UInt8) (x : UInt8) (k : Nat) : List UInt8 := xorB (b.take k) x ++ b.drop k
theorem mixX_length (b : List UInt8) (x : UInt8) {k : Nat} : (mixX b x k).length = b.length := by simp [mixX, xorB]; omega
theorem mixX_end {b : List UInt8} {x : UInt8} {k : Nat} (h : b.length ≤ k) : mixX b x k = xorB b x := by
  unfold mixX
  rw [List.take_of_length_le h, List.drop_eq_nil_of_le h, List.append_nil]
theorem mixX_at {b : List UInt8} {x : UInt8} {k : Nat} (h : k < b.length) : (cs (mixX b x k))[k]? = some (.int .u8 (bt b k)) := by
  have hl : (xorB (b.take k) x).length = k := by simp [xorB]; omega
  rw [cs_get (by rw [mixX_length]; exact h)]
  unfold bt mixX
  rw [List.getD_eq_getElem?_getD, List.getElem?_append_right (by omega), hl, Nat.sub_self, List.getElem?_drop, Nat.add_zero, ← List.getD_eq_getElem?_getD]
theorem mixX_set {b : List UInt8} {x : UInt8} {k : Nat} (h : k < b.length) : (cs (mixX b x k)).set k (.int .u8 ((b.getD k 0 ^^^ x).toNat : Int)) = cs (mixX b x (k + 1)) := by
  have hl : (xorB (b.take k) x).length = k := by simp [xorB]; omega
  have e : (mixX b x k).set k (b.getD k 0 ^^^ x) = mixX b x (k + 1) := by
    unfold mixX
    rw [List.set_append, if_neg (by omega), hl, Nat.sub_self, List.drop_eq_getElem_cons h, List.set_cons_zero, take_snoc h]
    unfold xorB
    rw [List.map_append, List.append_assoc, List.getD_eq_getElem?_getD, List.getElem?_eq_getElem h]
    rfl
  rw [← e]
  simp [cs, List.map_set]
theorem xor_u8 (x y : UInt8) : bits .xor .u8 (x.toNat : Int) (y.toNat : Int) = ((x ^^^ y).toNat : Int) := by
  rw [u8_xor_nat _ _ (UInt8.toNat_lt _) (UInt8.toNat_lt _), UInt8.toNat_xor]

set_option maxHeartbeats 1000000 in
theorem oMasked (w : World) (b : List UInt8) (hl : b.length = 64) (x : UInt8) :
    Calls Tryd.prog 23 #[bv b, .int .u8 (x.toNat : Int)] w fun e w' => e = .returned (.slice (some ⟨w.heap.size, 0, none⟩) 64 64) ∧ Bs w' (some ⟨w.heap.size, 0, none⟩) 64 64 (xorB b x) ∧ Below w.heap.size w w' := by
  have hall := all48
  unfold bv
  go_enter Tryd.func23, Tryd.ntmps23
  go_wp2_with fail
  go_loopw [5, 6] (fun _ i wr => ∃ k : Nat, k ≤ 64 ∧ i = .int .i64 k ∧ Blk wr w.heap.size (cs (mixX b x k)) 41 ∧ Below w.heap.size w wr) (fun _ i _ => 64 - (intOf i).toNat)
  case atStart => exact ⟨0, by omega, rfl, Blk.new w _ _, below_alloc w _⟩
  case round =>
    obtain ⟨k, hk, rfl, b0, hb⟩ := hrel
    by_cases hlt : k < 64
    · have c0 := b0.cell k
      rw [mixX_at (by omega)] at c0
      unfold bt at c0
      have f0 := b0.free k
      have h0 : (0 : Int) ≤ (k : Int) := by omega
      have h8 : (k : Int) < 64 := by omega
      have b1 := b0.setC k (.int .u8 ((b.getD k 0 ^^^ x).toNat : Int))
      rw [mixX_set (by omega), ← xor_u8] at b1
      generalize hp : b.getD k 0 = p at c0 b1
      clear hp
      have B1 : Hid (Blk (wr.setCell ⟨w.heap.size, k, none⟩ (.int .u8 (bits .xor .u8 (p.toNat : Int) (x.toNat : Int)))) w.heap.size (cs (mixX b x (k + 1))) 41) := b1
      clear b1
      go_wp2_with fail
      go_roundw
      case rel => exact ⟨k + 1, by omega, by go_num, B1.out, hb.setCell (Nat.le_refl _) _⟩
      case measure => simp [intOf]; omega
    · rw [mixX_end (by omega)] at b0
      go_wp2
      go_ret
      have := b0.bs 0 64 (xorB b x) (fun j v h => by rw [Nat.zero_add]; exact h) (by rw [xorB_length]; omega) (by omega)
      rw [xorB_length, hl] at this
      exact ⟨rfl, this, hb⟩

end Go.Proofs.YtpmdjailpdajkaaDoor
