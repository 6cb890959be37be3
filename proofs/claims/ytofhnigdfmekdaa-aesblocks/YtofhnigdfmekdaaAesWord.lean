/-
  The contracts of 'boxed' and 'turned'. Conditions: words of four bytes; the tables lie where the pointer leads.
-/
import Derived.Test.YtofhnigdfmekdaaAesAdd
namespace Go.Proofs.Ytofhnigdfmekdaa
open Go.RowKit

theorem sizeW : (Try.prog.info? 51).map (·.size) = some 4 := by kernel_rfl
theorem map_at (f : UInt8 → UInt8) {l : List UInt8} {k : Nat} (h : k < l.length) : (l.map f).getD k 0 = f (l.getD k 0) := by
  simp [List.getD_eq_getElem?_getD, h]
theorem len4 {x : List UInt8} (h : x.length = 4) : ∃ a b c d, x = [a, b, c, d] := by
  match x, h with
  | [a, b, c, d], _ => exact ⟨a, b, c, d, rfl⟩

set_option maxHeartbeats 1000000 in
theorem oBoxed (w : World) (g : Nat) (hT : Tab w g) (x : List UInt8) (hx : x.length = 4) :
    Calls Try.prog 35 #[.pointer (some ⟨g, 0, none⟩), bv x] w fun e w' => e = .returned (bv (x.map box)) ∧ Below w.heap.size w w' := by
  unfold bv
  have hgl := hT.lt
  have HX : Hid ((cs x).length = 4) := by show _ = _; rw [cs_length, hx]
  have HXL : Hid (x.length = 4) := hx
  have hm : (x.map box).length = x.length := by simp
  go_enter Try.func35, Try.ntmps35
  go_wp2_with (first
    | (with_reducible refine at_ld 51 ?_; refine ld 51 (.tmp 3) 4 sizeW _ Try.underlying51 rfl w.heap.size 0 _ HX.out ((Blk.new w _ _).old _).whole rfl ?_))
  go_loopw [5, 6, 8] (fun _ _ i wr => ∃ k : Nat, k ≤ 4 ∧ i = .int .i64 k ∧ Blk wr w.heap.size (cs (over (x.map box) x k)) 51 ∧ (∃ z : List UInt8, z.length = 4 ∧ Blk wr (w.heap.size + 1) (cs z) 51) ∧ Below w.heap.size w wr) (fun _ _ i _ => 4 - (intOf i).toNat)
  case atStart =>
    exact ⟨0, by omega, rfl, by rw [over_zero]; exact (Blk.new w _ _).old _, ⟨List.replicate 4 0, rfl, Blk.newAt (w.alloc _) _ _ _ (by simp) _ rfl⟩, below2 w _ _⟩
  case round =>
    obtain ⟨k, hk, rfl, b0, ⟨z, hz, b1⟩, hbl⟩ := hrel
    by_cases hlt : k < 4
    · have h0 : (0 : Int) ≤ (k : Int) := by omega
      have h8 : (k : Int) < 4 := by omega
      have hix := idx8 51 4 Try.underlying51 x k HXL.out hlt
      have c0 := b0.at8 (k := k) (by rw [over_length hm]; omega)
      have f0 := b0.free k
      have b3 := b0.set8 k ((x.map box).getD k 0)
      rw [over_set hm (by omega), map_at box (by omega)] at b3
      generalize hp : x.getD k 0 = p at hix b3
      have hpl := b_lt p
      have hp0 : (0 : Int) ≤ (p.toNat : Int) := by omega
      have hp1 : (p.toNat : Int) < 256 := by omega
      have c1 := (hT.below hbl hgl).box p
      have B3 : Hid (Blk (wr.setCell ⟨w.heap.size, k, none⟩ (.int .u8 ((box p).toNat : Int))) w.heap.size (cs (over (x.map box) x (k + 1))) 51) := b3
      clear hp b3
      go_wp2_with fail
      go_roundw
      case rel => exact ⟨k + 1, by omega, by go_num, B3.out, ⟨z, hz, b1.setO (by simp) _⟩, hbl.setCell (Nat.le_refl _) _⟩
      case measure => simp [intOf]; omega
    · obtain rfl : k = 4 := by omega
      rw [show (4 : Nat) = x.length from hx.symm, over_end hm] at b0
      have HL : Hid ((cs (x.map box)).length = 4) := by show _ = _; rw [cs_length, hm, hx]
      obtain ⟨X, hX⟩ : ∃ X, X = x.map box := ⟨_, rfl⟩
      rw [← hX] at b0 HL
      have HXX : Hid (X = x.map box) := hX
      clear hX
      go_wp2_with (first
        | (with_reducible refine at_ld 51 ?_; refine ld 51 (.tmp 3) 4 sizeW _ Try.underlying51 rfl w.heap.size 0 _ HL.out b0.whole rfl ?_)
        | (with_reducible refine at_st 51 ?_; refine st 51 (.tmp 4) (.tmp 21) 4 sizeW (w.heap.size + 1) 0 _ HL.out cs_one (b1.there 0 4 (by rw [cs_length, hz]; omega)) rfl rfl ?_))
      have b3 := b1.setsW (cs X) (by rw [HL.out, cs_length, hz])
      exact bodyPost_ret (v := .agg (cs X).toArray) (res_blk Try.results35 _ _ (w.heap.size + 1) _ _ _ rfl b3 Try.underlying51 4 HL.out sizeW) rfl ⟨by rw [HXX.out], below_sets (by omega) _ hbl 0⟩

theorem oTurned (w : World) (a b c d : UInt8) :
    Calls Try.prog 36 #[bv [a, b, c, d]] w fun e w' => e = .returned (bv [b, c, d, a]) ∧ Below w.heap.size w w' := by
  unfold bv cs
  go_enter Try.func36, Try.ntmps36
  go_wp2_with fail
  exact bodyPost_ret (v := .agg (cs [b, c, d, a]).toArray) (by simp [results, Try.results36, go_sem, cs]) rfl ⟨rfl, below2 w _ _⟩

end Go.Proofs.Ytofhnigdfmekdaa
