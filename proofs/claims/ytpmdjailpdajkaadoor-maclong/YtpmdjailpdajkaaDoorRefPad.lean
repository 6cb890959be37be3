/-
  The contract of the reference's Padded: a text with what stands behind it. Condition: at most 100000 bytes.
-/
import Derived.Test.YtpmdjailpdajkaaDoorSums
import Derived.Test.YtpmdjailpdajkaaDoorPut
namespace Go.Proofs.YtpmdjailpdajkaaDoor
open Go.RowKit

def lenS : Value → Nat
  | .slice _ n _ => n
  | _ => 0

set_option maxHeartbeats 1000000 in
theorem rPad (w : World) {a : Option Addr} {n c : Nat} {l : List UInt8} (ha : Bs w a n c l) (hz : n ≤ 100000) :
    Calls Tryd.prog 29 #[.slice a n c] w (Gives w (padL l)) := by
  have hl := ha.len
  obtain ⟨z, hZ⟩ : ∃ z, (119 - n % 64) % 64 = z := ⟨_, rfl⟩
  have HZ : Hid ((119 - n % 64) % 64 = z) := hZ
  have hz64 : z < 64 := by omega
  clear hZ
  have HL : Hid (l.length = n) := hl
  clear hl
  go_enter Tryd.func29, Tryd.ntmps29
  go_wp2_with (first
    | (at_builtin; refine wpList_app _ rfl (.tmp 4) (.tmp 5) rfl w.heap.size _ _ rfl (Own.nil _ _) _ _ _ _ rfl ha (by rw [HL.out]; simp; omega) (Nat.le_refl _) ?_; intro v1 w1 ho1 hb1; have hs1 := hb1.size)
    | (at_builtin; refine wpList_app _ rfl (.tmp 7) (.tmp 8) rfl w.heap.size _ _ rfl (ho1.below (below_alloc w1 _) (Nat.le_refl _)) _ _ _ _ rfl (Bs.one w1 128 (by omega) (by omega)) (by rw [List.nil_append, HL.out]; simp; omega) (by simp; omega) ?_; intro v2 w2 ho2 hb2))
  have hb3 : Below w.heap.size w w2 := (hb1.alloc hs1 _).trans hb2
  have ho3 : Own w2 w.heap.size v2 (l ++ [128] ++ List.replicate 0 0) := by simpa using ho2
  clear ho1 ho2 hb1 hb2 hs1
  go_loopw [3] (fun v wr => ∃ j : Nat, j ≤ z ∧ Own wr w.heap.size v (l ++ [128] ++ List.replicate j 0) ∧ Below w.heap.size w wr) (fun v _ => n + 1 + z - lenS v)
  case atStart => exact ⟨0, by omega, ho3, hb3⟩
  case round =>
    clear ho3 hb3
    obtain ⟨j, hj, ho, hb⟩ := hrel
    obtain ⟨av, cv, rfl, hB⟩ := ho.bs
    have hlen : (l ++ [128] ++ List.replicate j 0).length = n + 1 + j := by simp [HL.out]; omega
    rw [hlen] at ho hB ⊢
    have hs := hb.size
    by_cases hjz : j < z
    · have ht : ¬ ((n + 1 + j : Nat) : Int).tmod 64 = 56 := by rw [Int.tmod_eq_emod_of_nonneg (by omega)]; have := HZ.out; omega
      have ht2 : ¬ ((n + 1 + j : Nat) : Int) % 64 = 56 := by have := HZ.out; omega
      have ht3 : ¬ ((n : Int) + 1 + (j : Int)) % 64 = 56 := by have := HZ.out; omega
      go_wp2_with (first
        | (at_builtin; refine wpList_app _ rfl (.tmp 14) (.tmp 15) rfl w.heap.size _ _ rfl (ho.below (below_alloc wr _) (Nat.le_refl _)) _ _ _ _ rfl (Bs.one wr 0 (by omega) (by omega)) (by rw [hlen]; simp; omega) (by simp; omega) ?_; intro v2 w2 ho2 hb2))
      have e2 : l ++ [128] ++ List.replicate j 0 ++ [UInt8.ofNat (0 : Int).toNat] = l ++ [128] ++ List.replicate (j + 1) 0 := by
        rw [List.replicate_succ', List.append_assoc (l ++ [128])]
        rfl
      rw [e2] at ho2
      obtain ⟨a3, c3, rfl, hB3⟩ := ho2.bs
      have hl3 : (l ++ [128] ++ List.replicate (j + 1) 0).length = n + 1 + (j + 1) := by simp [HL.out]; omega
      rw [hl3] at ho2 ⊢
      go_roundw
      case rel => exact ⟨j + 1, by omega, ho2, (hb.alloc hs _).trans hb2⟩
      case measure => simp [lenS]; omega
    · have e : j = z := by omega
      subst e
      have ht : ((n + 1 + j : Nat) : Int).tmod 64 = 56 := by rw [Int.tmod_eq_emod_of_nonneg (by omega)]; have := HZ.out; omega
      have ht2 : ((n + 1 + j : Nat) : Int) % 64 = 56 := by have := HZ.out; omega
      have ht3 : ((n : Int) + 1 + (j : Int)) % 64 = 56 := by have := HZ.out; omega
      have CP : Hid (Calls Tryd.prog 32 #[.int .u64 (8 * (n : Int)), .int .i64 8] wr (Gives wr (putL (8 * n) 8))) := rPut 8 (8 * (n : Int)) 8 wr (by omega) (by omega) (by omega) (by omega) (by omega)
      have HP : Hid (l ++ [128] ++ List.replicate j 0 ++ putL (8 * n) 8 = padL l) := by
        show _ = _
        unfold padL
        rw [HL.out, HZ.out]
      go_wp2_with (first
        | (go_at_call 32; refine CP.out.mono ?_; rintro e w1 ⟨a1, m1, c1, rfl, ho1, hb1⟩)
        | (at_builtin; refine wpList_app _ rfl (.tmp 17) (.tmp 22) rfl w.heap.size _ _ rfl (ho.below hb1 (Nat.le_refl _)) _ _ _ _ rfl ho1.toBs (by rw [hlen, putL_length]; omega) (Nat.le_trans hs hb1.size) ?_; intro v2 w2 ho2 hb2))
      go_ret
      rw [HP.out] at ho2
      exact Gives.mk ho2 ((hb.trans (hb1.mono hs)).trans hb2)

end Go.Proofs.YtpmdjailpdajkaaDoor
