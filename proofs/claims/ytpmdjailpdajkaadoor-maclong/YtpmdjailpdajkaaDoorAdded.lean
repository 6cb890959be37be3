/-
  The contract of 'added': eight words and eight more, one by one. No condition.
-/
import Derived.Test.YtpmdjailpdajkaaDoorBlocks
import Derived.Deep.RegionHeld3
import Derived.Deep.DrawnRows
namespace Go.Proofs.YtpmdjailpdajkaaDoor
open Go.RowKit
attribute [local go_sem ↓] Go.wp_at_zero Go.wp_at_succ

theorem add8_length {h v : List UInt32} (hh : h.length = 8) (hv : v.length = 8) : (add8 h v).length = 8 := by simp [add8, hh, hv]

def mix (k : Nat) (h v : List UInt32) : List UInt32 := (add8 h v).take k ++ h.drop k
theorem mix_length {k : Nat} {h v : List UInt32} (hh : h.length = 8) (hv : v.length = 8) (hk : k ≤ 8) : (mix k h v).length = 8 := by simp [mix, add8, hh, hv]; omega
theorem mix_at {k : Nat} {h v : List UInt32} (hh : h.length = 8) (hv : v.length = 8) (hk : k < 8) : (ws (mix k h v))[k]? = some (.int .u32 ((h.getD k 0).toNat : Int)) := by
  obtain ⟨a, b, c, d, e, f, g, z, rfl⟩ := ws_len8 hh
  obtain ⟨a1, b1, c1, d1, e1, f1, g1, z1, rfl⟩ := ws_len8 hv
  match k, hk with
  | 0, _ => rfl
  | 1, _ => rfl
  | 2, _ => rfl
  | 3, _ => rfl
  | 4, _ => rfl
  | 5, _ => rfl
  | 6, _ => rfl
  | 7, _ => rfl
theorem mix_set {k : Nat} {h v : List UInt32} (hh : h.length = 8) (hv : v.length = 8) (hk : k < 8) : (ws (mix k h v)).set k (.int .u32 ((h.getD k 0 + v.getD k 0).toNat : Int)) = ws (mix (k + 1) h v) := by
  obtain ⟨a, b, c, d, e, f, g, z, rfl⟩ := ws_len8 hh
  obtain ⟨a1, b1, c1, d1, e1, f1, g1, z1, rfl⟩ := ws_len8 hv
  match k, hk with
  | 0, _ => rfl
  | 1, _ => rfl
  | 2, _ => rfl
  | 3, _ => rfl
  | 4, _ => rfl
  | 5, _ => rfl
  | 6, _ => rfl
  | 7, _ => rfl
theorem mix_end {h v : List UInt32} (hh : h.length = 8) (hv : v.length = 8) : mix 8 h v = add8 h v := by
  obtain ⟨a, b, c, d, e, f, g, z, rfl⟩ := ws_len8 hh
  obtain ⟨a1, b1, c1, d1, e1, f1, g1, z1, rfl⟩ := ws_len8 hv
  rfl
theorem w_add' (x y : UInt32) : ((x.toNat : Int) + (y.toNat : Int)) % 4294967296 = ((x + y).toNat : Int) := by
  rw [UInt32.toNat_add]; omega
theorem ws_at {u : List UInt32} {k : Nat} (h : k < u.length) : (ws u)[k]? = some (.int .u32 ((u.getD k 0).toNat : Int)) := ws_get h

set_option maxHeartbeats 1000000 in
theorem oAdded (w : World) (v u : List UInt32) (hv : v.length = 8) (hu : u.length = 8) :
    Calls Tryd.prog 41 #[wv v, wv u] w fun r w' => r = .returned (wv (add8 v u)) ∧ Below w.heap.size w w' := by
  unfold wv
  go_enter Tryd.func41, Tryd.ntmps41
  go_wp2_with fail
  go_loopw [5, 6] (fun _ i wr => ∃ k : Nat, k ≤ 8 ∧ i = .int .i64 k ∧ Blk wr w.heap.size (ws (mix k v u)) 60 ∧ Blk wr (w.heap.size + 1) (ws u) 60 ∧ (∃ z : List UInt32, z.length = 8 ∧ Blk wr (w.heap.size + 1 + 1) (ws z) 60) ∧ Below w.heap.size w wr) (fun _ i _ => 8 - (intOf i).toNat)
  case atStart =>
    exact ⟨0, by omega, rfl, (((Blk.new w _ _).old _).old _), ((Blk.newAt (w.alloc _) _ _ _ (by simp) _ rfl).old _), ⟨List.replicate 8 0, rfl, Blk.newAt ((w.alloc _).alloc _) _ _ _ (by simp) _ rfl⟩, below3 w _ _ _⟩
  case round =>
    obtain ⟨k, hk, rfl, b0, b1, ⟨z, hz, b2⟩, hb⟩ := hrel
    by_cases hlt : k < 8
    · have c0 := b0.cell k
      rw [mix_at hv hu hlt] at c0
      have c1 := b1.cell k
      rw [ws_at (by omega)] at c1
      have f0 := b0.free k
      have h0 : (0 : Int) ≤ (k : Int) := by omega
      have h8 : (k : Int) < 8 := by omega
      generalize hp : v.getD k 0 = p at c0
      generalize hq : u.getD k 0 = q at c1
      have HP : Hid (v.getD k 0 = p ∧ u.getD k 0 = q) := ⟨hp, hq⟩
      clear hp hq
      go_wp2_with fail
      go_region
      go_wp2_with fail
      go_roundw
      case rel =>
        refine ⟨k + 1, by omega, by go_num, ?_, b1.setO (by simp) _, ⟨z, hz, b2.setO (by simp; omega) _⟩, (hb.setCell (Nat.le_refl _) _).drew⟩
        obtain ⟨rfl, rfl⟩ := HP.out
        rw [← mix_set hv hu hlt, w_add']
        exact b0.setC k _
      case measure => simp [intOf]; omega
    · obtain rfl : k = 8 := by omega
      rw [mix_end hv hu] at b0
      have hl : (ws (add8 v u)).length = 8 := by rw [ws_length]; exact add8_length hv hu
      have HL : Hid ((ws (add8 v u)).length = 8) := hl
      clear hl
      go_wp2_with (first
        | (with_reducible refine at_ld 60 ?_; refine ld 60 (.tmp 2) 8 size46 _ Tryd.underlying60 rfl w.heap.size 0 _ HL.out b0.whole rfl ?_)
        | (with_reducible refine at_st 60 ?_; refine st 60 (.tmp 4) (.tmp 18) 8 size46 (w.heap.size + 1 + 1) 0 _ HL.out ws_one (b2.there 0 8 (by rw [ws_length, hz]; omega)) rfl rfl ?_))
      have b3 := b2.setsW (ws (add8 v u)) (by rw [HL.out, ws_length, hz])
      exact bodyPost_ret (v := .agg (ws (add8 v u)).toArray) (res_blk Tryd.results41 _ _ (w.heap.size + 1 + 1) _ _ _ rfl b3 Tryd.underlying60 8 HL.out size46) rfl ⟨rfl, below_sets (by omega) _ hb 0⟩

end Go.Proofs.YtpmdjailpdajkaaDoor
