/-
  The contract of 'mixed': a block with each of its columns mixed. Conditions: a block of 16 bytes; the tables lie where the pointer leads.
-/
import Derived.Test.YtofhnigdfmekdaaAesAdd
namespace Go.Proofs.Ytofhnigdfmekdaa
open Go.RowKit
attribute [local go_sem ↓] Go.wp_at_zero Go.wp_at_succ

set_option maxRecDepth 100000 in
set_option maxHeartbeats 2000000 in
theorem oMixed (w : World) (g : Nat) (hT : Tab w g) (b : List UInt8) (hb : b.length = 16) :
    Calls Try.prog 27 #[.pointer (some ⟨g, 0, none⟩), bv b] w fun e w' => e = .returned (bv (mixL b)) ∧ Below w.heap.size w w' := by
  unfold bv
  have hgl := hT.lt
  have hx : (mixL b).length = b.length := by rw [mixL_length, hb]
  go_enter Try.func27, Try.ntmps27
  go_wp2_with fail
  go_loopw [5, 6, 7, 8, 9] (fun i _ _ _ _ wr => ∃ c : Nat, c ≤ 4 ∧ i = .int .i64 ((4 * c : Nat) : Int) ∧ Blk wr w.heap.size (cs (over (mixL b) b (4 * c))) 28 ∧ (∃ z : List UInt8, z.length = 16 ∧ Blk wr (w.heap.size + 1) (cs z) 28) ∧ Below w.heap.size w wr) (fun i _ _ _ _ _ => 16 - (intOf i).toNat)
  case atStart =>
    exact ⟨0, by omega, rfl, by rw [over_zero]; exact (Blk.new w _ _).old _, ⟨List.replicate 16 0, rfl, Blk.newAt (w.alloc _) _ _ _ (by simp) _ rfl⟩, below2 w _ _⟩
  case round =>
    obtain ⟨c, hc, rfl, b0, ⟨z, hz, b1⟩, hbl⟩ := hrel
    by_cases hlt : c < 4
    · obtain ⟨k, hk⟩ : ∃ k, k = 4 * c := ⟨_, rfl⟩
      have M0 := mixL_at b (k := 4 * c) (by omega)
      have M1 := mixL_at b (k := 4 * c + 1) (by omega)
      have M2 := mixL_at b (k := 4 * c + 2) (by omega)
      have M3 := mixL_at b (k := 4 * c + 3) (by omega)
      rw [mix0] at M0
      rw [mix1] at M1
      rw [mix2] at M2
      rw [mix3] at M3
      rw [← hk] at M0 M1 M2 M3 b0 ⊢
      have h0 : (0 : Int) ≤ (k : Int) := by omega
      have h8 : (k : Int) ≤ 12 := by omega
      have e0 := b0.at8 (k := k) (by rw [over_length hx]; omega)
      have e1 := b0.at8 (k := k + 1) (by rw [over_length hx]; omega)
      have e2 := b0.at8 (k := k + 2) (by rw [over_length hx]; omega)
      have e3 := b0.at8 (k := k + 3) (by rw [over_length hx]; omega)
      rw [over_at hx (by omega) (by omega)] at e0 e1 e2 e3
      have HM : Hid (∀ w1 : World, Blk w1 w.heap.size (cs (over (mixL b) b k)) 28 → Blk ((((w1.setCell ⟨w.heap.size, k, none⟩ (.int .u8 ((mixL b).getD k 0).toNat)).setCell ⟨w.heap.size, k + 1, none⟩ (.int .u8 ((mixL b).getD (k + 1) 0).toNat)).setCell ⟨w.heap.size, k + 2, none⟩ (.int .u8 ((mixL b).getD (k + 2) 0).toNat)).setCell ⟨w.heap.size, k + 3, none⟩ (.int .u8 ((mixL b).getD (k + 3) 0).toNat)) w.heap.size (cs (over (mixL b) b (4 * (c + 1)))) 28) := fun w1 b0 => by
        have d0 := b0.set8 k ((mixL b).getD k 0)
        rw [over_set hx (by omega)] at d0
        have d1 := d0.set8 (k + 1) ((mixL b).getD (k + 1) 0)
        rw [over_set hx (by omega)] at d1
        have d2 := d1.set8 (k + 1 + 1) ((mixL b).getD (k + 2) 0)
        rw [over_set hx (by omega)] at d2
        have d3 := d2.set8 (k + 1 + 1 + 1) ((mixL b).getD (k + 3) 0)
        rw [over_set hx (by omega), show k + 1 + 1 + 1 + 1 = 4 * (c + 1) from by omega] at d3
        exact d3
      rw [M0, M1, M2, M3] at HM
      clear M0 M1 M2 M3
      generalize hp : b.getD k 0 = p at *
      generalize hq : b.getD (k + 1) 0 = q at *
      generalize hr : b.getD (k + 2) 0 = r at *
      generalize hs : b.getD (k + 3) 0 = s at *
      clear hp hq hr hs
      simp only [← xor_u8] at HM
      have hTr := hT.below hbl hgl
      have HK : Hid (k = 4 * c) := hk
      clear hk
      go_wp2_with fail
      go_quiet (fail)
      generalize hw1 : wr.drewN _ = w1
      have b0' : Blk w1 w.heap.size (cs (over (mixL b) b k)) 28 := by rw [← hw1]; exact b0
      have b1' : Blk w1 (w.heap.size + 1) (cs z) 28 := by rw [← hw1]; exact b1
      have hTw : Tab w1 g := by rw [← hw1]; exact hTr
      have hbw : Below w.heap.size w w1 := by rw [← hw1]; exact below_drN hbl _
      have r0 : w1.cell? ⟨w.heap.size, k, none⟩ = some (.int .u8 p.toNat) := by rw [← hw1]; exact e0
      have r1 : w1.cell? ⟨w.heap.size, k + 1, none⟩ = some (.int .u8 q.toNat) := by rw [← hw1]; exact e1
      have r2 : w1.cell? ⟨w.heap.size, k + 2, none⟩ = some (.int .u8 r.toNat) := by rw [← hw1]; exact e2
      have r3 : w1.cell? ⟨w.heap.size, k + 3, none⟩ = some (.int .u8 s.toNat) := by rw [← hw1]; exact e3
      clear hw1 e0 e1 e2 e3 b0 b1 hTr
      have f0 := b0'.free k
      have f1 := b0'.free (k + 1)
      have f2 := b0'.free (k + 2)
      have f3 := b0'.free (k + 3)
      have t0 := hTw.tw (p ^^^ q)
      have t1 := hTw.tw (q ^^^ r)
      have t2 := hTw.tw (r ^^^ s)
      have t3 := hTw.tw (s ^^^ p)
      have x0 := xor_u8 p q
      have x1 := xor_u8 q r
      have x2 := xor_u8 r s
      have x3 := xor_u8 s p
      generalize p ^^^ q = pq at *
      generalize q ^^^ r = qr at *
      generalize r ^^^ s = rs at *
      generalize s ^^^ p = sp at *
      have l0 := b_lt pq
      have l1 := b_lt qr
      have l2 := b_lt rs
      have l3 := b_lt sp
      have u0 : (pq.toNat : Int) < 256 := by omega
      have u1 : (qr.toNat : Int) < 256 := by omega
      have u2 : (rs.toNat : Int) < 256 := by omega
      have u3 : (sp.toNat : Int) < 256 := by omega
      have hn : ¬ g = w.heap.size := by omega
      have hn' : ¬ w.heap.size = g := by omega
      go_wp2_with fail
      go_roundw
      case rel =>
        refine ⟨c + 1, by omega, by rw [HK.out]; go_num, HM.out _ b0', ⟨z, hz, (((b1'.setO (by simp) _).setO (by simp) _).setO (by simp) _).setO (by simp) _⟩, (((hbw.setCell (Nat.le_refl _) _).setCell (Nat.le_refl _) _).setCell (Nat.le_refl _) _).setCell (Nat.le_refl _) _⟩
      case measure => have := HK.out; simp [intOf]; omega
    · obtain rfl : c = 4 := by omega
      rw [show 4 * 4 = b.length from hb.symm, over_end hx] at b0
      have HL : Hid ((cs (mixL b)).length = 16) := by show _ = _; rw [cs_length, mixL_length]
      obtain ⟨X, hX⟩ : ∃ X, X = mixL b := ⟨_, rfl⟩
      rw [← hX] at b0 HL
      have HX : Hid (X = mixL b) := hX
      clear hX
      go_wp2_with (first
        | (with_reducible refine at_ld 28 ?_; refine ld 28 (.tmp 3) 16 sizeK _ Try.underlying28 rfl w.heap.size 0 _ HL.out b0.whole rfl ?_)
        | (with_reducible refine at_st 28 ?_; refine st 28 (.tmp 4) (.tmp 96) 16 sizeK (w.heap.size + 1) 0 _ HL.out cs_one (b1.there 0 16 (by rw [cs_length, hz]; omega)) rfl rfl ?_))
      have b3 := b1.setsW (cs X) (by rw [HL.out, cs_length, hz])
      exact bodyPost_ret (v := .agg (cs X).toArray) (res_blk Try.results27 _ _ (w.heap.size + 1) _ _ _ rfl b3 Try.underlying28 16 HL.out sizeK) rfl ⟨by rw [HX.out], below_sets (by omega) _ hbl 0⟩

end Go.Proofs.Ytofhnigdfmekdaa
