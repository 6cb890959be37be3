/-
  The contract of the reference's words: the words of a block's rounds, out of its 64 bytes. No condition.
-/
import Derived.Test.YtpmdjailpdajkaaDoorRefRound
import Derived.Test.YtpmdjailpdajkaaDoorSpread
import Derived.Test.YtpmdjailpdajkaaDoorCut
namespace Go.Proofs.YtpmdjailpdajkaaDoor
open Go.RowKit

theorem word_of (x : List UInt8) : UInt32.ofNat (((getN x : Nat) : Int) % 4294967296).toNat = UInt32.ofNat (getN x) := by
  apply UInt32.toNat_inj.1
  rw [UInt32.toNat_ofNat', UInt32.toNat_ofNat']
  omega
theorem one_of (x : UInt32) : UInt32.ofNat ((x.toNat : Int)).toNat = x := by
  apply UInt32.toNat_inj.1
  rw [UInt32.toNat_ofNat', Int.toNat_natCast]
  have := w_lt x
  omega

/-- 'b[i:j]' -/
theorem Bs.cut2 {w0 : World} {a : Option Addr} {n c : Nat} {l : List UInt8} (h : Bs w0 a n c l) (i j : Nat) (hij : i ≤ j) (hj : j ≤ n) :
    ∃ a' c', (∀ w, Sem.run Tryd.prog (Instr.slice 22 (.slice a n c) (some (.int .i64 (i : Int))) (some (.int .i64 (j : Int))) none) w = .ok (.slice a' (j - i) c') w) ∧
      (∀ w, Bs w a n c l → Bs w a' (j - i) c' ((l.drop i).take (j - i))) := by
  have hcap := h.cap
  refine ⟨if c = i then a else a.map (fun x => x.add (i * 1)), c - i, ?_, ?_⟩
  · intro w
    rw [run_slice_lh w 22 a n c under23 .i64 .i64 (i : Int) (j : Int) (by omega) (by omega) (by omega), sizeOf5]
    simp only [Result.andThen, sliced, Int.toNat_natCast]
  · intro w hb
    refine ⟨by simp [hb.len]; omega, by omega, Nat.le_trans (Nat.sub_le _ _) hb.2.2.1, ?_, ?_⟩
    · intro he
      by_cases hck : c = i
      · omega
      · rw [if_neg hck] at he
        simp at he
        have := hb.2.2.2.1 he
        omega
    · intro k hk
      obtain ⟨b, o, ha, hc⟩ := hb.2.2.2.2 (i + k) (by omega)
      subst ha
      refine ⟨b, o + i, ?_, ?_⟩
      · rw [if_neg (by omega)]
        simp only [Option.map_some, Nat.mul_one]
        unfold Addr.add
        split
        · subst_vars; rfl
        · rfl
      · rw [bt_take hk, bt_drop, show o + i + k = o + (i + k) from by omega]
        exact hc

theorem sum4 (a b c d : UInt32) : a + b + c + d = a + c + b + d := by rw [UInt32.add_assoc a b c, UInt32.add_comm b c, ← UInt32.add_assoc]
theorem sgA_ref (x : UInt32) : bits .xor .u32 (bits .xor .u32 ((rotI x 7).toNat : Int) ((rotI x 18).toNat : Int)) ((x.toNat : Int) / 8) = ((sgA x).toNat : Int) := by rw [w_shr3, w_xor, w_xor]; rfl
theorem sgB_ref (x : UInt32) : bits .xor .u32 (bits .xor .u32 ((rotI x 17).toNat : Int) ((rotI x 19).toNat : Int)) ((x.toNat : Int) / 1024) = ((sgB x).toNat : Int) := by rw [w_shr10, w_xor, w_xor]; rfl
theorem wbelow1 (w : World) (o : Obj) : Below w.heap.size w (w.alloc o) := below_alloc w o

set_option maxHeartbeats 2000000 in
theorem rWords (w : World) {a : Option Addr} {c : Nat} {b : List UInt8} (ha : Bs w a 64 c b) :
    Calls Tryd.prog 30 #[.slice a 64 c] w (HasW w (schd b 64)) := by
  go_enter Tryd.func30, Tryd.ntmps30
  go_wp2_with fail
  go_loopw [3, 4] (fun v i wr => ∃ k : Nat, k ≤ 16 ∧ i = .int .i64 k ∧ Owd wr w.heap.size v (schd b k) ∧ Below w.heap.size w wr) (fun _ i _ => 16 - (intOf i).toNat)
  case atStart => exact ⟨0, by omega, rfl, Owd.nil _ _, Below.refl _ _⟩
  case round =>
    obtain ⟨k, hk, rfl, ho, hb⟩ := hrel
    by_cases hlt : k < 16
    · obtain ⟨a4, c4, hcut, hB4⟩ := ha.cut2 (k * 4) (k * 4 + 4) (by omega) (by omega)
      have hB := hB4 wr (ha.below hb (Nat.le_refl _))
      have e4 : k * 4 + 4 - k * 4 = 4 := by omega
      rw [e4] at hcut hB
      have hcut' : ∀ w, Sem.run Tryd.prog (Instr.slice 22 (.slice a 64 c) (some (.int .i64 (4 * (k : Int)))) (some (.int .i64 (4 * (k : Int) + 4))) none) w = .ok (.slice a4 4 c4) w := fun w => by
        have := hcut w
        rw [show ((k * 4 + 4 : Nat) : Int) = 4 * (k : Int) + 4 from by omega, show ((k * 4 : Nat) : Int) = 4 * (k : Int) from by omega] at this
        exact this
      clear hcut hB4 e4
      have h0 : (0 : Int) ≤ (k : Int) := by omega
      have h8 : (k : Int) < 16 := by omega
      have HW : Hid (schd b k ++ [UInt32.ofNat (((getN ((b.drop (k * 4)).take 4) : Nat) : Int) % 4294967296).toNat] = schd b (k + 1)) := by
        show _ = _
        rw [schd_low hlt, word_of, wordAt, Nat.mul_comm 4 k]
      obtain ⟨zz, hzz⟩ : ∃ z, ((getN ((b.drop (k * 4)).take 4) : Nat) : Int) % 4294967296 = z := ⟨_, rfl⟩
      have z0 : 0 ≤ zz := by omega
      have z1 : zz ≤ 4294967295 := by omega
      rw [hzz] at HW
      have hs := hb.size
      have hlen : (schd b k).length = k := schd_length b k
      go_wp2_with (first
        | (go_at_call 37; refine (rGet wr hB).mono ?_; rintro e w1 ⟨rfl, rfl⟩)
        | (at_builtin; refine wpList_wapp _ rfl (.tmp 14) (.tmp 24) rfl w.heap.size _ _ rfl (ho.below (wbelow1 wr _) (Nat.le_refl _)) _ _ _ _ rfl (Ws.one wr zz z0 z1) (by simp; omega) (by simp; omega) ?_; intro v2 w2 ho2 hb2))
      go_roundw
      case rel => exact ⟨k + 1, by omega, by go_num, by rw [← HW.out]; exact ho2, (hb.alloc hs _).trans hb2⟩
      case measure => simp [intOf]; omega
    · rw [show k = 16 from by omega] at ho
      go_wp2_with fail
      go_loopw [3, 5, 6, 7, 8, 9] (fun v i _ _ _ _ wr => ∃ k : Nat, 16 ≤ k ∧ k ≤ 64 ∧ i = .int .i64 k ∧ Owd wr w.heap.size v (schd b k) ∧ Below w.heap.size w wr) (fun _ i _ _ _ _ _ => 64 - (intOf i).toNat)
      case atStart => exact ⟨16, by omega, by omega, rfl, ho, hb⟩
      case round =>
        clear ho hb hk hlt
        obtain ⟨k, hk16, hk, rfl, ho, hb⟩ := hrel
        by_cases hlt : k < 64
        · obtain ⟨av, cv, rfl, hW⟩ := ho.bs
          have hlen : (schd b k).length = k := schd_length b k
          rw [hlen] at ho hW ⊢
          obtain ⟨g, og, rfl, hg, hc⟩ := hW.at (by omega)
          have c16 := hc (k - 16) (by omega)
          have c7 := hc (k - 7) (by omega)
          have c15 := hc (k - 15) (by omega)
          have c2 := hc (k - 2) (by omega)
          clear hc
          unfold wt at c16 c7 c15 c2
          obtain ⟨x16, hx16⟩ : ∃ x, (schd b k).getD (k - 16) 0 = x := ⟨_, rfl⟩
          obtain ⟨x15, hx15⟩ : ∃ x, (schd b k).getD (k - 15) 0 = x := ⟨_, rfl⟩
          obtain ⟨x7, hx7⟩ : ∃ x, (schd b k).getD (k - 7) 0 = x := ⟨_, rfl⟩
          obtain ⟨x2, hx2⟩ : ∃ x, (schd b k).getD (k - 2) 0 = x := ⟨_, rfl⟩
          rw [hx16] at c16
          rw [hx15] at c15
          rw [hx7] at c7
          rw [hx2] at c2
          have HX : Hid (schd b (k + 1) = schd b k ++ [x16 + x7 + sgA x15 + sgB x2]) := by
            show _ = _
            rw [schd_high (by omega)]
            unfold wnext
            rw [hx16, hx7, hx15, hx2]
          clear hx16 hx7 hx15 hx2
          have h0 : (16 : Int) ≤ (k : Int) := by omega
          have h8 : (k : Int) < 64 := by omega
          have hi : (0 : Int) ≤ (k : Int) := by omega
          have s16 := wrap_sub (k := k) 16 (by omega) (by omega) (by omega)
          have t16 : (16 : Int) ≤ (k : Int) := by omega
          have p16 : (0 : Int) ≤ (k : Int) - 16 := by omega
          have q16 : (k : Int) - 16 < (k : Int) := by omega
          have r16 : ((k : Int) - 16).toNat = k - 16 := by omega
          have s15 := wrap_sub (k := k) 15 (by omega) (by omega) (by omega)
          have t15 : (15 : Int) ≤ (k : Int) := by omega
          have p15 : (0 : Int) ≤ (k : Int) - 15 := by omega
          have q15 : (k : Int) - 15 < (k : Int) := by omega
          have r15 : ((k : Int) - 15).toNat = k - 15 := by omega
          have s7 := wrap_sub (k := k) 7 (by omega) (by omega) (by omega)
          have t7 : (7 : Int) ≤ (k : Int) := by omega
          have p7 : (0 : Int) ≤ (k : Int) - 7 := by omega
          have q7 : (k : Int) - 7 < (k : Int) := by omega
          have r7 : ((k : Int) - 7).toNat = k - 7 := by omega
          have s2 := wrap_sub (k := k) 2 (by omega) (by omega) (by omega)
          have t2 : (2 : Int) ≤ (k : Int) := by omega
          have p2 : (0 : Int) ≤ (k : Int) - 2 := by omega
          have q2 : (k : Int) - 2 < (k : Int) := by omega
          have r2 : ((k : Int) - 2).toNat = k - 2 := by omega
          go_wp2_with (go_at_call 38; refine (rTurnI _ _ _ (by decide)).mono ?_; rintro e w1 ⟨rfl, rfl⟩)
          rw [sgA_ref, sgB_ref]
          have hv : IntKind.u32.wrap (IntKind.u32.wrap (IntKind.u32.wrap ((x16.toNat : Int) + ((sgA x15).toNat : Int)) + (x7.toNat : Int)) + ((sgB x2).toNat : Int)) = ((x16 + sgA x15 + x7 + sgB x2).toNat : Int) := by rw [w_add, w_add, w_add]
          have b1 : 0 ≤ IntKind.u32.wrap (IntKind.u32.wrap (IntKind.u32.wrap ((x16.toNat : Int) + ((sgA x15).toNat : Int)) + (x7.toNat : Int)) + ((sgB x2).toNat : Int)) := by rw [hv]; omega
          have b2 : IntKind.u32.wrap (IntKind.u32.wrap (IntKind.u32.wrap ((x16.toNat : Int) + ((sgA x15).toNat : Int)) + (x7.toNat : Int)) + ((sgB x2).toNat : Int)) ≤ 4294967295 := by rw [hv]; have := w_lt (x16 + sgA x15 + x7 + sgB x2); omega
          have HE : Hid (schd b k ++ [UInt32.ofNat (IntKind.u32.wrap (IntKind.u32.wrap (IntKind.u32.wrap ((x16.toNat : Int) + ((sgA x15).toNat : Int)) + (x7.toNat : Int)) + ((sgB x2).toNat : Int))).toNat] = schd b (k + 1)) := by
            show _ = _
            rw [hv, one_of, HX.out, sum4]
          clear hv HX
          have hrm : (schd b k).length + [UInt32.ofNat (IntKind.u32.wrap (IntKind.u32.wrap (IntKind.u32.wrap ((x16.toNat : Int) + ((sgA x15).toNat : Int)) + (x7.toNat : Int)) + ((sgB x2).toNat : Int))).toNat].length ≤ 1000000000 := by rw [hlen]; simp; omega
          have hs := hb.size
          go_region_law (refine step_wapp rfl (.tmp 56) (.tmp 72) rfl w.heap.size _ _ rfl (ho.below (below_alloc _ _).drew (Nat.le_refl _)) _ 1 1 [UInt32.ofNat (IntKind.u32.wrap (IntKind.u32.wrap (IntKind.u32.wrap ((x16.toNat : Int) + ((sgA x15).toNat : Int)) + (x7.toNat : Int)) + ((sgB x2).toNat : Int))).toNat] rfl (Ws.one _ _ b1 b2).drew hrm (by simp; omega) ?_; intro v2 w2 ho2 hb2)
          all_goals
            go_wp2_with fail
            go_roundw
            case rel => exact ⟨k + 1, by omega, by omega, by go_num, by rw [← HE.out]; exact ho2, (hb.alloc hs _).drew.trans hb2⟩
            case measure => simp [intOf]; omega
        · obtain ⟨av, cv, rfl, hW⟩ := ho.bs
          have e : k = 64 := by omega
          subst e
          go_wp2
          go_ret
          exact ⟨av, cv, rfl, hW, hb⟩

end Go.Proofs.YtpmdjailpdajkaaDoor
