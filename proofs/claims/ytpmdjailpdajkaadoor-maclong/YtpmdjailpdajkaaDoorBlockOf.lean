/-
  The contract of 'blockOf': a key as one block. Conditions: the package's constants lie where they were laid; a key of at most 90000 bytes.
-/
import Derived.Test.YtpmdjailpdajkaaDoorMacsL
import Derived.Test.YtpmdjailpdajkaaDoorMasked
import Derived.Deep.DeepCutAuto
namespace Go.Proofs.YtpmdjailpdajkaaDoor
open Go.RowKit

theorem cs_blk {l : List UInt8} : splice (cs z64) 0 (cs (keyL l)) = cs (blkL l) := by
  unfold splice blkL z64
  rw [List.take_zero, List.nil_append, Nat.zero_add, cs_append, cs_length]
  congr 1
  unfold cs
  rw [← List.map_drop, List.drop_replicate]

/-- Looks whether the next operation is a copy: for 'with_reducible refine' ahead of the law below. -/
theorem at_cp {args : Array Operand} {tys : Array TypeId} {ops : Array Oper} {rest : List Oper} {a : Act} {w : World} {Q : Exit → Act → World → Prop} {dst : Option Tmp} {tp : TypeId} {pos : String} {aft : Array Edge}
    (h : wpList Tryd.prog ops Q ({ dst := dst, op := .call { callee := .builtin .copy, args := args, argTypes := tys }, type := tp, pos := pos, after := aft, guard := none } :: rest) a w) : wpList Tryd.prog ops Q ({ dst := dst, op := .call { callee := .builtin .copy, args := args, argTypes := tys }, type := tp, pos := pos, after := aft, guard := none } :: rest) a w := h
/-- 'copy(block[:], b)' into a block that is known whole, b no longer than it. -/
theorem wpList_cp {ops : Array Oper} {rest : List Oper} {o : Oper} {a : Act} {Q : Exit → Act → World → Prop} (w : World) (hgd : o.guard = none) (d s : Operand)
    (ho : o.op = .call { callee := .builtin .copy, args := #[d, s], argTypes := #[22, 22] }) (g dl dc : Nat) (hd : a.eval d = .slice (some ⟨g, 0, none⟩) dl dc)
    (sp : Option Addr) (m c : Nat) (hs : a.eval s = .slice sp m c) (l : List UInt8) (hb : Bs w sp m c l) (vs : List Value) (t : TypeId) (blk : Blk w g vs t) (hle : m ≤ dl) (hfit : m ≤ vs.length)
    (h : ∀ v w', Blk w' g (splice vs 0 (cs l)) t → Below g w w' → (∀ k us u, k ≠ g → Blk w k us u → Blk w' k us u) → wpList Tryd.prog ops Q rest (a.put o.dst v) w') : wpList Tryd.prog ops Q (o :: rest) a w := by
  have hl := hb.len
  obtain ⟨i0, hi, hz0, hz1, hz2⟩ := info_parts info5
  have hsz : (Tryd.prog.info? 5).map (·.size) = some 1 := by rw [hi]; simp [hz1]
  by_cases h0 : m = 0
  · subst h0
    obtain rfl : l = [] := List.length_eq_zero_iff.1 hl
    refine wpList_copy_nothing hgd d s 22 22 ho 5 Tryd.underlying22 hsz _ sp dl dc 0 c hd hs (by simp) ?_
    exact h _ w (by simpa [splice, cs] using blk) (Below.refl _ _) (fun _ _ _ _ b => b)
  · obtain ⟨b, o', rfl, _, _⟩ := hb.at (by omega)
    refine wpList_copy_own hgd d s 22 22 ho 5 Tryd.underlying22 hsz g 0 dl dc ⟨b, o', none⟩ m c hd hs vs.toArray t blk (cs l) (by rw [cs_length, hl]; exact (Nat.min_eq_left hle).symm) hb.news (by rw [cs_length, hl]; simpa using hfit) cs_one ?_
    refine h _ _ ?_ ((Below.refl _ _).trans ⟨rfl, rfl, rfl, by simp [World.setRow], fun k hk => setRow_other w g k _ (by omega)⟩) (fun k us u hk b => ?_)
    · unfold Blk
      rw [setRow_heap w g _ _ t (0, 0) blk]
      simp [splice]
    · unfold Blk
      rw [setRow_other w g k _ hk]
      exact b

set_option maxHeartbeats 1000000 in
theorem oBlockOf (w : World) (hK : Kon w) {a : Option Addr} {n c : Nat} {l : List UInt8} (ha : Bs w a n c l) (hz : n ≤ 90000) :
    Calls Tryd.prog 20 #[.slice a n c] w fun e w' => e = .returned (bv (blkL l)) ∧ Below w.heap.size w w' := by
  have hall := all24
  have hall4 := all48
  unfold bv
  go_enter Tryd.func20, Tryd.ntmps20
  go_upto_if 7 with fail
  obtain ⟨W2, hW2⟩ : ∃ W2, W2 = (w.alloc (.cells z48 41)).alloc (.cells z48 41) := ⟨_, rfl⟩
  rw [← hW2]
  have b0 : Blk W2 w.heap.size (cs z64) 41 := by rw [hW2]; exact (Blk.new w z48 _).old _
  have b1 : Blk W2 (w.heap.size + 1) (cs z64) 41 := by rw [hW2]; exact Blk.newAt (w.alloc _) z48 _ _ (by simp) _ rfl
  have hb0 : Below w.heap.size w W2 := by rw [hW2]; exact below2 w _ _
  clear hW2
  have hlen := ha.len
  go_cut [0] (fun v wx => ∃ a' c', v = .slice a' (keyL l).length c' ∧ Bs wx a' (keyL l).length c' (keyL l) ∧ Blk wx w.heap.size (cs z64) 41 ∧ Blk wx (w.heap.size + 1) (cs z64) 41 ∧ Below w.heap.size w wx)
  case first =>
    have ha2 := ha.below hb0 (Nat.le_refl _)
    by_cases h64 : n ≤ 64
    · have E : Hid (keyL l = l) := by show _ = _; unfold keyL; rw [if_pos (by omega)]
      go_wp2_with fail
      go_meet
      case rel => rw [E.out, hlen]; exact ⟨a, c, rfl, ha2, b0, b1, hb0⟩
    · have E : Hid (keyL l = sumL l) := by show _ = _; unfold keyL; rw [if_neg (by omega)]
      have C1 : Hid (Calls Tryd.prog 25 #[.slice (some ⟨W2.heap.size, 0, none⟩) 1 1] (W2.alloc (.cells #[.slice a n c] 22)) fun e w' => e = .returned (.agg (cs (sumL l)).toArray) ∧ Below W2.heap.size W2 w') := oOf1 W2 (hK.below hb0 hK.lt) ha2 (by omega)
      have HO : Hid ((cs (sumL l)).length = 32) := cs_sum l
      go_wp2_with (first
        | (go_at_call 25; refine C1.out.mono ?_; rintro e w1 ⟨rfl, hb1⟩)
        | (with_reducible refine at_st 26 ?_; refine st' 26 (.tmp 4) (.tmp 10) 32 size24 w1.heap.size 0 _ HO.out cs_one ((Blk.new w1 z24 26).there 0 32 (by decide)) rfl rfl ?_; intro w2 hw2
           have b7 : Blk w2 w1.heap.size (cs (sumL l)) 26 := by rw [hw2]; exact (Blk.new w1 z24 26).setsW _ (by rw [HO.out]; rfl)
           have hb2 : Below W2.heap.size W2 w2 := by rw [hw2]; exact below_sets hb1.size _ (hb1.alloc hb1.size _) 0
           clear hw2))
      go_meet
      case rel =>
        rw [E.out, sumL_length]
        exact ⟨_, 32, rfl, sum_bs b7, b0.below hb2 b0.lt, b1.below hb2 b1.lt, hb0.trans (hb2.mono hb0.size)⟩
  case rest =>
    clear b0 b1 hb0
    obtain ⟨a', c', rfl, hB, b0, b1, hb0⟩ := hcut
    have hk64 := keyL_length l
    obtain ⟨m, hm⟩ : ∃ m, (keyL l).length = m := ⟨_, rfl⟩
    have HBL : Hid ((cs (blkL l)).length = 64) := by show _ = _; rw [cs_length, blkL_length]
    have HE : Hid (splice (cs z64) 0 (cs (keyL l)) = cs (blkL l)) := cs_blk
    rw [hm] at hB hk64 ⊢
    clear hm ha hlen hz
    go_wp2_with (first
      | (with_reducible refine at_cp ?_; refine wpList_cp wc rfl (.tmp 12) (.tmp 13) rfl (w.heap.size + 1) 64 64 rfl a' m c' rfl (keyL l) hB (cs z64) 41 b1 hk64 (by rw [cz64]; exact hk64) ?_; intro v2 w2 d1 hb2 hoth; have d0 := hoth _ _ _ (by omega) b0; have hbB := hb0.trans (hb2.mono (by omega)); clear hoth; rw [HE.out] at d1)
      | (with_reducible refine at_ld 41 ?_; refine ld 41 (.tmp 3) 64 size48 _ Tryd.underlying41 rfl (w.heap.size + 1) 0 _ HBL.out d1.whole rfl ?_)
      | (with_reducible refine at_st 41 ?_; refine st 41 (.tmp 2) (.tmp 15) 64 size48 w.heap.size 0 _ HBL.out cs_one (d0.there 0 64 (by rw [cz64]; decide)) rfl rfl ?_))
    have d3 := d0.setsW (cs (blkL l)) (by rw [HBL.out, cz64])
    exact bodyPost_ret (v := .agg (cs (blkL l)).toArray) (res_blk Tryd.results20 _ _ w.heap.size _ _ _ rfl d3 Tryd.underlying41 64 HBL.out size48) rfl ⟨rfl, below_sets (Nat.le_refl _) _ hbB 0⟩

end Go.Proofs.YtpmdjailpdajkaaDoor
