/-
  8 texts in one. No statement of the seat is proved here.
-/
import Derived.Test.YtjpejheipkfanaaDoorG18
import Derived.Deep.DeepCutAuto
/-
  Plain mathematics: lengths of sums under a key, and beginnings of keys. No condition; nothing of the program.
-/
namespace Go.Proofs.YtjpejheipkfanaaDoor
open Go.RowKit

theorem keyL_length (key : List UInt8) : (keyL key).length ≤ 64 := by
  unfold keyL
  split
  · assumption
  · rw [sumL_length]; omega
theorem blkL_length (key : List UInt8) : (blkL key).length = 64 := by
  have := keyL_length key
  unfold blkL
  rw [List.length_append, List.length_replicate]
  omega
theorem macL_length (key text : List UInt8) : (macL key text).length = 32 := sumL_length _
theorem chn_length (key info : List UInt8) (i : Nat) : (chn key info (i + 1)).length = 32 := macL_length _ _
theorem outC_length (key info : List UInt8) (i : Nat) : (outC key info i).length = 32 * i := by
  induction i with
  | zero => rfl
  | succ i ih => rw [outC, List.length_append, ih, chn_length]; omega
theorem outC_more (key info : List UInt8) {n c : Nat} (h : n ≤ 32 * c) (d : Nat) : (outC key info (c + d)).take n = (outC key info c).take n := by
  induction d with
  | zero => rfl
  | succ d ih =>
    rw [← Nat.add_assoc, outC, List.take_append_of_le_length (by rw [outC_length]; omega)]
    exact ih
theorem exp_eq (key info : List UInt8) {n k : Nat} (h : n ≤ 32 * k) : (outC key info k).take n = expL key info n := by
  unfold expL
  have hc : (n + 31) / 32 ≤ k := by omega
  obtain ⟨d, rfl⟩ := Nat.exists_eq_add_of_le hc
  exact outC_more key info (by omega) d
theorem expL_length (key info : List UInt8) (n : Nat) : (expL key info n).length = n := by
  unfold expL
  rw [List.length_take, outC_length]
  omega
theorem exp_begins (key info : List UInt8) (n m : Nat) : (expL key info (n + m)).take n = expL key info n := by
  unfold expL
  rw [List.take_take, Nat.min_eq_left (by omega)]
  exact exp_eq key info (by omega)
/-- One more link of the chain, no more than is asked for. -/
theorem out_step (key info : List UInt8) (n k : Nat) : (outC key info k).take n ++ (chn key info (k + 1)).take (min 32 (n - 32 * k)) = (outC key info (k + 1)).take n := by
  have hl := chn_length key info k
  rw [outC, List.take_append, outC_length]
  congr 1
  by_cases e : n - 32 * k ≤ 32
  · rw [Nat.min_eq_right e]
  · rw [Nat.min_eq_left (by omega), List.take_of_length_le (by omega), List.take_of_length_le (by omega)]

/-- A key that is too long is as good as its sum. -/
theorem blk_long {key : List UInt8} (h : 64 < key.length) : blkL (sumL key) = blkL key := by
  unfold blkL keyL
  rw [if_pos (by rw [sumL_length]; omega), if_neg (by omega)]
theorem mac_long {key : List UInt8} (h : 64 < key.length) (text : List UInt8) : macL (sumL key) text = macL key text := by
  unfold macL
  rw [blk_long h]
/-- Noughts behind a shorter key are of no matter. -/
theorem blk_zeros {key : List UInt8} {n : Nat} (h : key.length + n ≤ 64) : blkL (key ++ List.replicate n 0) = blkL key := by
  unfold blkL keyL
  rw [if_pos (by simp; omega), if_pos (by omega), List.append_assoc, List.replicate_append_replicate]
  congr 2
  simp
  omega
theorem mac_zeros {key : List UInt8} {n : Nat} (h : key.length + n ≤ 64) (text : List UInt8) : macL (key ++ List.replicate n 0) text = macL key text := by
  unfold macL
  rw [blk_zeros h]

end Go.Proofs.YtjpejheipkfanaaDoor

/-
  The contract of 'masked': a block, each byte exclusive-ored. No condition.
-/
namespace Go.Proofs.YtjpejheipkfanaaDoor
open Go.RowKit

theorem all48 (g : Nat) (w : World) : Sem.run Tryd.prog (Instr.sliceAt 128 (.pointer (some ⟨g, 0, none⟩)) none none none) w = .ok (.slice (some ⟨g, 0, none⟩) 64 64) w := by
  rw [run_sliceAt_array_all w 128 _ und48, el48]
  simp only [Result.andThen, slicedAt, len48]
  rfl

/-- What stands in the variable behind k bytes. -/
def mixX (b : List UInt8) (x : UInt8) (k : Nat) : List UInt8 := xorB (b.take k) x ++ b.drop k
theorem mixX_length (b : List UInt8) (x : UInt8) {k : Nat} : (mixX b x k).length = b.length := by simp [mixX, xorB]; omega
theorem mixX_end {b : List UInt8} {x : UInt8} {k : Nat} (h : b.length ≤ k) : mixX b x k = xorB b x := by
  unfold mixX
  rw [List.take_of_length_le h, List.drop_eq_nil_of_le h, List.append_nil]
theorem mixX_at {b : List UInt8} {x : UInt8} {k : Nat} (h : k < b.length) : (cs (mixX b x k))[k]? = some (.int .u8 (bt b k)) := by
  have hl : (xorB (b.take k) x).length = k := by simp [xorB]; omega
  rw [cs_get (by rw [mixX_length]; exact h)]
  unfold bt mixX
  rw [List.getD_eq_getElem?_getD, List.getElem?_append_right (by omega), hl, Nat.sub_self, List.getElem?_drop, Nat.add_zero, ← List.getD_eq_getElem?_getD]
theorem mixX_set {b : List UInt8} {x : UInt8} {k : Nat} (h : k < b.length) : (cs (mixX b x k)).set k (.int .u8 ((b.getD k 0 ^^^ x).toNat : Int)) = cs (mixX b x (k + 1)) := by
  have hl : (xorB (b.take k) x).length = k := by simp [xorB]; omega
  have e : (mixX b x k).set k (b.getD k 0 ^^^ x) = mixX b x (k + 1) := by
    unfold mixX
    rw [List.set_append, if_neg (by omega), hl, Nat.sub_self, List.drop_eq_getElem_cons h, List.set_cons_zero, take_snoc h]
    unfold xorB
    rw [List.map_append, List.append_assoc, List.getD_eq_getElem?_getD, List.getElem?_eq_getElem h]
    rfl
  rw [← e]
  simp [cs, List.map_set]
set_option maxHeartbeats 1000000 in
theorem oMasked (w : World) (b : List UInt8) (hl : b.length = 64) (x : UInt8) :
    Calls Tryd.prog 70 #[bv b, .int .u8 (x.toNat : Int)] w fun e w' => e = .returned (.slice (some ⟨w.heap.size, 0, none⟩) 64 64) ∧ Bs w' (some ⟨w.heap.size, 0, none⟩) 64 64 (xorB b x) ∧ Below w.heap.size w w' := by
  have hall := all48
  unfold bv
  go_enter Tryd.func70, Tryd.ntmps70
  go_wp2_with fail
  go_loopw [5, 6] (fun _ i wr => ∃ k : Nat, k ≤ 64 ∧ i = .int .i64 k ∧ Blk wr w.heap.size (cs (mixX b x k)) 128 ∧ Below w.heap.size w wr) (fun _ i _ => 64 - (intOf i).toNat)
  case atStart => exact ⟨0, by omega, rfl, Blk.new w _ _, below_alloc w _⟩
  case round =>
    obtain ⟨k, hk, rfl, b0, hb⟩ := hrel
    by_cases hlt : k < 64
    · have c0 := b0.cell k
      rw [mixX_at (by omega)] at c0
      unfold bt at c0
      have f0 := b0.free k
      have h0 : (0 : Int) ≤ (k : Int) := by omega
      have h8 : (k : Int) < 64 := by omega
      have b1 := b0.setC k (.int .u8 ((b.getD k 0 ^^^ x).toNat : Int))
      rw [mixX_set (by omega), ← xor_u8] at b1
      generalize hp : b.getD k 0 = p at c0 b1
      clear hp
      have B1 : Hid (Blk (wr.setCell ⟨w.heap.size, k, none⟩ (.int .u8 (bits .xor .u8 (p.toNat : Int) (x.toNat : Int)))) w.heap.size (cs (mixX b x (k + 1))) 128) := b1
      clear b1
      go_wp2_with fail
      go_roundw
      case rel => exact ⟨k + 1, by omega, by go_num, B1.out, hb.setCell (Nat.le_refl _) _⟩
      case measure => simp [intOf]; omega
    · rw [mixX_end (by omega)] at b0
      go_wp2
      go_ret
      have := b0.bs 0 64 (xorB b x) (fun j v h => by rw [Nat.zero_add]; exact h) (by rw [xorB_length]; omega) (by omega)
      rw [xorB_length, hl] at this
      exact ⟨rfl, this, hb⟩

end Go.Proofs.YtjpejheipkfanaaDoor

/-
  The contract of the reference's turned: a key's block, each byte exclusive-ored. Condition: rows of at most 90000 bytes.
-/
namespace Go.Proofs.YtjpejheipkfanaaDoor
open Go.RowKit

theorem blk_in {key : List UInt8} {k : Nat} (h : k < (keyL key).length) : (blkL key).getD k 0 = (keyL key).getD k 0 := by
  unfold blkL
  rw [List.getD_eq_getElem?_getD, List.getElem?_append_left h, ← List.getD_eq_getElem?_getD]
theorem blk_out {key : List UInt8} {k : Nat} (h : ¬ k < (keyL key).length) : (blkL key).getD k 0 = 0 := by
  unfold blkL
  rw [List.getD_eq_getElem?_getD, List.getElem?_append_right (by omega), List.getElem?_replicate]
  split <;> rfl
theorem xor_snoc {b : List UInt8} {k : Nat} (h : k < b.length) (x : UInt8) : xorB (b.take k) x ++ [b.getD k 0 ^^^ x] = xorB (b.take (k + 1)) x := by
  rw [take_snoc h, List.getD_eq_getElem?_getD, List.getElem?_eq_getElem h]
  unfold xorB
  rw [List.map_append]
  rfl
end Go.Proofs.YtjpejheipkfanaaDoor

/-
  The contract of the reference's Of: the sum under a key. Condition: rows of at most 90000 bytes.
-/
namespace Go.Proofs.YtjpejheipkfanaaDoor
open Go.RowKit

end Go.Proofs.YtjpejheipkfanaaDoor

/-
  The contract of the reference's Join: parts, one behind the other. Condition: the parts have at most 100000 bytes in all.
-/
namespace Go.Proofs.YtjpejheipkfanaaDoor
open Go.RowKit

end Go.Proofs.YtjpejheipkfanaaDoor

/-
  The contract of 'blockOf': a key as one block. Conditions: the package's constants lie where they were laid; a key of at most 90000 bytes.
-/
namespace Go.Proofs.YtjpejheipkfanaaDoor
open Go.RowKit

theorem cs_blk {l : List UInt8} : splice (cs z64) 0 (cs (keyL l)) = cs (blkL l) := by
  unfold splice blkL z64
  rw [List.take_zero, List.nil_append, Nat.zero_add, cs_append, cs_length]
  congr 1
  unfold cs
  rw [← List.map_drop, List.drop_replicate]

/-- 'copy(block[:], b)' into a block that is known whole, b no longer than it. -/
theorem wpList_cp {ops : Array Oper} {rest : List Oper} {o : Oper} {a : Act} {Q : Exit → Act → World → Prop} (w : World) (hgd : o.guard = none) (d s : Operand)
    (ho : o.op = .call { callee := .builtin .copy, args := #[d, s], argTypes := #[22, 22] }) (g dl dc : Nat) (hd : a.eval d = .slice (some ⟨g, 0, none⟩) dl dc)
    (sp : Option Addr) (m c : Nat) (hs : a.eval s = .slice sp m c) (l : List UInt8) (hb : Bs w sp m c l) (vs : List Value) (t : TypeId) (blk : Blk w g vs t) (hle : m ≤ dl) (hfit : m ≤ vs.length)
    (h : ∀ v w', Blk w' g (splice vs 0 (cs l)) t → Below g w w' → (∀ k us u, k ≠ g → Blk w k us u → Blk w' k us u) → wpList Tryd.prog ops Q rest (a.put o.dst v) w') : wpList Tryd.prog ops Q (o :: rest) a w := by
  have hl := hb.len
  obtain ⟨i0, hi, hz0, hz1, hz2⟩ := info_parts info5
  have hsz : (Tryd.prog.info? 5).map (·.size) = some 1 := by rw [hi]; simp [hz1]
  by_cases h0 : m = 0
  · subst h0
    obtain rfl : l = [] := List.length_eq_zero_iff.1 hl
    refine wpList_copy_nothing hgd d s 22 22 ho 5 Tryd.underlying22 hsz _ sp dl dc 0 c hd hs (by simp) ?_
    exact h _ w (by simpa [splice, cs] using blk) (Below.refl _ _) (fun _ _ _ _ b => b)
  · obtain ⟨b, o', rfl, _, _⟩ := hb.at (by omega)
    refine wpList_copy_own hgd d s 22 22 ho 5 Tryd.underlying22 hsz g 0 dl dc ⟨b, o', none⟩ m c hd hs vs.toArray t blk (cs l) (by rw [cs_length, hl]; exact (Nat.min_eq_left hle).symm) hb.news (by rw [cs_length, hl]; simpa using hfit) cs_one ?_
    refine h _ _ ?_ ((Below.refl _ _).trans ⟨rfl, rfl, rfl, by simp [World.setRow], fun k hk => setRow_other w g k _ (by omega)⟩) (fun k us u hk b => ?_)
    · unfold Blk
      rw [setRow_heap w g _ _ t (0, 0) blk]
      simp [splice]
    · unfold Blk
      rw [setRow_other w g k _ hk]
      exact b

set_option maxHeartbeats 1000000 in
theorem oBlockOf (w : World) (hK : Kon w) {a : Option Addr} {n c : Nat} {l : List UInt8} (ha : Bs w a n c l) (hz : n ≤ 90000) :
    Calls Tryd.prog 67 #[.slice a n c] w fun e w' => e = .returned (bv (blkL l)) ∧ Below w.heap.size w w' := by
  have hall := all24
  have hall4 := all48
  unfold bv
  go_enter Tryd.func67, Tryd.ntmps67
  go_upto_if 7 with fail
  obtain ⟨W2, hW2⟩ : ∃ W2, W2 = (w.alloc (.cells z48 128)).alloc (.cells z48 128) := ⟨_, rfl⟩
  rw [← hW2]
  have b0 : Blk W2 w.heap.size (cs z64) 128 := by rw [hW2]; exact (Blk.new w z48 _).old _
  have b1 : Blk W2 (w.heap.size + 1) (cs z64) 128 := by rw [hW2]; exact Blk.newAt (w.alloc _) z48 _ _ (by simp) _ rfl
  have hb0 : Below w.heap.size w W2 := by rw [hW2]; exact below2 w _ _
  clear hW2
  have hlen := ha.len
  go_cut [0] (fun v wx => ∃ a' c', v = .slice a' (keyL l).length c' ∧ Bs wx a' (keyL l).length c' (keyL l) ∧ Blk wx w.heap.size (cs z64) 128 ∧ Blk wx (w.heap.size + 1) (cs z64) 128 ∧ Below w.heap.size w wx)
  case first =>
    have ha2 := ha.below hb0 (Nat.le_refl _)
    by_cases h64 : n ≤ 64
    · have E : Hid (keyL l = l) := by show _ = _; unfold keyL; rw [if_pos (by omega)]
      go_wp2_with fail
      go_meet
      case rel => rw [E.out, hlen]; exact ⟨a, c, rfl, ha2, b0, b1, hb0⟩
    · have E : Hid (keyL l = sumL l) := by show _ = _; unfold keyL; rw [if_neg (by omega)]
      have C1 : Hid (Calls Tryd.prog 72 #[.slice (some ⟨W2.heap.size, 0, none⟩) 1 1] (W2.alloc (.cells #[.slice a n c] 22)) fun e w' => e = .returned (.agg (cs (sumL l)).toArray) ∧ Below W2.heap.size W2 w') := oOf1 W2 (hK.below hb0 hK.lt) ha2 (by omega)
      have HO : Hid ((cs (sumL l)).length = 32) := cs_sum l
      go_wp2_with (first
        | (go_at_call 72; refine C1.out.mono ?_; rintro e w1 ⟨rfl, hb1⟩)
        | (with_reducible refine at_st 111 ?_; refine st' 111 (.tmp 4) (.tmp 10) 32 size24 w1.heap.size 0 _ HO.out cs_one ((Blk.new w1 z24 111).there 0 32 (by decide)) rfl rfl ?_; intro w2 hw2
           have b7 : Blk w2 w1.heap.size (cs (sumL l)) 111 := by rw [hw2]; exact (Blk.new w1 z24 111).setsW _ (by rw [HO.out]; rfl)
           have hb2 : Below W2.heap.size W2 w2 := by rw [hw2]; exact below_sets hb1.size _ (hb1.alloc hb1.size _) 0
           clear hw2))
      go_meet
      case rel =>
        rw [E.out, sumL_length]
        exact ⟨_, 32, rfl, sum_bs b7, b0.below hb2 b0.lt, b1.below hb2 b1.lt, hb0.trans (hb2.mono hb0.size)⟩
  case rest =>
    clear b0 b1 hb0
    obtain ⟨a', c', rfl, hB, b0, b1, hb0⟩ := hcut
    have hk64 := keyL_length l
    obtain ⟨m, hm⟩ : ∃ m, (keyL l).length = m := ⟨_, rfl⟩
    have HBL : Hid ((cs (blkL l)).length = 64) := by show _ = _; rw [cs_length, blkL_length]
    have HE : Hid (splice (cs z64) 0 (cs (keyL l)) = cs (blkL l)) := cs_blk
    rw [hm] at hB hk64 ⊢
    clear hm ha hlen hz
    go_wp2_with (first
      | (with_reducible refine at_cp ?_; refine wpList_cp wc rfl (.tmp 12) (.tmp 13) rfl (w.heap.size + 1) 64 64 rfl a' m c' rfl (keyL l) hB (cs z64) 128 b1 hk64 (by rw [cz64]; exact hk64) ?_; intro v2 w2 d1 hb2 hoth; have d0 := hoth _ _ _ (by omega) b0; have hbB := hb0.trans (hb2.mono (by omega)); clear hoth; rw [HE.out] at d1)
      | (with_reducible refine at_ld 128 ?_; refine ld 128 (.tmp 3) 64 size48 _ Tryd.underlying128 rfl (w.heap.size + 1) 0 _ HBL.out d1.whole rfl ?_)
      | (with_reducible refine at_st 128 ?_; refine st 128 (.tmp 2) (.tmp 15) 64 size48 w.heap.size 0 _ HBL.out cs_one (d0.there 0 64 (by rw [cz64]; decide)) rfl rfl ?_))
    have d3 := d0.setsW (cs (blkL l)) (by rw [HBL.out, cz64])
    exact bodyPost_ret (v := .agg (cs (blkL l)).toArray) (res_blk Tryd.results67 _ _ w.heap.size _ _ _ rfl d3 Tryd.underlying128 64 HBL.out size48) rfl ⟨rfl, below_sets (Nat.le_refl _) _ hbB 0⟩

end Go.Proofs.YtjpejheipkfanaaDoor

/-
  The contract of mac.Of: the sum of parts, one behind the other, under a key. Conditions: the package's constants lie where they were laid; a key and parts of at most 90000 bytes.
-/
namespace Go.Proofs.YtjpejheipkfanaaDoor
open Go.RowKit

theorem oMaskedI (w : World) (b : List UInt8) (hl : b.length = 64) :
    Calls Tryd.prog 70 #[.agg (cs b).toArray, .int .u8 54] w fun e w' => e = .returned (.slice (some ⟨w.heap.size, 0, none⟩) 64 64) ∧ Bs w' (some ⟨w.heap.size, 0, none⟩) 64 64 (xorB b 54) ∧ Below w.heap.size w w' := by
  have := oMasked w b hl 54
  rw [show (((54 : UInt8).toNat : Nat) : Int) = 54 from rfl] at this
  exact this
theorem oMaskedO (w : World) (b : List UInt8) (hl : b.length = 64) :
    Calls Tryd.prog 70 #[.agg (cs b).toArray, .int .u8 92] w fun e w' => e = .returned (.slice (some ⟨w.heap.size, 0, none⟩) 64 64) ∧ Bs w' (some ⟨w.heap.size, 0, none⟩) 64 64 (xorB b 92) ∧ Below w.heap.size w w' := by
  have := oMasked w b hl 92
  rw [show (((92 : UInt8).toNat : Nat) : Int) = 92 from rfl] at this
  exact this
theorem oOf2 (w : World) (hK : Kon w) {a1 a2 : Option Addr} {n1 c1 n2 c2 : Nat} {l1 l2 : List UInt8} (h1 : Bs w a1 n1 c1 l1) (h2 : Bs w a2 n2 c2 l2) (hz : n1 + n2 ≤ 100000) :
    Calls Tryd.prog 72 #[.slice (some ⟨w.heap.size, 0, none⟩) 2 2] (w.alloc (.cells #[.slice a1 n1 c1, .slice a2 n2 c2] 22)) fun e w' => e = .returned (.agg (cs (sumL (l1 ++ l2))).toArray) ∧ Below w.heap.size w w' := by
  have hb := below_alloc w (.cells #[.slice a1 n1 c1, .slice a2 n2 c2] 22)
  have := oOf _ (hK.below hb hK.lt) (Bss.two h1 h2) (by have := h1.len; have := h2.len; simp [tot]; omega)
  refine this.mono ?_
  rintro e w' ⟨rfl, hb'⟩
  refine ⟨?_, hb.trans (hb'.mono hb.size)⟩
  simp [bv]

theorem blk32 {w : World} {g : Nat} {Z : List UInt8} {t : TypeId} (h : Blk w g (cs Z) t) (hl : Z.length = 32) : Bs w (some ⟨g, 0, none⟩) 32 32 Z := by
  have := h.bs 0 32 Z cs_self (by omega) (by omega)
  rw [hl] at this
  exact this

set_option maxRecDepth 100000 in
set_option maxHeartbeats 2000000 in
theorem oMac (w : World) (hK : Kon w) {a p : Option Addr} {n c pn pc : Nat} {l : List UInt8} {ls : List (List UInt8)} (ha : Bs w a n c l) (hz : n ≤ 90000) (hp : Bss w p pn pc ls) (ht : tot ls ≤ 90000) :
    Calls Tryd.prog 52 #[.slice a n c, .slice p pn pc] w fun e w' => e = .returned (.agg (cs (macL l ls.flatten)).toArray) ∧ Below w.heap.size w w' := by
  have HN : Hid (ls.length = pn) := hp.len
  have hn1 := hp.max
  obtain ⟨B, hB⟩ : ∃ B, B = blkL l := ⟨_, rfl⟩
  obtain ⟨X, hX⟩ : ∃ X, X = xorB B 54 := ⟨_, rfl⟩
  obtain ⟨Y, hY⟩ : ∃ Y, Y = xorB B 92 := ⟨_, rfl⟩
  have HBL : Hid (B.length = 64) := by show _ = _; rw [hB, blkL_length]
  have HCB : Hid ((cs B).length = 64) := by show _ = _; rw [cs_length]; exact HBL.out
  have HL1 : Hid (X.length = 64) := by show _ = _; rw [hX, xorB_length]; exact HBL.out
  have HL2 : Hid (Y.length = 64) := by show _ = _; rw [hY, xorB_length]; exact HBL.out
  have C0 : Hid (∀ w, Kon w → Bs w a n c l → Calls Tryd.prog 67 #[.slice a n c] w fun e w' => e = .returned (.agg (cs B).toArray) ∧ Below w.heap.size w w') := fun w hK h => by rw [hB]; exact oBlockOf w hK h hz
  have C1 : Hid (∀ w : World, Calls Tryd.prog 70 #[.agg (cs B).toArray, .int .u8 54] w fun e w' => e = .returned (.slice (some ⟨w.heap.size, 0, none⟩) 64 64) ∧ Bs w' (some ⟨w.heap.size, 0, none⟩) 64 64 X ∧ Below w.heap.size w w') := fun w => by rw [hX]; exact oMaskedI w B HBL.out
  have C2 : Hid (∀ w : World, Calls Tryd.prog 70 #[.agg (cs B).toArray, .int .u8 92] w fun e w' => e = .returned (.slice (some ⟨w.heap.size, 0, none⟩) 64 64) ∧ Bs w' (some ⟨w.heap.size, 0, none⟩) 64 64 Y ∧ Below w.heap.size w w') := fun w => by rw [hY]; exact oMaskedO w B HBL.out
  have E : Hid (macL l ls.flatten = sumL (Y ++ sumL (X ++ ls.flatten))) := by show _ = _; rw [hX, hY, hB]; rfl
  rw [E.out]
  obtain ⟨Z, hZ⟩ : ∃ Z, Z = sumL (X ++ ls.flatten) := ⟨_, rfl⟩
  obtain ⟨V, hV⟩ : ∃ V, V = sumL (Y ++ Z) := ⟨_, rfl⟩
  have HZ : Hid (Z.length = 32) := by show _ = _; rw [hZ, sumL_length]
  have HO : Hid ((cs Z).length = 32) := by show _ = _; rw [cs_length]; exact HZ.out
  have HV : Hid ((cs V).length = 32) := by show _ = _; rw [cs_length, hV, sumL_length]
  have CS : Hid (∀ (wr : World) (r : Nat), Kon wr → Sta wr r (X ++ ls.flatten) → Calls Tryd.prog 71 #[.pointer (some ⟨r, 0, none⟩)] wr fun e w' => e = .returned (.agg (cs Z).toArray) ∧ Below wr.heap.size wr w') := fun wr r hK1 hS => by
    rw [hZ]
    exact oSum wr hK1 r _ hS (by rw [List.length_append, tot_flatten, HL1.out]; omega)
  have CO : Hid (∀ (w : World) (a1 a2 : Option Addr) (n1 c1 n2 c2 : Nat), Kon w → Bs w a1 n1 c1 Y → Bs w a2 n2 c2 Z → Calls Tryd.prog 72 #[.slice (some ⟨w.heap.size, 0, none⟩) 2 2] (w.alloc (.cells #[.slice a1 n1 c1, .slice a2 n2 c2] 22)) fun e w' => e = .returned (.agg (cs V).toArray) ∧ Below w.heap.size w w') := fun w a1 a2 n1 c1 n2 c2 hK h1 h2 => by
    rw [hV]
    exact oOf2 w hK h1 h2 (by have := h1.len; have := h2.len; have := HL2.out; have := HZ.out; omega)
  rw [← hZ, ← hV]
  clear hX hY hB E hZ hV
  go_enter Tryd.func52, Tryd.ntmps52
  go_wp2_with fail
  obtain ⟨W1, hW1⟩ : ∃ W1, W1 = w.alloc (.cells z24 111) := ⟨_, rfl⟩
  rw [← hW1]
  have b4 : Blk W1 w.heap.size (cs (List.replicate 32 0)) 111 := by rw [hW1]; exact Blk.new w _ _
  have q1 : Below w.heap.size w W1 := by rw [hW1]; exact below_alloc w _
  clear hW1
  refine (C0.out W1 (hK.below q1 hK.lt) (ha.below q1 (Nat.le_refl _))).mono ?_
  rintro e w2 ⟨rfl, hb2⟩
  have q2 := q1.trans (hb2.mono q1.size)
  go_wp2_with (first
    | (with_reducible refine at_st 128 ?_; refine st' 128 (.tmp 5) (.tmp 11) 64 size48 w2.heap.size 0 _ HCB.out cs_one ((Blk.new w2 z48 128).there 0 64 (by decide)) rfl rfl ?_; intro w3 hw3
       have b5 : Blk w3 w2.heap.size (cs B) 128 := by rw [hw3]; exact (Blk.new w2 z48 128).setsW _ (by rw [HCB.out]; rfl)
       have hb3 : Below w2.heap.size w2 w3 := by rw [hw3]; exact below_sets (Nat.le_refl _) _ (below_alloc _ _) 0
       clear hw3))
  have q3 := q2.trans (hb3.mono q2.size)
  have hg5 : w.heap.size < w2.heap.size := Nat.lt_of_lt_of_le b4.lt hb2.size
  have d4 := (b4.below hb2 b4.lt).below hb3 hg5
  generalize hG : w2.heap.size = g5 at *
  clear hG hb2 hb3 b4 q2 q1
  refine (oNew w3).mono ?_
  rintro e w4 ⟨r, rfl, hr, hS, hb4⟩
  have q4 := q3.trans (hb4.mono q3.size)
  have hrw : g5 < r := Nat.lt_of_lt_of_le b5.lt hr
  have e4 := d4.below hb4 d4.lt
  have e5 := b5.below hb4 b5.lt
  clear d4 b5 hb4 q3 hr
  go_wp2_with (first
    | (with_reducible refine at_ld 128 ?_; refine ld 128 (.tmp 5) 64 size48 _ Tryd.underlying128 rfl g5 0 _ HCB.out e5.whole rfl ?_))
  refine (C1.out w4).mono ?_
  rintro e w5 ⟨rfl, hB5, hb5⟩
  have hS5 := hS.below hb5 hS.lt
  have hrl := hS.lt
  have f4 := e4.below hb5 e4.lt
  have f5 := e5.below hb5 e5.lt
  have q5 := q4.trans (hb5.mono q4.size)
  clear hS e4 e5 hb5 q4
  go_wp2_with fail
  refine (oWrite w5 (hK.below q5 hK.lt) r [] hS5 hB5 (by omega) (fun _ x hx => by simp at hx; rw [← hx]; simp; omega) (by rw [HL1.out]; simp)).mono ?_
  rintro e w6 ⟨rfl, hS6, hg6⟩
  rw [List.nil_append] at hS6
  have b4 : Blk w6 w.heap.size (cs (List.replicate 32 0)) 111 := by unfold Blk; rw [hg6.block _ f4.lt (by simp; omega)]; exact f4
  have b5 : Blk w6 g5 (cs B) 128 := by unfold Blk; rw [hg6.block _ f5.lt (by simp; omega)]; exact f5
  have q6 : Below w.heap.size w w6 := q5.grown hg6 q5.size (fun i hi => by simp at hi; omega)
  clear f4 f5 hS5 hB5 hg6 q5 hrl
  go_wp2_with fail
  go_loopw [8, 19] (fun _ i wr => ∃ k : Nat, k ≤ pn ∧ i = .int .i64 k ∧ Sta wr r (X ++ (ls.take k).flatten) ∧ Blk wr w.heap.size (cs (List.replicate 32 0)) 111 ∧ Blk wr g5 (cs B) 128 ∧ Below w.heap.size w wr) (fun _ i _ => pn - (intOf i).toNat)
  case atStart => exact ⟨0, by omega, rfl, by simpa using hS6, b4, b5, q6⟩
  case round =>
    clear hS6 b4 b5 q6 C0 C1
    obtain ⟨k, hk, rfl, hS, b4, b5, hb⟩ := hrel
    have hrl := hS.lt
    by_cases hlt : k < pn
    · obtain ⟨x, o, rfl, hx, hc⟩ := hp.at (by omega)
      obtain ⟨pp, m, q, c1, hpp⟩ := Bss.part hc hb k hlt
      have hpw := hpp.below hb (Nat.le_refl _)
      have HS : Hid (X ++ (ls.take k).flatten ++ ls.getD k [] = X ++ (ls.take (k + 1)).flatten) := by show _ = _; rw [List.append_assoc, flat_step (by rw [HN.out]; exact hlt)]
      have hK1 := hK.below hb hK.lt
      have CW : Hid (Calls Tryd.prog 69 #[.pointer (some ⟨r, 0, none⟩), .slice pp m q] wr fun e w' => e = .returned (.tuple #[]) ∧ Sta w' r (X ++ (ls.take (k + 1)).flatten) ∧ wr.grownBy w' (some r)) := by
        have := oWrite wr hK1 r _ hS hpw (by omega) (fun h y hy => by have := hpp.lt h y hy; omega) (by
          have h1 := flat_len_take (k := k + 1) (ls := ls) (by omega)
          have h2 := HL1.out
          have h3 := congrArg List.length HS.out
          simp only [List.length_append] at h3 ⊢
          omega)
        rw [HS.out] at this
        exact this
      go_wp2_with (first | (go_at_call 69; refine CW.out.mono ?_; rintro e w2 ⟨rfl, hS2, hg2⟩))
      go_roundw
      case rel =>
        refine ⟨k + 1, by omega, by go_num, hS2, ?_, ?_, hb.grown hg2 hb.size (fun i hi => by simp at hi; omega)⟩
        · unfold Blk
          rw [hg2.block _ b4.lt (by simp; omega)]
          exact b4
        · unfold Blk
          rw [hg2.block _ b5.lt (by simp; omega)]
          exact b5
      case measure => simp [intOf]; omega
    · have e : ls.take k = ls := List.take_of_length_le (by rw [HN.out]; omega)
      rw [e] at hS
      clear e
      have hK1 := hK.below hb hK.lt
      have hall := all24
      go_wp2_with (first
        | (go_at_call 71; refine (CS.out wr r hK1 hS).mono ?_; rintro e w2 ⟨rfl, hb2⟩; have d4 := b4.below hb2 b4.lt; have d5 := b5.below hb2 b5.lt)
        | (with_reducible refine at_st 111 ?_; refine st' 111 (.tmp 9) (.tmp 28) 32 size24 w2.heap.size 0 _ HO.out cs_one ((Blk.new w2 z24 111).there 0 32 (by decide)) rfl rfl ?_; intro w3 hw3
           have b9 : Blk w3 w2.heap.size (cs Z) 111 := by rw [hw3]; exact (Blk.new w2 z24 111).setsW _ (by rw [HO.out]; rfl)
           have hb3 : Below w2.heap.size w2 w3 := by rw [hw3]; exact below_sets (Nat.le_refl _) _ (below_alloc _ _) 0
           clear hw3))
      simp only [Act.put]
      have hb3' : Below w.heap.size w w3 := (hb.trans (hb2.mono hb.size)).trans (hb3.mono (Nat.le_trans hb.size hb2.size))
      have x4 := d4.below hb3 d4.lt
      have x5 := d5.below hb3 d5.lt
      have hrest : w3.rangeAt g5 0 (cs B) := x5.whole
      have hu := Tryd.underlying128
      have hi : (Tryd.prog.info? 128).map (·.size) = some (cs B).length := by rw [size48, HCB.out]
      have hl := HCB.out
      have hi2 : (Tryd.prog.info? 111).map (·.size) = some (cs V).length := by rw [size24, HV.out]
      have hl2 := HV.out
      have h1 : ∀ v ∈ cs V, v.oneCell' = true := cs_one
      have CO' := CO
      generalize hg9 : w2.heap.size = g9 at *
      clear hg9 d4 d5 b4 b5 hb2 hb3 hS CS hb hK1
      go_region_held3 (fun w' => w'.rangeAt g5 0 (cs B)) (first | assumption | exact r6 | exact (y5.old _).whole | exact r7 | exact r8 | go_keep)
        (first
          | (go_at_call 70; refine (C2.out _).mono ?_; rintro e w5 ⟨rfl, hB5, hb5⟩; have y4 := x4.dr.below hb5 x4.lt; have y5 := x5.dr.below hb5 x5.lt; have y9 := b9.dr.below hb5 b9.lt; have q5 := hb3'.drew.trans (hb5.mono hb3'.size); have r6 := y5.whole; have hB5' : Bs w5 (some ⟨w3.heap.size, 0, none⟩) 64 64 Y := hB5; have hB9 : Bs w5 (some ⟨g9, 0, none⟩) 32 32 Z := blk32 y9 HZ.out)
          | (go_at_call 72; go_must (refine (CO.out w5 _ _ _ _ _ _ (hK.below q5 hK.lt) hB5' hB9).mono ?_); rintro e w7 ⟨rfl, hb7⟩; have z4 := y4.below hb7 y4.lt; have z5 := y5.below hb7 y5.lt; have q7 := q5.trans (hb7.mono q5.size); have r7 := z5.whole; have r8 := (Blk.setsO (show g5 ≠ w.heap.size by omega) (cs V) z5 0).whole; have t4 := z4.there 0 32 (by rw [cs_length]; decide)))
      go_wp2_with fail
      have z6 := z4.setsW (cs V) (by rw [HV.out]; rfl)
      exact bodyPost_ret (v := .agg (cs V).toArray) (res_blk Tryd.results52 _ _ w.heap.size _ _ _ rfl z6 Tryd.underlying111 32 HV.out size24) rfl ⟨rfl, below_sets (Nat.le_refl _) _ q7 0⟩

end Go.Proofs.YtjpejheipkfanaaDoor

/-
  The contract of Extract: the sum of a text under a salt, as a slice. Conditions: the package's constants lie where they were laid; rows of at most 90000 bytes.
-/
namespace Go.Proofs.YtjpejheipkfanaaDoor
open Go.RowKit

theorem oMac1 (w : World) (hK : Kon w) {a b : Option Addr} {n c m q : Nat} {l t : List UInt8} (ha : Bs w a n c l) (hz : n ≤ 90000) (hb : Bs w b m q t) (hm : m ≤ 90000) :
    Calls Tryd.prog 52 #[.slice a n c, .slice (some ⟨w.heap.size, 0, none⟩) 1 1] (w.alloc (.cells #[.slice b m q] 22)) fun e w' => e = .returned (.agg (cs (macL l t)).toArray) ∧ Below w.heap.size w w' := by
  have hb' := below_alloc w (.cells #[.slice b m q] 22)
  have := oMac _ (hK.below hb' hK.lt) (ha.below hb' (Nat.le_refl _)) hz (Bss.one1 hb) (by have := hb.len; simp [tot]; omega)
  refine this.mono ?_
  rintro e w' ⟨rfl, hb2⟩
  refine ⟨?_, hb'.trans (hb2.mono hb'.size)⟩
  simp
theorem cs_mac (l t : List UInt8) : (cs (macL l t)).length = 32 := by rw [cs_length, macL_length]

set_option maxRecDepth 100000 in
set_option maxHeartbeats 1000000 in
theorem oExtract (w : World) (hK : Kon w) {a b : Option Addr} {n c m q : Nat} {l t : List UInt8} (ha : Bs w a n c l) (hz : n ≤ 90000) (hb : Bs w b m q t) (hm : m ≤ 90000) :
    Calls Tryd.prog 43 #[.slice a n c, .slice b m q] w fun e w' => ∃ g, e = .returned (.slice (some ⟨g, 0, none⟩) 32 32) ∧ Bs w' (some ⟨g, 0, none⟩) 32 32 (macL l t) ∧ Below w.heap.size w w' := by
  have hall := all24
  have HO : Hid ((cs (macL l t)).length = 32) := cs_mac l t
  have C1 : Hid (Calls Tryd.prog 52 #[.slice a n c, .slice (some ⟨w.heap.size, 0, none⟩) 1 1] (w.alloc (.cells #[.slice b m q] 22)) fun e w' => e = .returned (.agg (cs (macL l t)).toArray) ∧ Below w.heap.size w w') := oMac1 w hK ha hz hb hm
  go_enter Tryd.func43, Tryd.ntmps43
  go_wp2_with (first
    | (go_at_call 52; refine C1.out.mono ?_; rintro e w1 ⟨rfl, hb1⟩)
    | (with_reducible refine at_st 111 ?_; refine st' 111 (.tmp 5) (.tmp 9) 32 size24 w1.heap.size 0 _ HO.out cs_one ((Blk.new w1 z24 111).there 0 32 (by decide)) rfl rfl ?_; intro w2 hw2
       have b5 : Blk w2 w1.heap.size (cs (macL l t)) 111 := by rw [hw2]; exact (Blk.new w1 z24 111).setsW _ (by rw [HO.out]; rfl)
       have hb2 : Below w.heap.size w w2 := by rw [hw2]; exact below_sets hb1.size _ (hb1.alloc hb1.size _) 0
       clear hw2))
  go_ret
  exact ⟨w1.heap.size, rfl, blk32 b5 (macL_length l t), hb2⟩

end Go.Proofs.YtjpejheipkfanaaDoor
