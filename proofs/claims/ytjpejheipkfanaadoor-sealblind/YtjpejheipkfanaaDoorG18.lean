/-
  8 texts in one. No statement of the seat is proved here.
-/
import Derived.Test.YtjpejheipkfanaaDoorG17
import Derived.Laws.BytesArg
import Derived.Laws.IdiomStrings
/-
  The contract of Of: the sum of parts, one behind the other. Conditions: the package's constants lie where they were laid; the parts have at most 100000 bytes in all.
-/
namespace Go.Proofs.YtjpejheipkfanaaDoor
open Go.RowKit

theorem flat_len_take {ls : List (List UInt8)} {k : Nat} (hz : tot ls ≤ 100000) : (ls.take k).flatten.length ≤ 100000 := by
  have := tot_take_le ls k
  rw [tot_flatten]
  omega

theorem Bs.lt {w : World} {a : Option Addr} {n c : Nat} {l : List UInt8} (h : Bs w a n c l) (hn : 0 < n) : ∀ x, a = some x → x.block < w.heap.size := fun x hx => by
  obtain ⟨b, o, ha, hb, _⟩ := h.at hn
  rw [ha] at hx
  simp at hx
  rw [← hx]
  exact hb

set_option maxHeartbeats 1000000 in
theorem oOf (w : World) (hK : Kon w) {a : Option Addr} {n c : Nat} {ls : List (List UInt8)} (ha : Bss w a n c ls) (hz : tot ls ≤ 100000) :
    Calls Tryd.prog 72 #[.slice a n c] w fun e w' => e = .returned (bv (sumL ls.flatten)) ∧ Below w.heap.size w w' := by
  have HN : Hid (ls.length = n) := ha.len
  have hn1 := ha.max
  have HO : Hid ((cs (sumL ls.flatten)).length = 32) := by show _ = _; rw [cs_length, sum_fin, outL_length]; unfold fin; split <;> rw [tk_length]; all_goals first | exact tks_length _ _ | exact tk_length (tks_length _ _) _
  unfold bv
  go_enter Tryd.func72, Tryd.ntmps72
  go_wp2_with (first | (go_at_call 68; refine (oNew _).mono ?_; rintro e w1 ⟨r, rfl, hr, hS, hb⟩; have b1 := (Blk.new w _ _).below hb (by simp); have hb1 := (below_alloc w _).trans (hb.mono (by simp)); simp only [World.size_alloc] at hr; clear hb))
  have hr0 : w.heap.size < r := by omega
  clear hr
  go_loopw [5, 9] (fun _ i wr => ∃ k : Nat, k ≤ n ∧ i = .int .i64 k ∧ Sta wr r (ls.take k).flatten ∧ Blk wr w.heap.size (cs (List.replicate 32 0)) 111 ∧ Below w.heap.size w wr) (fun _ i _ => n - (intOf i).toNat)
  case atStart => exact ⟨0, by omega, rfl, hS, b1, hb1⟩
  case round =>
    clear hS b1 hb1
    obtain ⟨k, hk, rfl, hS, b1, hb⟩ := hrel
    by_cases hlt : k < n
    · obtain ⟨x, o, rfl, hx, hc⟩ := ha.at (by omega)
      obtain ⟨p, m, q, c1, hp⟩ := Bss.part hc hb k hlt
      have hpw := hp.below hb (Nat.le_refl _)
      have HS : Hid ((ls.take k).flatten ++ ls.getD k [] = (ls.take (k + 1)).flatten) := flat_step (by rw [HN.out]; exact hlt)
      have hK1 := hK.below hb hK.lt
      have CW : Hid (Calls Tryd.prog 69 #[.pointer (some ⟨r, 0, none⟩), .slice p m q] wr fun e w' => e = .returned (.tuple #[]) ∧ Sta w' r (ls.take (k + 1)).flatten ∧ wr.grownBy w' (some r)) := by
        have := oWrite wr hK1 r _ hS hpw (by omega) (fun h y hy => by have := hp.lt h y hy; omega) (by
          have h1 := flat_len_take (k := k + 1) hz
          rw [← HS.out, List.length_append] at h1
          omega)
        rw [HS.out] at this
        exact this
      go_wp2_with (first | (go_at_call 69; refine CW.out.mono ?_; rintro e w2 ⟨rfl, hS2, hg2⟩))
      go_roundw
      case rel =>
        refine ⟨k + 1, by omega, by go_num, hS2, ?_, hb.grown hg2 hb.size (fun i hi => by simp at hi; omega)⟩
        unfold Blk
        rw [hg2.block _ b1.lt (by simp; omega)]
        exact b1
      case measure => simp [intOf]; omega
    · have e : ls.take k = ls := List.take_of_length_le (by rw [HN.out]; omega)
      rw [e] at hS
      clear e
      have hK1 := hK.below hb hK.lt
      have CS : Hid (Calls Tryd.prog 71 #[.pointer (some ⟨r, 0, none⟩)] wr fun e w' => e = .returned (.agg (cs (sumL ls.flatten)).toArray) ∧ Below wr.heap.size wr w') := oSum wr hK1 r _ hS (by rw [tot_flatten]; omega)
      go_wp2_with (first
        | (go_at_call 71; refine CS.out.mono ?_; rintro e w2 ⟨rfl, hb2⟩; have b2 := b1.below hb2 b1.lt)
        | (with_reducible refine at_st 111 ?_; refine st 111 (.tmp 2) (.tmp 18) 32 size24 w.heap.size 0 _ HO.out cs_one (b2.there 0 32 (by rw [cs_length]; decide)) rfl rfl ?_))
      have b3 := b2.setsW (cs (sumL ls.flatten)) (by rw [HO.out]; rfl)
      have hs := hb.size
      exact bodyPost_ret (v := .agg (cs (sumL ls.flatten)).toArray) (res_blk Tryd.results72 _ _ w.heap.size _ _ _ rfl b3 Tryd.underlying111 32 HO.out size24) rfl ⟨rfl, below_sets (Nat.le_refl _) _ (hb.trans (hb2.mono (by omega))) 0⟩

end Go.Proofs.YtjpejheipkfanaaDoor

/-
  The contract of the program's Hex: two digits of sixteen of each byte. Condition: a row of at most 1000000 bytes.
-/
namespace Go.Proofs.YtjpejheipkfanaaDoor
open Go.RowKit

def digs : List UInt8 := [48, 49, 50, 51, 52, 53, 54, 55, 56, 57, 97, 98, 99, 100, 101, 102]
def hex2 (x : UInt8) : List UInt8 := [digs.getD (x.toNat / 16) 0, digs.getD (x.toNat % 16) 0]
def hexL (l : List UInt8) : List UInt8 := l.flatMap hex2

theorem dig_at (i : Nat) (h : i < 16) : (⟨#[48, 49, 50, 51, 52, 53, 54, 55, 56, 57, 97, 98, 99, 100, 101, 102]⟩ : ByteArray)[i]'h = digs.getD i 0 := by
  have : ∀ j : Fin 16, (⟨#[48, 49, 50, 51, 52, 53, 54, 55, 56, 57, 97, 98, 99, 100, 101, 102]⟩ : ByteArray)[j.val]'j.isLt = digs.getD j.val 0 := by decide
  exact this ⟨i, h⟩

theorem hex_step {l : List UInt8} {k : Nat} (h : k < l.length) : hexL (l.take k) ++ hex2 l[k] = hexL (l.take (k + 1)) := by
  rw [take_snoc h]
  unfold hexL
  rw [List.flatMap_append]
  simp only [List.flatMap_cons, List.flatMap_nil, List.append_nil]
theorem hexL_length (l : List UInt8) : (hexL l).length = 2 * l.length := by
  induction l with
  | nil => rfl
  | cons x r ih => simp [hexL, hex2] at *; omega

abbrev dg (i : Nat) (h : i < 16) : UInt8 := (⟨#[48, 49, 50, 51, 52, 53, 54, 55, 56, 57, 97, 98, 99, 100, 101, 102]⟩ : ByteArray)[i]'h
theorem and15 {a : Int} (h0 : 0 ≤ a) (h1 : a ≤ 255) : bits .and .u8 a 15 = a % 16 := by
  rw [u8_and a 15 h0 (by omega) (by omega) (by omega), show (15 : Int).toNat = 2 ^ 4 - 1 from rfl, Nat.and_two_pow_sub_one_eq_mod]
  omega
theorem hex_own {w : World} {base : Nat} {v : Value} {l : List UInt8} {k : Nat} (h : k < l.length) (p1 : (bt l k / 16).toNat < 16) (p2 : (bt l k % 16).toNat < 16) (ho : Own w base v (hexL (l.take k) ++ [dg (bt l k / 16).toNat p1, dg (bt l k % 16).toNat p2])) : Own w base v (hexL (l.take (k + 1))) := by
  rw [← hex_step h]
  have e1 : (bt l k / 16).toNat = l[k].toNat / 16 := by rw [bt_of_lt h]; omega
  have e2 : (bt l k % 16).toNat = l[k].toNat % 16 := by rw [bt_of_lt h]; omega
  have d1 : dg (bt l k / 16).toNat p1 = digs.getD (l[k].toNat / 16) 0 := by rw [← e1]; exact dig_at _ p1
  have d2 : dg (bt l k % 16).toNat p2 = digs.getD (l[k].toNat % 16) 0 := by rw [← e2]; exact dig_at _ p2
  unfold hex2
  rw [← d1, ← d2]
  exact ho
theorem hex_room {l : List UInt8} {n k : Nat} (H : Hid (l.length = n)) (h : n ≤ 1000000) (x y : UInt8) : (hexL (l.take k)).length + [x, y].length ≤ 1000000000 := by
  have : (l.take k).length ≤ l.length := List.length_take_le' _ _
  rw [hexL_length]
  rw [H.out] at this
  simp only [List.length_cons, List.length_nil]
  omega
theorem hex_end {l : List UInt8} {n k : Nat} (H : Hid (l.length = n)) (h : ¬ k < n) : hexL (l.take k) = hexL l := by
  rw [List.take_of_length_le (by rw [H.out]; omega)]

end Go.Proofs.YtjpejheipkfanaaDoor

/-
  Slices of one and of two rows, an array of 32 as a slice, two like rows held against each other: what the smokes of several layers share. No condition; no statement of the seat is proved here.
-/
namespace Go.Proofs.YtjpejheipkfanaaDoor
open Go.RowKit

theorem all24 (g : Nat) (w : World) : Sem.run Tryd.prog (Instr.sliceAt 111 (.pointer (some ⟨g, 0, none⟩)) none none none) w = .ok (.slice (some ⟨g, 0, none⟩) 32 32) w := by
  rw [run_sliceAt_array_all w 111 _ und24, el24]
  simp only [Result.andThen, slicedAt, len24]
  rfl

theorem cs_self {l : List UInt8} (j : Nat) (v : Value) (h : (cs l)[j]? = some v) : (cs l)[0 + j]? = some v := by rw [Nat.zero_add]; exact h

end Go.Proofs.YtjpejheipkfanaaDoor

/-
  The contracts of the reference's constants and of its round: eight words, a constant and a word, the words behind the round. No condition.
-/
namespace Go.Proofs.YtjpejheipkfanaaDoor
open Go.RowKit

/-- What a call that hands back words in new memory leaves. -/
def HasW (w : World) (l : List UInt32) (e : Ending) (w' : World) : Prop := ∃ a c, e = .returned (.slice a l.length c) ∧ Ws w' a l.length c l ∧ Below w.heap.size w w'

theorem Ws.eight {w : World} {a : Option Addr} {c : Nat} {v0 v1 v2 v3 v4 v5 v6 v7 : UInt32} (h : Ws w a 8 c [v0, v1, v2, v3, v4, v5, v6, v7]) : ∃ b o, a = some ⟨b, o, none⟩ ∧
    w.cell? ⟨b, o, none⟩ = some (.int .u32 (v0.toNat : Int)) ∧ w.cell? ⟨b, o + 1, none⟩ = some (.int .u32 (v1.toNat : Int)) ∧ w.cell? ⟨b, o + 2, none⟩ = some (.int .u32 (v2.toNat : Int)) ∧ w.cell? ⟨b, o + 3, none⟩ = some (.int .u32 (v3.toNat : Int)) ∧
      w.cell? ⟨b, o + 4, none⟩ = some (.int .u32 (v4.toNat : Int)) ∧ w.cell? ⟨b, o + 5, none⟩ = some (.int .u32 (v5.toNat : Int)) ∧ w.cell? ⟨b, o + 6, none⟩ = some (.int .u32 (v6.toNat : Int)) ∧ w.cell? ⟨b, o + 7, none⟩ = some (.int .u32 (v7.toNat : Int)) := by
  obtain ⟨b, o, ha, _, hc⟩ := h.at (by omega)
  exact ⟨b, o, ha, hc 0 (by omega), hc 1 (by omega), hc 2 (by omega), hc 3 (by omega), hc 4 (by omega), hc 5 (by omega), hc 6 (by omega), hc 7 (by omega)⟩

/-- Turned right, by a number as the program has it. -/
def rotI (x : UInt32) (n : Int) : UInt32 := rot x (UInt32.ofNat n.toNat)
theorem bgE_ref (e : UInt32) : bits .xor .u32 (bits .xor .u32 ((rotI e 6).toNat : Int) ((rotI e 11).toNat : Int)) ((rotI e 25).toNat : Int) = ((bgE e).toNat : Int) := by rw [w_xor, w_xor]; rfl
theorem bgA_ref (a : UInt32) : bits .xor .u32 (bits .xor .u32 ((rotI a 2).toNat : Int) ((rotI a 13).toNat : Int)) ((rotI a 22).toNat : Int) = ((bgA a).toNat : Int) := by rw [w_xor, w_xor]; rfl
theorem max32' : (4294967295 : Int) = (((4294967295 : UInt32)).toNat : Int) := rfl
theorem pick_ref (e f g : UInt32) : bits .xor .u32 (bits .and .u32 (e.toNat : Int) (f.toNat : Int)) (bits .and .u32 (bits .xor .u32 4294967295 (e.toNat : Int)) (g.toNat : Int)) = ((pck e f g).toNat : Int) := by
  rw [max32', w_xor, w_and, w_and, w_xor]; rfl
theorem most_ref (a b c : UInt32) : bits .xor .u32 (bits .xor .u32 (bits .and .u32 (a.toNat : Int) (b.toNat : Int)) (bits .and .u32 (a.toNat : Int) (c.toNat : Int))) (bits .and .u32 (b.toNat : Int) (c.toNat : Int)) = ((mst a b c).toNat : Int) := by
  rw [w_and, w_and, w_and, w_xor, w_xor]; rfl

theorem ref_one (a b c e f g z k x : UInt32) : ((z.toNat : Int) + ((bgE e).toNat : Int) + ((pck e f g).toNat : Int) + (k.toNat : Int) + (x.toNat : Int) + ((bgA a).toNat : Int) + ((mst a b c).toNat : Int)) % 4294967296 = ((tOne e f g z (k + x) + (bgA a + mst a b c)).toNat : Int) := by
  simp only [tOne, UInt32.toNat_add]
  omega
theorem ref_five (d e f g z k x : UInt32) : ((d.toNat : Int) + ((z.toNat : Int) + ((bgE e).toNat : Int) + ((pck e f g).toNat : Int) + (k.toNat : Int) + (x.toNat : Int))) % 4294967296 = ((d + tOne e f g z (k + x)).toNat : Int) := by
  simp only [tOne, UInt32.toNat_add]
  omega

end Go.Proofs.YtjpejheipkfanaaDoor

/-
  The contract of the reference's words: the words of a block's rounds, out of its 64 bytes. No condition.
-/
namespace Go.Proofs.YtjpejheipkfanaaDoor
open Go.RowKit

theorem word_of (x : List UInt8) : UInt32.ofNat (((getN x : Nat) : Int) % 4294967296).toNat = UInt32.ofNat (getN x) := by
  apply UInt32.toNat_inj.1
  rw [UInt32.toNat_ofNat', UInt32.toNat_ofNat']
  omega
theorem one_of (x : UInt32) : UInt32.ofNat ((x.toNat : Int)).toNat = x := by
  apply UInt32.toNat_inj.1
  rw [UInt32.toNat_ofNat', Int.toNat_natCast]
  have := w_lt x
  omega

theorem sum4 (a b c d : UInt32) : a + b + c + d = a + c + b + d := by rw [UInt32.add_assoc a b c, UInt32.add_comm b c, ← UInt32.add_assoc]
theorem sgA_ref (x : UInt32) : bits .xor .u32 (bits .xor .u32 ((rotI x 7).toNat : Int) ((rotI x 18).toNat : Int)) ((x.toNat : Int) / 8) = ((sgA x).toNat : Int) := by rw [w_shr3, w_xor, w_xor]; rfl
theorem sgB_ref (x : UInt32) : bits .xor .u32 (bits .xor .u32 ((rotI x 17).toNat : Int) ((rotI x 19).toNat : Int)) ((x.toNat : Int) / 1024) = ((sgB x).toNat : Int) := by rw [w_shr10, w_xor, w_xor]; rfl
theorem wbelow1 (w : World) (o : Obj) : Below w.heap.size w (w.alloc o) := below_alloc w o

end Go.Proofs.YtjpejheipkfanaaDoor

/-
  The contract of the reference's Padded: a text with what stands behind it. Condition: at most 100000 bytes.
-/
namespace Go.Proofs.YtjpejheipkfanaaDoor
open Go.RowKit

def lenS : Value → Nat
  | .slice _ n _ => n
  | _ => 0

end Go.Proofs.YtjpejheipkfanaaDoor

/-
  The contract of the reference's Sum. Condition: at most 100000 bytes.
-/
namespace Go.Proofs.YtjpejheipkfanaaDoor
open Go.RowKit

theorem padL_length (l : List UInt8) : ∃ N, (padL l).length = 64 * N := by
  refine ⟨(padL l).length / 64, ?_⟩
  have : (padL l).length % 64 = 0 := by simp [padL, putL_length]; omega
  omega
theorem tks_len8 (m : List UInt8) (n : Nat) : (tks m n).length = 8 := by
  induction n with
  | zero => rfl
  | succ n ih =>
    rw [tks]
    exact add8_length ih (by rw [rnds_length, ih])
theorem wtk_snoc {l : List UInt32} {k : Nat} (h : k < l.length) : l.take (k + 1) = l.take k ++ [l.getD k 0] := wtake_snoc h
theorem add8_get {h v : List UInt32} {k : Nat} (hh : h.length = 8) (hv : v.length = 8) (hk : k < 8) : (add8 h v).getD k 0 = h.getD k 0 + v.getD k 0 := by
  unfold add8
  simp [List.getD_eq_getElem?_getD, hh, hv, hk]

end Go.Proofs.YtjpejheipkfanaaDoor

/-
  What the proofs about sums share: their length, sums as slices, the sum of one part. No condition; no statement of the seat is proved here.
-/
namespace Go.Proofs.YtjpejheipkfanaaDoor
open Go.RowKit

theorem sumL_length (l : List UInt8) : (sumL l).length = 32 := by
  rw [sum_fin, outL_length]
  unfold fin
  split
  · rw [tk_length (tks_length _ _)]
  · rw [tk_length (tk_length (tks_length _ _) _)]
theorem cs_sum (l : List UInt8) : (cs (sumL l)).length = 32 := by rw [cs_length, sumL_length]
theorem sum_bs {w : World} {g : Nat} {l : List UInt8} {t : TypeId} (h : Blk w g (cs (sumL l)) t) : Bs w (some ⟨g, 0, none⟩) 32 32 (sumL l) := by
  have := h.bs 0 32 (sumL l) cs_self (by rw [sumL_length]; omega) (by omega)
  rw [sumL_length] at this
  exact this
theorem oOf1 (w : World) (hK : Kon w) {a : Option Addr} {n c : Nat} {l : List UInt8} (ha : Bs w a n c l) (hz : n ≤ 100000) :
    Calls Tryd.prog 72 #[.slice (some ⟨w.heap.size, 0, none⟩) 1 1] (w.alloc (.cells #[.slice a n c] 22)) fun e w' => e = .returned (.agg (cs (sumL l)).toArray) ∧ Below w.heap.size w w' := by
  have hb := below_alloc w (.cells #[.slice a n c] 22)
  have := oOf _ (hK.below hb hK.lt) (Bss.one1 ha) (by have := ha.len; simp [tot]; omega)
  refine this.mono ?_
  rintro e w' ⟨rfl, hb'⟩
  refine ⟨?_, hb.trans (hb'.mono hb.size)⟩
  simp [bv]

end Go.Proofs.YtjpejheipkfanaaDoor
