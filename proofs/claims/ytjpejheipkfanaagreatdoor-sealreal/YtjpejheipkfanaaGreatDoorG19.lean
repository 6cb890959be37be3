/-
  8 texts in one. No statement of the seat is proved here.
-/
import Derived.Test.YtjpejheipkfanaaGreatDoorG18
import Derived.Laws.BytesArg
import Derived.Laws.IdiomStrings
/-
  The contract of Of: the sum of parts, one behind the other. Conditions: the package's constants lie where they were laid; the parts have at most 100000 bytes in all.
-/
namespace Go.Proofs.YtjpejheipkfanaaGreatDoor
open Go.RowKit

theorem flat_len_take {ls : List (List UInt8)} {k : Nat} (hz : tot ls ≤ 100000) : (ls.take k).flatten.length ≤ 100000 := by
  have := tot_take_le ls k
  rw [tot_flatten]
  omega

theorem Bs.lt {w : World} {a : Option Addr} {n c : Nat} {l : List UInt8} (h : Bs w a n c l) (hn : 0 < n) : ∀ x, a = some x → x.block < w.heap.size := fun x hx => by
  obtain ⟨b, o, ha, hb, _⟩ := h.at hn
  rw [ha] at hx
  simp at hx
  rw [← hx]
  exact hb

set_option maxRecDepth 100000 in
set_option maxHeartbeats 1000000 in
theorem oOf (w : World) (hK : Kon w) {a : Option Addr} {n c : Nat} {ls : List (List UInt8)} (ha : Bss w a n c ls) (hz : tot ls ≤ 100000) :
    Calls Tryz.prog 105 #[.slice a n c] w fun e w' => e = .returned (bv (sumL ls.flatten)) ∧ Below w.heap.size w w' := by
  have HN : Hid (ls.length = n) := ha.len
  have hn1 := ha.max
  have HO : Hid ((cs (sumL ls.flatten)).length = 32) := by show _ = _; rw [cs_length, sum_fin, outL_length]; unfold fin; split <;> rw [tk_length]; all_goals first | exact tks_length _ _ | exact tk_length (tks_length _ _) _
  unfold bv
  go_enter Tryz.func105, Tryz.ntmps105
  go_wp2_with (first | (go_at_call 101; refine (oNew _).mono ?_; rintro e w1 ⟨r, rfl, hr, hS, hb⟩; have b1 := (Blk.new w _ _).below hb (by simp); have hb1 := (below_alloc w _).trans (hb.mono (by simp)); simp only [World.size_alloc] at hr; clear hb))
  have hr0 : w.heap.size < r := by omega
  clear hr
  go_loopw [5, 9] (fun _ i wr => ∃ k : Nat, k ≤ n ∧ i = .int .i64 k ∧ Sta wr r (ls.take k).flatten ∧ Blk wr w.heap.size (cs (List.replicate 32 0)) 139 ∧ Below w.heap.size w wr) (fun _ i _ => n - (intOf i).toNat)
  case atStart => exact ⟨0, by omega, rfl, hS, b1, hb1⟩
  case round =>
    clear hS b1 hb1
    obtain ⟨k, hk, rfl, hS, b1, hb⟩ := hrel
    by_cases hlt : k < n
    · obtain ⟨x, o, rfl, hx, hc⟩ := ha.at (by omega)
      obtain ⟨p, m, q, c1, hp⟩ := Bss.part hc hb k hlt
      have hpw := hp.below hb (Nat.le_refl _)
      have HS : Hid ((ls.take k).flatten ++ ls.getD k [] = (ls.take (k + 1)).flatten) := flat_step (by rw [HN.out]; exact hlt)
      have hK1 := hK.below hb hK.lt
      have CW : Hid (Calls Tryz.prog 102 #[.pointer (some ⟨r, 0, none⟩), .slice p m q] wr fun e w' => e = .returned (.tuple #[]) ∧ Sta w' r (ls.take (k + 1)).flatten ∧ wr.grownBy w' (some r)) := by
        have := oWrite wr hK1 r _ hS hpw (by omega) (fun h y hy => by have := hp.lt h y hy; omega) (by
          have h1 := flat_len_take (k := k + 1) hz
          rw [← HS.out, List.length_append] at h1
          omega)
        rw [HS.out] at this
        exact this
      go_wp2_with (first | (go_at_call 102; refine CW.out.mono ?_; rintro e w2 ⟨rfl, hS2, hg2⟩))
      go_roundw
      case rel =>
        refine ⟨k + 1, by omega, by go_num, hS2, ?_, hb.grown hg2 hb.size (fun i hi => by simp at hi; omega)⟩
        unfold Blk
        rw [hg2.block _ b1.lt (by simp; omega)]
        exact b1
      case measure => simp [intOf]; omega
    · have e : ls.take k = ls := List.take_of_length_le (by rw [HN.out]; omega)
      rw [e] at hS
      clear e
      have hK1 := hK.below hb hK.lt
      have CS : Hid (Calls Tryz.prog 104 #[.pointer (some ⟨r, 0, none⟩)] wr fun e w' => e = .returned (.agg (cs (sumL ls.flatten)).toArray) ∧ Below wr.heap.size wr w') := oSum wr hK1 r _ hS (by rw [tot_flatten]; omega)
      go_wp2_with (first
        | (go_at_call 104; refine CS.out.mono ?_; rintro e w2 ⟨rfl, hb2⟩; have b2 := b1.below hb2 b1.lt)
        | (with_reducible refine at_st 139 ?_; refine st 139 (.tmp 2) (.tmp 18) 32 size24 w.heap.size 0 _ HO.out cs_one (b2.there 0 32 (by rw [cs_length]; decide)) rfl rfl ?_))
      have b3 := b2.setsW (cs (sumL ls.flatten)) (by rw [HO.out]; rfl)
      have hs := hb.size
      exact bodyPost_ret (v := .agg (cs (sumL ls.flatten)).toArray) (res_blk Tryz.results105 _ _ w.heap.size _ _ _ rfl b3 Tryz.underlying139 32 HO.out size24) rfl ⟨rfl, below_sets (Nat.le_refl _) _ (hb.trans (hb2.mono (by omega))) 0⟩

end Go.Proofs.YtjpejheipkfanaaGreatDoor

/-
  The contract of the program's Hex: two digits of sixteen of each byte. Condition: a row of at most 1000000 bytes.
-/
namespace Go.Proofs.YtjpejheipkfanaaGreatDoor
open Go.RowKit

def digs : List UInt8 := [48, 49, 50, 51, 52, 53, 54, 55, 56, 57, 97, 98, 99, 100, 101, 102]
def hex2 (x : UInt8) : List UInt8 := [digs.getD (x.toNat / 16) 0, digs.getD (x.toNat % 16) 0]
def hexL (l : List UInt8) : List UInt8 := l.flatMap hex2

theorem dig_at (i : Nat) (h : i < 16) : (⟨#[48, 49, 50, 51, 52, 53, 54, 55, 56, 57, 97, 98, 99, 100, 101, 102]⟩ : ByteArray)[i]'h = digs.getD i 0 := by
  have : ∀ j : Fin 16, (⟨#[48, 49, 50, 51, 52, 53, 54, 55, 56, 57, 97, 98, 99, 100, 101, 102]⟩ : ByteArray)[j.val]'j.isLt = digs.getD j.val 0 := by decide
  exact this ⟨i, h⟩

theorem hex_step {l : List UInt8} {k : Nat} (h : k < l.length) : hexL (l.take k) ++ hex2 l[k] = hexL (l.take (k + 1)) := by
  rw [take_snoc h]
  unfold hexL
  rw [List.flatMap_append]
  simp only [List.flatMap_cons, List.flatMap_nil, List.append_nil]
theorem hexL_length (l : List UInt8) : (hexL l).length = 2 * l.length := by
  induction l with
  | nil => rfl
  | cons x r ih => simp [hexL, hex2] at *; omega

abbrev dg (i : Nat) (h : i < 16) : UInt8 := (⟨#[48, 49, 50, 51, 52, 53, 54, 55, 56, 57, 97, 98, 99, 100, 101, 102]⟩ : ByteArray)[i]'h
theorem and15 {a : Int} (h0 : 0 ≤ a) (h1 : a ≤ 255) : bits .and .u8 a 15 = a % 16 := by
  rw [u8_and a 15 h0 (by omega) (by omega) (by omega), show (15 : Int).toNat = 2 ^ 4 - 1 from rfl, Nat.and_two_pow_sub_one_eq_mod]
  omega
theorem hex_own {w : World} {base : Nat} {v : Value} {l : List UInt8} {k : Nat} (h : k < l.length) (p1 : (bt l k / 16).toNat < 16) (p2 : (bt l k % 16).toNat < 16) (ho : Own w base v (hexL (l.take k) ++ [dg (bt l k / 16).toNat p1, dg (bt l k % 16).toNat p2])) : Own w base v (hexL (l.take (k + 1))) := by
  rw [← hex_step h]
  have e1 : (bt l k / 16).toNat = l[k].toNat / 16 := by rw [bt_of_lt h]; omega
  have e2 : (bt l k % 16).toNat = l[k].toNat % 16 := by rw [bt_of_lt h]; omega
  have d1 : dg (bt l k / 16).toNat p1 = digs.getD (l[k].toNat / 16) 0 := by rw [← e1]; exact dig_at _ p1
  have d2 : dg (bt l k % 16).toNat p2 = digs.getD (l[k].toNat % 16) 0 := by rw [← e2]; exact dig_at _ p2
  unfold hex2
  rw [← d1, ← d2]
  exact ho
theorem hex_room {l : List UInt8} {n k : Nat} (H : Hid (l.length = n)) (h : n ≤ 1000000) (x y : UInt8) : (hexL (l.take k)).length + [x, y].length ≤ 1000000000 := by
  have : (l.take k).length ≤ l.length := List.length_take_le' _ _
  rw [hexL_length]
  rw [H.out] at this
  simp only [List.length_cons, List.length_nil]
  omega
theorem hex_end {l : List UInt8} {n k : Nat} (H : Hid (l.length = n)) (h : ¬ k < n) : hexL (l.take k) = hexL l := by
  rw [List.take_of_length_le (by rw [H.out]; omega)]

end Go.Proofs.YtjpejheipkfanaaGreatDoor

/-
  Slices of one and of two rows, an array of 32 as a slice, two like rows held against each other: what the smokes of several layers share. No condition; no statement of the seat is proved here.
-/
namespace Go.Proofs.YtjpejheipkfanaaGreatDoor
open Go.RowKit

theorem all24 (g : Nat) (w : World) : Sem.run Tryz.prog (Instr.sliceAt 139 (.pointer (some ⟨g, 0, none⟩)) none none none) w = .ok (.slice (some ⟨g, 0, none⟩) 32 32) w := by
  rw [run_sliceAt_array_all w 139 _ und24, el24]
  simp only [Result.andThen, slicedAt, len24]
  rfl

theorem cs_self {l : List UInt8} (j : Nat) (v : Value) (h : (cs l)[j]? = some v) : (cs l)[0 + j]? = some v := by rw [Nat.zero_add]; exact h

end Go.Proofs.YtjpejheipkfanaaGreatDoor

/-
  The contracts of the reference's constants and of its round: eight words, a constant and a word, the words behind the round. No condition.
-/
namespace Go.Proofs.YtjpejheipkfanaaGreatDoor
open Go.RowKit

/-- What a call that hands back words in new memory leaves. -/
def HasW (w : World) (l : List UInt32) (e : Ending) (w' : World) : Prop := ∃ a c, e = .returned (.slice a l.length c) ∧ Ws w' a l.length c l ∧ Below w.heap.size w w'

theorem rConst (w : World) : Calls Tryz.prog 108 #[] w (HasW w sKs) := by
  go_enter Tryz.func108, Tryz.ntmps108
  go_wp2
  go_ret
  exact ⟨_, _, rfl, Ws.made w sKs _ rfl (by decide), below_alloc _ _⟩

theorem Ws.eight {w : World} {a : Option Addr} {c : Nat} {v0 v1 v2 v3 v4 v5 v6 v7 : UInt32} (h : Ws w a 8 c [v0, v1, v2, v3, v4, v5, v6, v7]) : ∃ b o, a = some ⟨b, o, none⟩ ∧
    w.cell? ⟨b, o, none⟩ = some (.int .u32 (v0.toNat : Int)) ∧ w.cell? ⟨b, o + 1, none⟩ = some (.int .u32 (v1.toNat : Int)) ∧ w.cell? ⟨b, o + 2, none⟩ = some (.int .u32 (v2.toNat : Int)) ∧ w.cell? ⟨b, o + 3, none⟩ = some (.int .u32 (v3.toNat : Int)) ∧
      w.cell? ⟨b, o + 4, none⟩ = some (.int .u32 (v4.toNat : Int)) ∧ w.cell? ⟨b, o + 5, none⟩ = some (.int .u32 (v5.toNat : Int)) ∧ w.cell? ⟨b, o + 6, none⟩ = some (.int .u32 (v6.toNat : Int)) ∧ w.cell? ⟨b, o + 7, none⟩ = some (.int .u32 (v7.toNat : Int)) := by
  obtain ⟨b, o, ha, _, hc⟩ := h.at (by omega)
  exact ⟨b, o, ha, hc 0 (by omega), hc 1 (by omega), hc 2 (by omega), hc 3 (by omega), hc 4 (by omega), hc 5 (by omega), hc 6 (by omega), hc 7 (by omega)⟩

/-- Turned right, by a number as the program has it. -/
def rotI (x : UInt32) (n : Int) : UInt32 := rot x (UInt32.ofNat n.toNat)
theorem rTurnI (w : World) (x : UInt32) (n : Int) (h : 1 ≤ n ∧ n ≤ 31) :
    Calls Tryz.prog 119 #[.int .u32 (x.toNat : Int), .int .u64 n] w fun e w' => e = .returned (.int .u32 ((rotI x n).toNat : Int)) ∧ w' = w := by
  have e : n = (n.toNat : Int) := by omega
  have := rTurn w x n.toNat (by omega) (by omega)
  rw [← e] at this
  exact this.mono fun _ _ ⟨h1, h2⟩ => ⟨h1, h2.symm⟩

theorem bgE_ref (e : UInt32) : bits .xor .u32 (bits .xor .u32 ((rotI e 6).toNat : Int) ((rotI e 11).toNat : Int)) ((rotI e 25).toNat : Int) = ((bgE e).toNat : Int) := by rw [w_xor, w_xor]; rfl
theorem bgA_ref (a : UInt32) : bits .xor .u32 (bits .xor .u32 ((rotI a 2).toNat : Int) ((rotI a 13).toNat : Int)) ((rotI a 22).toNat : Int) = ((bgA a).toNat : Int) := by rw [w_xor, w_xor]; rfl
theorem max32' : (4294967295 : Int) = (((4294967295 : UInt32)).toNat : Int) := rfl
theorem pick_ref (e f g : UInt32) : bits .xor .u32 (bits .and .u32 (e.toNat : Int) (f.toNat : Int)) (bits .and .u32 (bits .xor .u32 4294967295 (e.toNat : Int)) (g.toNat : Int)) = ((pck e f g).toNat : Int) := by
  rw [max32', w_xor, w_and, w_and, w_xor]; rfl
theorem most_ref (a b c : UInt32) : bits .xor .u32 (bits .xor .u32 (bits .and .u32 (a.toNat : Int) (b.toNat : Int)) (bits .and .u32 (a.toNat : Int) (c.toNat : Int))) (bits .and .u32 (b.toNat : Int) (c.toNat : Int)) = ((mst a b c).toNat : Int) := by
  rw [w_and, w_and, w_and, w_xor, w_xor]; rfl

theorem ref_one (a b c e f g z k x : UInt32) : ((z.toNat : Int) + ((bgE e).toNat : Int) + ((pck e f g).toNat : Int) + (k.toNat : Int) + (x.toNat : Int) + ((bgA a).toNat : Int) + ((mst a b c).toNat : Int)) % 4294967296 = ((tOne e f g z (k + x) + (bgA a + mst a b c)).toNat : Int) := by
  simp only [tOne, UInt32.toNat_add]
  omega
theorem ref_five (d e f g z k x : UInt32) : ((d.toNat : Int) + ((z.toNat : Int) + ((bgE e).toNat : Int) + ((pck e f g).toNat : Int) + (k.toNat : Int) + (x.toNat : Int))) % 4294967296 = ((d + tOne e f g z (k + x)).toNat : Int) := by
  simp only [tOne, UInt32.toNat_add]
  omega

set_option maxRecDepth 100000 in
set_option maxHeartbeats 2000000 in
theorem rRound (w : World) {ad : Option Addr} {cp : Nat} (a b c d e f g z k x : UInt32) (hv : Ws w ad 8 cp [a, b, c, d, e, f, g, z]) :
    Calls Tryz.prog 111 #[.slice ad 8 cp, .int .u32 (k.toNat : Int), .int .u32 (x.toNat : Int)] w (HasW w (rnd [a, b, c, d, e, f, g, z] (k + x))) := by
  obtain ⟨bl, o, rfl, q0, q1, q2, q3, q4, q5, q6, q7⟩ := hv.eight
  clear hv
  go_enter Tryz.func111, Tryz.ntmps111
  go_wp2_with fail
  go_quiet ((go_at_call 119; exact Calls.quiet_of_same (rTurnI _ _ _ (by decide))))
  go_wp2_with fail
  go_quiet (fail)
  go_wp2_with fail
  rw [bgE_ref, pick_ref]
  generalize hw1 : w.drewN _ = w1
  have hb : Below w.heap.size w w1 := by rw [← hw1]; exact below_drewN' w _
  have s0 : w1.cell? ⟨bl, o, none⟩ = some (.int .u32 (a.toNat : Int)) := by rw [← hw1]; exact q0
  have s1 : w1.cell? ⟨bl, o + 1, none⟩ = some (.int .u32 (b.toNat : Int)) := by rw [← hw1]; exact q1
  have s2 : w1.cell? ⟨bl, o + 2, none⟩ = some (.int .u32 (c.toNat : Int)) := by rw [← hw1]; exact q2
  have s3 : w1.cell? ⟨bl, o + 3, none⟩ = some (.int .u32 (d.toNat : Int)) := by rw [← hw1]; exact q3
  have s4 : w1.cell? ⟨bl, o + 4, none⟩ = some (.int .u32 (e.toNat : Int)) := by rw [← hw1]; exact q4
  have s5 : w1.cell? ⟨bl, o + 5, none⟩ = some (.int .u32 (f.toNat : Int)) := by rw [← hw1]; exact q5
  have s6 : w1.cell? ⟨bl, o + 6, none⟩ = some (.int .u32 (g.toNat : Int)) := by rw [← hw1]; exact q6
  clear hw1 q0 q1 q2 q3 q4 q5 q6 q7
  go_quiet ((go_at_call 119; exact Calls.quiet_of_same (rTurnI _ _ _ (by decide))))
  go_wp2_with fail
  go_quiet (fail)
  go_wp2_with fail
  rw [bgA_ref, most_ref]
  go_region
  rw [ref_one, ref_five]
  generalize hw2 : w1.drewN _ = w2
  have hb2 : Below w.heap.size w w2 := by rw [← hw2]; exact below_drN hb _
  have hsz : w2.heap.size = w1.heap.size := by rw [← hw2]; rfl
  have hm := Ws.made w2 (rnd [a, b, c, d, e, f, g, z] (k + x)) #[.int .u32 ((tOne e f g z (k + x) + (bgA a + mst a b c)).toNat : Int), .int .u32 (a.toNat : Int), .int .u32 (b.toNat : Int), .int .u32 (c.toNat : Int), .int .u32 ((d + tOne e f g z (k + x)).toNat : Int), .int .u32 (e.toNat : Int), .int .u32 (f.toNat : Int), .int .u32 (g.toNat : Int)] rfl (by simp [rnd])
  rw [hsz] at hm
  generalize tOne e f g z (k + x) + (bgA a + mst a b c) = T1 at hm ⊢
  generalize d + tOne e f g z (k + x) = T5 at hm ⊢
  have HM : Hid (Ws (w2.alloc (.cells #[.int .u32 (T1.toNat : Int), .int .u32 (a.toNat : Int), .int .u32 (b.toNat : Int), .int .u32 (c.toNat : Int), .int .u32 (T5.toNat : Int), .int .u32 (e.toNat : Int), .int .u32 (f.toNat : Int), .int .u32 (g.toNat : Int)] 45)) (some ⟨w1.heap.size, 0, none⟩) 8 8 (rnd [a, b, c, d, e, f, g, z] (k + x))) := hm
  clear hw2 hsz hm
  go_wp2_with fail
  go_ret
  exact ⟨_, _, rfl, HM.out, hb2.alloc hb2.size _⟩

end Go.Proofs.YtjpejheipkfanaaGreatDoor

/-
  The contract of the reference's words: the words of a block's rounds, out of its 64 bytes. No condition.
-/
namespace Go.Proofs.YtjpejheipkfanaaGreatDoor
open Go.RowKit

theorem word_of (x : List UInt8) : UInt32.ofNat (((getN x : Nat) : Int) % 4294967296).toNat = UInt32.ofNat (getN x) := by
  apply UInt32.toNat_inj.1
  rw [UInt32.toNat_ofNat', UInt32.toNat_ofNat']
  omega
theorem one_of (x : UInt32) : UInt32.ofNat ((x.toNat : Int)).toNat = x := by
  apply UInt32.toNat_inj.1
  rw [UInt32.toNat_ofNat', Int.toNat_natCast]
  have := w_lt x
  omega

theorem sum4 (a b c d : UInt32) : a + b + c + d = a + c + b + d := by rw [UInt32.add_assoc a b c, UInt32.add_comm b c, ← UInt32.add_assoc]
theorem sgA_ref (x : UInt32) : bits .xor .u32 (bits .xor .u32 ((rotI x 7).toNat : Int) ((rotI x 18).toNat : Int)) ((x.toNat : Int) / 8) = ((sgA x).toNat : Int) := by rw [w_shr3, w_xor, w_xor]; rfl
theorem sgB_ref (x : UInt32) : bits .xor .u32 (bits .xor .u32 ((rotI x 17).toNat : Int) ((rotI x 19).toNat : Int)) ((x.toNat : Int) / 1024) = ((sgB x).toNat : Int) := by rw [w_shr10, w_xor, w_xor]; rfl
theorem wbelow1 (w : World) (o : Obj) : Below w.heap.size w (w.alloc o) := below_alloc w o

set_option maxRecDepth 100000 in
set_option maxHeartbeats 2000000 in
theorem rWords (w : World) {a : Option Addr} {c : Nat} {b : List UInt8} (ha : Bs w a 64 c b) :
    Calls Tryz.prog 110 #[.slice a 64 c] w (HasW w (schd b 64)) := by
  go_enter Tryz.func110, Tryz.ntmps110
  go_wp2_with fail
  go_loopw [3, 4] (fun v i wr => ∃ k : Nat, k ≤ 16 ∧ i = .int .i64 k ∧ Owd wr w.heap.size v (schd b k) ∧ Below w.heap.size w wr) (fun _ i _ => 16 - (intOf i).toNat)
  case atStart => exact ⟨0, by omega, rfl, Owd.nil _ _, Below.refl _ _⟩
  case round =>
    obtain ⟨k, hk, rfl, ho, hb⟩ := hrel
    by_cases hlt : k < 16
    · obtain ⟨a4, c4, hcut, hB4⟩ := ha.cut2 (k * 4) (k * 4 + 4) (by omega) (by omega)
      have hB := hB4 wr (ha.below hb (Nat.le_refl _))
      have e4 : k * 4 + 4 - k * 4 = 4 := by omega
      rw [e4] at hcut hB
      have hcut' : ∀ w, Sem.run Tryz.prog (Instr.slice 32 (.slice a 64 c) (some (.int .i64 (4 * (k : Int)))) (some (.int .i64 (4 * (k : Int) + 4))) none) w = .ok (.slice a4 4 c4) w := fun w => by
        have := hcut w
        rw [show ((k * 4 + 4 : Nat) : Int) = 4 * (k : Int) + 4 from by omega, show ((k * 4 : Nat) : Int) = 4 * (k : Int) from by omega] at this
        exact this
      clear hcut hB4 e4
      have h0 : (0 : Int) ≤ (k : Int) := by omega
      have h8 : (k : Int) < 16 := by omega
      have HW : Hid (schd b k ++ [UInt32.ofNat (((getN ((b.drop (k * 4)).take 4) : Nat) : Int) % 4294967296).toNat] = schd b (k + 1)) := by
        show _ = _
        rw [schd_low hlt, word_of, wordAt, Nat.mul_comm 4 k]
      obtain ⟨zz, hzz⟩ : ∃ z, ((getN ((b.drop (k * 4)).take 4) : Nat) : Int) % 4294967296 = z := ⟨_, rfl⟩
      have z0 : 0 ≤ zz := by omega
      have z1 : zz ≤ 4294967295 := by omega
      rw [hzz] at HW
      have hs := hb.size
      have hlen : (schd b k).length = k := schd_length b k
      go_wp2_with (first
        | (go_at_call 118; refine (rGet wr hB).mono ?_; rintro e w1 ⟨rfl, rfl⟩)
        | (at_builtin; refine wpList_wapp _ rfl (.tmp 14) (.tmp 24) rfl w.heap.size _ _ rfl (ho.below (wbelow1 wr _) (Nat.le_refl _)) _ _ _ _ rfl (Ws.one wr zz z0 z1) (by simp; omega) (by simp; omega) ?_; intro v2 w2 ho2 hb2))
      go_roundw
      case rel => exact ⟨k + 1, by omega, by go_num, by rw [← HW.out]; exact ho2, (hb.alloc hs _).trans hb2⟩
      case measure => simp [intOf]; omega
    · rw [show k = 16 from by omega] at ho
      go_wp2_with fail
      go_loopw [3, 5, 6, 7, 8, 9] (fun v i _ _ _ _ wr => ∃ k : Nat, 16 ≤ k ∧ k ≤ 64 ∧ i = .int .i64 k ∧ Owd wr w.heap.size v (schd b k) ∧ Below w.heap.size w wr) (fun _ i _ _ _ _ _ => 64 - (intOf i).toNat)
      case atStart => exact ⟨16, by omega, by omega, rfl, ho, hb⟩
      case round =>
        clear ho hb hk hlt
        obtain ⟨k, hk16, hk, rfl, ho, hb⟩ := hrel
        by_cases hlt : k < 64
        · obtain ⟨av, cv, rfl, hW⟩ := ho.bs
          have hlen : (schd b k).length = k := schd_length b k
          rw [hlen] at ho hW ⊢
          obtain ⟨g, og, rfl, hg, hc⟩ := hW.at (by omega)
          have c16 := hc (k - 16) (by omega)
          have c7 := hc (k - 7) (by omega)
          have c15 := hc (k - 15) (by omega)
          have c2 := hc (k - 2) (by omega)
          clear hc
          unfold wt at c16 c7 c15 c2
          obtain ⟨x16, hx16⟩ : ∃ x, (schd b k).getD (k - 16) 0 = x := ⟨_, rfl⟩
          obtain ⟨x15, hx15⟩ : ∃ x, (schd b k).getD (k - 15) 0 = x := ⟨_, rfl⟩
          obtain ⟨x7, hx7⟩ : ∃ x, (schd b k).getD (k - 7) 0 = x := ⟨_, rfl⟩
          obtain ⟨x2, hx2⟩ : ∃ x, (schd b k).getD (k - 2) 0 = x := ⟨_, rfl⟩
          rw [hx16] at c16
          rw [hx15] at c15
          rw [hx7] at c7
          rw [hx2] at c2
          have HX : Hid (schd b (k + 1) = schd b k ++ [x16 + x7 + sgA x15 + sgB x2]) := by
            show _ = _
            rw [schd_high (by omega)]
            unfold wnext
            rw [hx16, hx7, hx15, hx2]
          clear hx16 hx7 hx15 hx2
          have h0 : (16 : Int) ≤ (k : Int) := by omega
          have h8 : (k : Int) < 64 := by omega
          have hi : (0 : Int) ≤ (k : Int) := by omega
          have s16 := wrap_sub (k := k) 16 (by omega) (by omega) (by omega)
          have t16 : (16 : Int) ≤ (k : Int) := by omega
          have p16 : (0 : Int) ≤ (k : Int) - 16 := by omega
          have q16 : (k : Int) - 16 < (k : Int) := by omega
          have r16 : ((k : Int) - 16).toNat = k - 16 := by omega
          have s15 := wrap_sub (k := k) 15 (by omega) (by omega) (by omega)
          have t15 : (15 : Int) ≤ (k : Int) := by omega
          have p15 : (0 : Int) ≤ (k : Int) - 15 := by omega
          have q15 : (k : Int) - 15 < (k : Int) := by omega
          have r15 : ((k : Int) - 15).toNat = k - 15 := by omega
          have s7 := wrap_sub (k := k) 7 (by omega) (by omega) (by omega)
          have t7 : (7 : Int) ≤ (k : Int) := by omega
          have p7 : (0 : Int) ≤ (k : Int) - 7 := by omega
          have q7 : (k : Int) - 7 < (k : Int) := by omega
          have r7 : ((k : Int) - 7).toNat = k - 7 := by omega
          have s2 := wrap_sub (k := k) 2 (by omega) (by omega) (by omega)
          have t2 : (2 : Int) ≤ (k : Int) := by omega
          have p2 : (0 : Int) ≤ (k : Int) - 2 := by omega
          have q2 : (k : Int) - 2 < (k : Int) := by omega
          have r2 : ((k : Int) - 2).toNat = k - 2 := by omega
          go_wp2_with (go_at_call 119; refine (rTurnI _ _ _ (by decide)).mono ?_; rintro e w1 ⟨rfl, rfl⟩)
          rw [sgA_ref, sgB_ref]
          have hv : IntKind.u32.wrap (IntKind.u32.wrap (IntKind.u32.wrap ((x16.toNat : Int) + ((sgA x15).toNat : Int)) + (x7.toNat : Int)) + ((sgB x2).toNat : Int)) = ((x16 + sgA x15 + x7 + sgB x2).toNat : Int) := by rw [w_add, w_add, w_add]
          have b1 : 0 ≤ IntKind.u32.wrap (IntKind.u32.wrap (IntKind.u32.wrap ((x16.toNat : Int) + ((sgA x15).toNat : Int)) + (x7.toNat : Int)) + ((sgB x2).toNat : Int)) := by rw [hv]; omega
          have b2 : IntKind.u32.wrap (IntKind.u32.wrap (IntKind.u32.wrap ((x16.toNat : Int) + ((sgA x15).toNat : Int)) + (x7.toNat : Int)) + ((sgB x2).toNat : Int)) ≤ 4294967295 := by rw [hv]; have := w_lt (x16 + sgA x15 + x7 + sgB x2); omega
          have HE : Hid (schd b k ++ [UInt32.ofNat (IntKind.u32.wrap (IntKind.u32.wrap (IntKind.u32.wrap ((x16.toNat : Int) + ((sgA x15).toNat : Int)) + (x7.toNat : Int)) + ((sgB x2).toNat : Int))).toNat] = schd b (k + 1)) := by
            show _ = _
            rw [hv, one_of, HX.out, sum4]
          clear hv HX
          have hrm : (schd b k).length + [UInt32.ofNat (IntKind.u32.wrap (IntKind.u32.wrap (IntKind.u32.wrap ((x16.toNat : Int) + ((sgA x15).toNat : Int)) + (x7.toNat : Int)) + ((sgB x2).toNat : Int))).toNat].length ≤ 1000000000 := by rw [hlen]; simp; omega
          have hs := hb.size
          go_region_law (refine step_wapp rfl (.tmp 56) (.tmp 72) rfl w.heap.size _ _ rfl (ho.below (below_alloc _ _).drew (Nat.le_refl _)) _ 1 1 [UInt32.ofNat (IntKind.u32.wrap (IntKind.u32.wrap (IntKind.u32.wrap ((x16.toNat : Int) + ((sgA x15).toNat : Int)) + (x7.toNat : Int)) + ((sgB x2).toNat : Int))).toNat] rfl (Ws.one _ _ b1 b2).drew hrm (by simp; omega) ?_; intro v2 w2 ho2 hb2)
          all_goals
            go_wp2_with fail
            go_roundw
            case rel => exact ⟨k + 1, by omega, by omega, by go_num, by rw [← HE.out]; exact ho2, (hb.alloc hs _).drew.trans hb2⟩
            case measure => simp [intOf]; omega
        · obtain ⟨av, cv, rfl, hW⟩ := ho.bs
          have e : k = 64 := by omega
          subst e
          go_wp2
          go_ret
          exact ⟨av, cv, rfl, hW, hb⟩

end Go.Proofs.YtjpejheipkfanaaGreatDoor

/-
  The contract of the reference's Padded: a text with what stands behind it. Condition: at most 100000 bytes.
-/
namespace Go.Proofs.YtjpejheipkfanaaGreatDoor
open Go.RowKit

def lenS : Value → Nat
  | .slice _ n _ => n
  | _ => 0

set_option maxRecDepth 100000 in
set_option maxHeartbeats 1000000 in
theorem rPad (w : World) {a : Option Addr} {n c : Nat} {l : List UInt8} (ha : Bs w a n c l) (hz : n ≤ 100000) :
    Calls Tryz.prog 109 #[.slice a n c] w (Gives w (padL l)) := by
  have hl := ha.len
  obtain ⟨z, hZ⟩ : ∃ z, (119 - n % 64) % 64 = z := ⟨_, rfl⟩
  have HZ : Hid ((119 - n % 64) % 64 = z) := hZ
  have hz64 : z < 64 := by omega
  clear hZ
  have HL : Hid (l.length = n) := hl
  clear hl
  go_enter Tryz.func109, Tryz.ntmps109
  go_wp2_with (first
    | (at_builtin; refine wpList_app _ rfl (.tmp 4) (.tmp 5) rfl w.heap.size _ _ rfl (Own.nil _ _) _ _ _ _ rfl ha (by rw [HL.out]; simp; omega) (Nat.le_refl _) ?_; intro v1 w1 ho1 hb1; have hs1 := hb1.size)
    | (at_builtin; refine wpList_app _ rfl (.tmp 7) (.tmp 8) rfl w.heap.size _ _ rfl (ho1.below (below_alloc w1 _) (Nat.le_refl _)) _ _ _ _ rfl (Bs.one w1 128 (by omega) (by omega)) (by rw [List.nil_append, HL.out]; simp; omega) (by simp; omega) ?_; intro v2 w2 ho2 hb2))
  have hb3 : Below w.heap.size w w2 := (hb1.alloc hs1 _).trans hb2
  have ho3 : Own w2 w.heap.size v2 (l ++ [128] ++ List.replicate 0 0) := by simpa using ho2
  clear ho1 ho2 hb1 hb2 hs1
  go_loopw [3] (fun v wr => ∃ j : Nat, j ≤ z ∧ Own wr w.heap.size v (l ++ [128] ++ List.replicate j 0) ∧ Below w.heap.size w wr) (fun v _ => n + 1 + z - lenS v)
  case atStart => exact ⟨0, by omega, ho3, hb3⟩
  case round =>
    clear ho3 hb3
    obtain ⟨j, hj, ho, hb⟩ := hrel
    obtain ⟨av, cv, rfl, hB⟩ := ho.bs
    have hlen : (l ++ [128] ++ List.replicate j 0).length = n + 1 + j := by simp [HL.out]; omega
    rw [hlen] at ho hB ⊢
    have hs := hb.size
    by_cases hjz : j < z
    · have ht : ¬ ((n + 1 + j : Nat) : Int).tmod 64 = 56 := by rw [Int.tmod_eq_emod_of_nonneg (by omega)]; have := HZ.out; omega
      have ht2 : ¬ ((n + 1 + j : Nat) : Int) % 64 = 56 := by have := HZ.out; omega
      have ht3 : ¬ ((n : Int) + 1 + (j : Int)) % 64 = 56 := by have := HZ.out; omega
      go_wp2_with (first
        | (at_builtin; refine wpList_app _ rfl (.tmp 14) (.tmp 15) rfl w.heap.size _ _ rfl (ho.below (below_alloc wr _) (Nat.le_refl _)) _ _ _ _ rfl (Bs.one wr 0 (by omega) (by omega)) (by rw [hlen]; simp; omega) (by simp; omega) ?_; intro v2 w2 ho2 hb2))
      have e2 : l ++ [128] ++ List.replicate j 0 ++ [UInt8.ofNat (0 : Int).toNat] = l ++ [128] ++ List.replicate (j + 1) 0 := by
        rw [List.replicate_succ', List.append_assoc (l ++ [128])]
        rfl
      rw [e2] at ho2
      obtain ⟨a3, c3, rfl, hB3⟩ := ho2.bs
      have hl3 : (l ++ [128] ++ List.replicate (j + 1) 0).length = n + 1 + (j + 1) := by simp [HL.out]; omega
      rw [hl3] at ho2 ⊢
      go_roundw
      case rel => exact ⟨j + 1, by omega, ho2, (hb.alloc hs _).trans hb2⟩
      case measure => simp [lenS]; omega
    · have e : j = z := by omega
      subst e
      have ht : ((n + 1 + j : Nat) : Int).tmod 64 = 56 := by rw [Int.tmod_eq_emod_of_nonneg (by omega)]; have := HZ.out; omega
      have ht2 : ((n + 1 + j : Nat) : Int) % 64 = 56 := by have := HZ.out; omega
      have ht3 : ((n : Int) + 1 + (j : Int)) % 64 = 56 := by have := HZ.out; omega
      have CP : Hid (Calls Tryz.prog 40 #[.int .u64 (8 * (n : Int)), .int .i64 8] wr (Gives wr (putL (8 * n) 8))) := rPut 8 (8 * (n : Int)) 8 wr (by omega) (by omega) (by omega) (by omega) (by omega)
      have HP : Hid (l ++ [128] ++ List.replicate j 0 ++ putL (8 * n) 8 = padL l) := by
        show _ = _
        unfold padL
        rw [HL.out, HZ.out]
      go_wp2_with (first
        | (go_at_call 40; refine CP.out.mono ?_; rintro e w1 ⟨a1, m1, c1, rfl, ho1, hb1⟩)
        | (at_builtin; refine wpList_app _ rfl (.tmp 17) (.tmp 22) rfl w.heap.size _ _ rfl (ho.below hb1 (Nat.le_refl _)) _ _ _ _ rfl ho1.toBs (by rw [hlen, putL_length]; omega) (Nat.le_trans hs hb1.size) ?_; intro v2 w2 ho2 hb2))
      go_ret
      rw [HP.out] at ho2
      exact Gives.mk ho2 ((hb.trans (hb1.mono hs)).trans hb2)

end Go.Proofs.YtjpejheipkfanaaGreatDoor

/-
  The contract of the reference's Sum. Condition: at most 100000 bytes.
-/
namespace Go.Proofs.YtjpejheipkfanaaGreatDoor
open Go.RowKit

theorem rRoundL (w : World) {ad : Option Addr} {cp : Nat} (v : List UInt32) (k x : UInt32) (hl : v.length = 8) (hv : Ws w ad 8 cp v) :
    Calls Tryz.prog 111 #[.slice ad 8 cp, .int .u32 (k.toNat : Int), .int .u32 (x.toNat : Int)] w fun e w' => ∃ a c, e = .returned (.slice a 8 c) ∧ Ws w' a 8 c (rnd v (k + x)) ∧ Below w.heap.size w w' := by
  obtain ⟨a, b, c, d, e, f, g, z, rfl⟩ := ws_len8 hl
  exact rRound w a b c d e f g z k x hv
theorem rWordsL (w : World) {a : Option Addr} {c : Nat} {b : List UInt8} (ha : Bs w a 64 c b) :
    Calls Tryz.prog 110 #[.slice a 64 c] w fun e w' => ∃ a c, e = .returned (.slice a 64 c) ∧ Ws w' a 64 c (schd b 64) ∧ Below w.heap.size w w' := by
  refine (rWords w ha).mono ?_
  rintro e w' ⟨a, c, rfl, hW, hb⟩
  rw [schd_length] at hW ⊢
  exact ⟨a, c, rfl, hW, hb⟩
theorem rConstL (w : World) : Calls Tryz.prog 108 #[] w fun e w' => ∃ a c, e = .returned (.slice a 64 c) ∧ Ws w' a 64 c sKs ∧ Below w.heap.size w w' := rConst w
theorem padL_length (l : List UInt8) : ∃ N, (padL l).length = 64 * N := by
  refine ⟨(padL l).length / 64, ?_⟩
  have : (padL l).length % 64 = 0 := by simp [padL, putL_length]; omega
  omega
theorem rPadL (w : World) {a : Option Addr} {n c : Nat} {l : List UInt8} (ha : Bs w a n c l) (hz : n ≤ 100000) (N : Nat) (hN : (padL l).length = 64 * N) :
    Calls Tryz.prog 109 #[.slice a n c] w fun e w' => ∃ a c, e = .returned (.slice a (64 * N) c) ∧ Bs w' a (64 * N) c (padL l) ∧ Below w.heap.size w w' := by
  refine (rPad w ha hz).mono ?_
  rintro e w' ⟨a, m, c, rfl, ho, hb⟩
  have hB := ho.toBs
  have e := hB.len
  rw [hN] at e
  subst e
  exact ⟨a, c, rfl, hB, hb⟩
theorem tks_len8 (m : List UInt8) (n : Nat) : (tks m n).length = 8 := by
  induction n with
  | zero => rfl
  | succ n ih =>
    rw [tks]
    exact add8_length ih (by rw [rnds_length, ih])
theorem wtk_snoc {l : List UInt32} {k : Nat} (h : k < l.length) : l.take (k + 1) = l.take k ++ [l.getD k 0] := wtake_snoc h
theorem add8_get {h v : List UInt32} {k : Nat} (hh : h.length = 8) (hv : v.length = 8) (hk : k < 8) : (add8 h v).getD k 0 = h.getD k 0 + v.getD k 0 := by
  unfold add8
  simp [List.getD_eq_getElem?_getD, hh, hv, hk]

set_option maxRecDepth 100000 in
set_option maxRecDepth 100000 in
set_option maxHeartbeats 4000000 in
theorem rSum (w : World) {a : Option Addr} {n c : Nat} {l : List UInt8} (ha : Bs w a n c l) (hz : n ≤ 100000) :
    Calls Tryz.prog 85 #[.slice a n c] w (Gives w (sumL l)) := by
  obtain ⟨N, hN⟩ := padL_length l
  have hNs : N ≤ 2000 := by
    have e : (padL l).length ≤ l.length + 73 := by simp [padL, putL_length]; omega
    have := ha.len
    omega
  have HSUM : Hid (sumL l = outL (tks (padL l) N)) := by
    show _ = _
    unfold sumL
    rw [hN, Nat.mul_div_cancel_left _ (by omega)]
  have CPad : Hid (∀ w, Bs w a n c l → Calls Tryz.prog 109 #[.slice a n c] w fun e w' => ∃ a c, e = .returned (.slice a (64 * N) c) ∧ Bs w' a (64 * N) c (padL l) ∧ Below w.heap.size w w') := fun w h => rPadL w h hz N hN
  have HN : Hid ((padL l).length = 64 * N) := hN
  clear hN
  go_enter Tryz.func85, Tryz.ntmps85
  go_wp2_with (first
    | (go_at_call 108; refine (rConstL _).mono ?_; rintro e w1 ⟨ak, ck, rfl, hk1, hb1⟩; have hh1 := (Ws.made w sHs _ rfl (by decide)).below hb1 (Nat.le_refl _); have hbA := (below_alloc w _).trans (hb1.mono (by simp)))
    | (go_at_call 109; refine (CPad.out _ (ha.below hbA (Nat.le_refl _))).mono ?_; rintro e w2 ⟨ap, cp, rfl, hp2, hb2⟩; have hk2 := hk1.below hb2 (Nat.le_refl _); have hh2 := hh1.below hb2 (Nat.le_refl _); have hbB := hbA.trans (hb2.mono hbA.size)))
  have hh3 : Ws w2 (some ⟨w.heap.size, 0, none⟩) 8 8 (tks (padL l) 0) := hh2
  clear hk1 hh1 hh2 hb1 hb2 hbA
  obtain ⟨bk, ok, rfl, hkl, hkc⟩ := hk2.at (by omega)
  go_loopw [3, 6, 7, 8, 9, 10, 11] (fun h i _ _ _ _ _ wr => ∃ (q : Nat) (ah : Option Addr) (ch : Nat), q ≤ N ∧ i = .int .i64 (64 * (q : Int)) ∧ h = .slice ah 8 ch ∧ Ws wr ah 8 ch (tks (padL l) q) ∧ Below w2.heap.size w2 wr) (fun _ i _ _ _ _ _ _ => 64 * N - (intOf i).toNat)
  case atStart => exact ⟨0, _, _, by omega, rfl, rfl, hh3, Below.refl _ _⟩
  case round =>
    clear hh3
    rename World => wo
    obtain ⟨q, ah, ch, hq, rfl, rfl, hh, hb⟩ := hrel
    obtain ⟨bh, oh, rfl, hhl, hhc⟩ := hh.at (by omega)
    have HT : Hid ((tks (padL l) q).length = 8) := tks_len8 _ _
    by_cases hlt : q < N
    · obtain ⟨a4, c4, hcut, hB4⟩ := hp2.cut2 (64 * q) (64 * q + 64) (by omega) (by omega)
      have hB := hB4 wo (hp2.below hb (Nat.le_refl _))
      have e4 : 64 * q + 64 - 64 * q = 64 := by omega
      rw [e4] at hcut hB
      have hcut' : ∀ w, Sem.run Tryz.prog (Instr.slice 32 (.slice ap (64 * N) cp) (some (.int .i64 (64 * (q : Int)))) (some (.int .i64 (64 * (q : Int) + 64))) none) w = .ok (.slice a4 64 c4) w := fun w => by
        have := hcut w
        rw [show ((64 * q + 64 : Nat) : Int) = 64 * (q : Int) + 64 from by omega, show ((64 * q : Nat) : Int) = 64 * (q : Int) from by omega] at this
        exact this
      clear hcut hB4 e4
      have hB' : Bs wo a4 64 c4 (blk (padL l) q) := hB
      clear hB
      have i1 : (0 : Int) ≤ (q : Int) := by omega
      have i2 : (q : Int) < (N : Int) := by omega
      have i3 : (N : Int) ≤ 2000 := by omega
      have HQ : Hid (tks (padL l) (q + 1) = add8 (tks (padL l) q) (rnds (tks (padL l) q) (schd (blk (padL l) q) 64) 64)) := rfl
      generalize hH : tks (padL l) q = H at hh hhc HT HQ
      generalize hB0 : blk (padL l) q = B at hB' HQ
      clear hH hB0
      have hbs := hb.size
      go_wp2_with (first
        | (go_at_call 110; refine (rWordsL wo hB').mono ?_; rintro e w3 ⟨aw, cw, rfl, hw3, hb3⟩))
      obtain ⟨bw, ow, rfl, hwl, hwc⟩ := hw3.at (by omega)
      go_loopw [8, 9] (fun v j wx => ∃ (jn : Nat) (av : Option Addr) (cv : Nat), jn ≤ 64 ∧ j = .int .i64 jn ∧ v = .slice av 8 cv ∧ Ws wx av 8 cv (rnds H (schd B 64) jn) ∧ Below w3.heap.size w3 wx) (fun _ j _ => 64 - (intOf j).toNat)
      case atStart => exact ⟨0, _, _, by omega, rfl, rfl, hh.below hb3 (Nat.le_refl _), Below.refl _ _⟩
      case round =>
        rename World => wx
        obtain ⟨jn, av, cv, hj, rfl, rfl, hv, hbx⟩ := hrel
        obtain ⟨bv, ov, rfl, hvl, hvc⟩ := hv.at (by omega)
        by_cases hjl : jn < 64
        · have j1 : (0 : Int) ≤ (jn : Int) := by omega
          have j2 : (jn : Int) < 64 := by omega
          have s1 := hkc jn hjl
          have s2 := hwc jn hjl
          unfold wt at s1 s2
          obtain ⟨y, hy⟩ : ∃ x, sKs.getD jn 0 = x := ⟨_, rfl⟩
          obtain ⟨x, hx⟩ : ∃ x, (schd B 64).getD jn 0 = x := ⟨_, rfl⟩
          rw [hy] at s1
          rw [hx] at s2
          have HR : Hid (rnds H (schd B 64) (jn + 1) = rnd (rnds H (schd B 64) jn) (y + x)) := by show _ = _; rw [rnds, hx, hy]
          clear hy hx
          have HVL : Hid ((rnds H (schd B 64) jn).length = 8) := by show _ = _; rw [rnds_length]; exact HT.out
          have hs3 := hb3.size
          have k1 : wx.cell? ⟨bk, ok + jn, none⟩ = some (.int .u32 (y.toNat : Int)) := by
            rw [hbx.cell (p := ⟨bk, ok + jn, none⟩) (by simp; omega), hb3.cell (p := ⟨bk, ok + jn, none⟩) (by simp; omega), hb.cell (p := ⟨bk, ok + jn, none⟩) (by simpa using hkl)]
            exact s1
          have k2 : wx.cell? ⟨bw, ow + jn, none⟩ = some (.int .u32 (x.toNat : Int)) := by
            rw [hbx.cell (p := ⟨bw, ow + jn, none⟩) (by simpa using hwl)]
            exact s2
          have lx := lt_of_cell k1
          have lx2 := lt_of_cell k2
          clear s1 s2
          go_wp2_with fail
          go_region_held3 (fun w' => w'.cell? ⟨bk, ok + jn, none⟩ = some (.int .u32 (y.toNat : Int)) ∧ w'.cell? ⟨bw, ow + jn, none⟩ = some (.int .u32 (x.toNat : Int))) (first | (exact ⟨m1, m2⟩) | go_keep)
            (((go_at_call 111; refine (rRoundL _ _ y x HVL.out hv.drew).mono ?_; rintro e w5 ⟨a5, c5, rfl, hW5, hb5⟩; have m1 := (hb5.cell (p := ⟨bk, ok + jn, none⟩) lx).trans k1; have m2 := (hb5.cell (p := ⟨bw, ow + jn, none⟩) lx2).trans k2)))
          go_wp2_with fail
          go_roundw
          case rel => exact ⟨jn + 1, a5, c5, by omega, by go_num, rfl, by rw [HR.out]; exact hW5, hbx.drew.trans (hb5.mono hbx.size)⟩
          case measure => simp [intOf]; omega
        · have ej : jn = 64 := by omega
          rw [ej] at hv hvc
          have hhx := (hh.below hb3 (Nat.le_refl _)).below hbx (Nat.le_refl _)
          have HVL : Hid ((rnds H (schd B 64) 64).length = 8) := by show _ = _; rw [rnds_length]; exact HT.out
          generalize hV : rnds H (schd B 64) 64 = V at hv hvc HQ HVL
          clear hV ej
          have HA : Hid ((add8 H V).length = 8) := add8_length HT.out HVL.out
          have hb4 : Below w2.heap.size w2 wx := (hb.trans (hb3.mono hbs)).trans (hbx.mono (Nat.le_trans hbs hb3.size))
          obtain ⟨bh', oh', eh, hhl', hhc'⟩ := hhx.at (by omega)
          simp only [Option.some.injEq, Addr.mk.injEq] at eh
          obtain ⟨rfl, rfl, _⟩ := eh
          clear hwc hkc hk2 hp2 hcut' hB' hhc
          go_wp2_with fail
          go_loopw [10, 11] (fun nx j wy => ∃ jm : Nat, jm ≤ 8 ∧ j = .int .i64 jm ∧ Owd wy wx.heap.size nx ((add8 H V).take jm) ∧ Below wx.heap.size wx wy) (fun _ j _ => 8 - (intOf j).toNat)
          case atStart => exact ⟨0, by omega, rfl, Owd.nil _ _, Below.refl _ _⟩
          case round =>
            rename World => wy
            obtain ⟨jm, hjm, rfl, hon, hby⟩ := hrel
            have hsy := hby.size
            by_cases hjl2 : jm < 8
            · have j1 : (0 : Int) ≤ (jm : Int) := by omega
              have j2 : (jm : Int) < 8 := by omega
              have s1 := hhc' jm hjl2
              have s2 := hvc jm hjl2
              unfold wt at s1 s2
              obtain ⟨x, hx⟩ : ∃ x, H.getD jm 0 = x := ⟨_, rfl⟩
              obtain ⟨y, hy⟩ : ∃ x, V.getD jm 0 = x := ⟨_, rfl⟩
              have HS : Hid ((add8 H V).take jm ++ [x + y] = (add8 H V).take (jm + 1)) := by
                show _ = _
                rw [wtk_snoc (by rw [HA.out]; exact hjl2), add8_get HT.out HVL.out hjl2, hx, hy]
              rw [hx] at s1
              rw [hy] at s2
              clear hx hy
              have lx := lt_of_cell s1
              have lx2 := lt_of_cell s2
              have k1 := (hby.cell (p := ⟨bh, oh + jm, none⟩) lx).trans s1
              have k2 := (hby.cell (p := ⟨bv, ov + jm, none⟩) lx2).trans s2
              have ly := lt_of_cell k1
              have ly2 := lt_of_cell k2
              clear s1 s2
              have hv0 : IntKind.u32.wrap ((x.toNat : Int) + (y.toNat : Int)) = ((x + y).toNat : Int) := w_add x y
              have b1 : 0 ≤ IntKind.u32.wrap ((x.toNat : Int) + (y.toNat : Int)) := by rw [hv0]; omega
              have b2 : IntKind.u32.wrap ((x.toNat : Int) + (y.toNat : Int)) ≤ 4294967295 := by rw [hv0]; have := w_lt (x + y); omega
              have HE : Hid ((add8 H V).take jm ++ [UInt32.ofNat (IntKind.u32.wrap ((x.toNat : Int) + (y.toNat : Int))).toNat] = (add8 H V).take (jm + 1)) := by
                show _ = _
                rw [hv0, one_of, HS.out]
              clear hv0 HS
              have hrm : ((add8 H V).take jm).length + [UInt32.ofNat (IntKind.u32.wrap ((x.toNat : Int) + (y.toNat : Int))).toNat].length ≤ 1000000000 := by rw [List.length_take, HA.out]; simp; omega
              go_wp2_with fail
              go_region_held3 (fun w' => w'.cell? ⟨bh, oh + jm, none⟩ = some (.int .u32 (x.toNat : Int)) ∧ w'.cell? ⟨bv, ov + jm, none⟩ = some (.int .u32 (y.toNat : Int))) (first | (exact ⟨m1, m2⟩) | (exact ⟨((below_alloc wy _).drew.cell (p := ⟨bh, oh + jm, none⟩) ly).trans k1, ((below_alloc wy _).drew.cell (p := ⟨bv, ov + jm, none⟩) ly2).trans k2⟩) | go_keep)
                ((refine step_wapp (by rfl) (.tmp 49) (.tmp 59) (by rfl) wx.heap.size _ _ (by rfl) (hon.below (below_alloc wy _).drew (Nat.le_refl _)) _ 1 1 [UInt32.ofNat (IntKind.u32.wrap ((x.toNat : Int) + (y.toNat : Int))).toNat] (by rfl) (Ws.one _ _ b1 b2).drew hrm (by simp; omega) ?_; intro v2 w6 ho6 hb6; have m1 := (hb6.cell (p := ⟨bh, oh + jm, none⟩) lx).trans (((below_alloc wy _).drew.cell (p := ⟨bh, oh + jm, none⟩) ly).trans k1); have m2 := (hb6.cell (p := ⟨bv, ov + jm, none⟩) lx2).trans (((below_alloc wy _).drew.cell (p := ⟨bv, ov + jm, none⟩) ly2).trans k2)))
              go_wp2_with fail
              go_roundw
              case rel => exact ⟨jm + 1, by omega, by go_num, by rw [← HE.out]; exact ho6, (hby.alloc hsy _).drew.trans hb6⟩
              case measure => simp [intOf]; omega
            · rw [List.take_of_length_le (by rw [HA.out]; omega), ← HQ.out] at hon
              obtain ⟨an, cn, rfl, hWn⟩ := hon.bs
              rw [show (tks (padL l) (q + 1)).length = 8 from tks_len8 _ _] at hWn ⊢
              go_wp2_with fail
              go_roundw
              case rel => exact ⟨q + 1, an, cn, by omega, by go_num, rfl, hWn, hb4.trans (hby.mono hb4.size)⟩
              case measure => simp [intOf]; omega
    · have eq : q = N := by omega
      rw [eq] at hh hhc
      have i2 : ¬ 64 * (q : Int) < 64 * (N : Int) := by omega
      generalize hH : tks (padL l) N = H at hh hhc HSUM
      have HTN : Hid (H.length = 8) := by rw [← hH]; exact tks_len8 _ _
      clear hH eq
      go_wp2_with fail
      go_loopw [12, 13] (fun o i wy => ∃ jm : Nat, jm ≤ 8 ∧ i = .int .i64 jm ∧ Own wy wo.heap.size o (outL (H.take jm)) ∧ Below wo.heap.size wo wy) (fun _ j _ => 8 - (intOf j).toNat)
      case atStart => exact ⟨0, by omega, rfl, Own.nil _ _, Below.refl _ _⟩
      case round =>
        rename World => wy
        obtain ⟨jm, hjm, rfl, hon, hby⟩ := hrel
        have hsy := hby.size
        by_cases hjl2 : jm < 8
        · have j1 : (0 : Int) ≤ (jm : Int) := by omega
          have j2 : (jm : Int) < 8 := by omega
          have s1 := hhc jm hjl2
          unfold wt at s1
          obtain ⟨x, hx⟩ : ∃ x, H.getD jm 0 = x := ⟨_, rfl⟩
          have HS : Hid (outL (H.take jm) ++ putL x.toNat 4 = outL (H.take (jm + 1))) := by
            show _ = _
            rw [wtk_snoc (by rw [HTN.out]; exact hjl2), outL_snoc, hx]
          rw [hx] at s1
          clear hx
          have lx := lt_of_cell s1
          have k1 := (hby.cell (p := ⟨bh, oh + jm, none⟩) lx).trans s1
          clear s1
          have hxl := w_lt x
          have hx1 : (x.toNat : Int) < 4294967296 := by omega
          have hlo : (outL (H.take jm)).length ≤ 32 := by rw [outL_length, List.length_take]; omega
          have CP : Hid (Calls Tryz.prog 40 #[.int .u64 (x.toNat : Int), .int .i64 4] wy (Gives wy (putL x.toNat 4))) := rPut 4 (x.toNat : Int) 4 wy (by omega) (by omega) (by omega) (by omega) (by omega)
          go_wp2_with (first
            | (go_at_call 40; refine CP.out.mono ?_; rintro e w7 ⟨a7, m7, c7, rfl, ho7, hb7⟩)
            | (at_builtin; refine wpList_app _ rfl (.tmp 66) (.tmp 72) rfl wo.heap.size _ _ rfl (hon.below hb7 (Nat.le_refl _)) _ _ _ _ rfl ho7.toBs (by rw [putL_length]; omega) (Nat.le_trans hsy hb7.size) ?_; intro v8 w8 ho8 hb8))
          go_roundw
          case rel => exact ⟨jm + 1, by omega, by go_num, by rw [← HS.out]; exact ho8, (hby.trans (hb7.mono hsy)).trans hb8⟩
          case measure => simp [intOf]; omega
        · rw [List.take_of_length_le (by rw [HTN.out]; omega), ← HSUM.out] at hon
          go_wp2
          go_ret
          have hwo := hbB.trans (hb.mono hbB.size)
          exact Gives.mk (hon.mono hwo.size) (hwo.trans (hby.mono hwo.size))

end Go.Proofs.YtjpejheipkfanaaGreatDoor

/-
  What the proofs about sums share: their length, sums as slices, the sum of one part. No condition; no statement of the seat is proved here.
-/
namespace Go.Proofs.YtjpejheipkfanaaGreatDoor
open Go.RowKit

theorem sumL_length (l : List UInt8) : (sumL l).length = 32 := by
  rw [sum_fin, outL_length]
  unfold fin
  split
  · rw [tk_length (tks_length _ _)]
  · rw [tk_length (tk_length (tks_length _ _) _)]
theorem cs_sum (l : List UInt8) : (cs (sumL l)).length = 32 := by rw [cs_length, sumL_length]
theorem sum_bs {w : World} {g : Nat} {l : List UInt8} {t : TypeId} (h : Blk w g (cs (sumL l)) t) : Bs w (some ⟨g, 0, none⟩) 32 32 (sumL l) := by
  have := h.bs 0 32 (sumL l) cs_self (by rw [sumL_length]; omega) (by omega)
  rw [sumL_length] at this
  exact this
theorem oOf1 (w : World) (hK : Kon w) {a : Option Addr} {n c : Nat} {l : List UInt8} (ha : Bs w a n c l) (hz : n ≤ 100000) :
    Calls Tryz.prog 105 #[.slice (some ⟨w.heap.size, 0, none⟩) 1 1] (w.alloc (.cells #[.slice a n c] 32)) fun e w' => e = .returned (.agg (cs (sumL l)).toArray) ∧ Below w.heap.size w w' := by
  have hb := below_alloc w (.cells #[.slice a n c] 32)
  have := oOf _ (hK.below hb hK.lt) (Bss.one1 ha) (by have := ha.len; simp [tot]; omega)
  refine this.mono ?_
  rintro e w' ⟨rfl, hb'⟩
  refine ⟨?_, hb.trans (hb'.mono hb.size)⟩
  simp [bv]

end Go.Proofs.YtjpejheipkfanaaGreatDoor
