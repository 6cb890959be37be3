/-
  4 texts in one. No statement of the seat is proved here.
-/
import Derived.Test.YtlenmkhmkommcaaGreatG20

/-
  The contract of Go's DeleteFunc over touches, as layer 9's program calls it. Condition: lists of at most a million.
-/
namespace Go.Proofs.YtlenmkhmkommcaaGreat
open Go.RowKit
set_option linter.unusedVariables false

/-- In the middle of DeleteFunc: i touches are kept of the first j. -/
def Dl (A : Nat → Prop) (w : World) (g n c : Nat) (at_ : Int) (l : List Tch) (i j : Nat) (wr : World) : Prop :=
  ∃ C, OwS (elT A) 3 114 wr 0 (.slice (some ⟨g, 0, none⟩) n c) C ∧ C.take i = (l.take j).filter (keepT at_) ∧ C.drop j = l.drop j ∧ C.length = n ∧ Kp (fun k => k = g) w wr
theorem sp_g {A : Nat → Prop} {w w' : World} {g : Nat} (ht : Ty w g 114) (k : Kp (fun j => j = g) w w') : Sp A A (fun j => j = g) w w' := ⟨k, fun j e _ h5 => by subst e; exact absurd (h5.one ht) (by decide), fun _ h => h⟩
theorem Dl.grow {A : Nat → Prop} {w wr w' : World} {g n c : Nat} {at_ : Int} {l : List Tch} {i j : Nat} (h : Dl A w g n c at_ l i j wr) (k : Below wr.heap.size wr w') : Dl A w g n c at_ l i j w' := by
  obtain ⟨C, ho, h1, h2, h3, hk⟩ := h
  exact ⟨C, ho.turn (Sp.elT (T := fun _ => False) ⟨Kp.of_below k, fun _ hf => hf.elim, fun _ hu => hu⟩) fun x hx => k.block x (ho.lt x hx).2, h1, h2, h3, hk.trans (Kp.of_below k)⟩
theorem Dl.elem {A : Nat → Prop} {w wr : World} {g n c : Nat} {at_ : Int} {l : List Tch} {i j : Nat} (h : Dl A w g n c at_ l i j wr) (hij : i < j) (hj : j < n) : ∃ t p m q, l[j]? = some t ∧ wr.rangeAt g (j * 3) [.int .i64 t.1, .int .i64 t.2.1, .slice p m q] ∧ g < wr.heap.size ∧
    (keepT at_ t = false → Dl A w g n c at_ l i (j + 1) wr) ∧ (keepT at_ t = true → ∀ v, Below wr.heap.size wr v → v.there g (i * 3) 3 ∧ Dl A w g n c at_ l (i + 1) (j + 1) (v.setCells g (i * 3) [.int .i64 t.1, .int .i64 t.2.1, .slice p m q])) := by
  have h0 := h
  obtain ⟨C, ho, h1, h2, h3, hk⟩ := h
  obtain ⟨t, ht⟩ : ∃ t, C[j]? = some t := ⟨_, List.getElem?_eq_getElem (by omega)⟩
  have hlt : l[j]? = some t := by
    have e1 : (C.drop j)[0]? = some t := by rw [List.getElem?_drop]; exact ht
    rw [h2, List.getElem?_drop] at e1
    exact e1
  obtain ⟨b, o, p, m, q, ha, hlb, hrg, h5, i1, i2⟩ := ho.touchAt ht
  simp only [Option.some.injEq, Addr.mk.injEq] at ha
  obtain ⟨rfl, rfl, _⟩ := ha
  rw [Nat.zero_add] at hrg
  have hdr : C.drop (j + 1) = l.drop (j + 1) := by
    have := congrArg (List.drop 1) h2
    rwa [List.drop_drop, List.drop_drop] at this
  refine ⟨t, p, m, q, hlt, hrg, hlb, fun hf => ⟨C, ho, ?_, hdr, h3, hk⟩, fun hf v kb => ?_⟩
  · rw [take_keep hlt, h1, hf]
    simp
  · have ov : OwS (elT A) 3 114 v 0 (.slice (some ⟨g, 0, none⟩) n c) C := ho.turn (Sp.elT (T := fun _ => False) ⟨Kp.of_below kb, fun _ hf => hf.elim, fun _ hu => hu⟩) fun x hx => kb.block x (ho.lt x hx).2
    obtain ⟨us, hb, g1, g2, g3, g4, _⟩ := ov.blk
    have hty : Ty v g 114 := hb.ty
    have kc := kp_cells g [.int .i64 t.1, .int .i64 t.2.1, .slice p m q] v (i * 3)
    refine ⟨hb.there (i * 3) 3 (by rw [g1]; omega), C.set i t, ov.setAt (by omega) t _ rfl (one88 _ _ _ _ _) ⟨p, m, q, rfl, h5.below kb, i1, i2⟩ (sp_g hty kc).elT, ?_, ?_, by rw [List.length_set]; exact h3, (hk.trans (Kp.of_below kb)).trans kc⟩
    · rw [take_keep hlt, hf, ← h1, List.take_add_one, List.getElem?_set_self (by omega), List.take_set_of_le (Nat.le_refl _)]
      rfl
    · rw [List.drop_set_of_lt (by omega), hdr]
theorem Dl.last {A : Nat → Prop} {w wr : World} {g n c : Nat} {at_ : Int} {l : List Tch} {i : Nat} (h : Dl A w g n c at_ l i n wr) (hi : i < n) (hl : l.length = n) : ∃ vs, Blk wr g vs 114 ∧ i * 3 + (n - i) * 3 ≤ vs.length ∧
    ∀ w' us, us.length = (n - i) * 3 → Blk w' g (vs.take (i * 3) ++ us ++ vs.drop (i * 3 + (n - i) * 3)) 114 → Kp (fun j => j = g) wr w' → OwS (elT A) 3 114 w' 0 (.slice (some ⟨g, 0, none⟩) i c) (l.filter (keepT at_)) ∧ Kp (fun k => k = g) w w' := by
  obtain ⟨C, ho, h1, h2, h3, hk⟩ := h
  obtain ⟨us, hb, g1, g2, g3, g4, _⟩ := ho.blk
  refine ⟨us, hb, by rw [g1]; omega, fun w' us' hu hb' k' => ⟨?_, hk.trans k'⟩⟩
  have := ho.cutTo (w' := w') (i := i) (by omega) hb hu hb' (sp_g hb.ty k').elT
  rwa [h1, List.take_of_length_le (by omega)] at this
theorem sizeOf88 (w : World) : Sem.run Tryz.prog (sizeOf (Tryz.prog.elem 40)) w = .ok 3 w := by kernel_rfl
theorem under38 : Tryz.prog.underlying 40 = some (.slice (Tryz.prog.elem 40)) := by kernel_rfl
theorem cutLow88 {g n c i : Nat} (hi : i < n) (hc : n ≤ c) (w : World) : Sem.run Tryz.prog (Instr.slice 40 (.slice (some ⟨g, 0, none⟩) n c) (some (.int .i64 (i : Int))) none none) w = .ok (.slice (some ⟨g, i * 3, none⟩) (n - i) (c - i)) w := by
  rw [run_slice_l w 40 _ n c under38 .i64 (i : Int) (by omega) (by omega), sizeOf88]
  simp only [Result.andThen, sliced, Int.toNat_natCast]
  rw [if_neg (by omega)]
  simp [Addr.add]
  omega
theorem cutHigh88 {g n c i : Nat} (hi : i < n) (hc : n ≤ c) (w : World) : Sem.run Tryz.prog (Instr.slice 40 (.slice (some ⟨g, 0, none⟩) n c) none (some (.int .i64 (i : Int))) none) w = .ok (.slice (some ⟨g, 0, none⟩) i c) w := by
  rw [run_slice_h w 40 _ n c under38 .i64 (i : Int) (by omega) (by omega), sizeOf88]
  simp only [Result.andThen, sliced, Int.toNat_natCast, Nat.sub_zero]
  rw [if_neg (by omega)]
  simp [Addr.add]
set_option maxRecDepth 100000 in
set_option maxHeartbeats 8000000 in
theorem oDelete (w : World) {A : Nat → Prop} {a : Option Addr} {n c : Nat} {l : List Tch} (h : OwS (elT A) 3 114 w 0 (.slice a n c) l) (hn : n ≤ 1000000) {xb : Nat} {on at_ kind num : Int} {xp : Option Addr} {xm xq : Nat} (hx : Blk w xb [.int .i64 on, .int .i64 at_, .int .i64 kind, .slice xp xm xq, .int .i64 num] 28) :
    Calls Tryz.prog 53 #[.slice a n c, .func (.func 54) #[] #[.pointer (some ⟨xb, 0, none⟩)]] w fun e w' => ∃ a' n' c', e = .returned (.slice a' n' c') ∧ OwS (elT A) 3 114 w' 0 (.slice a' n' c') (l.filter (keepT at_)) ∧ (Value.slice a' n' c').ownBlock = (Value.slice a n c).ownBlock ∧ Kp (fun j => (Value.slice a n c).ownBlock = some j) w w' := by
  have CI := oIndex w h hn hx
  obtain ⟨a', n', c', hv, hln⟩ := h.shape
  simp only [Value.slice.injEq] at hv
  rw [← hv.2.1] at hln
  clear hv
  have HS : Hid (OwS (elT A) 3 114 w 0 (.slice a n c) l) := h
  have HX : Hid (Blk w xb [.int .i64 on, .int .i64 at_, .int .i64 kind, .slice xp xm xq, .int .i64 num] 28) := hx
  have HL : Hid (l.length = n) := hln
  clear h hx hln
  go_enter Tryz.func53, Tryz.ntmps53
  go_wp2_with fail
  refine CI.mono ?_
  rintro e w1 ⟨z, rfl, hf, k1⟩
  rcases hf with ⟨rfl, hf⟩ | ⟨iz, rfl, hi, hf⟩
  · have HF : Hid (l.filter (keepT at_) = l) := hf
    clear CI hf
    go_wp2_with fail
    go_ret
    refine ⟨a, n, c, rfl, ?_, rfl, Kp.of_below k1⟩
    rw [HF.out]
    exact HS.out.turn (Sp.elT (T := fun _ => False) ⟨Kp.of_below k1, fun _ hf => hf.elim, fun _ hu => hu⟩) fun x hx => k1.block x (HS.out.lt x hx).2
  · rw [HL.out] at hi
    obtain ⟨g, rfl⟩ : ∃ g, a = some ⟨g, 0, none⟩ := by
      obtain ⟨rows, _, _, ho⟩ := HS.out
      rcases ho with ⟨e, _⟩ | ⟨g, cap, cur, e, _⟩
      · simp only [Value.slice.injEq] at e; omega
      · simp only [Value.slice.injEq] at e; exact ⟨g, e.1⟩
    have o1 : OwS (elT A) 3 114 w1 0 (.slice (some ⟨g, 0, none⟩) n c) l := HS.out.turn (Sp.elT (T := fun _ => False) ⟨Kp.of_below k1, fun _ hf => hf.elim, fun _ hu => hu⟩) fun x hx => k1.block x (HS.out.lt x hx).2
    have hnc : n ≤ c := by obtain ⟨_, _, _, h2, _⟩ := HS.out.blk; exact h2
    have hgx : ¬ xb = g := fun e => by subst e; exact absurd ((HS.out.ty _ rfl).one HX.out.ty) (by decide)
    have D0 : Dl A w g n c at_ l iz (iz + 1) w1 := ⟨l, o1, hf.symm, rfl, HL.out, Kp.of_below k1⟩
    have jz : ((iz : Int) == -1) = false := by simp
    clear CI hf o1 k1
    go_wp2_with fail
    go_loopw [5, 6] (fun iv jv wr => ∃ i j : Nat, i < j ∧ j ≤ n ∧ iv = .int .i64 (i : Int) ∧ jv = .int .i64 (j : Int) ∧ Dl A w g n c at_ l i j wr) (fun _ jv _ => n - (intOf jv).toNat)
    case atStart => exact ⟨iz, iz + 1, by omega, by omega, rfl, by go_num, D0⟩
    case round =>
      clear D0 jz hi
      obtain ⟨i, j, hij, hjn, rfl, rfl, DL⟩ := hrel
      by_cases hlt : j < n
      · have i0 : (j : Int) < (n : Int) := by omega
        obtain ⟨t, p, m, q, hx, hrg, hlg, DF, DT⟩ := DL.elem hij hlt
        have hkw : Kp (fun k => k = g) w wr := by obtain ⟨_, _, _, _, _, hk⟩ := DL; exact hk
        have HXW : Hid (Blk wr xb [.int .i64 on, .int .i64 at_, .int .i64 kind, .slice xp xm xq, .int .i64 num] 28) := hkw.blk HX.out hgx
        have HDF : Hid (keepT at_ t = false → Dl A w g n c at_ l i (j + 1) wr) := DF
        have HDT : Hid _ := DT
        obtain ⟨t1, t2, tb⟩ := t
        dsimp only at hrg HDT
        have z7 : Blk (wr.alloc (.cells #[.int .i64 0, .int .i64 0, .slice none 0 0] 114)) wr.heap.size [.int .i64 0, .int .i64 0, .slice none 0 0] 114 := Blk.newAt wr _ _ wr.heap.size rfl _ rfl
        have k7 : Below wr.heap.size wr (wr.alloc (.cells #[.int .i64 0, .int .i64 0, .slice none 0 0] 114)) := below_alloc _ _
        clear DF DT DL hkw hx
        go_wp2_with (first
          | ((with_reducible refine at_ld 114 ?_); (refine ld 114 (.tmp 24) 3 size88 _ Tryz.underlying114 rfl g (j * 3) [.int .i64 t1, .int .i64 t2, .slice p m q] rfl hrg rfl ?_))
          | ((with_reducible refine at_st 114 ?_); (refine st' 114 (.tmp 7) (.tmp 25) 3 size88 wr.heap.size 0 [.int .i64 t1, .int .i64 t2, .slice p m q] rfl (one88 _ _ _ _ _) (z7.there 0 3 (by simp)) rfl rfl ?_); intro v3 hv3; have b3 : Blk v3 wr.heap.size [.int .i64 t1, .int .i64 t2, .slice p m q] 114 := (by rw [hv3]; exact z7.setsW _ rfl); have k3 : Below wr.heap.size wr v3 := (by rw [hv3]; exact below_sets (Nat.le_refl _) _ k7 0); have l3 := b3.lt; clear hv3)
          | ((with_reducible refine at_ld 114 ?_); (refine ld 114 (.tmp 7) 3 size88 _ Tryz.underlying114 rfl wr.heap.size 0 [.int .i64 t1, .int .i64 t2, .slice p m q] rfl b3.whole rfl ?_)))
        have CS := oSameAt v3 (HXW.out.below k3 HXW.out.lt) t1 t2 p m q
        by_cases hq : t2 = at_
        · rw [decide_eq_true hq] at CS
          have HD2 : Hid (Dl A w g n c at_ l i (j + 1) wr) := HDF.out (decide_eq_false (fun hne => hne hq))
          clear hq
          refine CS.mono ?_
          rintro e w4 ⟨rfl, kw4⟩
          have DL4 := HD2.out.grow (k3.trans (kw4.mono k3.size))
          clear HD2 HDF HDT HXW CS z7 k7 hrg b3 l3 k3 kw4
          go_wp2_with fail
          go_roundw
          case rel => exact ⟨i, j + 1, by omega, by omega, rfl, by go_num, DL4⟩
          case measure => simp [intOf]; omega
        · rw [decide_eq_false hq] at CS
          have HD2 : Hid _ := HDT.out (decide_eq_true hq)
          clear hq
          refine CS.mono ?_
          rintro e w4 ⟨rfl, kw4⟩
          have hth := (HD2.out w4 (k3.trans (kw4.mono k3.size))).1
          have HD3 : Hid _ := (HD2.out w4 (k3.trans (kw4.mono k3.size))).2
          have b4 := b3.below kw4 b3.lt
          have l4 := b4.lt
          have g4 : g < w4.heap.size := Nat.lt_of_lt_of_le (Nat.lt_of_lt_of_le hlg k3.size) kw4.size
          have i5 : (i : Int) < (n : Int) := by omega
          clear HD2 HDF HDT HXW CS z7 k7 hrg b3 l3 k3 kw4
          go_wp2_with (first
            | ((with_reducible refine at_ld 114 ?_); (refine ld 114 (.tmp 7) 3 size88 _ Tryz.underlying114 rfl wr.heap.size 0 [.int .i64 t1, .int .i64 t2, .slice p m q] rfl b4.whole rfl ?_))
            | ((with_reducible refine at_st 114 ?_); (refine st' 114 (.tmp 33) (.tmp 32) 3 size88 g (i * 3) [.int .i64 t1, .int .i64 t2, .slice p m q] rfl (one88 _ _ _ _ _) hth rfl rfl ?_); intro v5 hv5; have DL5 : Dl A w g n c at_ l (i + 1) (j + 1) v5 := (by rw [hv5]; exact HD3.out); clear hv5))
          go_roundw
          case rel => exact ⟨i + 1, j + 1, by omega, by omega, by go_num, by go_num, DL5⟩
          case measure => simp [intOf]; omega
      · have i0 : ¬ (j : Int) < (n : Int) := by omega
        obtain rfl : j = n := by omega
        obtain ⟨vs, hb, hvl, HE⟩ := DL.last hij HL.out
        have HEH : Hid _ := HE
        have hlo := cutLow88 (g := g) hij hnc
        have hhi := cutHigh88 (g := g) hij hnc
        obtain ⟨ni, hni⟩ : ∃ ni, ni = j - i := ⟨_, rfl⟩
        obtain ⟨ci, hci⟩ : ∃ ci, ci = c - i := ⟨_, rfl⟩
        rw [← hni] at hlo hvl HEH
        rw [← hci] at hlo
        have hni0 : 0 < ni := by omega
        clear HE DL hni hci
        go_wp2_with ((with_reducible refine at_clr ?_); (refine wpList_clr g (i * 3) ni ci rfl hni0 hb hvl ?_); intro w5 us5 hu5 hb5 hk5; have hfin := HEH.out w5 us5 hu5 hb5 hk5; clear hb5 hk5 hu5)
        go_ret
        exact ⟨some ⟨g, 0, none⟩, i, c, rfl, hfin.1, rfl, hfin.2.mono fun j _ e => by rw [e]; rfl⟩

end Go.Proofs.YtlenmkhmkommcaaGreat

/-
  Contracts of layer 9's program: Look, and what a block becomes by what somebody else does (poked). Conditions: lists of at most a million, bytes of at most 1000.
-/
namespace Go.Proofs.YtlenmkhmkommcaaGreat
open Go.RowKit
set_option linter.unusedVariables false

theorem Dm.ago_len {U : Nat → Prop} {w : World} {d r : Nat} {D : DskS} {M : Mm} (h : Dm U w d r D M) (k : Int) (n : Nat) : (D.ago k n).length = 512 := by
  rw [ago_past, List.getD_eq_getElem?_getD]
  cases hx : (pastL D.safe k).reverse[n]? with
  | none => exact z512_length
  | some b =>
    obtain ⟨c, hc, e⟩ := pastL_mem (List.mem_reverse.1 (List.mem_of_getElem? hx))
    show b.length = 512
    rw [← e]
    exact h.len1 c hc
theorem lookR_mem {at_ : Int} {b : List UInt8} : ∀ {l : List Chg}, lookR l at_ = some b → ∃ c ∈ l, c.2 = b
  | [], h => by simp [lookR] at h
  | c :: l, h => by
    by_cases hc : c.1 = at_
    · rw [lookR_hit hc] at h
      exact ⟨c, by simp, Option.some.inj h⟩
    · rw [lookR_miss hc] at h
      obtain ⟨c', hc', e⟩ := lookR_mem h
      exact ⟨c', by simp [hc'], e⟩
theorem Dm.look_len {U : Nat → Prop} {w : World} {d r : Nat} {D : DskS} {M : Mm} (h : Dm U w d r D M) (k : Int) : (D.look k).length = 512 := by
  unfold DskS.look
  cases hx : lookR D.loose.reverse k with
  | none => exact h.ago_len k 0
  | some b =>
    obtain ⟨c, hc, e⟩ := lookR_mem hx
    show b.length = 512
    rw [← e]
    exact h.len2 c (List.mem_reverse.1 hc)
theorem look_step {l : List Chg} {k : Nat} {c : Chg} (hx : l[k]? = some c) (at_ : Int) : lookR (l.take (k + 1)).reverse at_ = if c.1 = at_ then some c.2 else lookR (l.take k).reverse at_ := by
  rw [List.take_add_one, hx, List.reverse_append]
  show lookR (c :: (l.take k).reverse) at_ = _
  by_cases h : c.1 = at_
  · rw [lookR_hit h, if_pos h]
  · rw [lookR_miss h, if_neg h]
/-- One part, new. -/
theorem oJoin1 (w : World) {p : Option Addr} {m c : Nat} {b : List UInt8} (h : Bs w p m c b) (hz : b.length ≤ 99000) : Calls Tryz.prog 67 #[.slice (some ⟨w.heap.size, 0, none⟩) 1 1] (w.alloc (.cells #[.slice p m c] 26)) fun e w' => ∃ a m c, e = .returned (.slice a m c) ∧ Own w' w.heap.size (.slice a m c) b ∧ Below w.heap.size w w' := by
  refine (oJoin _ (Bss.one1 h) (by simp [tot]; omega)).mono ?_
  rintro e w2 ⟨a3, m3, c3, rfl, o3, hb3⟩
  rw [show [b].flatten = b from by simp] at o3
  have kk : Below w.heap.size w (w.alloc (.cells #[.slice p m c] 26)) := below_alloc _ _
  exact ⟨a3, m3, c3, rfl, o3.mono kk.size, kk.trans (hb3.mono kk.size)⟩
set_option maxRecDepth 100000 in
theorem oLookOut (w : World) {d r : Nat} {D : DskS} {M : Mm} (hb : Blk w d (hc r D M) 91) (at_ : Int) (hat : ¬ (0 ≤ at_ ∧ at_ < D.n)) : Calls Tryz.prog 30 #[.pointer (some ⟨d, 0, none⟩), .int .i64 at_] w fun e w' => e = .returned (.slice none 0 0) ∧ w' = w := by
  have CH := oHas w hb at_
  rw [decide_eq_false hat] at CH
  clear hb hat
  go_enter Tryz.func30, Tryz.ntmps30
  go_wp2_with fail
  refine CH.mono ?_
  rintro e w1 ⟨rfl, rfl⟩
  go_wp2_with fail
  go_ret
  exact ⟨rfl, rfl⟩
set_option maxRecDepth 100000 in
set_option maxHeartbeats 4000000 in
theorem oLookIn (w : World) {U : Nat → Prop} {d r : Nat} {D : DskS} {M : Mm} (h : Dm U w d r D M) (hz : D.safe.length ≤ 1000000) (hz2 : D.loose.length ≤ 1000000) (at_ : Int) (hat : 0 ≤ at_ ∧ at_ < D.n) : Calls Tryz.prog 30 #[.pointer (some ⟨d, 0, none⟩), .int .i64 at_] w (Gives w (D.look at_)) := by
  have CH := oHas w h.blk at_
  rw [decide_eq_true hat] at CH
  have CS := oSafe w h hz at_ 0 (by omega)
  have hl := h.blk.lt
  have c4 : w.cell? ⟨d, 4, none⟩ = some (.slice M.wa M.wn M.wc) := h.blk.cell 4
  have HN : Hid (D.loose.length = M.wn) := h.wlen
  have hwn : M.wn ≤ 1000000 := by rw [← HN.out]; exact hz2
  have HW : Hid (OwS (elT U) 3 114 w 0 (.slice M.wa M.wn M.wc) (D.loose.map t3)) := h.wait.row
  have HL2 : Hid (∀ c ∈ D.loose, c.2.length = 512) := h.len2
  have HAL : Hid ((D.ago at_ 0).length = 512) := h.ago_len at_ 0
  obtain ⟨B, hB⟩ : ∃ B, B = D.look at_ := ⟨_, rfl⟩
  have HB : Hid (B = (lookR D.loose.reverse at_).getD (D.ago at_ 0)) := hB
  rw [← hB]
  have CS' : Hid (Calls Tryz.prog 68 #[.pointer (some ⟨d, 0, none⟩), .int .i64 at_, .int .i64 0] w fun e w' => ∃ p m c, e = .returned (.slice p m c) ∧ B5 (fun j => U j ∨ w.heap.size ≤ j) w' p m c (D.ago at_ 0) ∧ Below w.heap.size w w') := CS
  clear h hz hz2 hat hB CS
  go_enter Tryz.func30, Tryz.ntmps30
  go_wp2_with fail
  refine CH.mono ?_
  rintro e w1 ⟨rfl, rfl⟩
  clear CH
  go_wp2_with fail
  go_loopw [5] (fun iv wr => ∃ t : Nat, t ≤ M.wn ∧ iv = .int .i64 ((M.wn : Int) - 1 - (t : Int)) ∧ Hid (lookR (D.loose.take (M.wn - t)).reverse at_ = lookR D.loose.reverse at_) ∧ wr = w1) (fun iv _ => (intOf iv + 1).toNat)
  case atStart => exact ⟨0, Nat.zero_le _, by simp, by show _ = _; rw [Nat.sub_zero, List.take_of_length_le (by rw [HN.out]; exact Nat.le_refl _)], rfl⟩
  case round =>
    obtain ⟨t, ht, rfl, HI, rfl⟩ := hrel
    by_cases hlt : t < M.wn
    · obtain ⟨i, hi⟩ : ∃ i : Nat, i = M.wn - 1 - t := ⟨_, rfl⟩
      have e1 : (M.wn : Int) - 1 - (t : Int) = (i : Int) := by omega
      have hin : i < M.wn := by omega
      obtain ⟨c, hx⟩ : ∃ c, D.loose[i]? = some c := ⟨_, List.getElem?_eq_getElem (by rw [HN.out]; exact hin)⟩
      have hx' : (D.loose.map t3)[i]? = some (1, c.1, c.2) := by rw [List.getElem?_map, hx]; rfl
      obtain ⟨eb, eo, p, m, q, ha, hlb, hrg, h5, _⟩ := HW.out.touchAt hx'
      have hst := look_step hx at_
      have hcl := HL2.out c (List.mem_of_getElem? hx)
      rw [show M.wn - t = i + 1 from by omega] at HI
      have e3 : (i : Int) - 1 = (M.wn : Int) - 1 - ((t + 1 : Nat) : Int) := by omega
      have HE3 : Hid ((i : Int) - 1 = (M.wn : Int) - 1 - ((t + 1 : Nat) : Int)) := e3
      have hti : Hid (M.wn - (t + 1) = i) := by show _ = _; omega
      clear hi
      obtain ⟨ca, cb⟩ := c
      dsimp only at hrg h5 hst hcl
      have c1 : wr.cell? ⟨eb, eo + i * 3 + 1, none⟩ = some (.int .i64 ca) := hrg 1 _ rfl
      have c2 : wr.cell? ⟨eb, eo + i * 3 + 2, none⟩ = some (.slice p m q) := hrg 2 _ rfl
      have i0 : (i : Int) < (M.wn : Int) := by omega
      rw [e1, ha]
      rw [ha] at c4
      by_cases hq : ca = at_
      · have jq : (ca == at_) = true := by simp [hq]
        have HBB : Hid (B = cb) := by show _ = _; rw [HB.out, ← HI.out, hst, if_pos hq]; rfl
        have CJ := oJoin1 wr h5.bs (by omega)
        clear hq hst HI hx hx' hrg h5 e3 HE3 e1 hti CS'
        go_wp2_with fail
        refine CJ.mono ?_
        rintro e w2 ⟨a3, m3, c3, rfl, o3, hb3⟩
        clear CJ c1 c2 c4
        go_wp2_with fail
        go_ret
        exact ⟨a3, m3, c3, rfl, by rw [HBB.out]; exact o3, hb3⟩
      · have jq : (ca == at_) = false := by simp [hq]
        have HI2 : Hid (lookR (D.loose.take i).reverse at_ = lookR D.loose.reverse at_) := by show _ = _; rw [← HI.out, hst, if_neg hq]
        clear hq hst HI hx hx' hrg h5 e3 e1 CS'
        go_wp2_with fail
        go_roundw
        case rel => exact ⟨t + 1, by omega, by rw [HE3.out], by rw [hti.out]; exact HI2, trivial⟩
        case measure => simp [intOf]
    · obtain rfl : t = M.wn := by omega
      have e1 : (M.wn : Int) - 1 - (M.wn : Int) = -1 := by omega
      have HBB : Hid (B = D.ago at_ 0) := by show _ = _; rw [HB.out, ← HI.out, Nat.sub_self, List.take_zero]; rfl
      rw [e1]
      clear e1 HI c4
      go_wp2_with fail
      refine CS'.out.mono ?_
      rintro e w2 ⟨p, m, q, rfl, h5, hb2⟩
      have CJ := oJoin1 w2 h5.bs (by rw [HAL.out]; omega)
      go_wp2_with fail
      refine CJ.mono ?_
      rintro e w3 ⟨a3, m3, c3, rfl, o3, hb3⟩
      go_wp2_with fail
      go_ret
      exact ⟨a3, m3, c3, rfl, by rw [HBB.out]; exact o3.mono hb2.size, hb2.trans (hb3.mono hb2.size)⟩

end Go.Proofs.YtlenmkhmkommcaaGreat

/-
  Contracts of layer 9's program: what a block becomes by what somebody else does (poked), and Poke. Conditions: lists of at most a million, bytes of at most 1000.
-/
namespace Go.Proofs.YtlenmkhmkommcaaGreat
open Go.RowKit
set_option linter.unusedVariables false

/-- What waits is other touches, in a row of the old one's block or of a new one. -/
theorem Dm.waits {U : Nat → Prop} {w w' : World} {d r : Nat} {D : DskS} {M : Mm} (h : Dm U w d r D M) {L : List Chg} {a : Option Addr} {n c : Nat} (k : Kp (fun j => (Value.slice M.wa M.wn M.wc).ownBlock = some j ∨ j = d) w w') (hb : Blk w' d (hc r { D with loose := L } { M with wa := a, wn := n, wc := c }) 91)
    (ho : OwS (elT fun j => U j ∨ (w.heap.size ≤ j ∧ j < w'.heap.size)) 3 114 w' 0 (.slice a n c) (L.map t3)) (hv : ∀ j, (Value.slice a n c).ownBlock = some j → (Value.slice M.wa M.wn M.wc).ownBlock = some j ∨ w.heap.size ≤ j) (hl : ∀ c ∈ L, c.2.length = 512) :
    Dm (fun j => U j ∨ (w.heap.size ≤ j ∧ j < w'.heap.size)) w' d r { D with loose := L } { M with wa := a, wn := n, wc := c } ∧ Next w U (fun j => U j ∨ (w.heap.size ≤ j ∧ j < w'.heap.size)) ∧ Kp (Wr U w) w w' := by
  have hT : ∀ j, ((Value.slice M.wa M.wn M.wc).ownBlock = some j ∨ j = d) → U j ∧ (Ty w j 114 ∨ Ty w j 91) := by
    rintro j (hj | rfl)
    · exact ⟨h.wait.at_ j hj, Or.inl (h.wait.row.ty j hj)⟩
    · exact ⟨h.inD, Or.inr h.blk.ty⟩
  have h5 : ∀ j, ((Value.slice M.wa M.wn M.wc).ownBlock = some j ∨ j = d) → ¬ Ty w j 5 := fun j hj ht => by
    rcases (hT j hj).2 with h1 | h1
    · exact absurd (ht.one h1) (by decide)
    · exact absurd (ht.one h1) (by decide)
  have s : Sp U (fun j => U j ∨ (w.heap.size ≤ j ∧ j < w'.heap.size)) (fun j => (Value.slice M.wa M.wn M.wc).ownBlock = some j ∨ j = d) w w' := ⟨k, fun j ht _ => h5 j ht, fun _ hu => Or.inl hu⟩
  obtain ⟨p1, p2, p3⟩ := h.pp s fun j ht _ => (hT j ht).2
  refine ⟨⟨?_, Or.inl h.inD, Or.inl h.inR, hb, p3, p1, ⟨ho, fun j hj => ?_⟩, h.seen.turn s ?_, ?_, p2, h.maps, h.len1, hl, h.len3⟩, ?_, k.mono fun j _ hj => ⟨(hT j hj).1, h5 j hj⟩⟩
  · rintro j (hj | hj)
    · exact Nat.lt_of_lt_of_le (h.lt j hj) k.size
    · exact hj.2
  · rcases hv j hj with h1 | h1
    · exact Or.inl (h.wait.at_ j h1)
    · exact Or.inr ⟨h1, (ho.lt j hj).2⟩
  · rintro j (hj | rfl) _ e
    · exact h.two j hj e
    · exact absurd ((h.seen.row.ty _ e).one h.blk.ty) (by decide)
  · intro j hj e
    rcases hv j hj with h1 | h1
    · exact h.two j h1 e
    · have := (h.seen.row.lt j e).2
      omega
  · rintro j (hj | hj)
    · exact Or.inl hj
    · exact Or.inr hj.1
/-- What was seen is other touches, likewise. -/
theorem Dm.sees {U : Nat → Prop} {w w' : World} {d r : Nat} {D : DskS} {M : Mm} (h : Dm U w d r D M) {L : List Tch} {a : Option Addr} {n c : Nat} (k : Kp (fun j => (Value.slice M.sa M.sn M.sc).ownBlock = some j ∨ j = d) w w') (hb : Blk w' d (hc r { D with seen := L } { M with sa := a, sn := n, sc := c }) 91)
    (ho : OwS (elT fun j => U j ∨ (w.heap.size ≤ j ∧ j < w'.heap.size)) 3 114 w' 0 (.slice a n c) L) (hv : ∀ j, (Value.slice a n c).ownBlock = some j → (Value.slice M.sa M.sn M.sc).ownBlock = some j ∨ w.heap.size ≤ j) (hl3 : ∀ t ∈ L, t.2.2.length ≤ 512) :
    Dm (fun j => U j ∨ (w.heap.size ≤ j ∧ j < w'.heap.size)) w' d r { D with seen := L } { M with sa := a, sn := n, sc := c } ∧ Next w U (fun j => U j ∨ (w.heap.size ≤ j ∧ j < w'.heap.size)) ∧ Kp (Wr U w) w w' := by
  have hT : ∀ j, ((Value.slice M.sa M.sn M.sc).ownBlock = some j ∨ j = d) → U j ∧ (Ty w j 114 ∨ Ty w j 91) := by
    rintro j (hj | rfl)
    · exact ⟨h.seen.at_ j hj, Or.inl (h.seen.row.ty j hj)⟩
    · exact ⟨h.inD, Or.inr h.blk.ty⟩
  have h5 : ∀ j, ((Value.slice M.sa M.sn M.sc).ownBlock = some j ∨ j = d) → ¬ Ty w j 5 := fun j hj ht => by
    rcases (hT j hj).2 with h1 | h1
    · exact absurd (ht.one h1) (by decide)
    · exact absurd (ht.one h1) (by decide)
  have s : Sp U (fun j => U j ∨ (w.heap.size ≤ j ∧ j < w'.heap.size)) (fun j => (Value.slice M.sa M.sn M.sc).ownBlock = some j ∨ j = d) w w' := ⟨k, fun j ht _ => h5 j ht, fun _ hu => Or.inl hu⟩
  obtain ⟨p1, p2, p3⟩ := h.pp s fun j ht _ => (hT j ht).2
  refine ⟨⟨?_, Or.inl h.inD, Or.inl h.inR, hb, p3, p1, h.wait.turn s ?_, ⟨ho, fun j hj => ?_⟩, ?_, p2, h.maps, h.len1, h.len2, hl3⟩, ?_, k.mono fun j _ hj => ⟨(hT j hj).1, h5 j hj⟩⟩
  · rintro j (hj | hj)
    · exact Nat.lt_of_lt_of_le (h.lt j hj) k.size
    · exact hj.2
  · rintro j (hj | rfl) _ e
    · exact h.two j e hj
    · exact absurd ((h.wait.row.ty _ e).one h.blk.ty) (by decide)
  · rcases hv j hj with h1 | h1
    · exact Or.inl (h.seen.at_ j h1)
    · exact Or.inr ⟨h1, (ho.lt j hj).2⟩
  · intro j e hj
    rcases hv j hj with h1 | h1
    · exact h.two j e h1
    · have := (h.wait.row.lt j e).2
      omega
  · rintro j (hj | hj)
    · exact Or.inl hj
    · exact Or.inr hj.1
theorem fit_bytes {U : Nat → Prop} {w : World} {d r : Nat} {D : DskS} {M : Mm} (h : Dm U w d r D M) (x : Pok) : (x.kind = 2 → fitB (D.bytesOf x) = D.ago x.at_ x.num.toNat) ∧ (x.kind = 1 → fitB (D.bytesOf x) = D.look x.num) ∧ (x.kind = 0 → fitB (D.bytesOf x) = fitB x.bytes) := by
  unfold DskS.bytesOf
  refine ⟨fun e => ?_, fun e => ?_, fun e => ?_⟩
  · rw [if_pos e, fit_same (h.ago_len _ _)]
  · rw [if_neg (by omega), if_pos e, fit_same (h.look_len _)]
  · rw [if_neg (by omega), if_neg (by omega)]
/-- What poked answers. -/
def Pkd (U : Nat → Prop) (w : World) (D : DskS) (x : Pok) (p : Option Addr) (m q : Nat) (w' : World) : Prop := D.idle x ∨ B5 (fun j => U j ∨ w.heap.size ≤ j) w' p m q (fitB (D.bytesOf x))
set_option maxRecDepth 100000 in
set_option maxHeartbeats 4000000 in
theorem oPoked (w : World) {U : Nat → Prop} {d r : Nat} {D : DskS} {M : Mm} (h : Dm U w d r D M) (hz : D.safe.length ≤ 1000000) (hz2 : D.loose.length ≤ 1000000) (x : Pok) (hin : 0 ≤ x.at_ ∧ x.at_ < D.n) {xp : Option Addr} {xm xc : Nat} (hb : Bs w xp xm xc x.bytes) (hm : xm ≤ 100000) (hx : i64 x.on ∧ i64 x.at_ ∧ i64 x.kind ∧ i64 x.num) :
    Calls Tryz.prog 52 #[.pointer (some ⟨d, 0, none⟩), xv x xp xm xc] w fun e w' => ∃ p m q, e = .returned (.tuple #[.slice p m q, .bool (!decide (D.idle x))]) ∧ Pkd U w D x p m q w' ∧ Below w.heap.size w w' := by
  have hfb := fit_bytes h x
  obtain ⟨on, at_, kind, bytes, num⟩ := x
  dsimp only at hin hb hx hfb
  obtain ⟨x1, x2, x3, x4⟩ := hx
  unfold i64 at x1 x2 x3 x4
  unfold xv
  dsimp only
  obtain ⟨I, hI⟩ : ∃ I : Bool, I = !decide (D.idle ⟨on, at_, kind, bytes, num⟩) := ⟨_, rfl⟩
  rw [← hI]
  have hid : D.idle ⟨on, at_, kind, bytes, num⟩ ↔ (kind < 0 ∨ 2 < kind ∨ (0 < kind ∧ num < 0) ∨ (kind = 1 ∧ D.n ≤ num)) := by
    unfold DskS.idle
    dsimp only
    constructor
    · rintro (h | h | h)
      · omega
      · omega
      · exact h
    · exact fun h => Or.inr (Or.inr h)
  have k1 : Below w.heap.size w (w.alloc (.cells #[.int .i64 on, .int .i64 at_, .int .i64 kind, .slice xp xm xc, .int .i64 num] 28)) := below_alloc _ _
  have b1 : Blk (w.alloc (.cells #[.int .i64 on, .int .i64 at_, .int .i64 kind, .slice xp xm xc, .int .i64 num] 28)) w.heap.size [.int .i64 on, .int .i64 at_, .int .i64 kind, .slice xp xm xc, .int .i64 num] 28 := Blk.newAt w _ _ w.heap.size rfl _ rfl
  have h1 := h.below k1
  have y1 : (w.alloc (.cells #[.int .i64 on, .int .i64 at_, .int .i64 kind, .slice xp xm xc, .int .i64 num] 28)).cell? ⟨w.heap.size, 1, none⟩ = some (.int .i64 at_) := b1.cell 1
  have y2 : (w.alloc (.cells #[.int .i64 on, .int .i64 at_, .int .i64 kind, .slice xp xm xc, .int .i64 num] 28)).cell? ⟨w.heap.size, 2, none⟩ = some (.int .i64 kind) := b1.cell 2
  have y3 : (w.alloc (.cells #[.int .i64 on, .int .i64 at_, .int .i64 kind, .slice xp xm xc, .int .i64 num] 28)).cell? ⟨w.heap.size, 3, none⟩ = some (.slice xp xm xc) := b1.cell 3
  have y4 : (w.alloc (.cells #[.int .i64 on, .int .i64 at_, .int .i64 kind, .slice xp xm xc, .int .i64 num] 28)).cell? ⟨w.heap.size, 4, none⟩ = some (.int .i64 num) := b1.cell 4
  have l1 := b1.lt
  have HU : Hid (∀ j, (U j ∨ (w.alloc (.cells #[.int .i64 on, .int .i64 at_, .int .i64 kind, .slice xp xm xc, .int .i64 num] 28)).heap.size ≤ j) → (U j ∨ w.heap.size ≤ j)) := fun j hj => hj.imp id fun h => Nat.le_trans k1.size h
  have HK1 : Hid (Below w.heap.size w (w.alloc (.cells #[.int .i64 on, .int .i64 at_, .int .i64 kind, .slice xp xm xc, .int .i64 num] 28))) := k1
  by_cases h0 : kind = 0
  · subst h0
    have HI : Hid (I = true) := by show _ = _; rw [hI, decide_eq_false (fun hh => by have := hid.1 hh; omega)]; rfl
    have HB : Hid (fitB (D.bytesOf ⟨on, at_, 0, bytes, num⟩) = fitB bytes) := hfb.2.2 rfl
    have CF := oFill (w.alloc (.cells #[.int .i64 on, .int .i64 at_, .int .i64 0, .slice xp xm xc, .int .i64 num] 28)) (hb.below k1 (Nat.le_refl _)) hm
    clear hI hid h h1 hb hfb b1 k1 x1 x2 x3 x4 hin
    go_enter Tryz.func52, Tryz.ntmps52
    go_wp2_with fail
    refine CF.mono ?_
    rintro e w2 ⟨a3, m3, c3, rfl, o3, hb3⟩
    clear CF y1 y2 y3 y4 l1
    go_wp2_with fail
    go_ret2
    exact ⟨a3, m3, c3, by rw [HI.out]; rfl, Or.inr (by rw [HB.out]; exact (o3.b5 (A := fun j => w.heap.size ≤ j) (fun j hj _ => Nat.le_trans HK1.out.size hj)).mono fun j _ hj => Or.inr hj), HK1.out.trans (hb3.mono HK1.out.size)⟩
  · by_cases h1k : kind = 1
    · subst h1k
      have Y4 : ∀ u, Grows (w.alloc (.cells #[.int .i64 on, .int .i64 at_, .int .i64 1, .slice xp xm xc, .int .i64 num] 28)) u → u.cell? ⟨w.heap.size, 4, none⟩ = some (.int .i64 num) := fun u hu => (b1.below hu b1.lt).cell 4
      have HBK : Hid (∀ u, Grows (w.alloc (.cells #[.int .i64 on, .int .i64 at_, .int .i64 1, .slice xp xm xc, .int .i64 num] 28)) u → Blk u d (hc r D M) 91) := fun u hu => (h1.below hu).blk
      by_cases hn : 0 ≤ num ∧ num < D.n
      · have HI : Hid (I = true) := by show _ = _; rw [hI, decide_eq_false (fun hh => by have := hid.1 hh; omega)]; rfl
        have HB : Hid (fitB (D.bytesOf ⟨on, at_, 1, bytes, num⟩) = D.look num) := hfb.2.1 rfl
        have HD : Hid (decide (0 ≤ num ∧ num < D.n) = true) := decide_eq_true hn
        have HLK : Hid (∀ u, Grows (w.alloc (.cells #[.int .i64 on, .int .i64 at_, .int .i64 1, .slice xp xm xc, .int .i64 num] 28)) u → Calls Tryz.prog 30 #[.pointer (some ⟨d, 0, none⟩), .int .i64 num] u (Gives u (D.look num))) := fun u hu => oLookIn u (h1.below hu) hz hz2 num hn
        clear hI hid h h1 hb hfb b1 k1 x1 x2 x3 x4 hin hn hz hz2 y1 y3 h0
        go_enter Tryz.func52, Tryz.ntmps52
        go_wp2_with fail
        refine regionG (S := Grows (w.alloc (.cells #[.int .i64 on, .int .i64 at_, .int .i64 1, .slice xp xm xc, .int .i64 num] 28))) (by kernel_rfl) (Below.refl _ (w.alloc (.cells #[.int .i64 on, .int .i64 at_, .int .i64 1, .slice xp xm xc, .int .i64 num] 28))).drew ?_
        refine takeG 0 (some 15) (.pointer (some ⟨d, 0, none⟩)) rfl rfl (by kernel_rfl) (by kernel_rfl) (by kernel_rfl) (fun _ _ _ h => h) (ans_plain (by rfl) (fun w _ => rfl)) ?_
        simp only [Act.put, List.setIfInBounds_toArray, List.set_cons_zero, List.set_cons_succ]
        refine takeG 1 (some 16) (.pointer (some ⟨w.heap.size, 4, none⟩)) rfl rfl (by kernel_rfl) (by kernel_rfl) (by kernel_rfl) (fun _ _ _ h => h) (ans_plain (by rfl) (fun w _ => by unfold execOp; go_simp)) ?_
        simp only [Act.put, List.setIfInBounds_toArray, List.set_cons_zero, List.set_cons_succ]
        refine takeG 2 (some 17) (.int .i64 num) rfl rfl (by kernel_rfl) (by kernel_rfl) (by kernel_rfl) (fun _ _ _ h => h) (ans_plain (by rfl) (fun w h => by have hc := Y4 w h; unfold execOp; go_simp)) ?_
        simp only [Act.put, List.setIfInBounds_toArray, List.set_cons_zero, List.set_cons_succ]
        refine takeG 4 (some 19) (.pointer (some ⟨d, 0, none⟩)) rfl rfl (by kernel_rfl) (by kernel_rfl) (by kernel_rfl) (fun _ _ _ h => h) (ans_plain (by rfl) (fun w _ => rfl)) ?_
        simp only [Act.put, List.setIfInBounds_toArray, List.set_cons_zero, List.set_cons_succ]
        refine takeG 5 (some 20) (.pointer (some ⟨w.heap.size, 4, none⟩)) rfl rfl (by kernel_rfl) (by kernel_rfl) (by kernel_rfl) (fun _ _ _ h => h) (ans_plain (by rfl) (fun w _ => by unfold execOp; go_simp)) ?_
        simp only [Act.put, List.setIfInBounds_toArray, List.set_cons_zero, List.set_cons_succ]
        refine takeG 6 (some 21) (.int .i64 num) rfl rfl (by kernel_rfl) (by kernel_rfl) (by kernel_rfl) (fun _ _ _ h => h) (ans_plain (by rfl) (fun w h => by have hc := Y4 w h; unfold execOp; go_simp)) ?_
        simp only [Act.put, List.setIfInBounds_toArray, List.set_cons_zero, List.set_cons_succ]
        refine callG 3 (some 18) 30 #[.tmp 15, .tmp 17] #[31, 3] #[.pointer (some ⟨d, 0, none⟩), .int .i64 num] rfl rfl rfl (by rfl) (by rfl) (by kernel_rfl) Tryz.call30 fun u1 hg1 hs1 => ?_
        refine (HLK.out u1 hs1).mono ?_
        rintro e u2 ⟨a3, m3, c3, rfl, o3, hb3⟩
        refine ⟨_, rfl, Grows.trans hs1 hb3, ?_⟩
        simp only [Act.put, List.setIfInBounds_toArray, List.set_cons_zero, List.set_cons_succ]
        refine takeG 7 (some 22) (.bool (decide (0 ≤ num ∧ num < D.n))) rfl rfl (by kernel_rfl) (by kernel_rfl) (by kernel_rfl) (fun _ _ _ h => h) (ans_fn 51 #[.tmp 19, .tmp 21] #[31, 3] #[.pointer (some ⟨d, 0, none⟩), .int .i64 num] rfl (by rfl) (by rfl) Tryz.call51 fun u hu => (oHas u (HBK.out u hu) num).mono fun e u' ⟨he, hw⟩ => ⟨he, by rw [hw]; exact Below.refl _ _⟩) ?_
        simp only [Act.put, List.setIfInBounds_toArray, List.set_cons_zero, List.set_cons_succ]
        rw [HD.out]
        refine takeG 8 (some 4) (.slice a3 m3 c3) rfl rfl (by kernel_rfl) (by kernel_rfl) (by kernel_rfl) (fun _ _ _ h => h) (ans_plain (by rfl) (fun w _ => by unfold execOp; go_simp)) ?_
        simp only [Act.put, List.setIfInBounds_toArray, List.set_cons_zero, List.set_cons_succ]
        refine takeG 9 (some 5) (.bool true) rfl rfl (by kernel_rfl) (by kernel_rfl) (by kernel_rfl) (fun _ _ _ h => h) (ans_plain (by rfl) (fun w _ => by unfold execOp; go_simp)) ?_
        simp only [Act.put, List.setIfInBounds_toArray, List.set_cons_zero, List.set_cons_succ]
        refine doneG (by kernel_rfl) fun u5 hg5 hs5 => ?_
        have kk : Below (w.alloc (.cells #[.int .i64 on, .int .i64 at_, .int .i64 1, .slice xp xm xc, .int .i64 num] 28)).heap.size (w.alloc (.cells #[.int .i64 on, .int .i64 at_, .int .i64 1, .slice xp xm xc, .int .i64 num] 28)) u5 := hs5
        have HO : Hid (Own u5 u1.heap.size (.slice a3 m3 c3) (D.look num)) := o3.below hg5 (Nat.le_refl _)
        have HS1 : Hid (w.heap.size ≤ u1.heap.size) := Nat.le_trans HK1.out.size (Below.size hs1)
        have HK5 : Hid (Below w.heap.size w u5) := HK1.out.trans (kk.mono HK1.out.size)
        clear kk o3 hb3 hs1 hg1 hg5 hs5 Y4 y2 y4 l1 HLK HBK HD
        go_wp2_with fail
        go_ret2
        exact ⟨a3, m3, c3, by rw [HI.out]; rfl, Or.inr (by rw [HB.out]; exact (HO.out.b5 (A := fun j => w.heap.size ≤ j) (fun j hj _ => Nat.le_trans HS1.out hj)).mono fun j _ hj => Or.inr hj), HK5.out⟩
      · have HI : Hid (I = false) := by show _ = _; rw [hI, decide_eq_true (hid.2 (by omega))]; rfl
        have HP : Hid (D.idle ⟨on, at_, 1, bytes, num⟩) := hid.2 (by omega)
        have HD : Hid (decide (0 ≤ num ∧ num < D.n) = false) := decide_eq_false hn
        have HLK : Hid (∀ u, Grows (w.alloc (.cells #[.int .i64 on, .int .i64 at_, .int .i64 1, .slice xp xm xc, .int .i64 num] 28)) u → Calls Tryz.prog 30 #[.pointer (some ⟨d, 0, none⟩), .int .i64 num] u fun e w' => e = .returned (.slice none 0 0) ∧ w' = u) := fun u hu => oLookOut u (h1.below hu).blk num hn
        clear hI hid h h1 hb hfb b1 k1 x1 x2 x3 x4 hin hn hz hz2 y1 y3 h0
        go_enter Tryz.func52, Tryz.ntmps52
        go_wp2_with fail
        refine regionG (S := Grows (w.alloc (.cells #[.int .i64 on, .int .i64 at_, .int .i64 1, .slice xp xm xc, .int .i64 num] 28))) (by kernel_rfl) (Below.refl _ (w.alloc (.cells #[.int .i64 on, .int .i64 at_, .int .i64 1, .slice xp xm xc, .int .i64 num] 28))).drew ?_
        refine takeG 0 (some 15) (.pointer (some ⟨d, 0, none⟩)) rfl rfl (by kernel_rfl) (by kernel_rfl) (by kernel_rfl) (fun _ _ _ h => h) (ans_plain (by rfl) (fun w _ => rfl)) ?_
        simp only [Act.put, List.setIfInBounds_toArray, List.set_cons_zero, List.set_cons_succ]
        refine takeG 1 (some 16) (.pointer (some ⟨w.heap.size, 4, none⟩)) rfl rfl (by kernel_rfl) (by kernel_rfl) (by kernel_rfl) (fun _ _ _ h => h) (ans_plain (by rfl) (fun w _ => by unfold execOp; go_simp)) ?_
        simp only [Act.put, List.setIfInBounds_toArray, List.set_cons_zero, List.set_cons_succ]
        refine takeG 2 (some 17) (.int .i64 num) rfl rfl (by kernel_rfl) (by kernel_rfl) (by kernel_rfl) (fun _ _ _ h => h) (ans_plain (by rfl) (fun w h => by have hc := Y4 w h; unfold execOp; go_simp)) ?_
        simp only [Act.put, List.setIfInBounds_toArray, List.set_cons_zero, List.set_cons_succ]
        refine takeG 4 (some 19) (.pointer (some ⟨d, 0, none⟩)) rfl rfl (by kernel_rfl) (by kernel_rfl) (by kernel_rfl) (fun _ _ _ h => h) (ans_plain (by rfl) (fun w _ => rfl)) ?_
        simp only [Act.put, List.setIfInBounds_toArray, List.set_cons_zero, List.set_cons_succ]
        refine takeG 5 (some 20) (.pointer (some ⟨w.heap.size, 4, none⟩)) rfl rfl (by kernel_rfl) (by kernel_rfl) (by kernel_rfl) (fun _ _ _ h => h) (ans_plain (by rfl) (fun w _ => by unfold execOp; go_simp)) ?_
        simp only [Act.put, List.setIfInBounds_toArray, List.set_cons_zero, List.set_cons_succ]
        refine takeG 6 (some 21) (.int .i64 num) rfl rfl (by kernel_rfl) (by kernel_rfl) (by kernel_rfl) (fun _ _ _ h => h) (ans_plain (by rfl) (fun w h => by have hc := Y4 w h; unfold execOp; go_simp)) ?_
        simp only [Act.put, List.setIfInBounds_toArray, List.set_cons_zero, List.set_cons_succ]
        refine callG 3 (some 18) 30 #[.tmp 15, .tmp 17] #[31, 3] #[.pointer (some ⟨d, 0, none⟩), .int .i64 num] rfl rfl rfl (by rfl) (by rfl) (by kernel_rfl) Tryz.call30 fun u1 hg1 hs1 => ?_
        refine (HLK.out u1 hs1).mono ?_
        rintro e u2 ⟨rfl, rfl⟩
        refine ⟨_, rfl, hs1, ?_⟩
        simp only [Act.put, List.setIfInBounds_toArray, List.set_cons_zero, List.set_cons_succ]
        refine takeG 7 (some 22) (.bool (decide (0 ≤ num ∧ num < D.n))) rfl rfl (by kernel_rfl) (by kernel_rfl) (by kernel_rfl) (fun _ _ _ h => h) (ans_fn 51 #[.tmp 19, .tmp 21] #[31, 3] #[.pointer (some ⟨d, 0, none⟩), .int .i64 num] rfl (by rfl) (by rfl) Tryz.call51 fun u hu => (oHas u (HBK.out u hu) num).mono fun e u' ⟨he, hw⟩ => ⟨he, by rw [hw]; exact Below.refl _ _⟩) ?_
        simp only [Act.put, List.setIfInBounds_toArray, List.set_cons_zero, List.set_cons_succ]
        rw [HD.out]
        refine takeG 8 (some 4) (.slice none 0 0) rfl rfl (by kernel_rfl) (by kernel_rfl) (by kernel_rfl) (fun _ _ _ h => h) (ans_plain (by rfl) (fun w _ => by unfold execOp; go_simp)) ?_
        simp only [Act.put, List.setIfInBounds_toArray, List.set_cons_zero, List.set_cons_succ]
        refine takeG 9 (some 5) (.bool false) rfl rfl (by kernel_rfl) (by kernel_rfl) (by kernel_rfl) (fun _ _ _ h => h) (ans_plain (by rfl) (fun w _ => by unfold execOp; go_simp)) ?_
        simp only [Act.put, List.setIfInBounds_toArray, List.set_cons_zero, List.set_cons_succ]
        refine doneG (by kernel_rfl) fun u5 hg5 hs5 => ?_
        have kk : Below (w.alloc (.cells #[.int .i64 on, .int .i64 at_, .int .i64 1, .slice xp xm xc, .int .i64 num] 28)).heap.size (w.alloc (.cells #[.int .i64 on, .int .i64 at_, .int .i64 1, .slice xp xm xc, .int .i64 num] 28)) u5 := hs5
        have HK5 : Hid (Below w.heap.size w u5) := HK1.out.trans (kk.mono HK1.out.size)
        clear kk hs1 hg1 hg5 hs5 Y4 y2 y4 l1 HLK HBK HD
        go_wp2_with fail
        go_ret2
        exact ⟨none, 0, 0, by rw [HI.out]; rfl, Or.inl HP.out, HK5.out⟩
    · by_cases h2k : kind = 2
      · subst h2k
        by_cases hn : 0 ≤ num
        · have HI : Hid (I = true) := by show _ = _; rw [hI, decide_eq_false (fun hh => by have := hid.1 hh; omega)]; rfl
          have HB : Hid (fitB (D.bytesOf ⟨on, at_, 2, bytes, num⟩) = D.ago at_ num.toNat) := hfb.1 rfl
          obtain ⟨nn, rfl⟩ : ∃ nn : Nat, num = nn := ⟨num.toNat, by omega⟩
          rw [Int.toNat_natCast] at HB
          have CS := oSafe (w.alloc (.cells #[.int .i64 on, .int .i64 at_, .int .i64 2, .slice xp xm xc, .int .i64 (nn : Int)] 28)) h1 hz at_ nn (by omega)
          clear hI hid h h1 hb hfb b1 k1 x1 x2 x3 hin hz hz2 h0 h1k
          go_enter Tryz.func52, Tryz.ntmps52
          go_wp2_with fail
          refine CS.mono ?_
          rintro e w2 ⟨a3, m3, c3, rfl, o3, hb3⟩
          clear CS y1 y2 y3 y4 l1
          go_wp2_with fail
          go_ret2
          exact ⟨a3, m3, c3, by rw [HI.out]; rfl, Or.inr (by rw [HB.out]; exact o3.mono fun j _ hj => HU.out j hj), HK1.out.trans (hb3.mono HK1.out.size)⟩
        · have HI : Hid (I = false) := by show _ = _; rw [hI, decide_eq_true (hid.2 (by omega))]; rfl
          have HP : Hid (D.idle ⟨on, at_, 2, bytes, num⟩) := hid.2 (by omega)
          clear hI hid h h1 hb hfb b1 k1 x1 x2 x3 x4 hin h0 h1k hz hz2
          go_enter Tryz.func52, Tryz.ntmps52
          go_wp2_with fail
          go_ret2
          exact ⟨none, 0, 0, by rw [HI.out]; rfl, Or.inl HP.out, HK1.out⟩
      · have HI : Hid (I = false) := by show _ = _; rw [hI, decide_eq_true (hid.2 (by omega))]; rfl
        have HP : Hid (D.idle ⟨on, at_, kind, bytes, num⟩) := hid.2 (by omega)
        clear hI hid h h1 hb hfb b1 k1 x1 x2 x3 x4 hin hz hz2
        go_enter Tryz.func52, Tryz.ntmps52
        go_wp2_with fail
        go_ret2
        exact ⟨none, 0, 0, by rw [HI.out]; rfl, Or.inl HP.out, HK1.out⟩

end Go.Proofs.YtlenmkhmkommcaaGreat

/-
  The contract of layer 9's program's Poke. Conditions: lists of at most a million, bytes of at most 1000.
-/
namespace Go.Proofs.YtlenmkhmkommcaaGreat
open Go.RowKit
set_option linter.unusedVariables false

/-- What a call that writes leaves, the plot as it was. -/
def Dng (U : Nat → Prop) (w : World) (d r : Nat) (D : DskS) (g : Int → Option Value) (w' : World) : Prop := ∃ U' M', Dm U' w' d r D M' ∧ M'.g = g ∧ Next w U U' ∧ Kp (Wr U w) w w'
theorem Dng.same {U : Nat → Prop} {w w' : World} {d r : Nat} {D : DskS} {M : Mm} (h : Dm U w d r D M) (k : Below w.heap.size w w') : Dng U w d r D M.g w' := ⟨U, M, h.below k, rfl, Next.refl _ _, Kp.of_below k⟩
theorem Dng.more {U U1 : Nat → Prop} {w w1 w2 : World} {d r : Nat} {D : DskS} {g : Int → Option Value} (k : Kp (Wr U w) w w1) (n : Next w U U1) (h : Dng U1 w1 d r D g w2) : Dng U w d r D g w2 := by
  obtain ⟨U', M', hm, hg, hn, hk⟩ := h
  exact ⟨U', M', hm, hg, n.trans hn k.size, k.wr n hk⟩
theorem filter_t3 (l : List Chg) (at_ : Int) : (l.map t3).filter (keepT at_) = (l.filter fun c => decide (c.1 ≠ at_)).map t3 := by
  rw [List.filter_map]
  rfl
/-- What waits has been deleted from. -/
theorem Dm.poke_mid {U : Nat → Prop} {w w3 : World} {d r : Nat} {D : DskS} {M : Mm} (h : Dm U w d r D M) {at_ : Int} {a : Option Addr} {n c : Nat} (k3 : Kp (fun j => (Value.slice M.wa M.wn M.wc).ownBlock = some j) w w3) (ho : OwS (elT U) 3 114 w3 0 (.slice a n c) ((D.loose.map t3).filter (keepT at_))) (hv : (Value.slice a n c).ownBlock = (Value.slice M.wa M.wn M.wc).ownBlock) :
    d < w3.heap.size ∧ w3.cell? ⟨d, 4, none⟩ = some (.slice M.wa M.wn M.wc) ∧ w3.frozen? ⟨d, 4, none⟩ = false ∧
    ∃ U4, Dm U4 (w3.setCell ⟨d, 4, none⟩ (.slice a n c)) d r { D with loose := D.loose.filter fun c => decide (c.1 ≠ at_) } { M with wa := a, wn := n, wc := c } ∧ Next w U U4 ∧ Kp (Wr U w) w (w3.setCell ⟨d, 4, none⟩ (.slice a n c)) ∧
      (∀ p m q b, B5 U w p m q b → B5 U4 (w3.setCell ⟨d, 4, none⟩ (.slice a n c)) p m q b) ∧ ∀ g vs t, Blk w g vs t → t ≠ 114 → t ≠ 91 → Blk (w3.setCell ⟨d, 4, none⟩ (.slice a n c)) g vs t := by
  have hdw : ¬ (Value.slice M.wa M.wn M.wc).ownBlock = some d := fun e => absurd ((h.wait.row.ty _ e).one h.blk.ty) (by decide)
  have b3 := k3.blk h.blk hdw
  have k4 := kp_set w3 d 4 (.slice a n c)
  have k : Kp (fun j => (Value.slice M.wa M.wn M.wc).ownBlock = some j ∨ j = d) w (w3.setCell ⟨d, 4, none⟩ (.slice a n c)) := (k3.mono fun j _ e => Or.inl e).trans (k4.mono fun j _ e => Or.inr e)
  have s4 : Sp U (fun j => U j ∨ (w.heap.size ≤ j ∧ j < (w3.setCell ⟨d, 4, none⟩ (.slice a n c)).heap.size)) (fun j => j = d) w3 (w3.setCell ⟨d, 4, none⟩ (.slice a n c)) := ⟨k4, fun j e _ ht => by subst e; exact absurd (ht.one b3.ty) (by decide), fun _ hu => Or.inl hu⟩
  have o4 : OwS (elT fun j => U j ∨ (w.heap.size ≤ j ∧ j < (w3.setCell ⟨d, 4, none⟩ (.slice a n c)).heap.size)) 3 114 (w3.setCell ⟨d, 4, none⟩ (.slice a n c)) 0 (.slice a n c) ((D.loose.filter fun c => decide (c.1 ≠ at_)).map t3) := by
    rw [← filter_t3]
    exact ho.turn s4.elT fun j hj => k4.block j (ho.lt j hj).2 fun e => by subst e; exact absurd ((ho.ty _ hj).one b3.ty) (by decide)
  obtain ⟨q1, q2, q3⟩ := h.waits (L := D.loose.filter fun c => decide (c.1 ≠ at_)) k (b3.setC 4 _) o4 (fun j hj => Or.inl (by rw [← hv]; exact hj)) (fun c hc => h.len2 c (List.mem_filter.1 hc).1)
  refine ⟨b3.lt, b3.cell 4, b3.free 4, _, q1, q2, q3, fun p m q b hb => ?_, fun g vs t hb h1 h2 => k.blk hb ?_⟩
  · refine (show Sp U (fun j => U j ∨ (w.heap.size ≤ j ∧ j < (w3.setCell ⟨d, 4, none⟩ (.slice a n c)).heap.size)) (fun j => (Value.slice M.wa M.wn M.wc).ownBlock = some j ∨ j = d) w (w3.setCell ⟨d, 4, none⟩ (.slice a n c)) from ⟨k, ?_, fun _ hu => Or.inl hu⟩).b5 hb
    rintro j (hj | rfl) _ ht
    · exact absurd (ht.one (h.wait.row.ty _ hj)) (by decide)
    · exact absurd (ht.one h.blk.ty) (by decide)
  · rintro (e | rfl)
    · exact h1 (hb.ty.one (h.wait.row.ty _ e))
    · exact h2 (hb.ty.one h.blk.ty)
theorem sizeQ5 : (Tryz.prog.info? 28).map (·.size) = some 5 := by kernel_rfl
theorem one28 (a b c : Int) (p : Option Addr) (m q : Nat) (e : Int) : ∀ v ∈ [Value.int .i64 a, .int .i64 b, .int .i64 c, .slice p m q, .int .i64 e], v.oneCell' = true := by
  intro v hv
  simp at hv
  rcases hv with rfl | rfl | rfl | rfl | rfl <;> rfl
set_option maxRecDepth 100000 in
set_option maxHeartbeats 4000000 in
theorem oPoke (w : World) {U : Nat → Prop} {d r : Nat} {D : DskS} {M : Mm} (h : Dm U w d r D M) (hz : D.safe.length + 1 ≤ 1000000) (hz2 : D.loose.length ≤ 1000000) (x : Pok) {xp : Option Addr} {xm xc : Nat} (hb : Bs w xp xm xc x.bytes) (hm : xm ≤ 100000) (hx : i64 x.on ∧ i64 x.at_ ∧ i64 x.kind ∧ i64 x.num) :
    Calls Tryz.prog 22 #[.pointer (some ⟨d, 0, none⟩), xv x xp xm xc] w fun e w' => e = .returned (.tuple #[]) ∧ Dng U w d r (D.poke x) M.g w' := by
  have k1 : Below w.heap.size w (w.alloc (.cells #[.int .i64 x.on, .int .i64 x.at_, .int .i64 x.kind, .slice xp xm xc, .int .i64 x.num] 28)) := below_alloc _ _
  have b1 : Blk (w.alloc (.cells #[.int .i64 x.on, .int .i64 x.at_, .int .i64 x.kind, .slice xp xm xc, .int .i64 x.num] 28)) w.heap.size [.int .i64 x.on, .int .i64 x.at_, .int .i64 x.kind, .slice xp xm xc, .int .i64 x.num] 28 := Blk.newAt w _ _ w.heap.size rfl _ rfl
  have h1 := h.below k1
  have hUl := h.lt
  have HS0 : Hid (∀ w', Below w.heap.size w w' → D.idle x → Dng U w d r (D.poke x) M.g w') := fun w' hb hi => by
    rw [show D.poke x = D from if_pos hi]
    exact Dng.same h hb
  obtain ⟨W1, hW1⟩ : ∃ W1, W1 = w.alloc (.cells #[.int .i64 x.on, .int .i64 x.at_, .int .i64 x.kind, .slice xp xm xc, .int .i64 x.num] 28) := ⟨_, rfl⟩
  have HW1 : Hid (W1 = w.alloc (.cells #[.int .i64 x.on, .int .i64 x.at_, .int .i64 x.kind, .slice xp xm xc, .int .i64 x.num] 28)) := hW1
  rw [← hW1] at k1 b1 h1
  have hsz : W1.heap.size = w.heap.size + 1 := by rw [hW1]; simp
  have HBs := hb.below k1 (Nat.le_refl _)
  have CH := oHas W1 h1.blk x.at_
  have CP : 0 ≤ x.at_ ∧ x.at_ < D.n → Calls Tryz.prog 52 #[.pointer (some ⟨d, 0, none⟩), xv x xp xm xc] W1 fun e w' => ∃ p m q, e = .returned (.tuple #[.slice p m q, .bool (!decide (D.idle x))]) ∧ Pkd U W1 D x p m q w' ∧ Below W1.heap.size W1 w' := fun hin => oPoked W1 h1 (by omega) hz2 x hin HBs hm hx
  have KEY : Hid (∀ w2 p m q, ¬ D.idle x → Pkd U W1 D x p m q w2 → Below W1.heap.size W1 w2 → ∃ U2, Dm U2 w2 d r D M ∧ B5 U2 w2 p m q (fitB (D.bytesOf x)) ∧ Next w U U2 ∧ Kp (Wr U w) w w2) := fun w2 p m q hni hp kb => by
    rcases hp with hp | hp
    · exact absurd hp hni
    · refine ⟨fun j => U j ∨ (W1.heap.size ≤ j ∧ j < w2.heap.size), (h1.below kb).up (fun _ hu => Or.inl hu) ?_, hp.mono fun j hj hu => hu.imp id fun hh => ⟨hh, hj⟩, ?_, Kp.of_below (k1.trans (kb.mono k1.size))⟩
      · rintro j (hj | hj)
        · exact Nat.lt_of_lt_of_le (h1.lt j hj) kb.size
        · exact hj.2
      · rintro j (hj | hj)
        · exact Or.inl hj
        · exact Or.inr (by have := k1.size; omega)
  have y1 : W1.cell? ⟨w.heap.size, 1, none⟩ = some (.int .i64 x.at_) := b1.cell 1
  have HFB : Hid ((fitB (D.bytesOf x)).length = 512) := fitB_length _
  have HZ : Hid (D.safe.length + 1 ≤ 1000000) := hz
  have HZ2 : Hid (D.loose.length ≤ 1000000) := hz2
  have HK1 : Hid (Below w.heap.size w W1) := k1
  have l1 := b1.lt
  have HMG : Hid (∀ f', ({ M with f := f' } : Mm).g = M.g) := fun _ => rfl
  have HPK : Hid (¬ D.idle x → ∀ L, L = (D.loose.filter fun c => decide (c.1 ≠ x.at_)) → ({ ({ D with loose := L } : DskS) with safe := D.safe ++ [(x.at_, fitB (D.bytesOf x))] } : DskS) = D.poke x) := fun hni L hL => by
    rw [hL]
    unfold DskS.poke
    rw [if_neg hni]
    rfl
  obtain ⟨on, at_, kind, bytes, num⟩ := x
  unfold xv at CP ⊢
  dsimp only at y1 b1 CH CP HW1 HPK ⊢
  by_cases hin : 0 ≤ at_ ∧ at_ < D.n
  · rw [decide_eq_true hin] at CH
    have CP2 := CP hin
    by_cases hid : D.idle ⟨on, at_, kind, bytes, num⟩
    · rw [decide_eq_true hid] at CP2
      have HS1 : Hid (∀ w', Below w.heap.size w w' → Dng U w d r (D.poke ⟨on, at_, kind, bytes, num⟩) M.g w') := fun w' hb => HS0.out w' hb hid
      clear CP KEY hid HS0 hin hb hx h h1 HBs hW1 hz hz2 hUl k1
      go_enter Tryz.func22, Tryz.ntmps22
      go_wp2_with fail
      rw [← HW1.out]
      go_wp2_with fail
      refine CH.mono ?_
      rintro e w' ⟨rfl, rfl⟩
      clear CH
      go_wp2_with ((with_reducible refine at_ld 28 ?_); (refine ld 28 (.tmp 3) 5 sizeQ5 _ Tryz.underlying28 rfl w.heap.size 0 [.int .i64 on, .int .i64 at_, .int .i64 kind, .slice xp xm xc, .int .i64 num] rfl b1.whole rfl ?_))
      refine CP2.mono ?_
      rintro e w2 ⟨p, m, q, rfl, hp, kb⟩
      have HF : Hid _ := HS1.out w2 (HK1.out.trans (kb.mono HK1.out.size))
      clear hp kb CP2 b1 y1 l1 HS1
      go_wp2_with fail
      (try simp only [Exit.inBlock, Exit.then]); refine bodyPost_ret (results_none rfl _ _ _) rfl ?_
      exact ⟨rfl, HF.out⟩
    · rw [decide_eq_false hid] at CP2
      have KEY2 : Hid (∀ w2 p m q, Pkd U W1 D ⟨on, at_, kind, bytes, num⟩ p m q w2 → Below W1.heap.size W1 w2 → ∃ U2, Dm U2 w2 d r D M ∧ B5 U2 w2 p m q (fitB (D.bytesOf ⟨on, at_, kind, bytes, num⟩)) ∧ Next w U U2 ∧ Kp (Wr U w) w w2) := fun w2 p m q => KEY.out w2 p m q hid
      have HPK2 : Hid (({ ({ D with loose := D.loose.filter fun c => decide (c.1 ≠ at_) } : DskS) with safe := D.safe ++ [(at_, fitB (D.bytesOf ⟨on, at_, kind, bytes, num⟩))] } : DskS) = D.poke ⟨on, at_, kind, bytes, num⟩) := HPK.out hid _ rfl
      clear CP KEY hid HS0 hin hb hx h h1 HBs hW1 hz hz2 hUl k1 HPK
      go_enter Tryz.func22, Tryz.ntmps22
      go_wp2_with fail
      rw [← HW1.out]
      go_wp2_with fail
      refine CH.mono ?_
      rintro e w' ⟨rfl, rfl⟩
      clear CH
      go_wp2_with ((with_reducible refine at_ld 28 ?_); (refine ld 28 (.tmp 3) 5 sizeQ5 _ Tryz.underlying28 rfl w.heap.size 0 [.int .i64 on, .int .i64 at_, .int .i64 kind, .slice xp xm xc, .int .i64 num] rfl b1.whole rfl ?_))
      refine CP2.mono ?_
      rintro e w2 ⟨p, m, q, rfl, hp, kb⟩
      obtain ⟨U2, h2, hB2, hN2, hK2⟩ := KEY2.out w2 p m q hp kb
      have b2 := b1.below kb b1.lt
      have hl2 := h2.blk.lt
      have c4 : w2.cell? ⟨d, 4, none⟩ = some (.slice M.wa M.wn M.wc) := h2.blk.cell 4
      have CD := oDelete w2 h2.wait.row (by rw [← h2.wlen]; exact HZ2.out) b2
      have MID : Hid (∀ w3 a n c, Kp (fun j => (Value.slice M.wa M.wn M.wc).ownBlock = some j) w2 w3 → OwS (elT U2) 3 114 w3 0 (.slice a n c) ((D.loose.map t3).filter (keepT at_)) → (Value.slice a n c).ownBlock = (Value.slice M.wa M.wn M.wc).ownBlock → _) := fun w3 a n c k3 ho hv => h2.poke_mid k3 ho hv
      have HB2 : Hid (B5 U2 w2 p m q (fitB (D.bytesOf ⟨on, at_, kind, bytes, num⟩))) := hB2
      clear hp kb CP2 y1 l1 KEY2 h2 hB2 b1
      go_wp2_with fail
      refine CD.mono ?_
      rintro e w3 ⟨a3, n3, c3, rfl, o3, hv3, k3⟩
      obtain ⟨l3, z3, f3, U4, h4, hN4, hK4, hB4, hK28⟩ := MID.out w3 a3 n3 c3 k3 o3 hv3
      have b4 := hK28 _ _ _ b2 (by decide) (by decide)
      have y4 : (w3.setCell ⟨d, 4, none⟩ (.slice a3 n3 c3)).cell? ⟨w.heap.size, 1, none⟩ = some (.int .i64 at_) := b4.cell 1
      have l4 := b4.lt
      have CC := oChange _ h4 HZ.out at_ (hB4 _ _ _ _ HB2.out) HFB.out
      have FIN : Hid (∀ w5, (∃ U' f', Dm U' w5 d r { ({ D with loose := D.loose.filter fun c => decide (c.1 ≠ at_) } : DskS) with safe := D.safe ++ [(at_, fitB (D.bytesOf ⟨on, at_, kind, bytes, num⟩))] } { ({ M with wa := a3, wn := n3, wc := c3 } : Mm) with f := f' } ∧ Next (w3.setCell ⟨d, 4, none⟩ (.slice a3 n3 c3)) U4 U' ∧ Kp (Wr U4 (w3.setCell ⟨d, 4, none⟩ (.slice a3 n3 c3))) (w3.setCell ⟨d, 4, none⟩ (.slice a3 n3 c3)) w5) → Dng U w d r (D.poke ⟨on, at_, kind, bytes, num⟩) M.g w5) := fun w5 ⟨U', f', hm, hn, hk⟩ => by
        rw [← HPK2.out]
        exact Dng.more hK2 hN2 (Dng.more hK4 hN4 ⟨U', _, hm, rfl, hn, hk⟩)
      clear CD MID HB2 h4 hN4 hK4 hB4 hK28 b2 b4 c4 hl2 hN2 hK2 o3 hv3 k3 HPK2
      go_wp2_with fail
      refine CC.mono ?_
      rintro e w5 ⟨rfl, h5⟩
      have HF : Hid _ := FIN.out w5 h5
      clear CC FIN h5 y4 l4 l3 z3 f3
      go_wp2_with fail
      go_end0
      exact ⟨rfl, HF.out⟩
  · rw [decide_eq_false hin] at CH
    have HF : Hid (Dng U w d r (D.poke ⟨on, at_, kind, bytes, num⟩) M.g W1) := HS0.out W1 k1 (by unfold DskS.idle; dsimp only; omega)
    clear CP KEY HS0 hin hb hx h h1 HBs hW1 hz hz2 hUl k1 HPK
    go_enter Tryz.func22, Tryz.ntmps22
    go_wp2_with fail
    rw [← HW1.out]
    go_wp2_with fail
    refine CH.mono ?_
    rintro e w' ⟨rfl, rfl⟩
    clear CH
    go_wp2_with fail
    (try simp only [Exit.inBlock, Exit.then]); refine bodyPost_ret (results_none rfl _ _ _) rfl ?_
    exact ⟨rfl, HF.out⟩

end Go.Proofs.YtlenmkhmkommcaaGreat
