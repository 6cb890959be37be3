/-
  8 texts in one. No statement of the seat is proved here.
-/
import Derived.Test.YtfknplcnfpincaaGreatG13
import Derived.Deep.RegionHeld3
import Derived.Deep.RegionLaw
import Derived.BigRegion
/-
  The contract of the reference's Put: the lowest bytes of a number, the highest first, in memory of the call's own. Conditions: the number fits 64 bits; the size is at most 1000000.
-/
namespace Go.Proofs.YtfknplcnfpincaaGreat
open Go.RowKit

theorem put_rec {n s : Int} {w : World} {base : Nat} {v : Value} (h1 : 1 ≤ s) (h0 : 0 ≤ n) (h : Own w base v (putL (n / 256).toNat (s - 1).toNat ++ [UInt8.ofNat (n % 256).toNat])) : Own w base v (putL n.toNat s.toNat) := by
  have e : s.toNat = (s - 1).toNat + 1 := by omega
  rw [e, putL]
  have e2 : (n / 256).toNat = n.toNat / 256 := by omega
  have e3 : UInt8.ofNat n.toNat = UInt8.ofNat (n % 256).toNat := by
    apply UInt8.toNat_inj.1
    rw [UInt8.toNat_ofNat', UInt8.toNat_ofNat']
    omega
  rw [e3, ← e2]
  exact h

set_option maxHeartbeats 400000 in
theorem rPut (k : Nat) : ∀ (n s : Int) (w : World), s ≤ k → k ≤ 1000000 → 0 ≤ n → n ≤ 18446744073709551615 → -9223372036854775808 ≤ s →
    Calls Tryz.prog 46 #[.int .u64 n, .int .i64 s] w (Gives w (putL n.toNat s.toNat)) := by
  induction k with
  | zero =>
    intro n s w hs _ hn0 hn hlo
    have e : s.toNat = 0 := by omega
    rw [e]
    have h1 : s < 1 := by omega
    clear e
    go_enter Tryz.func46, Tryz.ntmps46
    go_wp2_with fail
    go_ret
    exact Gives.mk (Own.nil _ _) (Below.refl _ _)
  | succ k ih =>
    intro n s w hs hk hn0 hn hlo
    by_cases h1 : s < 1
    · have e : s.toNat = 0 := by omega
      rw [e]
      clear e ih
      go_enter Tryz.func46, Tryz.ntmps46
      go_wp2_with fail
      go_ret
      exact Gives.mk (Own.nil _ _) (Below.refl _ _)
    · have IH := ih (n / 256) (s - 1) w (by omega) (by omega) (by omega) (by omega) (by omega)
      clear ih
      go_enter Tryz.func46, Tryz.ntmps46
      go_wp2_with fail
      refine IH.mono ?_
      rintro e w1 ⟨a1, m1, c1, rfl, hown, hbel⟩
      have hz : (putL (n / 256).toNat (s - 1).toNat).length + [UInt8.ofNat (n % 256).toNat].length ≤ 1000000000 := by rw [putL_length]; simp; omega
      have hsz : w.heap.size ≤ w1.heap.size := hbel.size
      clear IH
      go_wp2_with (at_builtin; refine wpList_app _ rfl _ _ rfl w.heap.size _ _ rfl (hown.below (below_alloc _ _) (Nat.le_refl _)) _ 1 1 [UInt8.ofNat (n % 256).toNat] rfl (Bs.one _ _ (by omega) (by omega)) hz (by simp; omega) ?_; intro v2 w2 hown2 hbel2)
      go_ret
      exact Gives.mk (put_rec h1 hn0 hown2) ((hbel.alloc hsz _).trans hbel2)

end Go.Proofs.YtfknplcnfpincaaGreat

/-
  The contract of layer 6's reference's counter: the sealed block of a nonce and a number. Conditions: the key's parts lie where its slices lead; a nonce of 12 bytes; a number below 2^32.
-/
namespace Go.Proofs.YtfknplcnfpincaaGreat
open Go.RowKit

/-- A key of the reference, in its parts: the box, the words, the element's bits. -/
structure KeyR (w : World) (K : List UInt8) (a1 a2 a3 : Option Addr) (c1 c2 c3 : Nat) : Prop where
  box : Bs w a1 256 c1 boxT
  words : Bss w a2 60 c2 (wdsL K)
  elem : Bo w a3 128 c3 (fb (hKey K))
theorem KeyR.below {w w' : World} {K : List UInt8} {a1 a2 a3 : Option Addr} {c1 c2 c3 : Nat} (h : KeyR w K a1 a2 a3 c1 c2 c3) (hb : Below w.heap.size w w') : KeyR w' K a1 a2 a3 c1 c2 c3 :=
  ⟨h.box.below hb (Nat.le_refl _), h.words.below hb (Nat.le_refl _), h.elem.below hb (Nat.le_refl _)⟩
def kv (a1 a2 a3 : Option Addr) (c1 c2 c3 : Nat) : Value := .agg #[.slice a1 256 c1, .slice a2 60 c2, .slice a3 128 c3]

set_option maxRecDepth 100000 in
set_option maxHeartbeats 2000000 in
theorem rCounter (w : World) {K nonce : List UInt8} {a1 a2 a3 an : Option Addr} {c1 c2 c3 cn : Nat} (hk : KeyR w K a1 a2 a3 c1 c2 c3) (hK : K.length = 240) (hn : Bs w an 12 cn nonce) (n : Nat) (hN : n < 4294967296) :
    Calls Tryz.prog 73 #[kv a1 a2 a3 c1 c2 c3, .slice an 12 cn, .int .i64 (n : Int)] w (Gives w (ctrK K nonce n)) := by
  have HNL : Hid (nonce.length = 12) := hn.len
  have HPL : Hid ((putL n 4).length = 4) := putL_length 4 n
  have CP : Hid (∀ w, Calls Tryz.prog 46 #[.int .u64 (n : Int), .int .i64 4] w (Gives w (putL n 4))) := fun w => by
    have := rPut 4 (n : Int) 4 w (by omega) (by omega) (by omega) (by omega) (by omega)
    rw [Int.toNat_natCast] at this
    exact this
  have i1 : IntKind.u64.wrap (n : Int) = (n : Int) := by rw [IntKind.wrap_u64]; omega
  have i2 : (n : Int) % 18446744073709551616 = (n : Int) := by omega
  have CB : Hid (∀ w a m c, KeyR w K a1 a2 a3 c1 c2 c3 → Bs w a m c (nonce ++ putL n 4) → Calls Tryz.prog 65 #[.slice a1 256 c1, .slice a2 60 c2, .slice a m c] w (Gives w (ctrK K nonce n))) := fun w a m c h hb => by
    have hm : m = 16 := by rw [← hb.len, List.length_append, HNL.out, putL_length]
    subst hm
    exact rBlock w h.box hK h.words hb
  generalize ctrK K nonce n = X at *
  unfold kv
  go_enter Tryz.func73, Tryz.ntmps73
  go_upto_region 2 with fail
  obtain ⟨W, hW⟩ : ∃ W, W = w.alloc (.cells #[.slice a1 256 c1, .slice a2 60 c2, .slice a3 128 c3] 88) := ⟨_, rfl⟩
  rw [← hW]
  have d0 : Blk W w.heap.size [.slice a1 256 c1, .slice a2 60 c2, .slice a3 128 c3] 88 := by rw [hW]; exact Blk.new w _ _
  have q0 : Below w.heap.size w W := by rw [hW]; exact below_alloc w _
  clear hW
  have hn0 := hn.below q0 (Nat.le_refl _)
  go_wp2_with (at_builtin; go_must (refine wpList_app W rfl (.tmp 8) (.tmp 9) rfl W.heap.size _ [] rfl (Own.nil _ _) an 12 cn nonce rfl hn0 (by rw [HNL.out]; decide) (Nat.le_refl _) ?_); rw [List.nil_append]; intro v1 w1 ho1 hb1)
  have d1 := d0.below hb1 d0.lt
  have hkW := hk.below q0
  have q1 := q0.trans (hb1.mono q0.size)
  have k0 := d1.cell 0
  have k1 := d1.cell 1
  simp only [List.getElem?_cons_zero, List.getElem?_cons_succ] at k0 k1
  have hwl := d0.lt
  have hl := d1.lt
  have hr : nonce.length + (putL n 4).length ≤ 1000000000 := by rw [HNL.out, HPL.out]; omega
  clear d0 hn0
  go_region_held3 (fun w' => w'.cell? ⟨w.heap.size, 0, none⟩ = some (.slice a1 256 c1) ∧ w'.cell? ⟨w.heap.size, 1, none⟩ = some (.slice a2 60 c2))
    (first | (exact ⟨u0, u1⟩) | (exact ⟨t0, t1⟩) | (exact ⟨s0, s1⟩) | (exact ⟨k0, k1⟩) | go_keep)
    (first
    | (go_at_call 65; go_must (refine (CB.out w3 _ _ _ hk3 ho3.toBs).mono ?_); rintro e w4 ⟨a4, m4, c4, rfl, ho4, hb4⟩; have q4 := q3.trans (hb4.mono q3.size); have u0 := (hb4.cell (p := ⟨w.heap.size, 0, none⟩) l3).trans t0; have u1 := (hb4.cell (p := ⟨w.heap.size, 1, none⟩) l3).trans t1)
    | (go_at_call 46; go_must (refine (CP.out w1.drew).mono ?_); rintro e w2 ⟨a2', m2', c2', rfl, ho2, hb2⟩; have hB2 := ho2.toBs; obtain ⟨bb, bo', rfl, _, _⟩ := hB2.at (by have := hB2.len; have := HPL.out; omega); have q2 := q1.drew.trans (hb2.mono q1.size); have s0 := (hb2.cell (p := ⟨w.heap.size, 0, none⟩) hl).trans k0; have s1 := (hb2.cell (p := ⟨w.heap.size, 1, none⟩) hl).trans k1; have hob := ho1.below (Below.trans (Below.refl _ w1).drew hb2) (Nat.le_refl _); have p2 : Below W.heap.size W w2 := hb1.drew.trans (hb2.mono hb1.size); have l2 : w.heap.size < w2.heap.size := Nat.lt_of_lt_of_le hl hb2.size)
    | (refine step_app rfl (.tmp 15) (.tmp 18) rfl W.heap.size _ _ rfl hob ⟨bb, bo', none⟩ m2' c2' _ rfl hB2 hr (Nat.le_trans hb1.size hb2.size) ?_; intro v3 w3 ho3 hb3; obtain ⟨a3', m3', c3', rfl, _⟩ := ho3.bs3; have q3 := q2.trans (hb3.mono q0.size); have t0 := (hb3.cell (p := ⟨w.heap.size, 0, none⟩) hwl).trans s0; have t1 := (hb3.cell (p := ⟨w.heap.size, 1, none⟩) hwl).trans s1; have l3 : w.heap.size < w3.heap.size := Nat.lt_of_lt_of_le l2 hb3.size; have hk3 := hkW.below (p2.trans hb3)))
  go_wp2
  go_ret
  exact Gives.mk (ho4.mono q3.size) q4

end Go.Proofs.YtfknplcnfpincaaGreat

/-
  append of bytes that tells which block alone was written. No condition; no statement of the seat is proved here.
-/
namespace Go.Proofs.YtfknplcnfpincaaGreat
open Go.RowKit

/-- 'append(out, src...)', out the call's own, src whatever slice of bytes; nothing old but out's own block is written. -/
theorem wpList_appG {ops : Array Oper} {rest : List Oper} {o : Oper} {a : Act} {Q : Exit → Act → World → Prop} (w : World) (hgd : o.guard = none) (s x : Operand)
    (ho : o.op = Op.call { callee := Callee.builtin Builtin.append, args := #[s, x], argTypes := #[22, 22] }) (base : Nat) (v : Value) (l : List UInt8) (hs : a.eval s = v) (hown : Own w base v l)
    (ao : Option Addr) (m c : Nat) (news : List UInt8) (hx : a.eval x = .slice ao m c) (hb : Bs w ao m c news) (hz : l.length + news.length ≤ 1000000000) (hbase : base ≤ w.heap.size)
    (h : ∀ v' w', Own w' base v' (l ++ news) → w.grownBy w' v.ownBlock → wpList Tryz.prog ops Q rest (a.put o.dst v') w') : wpList Tryz.prog ops Q (o :: rest) a w := by
  obtain ⟨i0, hi, hz0, hz1, hz2⟩ := info_parts info5
  have hl := hb.len
  cases ao with
  | none =>
    have hc := hb.2.2.2.1 rfl
    have hcap := hb.cap
    have e : news = [] := List.length_eq_zero_iff.1 (by omega)
    subst e
    obtain rfl : m = 0 := by omega
    subst hc
    refine wpList_append_own_none hgd s x 22 ho base 5 i0 1 Tryz.underlying22 hi v _ _ hs hown hx ?_
    refine h v w ?_ ⟨rfl, rfl, rfl, Nat.le_refl _, fun _ _ _ => rfl⟩
    rw [List.append_nil]
    exact hown
  | some ad =>
    refine wpList_append_own w hgd s x 22 ho base 5 i0 (.int .u8 0) 1 1 Tryz.underlying22 hi hz0 hz1 hz2 rfl (by decide) v _ _ hs hown ad m c (cs news) hx (by rw [cs_length]; omega) hb.news cs_one (by unfold maxLen; omega) (by omega) hbase ?_
    intro v' w' ho' hg _
    refine h v' w' ?_ hg
    unfold Own
    rw [cs_append, List.length_append, hl]
    exact ho'
theorem Own.lt {w : World} {base : Nat} {v : Value} {l : List UInt8} (h : Own w base v l) : ∀ k, v.ownBlock = some k → k < w.heap.size := fun k hk => (World.ownsRow.lt h k hk).2

end Go.Proofs.YtfknplcnfpincaaGreat

/-
  append of bytes as one step of a region that draws its order, told which block alone was written, and where the answer lies. No condition; no statement of the seat is proved here.
-/
namespace Go.Proofs.YtfknplcnfpincaaGreat
open Go.RowKit

/-- Where append's answer lies: in the same block, or in a new one. -/
theorem own_where {w : World} {base : Nat} {v : Value} {l : List UInt8} (hown : Own w base v l) {ad : Addr} {m c : Nat} {news : List UInt8} (hb : Bs w (some ad) m c news) (hm : 0 < m) (hz : l.length + news.length ≤ 1000000000) {ty : TypeId} {v' : Value} {w' : World}
    (hr : (Builtin.append_ #[22, 22] ty #[v, .slice (some ad) m c]).run Tryz.prog w = .ok v' w') : v'.ownBlock = v.ownBlock ∨ v'.ownBlock = some w.heap.size := by
  obtain ⟨i0, hi, hz0, hz1, hz2⟩ := info_parts info5
  have hl := hb.len
  have hsz : (Value.int .u8 0).cells.size = i0.size := by rw [hz1]; rfl
  have hln : (cs news).length = m * i0.size := by rw [cs_length, hz1]; omega
  rcases hown.2 with ⟨rfl, h0⟩ | ⟨g, cap, cur, rfl, hbg, hg, hnc, hcm, hcs, htake⟩
  · have := run_append_nil (P := Tryz.prog) w 22 ty 5 i0 (.int .u8 0) Tryz.underlying22 hi hz0 ad m c (cs news) hln hb.news hm (by omega) (by rw [hz2]; omega)
    rw [this] at hr
    cases hr
    exact Or.inr rfl
  · by_cases hroom : l.length + m ≤ cap
    · have := run_append_room (P := Tryz.prog) w 22 ty 5 i0 Tryz.underlying22 hi g l.length cap cur hg ad m c (cs news) hln hb.news cs_one hroom (by rw [hln, hz1, hcs]; omega)
      rw [this] at hr
      cases hr
      exact Or.inl rfl
    · have := run_append_grow (P := Tryz.prog) w 22 ty 5 i0 (.int .u8 0) Tryz.underlying22 hi hz0 ⟨g, 0, none⟩ l.length cap (cs l) (by rw [hz1]; exact hown.1) (World.ownsRow.cells hown (g := g) rfl) ad m c (cs news) hln hb.news (by omega) (by omega) (growslice_fits (by omega) (by rw [hz2]; omega))
      rw [this] at hr
      cases hr
      exact Or.inr rfl

/-- append as one step of a region that draws its order. -/
theorem step_appX {ops : Array Oper} {o : Oper} {a : Act} {w : World} {K : Act → World → Prop} {Q : Exit → Act → World → Prop} {E : Prop} (hgd : o.guard = none) (s x : Operand)
    (ho : o.op = Op.call { callee := Callee.builtin Builtin.append, args := #[s, x], argTypes := #[22, 22] }) (base : Nat) (v : Value) (l : List UInt8) (hs : a.eval s = v) (hown : Own w base v l)
    (ad : Addr) (m c : Nat) (news : List UInt8) (hx : a.eval x = .slice (some ad) m c) (hb : Bs w (some ad) m c news) (hm : 0 < m) (hz : l.length + news.length ≤ 1000000000) (hbase : base ≤ w.heap.size)
    (h : ∀ v' w', Own w' base v' (l ++ news) → w.grownBy w' v.ownBlock → (v'.ownBlock = v.ownBlock ∨ v'.ownBlock = some w.heap.size) → K (a.put o.dst v') w') : if Region.wanted o (yielded ops a.tmps) = true then Oper.wp Tryz.prog o a w K Q else E := by
  have hw : Region.wanted o (yielded ops a.tmps) = true := by simp [Region.wanted, hgd]
  rw [if_pos hw]
  obtain ⟨i0, hi, hz0, hz1, hz2⟩ := info_parts info5
  have hl := hb.len
  obtain ⟨v', w', hr, h2, h3, _⟩ := run_append_own (P := Tryz.prog) w base 22 o.type 5 i0 (.int .u8 0) 1 1 Tryz.underlying22 hi hz0 hz1 hz2 rfl (by decide) v _ _ hown ad m c (cs news) (by rw [cs_length]; omega) hb.news cs_one (by unfold maxLen; omega) (by omega) hbase
  have hwh := own_where hown hb hm hz hr
  have ho2 : Own w' base v' (l ++ news) := by
    unfold Own
    rw [cs_append, List.length_append, hl]
    exact h2
  have hk := h v' w' ho2 h3 hwh
  unfold Oper.wp
  simp [execOp, ho, resolve, invoke, builtin, hs, hx, hr, Result.andThen]
  rw [Oper.upon_value]
  exact hk

end Go.Proofs.YtfknplcnfpincaaGreat

/-
  The contract of layer 6's reference's stream: a text under the blocks of a nonce. Conditions: the key's parts lie where its slices lead; a nonce of 12 bytes; a text of at most 1000.
-/
namespace Go.Proofs.YtfknplcnfpincaaGreat
open Go.RowKit

theorem Bs.grownBy {w w' : World} {row : Option Nat} {a : Option Addr} {n c : Nat} {l : List UInt8} (h : Bs w a n c l) (hg : w.grownBy w' row) (hr : ∀ x, a = some x → row ≠ some x.block) : Bs w' a n c l := by
  refine ⟨h.1, h.2.1, h.2.2.1, h.2.2.2.1, fun i hi => ?_⟩
  obtain ⟨b, o, ha, hc⟩ := h.2.2.2.2 i hi
  exact ⟨b, o, ha, hg.cell hc (fun e => hr _ ha e.symm)⟩
theorem xorT {l m : List UInt8} {t : Nat} (h1 : t < l.length) (h2 : t < m.length) : (xorL l m).take (t + 1) = (xorL l m).take t ++ [l.getD t 0 ^^^ m.getD t 0] := by
  have h3 : t < (xorL l m).length := by unfold xorL; rw [List.length_zipWith]; omega
  rw [take_snoc h3]
  congr 2
  have := xorG h1 h2
  rw [List.getElem?_eq_getElem h3] at this
  exact Option.some.inj this
theorem quo16 (k : Nat) : ((16 * k : Nat) : Int).tdiv 16 = (k : Int) := by
  rw [Int.tdiv_eq_ediv_of_nonneg (by omega)]
  omega

set_option maxRecDepth 100000 in
set_option maxHeartbeats 4000000 in
theorem rStream (w : World) {K nonce l : List UInt8} {a1 a2 a3 an ab : Option Addr} {c1 c2 c3 cn nb cb : Nat} (hk : KeyR w K a1 a2 a3 c1 c2 c3) (hK : K.length = 240) (hn : Bs w an 12 cn nonce) (hB : Bs w ab nb cb l) (hz : nb ≤ 1000) :
    Calls Tryz.prog 60 #[kv a1 a2 a3 c1 c2 c3, .slice an 12 cn, .slice ab nb cb] w (Gives w (strL K nonce l)) := by
  have HL : Hid (l.length = nb) := hB.len
  have HNL : Hid (nonce.length = 12) := hn.len
  have CC : Hid (∀ (w : World) (k : Nat), KeyR w K a1 a2 a3 c1 c2 c3 → Bs w an 12 cn nonce → k ≤ 1000 → Calls Tryz.prog 73 #[.agg #[.slice a1 256 c1, .slice a2 60 c2, .slice a3 128 c3], .slice an 12 cn, .int .i64 (2 + (k : Int))] w (Gives w (ctrK K nonce (2 + k)))) := fun w k h1 h2 h3 => by
    have := rCounter w h1 hK h2 (2 + k) (by omega)
    rw [show ((2 + k : Nat) : Int) = 2 + (k : Int) from by omega] at this
    exact this
  have HCL : Hid (∀ n, (ctrK K nonce n).length = 16) := fun n => ctrK_length hK HNL.out n
  unfold kv
  go_enter Tryz.func60, Tryz.ntmps60
  go_wp2_with fail
  obtain ⟨W, hW⟩ : ∃ W, W = w.alloc (.cells #[.slice a1 256 c1, .slice a2 60 c2, .slice a3 128 c3] 88) := ⟨_, rfl⟩
  rw [← hW]
  have d0 : Blk W w.heap.size [.slice a1 256 c1, .slice a2 60 c2, .slice a3 128 c3] 88 := by rw [hW]; exact Blk.new w _ _
  have q0 : Below w.heap.size w W := by rw [hW]; exact below_alloc w _
  have hsW : w.heap.size ≤ W.heap.size := q0.size
  clear hW
  have hkW := hk.below q0
  have hnW := hn.below q0 (Nat.le_refl _)
  have hBW := hB.below q0 (Nat.le_refl _)
  go_loopw [7, 8, 9, 10] (fun v i _ _ wr => ∃ k j : Nat, j = 16 * k ∧ j < nb + 16 ∧ i = .int .i64 (j : Int) ∧ Own wr W.heap.size v (strm K nonce l k) ∧ Below W.heap.size W wr) (fun _ i _ _ _ => nb + 16 - (intOf i).toNat)
  case atStart => exact ⟨0, 0, rfl, by omega, rfl, Own.nil _ _, Below.refl _ _⟩
  case round =>
    obtain ⟨k, j, hj, hjn, rfl, ho, hb⟩ := hrel
    rename World => wo
    by_cases hlt : j < nb
    · have j0 : (0 : Int) ≤ (j : Int) := by omega
      have j1 : (j : Int) < (nb : Int) := by omega
      have jm : (nb : Int) ≤ 1000 := by omega
      have j2 : (j : Int).tdiv 16 = (k : Int) := by rw [hj]; exact quo16 k
      have j3 : (j : Int) / 16 = (k : Int) := by omega
      have HJ : Hid (j = 16 * k) := hj
      have hk1 : k ≤ 1000 := by omega
      have k0 : (0 : Int) ≤ (k : Int) := by omega
      have k1 : (k : Int) ≤ 1000 := by omega
      have d1 := d0.below hb d0.lt
      have e0 := d1.cell 0
      have e1 := d1.cell 1
      have e2 := d1.cell 2
      simp only [List.getElem?_cons_zero, List.getElem?_cons_succ] at e0 e1 e2
      have HT : Hid (∀ kk, u7.ownBlock = some kk → kk < wo.heap.size) := fun kk hh => Own.lt ho kk hh
      clear hj
      go_wp2_with (go_at_call 73; go_must (refine (CC.out wo k (hkW.below hb) (hnW.below hb (Nat.le_refl _)) hk1).mono ?_); rintro e w1 ⟨ax, mx, cx, rfl, hox, hbx⟩)
      have hBx := hox.toBs
      have hmx : mx = 16 := by rw [← hBx.len]; exact HCL.out _
      subst hmx
      obtain ⟨bx, ox, rfl, hbl, hcx⟩ := hBx.at (by omega)
      have hbx0 : wo.heap.size ≤ bx := (World.ownsRow.lt hox bx rfl).1
      have ho1 := ho.below hbx (Nat.le_refl _)
      have q1 := hb.trans (hbx.mono hb.size)
      have hne1 : ∀ kk, u7.ownBlock = some kk → kk ≠ bx := fun kk hh => by have := HT.out kk hh; omega
      have HN : Hid (strm K nonce l (k + 1) = strm K nonce l k ++ xorL ((l.drop j).take 16) (ctrK K nonce (2 + k))) := by show _ = _; rw [HJ.out]; rfl
      have HCX : Hid ((ctrK K nonce (2 + k)).length = 16) := HCL.out _
      have HSL : Hid ((strm K nonce l k).length ≤ 1100) := by
        show _ ≤ _
        rw [strm_is hK HNL.out, List.length_map, List.length_range, HL.out]
        omega
      have HCH : Hid (((l.drop j).take 16).length = min 16 (nb - j)) := by show _ = _; rw [List.length_take, List.length_drop, HL.out]
      have HCD : Hid (∀ t, t < 16 → ((l.drop j).take 16).getD t 0 = l.getD (j + t) 0) := fun t ht => by
        rw [List.getD_eq_getElem?_getD, List.getElem?_take_of_lt ht, List.getElem?_drop, List.getD_eq_getElem?_getD]
      generalize strm K nonce l k = A at *
      generalize ctrK K nonce (2 + k) = X at *
      generalize hC : (l.drop j).take 16 = C at *
      have hox' := hBx
      clear hC HT ho hox hbx hBx hcx d1 e0 e1 e2
      obtain ⟨bb, ob, rfl, hbb, hcb⟩ := hBW.at (by omega)
      go_loopw [7, 10] (fun v jj wr => ∃ t p : Nat, t ≤ 16 ∧ p ≤ nb ∧ p = j + t ∧ jj = .int .i64 (p : Int) ∧ Own wr W.heap.size v (A ++ (xorL C X).take t) ∧ (∀ kk, v.ownBlock = some kk → kk ≠ bx) ∧ bx < wr.heap.size ∧ Bs wr (some ⟨bx, ox, none⟩) 16 cx X ∧ Below W.heap.size W wr) (fun _ jj _ => j + 16 - (intOf jj).toNat)
      case atStart => exact ⟨0, j, by omega, by omega, rfl, rfl, by rw [List.take_zero, List.append_nil]; exact ho1, hne1, hbl, hox', q1⟩
      case round =>
        clear ho1 q1 hne1 hbl
        obtain ⟨t, p, ht, htn, hp, rfl, ho, hne, hbl, hBx, hb⟩ := hrel
        by_cases hin : t < 16 ∧ p < nb
        · obtain ⟨t1, t2⟩ := hin
          have p0 : (0 : Int) ≤ (p : Int) := by omega
          have p1 : (p : Int) < (nb : Int) := by omega
          have p2 : (p : Int) < (j : Int) + 16 := by omega
          have s1 : (p : Int) - (j : Int) = (t : Int) := by omega
          have s2 : IntKind.i64.wrap (t : Int) = (t : Int) := by rw [IntKind.wrap_i64]; omega
          have s3 : (0 : Int) ≤ (t : Int) := by omega
          have s4 : (t : Int) < 16 := by omega
          have e1 : wr.cell? ⟨bb, ob + p, none⟩ = some (.int .u8 (bt l p)) := by rw [hb.cell (p := ⟨bb, ob + p, none⟩) hbb]; exact hcb p t2
          have e2 : wr.cell? ⟨bx, ox + t, none⟩ = some (.int .u8 (bt X t)) := by
            obtain ⟨_, _, ex, hc⟩ := hBx.2.2.2.2 t t1
            simp only [Option.some.injEq, Addr.mk.injEq, and_true] at ex
            obtain ⟨rfl, rfl⟩ := ex
            exact hc
          have HS := xorT (l := C) (m := X) (t := t) (by rw [HCH.out]; omega) (by rw [HCX.out]; exact t1)
          rw [HCD.out t t1, ← hp] at HS
          unfold bt at e1 e2
          have hx := xor_u8 (l.getD p 0) (X.getD t 0)
          generalize l.getD p 0 = y1 at *
          generalize X.getD t 0 = y2 at *
          generalize y1 ^^^ y2 = z at *
          have HS' : Hid ((xorL C X).take (t + 1) = (xorL C X).take t ++ [z]) := HS
          have HP : Hid (p = j + t) := hp
          have hsz := hb.size
          have hr : (A ++ (xorL C X).take t).length + [z].length ≤ 1000000000 := by
            have h1 := HSL.out
            have h2 : ((xorL C X).take t).length ≤ 16 := Nat.le_trans (List.length_take_le _ _) ht
            rw [List.length_append, List.length_singleton]
            omega
          clear HS hp
          obtain ⟨L, hL⟩ : ∃ L, L = A ++ (xorL C X).take t := ⟨_, rfl⟩
          rw [← hL] at ho hr
          have HLL : Hid (A ++ (xorL C X).take t = L) := hL.symm
          clear hL
          go_wp2
          go_region_law (refine step_appX rfl (.tmp 36) (.tmp 48) rfl W.heap.size u7 L rfl (ho.below (below_alloc _ _).drew (Nat.le_refl _)) _ 1 1 [z] rfl (Bs.made wr [z] #[.int .u8 (z.toNat : Int)] rfl (by simp)).drew (by omega) hr (by simp; omega) ?_; intro v2 w2 ho2 hg2 hw2)
          all_goals
            have hbA : Below W.heap.size W (wr.alloc (.cells #[.int .u8 (z.toNat : Int)] 5)).drew := (hb.alloc hsz _).drew
            have hb2 : Below W.heap.size W w2 := hbA.grown hg2 (by simp; omega) (fun q hq => ho.size q hq)
            have hBx2 : Bs w2 (some ⟨bx, ox, none⟩) 16 cx X := (hBx.below (below_alloc wr (.cells #[.int .u8 (z.toNat : Int)] 5)).drew (Nat.le_refl _)).grownBy hg2 (fun q hq hh => by cases hq; exact hne bx hh rfl)
            have hne2 : ∀ kk, v2.ownBlock = some kk → kk ≠ bx := fun kk hh => by
              rcases hw2 with e | e
              · exact hne kk (by rw [← e]; exact hh)
              · rw [e] at hh
                have : (wr.alloc (.cells #[.int .u8 (z.toNat : Int)] 5)).drew.heap.size = kk := Option.some.inj hh
                have hs : (wr.alloc (.cells #[.int .u8 (z.toNat : Int)] 5)).drew.heap.size = wr.heap.size + 1 := World.size_alloc _ _
                omega
            have hs2 := hg2.size
            rw [show (wr.alloc (.cells #[.int .u8 (z.toNat : Int)] 5)).drew.heap.size = wr.heap.size + 1 from World.size_alloc _ _] at hs2
            clear hg2 hw2 hbA
            go_wp2
            go_roundw
            case rel => exact ⟨t + 1, p + 1, by omega, by omega, by have := HP.out; omega, by go_num, by rw [HS'.out, ← List.append_assoc, HLL.out]; exact ho2, hne2, by omega, hBx2, hb2⟩
            case measure => have := HP.out; simp [intOf]; omega
        · have HF : Hid (A ++ (xorL C X).take t = strm K nonce l (k + 1)) := by
            show _ = _
            rw [HN.out, List.take_of_length_le]
            unfold xorL
            rw [List.length_zipWith, HCH.out, HCX.out]
            omega
          rw [HF.out] at ho
          by_cases h16 : (p : Int) < (j : Int) + 16
          · have h17 : ¬ (p : Int) < (nb : Int) := by omega
            clear hp
            go_wp2_with fail
            go_roundw
            case rel => exact ⟨k + 1, j + 16, by have := HJ.out; omega, by omega, by go_num, ho, hb⟩
            case measure => simp [intOf]; omega
          · clear hp
            go_wp2_with fail
            go_roundw
            case rel => exact ⟨k + 1, j + 16, by have := HJ.out; omega, by omega, by go_num, ho, hb⟩
            case measure => simp [intOf]; omega
    · have HF : Hid (strm K nonce l k = strL K nonce l) := by
        show _ = _
        unfold strL
        rw [HL.out]
        congr 1
        omega
      rw [HF.out] at ho
      clear hj
      go_wp2_with fail
      go_ret
      exact Gives.mk (ho.mono hsW) (q0.trans (hb.mono hsW))

end Go.Proofs.YtfknplcnfpincaaGreat

/-
  A key of the reference in a region that draws its order: its parts, and all of it, out of its variable. No condition; no statement of the seat is proved here.
-/
namespace Go.Proofs.YtfknplcnfpincaaGreat
open Go.RowKit

theorem ans_cB {ops : Array Oper} {S : World → Prop} {oi : Oper} {a : Act} (x : Operand) (ho : oi.op = .load 86 x) (hw : Region.wanted oi (yielded ops a.tmps) = true) (g o : Nat) (v : Value) (hx : a.eval x = .pointer (some ⟨g, o, none⟩)) (hc : ∀ w, S w → w.cell? ⟨g, o, none⟩ = some v) : Ans Tryz.prog ops S oi v a := by
  refine ans_plain hw fun w hS => ?_
  have c := hc w hS
  unfold execOp
  simp only [ho, hx]
  go_simp
theorem ans_c8 {ops : Array Oper} {S : World → Prop} {oi : Oper} {a : Act} (x : Operand) (ho : oi.op = .load 22 x) (hw : Region.wanted oi (yielded ops a.tmps) = true) (g o : Nat) (v : Value) (hx : a.eval x = .pointer (some ⟨g, o, none⟩)) (hc : ∀ w, S w → w.cell? ⟨g, o, none⟩ = some v) : Ans Tryz.prog ops S oi v a := by
  refine ans_plain hw fun w hS => ?_
  have c := hc w hS
  unfold execOp
  simp only [ho, hx]
  go_simp
theorem ans_cS {ops : Array Oper} {S : World → Prop} {oi : Oper} {a : Act} (x : Operand) (ho : oi.op = .load 28 x) (hw : Region.wanted oi (yielded ops a.tmps) = true) (g o : Nat) (v : Value) (hx : a.eval x = .pointer (some ⟨g, o, none⟩)) (hc : ∀ w, S w → w.cell? ⟨g, o, none⟩ = some v) : Ans Tryz.prog ops S oi v a := by
  refine ans_plain hw fun w hS => ?_
  have c := hc w hS
  unfold execOp
  simp only [ho, hx]
  go_simp
/-- The address of a key's part. -/
theorem ans_at {ops : Array Oper} {S : World → Prop} {oi : Oper} {a : Act} (x : Operand) (i : Nat) (hi : i < 3) (ho : oi.op = .fieldAddr 88 x i) (hw : Region.wanted oi (yielded ops a.tmps) = true) (g : Nat) (hx : a.eval x = .pointer (some ⟨g, 0, none⟩)) : Ans Tryz.prog ops S oi (.pointer (some ⟨g, i, none⟩)) a := by
  refine ans_plain hw fun w hS => ?_
  unfold execOp
  simp only [ho, hx]
  match i, hi with
  | 0, _ => go_simp
  | 1, _ => go_simp
  | 2, _ => go_simp
/-- All of a key. -/
def kc (a1 a2 a3 : Option Addr) (c1 c2 c3 : Nat) : List Value := [.slice a1 256 c1, .slice a2 60 c2, .slice a3 128 c3]
theorem ans_key {ops : Array Oper} {S : World → Prop} {oi : Oper} {a : Act} (x : Operand) (ho : oi.op = .load 88 x) (hw : Region.wanted oi (yielded ops a.tmps) = true) (g : Nat) {a1 a2 a3 : Option Addr} {c1 c2 c3 : Nat} (hx : a.eval x = .pointer (some ⟨g, 0, none⟩)) (hb : ∀ w, S w → Blk w g (kc a1 a2 a3 c1 c2 c3) 88) : Ans Tryz.prog ops S oi (kv a1 a2 a3 c1 c2 c3) a := by
  refine ans_plain hw fun w hS => ?_
  have e0 := (hb w hS).cell 0
  have e1 := (hb w hS).cell 1
  have e2 := (hb w hS).cell 2
  simp only [kc, List.getElem?_cons_zero, List.getElem?_cons_succ] at e0 e1 e2
  unfold execOp kv
  simp only [ho, hx]
  go_simp

end Go.Proofs.YtfknplcnfpincaaGreat

/-
  The contract of the reference's Xor. Condition: rows of at most 1000000 bytes.
-/
namespace Go.Proofs.YtfknplcnfpincaaGreat
open Go.RowKit

theorem xors_own {w : World} {base : Nat} {v : Value} {A B : List UInt8} (e : A = B) (h : Own w base v A) : Own w base v B := by
  rw [← e]
  exact h
theorem xor_take_end {l m : List UInt8} {n n' k : Nat} (H : Hid (l.length = n ∧ m.length = n')) (h : ¬ (k < n ∧ k < n')) : xorL (l.take k) (m.take k) = xorL l m := by
  unfold xorL
  rw [← List.take_zipWith, List.take_of_length_le]
  rw [List.length_zipWith, H.out.1, H.out.2]
  omega

set_option maxHeartbeats 400000 in
theorem rXor (w : World) {a b : Option Addr} {n c n' c' : Nat} {l m : List UInt8} (ha : Bs w a n c l) (hb : Bs w b n' c' m) (hz : n ≤ 1000000) (hz' : n' ≤ 1000000) :
    Calls Tryz.prog 75 #[.slice a n c, .slice b n' c'] w (Gives w (xorL l m)) := by
  by_cases h0 : n = 0 ∨ n' = 0
  · have H : Hid (l.length = n ∧ m.length = n') := ⟨ha.len, hb.len⟩
    clear ha hb
    have e := xor_take_end (k := 0) H (by omega)
    by_cases hn : (0 : Int) < n
    · have hn' : ¬ (0 : Int) < n' := by omega
      go_enter Tryz.func75, Tryz.ntmps75
      go_wp2_with fail
      refine wp_loop_rounds 1 ?_; rw [rounds_succ]; go_wp2
      go_ret
      exact Gives.mk (xors_own e (Own.nil _ _)) (Below.refl _ _)
    · go_enter Tryz.func75, Tryz.ntmps75
      go_wp2_with fail
      refine wp_loop_rounds 1 ?_; rw [rounds_succ]; go_wp2
      go_ret
      exact Gives.mk (xors_own e (Own.nil _ _)) (Below.refl _ _)
  · obtain ⟨x, o, rfl, hx, hc⟩ := ha.at (by omega)
    obtain ⟨y, q, rfl, hy, hd⟩ := hb.at (by omega)
    have H : Hid (l.length = n ∧ m.length = n') := ⟨ha.len, hb.len⟩
    clear ha hb
    go_enter Tryz.func75, Tryz.ntmps75
    go_wp2_with fail
    go_loopw [5, 6] (fun v i wr => ∃ k : Nat, k ≤ n ∧ k ≤ n' ∧ i = .int .i64 k ∧ Own wr w.heap.size v (xorL (l.take k) (m.take k)) ∧ Below w.heap.size w wr) (fun _ i _ => n - (intOf i).toNat)
    case atStart => exact ⟨0, Nat.zero_le _, Nat.zero_le _, rfl, Own.nil _ _, Below.refl _ _⟩
    case round =>
      obtain ⟨k, hk, hk', rfl, ho, hb⟩ := hrel
      by_cases hlt : k < n ∧ k < n'
      · obtain ⟨k1, k2⟩ := hlt
        have c1 : wr.cell? ⟨x, o + k, none⟩ = some (.int .u8 (bt l k)) := by rw [hb.cell (p := ⟨x, o + k, none⟩) hx]; exact hc k (by omega)
        have c2 : wr.cell? ⟨y, q + k, none⟩ = some (.int .u8 (bt m k)) := by rw [hb.cell (p := ⟨y, q + k, none⟩) hy]; exact hd k (by omega)
        obtain ⟨z, hz1, hz2⟩ := xor_eq (l := l) (m := m) (k := k) (by rw [H.out.1]; omega) (by rw [H.out.2]; omega)
        have hzlt := UInt8.toNat_lt z
        have b1 : 0 ≤ bits .xor .u8 (bt l k) (bt m k) := by rw [hz1]; omega
        have b2 : bits .xor .u8 (bt l k) (bt m k) ≤ 255 := by rw [hz1]; omega
        have hZ : Hid (UInt8.ofNat (bits .xor .u8 (bt l k) (bt m k)).toNat = z) := by
          show _ = _
          rw [hz1]
          simp
        have HZ : Hid (xorL (l.take (k + 1)) (m.take (k + 1)) = xorL (l.take k) (m.take k) ++ [z]) := hz2
        have hr : (xorL (l.take k) (m.take k)).length + [UInt8.ofNat (bits .xor .u8 (bt l k) (bt m k)).toNat].length ≤ 1000000000 := by
          unfold xorL
          simp
          omega
        have hs : w.heap.size ≤ wr.heap.size := hb.size
        clear hz1 hz2 hzlt
        go_wp2
        go_region_law (refine step_app rfl (.tmp 19) (.tmp 29) rfl w.heap.size _ _ rfl (ho.below (below_alloc _ _).drew (Nat.le_refl _)) _ 1 1 [UInt8.ofNat (bits .xor .u8 (bt l k) (bt m k)).toNat] rfl (Bs.one _ _ b1 b2).drew hr (by simp; omega) ?_; intro v2 w2 ho2 hb2)
        all_goals
          go_wp2
          go_roundw
          case rel => exact ⟨k + 1, by omega, by omega, by go_num, xors_own (by rw [hZ.out, HZ.out]) ho2, (hb.trans ((below_alloc _ _).drew.mono hs)).trans hb2⟩
          case measure => simp [intOf]; omega
      · have e := xor_take_end H hlt
        by_cases hn : (k : Int) < n
        · have hn' : ¬ (k : Int) < n' := by omega
          go_wp2
          go_ret
          exact Gives.mk (xors_own e ho) hb
        · go_wp2
          go_ret
          exact Gives.mk (xors_own e ho) hb

end Go.Proofs.YtfknplcnfpincaaGreat

/-
  The contract of layer 6's reference's Tag. Conditions: the key's parts lie where its slices lead; a nonce of 12 bytes; what stands beside, and what is sealed, of at most 900 bytes.
-/
namespace Go.Proofs.YtfknplcnfpincaaGreat
open Go.RowKit

set_option maxRecDepth 100000 in
set_option maxHeartbeats 4000000 in
theorem rTag (w : World) {K nonce be s : List UInt8} {a1 a2 a3 an ae as' : Option Addr} {c1 c2 c3 cn ne ce ns cs' : Nat} (hk : KeyR w K a1 a2 a3 c1 c2 c3) (hK : K.length = 240) (hn : Bs w an 12 cn nonce) (hE : Bs w ae ne ce be) (hS : Bs w as' ns cs' s) (hze : ne ≤ 900) (hzs : ns ≤ 900) :
    Calls Tryz.prog 61 #[kv a1 a2 a3 c1 c2 c3, .slice an 12 cn, .slice ae ne ce, .slice as' ns cs'] w (Gives w (tagL K nonce be s)) := by
  have HNL : Hid (nonce.length = 12) := hn.len
  have CP : Hid (∀ (w : World) (m : Nat), m ≤ 900 → Calls Tryz.prog 46 #[.int .u64 (8 * (m : Int)), .int .i64 8] w (Gives w (putL (8 * m) 8))) := fun w m hm => by
    have := rPut 8 ((8 * m : Nat) : Int) 8 w (by omega) (by omega) (by omega) (by omega) (by omega)
    rw [Int.toNat_natCast, show ((8 * m : Nat) : Int) = 8 * (m : Int) from by omega] at this
    exact this
  have HLE : Hid (lens be s = putL (8 * ne) 8 ++ putL (8 * ns) 8) := by show _ = _; unfold lens; rw [hE.len, hS.len]
  have HTG : Hid (tagL K nonce be s = xorL (byF (hashF (hKey K) (hashF (hKey K) (hashF (hKey K) 0 be) s) (lens be s))) (ctrK K nonce 1)) := rfl
  have HCL : Hid ((ctrK K nonce 1).length = 16) := ctrK_length hK HNL.out 1
  have CC : Hid (∀ w, KeyR w K a1 a2 a3 c1 c2 c3 → Bs w an 12 cn nonce → Calls Tryz.prog 73 #[kv a1 a2 a3 c1 c2 c3, .slice an 12 cn, .int .i64 1] w (Gives w (ctrK K nonce 1))) := fun w h1 h2 => rCounter w h1 hK h2 1 (by omega)
  obtain ⟨T, hT⟩ : ∃ T, T = tagL K nonce be s := ⟨_, rfl⟩
  rw [← hT] at HTG ⊢
  clear hT
  obtain ⟨W, hW⟩ : ∃ W, W = w.alloc (.cells (kc a1 a2 a3 c1 c2 c3).toArray 88) := ⟨_, rfl⟩
  have d0 : Blk W w.heap.size (kc a1 a2 a3 c1 c2 c3) 88 := by rw [hW]; exact Blk.new w _ _
  have q0 : Below w.heap.size w W := by rw [hW]; exact below_alloc w _
  have HW : Hid (W = w.alloc (.cells #[.slice a1 256 c1, .slice a2 60 c2, .slice a3 128 c3] 88)) := hW
  clear hW
  have kW := hk.below q0
  have nW := hn.below q0 (Nat.le_refl _)
  have eW := hE.below q0 (Nat.le_refl _)
  have sW := hS.below q0 (Nat.le_refl _)
  have i1 : IntKind.u64.wrap (ne : Int) = (ne : Int) := by rw [IntKind.wrap_u64]; omega
  have i2 : IntKind.u64.wrap (ns : Int) = (ns : Int) := by rw [IntKind.wrap_u64]; omega
  have i3 : (ne : Int) % 18446744073709551616 = (ne : Int) := by omega
  have i4 : (ns : Int) % 18446744073709551616 = (ns : Int) := by omega
  have i5 : IntKind.u64.wrap (8 * (ne : Int)) = 8 * (ne : Int) := by rw [IntKind.wrap_u64]; omega
  have i6 : IntKind.u64.wrap (8 * (ns : Int)) = 8 * (ns : Int) := by rw [IntKind.wrap_u64]; omega
  have i7 : 8 * (ne : Int) % 18446744073709551616 = 8 * (ne : Int) := by omega
  have i8 : 8 * (ns : Int) % 18446744073709551616 = 8 * (ns : Int) := by omega
  unfold kv
  go_enter Tryz.func61, Tryz.ntmps61
  go_upto_region 1 with fail
  rw [← HW.out]
  refine regionG (S := Grows W) (by kernel_rfl) (Below.refl _ W).drew ?_
  refine takeG 0 (some 11) (.pointer (some ⟨w.heap.size, 2, none⟩)) rfl rfl (by kernel_rfl) (by kernel_rfl) (by kernel_rfl) (fun _ _ _ h => h) (ans_at (.tmp 4) 2 (by decide) rfl (by rfl) w.heap.size rfl) ?_
  simp only [Act.put, List.setIfInBounds_toArray, List.set_cons_zero, List.set_cons_succ]
  refine takeG 1 (some 12) (.slice a3 128 c3) rfl rfl (by kernel_rfl) (by kernel_rfl) (by kernel_rfl) (fun _ _ _ h => h) (ans_cB (.tmp 11) rfl (by rfl) w.heap.size 2 _ rfl (fun w h => (d0.grows h).cell 2)) ?_
  simp only [Act.put, List.setIfInBounds_toArray, List.set_cons_zero, List.set_cons_succ]
  refine takeG 3 (some 14) (.slice ae ne ce) rfl rfl (by kernel_rfl) (by kernel_rfl) (by kernel_rfl) (fun _ _ _ h => h) (ans_plain (by rfl) (fun w _ => rfl)) ?_
  simp only [Act.put, List.setIfInBounds_toArray, List.set_cons_zero, List.set_cons_succ]
  refine oneG 2 (by kernel_rfl) fun u1 hg1 hs1 => ?_
  refine opMkB (some 13) rfl rfl rfl (.const (.int .i64 128)) (.const (.int .i64 128)) rfl 128 rfl rfl (by decide) fun u2 hZ hG2 => ⟨Grows.trans hs1 hG2, ?_⟩
  have hZ2 : Bo u2 (some ⟨u1.heap.size, 0, none⟩) 128 128 (fb 0) := by
    rw [fb_zero]
    have := hZ.bo (by simp)
    rw [List.length_replicate] at this
    exact this
  have hs2 := Grows.trans hs1 hG2
  simp only [Act.put, List.setIfInBounds_toArray, List.set_cons_zero, List.set_cons_succ]
  refine callG 4 (some 15) 74 #[.tmp 12, .tmp 13, .tmp 14] #[86, 86, 22] #[.slice a3 128 c3, .slice (some ⟨u1.heap.size, 0, none⟩) 128 128, .slice ae ne ce] rfl rfl rfl (by rfl) (by rfl) (by kernel_rfl) Tryz.call74 fun u3 hg3 hs3 => ?_
  refine (rHash u3 (kW.elem.below hs3 (Nat.le_refl _)) (hZ2.below hg3 (Nat.le_refl _)) (eW.grows hs3) (by omega)).mono ?_
  rintro e u4 ⟨p4, x4, rfl, hB4, hG4⟩
  rw [fb_length] at hB4 ⊢
  refine ⟨_, rfl, Grows.trans hs3 hG4, ?_⟩
  simp only [Act.put, List.setIfInBounds_toArray, List.set_cons_zero, List.set_cons_succ]
  refine takeG 5 (some 9) (.slice p4 128 x4) rfl rfl (by kernel_rfl) (by kernel_rfl) (by kernel_rfl) (fun _ _ _ h => h) (ans_plain (by rfl) (fun w _ => rfl)) ?_
  simp only [Act.put, List.setIfInBounds_toArray, List.set_cons_zero, List.set_cons_succ]
  refine doneG (by kernel_rfl) fun u5 hg5 hs5 => ?_
  have hB5 := hB4.below hg5 (Nat.le_refl _)
  have d5 := d0.grows hs5
  have e2 := d5.cell 2
  simp only [kc, List.getElem?_cons_zero, List.getElem?_cons_succ] at e2
  generalize hashF (hKey K) 0 be = Y1 at *
  go_wp2_with fail
  refine (rHash u5 (kW.elem.below hs5 (Nat.le_refl _)) hB5 (sW.grows hs5) (by omega)).mono ?_
  rintro e u6 ⟨p6, x6, rfl, hB6, hG6⟩
  rw [fb_length] at hB6 ⊢
  have hs6 : Grows W u6 := Grows.trans hs5 hG6
  generalize hashF (hKey K) Y1 s = Y2 at *
  clear hB5 hB4 hZ hZ2 e2 d5 hG6 hg5 hG4 hG2 hs1 hs2 hs3 hg1 hg3
  go_wp2_with fail
  refine (CP.out u6 ne hze).mono ?_
  rintro e u7 ⟨p7, m7, x7, rfl, ho7, hG7⟩
  go_wp2_with fail
  refine (CP.out u7 ns hzs).mono ?_
  rintro e u8 ⟨p8, m8, x8, rfl, ho8, hG8⟩
  have hs8 : Grows W u8 := Grows.trans hs6 (Grows.trans hG7 hG8)
  have ho7' := ho7.below hG8 (Nat.le_refl _)
  have hr : (putL (8 * ne) 8).length + (putL (8 * ns) 8).length ≤ 1000000000 := by rw [putL_length, putL_length]; omega
  go_wp2_with (at_builtin; go_must (refine wpList_app u8 rfl (.tmp 25) (.tmp 30) rfl u6.heap.size _ _ rfl ho7' p8 m8 x8 _ rfl ho8.toBs hr (Nat.le_trans (Below.size hG7) (Below.size hG8)) ?_); intro v9 u9 ho9 hb9; obtain ⟨p9, m9, x9, rfl, hB9⟩ := ho9.bs3; have hs9 : Below W.heap.size W u9 := Below.trans hs8 (hb9.mono (Below.size hs6)); have e9 := (d0.below hs9 d0.lt).cell 2; simp only [kc, List.getElem?_cons_zero, List.getElem?_cons_succ] at e9)
  rw [← HLE.out] at hB9
  have hB6' : Bo u9 p6 128 x6 (fb Y2) := hB6.below (Below.trans (Grows.trans hG7 hG8) hb9) (Nat.le_refl _)
  have hm9 : m9 ≤ 1000 := by rw [← hB9.len, lens_length]; omega
  refine (rHash u9 (kW.elem.below hs9 (Nat.le_refl _)) hB6' hB9 hm9).mono ?_
  rintro e ua ⟨pa, xa, rfl, hBa, hGa⟩
  rw [fb_length] at hBa ⊢
  have hsa : Grows W ua := Grows.trans hs9 hGa
  generalize hashF (hKey K) Y2 (lens be s) = Y3 at *
  clear hB6' hB9 e9 hB6 ho9 hb9 ho7' ho7 ho8 hG7 hG8 hs8 hs6 hs5 hs9 hGa
  go_wp2_with fail
  refine regionG (S := Grows ua) (by kernel_rfl) (Below.refl _ ua).drew ?_
  refine takeG 0 (some 37) (.slice pa 128 xa) rfl rfl (by kernel_rfl) (by kernel_rfl) (by kernel_rfl) (fun _ _ _ h => h) (ans_plain (by rfl) (fun w _ => rfl)) ?_
  simp only [Act.put, List.setIfInBounds_toArray, List.set_cons_zero, List.set_cons_succ]
  refine takeG 2 (some 39) (kv a1 a2 a3 c1 c2 c3) rfl rfl (by kernel_rfl) (by kernel_rfl) (by kernel_rfl) (fun _ _ _ h => h) (ans_key (.tmp 4) rfl (by rfl) w.heap.size rfl (fun w h => (d0.grows hsa).grows h)) ?_
  simp only [Act.put, List.setIfInBounds_toArray, List.set_cons_zero, List.set_cons_succ]
  refine takeG 3 (some 40) (.slice an 12 cn) rfl rfl (by kernel_rfl) (by kernel_rfl) (by kernel_rfl) (fun _ _ _ h => h) (ans_plain (by rfl) (fun w _ => rfl)) ?_
  simp only [Act.put, List.setIfInBounds_toArray, List.set_cons_zero, List.set_cons_succ]
  refine callG 1 (some 38) 76 #[.tmp 37] #[86] #[.slice pa 128 xa] rfl rfl rfl (by rfl) (by rfl) (by kernel_rfl) Tryz.call76 fun ub hgb hsb => ?_
  refine (rBytesF ub (hBa.below hsb (Nat.le_refl _))).mono ?_
  rintro e uc ⟨pc, mc, xc, rfl, hoc, hGc⟩
  refine ⟨_, rfl, Grows.trans hsb hGc, ?_⟩
  simp only [Act.put, List.setIfInBounds_toArray, List.set_cons_zero, List.set_cons_succ]
  refine callG 4 (some 41) 73 #[.tmp 39, .tmp 40, .const (.int .i64 1)] #[88, 22, 3] #[kv a1 a2 a3 c1 c2 c3, .slice an 12 cn, .int .i64 1] rfl rfl rfl (by rfl) (by rfl) (by kernel_rfl) Tryz.call73 fun ud hgd hsd => ?_
  refine (CC.out ud (kW.below (Grows.trans hsa hsd)) (nW.grows (Grows.trans hsa hsd))).mono ?_
  rintro e ue ⟨pe, me, xe, rfl, hoe, hGe⟩
  refine ⟨_, rfl, Grows.trans hsd hGe, ?_⟩
  simp only [Act.put, List.setIfInBounds_toArray, List.set_cons_zero, List.set_cons_succ]
  have hBc := (hoc.toBs.grows hgd).grows hGe
  have hBe := hoe.toBs
  have hmc : mc ≤ 1000000 := by rw [← hBc.len, byF_length]; omega
  have hme : me ≤ 1000000 := by rw [← hBe.len, HCL.out]; omega
  refine callG 5 (some 42) 75 #[.tmp 38, .tmp 41] #[22, 22] #[.slice pc mc xc, .slice pe me xe] rfl rfl rfl (by rfl) (by rfl) (by kernel_rfl) Tryz.call75 fun uf hgf hsf => ?_
  refine (rXor uf (hBc.grows hgf) (hBe.grows hgf) hmc hme).mono ?_
  rintro e ug ⟨pg, mg, xg, rfl, hog, hGg⟩
  rw [← HTG.out] at hog
  refine ⟨_, rfl, Grows.trans hsf hGg, ?_⟩
  simp only [Act.put, List.setIfInBounds_toArray, List.set_cons_zero, List.set_cons_succ]
  refine takeG 6 (some 8) (.slice pg mg xg) rfl rfl (by kernel_rfl) (by kernel_rfl) (by kernel_rfl) (fun _ _ _ h => h) (ans_plain (by rfl) (fun w _ => rfl)) ?_
  simp only [Act.put, List.setIfInBounds_toArray, List.set_cons_zero, List.set_cons_succ]
  refine doneG (by kernel_rfl) fun uh hgh hsh => ?_
  have hoh := hog.below hgh (Nat.le_refl _)
  have hsW : Grows W uh := Grows.trans hsa hsh
  have hsf' : w.heap.size ≤ uf.heap.size := Nat.le_trans q0.size (Nat.le_trans (Below.size hsa) (Below.size hsf))
  go_wp2
  go_ret
  exact Gives.mk (hoh.mono hsf') (q0.trans (Below.mono hsW q0.size))

end Go.Proofs.YtfknplcnfpincaaGreat
