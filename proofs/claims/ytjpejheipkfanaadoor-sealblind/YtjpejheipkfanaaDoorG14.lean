/-
  8 texts in one. No statement of the seat is proved here.
-/
import Derived.Test.YtjpejheipkfanaaDoorG13
import Derived.Deep.RegionLaw
import Derived.BigRegion
/-
  append of bytes as one step of a region that draws its order, told which block alone was written, and where the answer lies. No condition; no statement of the seat is proved here.
-/
namespace Go.Proofs.YtjpejheipkfanaaDoor
open Go.RowKit

/-- Where append's answer lies: in the same block, or in a new one. -/
theorem own_where {w : World} {base : Nat} {v : Value} {l : List UInt8} (hown : Own w base v l) {ad : Addr} {m c : Nat} {news : List UInt8} (hb : Bs w (some ad) m c news) (hm : 0 < m) (hz : l.length + news.length ≤ 1000000000) {ty : TypeId} {v' : Value} {w' : World}
    (hr : (Builtin.append_ #[22, 22] ty #[v, .slice (some ad) m c]).run Tryd.prog w = .ok v' w') : v'.ownBlock = v.ownBlock ∨ v'.ownBlock = some w.heap.size := by
  obtain ⟨i0, hi, hz0, hz1, hz2⟩ := info_parts info5
  have hl := hb.len
  have hsz : (Value.int .u8 0).cells.size = i0.size := by rw [hz1]; rfl
  have hln : (cs news).length = m * i0.size := by rw [cs_length, hz1]; omega
  rcases hown.2 with ⟨rfl, h0⟩ | ⟨g, cap, cur, rfl, hbg, hg, hnc, hcm, hcs, htake⟩
  · have := run_append_nil (P := Tryd.prog) w 22 ty 5 i0 (.int .u8 0) Tryd.underlying22 hi hz0 ad m c (cs news) hln hb.news hm (by omega) (by rw [hz2]; omega)
    rw [this] at hr
    cases hr
    exact Or.inr rfl
  · by_cases hroom : l.length + m ≤ cap
    · have := run_append_room (P := Tryd.prog) w 22 ty 5 i0 Tryd.underlying22 hi g l.length cap cur hg ad m c (cs news) hln hb.news cs_one hroom (by rw [hln, hz1, hcs]; omega)
      rw [this] at hr
      cases hr
      exact Or.inl rfl
    · have := run_append_grow (P := Tryd.prog) w 22 ty 5 i0 (.int .u8 0) Tryd.underlying22 hi hz0 ⟨g, 0, none⟩ l.length cap (cs l) (by rw [hz1]; exact hown.1) (World.ownsRow.cells hown (g := g) rfl) ad m c (cs news) hln hb.news (by omega) (by omega) (growslice_fits (by omega) (by rw [hz2]; omega))
      rw [this] at hr
      cases hr
      exact Or.inr rfl

/-- append as one step of a region that draws its order. -/
theorem step_appX {ops : Array Oper} {o : Oper} {a : Act} {w : World} {K : Act → World → Prop} {Q : Exit → Act → World → Prop} {E : Prop} (hgd : o.guard = none) (s x : Operand)
    (ho : o.op = Op.call { callee := Callee.builtin Builtin.append, args := #[s, x], argTypes := #[22, 22] }) (base : Nat) (v : Value) (l : List UInt8) (hs : a.eval s = v) (hown : Own w base v l)
    (ad : Addr) (m c : Nat) (news : List UInt8) (hx : a.eval x = .slice (some ad) m c) (hb : Bs w (some ad) m c news) (hm : 0 < m) (hz : l.length + news.length ≤ 1000000000) (hbase : base ≤ w.heap.size)
    (h : ∀ v' w', Own w' base v' (l ++ news) → w.grownBy w' v.ownBlock → (v'.ownBlock = v.ownBlock ∨ v'.ownBlock = some w.heap.size) → K (a.put o.dst v') w') : if Region.wanted o (yielded ops a.tmps) = true then Oper.wp Tryd.prog o a w K Q else E := by
  have hw : Region.wanted o (yielded ops a.tmps) = true := by simp [Region.wanted, hgd]
  rw [if_pos hw]
  obtain ⟨i0, hi, hz0, hz1, hz2⟩ := info_parts info5
  have hl := hb.len
  obtain ⟨v', w', hr, h2, h3, _⟩ := run_append_own (P := Tryd.prog) w base 22 o.type 5 i0 (.int .u8 0) 1 1 Tryd.underlying22 hi hz0 hz1 hz2 rfl (by decide) v _ _ hown ad m c (cs news) (by rw [cs_length]; omega) hb.news cs_one (by unfold maxLen; omega) (by omega) hbase
  have hwh := own_where hown hb hm hz hr
  have ho2 : Own w' base v' (l ++ news) := by
    unfold Own
    rw [cs_append, List.length_append, hl]
    exact h2
  have hk := h v' w' ho2 h3 hwh
  unfold Oper.wp
  simp [execOp, ho, resolve, invoke, builtin, hs, hx, hr, Result.andThen]
  rw [Oper.upon_value]
  exact hk

end Go.Proofs.YtjpejheipkfanaaDoor

/-
  The contract of layer 6's reference's stream: a text under the blocks of a nonce. Conditions: the key's parts lie where its slices lead; a nonce of 12 bytes; a text of at most 1000.
-/
namespace Go.Proofs.YtjpejheipkfanaaDoor
open Go.RowKit

theorem Bs.grownBy {w w' : World} {row : Option Nat} {a : Option Addr} {n c : Nat} {l : List UInt8} (h : Bs w a n c l) (hg : w.grownBy w' row) (hr : ∀ x, a = some x → row ≠ some x.block) : Bs w' a n c l := by
  refine ⟨h.1, h.2.1, h.2.2.1, h.2.2.2.1, fun i hi => ?_⟩
  obtain ⟨b, o, ha, hc⟩ := h.2.2.2.2 i hi
  exact ⟨b, o, ha, hg.cell hc (fun e => hr _ ha e.symm)⟩
theorem xorT {l m : List UInt8} {t : Nat} (h1 : t < l.length) (h2 : t < m.length) : (xorL l m).take (t + 1) = (xorL l m).take t ++ [l.getD t 0 ^^^ m.getD t 0] := by
  have h3 : t < (xorL l m).length := by unfold xorL; rw [List.length_zipWith]; omega
  rw [take_snoc h3]
  congr 2
  have := xorG h1 h2
  rw [List.getElem?_eq_getElem h3] at this
  exact Option.some.inj this
theorem quo16 (k : Nat) : ((16 * k : Nat) : Int).tdiv 16 = (k : Int) := by
  rw [Int.tdiv_eq_ediv_of_nonneg (by omega)]
  omega

end Go.Proofs.YtjpejheipkfanaaDoor

/-
  A key of the reference in a region that draws its order: its parts, and all of it, out of its variable. No condition; no statement of the seat is proved here.
-/
namespace Go.Proofs.YtjpejheipkfanaaDoor
open Go.RowKit

theorem ans_c8 {ops : Array Oper} {S : World → Prop} {oi : Oper} {a : Act} (x : Operand) (ho : oi.op = .load 22 x) (hw : Region.wanted oi (yielded ops a.tmps) = true) (g o : Nat) (v : Value) (hx : a.eval x = .pointer (some ⟨g, o, none⟩)) (hc : ∀ w, S w → w.cell? ⟨g, o, none⟩ = some v) : Ans Tryd.prog ops S oi v a := by
  refine ans_plain hw fun w hS => ?_
  have c := hc w hS
  unfold execOp
  simp only [ho, hx]
  go_simp
theorem ans_cS {ops : Array Oper} {S : World → Prop} {oi : Oper} {a : Act} (x : Operand) (ho : oi.op = .load 40 x) (hw : Region.wanted oi (yielded ops a.tmps) = true) (g o : Nat) (v : Value) (hx : a.eval x = .pointer (some ⟨g, o, none⟩)) (hc : ∀ w, S w → w.cell? ⟨g, o, none⟩ = some v) : Ans Tryd.prog ops S oi v a := by
  refine ans_plain hw fun w hS => ?_
  have c := hc w hS
  unfold execOp
  simp only [ho, hx]
  go_simp
/-- All of a key. -/
def kc (a1 a2 a3 : Option Addr) (c1 c2 c3 : Nat) : List Value := [.slice a1 256 c1, .slice a2 60 c2, .slice a3 128 c3]
end Go.Proofs.YtjpejheipkfanaaDoor

/-
  The contract of the reference's Xor. Condition: rows of at most 1000000 bytes.
-/
namespace Go.Proofs.YtjpejheipkfanaaDoor
open Go.RowKit

theorem xors_own {w : World} {base : Nat} {v : Value} {A B : List UInt8} (e : A = B) (h : Own w base v A) : Own w base v B := by
  rw [← e]
  exact h
theorem xor_take_end {l m : List UInt8} {n n' k : Nat} (H : Hid (l.length = n ∧ m.length = n')) (h : ¬ (k < n ∧ k < n')) : xorL (l.take k) (m.take k) = xorL l m := by
  unfold xorL
  rw [← List.take_zipWith, List.take_of_length_le]
  rw [List.length_zipWith, H.out.1, H.out.2]
  omega

end Go.Proofs.YtjpejheipkfanaaDoor

/-
  The contract of layer 6's reference's Tag. Conditions: the key's parts lie where its slices lead; a nonce of 12 bytes; what stands beside, and what is sealed, of at most 900 bytes.
-/
namespace Go.Proofs.YtjpejheipkfanaaDoor
open Go.RowKit

end Go.Proofs.YtjpejheipkfanaaDoor

/-
  The contract of the reference's Same: it tells whether two rows of bytes are equal, and turns nothing. No condition.
-/
namespace Go.Proofs.YtjpejheipkfanaaDoor
open Go.RowKit

theorem bt_inj {l m : List UInt8} (h : l.length = m.length) (k : ∀ i, i < l.length → bt l i = bt m i) : l = m := by
  apply List.ext_getElem h
  intro i h1 h2
  have := k i h1
  unfold bt at this
  simp [List.getD_eq_getElem?_getD, h1, h2] at this
  exact UInt8.toNat_inj.1 (by omega)

theorem same_step {l m : List UInt8} {k : Nat} (H : Hid (∀ j, j < k → bt l j = bt m j)) (h : (bt l k != bt m k) = false) (j : Nat) (hj : j < k + 1) : bt l j = bt m j := by
  by_cases e : j = k
  · subst e; simpa using h
  · exact H.out j (by omega)
theorem same_no {l m : List UInt8} {k : Nat} (h : (bt l k != bt m k) = true) : false = decide (l = m) := by
  symm
  rw [decide_eq_false_iff_not]
  intro e
  subst e
  simp at h
theorem same_yes {l m : List UInt8} {n k : Nat} (H : Hid (l.length = n ∧ m.length = n)) (h : ¬ k < n) (hj : ∀ j, j < k → bt l j = bt m j) : true = decide (l = m) := by
  symm
  rw [decide_eq_true_iff]
  obtain ⟨h1, h2⟩ := H.out
  exact bt_inj (by omega) fun i hi => hj i (by omega)

set_option maxHeartbeats 400000 in
theorem rSame (w : World) {a b : Option Addr} {n c n' c' : Nat} {l m : List UInt8} (ha : Bs w a n c l) (hb : Bs w b n' c' m) :
    Calls Tryd.prog 13 #[.slice a n c, .slice b n' c'] w fun e w' => e = .returned (.bool (decide (l = m))) ∧ ∃ k, w' = w.drewN k := by
  have h1 := ha.max
  have h2 := hb.max
  by_cases hn : n = n'
  · subst hn
    by_cases h0 : n = 0
    · subst h0
      have e : decide (l = m) = true := by
        have e1 := ha.len
        have e2 := hb.len
        simp at e1 e2
        simp [e1, e2]
      rw [e]
      clear e ha hb
      go_enter Tryd.func13, Tryd.ntmps13
      go_wp2
      refine wp_loop_rounds 1 ?_; rw [rounds_succ]; go_wp2
      go_ret
      exact ⟨rfl, 0, rfl⟩
    · obtain ⟨x, o, rfl, hx, hc⟩ := ha.at (by omega)
      obtain ⟨y, q, rfl, hy, hd⟩ := hb.at (by omega)
      have e1 := ha.len
      have e2 := hb.len
      have H : Hid (l.length = n ∧ m.length = n) := ⟨e1, e2⟩
      clear e1 e2 ha hb
      go_enter Tryd.func13, Tryd.ntmps13
      go_wp2
      go_loopw [5] (fun i wr => ∃ k : Nat, k ≤ n ∧ i = .int .i64 k ∧ (∃ d, wr = w.drewN d) ∧ ∀ j, j < k → bt l j = bt m j) (fun i _ => n - (intOf i).toNat)
      case atStart => exact ⟨0, Nat.zero_le _, rfl, ⟨0, rfl⟩, fun j hj => by omega⟩
      case round =>
        obtain ⟨k, hk, rfl, ⟨d, rfl⟩, hj⟩ := hrel
        by_cases hlt : k < n
        · have c1 := hc k hlt
          have c2 := hd k hlt
          have H2 : Hid (∀ j, j < k → bt l j = bt m j) := hj
          clear hj hc hd
          by_cases hq : bt l k = bt m k
          · have hq' : (bt l k != bt m k) = false := by simp [hq]
            clear hq
            go_wp2
            go_quiet (fail)
            go_wp2
            go_roundw
            case rel => exact ⟨k + 1, by omega, by go_num, ⟨_, rfl⟩, fun j hj => same_step H2 hq' j hj⟩
            case measure => simp [intOf]; omega
          · have hq' : (bt l k != bt m k) = true := by simp [hq]
            clear hq
            go_wp2
            go_quiet (fail)
            go_wp2
            go_ret
            exact ⟨ret_bool (same_no hq'), _, World.drewN_drewN _ _ _⟩
        · go_wp2
          go_ret
          exact ⟨ret_bool (same_yes H hlt hj), d, rfl⟩
  · have hq' : ((n : Int) != (n' : Int)) = true := by simp; omega
    have e : decide (l = m) = false := by
      have e1 := ha.len
      have e2 := hb.len
      simp
      intro h
      rw [h] at e1
      omega
    rw [e]
    clear e ha hb
    go_enter Tryd.func13, Tryd.ntmps13
    go_wp2
    go_ret
    exact ⟨rfl, 0, rfl⟩
end Go.Proofs.YtjpejheipkfanaaDoor

/-
  Two like rows held against each other. No condition; no statement of the seat is proved here.
-/
namespace Go.Proofs.YtjpejheipkfanaaDoor
open Go.RowKit

theorem sameT (w : World) {a b : Option Addr} {n c n' c' : Nat} {l : List UInt8} (ha : Bs w a n c l) (hb : Bs w b n' c' l) : Calls Tryd.prog 13 #[.slice a n c, .slice b n' c'] w fun e w' => e = .returned (.bool true) ∧ Below w.heap.size w w' := by
  have := rSame w ha hb
  rw [decide_eq_true rfl] at this
  refine this.mono ?_
  rintro e w' ⟨rfl, k, rfl⟩
  exact ⟨rfl, below_drewN' w k⟩

end Go.Proofs.YtjpejheipkfanaaDoor

/-
  The contracts of layer 6's reference's Seal and Open. Conditions: the key's parts lie where its slices lead; rows of at most 900 bytes.
-/
namespace Go.Proofs.YtjpejheipkfanaaDoor
open Go.RowKit

/-- What Seal and Open leave: bytes in new memory. -/
def GivesC (w : World) (l : List UInt8) (e : Ending) (w' : World) : Prop := ∃ a m c, e = .returned (.tuple #[.slice a m c, .int .i64 0]) ∧ Own w' w.heap.size (.slice a m c) l ∧ Below w.heap.size w w'

/-- 'b[:k]', 'b[k:]' in a region. -/
theorem ans_hi {ops : Array Oper} {S : World → Prop} {oi : Oper} {a : Act} (x y : Operand) (ho : oi.op = .slice 22 x none (some y) none) (hw : Region.wanted oi (yielded ops a.tmps) = true) (u v r : Value) (hx : a.eval x = u) (hy : a.eval y = v) (hr : ∀ w, Sem.run Tryd.prog (Instr.slice 22 u none (some v) none) w = .ok r w) : Ans Tryd.prog ops S oi r a := by
  refine ans_plain hw fun w _ => ?_
  unfold execOp
  simp only [ho, hx, hy, Option.map]
  go_simp
theorem ans_lo {ops : Array Oper} {S : World → Prop} {oi : Oper} {a : Act} (x y : Operand) (ho : oi.op = .slice 22 x (some y) none none) (hw : Region.wanted oi (yielded ops a.tmps) = true) (u v r : Value) (hx : a.eval x = u) (hy : a.eval y = v) (hr : ∀ w, Sem.run Tryd.prog (Instr.slice 22 u (some v) none none) w = .ok r w) : Ans Tryd.prog ops S oi r a := by
  refine ans_plain hw fun w _ => ?_
  unfold execOp
  simp only [ho, hx, hy, Option.map]
  go_simp

/-- What Open leaves of a row that has a tag. -/
def OpensC (w : World) (ok : Bool) (l : List UInt8) (e : Ending) (w' : World) : Prop := if ok then GivesC w l e w' else e = .returned (.tuple #[.slice none 0 0, .int .i64 6]) ∧ Below w.heap.size w w'

end Go.Proofs.YtjpejheipkfanaaDoor
