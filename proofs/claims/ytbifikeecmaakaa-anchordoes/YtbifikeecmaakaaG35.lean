/-
  3 texts in one. No statement of the seat is proved here.
-/
import Derived.Test.YtbifikeecmaakaaG34
import Derived.Deep.CutBlock
/-
  The contract of layer 14's reference's Put; append onto bytes that fill their row. Conditions: none.
-/
namespace Go.Proofs.Ytbifikeecmaakaa
open Go.RowKit

theorem chkKs_take : ∀ {l : List KekS}, chkKs l = 0 → ∀ k, chkKs (l.take k) = 0
  | _, _, 0 => by simp [chkKs]
  | [], _, _ + 1 => rfl
  | x :: l, h, k + 1 => by
    have h1 := chkKs_all h x (by simp)
    have h2 : chkKs l = 0 := by
      unfold chkKs at h
      rw [if_pos h1] at h
      exact h
    rw [List.take_succ_cons]
    unfold chkKs
    rw [if_pos h1]
    exact chkKs_take h2 k
/-- Bytes of the call's own, or bytes that fill their row. -/
def PB (w : World) (base : Nat) (v : Value) (l : List UInt8) : Prop := Own w base v l ∨ ∃ g cur f, v = .slice (some ⟨g, 0, none⟩) l.length l.length ∧ Bs w (some ⟨g, 0, none⟩) l.length l.length l ∧ w.heap[g]? = some (.cells cur 5 f) ∧ base ≤ g
theorem PB.ty {w : World} {base : Nat} {v : Value} {l : List UInt8} (h : PB w base v l) : ∀ j, v.ownBlock = some j → base ≤ j ∧ ∃ cur f, w.heap[j]? = some (.cells cur 5 f) := fun j hj => by
  rcases h with h | ⟨g, cur, f, rfl, _, hh, hb⟩
  · refine ⟨Own.size h j hj, ?_⟩
    rcases h.2 with ⟨rfl, _⟩ | ⟨g, cap, cur, rfl, _, hh, _⟩
    · simp [Value.ownBlock] at hj
    · simp only [Value.ownBlock, Option.some.injEq] at hj
      subst hj
      exact ⟨cur, (0, 0), hh⟩
  · simp only [Value.ownBlock, Option.some.injEq] at hj
    subst hj
    exact ⟨hb, cur, f, hh⟩
theorem PB.blk {w w' : World} {base : Nat} {v : Value} {l : List UInt8} (h : PB w base v l) (hg : w.grownBy w' v.ownBlock) {g : Nat} {vs : List Value} {t : TypeId} (hb : Blk w g vs t) (ht : t ≠ 5) : Blk w' g vs t := by
  unfold Blk
  rw [hg.block g hb.lt (fun e => by
    obtain ⟨_, cur, f, hh⟩ := h.ty g e.symm
    rw [show w.heap[g]? = _ from hb] at hh
    simp only [Option.some.injEq, Obj.cells.injEq] at hh
    exact ht hh.2.1)]
  exact hb
theorem PB.below {w w' : World} {base : Nat} {v : Value} {l : List UInt8} (h : PB w base v l) (hb : Below w.heap.size w w') : PB w' base v l := by
  rcases h with h | ⟨g, cur, f, rfl, h1, h2, h3⟩
  · exact Or.inl (h.below hb (Nat.le_refl _))
  · exact Or.inr ⟨g, cur, f, rfl, h1.below hb (Nat.le_refl _), by rw [hb.block g (Array.getElem?_eq_some_iff.1 h2).1]; exact h2, h3⟩
theorem PB.bel {w w' : World} {base : Nat} {v : Value} {l : List UInt8} (h : PB w base v l) (hg : w.grownBy w' v.ownBlock) {B : Nat} {a : World} (hb : Below B a w) (hB : B ≤ base) (hw : B ≤ w.heap.size) : Below B a w' := hb.grown hg hw fun j hj => Nat.le_trans hB (h.ty j hj).1
/-- 'append(b, x...)', b the call's own or filling its row, x not empty. -/
theorem wpList_appB {ops : Array Oper} {rest : List Oper} {o : Oper} {a : Act} {Q : Exit → Act → World → Prop} (w : World) (hgd : o.guard = none) (s x : Operand)
    (ho : o.op = Op.call { callee := Callee.builtin Builtin.append, args := #[s, x], argTypes := #[22, 22] }) (base : Nat) (v : Value) (l : List UInt8) (hs : a.eval s = v) (hown : PB w base v l)
    (ao : Option Addr) (m c : Nat) (news : List UInt8) (hx : a.eval x = .slice ao m c) (hb : Bs w ao m c news) (hm : 0 < news.length) (hz : l.length + news.length ≤ 1000000) (hbase : base ≤ w.heap.size)
    (h : ∀ v' w', Own w' base v' (l ++ news) → w.grownBy w' v.ownBlock → wpList Try.prog ops Q rest (a.put o.dst v') w') : wpList Try.prog ops Q (o :: rest) a w := by
  obtain ⟨i0, hi, hz0, hz1, hz2⟩ := info_parts info5
  have hl := hb.len
  obtain ⟨b, o', rfl, _, _⟩ := hb.at (by omega)
  rcases hown with hown | ⟨g, cur, f, rfl, hB, hh, hg⟩
  · refine wpList_append_own w hgd s x 22 ho base 5 i0 (.int .u8 0) 1 1 Try.underlying22 hi hz0 hz1 hz2 rfl (by decide) v _ _ hs hown ⟨b, o', none⟩ m c (cs news) hx (by rw [cs_length]; omega) hb.news cs_one (by unfold maxLen; omega) (by omega) hbase ?_
    intro v' w' ho' hg _
    refine h v' w' ?_ hg
    unfold Own
    rw [cs_append, List.length_append, hl]
    exact ho'
  · have hln : (cs news).length = m * i0.size := by rw [cs_length, hz1]; omega
    have hr := run_append_grow (P := Try.prog) w 22 o.type 5 i0 (.int .u8 0) Try.underlying22 hi hz0 ⟨g, 0, none⟩ l.length l.length (cs l) (by rw [cs_length, hz1]; omega) hB.news ⟨b, o', none⟩ m c (cs news) hln hb.news (by omega) (by omega) (growslice_fits (by omega) (by rw [hz2]; omega))
    refine wpList_plain hgd fun K hK => ?_
    unfold Oper.wp
    simp [execOp, ho, resolve, invoke, builtin, hs, hx, hr, Result.andThen]
    rw [Oper.upon_value]
    refine hK _ _ (h _ _ ?_ ⟨rfl, rfl, rfl, by simp, fun k hk _ => heap_alloc_old w.drew _ hk⟩)
    have hge := grownCap_ge w (l.length + m) l.length 5
    have hcm : grownCap w (l.length + m) l.length 5 ≤ maxLen := grownCap_le_maxLen w (l.length + m) l.length 5 (by unfold maxLen; omega)
    unfold Own
    rw [List.length_append, hl, cs_append]
    refine ⟨by rw [List.length_append, cs_length, cs_length]; omega, Or.inr ⟨w.heap.size, _, _, rfl, hbase, heap_alloc_new w.drew _, hge, hcm, ?_, ?_⟩⟩
    · simp only [Array.size_append, List.size_toArray, size_zeroCells]
      rw [show (Value.int .u8 0).cells.size = 1 from rfl, List.length_append, cs_length, cs_length]
      omega
    · simp only [Array.toList_append, List.append_assoc]
      rw [← List.append_assoc]
      rw [show (l.length + m) * 1 = (cs l ++ cs news).length from by rw [List.length_append, cs_length, cs_length]; omega]
      exact List.take_left

set_option maxRecDepth 100000 in
set_option maxHeartbeats 8000000 in
theorem rPutA (w : World) {A : Nat → Prop} {a : AncS} {p q : Tri} (h : Anc A w a p q) : Calls Try.prog 10 #[anV a p q] w fun e w' => ∃ s m c, e = .returned (.tuple #[.slice s m c, .int .i64 (chkA a)]) ∧ Own w' w.heap.size (.slice s m c) (if chkA a = 0 then ancL a else []) ∧ Below w.heap.size w w' := by
  obtain ⟨qa, qn, qc⟩ := q
  obtain ⟨W0, hW0⟩ : ∃ W0, W0 = w.alloc (.cells (anc a p ⟨qa, qn, qc⟩).toArray 25) := ⟨_, rfl⟩
  have z0 : Blk W0 w.heap.size (anc a p ⟨qa, qn, qc⟩) 25 := by rw [hW0]; exact Blk.newAt w _ _ w.heap.size rfl _ rfl
  have k0 : Below w.heap.size w W0 := by rw [hW0]; exact below_alloc _ _
  have s0 : W0.heap.size = w.heap.size + 1 := by rw [hW0]; simp
  have CC : Hid (Calls Try.prog 15 #[.agg (anc a p ⟨qa, qn, qc⟩).toArray] W0 fun e w' => e = .returned (.int .i64 (chkA a)) ∧ Below W0.heap.size W0 w') := rCheckA W0 (h.below k0)
  unfold anV
  by_cases hc : chkA a = 0
  · rw [if_pos hc]
    rw [hc] at CC ⊢
    obtain ⟨⟨hn1, hn2, hn3, hn4⟩, ⟨hb1, hb2⟩, hm32, hk16, hks0⟩ := chkA_ok hc
    have hno := nums_ok hc
    have HTL : Hid ((ancL a).length ≤ 665) := ancL_le hc
    have hkl := h.kl
    dsimp only at hkl
    have hqn : qn ≤ 16 := by omega
    have hml := h.ml
    have HA : Hid (∀ u, Below w.heap.size w u → Anc A u a p ⟨qa, qn, qc⟩) := fun u hu => h.below hu; have HW : Hid (Anc A w a p ⟨qa, qn, qc⟩) := h
    have hrt : wrap64 (a.root + 1) = a.root + 1 := by unfold wrap64; omega
    have hr1 : a.root + 1 ≤ 9223372036854775807 := by omega
    have hr2 : -9223372036854775808 ≤ a.root + 1 := by omega
    have HM : Hid (0 < a.master.length) := by show 0 < _; omega
    have kc := fun (w : World) (C : Array Value) (n c : Nat) => Lib.run_convert_bytes_const (P := Try.prog) w 22 5 C n c Try.underlying22 Try.underlying5
    obtain ⟨N, hNN⟩ : ∃ N, N = nums a := ⟨_, rfl⟩
    have HN : Hid (N = nums a) := hNN
    rw [← hNN] at hno
    have hnl : N.length = 6 := by rw [hNN]; rfl
    clear hNN
    clear hn1 hn2 hn3 hn4 hb1 hb2 h hc
    go_enter Try.func10, Try.ntmps10
    go_wp2_with ((with_reducible refine at_ld 25 ?_); (refine ld 25 (.tmp 1) 8 sizeAn _ Try.underlying25 rfl w.heap.size 0 (anc a p ⟨qa, qn, qc⟩) rfl (by rw [← hW0]; exact z0.whole) rfl ?_))
    rw [← hW0]
    clear hW0
    refine CC.out.mono ?_
    rintro e w1 ⟨rfl, hb1⟩
    have z1 := z0.below hb1 z0.lt
    have k1 : Below w.heap.size w w1 := k0.trans (hb1.mono k0.size)
    have s1 : w.heap.size + 1 ≤ w1.heap.size := by have := hb1.size; omega
    clear CC hb1 k0 z0 s0
    obtain ⟨W2, hW2⟩ : ∃ W2, W2 = (w1.alloc (.cells #[.int .u8 100, .int .u8 101, .int .u8 101, .int .u8 100, .int .u8 98, .int .u8 111, .int .u8 120, .int .u8 49] 5 (8, 9))).alloc (.cells #[.int .i64 a.seq, .int .i64 a.epoch, .int .i64 a.given, .int .i64 (a.root + 1), .int .i64 a.rootEpoch, .int .i64 a.pending] 3) := ⟨_, rfl⟩
    have bm : Bs (w1.alloc (.cells #[.int .u8 100, .int .u8 101, .int .u8 101, .int .u8 100, .int .u8 98, .int .u8 111, .int .u8 120, .int .u8 49] 5 (8, 9))) (some ⟨w1.heap.size, 0, none⟩) 8 8 markL := Bs.marked w1 markL #[.int .u8 100, .int .u8 101, .int .u8 101, .int .u8 100, .int .u8 98, .int .u8 111, .int .u8 120, .int .u8 49] (8, 9) rfl (by decide)
    have P0 : Hid (PB W2 (w.heap.size + 1) (.slice (some ⟨w1.heap.size, 0, none⟩) 8 8) (markL ++ numsL (N.take 0))) := by
      rw [hW2]
      refine Or.inr ⟨w1.heap.size, #[.int .u8 100, .int .u8 101, .int .u8 101, .int .u8 100, .int .u8 98, .int .u8 111, .int .u8 120, .int .u8 49], (8, 9), rfl, bm.below (below_alloc _ _) (Nat.le_refl _), ?_, s1⟩
      · rw [heap_alloc_old _ _ (by simp), heap_alloc_new]
    have zG : Blk W2 (w1.heap.size + 1) (N.map fun n => Value.int .i64 n) 3 := by rw [hW2, HN.out]; exact Blk.newAt (w1.alloc _) _ _ (w1.heap.size + 1) (by simp) _ rfl
    have z2 : Blk W2 w.heap.size (anc a p ⟨qa, qn, qc⟩) 25 := by rw [hW2]; exact (z1.old _).old _
    have k2 : Below w.heap.size w W2 := by rw [hW2]; exact (k1.alloc k1.size _).alloc (by simp; omega) _
    have q0 : (w1.alloc (.cells #[.int .u8 100, .int .u8 101, .int .u8 101, .int .u8 100, .int .u8 98, .int .u8 111, .int .u8 120, .int .u8 49] 5 (8, 9))).cell? ⟨w.heap.size, 0, none⟩ = some (.int .i64 a.seq) := (z1.old _).cell 0
    have q1 : (w1.alloc (.cells #[.int .u8 100, .int .u8 101, .int .u8 101, .int .u8 100, .int .u8 98, .int .u8 111, .int .u8 120, .int .u8 49] 5 (8, 9))).cell? ⟨w.heap.size, 1, none⟩ = some (.int .i64 a.epoch) := (z1.old _).cell 1
    have q2 : (w1.alloc (.cells #[.int .u8 100, .int .u8 101, .int .u8 101, .int .u8 100, .int .u8 98, .int .u8 111, .int .u8 120, .int .u8 49] 5 (8, 9))).cell? ⟨w.heap.size, 2, none⟩ = some (.int .i64 a.given) := (z1.old _).cell 2
    have q3 : (w1.alloc (.cells #[.int .u8 100, .int .u8 101, .int .u8 101, .int .u8 100, .int .u8 98, .int .u8 111, .int .u8 120, .int .u8 49] 5 (8, 9))).cell? ⟨w.heap.size, 3, none⟩ = some (.int .i64 a.root) := (z1.old _).cell 3
    have q4 : (w1.alloc (.cells #[.int .u8 100, .int .u8 101, .int .u8 101, .int .u8 100, .int .u8 98, .int .u8 111, .int .u8 120, .int .u8 49] 5 (8, 9))).cell? ⟨w.heap.size, 4, none⟩ = some (.int .i64 a.rootEpoch) := (z1.old _).cell 4
    have q5 : (w1.alloc (.cells #[.int .u8 100, .int .u8 101, .int .u8 101, .int .u8 100, .int .u8 98, .int .u8 111, .int .u8 120, .int .u8 49] 5 (8, 9))).cell? ⟨w.heap.size, 5, none⟩ = some (.int .i64 a.pending) := (z1.old _).cell 5
    have lz1 : w.heap.size < w1.heap.size := z1.lt
    clear bm
    go_wp2_with fail
    rw [← hW2]
    clear hW2 q0 q1 q2 q3 q4 q5 z1 k1 kc
    generalize hG : w1.heap.size + 1 = G at *
    clear hG
    generalize w1.heap.size = GM at *
    go_loopw [5, 7] (fun v i wr => ∃ (k : Nat) (oa : Option Addr) (on oc : Nat), k ≤ 6 ∧ i = .int .i64 (k : Int) ∧ v = .slice oa on oc ∧ Hid (PB wr (w.heap.size + 1) (.slice oa on oc) (markL ++ numsL (N.take k))) ∧ Blk wr G (N.map fun n => Value.int .i64 n) 3 ∧ Blk wr w.heap.size (anc a p ⟨qa, qn, qc⟩) 25 ∧ Below w.heap.size w wr) (fun _ i _ => 6 - (intOf i).toNat)
    case atStart => exact ⟨0, _, _, _, Nat.zero_le _, rfl, rfl, P0, zG, z2, k2⟩
    case round =>
      clear P0 zG z2 k2
      obtain ⟨k, oa, on, oc, hk, rfl, rfl, P, zG, z2, k2⟩ := hrel
      by_cases hlt : k < 6
      · have i0 : (k : Int) < 6 := by omega
        obtain ⟨n, hn⟩ : ∃ n, N[k]? = some n := ⟨_, List.getElem?_eq_getElem (by omega)⟩
        obtain ⟨n0, n1⟩ := hno n (List.mem_of_getElem? hn)
        have cn : wr.cell? ⟨G, k, none⟩ = some (.int .i64 n) := by rw [zG.cell, List.getElem?_map, hn]; rfl
        have lG := zG.lt
        have wn : IntKind.u64.wrap n = n := by rw [IntKind.wrap_u64]; omega
        have hsn : numsL (N.take (k + 1)) = numsL (N.take k) ++ putL n.toNat 8 := by unfold numsL; rw [List.take_add_one, hn]; simp
        have hln : (markL ++ numsL (N.take k)).length ≤ 56 := by rw [List.length_append, numsL_len, List.length_take]; simp [markL]; omega
        have CP : Hid (Calls Try.prog 41 #[.int .u64 n, .int .i64 8] wr (Gives wr (putL n.toNat 8))) := rPut 8 n 8 wr (by decide) (by decide) (by omega) (by omega) (by decide)
        clear hn
        go_wp2_with fail
        refine CP.out.mono ?_
        rintro e w4 ⟨a4, m4, c4, rfl, o4, hb4⟩
        have P4 := P.out.below hb4
        have zG4 := zG.below hb4 zG.lt
        have z4 := z2.below hb4 z2.lt
        have k4 : Below w.heap.size w w4 := k2.trans (hb4.mono k2.size)
        have hz5 : (markL ++ numsL (N.take k)).length + (putL n.toNat 8).length ≤ 1000000 := by rw [putL_length]; omega
        have hs5 : w.heap.size + 1 ≤ w4.heap.size := z4.lt
        have hp8 : 0 < (putL n.toNat 8).length := by rw [putL_length]; decide
        have hB4 := o4.toBs
        clear CP hb4 o4 P zG z2 k2 cn
        go_wp2_with (at_builtin; refine wpList_appB w4 rfl (.tmp 35) (.tmp 41) rfl (w.heap.size + 1) (.slice oa on oc) (markL ++ numsL (N.take k)) rfl P4 a4 m4 c4 (putL n.toNat 8) rfl hB4 hp8 hz5 hs5 ?_; intro v5 w5 o5 g5; obtain ⟨a5, m5, c5, rfl⟩ : ∃ a1 m1 c1, v5 = .slice a1 m1 c1 := (by obtain ⟨a1, c1, e1, _⟩ := o5.bs; exact ⟨_, _, _, e1⟩))
        have zG5 := P4.blk g5 zG4 (by decide)
        have z5 := P4.blk g5 z4 neAn5
        have k5 := P4.bel g5 k4 (by omega) k4.size
        have P5 : Hid (PB w5 (w.heap.size + 1) (.slice a5 m5 c5) (markL ++ numsL (N.take (k + 1)))) := by rw [hsn, ← List.append_assoc]; exact Or.inl o5
        clear P4 zG4 z4 k4 o5 g5 hB4
        go_roundw
        case rel => exact ⟨k + 1, a5, m5, c5, by omega, by go_num, rfl, P5, zG5, z5, k5⟩
        case measure => simp [intOf]; omega
      · have i0 : ¬ (k : Int) < 6 := by omega
        rw [List.take_of_length_le (by omega)] at P
        clear hno zG
        generalize k = k1 at *
        have hln : (markL ++ numsL N).length = 56 := by rw [List.length_append, numsL_len, hnl]; rfl
        have c6 : wr.cell? ⟨w.heap.size, 6, none⟩ = some (.slice p.la p.ln p.lc) := z2.cell 6
        have l6 := z2.lt
        have hma := (HA.out wr k2).ma.1
        have hz5 : (markL ++ numsL N).length + a.master.length ≤ 1000000 := by omega
        have hs5 : w.heap.size + 1 ≤ wr.heap.size := z2.lt
        have hq8 : IntKind.u8.wrap (qn : Int) = (qn : Int) := by rw [IntKind.wrap_u8]; omega
        have hp1 : 0 < (putL qn 1).length := by rw [putL_length]; decide
        have hz7 : (markL ++ numsL N ++ a.master).length + (putL qn 1).length ≤ 1000000 := by rw [List.length_append, putL_length]; omega
        go_wp2_with (first | (at_builtin; refine wpList_appB wr rfl (.tmp 43) (.tmp 45) rfl (w.heap.size + 1) (.slice oa on oc) (markL ++ numsL N) rfl P.out p.la p.ln p.lc (a.master) rfl hma HM.out hz5 hs5 ?_; intro v5 w5 o5 g5; obtain ⟨a5, m5, c5, rfl⟩ : ∃ a1 m1 c1, v5 = .slice a1 m1 c1 := (by obtain ⟨a1, c1, e1, _⟩ := o5.bs; exact ⟨_, _, _, e1⟩); have z5 := P.out.blk g5 z2 neAn5; have k5 := P.out.bel g5 k2 (by omega) k2.size; have c7 : w5.cell? ⟨w.heap.size, 7, none⟩ = some (.slice qa qn qc) := z5.cell 7; have l5 := z5.lt; have P6 : PB (w5.alloc (.cells #[.int .u8 (qn : Int)] 5)) (w.heap.size + 1) (.slice a5 m5 c5) (markL ++ numsL N ++ a.master) := PB.below (Or.inl o5) (below_alloc _ _); have z6 : Blk (w5.alloc (.cells #[.int .u8 (qn : Int)] 5)) w.heap.size (anc a p ⟨qa, qn, qc⟩) 25 := z5.old _; have k6 : Below w.heap.size w (w5.alloc (.cells #[.int .u8 (qn : Int)] 5)) := k5.alloc k5.size _; have hs7 : w.heap.size + 1 ≤ (w5.alloc (.cells #[.int .u8 (qn : Int)] 5)).heap.size := z6.lt; have hB6 : Bs (w5.alloc (.cells #[.int .u8 (qn : Int)] 5)) (some ⟨w5.heap.size, 0, none⟩) 1 1 (putL qn 1) := (Bs.one w5 (qn : Int) (by omega) (by omega)); clear P o5 g5 z2 k2) | (at_builtin; refine wpList_appB (w5.alloc (.cells #[.int .u8 (qn : Int)] 5)) rfl (.tmp 47) (.tmp 52) rfl (w.heap.size + 1) (.slice a5 m5 c5) (markL ++ numsL N ++ a.master) rfl P6 (some ⟨w5.heap.size, 0, none⟩) 1 1 (putL qn 1) rfl hB6 hp1 hz7 hs7 ?_; intro v7 w7 o7 g7; obtain ⟨a7, m7, c7, rfl⟩ : ∃ a1 m1 c1, v7 = .slice a1 m1 c1 := (by obtain ⟨a1, c1, e1, _⟩ := o7.bs; exact ⟨_, _, _, e1⟩); have z7 := P6.blk g7 z6 neAn5; have k7 := P6.bel g7 k6 (by omega) k6.size; have c8 : w7.cell? ⟨w.heap.size, 7, none⟩ = some (.slice qa qn qc) := z7.cell 7; have l7 := z7.lt))
        have P7 : Hid (Own w7 (w.heap.size + 1) (.slice a7 m7 c7) (markL ++ numsL N ++ a.master ++ putL qn 1 ++ ((a.keks.take 0).map kekL).flatten)) := by show Own _ _ _ _; simpa using o7
        clear o7 g7 P6 z6 k6 hB6 hs7 hz7 hp1 c6 hma hz5 hs5 hln hq8 l6
        go_loopw [5, 8] (fun v i wr => ∃ (k : Nat) (ob : Option Addr) (om od : Nat), k ≤ qn ∧ i = .int .i64 (k : Int) ∧ v = .slice ob om od ∧ Hid (Own wr (w.heap.size + 1) (.slice ob om od) (markL ++ numsL N ++ a.master ++ putL qn 1 ++ ((a.keks.take k).map kekL).flatten)) ∧ Blk wr w.heap.size (anc a p ⟨qa, qn, qc⟩) 25 ∧ Below w.heap.size w wr) (fun _ i _ => qn - (intOf i).toNat)
        case atStart => exact ⟨0, _, _, _, Nat.zero_le _, rfl, rfl, P7, z7, k7⟩
        case round =>
          clear P7 z7 k7 hlt hk
          obtain ⟨k, ob, om, od, hk, rfl, rfl, P, z2, k2⟩ := hrel
          have e7 : wr.cell? ⟨w.heap.size, 7, none⟩ = some (.slice qa qn qc) := z2.cell 7
          have f7 := z2.lt
          by_cases hlt : k < qn
          · have i1 : (k : Int) < (qn : Int) := by omega
            obtain ⟨x, hx⟩ : ∃ x, a.keks[k]? = some x := ⟨_, List.getElem?_eq_getElem (by omega)⟩
            have hck := chkK_ok (chkKs_all hks0 x (List.mem_of_getElem? hx))
            obtain ⟨b, o, s, m, c, e0, hlb, hrg0, hB, -, -⟩ := HW.out.at hx
            dsimp only at e0
            subst e0
            have hrg : wr.rangeAt b (o + k * 3) (kkc x s m c) := fun j v hj => by rw [World.cell?_of_block (w := w) (k2.block b hlb)]; exact hrg0 j v hj
            have hlb2 : b < wr.heap.size := Nat.lt_of_lt_of_le hlb k2.size
            have hsn : ((a.keks.take (k + 1)).map kekL).flatten = ((a.keks.take k).map kekL).flatten ++ kekL x := by rw [List.take_add_one, hx]; simp
            have hlt2 : (markL ++ numsL N ++ a.master ++ putL qn 1 ++ ((a.keks.take k).map kekL).flatten).length ≤ 700 := by
              have e1 : chkKs (a.keks.take k) = 0 := chkKs_take hks0 k
              have e2 := keksL_len e1
              rw [List.length_append, e2, List.length_append, List.length_append, List.length_append, numsL_len, hnl, putL_length, List.length_take]
              simp [markL]
              omega
            obtain ⟨kb, kg, kk⟩ := x
            dsimp only at hck hB
            obtain ⟨⟨kb0, kb1, kg0, kg1⟩, hkk⟩ := hck
            have HBk : Hid (Bs w s m c kk) := hB.1
            have hk32 : 0 < kk.length := by omega
            have wb : IntKind.u64.wrap kb = kb := by rw [IntKind.wrap_u64]; omega
            have wg : IntKind.u64.wrap kg = kg := by rw [IntKind.wrap_u64]; omega
            have HE : Hid (markL ++ numsL N ++ a.master ++ putL qn 1 ++ ((a.keks.take k).map kekL).flatten ++ putL kb.toNat 2 ++ putL kg.toNat 2 ++ kk = markL ++ numsL N ++ a.master ++ putL qn 1 ++ ((a.keks.take (k + 1)).map kekL).flatten) := by show _ = _; rw [hsn]; unfold kekL; simp only [List.append_assoc]
            generalize markL ++ numsL N ++ a.master ++ putL qn 1 ++ ((a.keks.take k).map kekL).flatten = LL at *
            obtain ⟨gk, hgk⟩ : ∃ gk, gk = wr.heap.size := ⟨_, rfl⟩
            have z9 : Blk (wr.alloc (.cells #[.int .i64 0, .int .i64 0, .slice none 0 0] 78)) gk [.int .i64 0, .int .i64 0, .slice none 0 0] 78 := Blk.newAt wr _ _ gk hgk.symm _ rfl
            have k9 : Below wr.heap.size wr (wr.alloc (.cells #[.int .i64 0, .int .i64 0, .slice none 0 0] 78)) := below_alloc _ _
            clear hx hsn hB hrg0
            go_wp2_with (first | ((with_reducible refine at_ld 78 ?_); (refine ld 78 (.tmp 64) 3 sizeKk _ Try.underlying78 rfl b (o + k * 3) (kkc ⟨kb, kg, kk⟩ s m c) rfl hrg rfl ?_)) | ((with_reducible refine at_st 78 ?_); (refine st' 78 (.tmp 9) (.tmp 65) 3 sizeKk wr.heap.size 0 (kkc ⟨kb, kg, kk⟩ s m c) rfl (kkc_one _ _ _ _) (by rw [← hgk]; exact z9.there 0 3 (by simp)) rfl rfl ?_); intro v5 hv5; have b5 : Blk v5 gk (kkc ⟨kb, kg, kk⟩ s m c) 78 := (by rw [hv5, ← hgk]; exact z9.setsW _ rfl); have k5 : Below wr.heap.size wr v5 := (by rw [hv5]; exact below_sets (Nat.le_refl _) _ k9 0); have y0 : v5.cell? ⟨wr.heap.size, 0, none⟩ = some (.int .i64 kb) := (by rw [← hgk]; exact b5.cell 0); have ly : wr.heap.size < v5.heap.size := (by rw [← hgk]; exact b5.lt); clear hv5))
            rw [← hgk]
            clear y0 ly z9 k9 hgk hrg
            have P5 := P.out.below k5 (Nat.le_refl _)
            have z5 := z2.below k5 z2.lt
            have f5 : Below w.heap.size w v5 := k2.trans (k5.mono k2.size)
            clear P z2 k2 k5 e7 f7
            refine (rPut 2 kb 2 v5 (by decide) (by decide) (by omega) (by omega) (by decide)).mono ?_
            rintro e u6 ⟨a6, m6, c6, rfl, o6, hb6⟩
            have P6 : PB u6 (w.heap.size + 1) (.slice ob om od) LL := Or.inl (P5.below hb6 (Nat.le_refl _))
            have d6 := b5.below hb6 b5.lt
            have z6 := z5.below hb6 z5.lt
            have f6 : Below w.heap.size w u6 := f5.trans (hb6.mono f5.size)
            have H6 : Bs u6 a6 m6 c6 (putL kb.toNat 2) := o6.toBs
            have hz7 : LL.length + (putL kb.toNat 2).length ≤ 1000000 := by rw [putL_length]; omega
            have hs7 : w.heap.size + 1 ≤ u6.heap.size := z6.lt
            have hp7 : 0 < (putL kb.toNat 2).length := by rw [putL_length]; decide
            clear o6 hb6 P5 b5 z5 f5
            go_wp2_with (at_builtin; refine wpList_appB u6 rfl (.tmp 66) (.tmp 70) rfl (w.heap.size + 1) (.slice ob om od) (LL) rfl P6 a6 m6 c6 (putL kb.toNat 2) rfl H6 hp7 hz7 hs7 ?_; intro v7 w7 o7 g7; obtain ⟨a7, m7, c7, rfl⟩ : ∃ a1 m1 c1, v7 = .slice a1 m1 c1 := (by obtain ⟨a1, c1, e1, _⟩ := o7.bs; exact ⟨_, _, _, e1⟩); have d7 := P6.blk g7 d6 (by decide); have z7 := P6.blk g7 z6 neAn5; have f7 := P6.bel g7 f6 (by omega) f6.size; have y7 : w7.cell? ⟨gk, 1, none⟩ = some (.int .i64 kg) := d7.cell 1; have ly7 := d7.lt)
            clear P6 d6 z6 f6 H6 hz7 hs7 hp7 y7 g7
            refine (rPut 2 kg 2 w7 (by decide) (by decide) (by omega) (by omega) (by decide)).mono ?_
            rintro e u8 ⟨a8, m8, c8, rfl, o8, hb8⟩
            have P8 : PB u8 (w.heap.size + 1) (.slice a7 m7 c7) (LL ++ putL kb.toNat 2) := Or.inl (o7.below hb8 (Nat.le_refl _))
            have d8 := d7.below hb8 d7.lt
            have z8 := z7.below hb8 z7.lt
            have f8 : Below w.heap.size w u8 := f7.trans (hb8.mono f7.size)
            have H8 : Bs u8 a8 m8 c8 (putL kg.toNat 2) := o8.toBs
            have hz9 : (LL ++ putL kb.toNat 2).length + (putL kg.toNat 2).length ≤ 1000000 := by rw [List.length_append, putL_length, putL_length]; omega
            have hs9 : w.heap.size + 1 ≤ u8.heap.size := z8.lt
            have hp9 : 0 < (putL kg.toNat 2).length := by rw [putL_length]; decide
            have hz11 : (LL ++ putL kb.toNat 2 ++ putL kg.toNat 2).length + kk.length ≤ 1000000 := by rw [List.length_append, List.length_append, putL_length, putL_length]; omega
            clear o8 hb8 o7 d7 z7 f7 ly7
            go_wp2_with (first | (at_builtin; refine wpList_appB u8 rfl (.tmp 72) (.tmp 76) rfl (w.heap.size + 1) (.slice a7 m7 c7) (LL ++ putL kb.toNat 2) rfl P8 a8 m8 c8 (putL kg.toNat 2) rfl H8 hp9 hz9 hs9 ?_; intro v9 w9 o9 g9; obtain ⟨a9, m9, c9, rfl⟩ : ∃ a1 m1 c1, v9 = .slice a1 m1 c1 := (by obtain ⟨a1, c1, e1, _⟩ := o9.bs; exact ⟨_, _, _, e1⟩); have d9 := P8.blk g9 d8 (by decide); have z9 := P8.blk g9 z8 neAn5; have f9 := P8.bel g9 f8 (by omega) f8.size; have y9 : w9.cell? ⟨gk, 2, none⟩ = some (.slice s m c) := d9.cell 2; have ly9 := d9.lt; have hs11 : w.heap.size + 1 ≤ w9.heap.size := z9.lt; have P9 : PB w9 (w.heap.size + 1) (.slice a9 m9 c9) (LL ++ putL kb.toNat 2 ++ putL kg.toNat 2) := Or.inl o9; have H9 := HBk.out.below f9 (Nat.le_refl _)) | (at_builtin; refine wpList_appB w9 rfl (.tmp 78) (.tmp 80) rfl (w.heap.size + 1) (.slice a9 m9 c9) (LL ++ putL kb.toNat 2 ++ putL kg.toNat 2) rfl P9 s m c (kk) rfl H9 hk32 hz11 hs11 ?_; intro v11 w11 o11 g11; obtain ⟨a11, m11, c11, rfl⟩ : ∃ a1 m1 c1, v11 = .slice a1 m1 c1 := (by obtain ⟨a1, c1, e1, _⟩ := o11.bs; exact ⟨_, _, _, e1⟩); have z11 := P9.blk g11 z9 neAn5; have f11 := P9.bel g11 f9 (by omega) f9.size))
            have PN : Hid (Own w11 (w.heap.size + 1) (.slice a11 m11 c11) (markL ++ numsL N ++ a.master ++ putL qn 1 ++ ((a.keks.take (k + 1)).map kekL).flatten)) := by rw [← HE.out]; exact o11
            clear o11 g11 P9 H9 hs11 ly9 y9 d9 z9 f9 o9 g9 P8 d8 z8 f8 H8 hz9 hs9 hp9 hz11 HE
            go_roundw
            case rel => exact ⟨k + 1, a11, m11, c11, by omega, by go_num, rfl, PN, z11, f11⟩
            case measure => simp [intOf]; omega
          · have i1 : ¬ (k : Int) < (qn : Int) := by omega
            have hE : markL ++ numsL N ++ a.master ++ putL qn 1 ++ ((a.keks.take k).map kekL).flatten = ancL a := by rw [List.take_of_length_le (by omega), HN.out, ← hkl]; rfl
            have P2 : Hid (Own wr (w.heap.size + 1) (.slice ob om od) (ancL a)) := by rw [← hE]; exact P.out
            clear hE P
            go_wp2_with fail
            go_ret2
            exact ⟨ob, om, od, rfl, P2.out.mono (by omega), k2⟩
  · rw [if_neg hc]
    have bc : (chkA a == 0) = false := by simp [hc]
    generalize chkA a = cd at *
    clear h hc
    go_enter Try.func10, Try.ntmps10
    go_wp2_with ((with_reducible refine at_ld 25 ?_); (refine ld 25 (.tmp 1) 8 sizeAn _ Try.underlying25 rfl w.heap.size 0 (anc a p ⟨qa, qn, qc⟩) rfl (by rw [← hW0]; exact z0.whole) rfl ?_))
    rw [← hW0]
    clear hW0
    refine CC.out.mono ?_
    rintro e w1 ⟨rfl, hb1⟩
    have k1 : Below w.heap.size w w1 := k0.trans (hb1.mono k0.size)
    clear CC hb1 k0 z0
    go_wp2_with fail
    go_ret2
    exact ⟨none, 0, 0, rfl, Own.nil _ _, k1⟩

end Go.Proofs.Ytbifikeecmaakaa

/-
  Layer 14's first statement: bytes that were handed in. No condition.
-/
namespace Go.Proofs.Ytbifikeecmaakaa
open Go.RowKit

theorem BAin {w u : World} {a : Option Addr} {n c : Nat} {l : List UInt8} (h : Bs w a n c l) (hu : Below w.heap.size w u) : BA (fun j => j < w.heap.size) u a n c l :=
  ⟨h.below hu (Nat.le_refl _), fun hn => by
    obtain ⟨b, o, ha, hlt, _⟩ := h.at hn
    exact ⟨_, ha, hlt, Nat.lt_of_lt_of_le hlt hu.size⟩⟩

end Go.Proofs.Ytbifikeecmaakaa

/-
  The contracts of layer 14's program's Save, Clean, Commit and Give once more: the keeper's anchor lies in none of the blocks V, and so it stays. Conditions: fewer than 5000 writes.
-/
namespace Go.Proofs.Ytbifikeecmaakaa
open Go.RowKit

def SaveV (V : Nat → Prop) (w : World) (k c r : Nat) (K : KepS) (a : AncS) (e : Ending) (w' : World) : Prop := ∃ p q, e = .returned (.int .i64 (K.save a).2) ∧ Kk w' k c r (K.save a).1 p q ∧ Kp (Fk k c r) w w' ∧ Anc (fun j => ¬ Fk k c r j ∧ ¬ V j) w' (K.save a).1.last p q
def MovV (V : Nat → Prop) (w : World) (k c r : Nat) (x : KepS × Int) (e : Ending) (w' : World) : Prop := ∃ p q, e = .returned (.int .i64 x.2) ∧ Kk w' k c r x.1 p q ∧ Kp (Fk k c r) w w' ∧ Anc (fun j => ¬ Fk k c r j ∧ ¬ V j) w' x.1.last p q
def GivV (V : Nat → Prop) (w : World) (k c r : Nat) (x : KepS × Int × Int) (e : Ending) (w' : World) : Prop := ∃ p q, e = .returned (.tuple #[.int .i64 x.2.1, .int .i64 x.2.2]) ∧ Kk w' k c r x.1 p q ∧ Kp (Fk k c r) w w' ∧ Anc (fun j => ¬ Fk k c r j ∧ ¬ V j) w' x.1.last p q
set_option maxRecDepth 100000 in
set_option maxHeartbeats 4000000 in
theorem oKSaveV (w : World) {k c r : Nat} {K : KepS} {p q : Tri} (h : Kk w k c r K p q) {mm : Nat} (hf : K.c.fit mm) (hmm : mm ≤ 5000) {V A : Nat → Prop} {a : AncS} {p' q' : Tri} (ha : Anc A w a p' q') (hA : ∀ j, A j → ¬ Fk k c r j ∧ ¬ V j) (hV : ∀ j, V j → j < w.heap.size) (hv : Anc (fun j => ¬ Fk k c r j ∧ ¬ V j) w K.last p q) : Calls Try.prog 26 #[.pointer (some ⟨k, 0, none⟩), anV a p' q'] w (SaveV V w k c r K a) := by
  have hsq := h.ok.seq
  have hx : Anc (fun j => (¬ Fk k c r j ∧ ¬ V j) ∧ j < w.heap.size) w (nextA K a) p' q' := (ha.mono fun j hj hh => ⟨hA j hh, hj⟩).nums rfl rfl (nextA_nums h.ok ha.ns)
  obtain ⟨x, hxe⟩ : ∃ x, x = nextA K a := ⟨_, rfl⟩
  rw [← hxe] at hx
  have hx0 : x.seq = K.last.seq + 1 := by rw [hxe]; rfl
  have HC : Hid (anc x p' q' = .int .i64 (K.last.seq + 1) :: (anc a p' q').drop 1) := by rw [hxe]; rfl
  have HS : Hid (K.save a = if chkA x ≠ 0 then (K, chkA x) else if (K.c.write (x.seq % 2) (ancL x)).2 ≠ 0 then (⟨(K.c.write (x.seq % 2) (ancL x)).1, K.last⟩, (K.c.write (x.seq % 2) (ancL x)).2) else (⟨(K.c.write (x.seq % 2) (ancL x)).1, x⟩, 0)) := by rw [hxe]; rfl
  unfold SaveV
  generalize K.save a = out at *
  clear hxe
  obtain ⟨W0, hW0⟩ : ∃ W0, W0 = w.alloc (.cells (anc a p' q').toArray 25) := ⟨_, rfl⟩
  have z0 : Blk W0 w.heap.size (anc a p' q') 25 := by rw [hW0]; exact Blk.newAt w _ _ w.heap.size rfl _ rfl
  have k0 : Below w.heap.size w W0 := by rw [hW0]; exact below_alloc _ _
  have c1 : W0.cell? ⟨k, 1, none⟩ = some (.int .i64 K.last.seq) := (h.grow k0).b.cell 1
  have hlk := (h.grow k0).b.lt
  have hlk0 := h.b.lt
  have hF : ∀ j, Fk k c r j → j < w.heap.size := h.lt
  have d0 : W0.cell? ⟨w.heap.size, 0, none⟩ = some (.int .i64 a.seq) := z0.cell 0
  have e0 := z0.free 0
  have l0 := z0.lt
  have y0 := z0.setC 0 (.int .i64 (K.last.seq + 1))
  rw [show (anc a p' q').set 0 (.int .i64 (K.last.seq + 1)) = anc x p' q' from by rw [HC.out]; rfl] at y0
  have k1 : Below w.heap.size w (W0.setCell ⟨w.heap.size, 0, none⟩ (.int .i64 (K.last.seq + 1))) := k0.setCell (Nat.le_refl _) _
  have s1 : w.heap.size < (W0.setCell ⟨w.heap.size, 0, none⟩ (.int .i64 (K.last.seq + 1))).heap.size := y0.lt
  have CP : Hid (Calls Try.prog 9 #[.agg (anc x p' q').toArray] (W0.setCell ⟨w.heap.size, 0, none⟩ (.int .i64 (K.last.seq + 1))) fun e w' => ∃ s m c, e = .returned (.tuple #[.slice s m c, .int .i64 (chkA x)]) ∧ Own w' (W0.setCell ⟨w.heap.size, 0, none⟩ (.int .i64 (K.last.seq + 1))).heap.size (.slice s m c) (if chkA x = 0 then ancL x else []) ∧ Below (W0.setCell ⟨w.heap.size, 0, none⟩ (.int .i64 (K.last.seq + 1))).heap.size (W0.setCell ⟨w.heap.size, 0, none⟩ (.int .i64 (K.last.seq + 1))) w') := oPutA _ (hx.below k1)
  have HK : Hid (Kk w k c r K p q) := h
  have HX : Hid (Anc (fun j => (¬ Fk k c r j ∧ ¬ V j) ∧ j < w.heap.size) w x p' q') := hx
  have HVl : Hid (∀ j, V j → j < w.heap.size) := hV
  have HVA : Hid (Anc (fun j => ¬ Fk k c r j ∧ ¬ V j) w K.last p q) := hv
  have HFk : Hid (∀ j, Fk k c r j → j < w.heap.size) := hF
  obtain ⟨t2, ht2⟩ : ∃ t2, t2 = x.seq % 2 := ⟨_, rfl⟩
  have htm : x.seq.tmod 2 = t2 := by rw [ht2, Int.tmod_eq_emod_of_nonneg (by omega)]
  have hti : i64 t2 := ⟨by omega, by omega⟩
  rw [← ht2] at HS
  have hnc := h.nc
  have hnr := h.nr
  have hnw : ¬ w.heap.size = c ∧ ¬ w.heap.size = r := ⟨fun e => by have := hF c (Or.inr (Or.inl rfl)); omega, fun e => by have := hF r (Or.inr (Or.inr rfl)); omega⟩
  have hb1 : K.last.seq + 1 ≤ 9223372036854775807 := by omega
  have hb2 : -9223372036854775808 ≤ K.last.seq + 1 := by omega
  have hkw : ¬ k = w.heap.size := by omega
  clear h hx hF ha hV hv z0 k0 ht2 HC hx0
  unfold anV
  go_enter Try.func26, Try.ntmps26
  go_upto_region 1 with fail
  rw [← hW0]
  clear hW0
  go_wp2_with ((with_reducible refine at_ld 25 ?_); (refine ld 25 (.tmp 3) 8 sizeAn _ Try.underlying25 rfl w.heap.size 0 (anc x p' q') rfl y0.whole rfl ?_))
  generalize W0.setCell ⟨w.heap.size, 0, none⟩ (.int .i64 (K.last.seq + 1)) = W1 at *
  refine CP.out.mono ?_
  rintro e w2 ⟨s, m, z, rfl, o2, hb2'⟩
  have k2 : Below w.heap.size w w2 := k1.trans (hb2'.mono (by omega))
  have y2 := y0.below hb2' y0.lt
  clear CP c1 hlk d0 e0 l0 hb1 hb2
  by_cases hc : chkA x = 0
  · rw [if_pos hc] at o2
    rw [hc] at HS ⊢
    have B2 : BA (fun j => ¬ UC c r j) w2 s m z (ancL x) := ((o2.b5 (A := fun j => W1.heap.size ≤ j) (fun j hj _ => hj)).ba).mono (fun j _ hj hu => by have := HFk.out j (Or.inr hu); omega)
    have K2 := HK.out.grow k2
    have CW : Hid (Calls Try.prog 59 #[.pointer (some ⟨k, 0, none⟩), .int .i64 t2, .slice s m z] w2 fun e w' => e = .returned (.int .i64 (K.c.write t2 (ancL x)).2) ∧ Ck (UC c r) (UC c r) w' c r (K.c.write t2 (ancL x)).1 ∧ Kp (UC c r) w2 w') := oKPut w2 K2 hf hmm t2 hti B2
    have X2 := HX.out.below k2
    have g0 : w2.cell? ⟨w.heap.size, 0, none⟩ = some (.int .i64 x.seq) := y2.cell 0
    have l2 := y2.lt
    have HS' : Hid (out = if (K.c.write t2 (ancL x)).2 ≠ 0 then (⟨(K.c.write t2 (ancL x)).1, K.last⟩, (K.c.write t2 (ancL x)).2) else (⟨(K.c.write t2 (ancL x)).1, x⟩, 0)) := by show _ = _; rw [HS.out, if_neg (by simp)]
    have hsm := (show okA x from Or.inl hc).small
    have HOK : Hid (okA x) := Or.inl hc
    generalize K.c.write t2 (ancL x) = cw at *
    clear HS B2 o2 hb2' hf
    go_wp2_with fail
    refine CW.out.mono ?_
    rintro e w3 ⟨rfl, ck3, kp3⟩
    have K3b : Blk w3 k (.pointer (some ⟨c, 0, none⟩) :: anc K.last p q) 114 := kp3.blk K2.b (fun e => e.elim hnc hnr)
    have K3a : Anc (fun j => ¬ Fk k c r j) w3 K.last p q := K2.an.kp kp3 (fun j hj hu => hj (Or.inr hu))
    have y3 := kp3.blk y2 (fun e => e.elim hnw.1 hnw.2)
    have X3 := X2.kp kp3 (fun j hj hu => hj.1.1 (Or.inr hu))
    have q3 : Kp (Fk k c r) w w3 := (Kp.of_below k2).trans (kp3.mono fun j _ hj => Or.inr hj)
    have l3 := y3.lt
    have lk3 := K3b.lt
    have hfr := K3b.free
    clear CW K2 X2 y2 kp3 g0
    by_cases hw : cw.2 = 0
    · have bw : (cw.2 == 0) = true := by simp [hw]
      have HO : Hid (out = (⟨cw.1, x⟩, 0)) := by show _ = _; rw [HS'.out, if_neg (by rw [hw]; simp)]
      have CC : Hid (Calls Try.prog 18 #[.agg (anc x p' q').toArray] w3 fun e w' => ∃ p1 q1, e = .returned (anV x p1 q1) ∧ Anc (fun j => ((¬ Fk k c r j ∧ ¬ V j) ∧ j < w.heap.size) ∨ w3.heap.size ≤ j) w' x p1 q1 ∧ Below w3.heap.size w3 w') := oCopyA w3 X3 (by rw [← X3.ml]; omega) (by rw [← X3.kl]; omega) (fun y hy => by have := hsm.2.2 y hy; omega)
      rw [hw]
      clear HS' bw hw K3a X3 hsm
      go_wp2_with ((with_reducible refine at_ld 25 ?_); (refine ld 25 (.tmp 3) 8 sizeAn _ Try.underlying25 rfl w.heap.size 0 (anc x p' q') rfl y3.whole rfl ?_))
      refine CC.out.mono ?_
      rintro e w4 ⟨p4, q4, rfl, an4, hb4⟩
      have K4b := K3b.below hb4 K3b.lt
      have ck4 := ck3.keep (G := fun _ => False) (Kp.of_below hb4) (fun _ _ h => h)
      have q4' : Kp (Fk k c r) w w4 := q3.trans (Kp.of_below hb4)
      have l4 := K4b.lt
      have HL3 : Hid (w.heap.size ≤ w3.heap.size) := q3.size
      unfold anV
      clear CC K3b y3 ck3 q3 hb4 hfr
      go_wp2_with ((with_reducible refine at_st 25 ?_); (refine st' 25 (.tmp 36) (.tmp 34) 8 sizeAn k 1 (anc x p4 q4) rfl (anc_one _ _ _) (K4b.there 1 8 (by simp [anc])) rfl rfl ?_); intro w8 hw8; have b8 := K4b.sets (anc x p4 q4) 1 (by simp [anc]); rw [keep_put (by simp [anc]) (by simp [anc]), ← hw8] at b8; have g8 : Kp (fun j => j = k) w4 w8 := (by rw [hw8]; exact Kp.of_grown (but_cells' _ _ _ _)); clear hw8)
      go_ret
      rw [HO.out]
      have hn4 : ∀ j, ((¬ Fk k c r j ∧ ¬ V j) ∧ j < w.heap.size) ∨ w3.heap.size ≤ j → ¬ Fk k c r j ∧ ¬ V j := fun j hj => by
        have h3 := HL3.out
        rcases hj with hj | hj
        · exact hj.1
        · exact ⟨fun hu => by have := HFk.out j hu; omega, fun hu => by have := HVl.out j hu; omega⟩
      have AN : Anc (fun j => ¬ Fk k c r j ∧ ¬ V j) w8 x p4 q4 := (an4.mono fun j _ hj => hn4 j hj).kp g8 (fun j hj e => hj.1 (Or.inl e))
      exact ⟨p4, q4, rfl, ⟨ck4.keep g8 (fun j hj e => by rcases hj with hj | hj; exact hnc (e.symm.trans hj); exact hnr (e.symm.trans hj)), b8, AN.mono (fun _ _ hj => hj.1), hnc, hnr, HOK.out⟩, q4'.trans (g8.mono fun j _ e => Or.inl e), AN⟩
    · have bw : (cw.2 == 0) = false := by simp [hw]
      have HO : Hid (out = (⟨cw.1, K.last⟩, cw.2)) := by show _ = _; rw [HS'.out, if_pos hw]
      generalize hcd : cw.2 = cd at *
      clear HS' hw hcd X3 y3 hfr
      go_wp2_with fail
      go_ret
      rw [HO.out]
      exact ⟨p, q, rfl, ⟨ck3, K3b, K3a, hnc, hnr, HK.out.ok⟩, q3, HVA.out.kp q3 (fun j hj hu => hj.1 hu)⟩
  · have bc : (chkA x == 0) = false := by simp [hc]
    have HO : Hid (out = (K, chkA x)) := by show _ = _; rw [HS.out, if_pos hc]
    generalize chkA x = cd at *
    clear HS hc o2 y2 hb2'
    go_wp2_with fail
    go_ret
    rw [HO.out]
    exact ⟨p, q, rfl, HK.out.grow k2, Kp.of_below k2, HVA.out.below k2⟩

set_option maxRecDepth 100000 in
set_option maxHeartbeats 4000000 in
theorem oKCleanV (w : World) {k c r : Nat} {K : KepS} {p q : Tri} (h : Kk w k c r K p q) {mm : Nat} (hf : K.c.fit mm) (hmm : mm ≤ 5000) {V : Nat → Prop} (hV : ∀ j, V j → j < w.heap.size) (hv : Anc (fun j => ¬ Fk k c r j ∧ ¬ V j) w K.last p q) : Calls Try.prog 32 #[.pointer (some ⟨k, 0, none⟩)] w (MovV V w k c r K.clean) := by
  have HVA : Hid (Anc (fun j => ¬ Fk k c r j ∧ ¬ V j) w K.last p q) := hv
  have CN := oKCounts w h
  unfold KepS.clean
  cases hh : K.has with
  | false =>
    rw [if_pos rfl]
    rw [hh] at CN
    have HK : Hid (Kk w k c r K p q) := h
    clear h hV hv hf hh
    go_enter Try.func32, Try.ntmps32
    go_wp2_with fail
    refine CN.mono ?_
    rintro e w1 ⟨rfl, rfl⟩
    go_wp2_with fail
    go_ret
    exact ⟨p, q, rfl, HK.out, Kp.refl _ _, HVA.out⟩
  | true =>
    rw [if_neg (by simp)]
    rw [hh] at CN
    obtain ⟨W0, hW0⟩ : ∃ W0, W0 = w.alloc (.cells #[.int .i64 0, .int .i64 0, .int .i64 0, .int .i64 0, .int .i64 0, .int .i64 0, .slice none 0 0, .slice none 0 0] 25) := ⟨_, rfl⟩
    have z0 : Blk W0 w.heap.size zanc 25 := by rw [hW0]; exact Blk.newAt w _ _ w.heap.size rfl _ rfl
    have k0 : Below w.heap.size w W0 := by rw [hW0]; exact below_alloc _ _
    have rg := h.rg
    have hlk := h.b.lt
    have HS : Hid (∀ u, Below w.heap.size w u → Calls Try.prog 26 #[.pointer (some ⟨k, 0, none⟩), .agg (anc K.cleaned p q).toArray] u (SaveV V u k c r K K.cleaned)) := fun u hu => oKSaveV u (h.grow hu) hf hmm (A := fun j => ¬ Fk k c r j ∧ ¬ V j) (a := K.cleaned) (p' := p) (q' := q) ((hv.below hu).nums rfl rfl ⟨h.an.ns.1, h.an.ns.2.1, h.an.ns.2.2.1, h.an.ns.2.2.2.1, h.an.ns.2.2.2.2.1, i64_0⟩) (fun _ hj => hj) (fun j hj => Nat.lt_of_lt_of_le (hV j hj) hu.size) (hv.below hu)
    have HC : Hid (anc K.cleaned p q = (anc K.last p q).set 5 (.int .i64 0)) := rfl
    clear h hV hv hf hh
    go_enter Try.func32, Try.ntmps32
    go_wp2_with fail
    refine CN.mono ?_
    rintro e w1 ⟨rfl, rfl⟩
    go_wp2_with (first
      | ((with_reducible refine at_ld 25 ?_); (first | (refine ld 25 (.tmp 9) 8 sizeAn _ Try.underlying25 rfl k 1 (anc K.last p q) rfl rg rfl ?_) | (refine ld 25 (.tmp 3) 8 sizeAn _ Try.underlying25 rfl w.heap.size 0 (anc K.cleaned p q) rfl y5.whole rfl ?_)))
      | ((with_reducible refine at_st 25 ?_); (refine st' 25 (.tmp 3) (.tmp 10) 8 sizeAn w.heap.size 0 (anc K.last p q) rfl (anc_one _ _ _) (by rw [← hW0]; exact z0.there 0 8 (by simp [zanc])) rfl rfl ?_); intro w4 hw4; have b4 : Blk w4 w.heap.size (anc K.last p q) 25 := (by rw [hw4, ← hW0]; exact z0.setsW _ rfl); have k4 : Below w.heap.size w w4 := (by rw [hw4, ← hW0]; exact below_sets (Nat.le_refl _) _ k0 0); have d5 : w4.cell? ⟨w.heap.size, 5, none⟩ = some (.int .i64 K.last.pending) := b4.cell 5; have e5 := b4.free 5; have l5 := b4.lt; have y5 : Blk (w4.setCell ⟨w.heap.size, 5, none⟩ (.int .i64 0)) w.heap.size (anc K.cleaned p q) 25 := (by rw [HC.out]; exact b4.setC 5 _); have k5 : Below w.heap.size w (w4.setCell ⟨w.heap.size, 5, none⟩ (.int .i64 0)) := k4.setCell (Nat.le_refl _) _; clear hw4))
    refine (HS.out _ k5).mono ?_
    rintro e w6 ⟨p6, q6, rfl, K6, kp6, AN6⟩
    have HQ : Hid (Kp (Fk k c r) w w6) := (Kp.of_below k5).trans kp6
    generalize K.save K.cleaned = out at *
    clear HS kp6 y5 k5 d5 e5 l5 b4 k4 z0 k0 rg
    go_wp2_with fail
    go_ret
    exact ⟨p6, q6, rfl, K6, HQ.out, AN6⟩

set_option maxRecDepth 100000 in
set_option maxHeartbeats 4000000 in
theorem oKCommitV (w : World) {k c r : Nat} {K : KepS} {p q : Tri} (h : Kk w k c r K p q) {mm : Nat} (hf : K.c.fit mm) (hmm : mm ≤ 5000) {V : Nat → Prop} (hV : ∀ j, V j → j < w.heap.size) (hv : Anc (fun j => ¬ Fk k c r j ∧ ¬ V j) w K.last p q) (ep ro pe : Int) (he : i64 ep) (hr : i64 ro) (hp : i64 pe) : Calls Try.prog 30 #[.pointer (some ⟨k, 0, none⟩), .int .i64 ep, .int .i64 ro, .int .i64 pe] w (MovV V w k c r (K.commit ep ro pe)) := by
  have HVA : Hid (Anc (fun j => ¬ Fk k c r j ∧ ¬ V j) w K.last p q) := hv
  obtain ⟨W0, hW0⟩ : ∃ W0, W0 = w.alloc (.cells #[.int .i64 0, .int .i64 0, .int .i64 0, .int .i64 0, .int .i64 0, .int .i64 0, .slice none 0 0, .slice none 0 0] 25) := ⟨_, rfl⟩
  have z0 : Blk W0 w.heap.size zanc 25 := by rw [hW0]; exact Blk.newAt w _ _ w.heap.size rfl _ rfl
  have k0 : Below w.heap.size w W0 := by rw [hW0]; exact below_alloc _ _
  have rg := h.rg
  have hlk := h.b.lt
  have HK : Hid (Kk w k c r K p q) := h
  have CN : Hid (∀ u, Below w.heap.size w u → Calls Try.prog 60 #[.pointer (some ⟨k, 0, none⟩)] u fun e w' => e = .returned (.bool K.has) ∧ u = w') := fun u hu => oKCounts u (h.grow hu)
  have HS : Hid (∀ u, Below w.heap.size w u → Calls Try.prog 26 #[.pointer (some ⟨k, 0, none⟩), .agg (anc (K.committed ep ro pe) p q).toArray] u (SaveV V u k c r K (K.committed ep ro pe))) := fun u hu => oKSaveV u (h.grow hu) hf hmm (A := fun j => ¬ Fk k c r j ∧ ¬ V j) (a := K.committed ep ro pe) (p' := p) (q' := q) ((hv.below hu).nums rfl rfl ⟨h.an.ns.1, he, h.an.ns.2.2.1, hr, he, hp⟩) (fun _ hj => hj) (fun j hj => Nat.lt_of_lt_of_le (hV j hj) hu.size) (hv.below hu)
  have HC : Hid (anc (K.committed ep ro pe) p q = ((((anc K.last p q).set 1 (.int .i64 ep)).set 3 (.int .i64 ro)).set 4 (.int .i64 ep)).set 5 (.int .i64 pe)) := rfl
  have HM : Hid (K.commit ep ro pe = if K.has = false ∨ ep ≤ K.last.epoch ∨ K.last.given < ep then (K, 15) else K.save (K.committed ep ro pe)) := rfl
  unfold MovV
  generalize K.commit ep ro pe = out at *
  clear h hV hv hf he hr hp
  go_enter Try.func30, Try.ntmps30
  go_wp2_with (first
    | ((with_reducible refine at_ld 25 ?_); (refine ld 25 (.tmp 12) 8 sizeAn _ Try.underlying25 rfl k 1 (anc K.last p q) rfl rg rfl ?_))
    | ((with_reducible refine at_st 25 ?_); (refine st' 25 (.tmp 9) (.tmp 13) 8 sizeAn w.heap.size 0 (anc K.last p q) rfl (anc_one _ _ _) (by rw [← hW0]; exact z0.there 0 8 (by simp [zanc])) rfl rfl ?_); intro w4 hw4; have b4 : Blk w4 w.heap.size (anc K.last p q) 25 := (by rw [hw4, ← hW0]; exact z0.setsW _ rfl); have k4 : Below w.heap.size w w4 := (by rw [hw4, ← hW0]; exact below_sets (Nat.le_refl _) _ k0 0); clear hw4))
  have c1 : w4.cell? ⟨w.heap.size, 1, none⟩ = some (.int .i64 K.last.epoch) := b4.cell 1
  have c2 : w4.cell? ⟨w.heap.size, 2, none⟩ = some (.int .i64 K.last.given) := b4.cell 2
  have c3 : w4.cell? ⟨w.heap.size, 3, none⟩ = some (.int .i64 K.last.root) := b4.cell 3
  have c4 : w4.cell? ⟨w.heap.size, 4, none⟩ = some (.int .i64 K.last.rootEpoch) := b4.cell 4
  have c5 : w4.cell? ⟨w.heap.size, 5, none⟩ = some (.int .i64 K.last.pending) := b4.cell 5
  have l4 := b4.lt
  have e1 := b4.free 1
  have e3 := b4.free 3
  have e4 := b4.free 4
  have e5 := b4.free 5
  have y5 := (((b4.setC 1 (.int .i64 ep)).setC 3 (.int .i64 ro)).setC 4 (.int .i64 ep)).setC 5 (.int .i64 pe)
  rw [← HC.out] at y5
  have k5 : Below w.heap.size w ((((w4.setCell ⟨w.heap.size, 1, none⟩ (.int .i64 ep)).setCell ⟨w.heap.size, 3, none⟩ (.int .i64 ro)).setCell ⟨w.heap.size, 4, none⟩ (.int .i64 ep)).setCell ⟨w.heap.size, 5, none⟩ (.int .i64 pe)) := (((k4.setCell (Nat.le_refl _) _).setCell (Nat.le_refl _) _).setCell (Nat.le_refl _) _).setCell (Nat.le_refl _) _
  refine (CN.out w4 k4).mono ?_
  rintro e w1 ⟨rfl, rfl⟩
  have K4 : Hid (Kk w4 k c r K p q) := HK.out.grow k4
  clear CN z0 k0 rg hW0 HC
  generalize K.last.epoch = le at *
  generalize K.last.given = lg at *
  generalize K.has = hs at *
  cases hs with
  | false =>
    have HO : Hid (out = (K, 15)) := by show _ = _; rw [HM.out, if_pos (Or.inl rfl)]
    clear HM HS y5 k5
    go_wp2_with fail
    go_ret
    rw [HO.out]
    exact ⟨p, q, rfl, K4.out, Kp.of_below k4, HVA.out.below k4⟩
  | true =>
    by_cases h1 : ep ≤ le
    · have HO : Hid (out = (K, 15)) := by show _ = _; rw [HM.out, if_pos (Or.inr (Or.inl h1))]
      clear HM HS y5 k5
      go_wp2_with fail
      go_ret
      rw [HO.out]
      exact ⟨p, q, rfl, K4.out, Kp.of_below k4, HVA.out.below k4⟩
    · by_cases h2 : lg < ep
      · have HO : Hid (out = (K, 15)) := by show _ = _; rw [HM.out, if_pos (Or.inr (Or.inr h2))]
        clear HM HS y5 k5
        go_wp2_with fail
        go_ret
        rw [HO.out]
        exact ⟨p, q, rfl, K4.out, Kp.of_below k4, HVA.out.below k4⟩
      · have HO : Hid (out = K.save (K.committed ep ro pe)) := by show _ = _; rw [HM.out, if_neg (by simp; omega)]
        clear HM
        go_wp2_with ((with_reducible refine at_ld 25 ?_); (refine ld 25 (.tmp 9) 8 sizeAn _ Try.underlying25 rfl w.heap.size 0 (anc (K.committed ep ro pe) p q) rfl y5.whole rfl ?_))
        refine (HS.out _ k5).mono ?_
        rintro e w6 ⟨p6, q6, rfl, K6, kp6, AN6⟩
        have HQ : Hid (Kp (Fk k c r) w w6) := (Kp.of_below k5).trans kp6
        generalize K.save (K.committed ep ro pe) = sv at *
        clear HS kp6 y5 k5 c1 c2 c3 c4 c5 e1 e3 e4 e5 b4
        go_wp2_with fail
        go_ret
        rw [HO.out]
        exact ⟨p6, q6, rfl, K6, HQ.out, AN6⟩

set_option maxRecDepth 100000 in
set_option maxHeartbeats 4000000 in
theorem oKGiveV (w : World) {k c r : Nat} {K : KepS} {p q : Tri} (h : Kk w k c r K p q) {mm : Nat} (hf : K.c.fit mm) (hmm : mm ≤ 5000) {V : Nat → Prop} (hV : ∀ j, V j → j < w.heap.size) (hv : Anc (fun j => ¬ Fk k c r j ∧ ¬ V j) w K.last p q) : Calls Try.prog 28 #[.pointer (some ⟨k, 0, none⟩)] w (GivV V w k c r K.give) := by
  have HVA : Hid (Anc (fun j => ¬ Fk k c r j ∧ ¬ V j) w K.last p q) := hv
  have CN := oKCounts w h
  have HM : Hid (K.give = if K.has = false then (K, 0, 9) else if (K.save K.given).2 ≠ 0 then ((K.save K.given).1, 0, (K.save K.given).2) else ((K.save K.given).1, K.last.given + 1, 0)) := rfl
  unfold GivV
  generalize K.give = out at *
  cases hh : K.has with
  | false =>
    have HO : Hid (out = (K, 0, 9)) := by show _ = _; rw [HM.out, if_pos hh]
    rw [hh] at CN
    have HK : Hid (Kk w k c r K p q) := h
    clear h hV hv hf hh HM
    go_enter Try.func28, Try.ntmps28
    go_wp2_with fail
    refine CN.mono ?_
    rintro e w1 ⟨rfl, rfl⟩
    go_wp2_with fail
    refine bodyPost_ret (v := .tuple #[.int .i64 0, .int .i64 9]) (by simp [results, Try.results28, go_sem]) rfl ?_
    rw [HO.out]
    exact ⟨p, q, rfl, HK.out, Kp.refl _ _, HVA.out⟩
  | true =>
    rw [hh] at CN
    obtain ⟨W0, hW0⟩ : ∃ W0, W0 = w.alloc (.cells #[.int .i64 0, .int .i64 0, .int .i64 0, .int .i64 0, .int .i64 0, .int .i64 0, .slice none 0 0, .slice none 0 0] 25) := ⟨_, rfl⟩
    have z0 : Blk W0 w.heap.size zanc 25 := by rw [hW0]; exact Blk.newAt w _ _ w.heap.size rfl _ rfl
    have k0 : Below w.heap.size w W0 := by rw [hW0]; exact below_alloc _ _
    have rg := h.rg
    have hlk := h.b.lt
    have hgv := h.ok.given
    have hnw : ¬ Fk k c r w.heap.size := fun hu => by have := h.lt _ hu; omega
    have HS : Hid (∀ u, Below w.heap.size w u → Calls Try.prog 26 #[.pointer (some ⟨k, 0, none⟩), .agg (anc K.given p q).toArray] u (SaveV V u k c r K K.given)) := fun u hu => oKSaveV u (h.grow hu) hf hmm (A := fun j => ¬ Fk k c r j ∧ ¬ V j) (a := K.given) (p' := p) (q' := q) ((hv.below hu).nums rfl rfl ⟨h.an.ns.1, h.an.ns.2.1, ⟨by show _ ≤ K.last.given + 1; omega, by show K.last.given + 1 ≤ _; omega⟩, h.an.ns.2.2.2.1, h.an.ns.2.2.2.2.1, h.an.ns.2.2.2.2.2⟩) (fun _ hj => hj) (fun j hj => Nat.lt_of_lt_of_le (hV j hj) hu.size) (hv.below hu)
    have HC : Hid (anc K.given p q = (anc K.last p q).set 2 (.int .i64 (K.last.given + 1))) := rfl
    have HM2 : Hid (out = if (K.save K.given).2 ≠ 0 then ((K.save K.given).1, 0, (K.save K.given).2) else ((K.save K.given).1, K.last.given + 1, 0)) := by show _ = _; rw [HM.out, if_neg (by rw [hh]; simp)]
    have b1 : K.last.given + 1 ≤ 9223372036854775807 := by omega
    have b2 : -9223372036854775808 ≤ K.last.given + 1 := by omega
    clear h hV hv hf hh HM hgv
    go_enter Try.func28, Try.ntmps28
    go_wp2_with fail
    refine CN.mono ?_
    rintro e w1 ⟨rfl, rfl⟩
    go_wp2_with (first
      | ((with_reducible refine at_ld 25 ?_); (first | (refine ld 25 (.tmp 11) 8 sizeAn _ Try.underlying25 rfl k 1 (anc K.last p q) rfl rg rfl ?_) | (refine ld 25 (.tmp 4) 8 sizeAn _ Try.underlying25 rfl w.heap.size 0 (anc K.given p q) rfl y5.whole rfl ?_)))
      | ((with_reducible refine at_st 25 ?_); (refine st' 25 (.tmp 4) (.tmp 12) 8 sizeAn w.heap.size 0 (anc K.last p q) rfl (anc_one _ _ _) (by rw [← hW0]; exact z0.there 0 8 (by simp [zanc])) rfl rfl ?_); intro w4 hw4; have b4 : Blk w4 w.heap.size (anc K.last p q) 25 := (by rw [hw4, ← hW0]; exact z0.setsW _ rfl); have k4 : Below w.heap.size w w4 := (by rw [hw4, ← hW0]; exact below_sets (Nat.le_refl _) _ k0 0); have d5 : w4.cell? ⟨w.heap.size, 2, none⟩ = some (.int .i64 K.last.given) := b4.cell 2; have e5 := b4.free 2; have l5 := b4.lt; have y5 : Blk (w4.setCell ⟨w.heap.size, 2, none⟩ (.int .i64 (K.last.given + 1))) w.heap.size (anc K.given p q) 25 := (by rw [HC.out]; exact b4.setC 2 _); have k5 : Below w.heap.size w (w4.setCell ⟨w.heap.size, 2, none⟩ (.int .i64 (K.last.given + 1))) := k4.setCell (Nat.le_refl _) _; clear hw4))
    refine (HS.out _ k5).mono ?_
    rintro e w6 ⟨p6, q6, rfl, K6, kp6, AN6⟩
    have HQ : Hid (Kp (Fk k c r) w w6) := (Kp.of_below k5).trans kp6
    have y6 := kp6.blk y5 hnw
    have d6 : w6.cell? ⟨w.heap.size, 2, none⟩ = some (.int .i64 (K.last.given + 1)) := y6.cell 2
    have l6 := y6.lt
    generalize K.save K.given = sv at *
    generalize K.last.given = lg at *
    clear HS kp6 y5 k5 d5 e5 l5 b4 k4 z0 k0 rg y6
    by_cases hc : sv.2 = 0
    · have HO : Hid (out = (sv.1, lg + 1, 0)) := by show _ = _; rw [HM2.out, if_neg (by rw [hc]; simp)]
      rw [hc]
      clear HM2 hc
      go_wp2_with fail
      refine bodyPost_ret (v := .tuple #[.int .i64 (lg + 1), .int .i64 0]) (by simp [results, Try.results28, go_sem]) rfl ?_
      rw [HO.out]
      exact ⟨p6, q6, rfl, K6, HQ.out, AN6⟩
    · have HO : Hid (out = (sv.1, 0, sv.2)) := by show _ = _; rw [HM2.out, if_pos hc]
      have bc : (sv.2 == 0) = false := by simp [hc]
      generalize sv.2 = cd at *
      clear HM2 hc d6
      go_wp2_with fail
      refine bodyPost_ret (v := .tuple #[.int .i64 0, .int .i64 cd]) (by simp [results, Try.results28, go_sem]) rfl ?_
      rw [HO.out]
      exact ⟨p6, q6, rfl, K6, HQ.out, AN6⟩


end Go.Proofs.Ytbifikeecmaakaa
