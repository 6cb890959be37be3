/-
  The contract of Write: more bytes come to a state. Conditions: the package's constants lie where they were laid; the bytes do not lie in the state's own block; at most 1000000 bytes come in all.
-/
import Derived.Test.YtpmdjailpdajkaaDoorStep
namespace Go.Proofs.YtpmdjailpdajkaaDoor
open Go.RowKit

def lenV : Value → Nat
  | .slice _ n _ => n
  | _ => 0

theorem cutR (r p : Nat) (hp : p < 64) (w : World) : Sem.run Tryd.prog (Instr.sliceAt 41 (.pointer (some ⟨r, 8, none⟩)) (some (.int .u64 (p : Int))) none none) w = .ok (.slice (some ⟨r, 8 + p, none⟩) (64 - p) (64 - p)) w := by
  rw [run_sliceAt_array_l w 41 _ und48 .u64 _ (by omega) (by rw [len48]; omega), el48]
  simp only [Result.andThen, slicedAt, len48, Int.toNat_natCast]
  rw [if_neg (by omega), add_mid', Nat.mul_one]

/-- The first words of a state, and that its cells may be written. -/
theorem Blk.state8 {w : World} {g : Nat} {v0 v1 v2 v3 v4 v5 v6 v7 : UInt32} {R : List UInt8} {c : Nat} {t : TypeId} (b : Blk w g (staw [v0, v1, v2, v3, v4, v5, v6, v7] R c) t) :
    w.cell? ⟨g, 0, none⟩ = some (.int .u32 (v0.toNat : Int)) ∧ w.cell? ⟨g, 1, none⟩ = some (.int .u32 (v1.toNat : Int)) ∧ w.cell? ⟨g, 2, none⟩ = some (.int .u32 (v2.toNat : Int)) ∧ w.cell? ⟨g, 3, none⟩ = some (.int .u32 (v3.toNat : Int)) ∧
      w.cell? ⟨g, 4, none⟩ = some (.int .u32 (v4.toNat : Int)) ∧ w.cell? ⟨g, 5, none⟩ = some (.int .u32 (v5.toNat : Int)) ∧ w.cell? ⟨g, 6, none⟩ = some (.int .u32 (v6.toNat : Int)) ∧ w.cell? ⟨g, 7, none⟩ = some (.int .u32 (v7.toNat : Int)) ∧
      w.frozen? ⟨g, 0, none⟩ = false ∧ w.frozen? ⟨g, 1, none⟩ = false ∧ w.frozen? ⟨g, 2, none⟩ = false ∧ w.frozen? ⟨g, 3, none⟩ = false ∧ w.frozen? ⟨g, 4, none⟩ = false ∧ w.frozen? ⟨g, 5, none⟩ = false ∧ w.frozen? ⟨g, 6, none⟩ = false ∧ w.frozen? ⟨g, 7, none⟩ = false :=
  ⟨b.cell 0, b.cell 1, b.cell 2, b.cell 3, b.cell 4, b.cell 5, b.cell 6, b.cell 7, b.free 0, b.free 1, b.free 2, b.free 3, b.free 4, b.free 5, b.free 6, b.free 7⟩
theorem Blk.rest8 {w : World} {g : Nat} {S T : List UInt32} {R : List UInt8} {c : Nat} {t : TypeId} (b : Blk w g (staw S R c) t) (hS : S.length = 8) (hT : T.length = 8) (hR : R.length = 64) : Blk (w.setCells g 0 (ws T)) g (staw T R c) t := by
  have := b.sets (ws T) 0 (by rw [staw_length hS hR, ws_length]; omega)
  rw [staw_sum hS hT] at this
  exact this

theorem copied_sta {w w1 : World} {r p q : Nat} {M L : List UInt8} {t : TypeId} (h : Copied w w1 r (8 + p) q (sta M) L t) (hp : M.length % 64 = p) (hq : q ≤ L.length) (hpq : p + q ≤ 64) : Blk w1 r (staw (tks M (M.length / 64)) (mixd M (L.take q)) M.length) t := by
  have hl : (L.take q).length = q := by rw [List.length_take]; omega
  have b := h.blk
  have e := staw_copy (x := L.take q) (tks_length M (M.length / 64)) (rst_length M) M.length p (by omega)
  rw [hl] at e
  rw [sta_eq, e] at b
  unfold mixd
  rw [hp, hl]
  exact b

/-- The 64 cells from a place on, where they are all there. -/
noncomputable def row64 (w : World) (b o : Nat) : Option (Array Value) :=
  if ∀ j, j < 64 → (w.cell? ⟨b, o + j, none⟩).isSome = true then some ((List.range 64).map fun j => (w.cell? ⟨b, o + j, none⟩).getD undef).toArray else none
noncomputable def farLd (w : World) (b o : Nat) : Result Value := Sem.run Tryd.prog (Instr.loadAt 41 (.pointer (some ⟨b, o, none⟩))) w
theorem ld_rule (w : World) (b o : Nat) : Sem.run Tryd.prog (Instr.loadAt 41 (.pointer (some ⟨b, o, none⟩))) w = match row64 w b o with | some c => .ok (.agg c) w | none => farLd w b o := by
  unfold row64
  split
  · rename_i c hc
    split at hc
    · rename_i h
      simp only [Option.some.injEq] at hc
      subst hc
      refine run_loadAt_mid w b o 41 _ _ (fun j v hv => ?_) Tryd.underlying41 rfl (by rw [size48]; simp)
      have hj : j < 64 := by
        have := (List.getElem?_eq_some_iff.1 hv).1
        simpa using this
      have e := h j hj
      obtain ⟨u, hu⟩ := Option.isSome_iff_exists.1 e
      simp [hj, hu] at hv
      rw [hu, hv]
    · simp at hc
  · rfl
noncomputable def ld48 (x : Value) : Sem Value := Instr.loadAt 41 x
theorem ld48_in (x : Value) : Instr.loadAt 41 x = ld48 x := rfl
theorem ld48_run (w : World) (b o : Nat) : Sem.run Tryd.prog (ld48 (.pointer (some ⟨b, o, none⟩))) w = match row64 w b o with | some c => .ok (.agg c) w | none => farLd w b o := ld_rule w b o
theorem row64_drew (w : World) (b o : Nat) : row64 w.drew b o = row64 w b o := rfl
theorem row64_of {w : World} {b o : Nat} {c : List Value} (h : w.rangeAt b o c) (hc : c.length = 64) : row64 w b o = some c.toArray := by
  have hs : ∀ j, j < 64 → w.cell? ⟨b, o + j, none⟩ = c[j]? := fun j hj => by
    rw [h j c[j] (List.getElem?_eq_getElem (by omega)), List.getElem?_eq_getElem]
  unfold row64
  rw [if_pos (fun j hj => by rw [hs j hj, List.getElem?_eq_getElem (by omega)]; rfl)]
  congr 2
  apply List.ext_getElem
  · simp [hc]
  · intro j h1 h2
    simp only [List.getElem_map, List.getElem_range]
    rw [hs j (by omega), List.getElem?_eq_getElem h2]
    rfl

theorem Kon.but {w w' : World} (h : Kon w) {r : Nat} (g : w.grownBy w' (some r)) (hr : 0 < r) : Kon w' := fun j v hv => by
  rw [World.cell?_of_block (w := w) (g.block 0 h.lt (by simp; omega))]
  exact h j v hv

attribute [local go_sem ↓] ld48_in
attribute [local go_sem] ld48_run row64_drew
set_option maxRecDepth 100000 in
set_option maxHeartbeats 2000000 in
theorem oWrite (w : World) (hK : Kon w) (r : Nat) (m : List UInt8) (hS : Sta w r m) {a : Option Addr} {n c : Nat} {l : List UInt8} (ha : Bs w a n c l) (hr0 : 0 < r) (hne : 0 < n → ∀ x, a = some x → x.block ≠ r) (hm : m.length + l.length ≤ 1000000) :
    Calls Tryd.prog 22 #[.pointer (some ⟨r, 0, none⟩), .slice a n c] w fun e w' => e = .returned (.tuple #[]) ∧ Sta w' r (m ++ l) ∧ w.grownBy w' (some r) := by
  have hn := ha.len
  subst hn
  have HM : Hid (m.length + l.length ≤ 1000000) := hm
  clear hm
  go_enter Tryd.func22, Tryd.ntmps22
  go_wp2_with fail
  go_loopw [1, 4] (fun sb _ wr => ∃ (M L : List UInt8) (a' : Option Addr) (c' : Nat), sb = .slice a' L.length c' ∧ Bs wr a' L.length c' L ∧ (0 < L.length → ∀ x, a' = some x → x.block ≠ r) ∧ Sta wr r M ∧ M ++ L = m ++ l ∧ w.grownBy wr (some r)) (fun sb _ _ => lenV sb)
  case atStart => exact ⟨m, l, a, c, rfl, ha, hne, hS, rfl, but_refl w r⟩
  case round =>
    clear ha hne hS
    obtain ⟨M, L, a', c', rfl, hB, hne, hS, hML, hby⟩ := hrel
    have hlen : M.length + L.length ≤ 1000000 := by
      have e := congrArg List.length hML
      rw [List.length_append, List.length_append] at e
      have := HM.out
      omega
    have HML : Hid (M ++ L = m ++ l) := hML
    clear hML
    by_cases h0 : L.length = 0
    · have e : L = [] := List.length_eq_zero_iff.1 h0
      subst e
      go_wp2
      go_end0
      rw [List.append_nil] at HML
      exact ⟨rfl, by rw [← HML.out]; exact hS, hby⟩
    · replace hne := hne (by omega)
      obtain ⟨p, hp⟩ : ∃ p, M.length % 64 = p := ⟨_, rfl⟩
      have hp64 : p < 64 := by omega
      have hpi : ((M.length : Nat) : Int) % 64 = (p : Int) := by omega
      have hpt : ((M.length : Nat) : Int).tmod 64 = (p : Int) := by rw [Int.tmod_eq_emod_of_nonneg (by omega)]; omega
      have hp0 : (0 : Int) ≤ (p : Int) := by omega
      have hp1 : (p : Int) < 64 := by omega
      have hL0 : (0 : Int) < (L.length : Int) := by omega
      have hcut := cutR r p hp64
      obtain ⟨q, hq⟩ : ∃ q, q = Nat.min L.length (64 - p) := ⟨_, rfl⟩
      have hq1 : 0 < q ∧ q ≤ L.length ∧ p + q ≤ 64 := by
        have e := Nat.min_def (n := L.length) (m := 64 - p)
        rw [hq]
        show 0 < min L.length (64 - p) ∧ min L.length (64 - p) ≤ L.length ∧ p + min L.length (64 - p) ≤ 64
        omega
      have c72 := hS.count
      have HQ : Hid (q = Nat.min L.length (64 - p)) := hq
      have HP : Hid (M.length % 64 = p) := hp
      clear hq hp
      go_wp2_with fail
      go_region_held3 (fun w' => w'.cell? ⟨r, 72, none⟩ = some (.int .u64 (M.length : Int))) (first | assumption | go_keep)
        ((refine step_cp (by rfl) (.tmp 16) (.tmp 17) (by rfl) r (8 + p) (64 - p) (64 - p) (by rfl) a' L.length c' (by rfl) L hB.drew (sta M) _ (Blk.dr hS) q HQ.out (by have := staw_length (tks_length M (M.length / 64)) (rst_length M) M.length; rw [← sta_eq] at this; omega) hq1.1 ?_; intro w1 hc1; have b1 : Blk w1 r (staw (tks M (M.length / 64)) (mixd M (L.take q)) M.length) 63 := copied_sta hc1 HP.out (by omega) (by omega)
          have c72' : w1.cell? ⟨r, 72, none⟩ = some (.int .u64 (M.length : Int)) := by rw [b1.cell]; exact staw_at (tks_length _ _) (mixd_length (by rw [List.length_take, HP.out]; omega)) _))
      obtain ⟨a2, c2, hcl, hB2, hbk⟩ := hB.cutLow q (by omega)
      have g1 : wr.grownBy w1 (some r) := but_trans (but_drew (but_refl wr r)) hc1.by_
      have f72 := b1.free 72
      have hq0 : (0 : Int) ≤ (q : Int) := by omega
      have hq2 : (q : Int) ≤ 1000000 := by omega
      have hM2 : ((M.length : Nat) : Int) ≤ 1000000 := by omega
      have hxl : (L.take q).length = q := by rw [List.length_take]; omega
      have hmx : (mixd M (L.take q)).length = 64 := mixd_length (by rw [hxl, HP.out]; omega)
      have b2 : Blk (w1.setCell ⟨r, 72, none⟩ (.int .u64 (((M.length : Nat) : Int) + (q : Int)))) r (staw (tks M (M.length / 64)) (mixd M (L.take q)) (M.length + q)) 63 := by
        have := b1.setC 72 (.int .u64 ((M.length + q : Nat) : Int))
        rw [staw_count (tks_length _ _) hmx] at this
        exact this
      have gW := but_trans g1 (but_set w1 r 72 (.int .u64 (((M.length : Nat) : Int) + (q : Int))))
      have HX : Hid ((L.take q).length = q) := hxl
      have HMX : Hid ((mixd M (L.take q)).length = 64) := hmx
      clear hxl hmx
      have hne2 : ∀ x, a2 = some x → x.block ≠ r := fun x hx => by
        obtain ⟨y, hy, e⟩ := hbk x hx
        rw [e]
        exact hne y hy
      by_cases hfull : p + q = 64
      · have hz : (((M.length : Nat) : Int) + (q : Int)) % 64 = 0 := by have := HP.out; omega
        go_wp2_with fail
        obtain ⟨w2, hw2⟩ : ∃ w2, w2 = w1.setCell ⟨r, 72, none⟩ (.int .u64 (((M.length : Nat) : Int) + (q : Int))) := ⟨_, rfl⟩
        rw [← hw2] at b2 gW
        rw [← hw2]
        clear hw2 b1 c72 c72' f72 g1 hc1
        have HT : Hid ((tks M (M.length / 64)).length = 8) := tks_length _ _
        obtain ⟨v0, v1, v2, v3, v4, v5, v6, v7, hv⟩ := ws_len8 HT.out
        obtain ⟨r0, r1, r2, r3, r4, r5, r6, r7, hr⟩ := ws_len8 (tk_length HT.out (mixd M (L.take q)))
        have CT : Hid (∀ w, Kon w → Calls Tryd.prog 34 #[.agg #[.int .u32 (v0.toNat : Int), .int .u32 (v1.toNat : Int), .int .u32 (v2.toNat : Int), .int .u32 (v3.toNat : Int), .int .u32 (v4.toNat : Int), .int .u32 (v5.toNat : Int), .int .u32 (v6.toNat : Int), .int .u32 (v7.toNat : Int)], .agg (cs (mixd M (L.take q))).toArray] w fun e w' => e = .returned (.agg #[.int .u32 (r0.toNat : Int), .int .u32 (r1.toNat : Int), .int .u32 (r2.toNat : Int), .int .u32 (r3.toNat : Int), .int .u32 (r4.toNat : Int), .int .u32 (r5.toNat : Int), .int .u32 (r6.toNat : Int), .int .u32 (r7.toNat : Int)]) ∧ Below w.heap.size w w') := fun w hK => by
          have := oTake w hK _ _ HT.out HMX.out
          rw [hr, hv] at this
          exact this
        have HR : Hid (tk (tks M (M.length / 64)) (mixd M (L.take q)) = [r0, r1, r2, r3, r4, r5, r6, r7]) := hr
        rw [hv] at b2
        clear hr hv
        obtain ⟨q0, q1, q2, q3, q4, q5, q6, q7, p0, p1', p2, p3, p4, p5, p6, p7⟩ := b2.state8
        have hrow : row64 w2 r 8 = some (cs (mixd M (L.take q))).toArray := row64_of (b2.range 8 _ (fun j v hj => staw_range rfl _ j v hj)) (by rw [cs_length, HMX.out])
        have hK2 : Kon w2.drew := hK.but (but_drew (but_trans hby gW)) hr0
        go_region_with (go_at_call 34; refine (CT.out w2.drew hK2).mono ?_; rintro e w3 ⟨rfl, hb3⟩; have b3 := b2.dr.below hb3 b2.lt; obtain ⟨q0', q1', q2', q3', q4', q5', q6', q7', p0', p1'', p2', p3', p4', p5', p6', p7'⟩ := b3.state8)
        all_goals
          have b4 := b3.rest8 (T := [r0, r1, r2, r3, r4, r5, r6, r7]) rfl rfl HMX.out
          have g3 : wr.grownBy (w3.setCells r 0 (ws [r0, r1, r2, r3, r4, r5, r6, r7])) (some r) := but_sets _ (but_trans (but_drew gW) (but_of_below hb3)) 0
          obtain ⟨w4, hw4⟩ : ∃ w4, w3.setCells r 0 (ws [r0, r1, r2, r3, r4, r5, r6, r7]) = w4 := ⟨_, rfl⟩
          have hE : ((((((((w3.setCell ⟨r, 0, none⟩ (.int .u32 (r0.toNat : Int))).setCell ⟨r, 1, none⟩ (.int .u32 (r1.toNat : Int))).setCell ⟨r, 2, none⟩ (.int .u32 (r2.toNat : Int))).setCell ⟨r, 3, none⟩ (.int .u32 (r3.toNat : Int))).setCell ⟨r, 4, none⟩ (.int .u32 (r4.toNat : Int))).setCell ⟨r, 5, none⟩ (.int .u32 (r5.toNat : Int))).setCell ⟨r, 6, none⟩ (.int .u32 (r6.toNat : Int))).setCell ⟨r, 7, none⟩ (.int .u32 (r7.toNat : Int))) = w4 := hw4
          rw [hw4] at b4 g3
          rw [hE]
          clear hE hw4 b3 q0' q1' q2' q3' q4' q5' q6' q7' p0' p1'' p2' p3' p4' p5' p6' p7' q0 q1 q2 q3 q4 q5 q6 q7 p0 p1' p2 p3 p4 p5 p6 p7 hrow
          have th4 : w4.there r 8 64 := b4.there 8 64 (by rw [staw_length rfl HMX.out]; omega)
          go_wp2_with (first
            | (with_reducible refine at_bd 41 ?_; refine bd 41 #[] [] (cs z64).toArray rfl built48 ?_)
            | (with_reducible refine at_st 41 ?_; refine st 41 (.tmp 52) (.tmp 50) 64 size48 r 8 (cs z64) cz64 cs_one th4 rfl rfl ?_))
          simp only [Act.put]
          go_roundw
          case rel =>
            have b5 := b4.sets (cs z64) 8 (by rw [staw_length rfl HMX.out, cz64]; omega)
            rw [staw_rest rfl HMX.out z64_length] at b5
            have g5 := but_sets (cs z64) g3 8
            refine ⟨M ++ L.take q, L.drop q, a2, c2, by rw [List.length_drop], ?_, fun _ => hne2, ?_, ?_, but_trans hby g5⟩
            · rw [List.length_drop]
              exact hB2 _ (hB.but g5 hne)
            · have e := step_full (m := M) (x := L.take q) (by rw [HX.out, HP.out]; omega)
              rw [HX.out, HR.out] at e
              unfold Sta
              rw [← e]
              exact b5
            · rw [List.append_assoc, List.take_append_drop]
              exact HML.out
          case measure => simp [lenV]; omega
      · have hz : ¬ (((M.length : Nat) : Int) + (q : Int)) % 64 = 0 := by have := HP.out; omega
        have hzb : ((((M.length : Nat) : Int) + (q : Int)) % 64 == 0) = false := by simpa using hz
        go_wp2_with fail
        go_roundw
        case rel =>
          refine ⟨M ++ L.take q, L.drop q, a2, c2, by rw [List.length_drop], ?_, fun _ => hne2, ?_, ?_, but_trans hby gW⟩
          · rw [List.length_drop]
            exact hB2 _ (hB.but gW hne)
          · have e := step_part (m := M) (x := L.take q) (by rw [HX.out, HP.out]; omega)
            rw [HX.out] at e
            unfold Sta
            rw [← e]
            exact b2
          · rw [List.append_assoc, List.take_append_drop]
            exact HML.out
        case measure => simp [lenV]; omega

end Go.Proofs.YtpmdjailpdajkaaDoor
